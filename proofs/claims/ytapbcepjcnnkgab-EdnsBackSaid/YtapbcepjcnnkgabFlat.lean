/- Rows of structs in a block of their own: each of k cells; read, stored into, sorted. Nothing of the program. -/
import Derived.Test.YtapbcepjcnnkgabMem
import Derived.Test.YtapbcepjcnnkgabDrawn
import Derived.Deep.MidRow
import Derived.Laws.CopyRow
import Derived.Shelf.SlSortCmp.NoneTotal
namespace Go.Proofs.Ytapbcepjcnnkgab
open Go.RowKit Go.Sort Go.Shelf

section
variable {α : Type} [Inhabited α] {enc : α → List Value} {k : Nat} {w w' : World} {g : Nat} {t : TypeId}
theorem flat_at (hk : ∀ x, (enc x).length = k) (d : Array α) {i j : Nat} (hi : i < d.size) (hj : j < k) : (flatK enc k d)[i * k + j]? = (enc d[i])[j]? := by
  have h0 : 0 < k := by omega
  have hlt : i * k + j < d.size * k := by
    have : (i + 1) * k ≤ d.size * k := Nat.mul_le_mul_right k hi
    rw [Nat.add_mul, Nat.one_mul] at this
    omega
  have hd : (i * k + j) / k = i := by rw [Nat.mul_comm, Nat.mul_add_div h0, Nat.div_eq_of_lt hj, Nat.add_zero]
  have hm : (i * k + j) % k = j := by rw [Nat.mul_comm, Nat.mul_add_mod, Nat.mod_eq_of_lt hj]
  have h := get_flatK enc k d (i * k + j) hlt
  rw [hd, hm, getElem!_pos d i hi] at h
  have hs : i * k + j < (flatK enc k d).size := by simpa using hlt
  rw [getElem!_pos (flatK enc k d) _ hs, getElem!_pos (enc d[i]) j (by rw [hk]; exact hj)] at h
  rw [Array.getElem?_eq_getElem hs, h, List.getElem?_eq_getElem (by rw [hk]; exact hj)]
/-- an element's cells. -/
theorem row_at (hk : ∀ x, (enc x).length = k) {d : Array α} (h : Has w g t (flatK enc k d)) {i : Nat} (hi : i < d.size) : w.rangeAt g (i * k) (enc d[i]) := fun j v hj => by
  have hl : j < k := by rw [← hk d[i]]; exact (List.getElem?_eq_some_iff.1 hj).1
  rw [h.cell, flat_at hk d hi hl, hj]
theorem row_there (hk : ∀ x, (enc x).length = k) {d : Array α} (h : Has w g t (flatK enc k d)) {i : Nat} (hi : i < d.size) : w.there g (i * k) k := fun j hj => by
  refine ⟨?_, h.free _⟩
  rw [h.cell, flat_at hk d hi hj, List.getElem?_eq_getElem (by rw [hk]; exact hj)]
  rfl
theorem set_cells_row : ∀ (vs : List Value) (o : Nat) (F : Array Value) {w : World}, Has w g t F → w.setCells g o vs = w.setRow g (setMany F o vs)
  | [], o, F, w, h => by
    exact (setRow_self w g F t (0, 0) h).symm
  | v :: r, o, F, w, h => by
    rw [World.setCells, set_cells_row r (o + 1) _ (h.set o v), setCell_eq_setRow w g o F t (0, 0) v h, setRow_setRow]
    rfl
theorem row_set (hk : ∀ x, (enc x).length = k) {d : Array α} {i : Nat} (hi : i < d.size) (x : α) : setMany (flatK enc k d) (i * k) (enc x) = flatK enc k (d.setIfInBounds i x) := by
  refine ext_get! (by simp) fun u hu => ?_
  have hu' : u < d.size * k := by simpa using hu
  have k0 : 0 < k := by rcases Nat.eq_zero_or_pos k with h | h; · subst h; simp at hu'
                        · exact h
  rw [get_setMany _ _ _ u (by simpa using hu'), get_flatK _ _ _ u hu', get_flatK _ _ _ u (by simpa using hu'), hk]
  by_cases a : u / k = i
  · rw [if_pos ((blk_iff k i u k0).2 a), a, getElem!_set_same d i x hi]
    congr 1
    subst a
    rw [Nat.mod_eq_sub_div_mul]
  · rw [if_neg (fun h => a ((blk_iff k i u k0).1 h)), getElem!_set_other d i _ x a]
/-- an element stored. -/
theorem row_store (hk : ∀ x, (enc x).length = k) {d : Array α} (h : Has w g t (flatK enc k d)) {i : Nat} (hi : i < d.size) (x : α) : w.setCells g (i * k) (enc x) = w.setRow g (flatK enc k (d.setIfInBounds i x)) := by
  rw [set_cells_row _ _ _ h, row_set hk hi]
theorem row_holds {d : Array α} (h : Has w g t (flatK enc k d)) : HoldsK enc k w g 0 d := fun j hj => by
  refine ⟨?_, h.free _⟩
  rw [h.cell, Nat.zero_add, Array.getElem?_eq_getElem hj, getElem!_pos _ j hj]
  rfl
/-- what the sort leaves. -/
theorem row_sorted {d d' : Array α} {n : Nat} {os : Array Obj} (h : Has w g t (flatK enc k d)) (hs : d'.size = d.size) (hw : w' = sortWorldK enc k w g 0 n d' os) : Has w' g t (flatK enc k d') ∧ w.grownBy w' (some g) := by
  subst hw
  have hb : ∀ i, (sortWorldK enc k w g 0 n d' os).heap[i]? = if i < w.heap.size then (if i = g then some (.cells (flatK enc k d') t (0, 0)) else w.heap[i]?) else os[i - w.heap.size]? := fun i => by
    unfold sortWorldK grow putRowK putRow mapBlock Go.Sort.ahead
    simp only [Array.getElem?_append, Array.size_modify, Array.getElem?_modify]
    split
    · by_cases e : g = i
      · subst e
        rw [if_pos rfl, if_pos rfl, show w.heap[g]? = _ from h]
        simp only [Option.map_some, onCells, Option.some.injEq, Obj.cells.injEq, and_true]
        refine Array.ext (by simp [putCells, hs]) fun j h1 h2 => ?_
        simp only [putCells, Array.getElem_mapIdx, Nat.zero_le, true_and, Nat.zero_add, Nat.sub_zero]
        rw [if_pos (by simpa using h2), getElem!_pos _ j h2]
        rfl
      · rw [if_neg e, if_neg (fun e' => e e'.symm)]
    · rfl
  refine ⟨?_, ⟨rfl, rfl, rfl, ?_, fun i hi hne => ?_⟩⟩
  · show _ = _
    rw [hb, if_pos h.lt, if_pos rfl]
  · unfold sortWorldK grow putRowK putRow mapBlock Go.Sort.ahead
    simp
  · rw [hb, if_pos hi, if_neg (fun e => hne (by rw [e]))]
end
/-- a call that leaves what there was, and has drawn: the world is grown. -/
theorem grow_of {w w' : World} (h : Below w.heap.size w w') (hd : w.drawn ≤ w'.drawn) : ∃ q os, w' = grow (w.drewN q) os := by
  refine ⟨w'.drawn - w.drawn, w'.heap.extract w.heap.size w'.heap.size, ?_⟩
  have hh : w'.heap = w.heap ++ w'.heap.extract w.heap.size w'.heap.size := by
    refine Array.ext_getElem? fun i => ?_
    rw [Array.getElem?_append]
    split
    · rename_i hi; exact h.block i hi
    · rename_i hi
      rw [Array.getElem?_extract]
      split
      · congr 1; omega
      · rw [Array.getElem?_eq_none (by have := h.size; omega)]
  unfold grow World.drewN
  obtain ⟨heap, tape, drawn, os, out⟩ := w'
  obtain ⟨heap0, tape0, drawn0, os0, out0⟩ := w
  have e1 := h.os
  have e2 := h.tape
  have e3 := h.output
  simp only at *
  subst e1 e2 e3
  rw [← hh]
  congr 1
  omega
theorem swo_of {α : Type} {c : α → α → Int} (hc : ∀ a b, c a b = - c b a) (ht : ∀ a b d, c a b ≤ 0 → c b d ≤ 0 → c a d ≤ 0) : SWO (ltOf c) where
  irrefl x := by
    have := hc x x
    unfold ltOf
    simp
    omega
  trans x y z h1 h2 := by
    unfold ltOf at *
    simp only [decide_eq_true_eq] at *
    have n1 := hc x z
    have n2 := hc x y
    have n3 := hc y z
    have t1 := ht x y z (by omega) (by omega)
    have t2 := ht z x y
    omega
  ntrans x y z h1 h2 := by
    unfold ltOf at *
    simp only [decide_eq_false_iff_not] at *
    have n1 := hc x z
    have n2 := hc x y
    have n3 := hc y z
    have t1 := ht z y x (by omega) (by omega)
    omega
end Go.Proofs.Ytapbcepjcnnkgab
