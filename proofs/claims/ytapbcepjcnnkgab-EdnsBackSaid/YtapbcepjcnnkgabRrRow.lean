/- Rows of structs of the call's own, and what a sort leaves. Nothing of the program. -/
import Derived.Test.YtapbcepjcnnkgabRrMem
import Derived.Test.YtapbcepjcnnkgabFlat
namespace Go.Proofs.Ytapbcepjcnnkgab
open Go.RowKit Go.Sort Go.Shelf

/-- all cells of structs, one behind the other. -/
def fl {α : Type} (enc : α → List Value) (xs : List α) : List Value := xs.flatMap enc
section
variable {α : Type} {enc : α → List Value} {k : Nat}
theorem fl_append (xs ys : List α) : fl enc (xs ++ ys) = fl enc xs ++ fl enc ys := by simp [fl]
theorem fl_one (x : α) : fl enc [x] = enc x := by simp [fl]
theorem fl_len (hk : ∀ x, (enc x).length = k) : ∀ xs : List α, (fl enc xs).length = xs.length * k
  | [] => by simp [fl]
  | x :: r => by
    have := fl_len hk r
    simp only [fl, List.flatMap_cons, List.length_append, hk, List.length_cons] at *
    rw [this, Nat.add_mul, Nat.one_mul, Nat.add_comm]
theorem fl_get (hk : ∀ x, (enc x).length = k) : ∀ (xs : List α) {j i : Nat} (hj : j < xs.length), i < k → (fl enc xs)[j * k + i]? = (enc xs[j])[i]?
  | x :: r, 0, i, _, hi => by
    simp only [fl, List.flatMap_cons, Nat.zero_mul, Nat.zero_add, List.getElem_cons_zero]
    rw [List.getElem?_append_left (by rw [hk]; exact hi)]
  | x :: r, j + 1, i, hj, hi => by
    have := fl_get hk r (j := j) (i := i) (by simpa using hj) hi
    simp only [fl, List.flatMap_cons, List.getElem_cons_succ] at *
    rw [List.getElem?_append_right (by rw [hk, Nat.add_mul, Nat.one_mul]; omega), hk, ← this]
    congr 1
    rw [Nat.add_mul, Nat.one_mul]
    omega
theorem fl_flatK [Inhabited α] (hk : ∀ x, (enc x).length = k) (d : Array α) : (flatK enc k d).toList = fl enc d.toList := by
  apply List.ext_getElem?
  intro t
  by_cases ht : t < d.size * k
  · have h0 : 0 < k := by
      rcases Nat.eq_zero_or_pos k with h | h
      · subst h; simp at ht
      · exact h
    have hi : t / k < d.size := Nat.div_lt_of_lt_mul (by rw [Nat.mul_comm]; exact ht)
    have hm : t % k < k := Nat.mod_lt _ h0
    have e : t / k * k + t % k = t := by rw [Nat.mul_comm]; exact Nat.div_add_mod t k
    have h1 := flat_at hk d hi hm
    have h2 := fl_get hk d.toList (j := t / k) (i := t % k) (by simpa using hi) hm
    rw [e] at h1 h2
    rw [Array.getElem?_toList, h1, h2]
    simp
  · rw [List.getElem?_eq_none (by simp; omega), List.getElem?_eq_none (by rw [fl_len hk]; simp; omega)]
end
/-- a row of structs of the call's own. -/
abbrev Own {α : Type} (enc : α → List Value) (k : Nat) (w : World) (base : Nat) (e : TypeId) (v : Value) (xs : List α) : Prop := w.ownsRow base e k v xs.length (fl enc xs)
section
variable {α : Type} {enc : α → List Value} {k : Nat} {w w' : World} {base B : Nat} {e : TypeId} {v : Value} {xs : List α}
theorem ownK_form {n : Nat} {ys : List Value} (h : w.ownsRow base e k v n ys) : ∃ ad cp, v = .slice ad n cp ∧ n ≤ cp := by
  rcases h.2 with ⟨rfl, h0⟩ | ⟨g', cap, cur, rfl, _, _, hc, _⟩
  · exact ⟨none, 0, by rw [h0], by omega⟩
  · exact ⟨_, _, rfl, hc⟩
theorem ownK_pos {n : Nat} {ys : List Value} (h : w.ownsRow base e k v n ys) (hn : 0 < n) : ∃ g cp cur, v = .slice (some ⟨g, 0, none⟩) n cp ∧ n ≤ cp ∧ base ≤ g ∧ g < w.heap.size ∧ w.heap[g]? = some (.cells cur e (0, 0)) ∧ cur.toList.take (n * k) = ys := by
  rcases h.2 with ⟨rfl, h0⟩ | ⟨g', cap, cur, rfl, hb, hg, hc, _, _, ht⟩
  · omega
  · exact ⟨g', cap, cur, rfl, hc, hb, (Array.getElem?_eq_some_iff.1 hg).1, hg, ht⟩
theorem ownK_below {n : Nat} {ys : List Value} (h : w.ownsRow base e k v n ys) (hb : Below B w w') (hB : w.heap.size ≤ B) : w'.ownsRow base e k v n ys := own_below h hb hB
theorem take_at {cur : Array Value} {n : Nat} {ys : List Value} (ht : cur.toList.take n = ys) {i : Nat} {u : Value} (hu : ys[i]? = some u) : cur[i]? = some u := by
  subst ht
  rw [List.getElem?_take] at hu
  split at hu
  · rwa [Array.getElem?_toList] at hu
  · cases hu
theorem Own.srow (hk : ∀ x, (enc x).length = k) (h : Own enc k w base e v xs) : ∃ A c, v = .slice A xs.length c ∧ xs.length ≤ c ∧ Srow enc k w base w.heap.size A xs := by
  rcases Nat.eq_zero_or_pos xs.length with h0 | h0
  · obtain ⟨ad, cp, hv, hc⟩ := ownK_form h
    exact ⟨ad, cp, hv, hc, fun h1 => by omega⟩
  · obtain ⟨g, cp, cur, hv, hc, hb, hlt, hg, ht⟩ := ownK_pos h h0
    refine ⟨_, cp, hv, hc, fun _ => ⟨g, 0, rfl, hb, hlt, fun j hj i u hu => ?_⟩⟩
    have hi : i < k := by rw [← hk xs[j]]; exact (List.getElem?_eq_some_iff.1 hu).1
    rw [cell_of_row w g _ cur e (0, 0) hg, Nat.zero_add]
    exact take_at ht (by rw [fl_get hk xs hj hi, hu])
theorem Own.holds [Inhabited α] (hk : ∀ x, (enc x).length = k) {g n c : Nat} (h : Own enc k w base e (.slice (some ⟨g, 0, none⟩) n c) xs) (h0 : 0 < xs.length) : HoldsK enc k w g 0 xs.toArray := by
  obtain ⟨g', cp, cur, hv, hc, hb, hlt, hg, ht⟩ := ownK_pos h h0
  injection hv with hv _ _
  injection hv with hv
  injection hv with hv
  subst hv
  intro j hj
  have hf := fl_flatK hk xs.toArray
  refine ⟨?_, frozen_of_row w g _ cur e hg⟩
  rw [cell_of_row w g _ cur e (0, 0) hg, Nat.zero_add, getElem!_pos _ j hj]
  refine take_at ht ?_
  rw [show fl enc xs = (flatK enc k xs.toArray).toList from hf.symm, Array.getElem?_toList, Array.getElem?_eq_getElem hj]
  rfl
theorem holds_srow [Inhabited α] (hk : ∀ x, (enc x).length = k) {g : Nat} {d : Array α} (h : HoldsK enc k w g 0 d) {lo hi : Nat} (h1 : lo ≤ g) (h2 : g < hi) : Srow enc k w lo hi (some ⟨g, 0, none⟩) d.toList := fun _ =>
  ⟨g, 0, rfl, h1, h2, fun j hj i u hu => by
    have hj' : j < d.size := by simpa using hj
    have hi : i < k := by rw [← hk d.toList[j]]; exact (List.getElem?_eq_some_iff.1 hu).1
    have hlt : j * k + i < (flatK enc k d).size := by
      rw [size_flatK]
      have : (j + 1) * k ≤ d.size * k := Nat.mul_le_mul_right k hj'
      rw [Nat.add_mul, Nat.one_mul] at this
      omega
    have hc := (h (j * k + i) hlt).1
    rw [Nat.zero_add] at hc ⊢
    rw [hc, getElem!_pos (flatK enc k d) _ hlt]
    have := flat_at hk d hj' hi
    rw [Array.getElem?_eq_getElem hlt] at this
    rw [← hu, Array.getElem_toList, ← this]
    rfl⟩
/-- what a sort leaves. -/
theorem sorted_holds [Inhabited α] {g n : Nat} {d d' : Array α} {os : Array Obj} (h : HoldsK enc k w g 0 d) (hg : g < w.heap.size) (hs : d'.size = d.size) (hw : w' = sortWorldK enc k w g 0 n d' os) : HoldsK enc k w' g 0 d' ∧ w.grownBy w' (some g) := by
  subst hw
  refine ⟨holdsK_sortWorldK_c enc k w g 0 d d' n os h hg hs, ⟨rfl, rfl, rfl, size_sortWorldK_c enc k w g 0 n d' os, fun i hi hne => ?_⟩⟩
  unfold sortWorldK grow putRowK putRow mapBlock Go.Sort.ahead
  simp only [Array.getElem?_append, Array.size_modify, Array.getElem?_modify]
  rw [if_pos hi, if_neg (fun e => hne (by rw [e]))]
end
end Go.Proofs.Ytapbcepjcnnkgab
