/- Texts of the proofs, merged. -/
import Derived.Test.YtmieakkhpkclpaaDoorG2
import Derived.Test.YtmieakkhpkclpaaDoorG13
import Derived.Deep.MidRow
import Derived.Laws.CopyRow
import Derived.Shelf.SlSortCmp.NoneTotal
/- Rows of structs in a block of their own: each of k cells; read, stored into, sorted. Nothing of the program. -/
namespace Go.Proofs.YtmieakkhpkclpaaDoor
open Go.RowKit Go.Sort Go.Shelf

section
variable {α : Type} [Inhabited α] {enc : α → List Value} {k : Nat} {w w' : World} {g : Nat} {t : TypeId}
theorem flat_at (hk : ∀ x, (enc x).length = k) (d : Array α) {i j : Nat} (hi : i < d.size) (hj : j < k) : (flatK enc k d)[i * k + j]? = (enc d[i])[j]? := by
  have h0 : 0 < k := by omega
  have hlt : i * k + j < d.size * k := by
    have : (i + 1) * k ≤ d.size * k := Nat.mul_le_mul_right k hi
    rw [Nat.add_mul, Nat.one_mul] at this
    omega
  have hd : (i * k + j) / k = i := by rw [Nat.mul_comm, Nat.mul_add_div h0, Nat.div_eq_of_lt hj, Nat.add_zero]
  have hm : (i * k + j) % k = j := by rw [Nat.mul_comm, Nat.mul_add_mod, Nat.mod_eq_of_lt hj]
  have h := get_flatK enc k d (i * k + j) hlt
  rw [hd, hm, getElem!_pos d i hi] at h
  have hs : i * k + j < (flatK enc k d).size := by simpa using hlt
  rw [getElem!_pos (flatK enc k d) _ hs, getElem!_pos (enc d[i]) j (by rw [hk]; exact hj)] at h
  rw [Array.getElem?_eq_getElem hs, h, List.getElem?_eq_getElem (by rw [hk]; exact hj)]
/-- an element's cells. -/
theorem row_at (hk : ∀ x, (enc x).length = k) {d : Array α} (h : Has w g t (flatK enc k d)) {i : Nat} (hi : i < d.size) : w.rangeAt g (i * k) (enc d[i]) := fun j v hj => by
  have hl : j < k := by rw [← hk d[i]]; exact (List.getElem?_eq_some_iff.1 hj).1
  rw [h.cell, flat_at hk d hi hl, hj]
theorem row_there (hk : ∀ x, (enc x).length = k) {d : Array α} (h : Has w g t (flatK enc k d)) {i : Nat} (hi : i < d.size) : w.there g (i * k) k := fun j hj => by
  refine ⟨?_, h.free _⟩
  rw [h.cell, flat_at hk d hi hj, List.getElem?_eq_getElem (by rw [hk]; exact hj)]
  rfl
theorem set_cells_row : ∀ (vs : List Value) (o : Nat) (F : Array Value) {w : World}, Has w g t F → w.setCells g o vs = w.setRow g (setMany F o vs)
  | [], o, F, w, h => by
    exact (setRow_self w g F t (0, 0) h).symm
  | v :: r, o, F, w, h => by
    rw [World.setCells, set_cells_row r (o + 1) _ (h.set o v), setCell_eq_setRow w g o F t (0, 0) v h, setRow_setRow]
    rfl
theorem row_set (hk : ∀ x, (enc x).length = k) {d : Array α} {i : Nat} (hi : i < d.size) (x : α) : setMany (flatK enc k d) (i * k) (enc x) = flatK enc k (d.setIfInBounds i x) := by
  refine ext_get! (by simp) fun u hu => ?_
  have hu' : u < d.size * k := by simpa using hu
  have k0 : 0 < k := by rcases Nat.eq_zero_or_pos k with h | h; · subst h; simp at hu'
                        · exact h
  rw [get_setMany _ _ _ u (by simpa using hu'), get_flatK _ _ _ u hu', get_flatK _ _ _ u (by simpa using hu'), hk]
  by_cases a : u / k = i
  · rw [if_pos ((blk_iff k i u k0).2 a), a, getElem!_set_same d i x hi]
    congr 1
    subst a
    rw [Nat.mod_eq_sub_div_mul]
  · rw [if_neg (fun h => a ((blk_iff k i u k0).1 h)), getElem!_set_other d i _ x a]
/-- an element stored. -/
theorem row_store (hk : ∀ x, (enc x).length = k) {d : Array α} (h : Has w g t (flatK enc k d)) {i : Nat} (hi : i < d.size) (x : α) : w.setCells g (i * k) (enc x) = w.setRow g (flatK enc k (d.setIfInBounds i x)) := by
  rw [set_cells_row _ _ _ h, row_set hk hi]
theorem row_holds {d : Array α} (h : Has w g t (flatK enc k d)) : HoldsK enc k w g 0 d := fun j hj => by
  refine ⟨?_, h.free _⟩
  rw [h.cell, Nat.zero_add, Array.getElem?_eq_getElem hj, getElem!_pos _ j hj]
  rfl
/-- what the sort leaves. -/
theorem row_sorted {d d' : Array α} {n : Nat} {os : Array Obj} (h : Has w g t (flatK enc k d)) (hs : d'.size = d.size) (hw : w' = sortWorldK enc k w g 0 n d' os) : Has w' g t (flatK enc k d') ∧ w.grownBy w' (some g) := by
  subst hw
  have hb : ∀ i, (sortWorldK enc k w g 0 n d' os).heap[i]? = if i < w.heap.size then (if i = g then some (.cells (flatK enc k d') t (0, 0)) else w.heap[i]?) else os[i - w.heap.size]? := fun i => by
    unfold sortWorldK grow putRowK putRow mapBlock Go.Sort.ahead
    simp only [Array.getElem?_append, Array.size_modify, Array.getElem?_modify]
    split
    · by_cases e : g = i
      · subst e
        rw [if_pos rfl, if_pos rfl, show w.heap[g]? = _ from h]
        simp only [Option.map_some, onCells, Option.some.injEq, Obj.cells.injEq, and_true]
        refine Array.ext (by simp [putCells, hs]) fun j h1 h2 => ?_
        simp only [putCells, Array.getElem_mapIdx, Nat.zero_le, true_and, Nat.zero_add, Nat.sub_zero]
        rw [if_pos (by simpa using h2), getElem!_pos _ j h2]
        rfl
      · rw [if_neg e, if_neg (fun e' => e e'.symm)]
    · rfl
  refine ⟨?_, ⟨rfl, rfl, rfl, ?_, fun i hi hne => ?_⟩⟩
  · show _ = _
    rw [hb, if_pos h.lt, if_pos rfl]
  · unfold sortWorldK grow putRowK putRow mapBlock Go.Sort.ahead
    simp
  · rw [hb, if_pos hi, if_neg (fun e => hne (by rw [e]))]
end
/-- a call that leaves what there was, and has drawn: the world is grown. -/
theorem grow_of {w w' : World} (h : Below w.heap.size w w') (hd : w.drawn ≤ w'.drawn) : ∃ q os, w' = grow (w.drewN q) os := by
  refine ⟨w'.drawn - w.drawn, w'.heap.extract w.heap.size w'.heap.size, ?_⟩
  have hh : w'.heap = w.heap ++ w'.heap.extract w.heap.size w'.heap.size := by
    refine Array.ext_getElem? fun i => ?_
    rw [Array.getElem?_append]
    split
    · rename_i hi; exact h.block i hi
    · rename_i hi
      rw [Array.getElem?_extract]
      split
      · congr 1; omega
      · rw [Array.getElem?_eq_none (by have := h.size; omega)]
  unfold grow World.drewN
  obtain ⟨heap, tape, drawn, os, out⟩ := w'
  obtain ⟨heap0, tape0, drawn0, os0, out0⟩ := w
  have e1 := h.os
  have e2 := h.tape
  have e3 := h.output
  simp only at *
  subst e1 e2 e3
  rw [← hh]
  congr 1
  omega
theorem swo_of {α : Type} {c : α → α → Int} (hc : ∀ a b, c a b = - c b a) (ht : ∀ a b d, c a b ≤ 0 → c b d ≤ 0 → c a d ≤ 0) : SWO (ltOf c) where
  irrefl x := by
    have := hc x x
    unfold ltOf
    simp
    omega
  trans x y z h1 h2 := by
    unfold ltOf at *
    simp only [decide_eq_true_eq] at *
    have n1 := hc x z
    have n2 := hc x y
    have n3 := hc y z
    have t1 := ht x y z (by omega) (by omega)
    have t2 := ht z x y
    omega
  ntrans x y z h1 h2 := by
    unfold ltOf at *
    simp only [decide_eq_false_iff_not] at *
    have n1 := hc x z
    have n2 := hc x y
    have n3 := hc y z
    have t1 := ht z y x (by omega) (by omega)
    omega
end Go.Proofs.YtmieakkhpkclpaaDoor
/- Rows of structs of the call's own, and append on them: where the new row lies. Nothing of the program. -/
namespace Go.Proofs.YtmieakkhpkclpaaDoor
open Go.RowKit

/-- all cells of structs, one behind the other. -/
def fl {α : Type} (enc : α → List Value) (xs : List α) : List Value := xs.flatMap enc
section
variable {α : Type} {enc : α → List Value} {k : Nat}
theorem fl_append (xs ys : List α) : fl enc (xs ++ ys) = fl enc xs ++ fl enc ys := by simp [fl]
theorem fl_one (x : α) : fl enc [x] = enc x := by simp [fl]
theorem fl_len (hk : ∀ x, (enc x).length = k) : ∀ xs : List α, (fl enc xs).length = xs.length * k
  | [] => by simp [fl]
  | x :: r => by
    have := fl_len hk r
    simp only [fl, List.flatMap_cons, List.length_append, hk, List.length_cons] at *
    rw [this, Nat.add_mul, Nat.one_mul, Nat.add_comm]
theorem fl_get (hk : ∀ x, (enc x).length = k) : ∀ (xs : List α) {j i : Nat} (hj : j < xs.length), i < k → (fl enc xs)[j * k + i]? = (enc xs[j])[i]?
  | x :: r, 0, i, _, hi => by
    simp only [fl, List.flatMap_cons, Nat.zero_mul, Nat.zero_add, List.getElem_cons_zero]
    rw [List.getElem?_append_left (by rw [hk]; exact hi)]
  | x :: r, j + 1, i, hj, hi => by
    have := fl_get hk r (j := j) (i := i) (by simpa using hj) hi
    simp only [fl, List.flatMap_cons, List.getElem_cons_succ] at *
    rw [List.getElem?_append_right (by rw [hk, Nat.add_mul, Nat.one_mul]; omega), hk, ← this]
    congr 1
    rw [Nat.add_mul, Nat.one_mul]
    omega
end
/-- a row of structs of the call's own. -/
abbrev Own {α : Type} (enc : α → List Value) (k : Nat) (w : World) (base : Nat) (e : TypeId) (v : Value) (xs : List α) : Prop := w.ownsRow base e k v xs.length (fl enc xs)
section
variable {α : Type} {enc : α → List Value} {k : Nat} {w w' : World} {base B : Nat} {e : TypeId} {v : Value} {xs : List α}
theorem ownK_form {n : Nat} {ys : List Value} (h : w.ownsRow base e k v n ys) : ∃ ad cp, v = .slice ad n cp ∧ n ≤ cp := by
  rcases h.2 with ⟨rfl, h0⟩ | ⟨g', cap, cur, rfl, _, _, hc, _⟩
  · exact ⟨none, 0, by rw [h0], by omega⟩
  · exact ⟨_, _, rfl, hc⟩
theorem ownK_pos {n : Nat} {ys : List Value} (h : w.ownsRow base e k v n ys) (hn : 0 < n) : ∃ g cp cur, v = .slice (some ⟨g, 0, none⟩) n cp ∧ n ≤ cp ∧ base ≤ g ∧ g < w.heap.size ∧ w.heap[g]? = some (.cells cur e (0, 0)) ∧ cur.toList.take (n * k) = ys := by
  rcases h.2 with ⟨rfl, h0⟩ | ⟨g', cap, cur, rfl, hb, hg, hc, _, _, ht⟩
  · omega
  · exact ⟨g', cap, cur, rfl, hc, hb, (Array.getElem?_eq_some_iff.1 hg).1, hg, ht⟩
theorem ownK_below {n : Nat} {ys : List Value} (h : w.ownsRow base e k v n ys) (hb : Below B w w') (hB : w.heap.size ≤ B) : w'.ownsRow base e k v n ys := own_below h hb hB
theorem take_at {cur : Array Value} {n : Nat} {ys : List Value} (ht : cur.toList.take n = ys) {i : Nat} {u : Value} (hu : ys[i]? = some u) : cur[i]? = some u := by
  subst ht
  rw [List.getElem?_take] at hu
  split at hu
  · rwa [Array.getElem?_toList] at hu
  · cases hu
theorem Own.srow (hk : ∀ x, (enc x).length = k) (h : Own enc k w base e v xs) : ∃ A c, v = .slice A xs.length c ∧ xs.length ≤ c ∧ Srow enc k w base w.heap.size A xs := by
  rcases Nat.eq_zero_or_pos xs.length with h0 | h0
  · obtain ⟨ad, cp, hv, hc⟩ := ownK_form h
    exact ⟨ad, cp, hv, hc, fun h1 => by omega⟩
  · obtain ⟨g, cp, cur, hv, hc, hb, hlt, hg, ht⟩ := ownK_pos h h0
    refine ⟨_, cp, hv, hc, fun _ => ⟨g, 0, rfl, hb, hlt, fun j hj i u hu => ?_⟩⟩
    have hi : i < k := by rw [← hk xs[j]]; exact (List.getElem?_eq_some_iff.1 hu).1
    rw [cell_of_row w g _ cur e (0, 0) hg, Nat.zero_add]
    exact take_at ht (by rw [fl_get hk xs hj hi, hu])
end
def Apart2 (a b : Value) : Prop := ∀ g, a.ownBlock = some g → b.ownBlock ≠ some g
section
variable {P : Program} {w : World}
theorem run_append_where (base : Nat) (t ty e : TypeId) (i : TypeInfo) (z : Value) (size bytes : Nat) (ht : P.underlying t = some (.slice e)) (hi : P.info? e = some i) (hz : i.zero = some z)
    (hsize : i.size = size) (hby : i.bytes = bytes) (hzs : z.cells.size = size) (hsz : 0 < size)
    (v : Value) (n : Nat) (xs : List Value) (hown : w.ownsRow base e size v n xs)
    (a : Addr) (m c : Nat) (news : List Value) (hl : news.length = m * size) (hnews : ∀ j u, news[j]? = some u → w.cell? (a.add j) = some u) (h1 : ∀ u ∈ news, u.oneCell' = true) (hm : 0 < m)
    (h63 : n + m ≤ maxLen) (hbytes : (n + m) * bytes ≤ 140737488355328) (hbase : base ≤ w.heap.size) :
    ∃ v' w', (Builtin.append_ #[t, t] ty #[v, .slice (some a) m c]).run P w = .ok v' w' ∧ w'.ownsRow base e size v' (n + m) (xs ++ news) ∧ w.grownBy w' v.ownBlock ∧ (v'.ownBlock = v.ownBlock ∨ v'.ownBlock = some w.heap.size) := by
  obtain ⟨v', w', hr, h2, h3, _⟩ := run_append_own (P := P) w base t ty e i z size bytes ht hi hz hsize hby hzs hsz v n xs hown a m c news hl hnews h1 h63 hbytes hbase
  refine ⟨v', w', hr, h2, h3, ?_⟩
  subst hsize hby
  have hsmall : n + m ≤ 9223372036854775807 := by simp only [maxLen] at h63; omega
  rcases hown.2 with ⟨rfl, rfl⟩ | ⟨g, cap, cur, rfl, hbg, hg, hnc, hcm, hcs, htake⟩
  · have hr2 := run_append_nil (P := P) w t ty e i z ht hi hz a m c news hl hnews (by omega) (by omega) (by have hb := hbytes; simp only [Nat.zero_add] at hb; omega)
    rw [hr] at hr2
    injection hr2 with e1 _
    rw [e1]
    exact .inr rfl
  · by_cases hroom : n + m ≤ cap
    · have hfit : n * i.size + news.length ≤ cur.size := by rw [hl, hcs, ← Nat.add_mul]; exact Nat.mul_le_mul_right _ hroom
      have hr2 := run_append_room (P := P) w t ty e i ht hi g n cap cur hg a m c news hl hnews h1 hroom hfit
      rw [hr] at hr2
      injection hr2 with e1 _
      rw [e1]
      exact .inl rfl
    · have holds : ∀ j u, xs[j]? = some u → w.cell? ((⟨g, 0, none⟩ : Addr).add j) = some u := hown.cells (g := g) rfl
      have hr2 := run_append_grow (P := P) w t ty e i z ht hi hz ⟨g, 0, none⟩ n cap xs hown.1 holds a m c news hl hnews (by omega) (by omega) (growslice_fits (by omega) hbytes)
      rw [hr] at hr2
      injection hr2 with e1 _
      rw [e1]
      exact .inr rfl
end
/-- one struct put behind a row of the call's own. -/
theorem wpList_append_struct {α : Type} {enc : α → List Value} {k : Nat} {P : Program} {w : World} {ops : Array Oper} {rest : List Oper} {o : Oper} {a : Act} {Q : Exit → Act → World → Prop} (hgd : o.guard = none) (s x : Operand) (t : TypeId)
    (ho : o.op = .call { callee := .builtin .append, args := #[s, x], argTypes := #[t, t] })
    (hk : ∀ x, (enc x).length = k) (h1 : ∀ x, ∀ v ∈ enc x, v.oneCell' = true)
    (e : TypeId) (i : TypeInfo) (z : Value) (bytes : Nat) (ht : P.underlying t = some (.slice e)) (hi : P.info? e = some i) (hz : i.zero = some z)
    (hsize : i.size = k) (hby : i.bytes = bytes) (hzs : z.cells.size = k) (hsz : 0 < k)
    (base : Nat) (v : Value) (xs : List α) (hs : a.eval s = v) (hown : Own enc k w base e v xs)
    (y : α) (g c : Nat) (hx : a.eval x = .slice (some ⟨g, 0, none⟩) 1 c) (hy : w.rangeAt g 0 (enc y))
    (h63 : xs.length + 1 ≤ maxLen) (hbytes : (xs.length + 1) * bytes ≤ 140737488355328) (hbase : base ≤ w.heap.size)
    (h : ∀ v' w', Own enc k w' base e v' (xs ++ [y]) → w.grownBy w' v.ownBlock → (v'.ownBlock = v.ownBlock ∨ v'.ownBlock = some w.heap.size) → wpList P ops Q rest (a.put o.dst v') w') : wpList P ops Q (o :: rest) a w := by
  refine wpList_append_run hgd s x t t ho v _ hs hx (R := fun v' w' => Own enc k w' base e v' (xs ++ [y]) ∧ w.grownBy w' v.ownBlock ∧ (v'.ownBlock = v.ownBlock ∨ v'.ownBlock = some w.heap.size)) ?_ (fun v' w' ⟨h2, h3, h4⟩ => h v' w' h2 h3 h4)
  obtain ⟨v', w', hr, h2, h3, h4⟩ := run_append_where (P := P) (w := w) base t o.type e i z k bytes ht hi hz hsize hby hzs hsz v xs.length (fl enc xs) hown ⟨g, 0, none⟩ 1 c (enc y) (by rw [hk, Nat.one_mul]) (fun j u hu => by
    rw [addr_add]
    exact hy j u hu) (h1 y) (by omega) h63 hbytes hbase
  refine ⟨v', w', hr, ?_, h3, h4⟩
  unfold Own
  rw [fl_append, fl_one, List.length_append, List.length_singleton]
  exact h2
/-- one struct put behind a row of the call's own. -/
theorem wpList_append_struct2 {α : Type} {enc : α → List Value} {k : Nat} {P : Program} {w : World} {ops : Array Oper} {rest : List Oper} {o : Oper} {a : Act} {Q : Exit → Act → World → Prop} (hgd : o.guard = none) (s x : Operand) (t : TypeId)
    (ho : o.op = .call { callee := .builtin .append, args := #[s, x], argTypes := #[t, t] })
    (hk : ∀ x, (enc x).length = k)
    (e : TypeId) (i : TypeInfo) (z : Value) (bytes : Nat) (ht : P.underlying t = some (.slice e)) (hi : P.info? e = some i) (hz : i.zero = some z)
    (hsize : i.size = k) (hby : i.bytes = bytes) (hzs : z.cells.size = k) (hsz : 0 < k)
    (base : Nat) (v : Value) (xs : List α) (hs : a.eval s = v) (hown : Own enc k w base e v xs)
    (y : α) (h1 : ∀ v ∈ enc y, v.oneCell' = true) (g c : Nat) (hx : a.eval x = .slice (some ⟨g, 0, none⟩) 1 c) (hy : w.rangeAt g 0 (enc y))
    (h63 : xs.length + 1 ≤ maxLen) (hbytes : (xs.length + 1) * bytes ≤ 140737488355328) (hbase : base ≤ w.heap.size)
    (h : ∀ v' w', Own enc k w' base e v' (xs ++ [y]) → w.grownBy w' v.ownBlock → (v'.ownBlock = v.ownBlock ∨ v'.ownBlock = some w.heap.size) → wpList P ops Q rest (a.put o.dst v') w') : wpList P ops Q (o :: rest) a w := by
  refine wpList_append_run hgd s x t t ho v _ hs hx (R := fun v' w' => Own enc k w' base e v' (xs ++ [y]) ∧ w.grownBy w' v.ownBlock ∧ (v'.ownBlock = v.ownBlock ∨ v'.ownBlock = some w.heap.size)) ?_ (fun v' w' ⟨h2, h3, h4⟩ => h v' w' h2 h3 h4)
  obtain ⟨v', w', hr, h2, h3, h4⟩ := run_append_where (P := P) (w := w) base t o.type e i z k bytes ht hi hz hsize hby hzs hsz v xs.length (fl enc xs) hown ⟨g, 0, none⟩ 1 c (enc y) (by rw [hk, Nat.one_mul]) (fun j u hu => by
    rw [addr_add]
    exact hy j u hu) h1 (by omega) h63 hbytes hbase
  refine ⟨v', w', hr, ?_, h3, h4⟩
  unfold Own
  rw [fl_append, fl_one, List.length_append, List.length_singleton]
  exact h2
end Go.Proofs.YtmieakkhpkclpaaDoor
/- Rows of structs of the call's own, and what a sort leaves. Nothing of the program. -/
namespace Go.Proofs.YtmieakkhpkclpaaDoor
open Go.RowKit Go.Sort Go.Shelf

section
variable {α : Type} {enc : α → List Value} {k : Nat}
theorem fl_flatK [Inhabited α] (hk : ∀ x, (enc x).length = k) (d : Array α) : (flatK enc k d).toList = fl enc d.toList := by
  apply List.ext_getElem?
  intro t
  by_cases ht : t < d.size * k
  · have h0 : 0 < k := by
      rcases Nat.eq_zero_or_pos k with h | h
      · subst h; simp at ht
      · exact h
    have hi : t / k < d.size := Nat.div_lt_of_lt_mul (by rw [Nat.mul_comm]; exact ht)
    have hm : t % k < k := Nat.mod_lt _ h0
    have e : t / k * k + t % k = t := by rw [Nat.mul_comm]; exact Nat.div_add_mod t k
    have h1 := flat_at hk d hi hm
    have h2 := fl_get hk d.toList (j := t / k) (i := t % k) (by simpa using hi) hm
    rw [e] at h1 h2
    rw [Array.getElem?_toList, h1, h2]
    simp
  · rw [List.getElem?_eq_none (by simp; omega), List.getElem?_eq_none (by rw [fl_len hk]; simp; omega)]
end
section
variable {α : Type} {enc : α → List Value} {k : Nat} {w w' : World} {base B : Nat} {e : TypeId} {v : Value} {xs : List α}
theorem Own.holds [Inhabited α] (hk : ∀ x, (enc x).length = k) {g n c : Nat} (h : Own enc k w base e (.slice (some ⟨g, 0, none⟩) n c) xs) (h0 : 0 < xs.length) : HoldsK enc k w g 0 xs.toArray := by
  obtain ⟨g', cp, cur, hv, hc, hb, hlt, hg, ht⟩ := ownK_pos h h0
  injection hv with hv _ _
  injection hv with hv
  injection hv with hv
  subst hv
  intro j hj
  have hf := fl_flatK hk xs.toArray
  refine ⟨?_, frozen_of_row w g _ cur e hg⟩
  rw [cell_of_row w g _ cur e (0, 0) hg, Nat.zero_add, getElem!_pos _ j hj]
  refine take_at ht ?_
  rw [show fl enc xs = (flatK enc k xs.toArray).toList from hf.symm, Array.getElem?_toList, Array.getElem?_eq_getElem hj]
  rfl
theorem holds_srow [Inhabited α] (hk : ∀ x, (enc x).length = k) {g : Nat} {d : Array α} (h : HoldsK enc k w g 0 d) {lo hi : Nat} (h1 : lo ≤ g) (h2 : g < hi) : Srow enc k w lo hi (some ⟨g, 0, none⟩) d.toList := fun _ =>
  ⟨g, 0, rfl, h1, h2, fun j hj i u hu => by
    have hj' : j < d.size := by simpa using hj
    have hi : i < k := by rw [← hk d.toList[j]]; exact (List.getElem?_eq_some_iff.1 hu).1
    have hlt : j * k + i < (flatK enc k d).size := by
      rw [size_flatK]
      have : (j + 1) * k ≤ d.size * k := Nat.mul_le_mul_right k hj'
      rw [Nat.add_mul, Nat.one_mul] at this
      omega
    have hc := (h (j * k + i) hlt).1
    rw [Nat.zero_add] at hc ⊢
    rw [hc, getElem!_pos (flatK enc k d) _ hlt]
    have := flat_at hk d hj' hi
    rw [Array.getElem?_eq_getElem hlt] at this
    rw [← hu, Array.getElem_toList, ← this]
    rfl⟩
/-- what a sort leaves. -/
theorem sorted_holds [Inhabited α] {g n : Nat} {d d' : Array α} {os : Array Obj} (h : HoldsK enc k w g 0 d) (hg : g < w.heap.size) (hs : d'.size = d.size) (hw : w' = sortWorldK enc k w g 0 n d' os) : HoldsK enc k w' g 0 d' ∧ w.grownBy w' (some g) := by
  subst hw
  refine ⟨holdsK_sortWorldK_c enc k w g 0 d d' n os h hg hs, ⟨rfl, rfl, rfl, size_sortWorldK_c enc k w g 0 n d' os, fun i hi hne => ?_⟩⟩
  unfold sortWorldK grow putRowK putRow mapBlock Go.Sort.ahead
  simp only [Array.getElem?_append, Array.size_modify, Array.getElem?_modify]
  rw [if_pos hi, if_neg (fun e => hne (by rw [e]))]
end
end Go.Proofs.YtmieakkhpkclpaaDoor
/- make of structs. Nothing of the program. -/
namespace Go.Proofs.YtmieakkhpkclpaaDoor
open Go.RowKit Go.Sort Go.Shelf

theorem made_flat {α : Type} [Inhabited α] {enc : α → List Value} {k : Nat} (hk : ∀ x, (enc x).length = k) (z : α) (m : Nat) : madeCells (enc z).toArray (m * k) = flatK enc k (Array.replicate m z) := by
  unfold madeCells flatK
  rw [Array.size_replicate]
  apply Array.ext
  · simp
  · intro t h1 h2
    have ht : t < m * k := by simpa using h1
    have h0 : 0 < k := by
      rcases Nat.eq_zero_or_pos k with h | h
      · subst h; simp at ht
      · exact h
    have hi : t / k < m := Nat.div_lt_of_lt_mul (by rw [Nat.mul_comm]; exact ht)
    have hm : t % k < (enc z).length := by rw [hk]; exact Nat.mod_lt _ h0
    have e1 : (Array.replicate m z)[t / k]! = z := by rw [getElem!_pos _ _ (by simpa using hi)]; simp
    have hsz : (enc z).toArray.size = k := by simp [hk]
    simp only [Array.getElem_map, Array.getElem_range, e1, hsz]
    rw [getElem!_pos (enc z) (t % k) hm, getElem!_pos (enc z).toArray (t % k) (by simpa using hm)]
    simp
/-- make of structs, a length and a capacity. -/
theorem wpList_make_structs {α : Type} [Inhabited α] {enc : α → List Value} {k : Nat} {P : Program} {w : World} {ops : Array Oper} {rest : List Oper} {o : Oper} {a : Act} {Q : Exit → Act → World → Prop}
    (hg : o.guard = none) (l c : Operand) (t : TypeId) (hop : o.op = Op.makeSlice t l c) (hk : ∀ x, (enc x).length = k) (z : α)
    (e : TypeId) (i : TypeInfo) (zv : Value) (bytes : Nat) (h1 : P.underlying t = some (.slice e)) (h2 : P.info? e = some i) (h3 : i.zero = some zv) (hzc : zv.cells = (enc z).toArray) (h4 : i.size = k) (h5 : i.bytes = bytes)
    (kl kc : IntKind) (L C : Int) (n m : Nat) (hl : a.eval l = .int kl L) (hc : a.eval c = .int kc C) (hL : L = (n : Int)) (hC : C = (m : Int)) (hnm : n ≤ m) (hm : m ≤ 9223372036854775807) (b3 : bytes * m ≤ 281474976710656)
    (hK : ∀ w', Has w' w.heap.size e (flatK enc k (Array.replicate m z)) → Below w.heap.size w w' → w'.heap.size = w.heap.size + 1 → wpList P ops Q rest (a.put o.dst (.slice (some ⟨w.heap.size, 0, none⟩) n m)) w') :
    wpList P ops Q (o :: rest) a w := by
  refine wpList_plain hg fun K hK' => ?_
  have hrun := run_make (P := P) w t e i zv h1 h2 h3 kl kc n m (by omega) (by omega) (by rw [h5, ← Int.natCast_mul]; omega) (by omega)
  subst hL hC
  unfold Oper.wp
  simp [execOp, hop, hl, hc, hrun, Result.andThen]
  refine hK' _ _ (hK _ ?_ ((Below.refl _ _).alloc (Nat.le_refl _) _) (by simp))
  rw [h4, hzc, made_flat hk z m]
  exact Has.fresh w e _
end Go.Proofs.YtmieakkhpkclpaaDoor
/- append on a row of the call's own: where the new row lies. Nothing of the program. -/
namespace Go.Proofs.YtmieakkhpkclpaaDoor
open Go.RowKit

end Go.Proofs.YtmieakkhpkclpaaDoor
/- Structs loaded and stored: the world behind it is a letter. Nothing of the program. -/
namespace Go.Proofs.YtmieakkhpkclpaaDoor
open Go.RowKit Go.Sort Go.Shelf

section
variable {P : Program} {w : World} {ops : Array Oper} {rest : List Oper} {op : Oper} {a : Act} {Q : Exit → Act → World → Prop}
/-- a variable of its own is laid and given its struct. -/
theorem wpList_store_boxed (hgd : op.guard = none) (ty : TypeId) (x y : Operand) (ho : op.op = .store ty x y) (t : TypeId) (z cells : Array Value)
    (hx : a.eval x = .pointer (some ⟨w.heap.size, 0, none⟩)) (hy : a.eval y = .agg cells) (hi : (P.info? ty).map (·.size) = some cells.size) (hold : z.size = cells.size) (h1 : cells.all (·.oneCell') = true)
    (h : ∀ w2, Has w2 w.heap.size t cells → w.grownBy w2 none → w2.heap.size = w.heap.size + 1 → wpList P ops Q rest (a.put op.dst undef) w2) : wpList P ops Q (op :: rest) a (w.alloc (.cells z t)) := by
  have hF := Has.fresh w t z
  refine wpList_store_row hgd ty x y ho w.heap.size cells hx hy t z hF hi hold h1 ?_
  refine h _ (hF.row cells) ⟨rfl, rfl, rfl, by simp, fun k hk _ => ?_⟩ (by simp)
  rw [setRow_other _ _ _ _ (by omega)]
  exact heap_alloc_old w _ hk
/-- an element of a row is given its struct. -/
theorem wpList_store_elem {α : Type} [Inhabited α] {enc : α → List Value} {k : Nat} (hgd : op.guard = none) (ty : TypeId) (x y : Operand) (ho : op.op = .store ty x y) (hk : ∀ x, (enc x).length = k) (hone : ∀ x, ∀ v ∈ enc x, v.oneCell' = true)
    (g i : Nat) (t : TypeId) (d : Array α) (v : α) (hX : Has w g t (flatK enc k d)) (hid : i < d.size)
    (hx : a.eval x = .pointer (some ⟨g, i * k, none⟩)) (hy : a.eval y = .agg (enc v).toArray) (hi : (P.info? ty).map (·.size) = some k)
    (h : ∀ w2, Has w2 g t (flatK enc k (d.setIfInBounds i v)) → w.grownBy w2 (some g) → w2.heap.size = w.heap.size → wpList P ops Q rest (a.put op.dst undef) w2) : wpList P ops Q (op :: rest) a w := by
  refine wpList_store_mid hgd ty x y ho g (i * k) (enc v).toArray hx hy (by rw [List.size_toArray, hk]; exact row_there hk hX hid) (by rw [List.size_toArray, hk]; exact hi) (all_oneCell_toArray (hone v)) ?_
  rw [List.toList_toArray, row_store hk hX hid v]
  refine h _ (hX.row _) ⟨rfl, rfl, rfl, by simp, fun j _ hne => setRow_other _ _ _ _ (fun e => hne (by rw [e]))⟩ (by simp)
end
theorem Srow.grown {α : Type} {enc : α → List Value} {k : Nat} {w w' : World} {lo hi : Nat} {A : Option Addr} {xs : List α} {row : Option Nat} (h : Srow enc k w lo hi A xs) (hg : w.grownBy w' row) (hn : ∀ g, row = some g → g < lo ∨ hi ≤ g) : Srow enc k w' lo hi A xs := fun h0 => by
  obtain ⟨g, o, rfl, h1, h2, hc⟩ := h h0
  refine ⟨g, o, rfl, h1, h2, fun j hj i u hu => ?_⟩
  exact hg.cell (hc j hj i u hu) (fun e => by have := hn g e.symm; omega)
theorem grown_none {w w2 : World} (h : w.grownBy w2 none) {B : Nat} {a : World} (hb : Below B a w) (hB : B ≤ w.heap.size) : Below B a w2 := hb.grown h hB (fun k e => by cases e)
end Go.Proofs.YtmieakkhpkclpaaDoor
