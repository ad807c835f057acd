/- Rows of structs of the call's own, and append on them: where the new row lies. Nothing of the program. -/
import Derived.Test.YtnhoaceickojeaaRrMem
namespace Go.Proofs.Ytnhoaceickojeaa
open Go.RowKit

/-- all cells of structs, one behind the other. -/
def fl {α : Type} (enc : α → List Value) (xs : List α) : List Value := xs.flatMap enc
section
variable {α : Type} {enc : α → List Value} {k : Nat}
theorem fl_append (xs ys : List α) : fl enc (xs ++ ys) = fl enc xs ++ fl enc ys := by simp [fl]
theorem fl_one (x : α) : fl enc [x] = enc x := by simp [fl]
theorem fl_len (hk : ∀ x, (enc x).length = k) : ∀ xs : List α, (fl enc xs).length = xs.length * k
  | [] => by simp [fl]
  | x :: r => by
    have := fl_len hk r
    simp only [fl, List.flatMap_cons, List.length_append, hk, List.length_cons] at *
    rw [this, Nat.add_mul, Nat.one_mul, Nat.add_comm]
theorem fl_get (hk : ∀ x, (enc x).length = k) : ∀ (xs : List α) {j i : Nat} (hj : j < xs.length), i < k → (fl enc xs)[j * k + i]? = (enc xs[j])[i]?
  | x :: r, 0, i, _, hi => by
    simp only [fl, List.flatMap_cons, Nat.zero_mul, Nat.zero_add, List.getElem_cons_zero]
    rw [List.getElem?_append_left (by rw [hk]; exact hi)]
  | x :: r, j + 1, i, hj, hi => by
    have := fl_get hk r (j := j) (i := i) (by simpa using hj) hi
    simp only [fl, List.flatMap_cons, List.getElem_cons_succ] at *
    rw [List.getElem?_append_right (by rw [hk, Nat.add_mul, Nat.one_mul]; omega), hk, ← this]
    congr 1
    rw [Nat.add_mul, Nat.one_mul]
    omega
end
/-- a row of structs of the call's own. -/
abbrev Own {α : Type} (enc : α → List Value) (k : Nat) (w : World) (base : Nat) (e : TypeId) (v : Value) (xs : List α) : Prop := w.ownsRow base e k v xs.length (fl enc xs)
section
variable {α : Type} {enc : α → List Value} {k : Nat} {w w' : World} {base B : Nat} {e : TypeId} {v : Value} {xs : List α}
theorem ownK_form {n : Nat} {ys : List Value} (h : w.ownsRow base e k v n ys) : ∃ ad cp, v = .slice ad n cp ∧ n ≤ cp := by
  rcases h.2 with ⟨rfl, h0⟩ | ⟨g', cap, cur, rfl, _, _, hc, _⟩
  · exact ⟨none, 0, by rw [h0], by omega⟩
  · exact ⟨_, _, rfl, hc⟩
theorem ownK_pos {n : Nat} {ys : List Value} (h : w.ownsRow base e k v n ys) (hn : 0 < n) : ∃ g cp cur, v = .slice (some ⟨g, 0, none⟩) n cp ∧ n ≤ cp ∧ base ≤ g ∧ g < w.heap.size ∧ w.heap[g]? = some (.cells cur e (0, 0)) ∧ cur.toList.take (n * k) = ys := by
  rcases h.2 with ⟨rfl, h0⟩ | ⟨g', cap, cur, rfl, hb, hg, hc, _, _, ht⟩
  · omega
  · exact ⟨g', cap, cur, rfl, hc, hb, (Array.getElem?_eq_some_iff.1 hg).1, hg, ht⟩
theorem ownK_below {n : Nat} {ys : List Value} (h : w.ownsRow base e k v n ys) (hb : Below B w w') (hB : w.heap.size ≤ B) : w'.ownsRow base e k v n ys := own_below h hb hB
theorem take_at {cur : Array Value} {n : Nat} {ys : List Value} (ht : cur.toList.take n = ys) {i : Nat} {u : Value} (hu : ys[i]? = some u) : cur[i]? = some u := by
  subst ht
  rw [List.getElem?_take] at hu
  split at hu
  · rwa [Array.getElem?_toList] at hu
  · cases hu
theorem Own.srow (hk : ∀ x, (enc x).length = k) (h : Own enc k w base e v xs) : ∃ A c, v = .slice A xs.length c ∧ xs.length ≤ c ∧ Srow enc k w base w.heap.size A xs := by
  rcases Nat.eq_zero_or_pos xs.length with h0 | h0
  · obtain ⟨ad, cp, hv, hc⟩ := ownK_form h
    exact ⟨ad, cp, hv, hc, fun h1 => by omega⟩
  · obtain ⟨g, cp, cur, hv, hc, hb, hlt, hg, ht⟩ := ownK_pos h h0
    refine ⟨_, cp, hv, hc, fun _ => ⟨g, 0, rfl, hb, hlt, fun j hj i u hu => ?_⟩⟩
    have hi : i < k := by rw [← hk xs[j]]; exact (List.getElem?_eq_some_iff.1 hu).1
    rw [cell_of_row w g _ cur e (0, 0) hg, Nat.zero_add]
    exact take_at ht (by rw [fl_get hk xs hj hi, hu])
end
def Apart2 (a b : Value) : Prop := ∀ g, a.ownBlock = some g → b.ownBlock ≠ some g
section
variable {P : Program} {w : World}
theorem run_append_where (base : Nat) (t ty e : TypeId) (i : TypeInfo) (z : Value) (size bytes : Nat) (ht : P.underlying t = some (.slice e)) (hi : P.info? e = some i) (hz : i.zero = some z)
    (hsize : i.size = size) (hby : i.bytes = bytes) (hzs : z.cells.size = size) (hsz : 0 < size)
    (v : Value) (n : Nat) (xs : List Value) (hown : w.ownsRow base e size v n xs)
    (a : Addr) (m c : Nat) (news : List Value) (hl : news.length = m * size) (hnews : ∀ j u, news[j]? = some u → w.cell? (a.add j) = some u) (h1 : ∀ u ∈ news, u.oneCell' = true) (hm : 0 < m)
    (h63 : n + m ≤ maxLen) (hbytes : (n + m) * bytes ≤ 140737488355328) (hbase : base ≤ w.heap.size) :
    ∃ v' w', (Builtin.append_ #[t, t] ty #[v, .slice (some a) m c]).run P w = .ok v' w' ∧ w'.ownsRow base e size v' (n + m) (xs ++ news) ∧ w.grownBy w' v.ownBlock ∧ (v'.ownBlock = v.ownBlock ∨ v'.ownBlock = some w.heap.size) := by
  obtain ⟨v', w', hr, h2, h3, _⟩ := run_append_own (P := P) w base t ty e i z size bytes ht hi hz hsize hby hzs hsz v n xs hown a m c news hl hnews h1 h63 hbytes hbase
  refine ⟨v', w', hr, h2, h3, ?_⟩
  subst hsize hby
  have hsmall : n + m ≤ 9223372036854775807 := by simp only [maxLen] at h63; omega
  rcases hown.2 with ⟨rfl, rfl⟩ | ⟨g, cap, cur, rfl, hbg, hg, hnc, hcm, hcs, htake⟩
  · have hr2 := run_append_nil (P := P) w t ty e i z ht hi hz a m c news hl hnews (by omega) (by omega) (by have hb := hbytes; simp only [Nat.zero_add] at hb; omega)
    rw [hr] at hr2
    injection hr2 with e1 _
    rw [e1]
    exact .inr rfl
  · by_cases hroom : n + m ≤ cap
    · have hfit : n * i.size + news.length ≤ cur.size := by rw [hl, hcs, ← Nat.add_mul]; exact Nat.mul_le_mul_right _ hroom
      have hr2 := run_append_room (P := P) w t ty e i ht hi g n cap cur hg a m c news hl hnews h1 hroom hfit
      rw [hr] at hr2
      injection hr2 with e1 _
      rw [e1]
      exact .inl rfl
    · have holds : ∀ j u, xs[j]? = some u → w.cell? ((⟨g, 0, none⟩ : Addr).add j) = some u := hown.cells (g := g) rfl
      have hr2 := run_append_grow (P := P) w t ty e i z ht hi hz ⟨g, 0, none⟩ n cap xs hown.1 holds a m c news hl hnews (by omega) (by omega) (growslice_fits (by omega) hbytes)
      rw [hr] at hr2
      injection hr2 with e1 _
      rw [e1]
      exact .inr rfl
end
/-- one struct put behind a row of the call's own. -/
theorem wpList_append_struct {α : Type} {enc : α → List Value} {k : Nat} {P : Program} {w : World} {ops : Array Oper} {rest : List Oper} {o : Oper} {a : Act} {Q : Exit → Act → World → Prop} (hgd : o.guard = none) (s x : Operand) (t : TypeId)
    (ho : o.op = .call { callee := .builtin .append, args := #[s, x], argTypes := #[t, t] })
    (hk : ∀ x, (enc x).length = k) (h1 : ∀ x, ∀ v ∈ enc x, v.oneCell' = true)
    (e : TypeId) (i : TypeInfo) (z : Value) (bytes : Nat) (ht : P.underlying t = some (.slice e)) (hi : P.info? e = some i) (hz : i.zero = some z)
    (hsize : i.size = k) (hby : i.bytes = bytes) (hzs : z.cells.size = k) (hsz : 0 < k)
    (base : Nat) (v : Value) (xs : List α) (hs : a.eval s = v) (hown : Own enc k w base e v xs)
    (y : α) (g c : Nat) (hx : a.eval x = .slice (some ⟨g, 0, none⟩) 1 c) (hy : w.rangeAt g 0 (enc y))
    (h63 : xs.length + 1 ≤ maxLen) (hbytes : (xs.length + 1) * bytes ≤ 140737488355328) (hbase : base ≤ w.heap.size)
    (h : ∀ v' w', Own enc k w' base e v' (xs ++ [y]) → w.grownBy w' v.ownBlock → (v'.ownBlock = v.ownBlock ∨ v'.ownBlock = some w.heap.size) → wpList P ops Q rest (a.put o.dst v') w') : wpList P ops Q (o :: rest) a w := by
  refine wpList_append_run hgd s x t t ho v _ hs hx (R := fun v' w' => Own enc k w' base e v' (xs ++ [y]) ∧ w.grownBy w' v.ownBlock ∧ (v'.ownBlock = v.ownBlock ∨ v'.ownBlock = some w.heap.size)) ?_ (fun v' w' ⟨h2, h3, h4⟩ => h v' w' h2 h3 h4)
  obtain ⟨v', w', hr, h2, h3, h4⟩ := run_append_where (P := P) (w := w) base t o.type e i z k bytes ht hi hz hsize hby hzs hsz v xs.length (fl enc xs) hown ⟨g, 0, none⟩ 1 c (enc y) (by rw [hk, Nat.one_mul]) (fun j u hu => by
    rw [addr_add]
    exact hy j u hu) (h1 y) (by omega) h63 hbytes hbase
  refine ⟨v', w', hr, ?_, h3, h4⟩
  unfold Own
  rw [fl_append, fl_one, List.length_append, List.length_singleton]
  exact h2
/-- one struct put behind a row of the call's own. -/
theorem wpList_append_struct2 {α : Type} {enc : α → List Value} {k : Nat} {P : Program} {w : World} {ops : Array Oper} {rest : List Oper} {o : Oper} {a : Act} {Q : Exit → Act → World → Prop} (hgd : o.guard = none) (s x : Operand) (t : TypeId)
    (ho : o.op = .call { callee := .builtin .append, args := #[s, x], argTypes := #[t, t] })
    (hk : ∀ x, (enc x).length = k)
    (e : TypeId) (i : TypeInfo) (z : Value) (bytes : Nat) (ht : P.underlying t = some (.slice e)) (hi : P.info? e = some i) (hz : i.zero = some z)
    (hsize : i.size = k) (hby : i.bytes = bytes) (hzs : z.cells.size = k) (hsz : 0 < k)
    (base : Nat) (v : Value) (xs : List α) (hs : a.eval s = v) (hown : Own enc k w base e v xs)
    (y : α) (h1 : ∀ v ∈ enc y, v.oneCell' = true) (g c : Nat) (hx : a.eval x = .slice (some ⟨g, 0, none⟩) 1 c) (hy : w.rangeAt g 0 (enc y))
    (h63 : xs.length + 1 ≤ maxLen) (hbytes : (xs.length + 1) * bytes ≤ 140737488355328) (hbase : base ≤ w.heap.size)
    (h : ∀ v' w', Own enc k w' base e v' (xs ++ [y]) → w.grownBy w' v.ownBlock → (v'.ownBlock = v.ownBlock ∨ v'.ownBlock = some w.heap.size) → wpList P ops Q rest (a.put o.dst v') w') : wpList P ops Q (o :: rest) a w := by
  refine wpList_append_run hgd s x t t ho v _ hs hx (R := fun v' w' => Own enc k w' base e v' (xs ++ [y]) ∧ w.grownBy w' v.ownBlock ∧ (v'.ownBlock = v.ownBlock ∨ v'.ownBlock = some w.heap.size)) ?_ (fun v' w' ⟨h2, h3, h4⟩ => h v' w' h2 h3 h4)
  obtain ⟨v', w', hr, h2, h3, h4⟩ := run_append_where (P := P) (w := w) base t o.type e i z k bytes ht hi hz hsize hby hzs hsz v xs.length (fl enc xs) hown ⟨g, 0, none⟩ 1 c (enc y) (by rw [hk, Nat.one_mul]) (fun j u hu => by
    rw [addr_add]
    exact hy j u hu) h1 (by omega) h63 hbytes hbase
  refine ⟨v', w', hr, ?_, h3, h4⟩
  unfold Own
  rw [fl_append, fl_one, List.length_append, List.length_singleton]
  exact h2
end Go.Proofs.Ytnhoaceickojeaa
