/- A slice of structs that came in, nil or not, wherever it stands. -/
import Derived.Test.YtnhoaceickojeaaShut
import Derived.Test.YtnhoaceickojeaaRdBulk
import Derived.Test.YtnhoaceickojeaaRrMem
namespace Go.Proofs.Ytnhoaceickojeaa
open Go.ChangeShapes Go.WideShapes Go.Deep Go.RowKit

set_option maxRecDepth 100000 in
theorem open_rows {α : Type} {en : α → List Value} {k : Nat} (hk0 : 0 < k) (hke : ∀ x, (en x).length = k) {P : Program} {ts te : TypeId} (ht : P.underlying ts = some (.slice te)) (hC : P.cellsOf te = k)
    {F N : α → Prop} {B : α → Nat} {H : Type} {enc : TypeId × Value → H} {W : World} {fuel : Nat}
    (hone : ∀ {fuel : Nat} {cs : List Value} {x : DataW H × List MemPlace}, cs.length = k → DataW.trod enc P W 0 (fun _ => true) true fuel te cs = some x →
      ∃ r : α, cs = en r ∧ F r ∧ ((x.1.weights P te).all (· ≤ reachBytes) = true → N r) ∧ B r ≤ Rows.uptoBulk x.1)
    {cs : List Value} {x : DataW H × List MemPlace} (hf : DataW.trod enc P W 0 (fun _ => true) true fuel ts cs = some x) :
    ∃ A rs c, cs = [.slice A rs.length c] ∧ rs.length ≤ c ∧ (A = none → c = 0) ∧ Srow en k W 0 W.heap.size A rs ∧ (∀ r ∈ rs, F r) ∧
      ((x.1.weights P ts).all (· ≤ reachBytes) = true → c * P.bytesOf te ≤ 140737488351232 ∧ ∀ r ∈ rs, N r) ∧ (∀ r ∈ rs, B r ≤ Rows.uptoBulk x.1) ∧ rs.length ≤ Rows.uptoBulk x.1 := by
  rcases open_slice ht hf with ⟨hcs, hx⟩ | ⟨a, len, cap, m, n, D, Pl, hcs, _, hl, hm, hmm, hx, hi⟩
  · subst hcs hx
    exact ⟨none, [], 0, rfl, Nat.le_refl _, fun _ => rfl, Srow.nil, (fun r h => by cases h), (fun _ => ⟨by omega, fun r h => by cases h⟩), (fun r h => by cases h), Nat.zero_le _⟩
  · subst hcs hx
    simp only [if_true] at hmm
    subst m
    have key : ∀ i, i < cap → ∃ r : α, (∀ j, j < k → W.cell? (a.add (i * k + j)) = (en r)[j]?) ∧ F r ∧ (((D i).weights P te).all (· ≤ reachBytes) = true → N r) ∧ B r ≤ Rows.uptoBulk (D i) := fun i hik => by
      obtain ⟨cs', hc, ht'⟩ := hi i hik
      rw [hC] at hc
      obtain ⟨_, hcl, hat⟩ := World.cells?_some hc
      obtain ⟨r, hcs', hfi, hne, hbu⟩ := hone hcl ht'
      refine ⟨r, fun j hj => ?_, hfi, hne, hbu⟩
      rw [← Go.Deep.add_add, hat j hj, ← hcs', List.getElem?_eq_getElem (by omega)]
    have key' : ∀ i : Fin cap, ∃ r : α, (∀ j, j < k → W.cell? (a.add (i.1 * k + j)) = (en r)[j]?) ∧ F r ∧ (((D i.1).weights P te).all (· ≤ reachBytes) = true → N r) ∧ B r ≤ Rows.uptoBulk (D i.1) := fun i => key i.1 i.2
    obtain ⟨T, hT⟩ := Classical.axiomOfChoice key'
    have hlen : ((List.finRange cap).take len).length = len := by simp; omega
    have hlen2 : (((List.finRange cap).take len).map T).length = len := by rw [List.length_map, hlen]
    have hmem : ∀ r ∈ ((List.finRange cap).take len).map T, ∃ i : Fin cap, r = T i ∧ i.1 < len := fun r hr => by
      obtain ⟨i, hi2, rfl⟩ := List.mem_map.1 hr
      refine ⟨i, rfl, ?_⟩
      obtain ⟨q, hq, rfl⟩ := List.mem_iff_getElem.1 hi2
      simp at hq ⊢
      omega
    refine ⟨some a, ((List.finRange cap).take len).map T, cap, by rw [hlen2], by omega, (fun h => by cases h), fun hpos => ?_, fun r hr => ?_, fun hw => ⟨?_, fun r hr => ?_⟩, fun r hr => ?_, ?_⟩
    · have hv0 : (en (T ⟨0, by omega⟩))[0]? = some ((en (T ⟨0, by omega⟩))[0]'(by rw [hke]; exact hk0)) := List.getElem?_eq_getElem _
      have hc0 := (hT ⟨0, by omega⟩).1 0 hk0
      rw [Nat.zero_mul, Nat.zero_add, hv0] at hc0
      obtain ⟨e1, e2⟩ := addr_form (k := 0) hc0
      refine ⟨a.block, a.off, by rw [← e1], Nat.zero_le _, ?_, fun j hj => ?_⟩
      · have := World.block_lt_of_cell? _ _ hc0
        rw [e1, e2] at this
        exact this
      · rw [hlen2] at hj
        have q := (hT ⟨j, by omega⟩).1
        intro i u hu
        have hi12 : i < k := by
          have := (List.getElem?_eq_some_iff.1 hu).1
          rw [hke] at this
          exact this
        have q2 := q i hi12
        rw [e1, (addr_form hc0).2] at q2
        rw [Nat.add_assoc, ← hu]
        simp only [List.getElem_map, List.getElem_take, List.getElem_finRange, Fin.cast_mk]
        exact q2
    · obtain ⟨i, rfl, _⟩ := hmem r hr
      exact (hT i).2.1
    · have := reach_slice ht hw
      simp only [List.length_map, List.length_range] at this
      rwa [show len + (cap - len) = cap by omega] at this
    · obtain ⟨i, rfl, hil⟩ := hmem r hr
      simp only [DataW.weights, ht, List.all_cons, Bool.and_eq_true, List.all_append] at hw
      have hw1 := weights_in (d := D i.1) (List.mem_map.2 ⟨i.1, List.mem_range.2 hil, rfl⟩) hw.2.1
      exact (hT i).2.2.1 hw1
    · obtain ⟨i, rfl, hil⟩ := hmem r hr
      have hb := bulk_in (d := D i.1) (x := (List.range len).map D) (List.mem_map.2 ⟨i.1, List.mem_range.2 hil, rfl⟩)
      have := (hT i).2.2.2
      rw [Rows.uptoBulk]
      omega
    · have := bulk_len ((List.range len).map D)
      rw [List.length_map, List.length_range] at this
      rw [hlen2, Rows.uptoBulk]
      omega
end Go.Proofs.Ytnhoaceickojeaa
