/- A slice of items that came in, nil or not: each with a number, a name and a mark. -/
import Derived.Test.YtnhoaceickojeaaShut
import Derived.Deep.Slices
import Derived.Deep.Fields
import Derived.ChangeSame
namespace Go.Proofs.Ytnhoaceickojeaa
open Go.ChangeShapes Go.WideShapes Go.Deep Go.RowKit

section
variable {H : Type} {enc : TypeId × Value → H} {P : Program} {w : World} {base : Nat} {spare : Nat → Bool} {held : Bool}
theorem open_slice_fields {t e : TypeId} {fs : Array Field} {fuel : Nat} {cs : List Value} {x : DataW H × List MemPlace} (ht : P.underlying t = some (.slice e)) (he : P.underlying e = some (.struct fs))
    (hone : oneCellFields P fs = true) (hC : P.cellsOf e = fs.size) (h : DataW.trod enc P w base spare held fuel t cs = some x) :
    (cs = [.slice none 0 0] ∧ x = (.nil, [])) ∨
    ∃ (a : Addr) (len cap m : Nat) (D : Nat → DataW H) (Pl : Nat → List MemPlace), cs = [.slice (some a) len cap] ∧ base ≤ a.block ∧ len ≤ cap ∧ cap ≤ maxLen ∧ m = (if spare a.block then cap else len) ∧
      x = (.slice ((List.range len).map D) ((List.range (m - len)).map fun j => D (len + j)), MemPlace.row a (m * fs.size) ++ (List.range m).flatMap Pl) ∧
      ∀ i, i < m → ∃ (ys : List (DataW H × List MemPlace)) (n : Nat), D i = .agg (ys.map (·.1)) ∧ Pl i = ys.flatMap (·.2) ∧ ys.length = fs.size ∧
        ∀ (j : Nat) (f : Field), fs[j]? = some f → ∃ (v : Value) (y : DataW H × List MemPlace), w.cell? (a.add (i * fs.size + j)) = some v ∧ ys[j]? = some y ∧ DataW.trod enc P w base spare held n f.type [v] = some y := by
  rcases open_slice ht h with h0 | ⟨a, len, cap, m, n, D, Pl, hcs, hb, hl, hm, hmm, hx, hi⟩
  · exact .inl h0
  · refine .inr ⟨a, len, cap, m, D, Pl, hcs, hb, hl, hm, hmm, by rw [hC] at hx; exact hx, fun i him => ?_⟩
    obtain ⟨cs', hc, ht'⟩ := hi i him
    rw [hC] at hc
    obtain ⟨ys, n', hn', hy, hlen, hyl, hf⟩ := DataW.trod_struct he ht'
    obtain ⟨_, hcl, hat⟩ := World.cells?_some hc
    simp only [Prod.mk.injEq] at hy
    refine ⟨ys, n', hy.1, hy.2, hyl, fun j f hj => ?_⟩
    obtain ⟨ho, hk⟩ := hone_of hone j f hj
    have hjl : j < fs.size := (Array.getElem?_eq_some_iff.1 hj).1
    have hcell := hat j hjl
    have hv : cs'[j]? = some (cs'[j]'(by omega)) := List.getElem?_eq_getElem (by omega)
    have h1 := hf j f hj
    rw [ho, hk] at h1
    have hone' : (cs'.drop j).take 1 = [cs'[j]'(by omega)] := by
      rw [List.drop_eq_getElem_cons (by omega)]
      rfl
    rw [hone'] at h1
    have hys : ys[j]? = some (ys[j]'(by omega)) := List.getElem?_eq_getElem (by omega)
    refine ⟨_, _, ?_, hys, h1.trans hys⟩
    rw [← Go.Deep.add_add, hcell, hv]
end

structure It where
  skip : Int
  name : ByteArray
  plain : Bool
/-- items that stand from a slice's head on. -/
def Its (w : World) (hi : Nat) (A : Option Addr) (its : List It) : Prop :=
  0 < its.length → ∃ g o, A = some ⟨g, o, none⟩ ∧ g < hi ∧ ∀ j (h : j < its.length), w.cell? ⟨g, o + j * 3, none⟩ = some (.int .i64 its[j].skip) ∧ w.cell? ⟨g, o + j * 3 + 1, none⟩ = some (.string its[j].name) ∧ w.cell? ⟨g, o + j * 3 + 2, none⟩ = some (.bool its[j].plain)
theorem Its.keep {w w' : World} {hi : Nat} {A : Option Addr} {its : List It} (h : Its w hi A its) (hb : Below hi w w') : Its w' hi A its := fun h0 => by
  obtain ⟨g, o, hA, hg, hc⟩ := h h0
  exact ⟨g, o, hA, hg, fun j hj => ⟨(hb.cell hg).trans (hc j hj).1, (hb.cell hg).trans (hc j hj).2.1, (hb.cell hg).trans (hc j hj).2.2⟩⟩
theorem weights_in {H : Type} {P : Program} {e : TypeId} {d : DataW H} : ∀ {x : List (DataW H)}, d ∈ x → (DataW.weightsAll P e x).all (· ≤ reachBytes) = true → (d.weights P e).all (· ≤ reachBytes) = true
  | c :: r, hm, h => by
    rw [DataW.weightsAll, List.all_append, Bool.and_eq_true] at h
    rcases List.mem_cons.1 hm with rfl | hm
    · exact h.1
    · exact weights_in hm h.2
theorem open_items {H : Type} {enc : TypeId × Value → H} {P : Program} {t e t0 t1 t2 : TypeId} {fs : Array Field} (ht : P.underlying t = some (.slice e)) (he : P.underlying e = some (.struct fs)) (hft : fs.toList.map (·.type) = [t0, t1, t2])
    (h0 : P.underlying t0 = some (.int .i64)) (h1 : P.underlying t1 = some .string) (h2 : P.underlying t2 = some .bool) (hone : oneCellFields P fs = true) (hC : P.cellsOf e = fs.size)
    {W : World} {base : Nat} {v : Value} {d : DataW H} {p : List MemPlace} (hval : Value.okWide P W .any base t v) (h : DataW.Trod enc P W 0 (fun _ => true) true t v d p) :
    ∃ A its c, v = .slice A its.length c ∧ its.length ≤ c ∧ (A = none → c = 0) ∧ Its W W.heap.size A its ∧ (∀ it ∈ its, (Lit.int .i64 it.skip).wf = true) ∧ ((d.weights P t).all (· ≤ reachBytes) = true → ∀ it ∈ its, it.name.size ≤ 140737488351232) := by
  obtain ⟨a0, len, cap, rfl⟩ := okWide_slice ht hval
  obtain ⟨fuel, hf⟩ := h
  have hsz : fs.size = 3 := by have := congrArg List.length hft; simpa using this
  obtain ⟨f0, f1, f2, rfl⟩ : ∃ f0 f1 f2, fs = #[f0, f1, f2] := by
    obtain ⟨l⟩ := fs
    match l, hsz with
    | [a, b, c], _ => exact ⟨a, b, c, rfl⟩
  simp only [List.map_cons, List.map_nil, List.cons.injEq, and_true] at hft
  obtain ⟨rfl, rfl, rfl⟩ := hft
  rcases open_slice_fields ht he hone hC hf with ⟨hcs, hx⟩ | ⟨a, len', cap', m, D, Pl, hcs, _, hl, hm, hmm, hx, hi⟩
  · simp [Value.cells] at hcs
    obtain ⟨rfl, rfl, rfl⟩ := hcs
    exact ⟨none, [], 0, rfl, Nat.le_refl _, fun _ => rfl, (fun h => absurd h (by simp)), (fun it h => by cases h), fun _ it h => by cases h⟩
  · simp [Value.cells] at hcs
    obtain ⟨rfl, rfl, rfl⟩ := hcs
    simp only [Prod.mk.injEq] at hx
    obtain ⟨rfl, rfl⟩ := hx
    simp only [if_true] at hmm
    subst m
    have key : ∀ i, i < cap → ∃ it : It, W.cell? (a.add (i * 3)) = some (.int .i64 it.skip) ∧ W.cell? (a.add (i * 3 + 1)) = some (.string it.name) ∧ W.cell? (a.add (i * 3 + 2)) = some (.bool it.plain) ∧ (Lit.int .i64 it.skip).wf = true ∧
        D i = .agg [.lit (.int .i64 it.skip), .lit (.string it.name.data.toList), .lit (.bool it.plain)] := fun i hik => by
      obtain ⟨ys, n, hD, _, hyl, hg⟩ := hi i hik
      obtain ⟨v0, y0, c0, e0, t0⟩ := hg 0 f0 rfl
      obtain ⟨v1, y1, c1, e1, t1⟩ := hg 1 f1 rfl
      obtain ⟨v2, y2, c2, e2, t2⟩ := hg 2 f2 rfl
      obtain ⟨k, hk, rfl, hwf⟩ := DataW.trod_int h0 t0
      obtain ⟨s, hs, rfl, _⟩ := DataW.trod_string h1 t1
      obtain ⟨b, hb, rfl⟩ := DataW.trod_bool h2 t2
      injection hk with hk _; subst hk
      injection hs with hs _; subst hs
      injection hb with hb _; subst hb
      refine ⟨⟨k, s, b⟩, by simpa using c0, by simpa using c1, by simpa using c2, hwf, ?_⟩
      rw [hD]
      match ys, hyl with
      | [a1, a2, a3], _ =>
        simp only [List.getElem?_cons_zero, List.getElem?_cons_succ, Option.some.injEq] at e0 e1 e2
        subst e0 e1 e2
        rfl
    have key' : ∀ i : Fin cap, ∃ it : It, W.cell? (a.add (i.1 * 3)) = some (.int .i64 it.skip) ∧ W.cell? (a.add (i.1 * 3 + 1)) = some (.string it.name) ∧ W.cell? (a.add (i.1 * 3 + 2)) = some (.bool it.plain) ∧ (Lit.int .i64 it.skip).wf = true ∧
        D i.1 = .agg [.lit (.int .i64 it.skip), .lit (.string it.name.data.toList), .lit (.bool it.plain)] := fun i => key i.1 i.2
    obtain ⟨T, hT⟩ := Classical.axiomOfChoice key'
    have hlen : ((List.finRange cap).take len).length = len := by simp; omega
    have hlen2 : (((List.finRange cap).take len).map T).length = len := by rw [List.length_map, hlen]
    refine ⟨some a, ((List.finRange cap).take len).map T, cap, by rw [hlen2], by omega, (fun h => by cases h), fun hpos => ?_, fun it hit => ?_, fun hw it hit => ?_⟩
    · have hc0 := (hT ⟨0, by omega⟩).1
      rw [Nat.zero_mul] at hc0
      obtain ⟨e1, _⟩ := addr_form (k := 0) hc0
      refine ⟨a.block, a.off, by rw [← e1], ?_, fun j hj => ?_⟩
      · have := World.block_lt_of_cell? _ _ hc0
        rw [e1, (addr_form (k := 0) hc0).2] at this
        exact this
      · rw [hlen2] at hj
        obtain ⟨q0, q1, q2, _⟩ := hT ⟨j, by omega⟩
        rw [e1, (addr_form hc0).2] at q0 q1 q2
        simp only [List.getElem_map, List.getElem_take, List.getElem_finRange, Fin.cast_mk]
        exact ⟨q0, by rw [Nat.add_assoc]; exact q1, by rw [Nat.add_assoc]; exact q2⟩
    · obtain ⟨i, _, rfl⟩ := List.mem_map.1 hit
      exact (hT i).2.2.2.1
    · obtain ⟨i, hi2, rfl⟩ := List.mem_map.1 hit
      have hil : i.1 < len := by
        obtain ⟨k, hk, rfl⟩ := List.mem_iff_getElem.1 hi2
        simp at hk ⊢
        omega
      simp only [DataW.weights, ht, List.all_cons, Bool.and_eq_true, List.all_append] at hw
      have hw1 := weights_in (d := D i.1) (List.mem_map.2 ⟨i.1, List.mem_range.2 hil, rfl⟩) hw.2.1
      rw [(hT i).2.2.2.2] at hw1
      simp only [DataW.weights, he, List.map_cons, List.map_nil, DataW.weightsEach] at hw1
      have := of_decide_eq_true (List.all_eq_true.1 hw1 (T i).name.data.toList.length (by simp))
      unfold reachBytes at this
      simpa using this
end Go.Proofs.Ytnhoaceickojeaa
