/- What a row asks ahead of and behind the walk, for arguments of any types that are not written. -/
import Derived.Test.YtnhoaceickojeaaMem
import Derived.ProofKit
import Derived.OpenShut
import Derived.ShutString
import Derived.WideKeyArgs
import Derived.SliceStrings
import Derived.Deep.DeepHandedRow
import Derived.Deep.DeepWitnessRowRef
namespace Go.Proofs.Ytnhoaceickojeaa
open Go.ChangeShapes Go.WideShapes Go.ChangeAt Go.RowKit

theorem own : ownKnob Try.prog.godebug = none := by kernel_rfl
theorem out : laidOutB Try.prog = true := by kernel_rfl

/-- what holds behind a call of which 'Below' is known: the places that were read are as they were. -/
theorem post_low {H : Type} {enc : TypeId × Value → H} {P : Program} {f : Func} {s : ChangeSpec} {apart fresh handsOn again : Bool} {W W' : World} {args : Array Value} {v : Value} {ds gs : List (DataW H)} {before pa pv : List MemPlace}
    (hW : DataW.Whole enc P f.params.toList s.vars apart W args.toList ds gs before) (hps : before = pa ++ pv) (hb : Below W.heap.size W W')
    (hres : ∀ (b : Nat) (sp : Nat → Bool) (hd : Bool), DataW.TrodAll enc P W' b sp hd f.resultTypes.toList (v.resultList f.resultTypes.size) (s.fn H (ds ++ gs)).results [])
    (hargs : ∀ sp : Nat → Bool, (∀ p ∈ before, sp p.block = true) → DataW.TrodAll enc P W' 0 sp true f.params.toList args.toList (s.fn H (ds ++ gs)).args pa)
    (hvars : ∀ sp : Nat → Bool, (∀ p ∈ before, sp p.block = true) → DataW.TrodVars enc P W' sp s.vars (s.fn H (ds ++ gs)).vars pv)
    (hok : ∀ (j : Nat) (t : TypeId) (r : Value), f.resultTypes[j]? = some t → (v.resultList f.resultTypes.size)[j]? = some r → Value.okWide P W' .any 0 t r) :
    s.post enc P f apart fresh handsOn again W args v W' := by
  have hin : ∀ p ∈ before, (fun b => decide (b < W.heap.size)) p.block = true := fun p hp => by simpa using hW.lt p hp
  have hmem : ∀ p ∈ before, p ∈ pa ∨ p ∈ pv := fun p hp => by rw [hps] at hp; exact List.mem_append.1 hp
  refine ⟨ds, gs, before, [], pa, pv, hW, hres _ _ _, hargs _ hin, hvars _ hin, World.keptBut_mono (fun p hp => ⟨hp, .inr (hmem p hp)⟩) (hb.frame (· ∈ before)), fun _ => ?_⟩
  obtain ⟨_, _, _, _, _, hz, hn⟩ := id hW
  refine ⟨hok, _, _, ([] ++ pa) ++ pv, ⟨[] ++ pa, pv, trodAll_append (hargs _ (fun _ _ => rfl)) (hres _ _ _), hvars _ (fun _ _ => rfl), rfl, fun b off hp => ?_, fun ha => ?_⟩, fun p hp _ => ?_⟩
  · have hb' : MemPlace.cell b off ∈ before := by rw [hps]; simpa using hp
    exact (hb.frozen (hW.lt _ hb')).trans (hz b off hb')
  · have h := hn ha
    rw [hps] at h
    simpa using h
  · rw [hps]; simpa using hp

theorem reach_string {H : Type} {P : Program} {t : TypeId} {ts : List TypeId} {l : List UInt8} {r : List (DataW H)} (h : (DataW.weightsEach P (t :: ts) (.lit (.string l) :: r)).all (· ≤ reachBytes) = true) :
    l.length ≤ 140737488351232 ∧ (DataW.weightsEach P ts r).all (· ≤ reachBytes) = true := by
  have e : DataW.weightsEach P (t :: ts) (.lit (.string l) :: r) = l.length :: DataW.weightsEach P ts r := rfl
  rw [e, List.all_cons, Bool.and_eq_true] at h
  refine ⟨?_, h.2⟩
  have := of_decide_eq_true h.1
  unfold reachBytes at this
  exact this
theorem reach_bool {H : Type} {P : Program} {t : TypeId} {ts : List TypeId} {b : Bool} {r : List (DataW H)} (h : (DataW.weightsEach P (t :: ts) (.lit (.bool b) :: r)).all (· ≤ reachBytes) = true) : (DataW.weightsEach P ts r).all (· ≤ reachBytes) = true := h
theorem reach_int {H : Type} {P : Program} {t : TypeId} {ts : List TypeId} {k : IntKind} {n : Int} {r : List (DataW H)} (h : (DataW.weightsEach P (t :: ts) (.lit (.int k n) :: r)).all (· ≤ reachBytes) = true) : (DataW.weightsEach P ts r).all (· ≤ reachBytes) = true := h


theorem reach_cons {H : Type} {P : Program} {t : TypeId} {ts : List TypeId} {d : DataW H} {r : List (DataW H)} (h : (DataW.weightsEach P (t :: ts) (d :: r)).all (· ≤ reachBytes) = true) :
    (d.weights P t).all (· ≤ reachBytes) = true ∧ (DataW.weightsEach P ts r).all (· ≤ reachBytes) = true := by
  have e : DataW.weightsEach P (t :: ts) (d :: r) = d.weights P t ++ DataW.weightsEach P ts r := rfl
  rw [e, List.all_append, Bool.and_eq_true] at h
  exact h
theorem reach_slice {H : Type} {P : Program} {t e : TypeId} {x y : List (DataW H)} (ht : P.underlying t = some (.slice e)) (h : ((DataW.slice x y).weights P t).all (· ≤ reachBytes) = true) : (x.length + y.length) * P.bytesOf e ≤ 140737488351232 := by
  simp only [DataW.weights, ht, List.all_cons, Bool.and_eq_true] at h
  have := of_decide_eq_true h.1
  unfold reachBytes at this
  exact this
theorem reach_str {H : Type} {P : Program} {t : TypeId} {s : ByteArray} (h : ((DataW.lit (.string s.data.toList) : DataW H).weights P t).all (· ≤ reachBytes) = true) : s.size ≤ 140737488351232 := by
  have e : (DataW.lit (.string s.data.toList) : DataW H).weights P t = [s.data.toList.length] := by unfold DataW.weights; rfl
  rw [e, List.all_cons, Bool.and_eq_true] at h
  have := of_decide_eq_true h.1
  unfold reachBytes at this
  simpa using this
/-- all arguments read behind the call as they did. -/
theorem trodAll_stays {H : Type} {enc : TypeId × Value → H} {P : Program} (hl : laidOutB P = true) {W W' : World} {sp : Nat → Bool} : ∀ {ts : List TypeId} {vs : List Value} {ds : List (DataW H)} {ps : List MemPlace},
    (ts.all fun t => P.readableRec t && decide (t < P.types.size)) = true → DataW.TrodAll enc P W 0 (fun _ => true) true ts vs ds ps → (∀ p ∈ ps, W.sameAt W' p) → (∀ p ∈ ps, sp p.block = true) → DataW.TrodAll enc P W' 0 sp true ts vs ds ps := by
  intro ts
  induction ts with
  | nil =>
    intro vs ds ps _ h _ _
    obtain ⟨rfl, rfl, rfl⟩ := trodAll_nil h
    exact trodAll_mk0
  | cons t ts ih =>
    intro vs ds ps hr h hs hsp
    obtain ⟨v, vs', d, ds', p, q, rfl, rfl, rfl, h0, h1⟩ := trodAll_cons h
    simp only [List.all_cons, Bool.and_eq_true, decide_eq_true_eq] at hr
    exact trodAll_cons_mk (WideElems.Trod_stays hl hr.1.1 hr.1.2 h0 (fun x hx => hs x (List.mem_append_left _ hx)) (fun x hx => hsp x (List.mem_append_left _ hx)))
      (ih (by simpa using hr.2) h1 (fun x hx => hs x (List.mem_append_right _ hx)) (fun x hx => hsp x (List.mem_append_right _ hx)))
theorem addr_form {w : World} {a : Addr} {k : Nat} {v : Value} (h : w.cell? (a.add 0) = some v) : a = ⟨a.block, a.off, none⟩ ∧ (⟨a.block, a.off, none⟩ : Addr).add k = ⟨a.block, a.off + k, none⟩ := by
  obtain ⟨ab, ao, spot⟩ := a
  have hs : spot = none := by simpa [Addr.add] using World.cell?_spot h
  subst hs
  exact ⟨rfl, addr_add ab ao k⟩
/-- a slice of bytes that came in, nil or not. -/
theorem open_bs {H : Type} {enc : TypeId × Value → H} {P : Program} {t e : TypeId} (ht : P.underlying t = some (.slice e)) (he : P.underlying e = some (.int .u8)) (hc : P.cellsOf e = 1) (hb : P.bytesOf e = 1)
    {W : World} {base : Nat} {v : Value} {d : DataW H} {p : List MemPlace} (hval : Value.okWide P W .any base t v) (h : DataW.Trod enc P W 0 (fun _ => true) true t v d p) :
    ∃ A l c, v = .slice A l.length c ∧ l.length ≤ c ∧ (A = none → c = 0) ∧ Bs W 0 W.heap.size A l ∧ ((d.weights P t).all (· ≤ reachBytes) = true → c ≤ 140737488351232) := by
  obtain ⟨a0, len, cap, rfl⟩ := okWide_slice ht hval
  obtain ⟨fuel, hf⟩ := h
  rcases open_ints ht he hc hf with ⟨hcs, hx⟩ | ⟨a, len', cap', zs, hcs, _, hl, hm, hz, hx, hcell, hwz⟩
  · simp [Value.cells] at hcs
    obtain ⟨rfl, rfl, rfl⟩ := hcs
    exact ⟨none, [], 0, rfl, Nat.le_refl _, fun _ => rfl, Bs.nil, fun _ => by omega⟩
  · simp [Value.cells] at hcs
    obtain ⟨rfl, rfl, rfl⟩ := hcs
    simp only [Prod.mk.injEq] at hx
    obtain ⟨rfl, rfl⟩ := hx
    simp only [if_true] at hz
    have hlen : ((zs.take len).map fun n => UInt8.ofNat n.toNat).length = len := by simp; omega
    refine ⟨some a, (zs.take len).map fun n => UInt8.ofNat n.toNat, cap, by rw [hlen], by omega, (fun h => by cases h), fun h0 => ?_, fun hw => ?_⟩
    · have hc0 := hcell 0 (by omega)
      obtain ⟨e1, _⟩ := addr_form (k := 0) hc0
      refine ⟨a.block, a.off, by rw [← e1], Nat.zero_le _, ?_, fun j hj => ?_⟩
      · have := World.block_lt_of_cell? _ _ hc0
        rw [e1, (addr_form (k := 0) hc0).2] at this
        exact this
      · rw [hlen] at hj
        have hcj := hcell j (by omega)
        rw [e1, (addr_form (k := j) hc0).2] at hcj
        rw [hcj]
        have hb := range_u8 hwz j
        simp only [List.getElem_map, List.getElem_take]
        have e : zs.getD j 0 = zs[j]'(by omega) := by simp [List.getD, List.getElem?_eq_getElem (show j < zs.length by omega)]
        rw [List.getD_eq_getElem?_getD] at e
        rw [e] at hb
        rw [List.getD_eq_getElem?_getD, e]
        congr 2
        simp only [UInt8.toNat_ofNat']
        omega
    · have := reach_slice ht hw
      rw [hb] at this
      simp [lits] at this
      omega
/-- strings that stand from a slice's head on. -/
def Ss (w : World) (hi : Nat) (A : Option Addr) (ls : List (List UInt8)) : Prop :=
  0 < ls.length → ∃ g o, A = some ⟨g, o, none⟩ ∧ g < hi ∧ ∀ j (h : j < ls.length), w.cell? ⟨g, o + j, none⟩ = some (sv ls[j])
theorem Ss.rd {w : World} {hi c : Nat} {A : Option Addr} {ls : List (List UInt8)} (h : Ss w hi A ls) (hc : ls.length ≤ c) : Rd w hi (.slice A ls.length c) ls := ⟨A, c, rfl, hc, h⟩
theorem weights_strs {H : Type} {P : Program} {e : TypeId} : ∀ ss : List ByteArray, DataW.weightsAll P e (strs ss : List (DataW H)) = ss.map (·.data.toList.length)
  | [] => by unfold strs; rw [List.map_nil, DataW.weightsAll]; rfl
  | s :: ss => by
    have ih := weights_strs (H := H) (P := P) (e := e) ss
    unfold strs at ih ⊢
    rw [List.map_cons, DataW.weightsAll, ih]
    simp [DataW.weights]
/-- a slice of strings that came in, nil or not. -/
theorem open_strs {H : Type} {enc : TypeId × Value → H} {P : Program} {t e : TypeId} (ht : P.underlying t = some (.slice e)) (he : P.underlying e = some .string) (hc : P.cellsOf e = 1) (hb : P.bytesOf e = 16)
    {W : World} {base : Nat} {v : Value} {d : DataW H} {p : List MemPlace} (hval : Value.okWide P W .any base t v) (h : DataW.Trod enc P W 0 (fun _ => true) true t v d p) :
    ∃ A ls c, v = .slice A ls.length c ∧ ls.length ≤ c ∧ (A = none → c = 0) ∧ Ss W W.heap.size A ls ∧ ((d.weights P t).all (· ≤ reachBytes) = true → c * 16 ≤ 140737488351232 ∧ ∀ l ∈ ls, l.length ≤ 140737488351232) := by
  obtain ⟨a0, len, cap, rfl⟩ := okWide_slice ht hval
  obtain ⟨fuel, hf⟩ := h
  rcases open_strings ht he hc hf with ⟨hcs, hx⟩ | ⟨a, len', cap', ss, hcs, _, hl, hm, hz, hx, hcell, _⟩
  · simp [Value.cells] at hcs
    obtain ⟨rfl, rfl, rfl⟩ := hcs
    exact ⟨none, [], 0, rfl, Nat.le_refl _, fun _ => rfl, (fun h => absurd h (by simp)), fun _ => ⟨by omega, fun l h => by cases h⟩⟩
  · simp [Value.cells] at hcs
    obtain ⟨rfl, rfl, rfl⟩ := hcs
    simp only [Prod.mk.injEq] at hx
    obtain ⟨rfl, rfl⟩ := hx
    simp only [if_true] at hz
    have hlen : ((ss.take len).map fun s => s.data.toList).length = len := by simp; omega
    refine ⟨some a, (ss.take len).map fun s => s.data.toList, cap, by rw [hlen], by omega, (fun h => by cases h), fun h0 => ?_, fun hw => ⟨?_, ?_⟩⟩
    · have hc0 := hcell 0 (by omega)
      obtain ⟨e1, _⟩ := addr_form (k := 0) hc0
      refine ⟨a.block, a.off, by rw [← e1], ?_, fun j hj => ?_⟩
      · have := World.block_lt_of_cell? _ _ hc0
        rw [e1, (addr_form (k := 0) hc0).2] at this
        exact this
      · rw [hlen] at hj
        have hcj := hcell j (by omega)
        rw [e1, (addr_form (k := j) hc0).2] at hcj
        rw [hcj]
        simp only [List.getElem_map, List.getElem_take]
        have e : ss.getD j ByteArray.empty = ss[j]'(by omega) := by simp [List.getD, List.getElem?_eq_getElem (show j < ss.length by omega)]
        rw [e, show sv (ss[j]'(by omega)).data.toList = Value.string (ss[j]'(by omega)) from congrArg Value.string (string_eq (s := ss[j]'(by omega)) rfl).symm]
    · have := reach_slice ht hw
      rw [hb] at this
      simp [strs] at this
      have e2 : min len ss.length + (ss.length - len) = cap := by omega
      rw [e2] at this
      exact this
    · intro l hl2
      simp only [DataW.weights, ht, List.all_cons, Bool.and_eq_true, List.all_append] at hw
      have hw1 := hw.2.1
      rw [weights_strs] at hw1
      obtain ⟨s, hs, rfl⟩ := List.mem_map.1 hl2
      have := of_decide_eq_true (List.all_eq_true.1 hw1 _ (List.mem_map.2 ⟨s, hs, rfl⟩))
      unfold reachBytes at this
      exact this
end Go.Proofs.Ytnhoaceickojeaa
