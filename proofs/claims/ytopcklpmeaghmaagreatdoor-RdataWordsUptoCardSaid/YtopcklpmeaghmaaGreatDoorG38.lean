/- Texts of the proofs, merged. -/
import Derived.Test.YtopcklpmeaghmaaGreatDoorG5
import Derived.Test.YtopcklpmeaghmaaGreatDoorG1
import Derived.ProofKit
import Derived.OpenShut
import Derived.ShutString
import Derived.WideKeyArgs
import Derived.SliceStrings
import Derived.Deep.DeepHandedRow
import Derived.Deep.DeepWitnessRowRef
import Derived.Deep.Slices
import Derived.Deep.Fields
import Derived.ChangeSame
import Derived.Test.YtopcklpmeaghmaaGreatDoorG36
import Derived.Deep.DeepAppendWide
import Derived.Lib.AppendZeros
/- The document's answer on data: Put refused. -/
namespace Go.Proofs.YtopcklpmeaghmaaGreatDoor
open Go.RowKit

end Go.Proofs.YtopcklpmeaghmaaGreatDoor
/- What a row asks ahead of and behind the walk, for arguments of any types that are not written. -/
namespace Go.Proofs.YtopcklpmeaghmaaGreatDoor
open Go.ChangeShapes Go.WideShapes Go.ChangeAt Go.RowKit

theorem own : ownKnob Tryz.prog.godebug = none := by kernel_rfl
theorem out : laidOutB Tryz.prog = true := by kernel_rfl

/-- what holds behind a call of which 'Below' is known: the places that were read are as they were. -/
theorem post_low {H : Type} {enc : TypeId × Value → H} {P : Program} {f : Func} {s : ChangeSpec} {apart fresh handsOn again : Bool} {W W' : World} {args : Array Value} {v : Value} {ds gs : List (DataW H)} {before pa pv : List MemPlace}
    (hW : DataW.Whole enc P f.params.toList s.vars apart W args.toList ds gs before) (hps : before = pa ++ pv) (hb : Below W.heap.size W W')
    (hres : ∀ (b : Nat) (sp : Nat → Bool) (hd : Bool), DataW.TrodAll enc P W' b sp hd f.resultTypes.toList (v.resultList f.resultTypes.size) (s.fn H (ds ++ gs)).results [])
    (hargs : ∀ sp : Nat → Bool, (∀ p ∈ before, sp p.block = true) → DataW.TrodAll enc P W' 0 sp true f.params.toList args.toList (s.fn H (ds ++ gs)).args pa)
    (hvars : ∀ sp : Nat → Bool, (∀ p ∈ before, sp p.block = true) → DataW.TrodVars enc P W' sp s.vars (s.fn H (ds ++ gs)).vars pv)
    (hok : ∀ (j : Nat) (t : TypeId) (r : Value), f.resultTypes[j]? = some t → (v.resultList f.resultTypes.size)[j]? = some r → Value.okWide P W' .any 0 t r) :
    s.post enc P f apart fresh handsOn again W args v W' := by
  have hin : ∀ p ∈ before, (fun b => decide (b < W.heap.size)) p.block = true := fun p hp => by simpa using hW.lt p hp
  have hmem : ∀ p ∈ before, p ∈ pa ∨ p ∈ pv := fun p hp => by rw [hps] at hp; exact List.mem_append.1 hp
  refine ⟨ds, gs, before, [], pa, pv, hW, hres _ _ _, hargs _ hin, hvars _ hin, World.keptBut_mono (fun p hp => ⟨hp, .inr (hmem p hp)⟩) (hb.frame (· ∈ before)), fun _ => ?_⟩
  obtain ⟨_, _, _, _, _, hz, hn⟩ := id hW
  refine ⟨hok, _, _, ([] ++ pa) ++ pv, ⟨[] ++ pa, pv, trodAll_append (hargs _ (fun _ _ => rfl)) (hres _ _ _), hvars _ (fun _ _ => rfl), rfl, fun b off hp => ?_, fun ha => ?_⟩, fun p hp _ => ?_⟩
  · have hb' : MemPlace.cell b off ∈ before := by rw [hps]; simpa using hp
    exact (hb.frozen (hW.lt _ hb')).trans (hz b off hb')
  · have h := hn ha
    rw [hps] at h
    simpa using h
  · rw [hps]; simpa using hp

theorem reach_string {H : Type} {P : Program} {t : TypeId} {ts : List TypeId} {l : List UInt8} {r : List (DataW H)} (h : (DataW.weightsEach P (t :: ts) (.lit (.string l) :: r)).all (· ≤ reachBytes) = true) :
    l.length ≤ 140737488351232 ∧ (DataW.weightsEach P ts r).all (· ≤ reachBytes) = true := by
  have e : DataW.weightsEach P (t :: ts) (.lit (.string l) :: r) = l.length :: DataW.weightsEach P ts r := rfl
  rw [e, List.all_cons, Bool.and_eq_true] at h
  refine ⟨?_, h.2⟩
  have := of_decide_eq_true h.1
  unfold reachBytes at this
  exact this
theorem reach_bool {H : Type} {P : Program} {t : TypeId} {ts : List TypeId} {b : Bool} {r : List (DataW H)} (h : (DataW.weightsEach P (t :: ts) (.lit (.bool b) :: r)).all (· ≤ reachBytes) = true) : (DataW.weightsEach P ts r).all (· ≤ reachBytes) = true := h
theorem reach_int {H : Type} {P : Program} {t : TypeId} {ts : List TypeId} {k : IntKind} {n : Int} {r : List (DataW H)} (h : (DataW.weightsEach P (t :: ts) (.lit (.int k n) :: r)).all (· ≤ reachBytes) = true) : (DataW.weightsEach P ts r).all (· ≤ reachBytes) = true := h


theorem reach_cons {H : Type} {P : Program} {t : TypeId} {ts : List TypeId} {d : DataW H} {r : List (DataW H)} (h : (DataW.weightsEach P (t :: ts) (d :: r)).all (· ≤ reachBytes) = true) :
    (d.weights P t).all (· ≤ reachBytes) = true ∧ (DataW.weightsEach P ts r).all (· ≤ reachBytes) = true := by
  have e : DataW.weightsEach P (t :: ts) (d :: r) = d.weights P t ++ DataW.weightsEach P ts r := rfl
  rw [e, List.all_append, Bool.and_eq_true] at h
  exact h
theorem reach_slice {H : Type} {P : Program} {t e : TypeId} {x y : List (DataW H)} (ht : P.underlying t = some (.slice e)) (h : ((DataW.slice x y).weights P t).all (· ≤ reachBytes) = true) : (x.length + y.length) * P.bytesOf e ≤ 140737488351232 := by
  simp only [DataW.weights, ht, List.all_cons, Bool.and_eq_true] at h
  have := of_decide_eq_true h.1
  unfold reachBytes at this
  exact this
theorem reach_str {H : Type} {P : Program} {t : TypeId} {s : ByteArray} (h : ((DataW.lit (.string s.data.toList) : DataW H).weights P t).all (· ≤ reachBytes) = true) : s.size ≤ 140737488351232 := by
  have e : (DataW.lit (.string s.data.toList) : DataW H).weights P t = [s.data.toList.length] := by unfold DataW.weights; rfl
  rw [e, List.all_cons, Bool.and_eq_true] at h
  have := of_decide_eq_true h.1
  unfold reachBytes at this
  simpa using this
/-- all arguments read behind the call as they did. -/
theorem trodAll_stays {H : Type} {enc : TypeId × Value → H} {P : Program} (hl : laidOutB P = true) {W W' : World} {sp : Nat → Bool} : ∀ {ts : List TypeId} {vs : List Value} {ds : List (DataW H)} {ps : List MemPlace},
    (ts.all fun t => P.readableRec t && decide (t < P.types.size)) = true → DataW.TrodAll enc P W 0 (fun _ => true) true ts vs ds ps → (∀ p ∈ ps, W.sameAt W' p) → (∀ p ∈ ps, sp p.block = true) → DataW.TrodAll enc P W' 0 sp true ts vs ds ps := by
  intro ts
  induction ts with
  | nil =>
    intro vs ds ps _ h _ _
    obtain ⟨rfl, rfl, rfl⟩ := trodAll_nil h
    exact trodAll_mk0
  | cons t ts ih =>
    intro vs ds ps hr h hs hsp
    obtain ⟨v, vs', d, ds', p, q, rfl, rfl, rfl, h0, h1⟩ := trodAll_cons h
    simp only [List.all_cons, Bool.and_eq_true, decide_eq_true_eq] at hr
    exact trodAll_cons_mk (WideElems.Trod_stays hl hr.1.1 hr.1.2 h0 (fun x hx => hs x (List.mem_append_left _ hx)) (fun x hx => hsp x (List.mem_append_left _ hx)))
      (ih (by simpa using hr.2) h1 (fun x hx => hs x (List.mem_append_right _ hx)) (fun x hx => hsp x (List.mem_append_right _ hx)))
theorem addr_form {w : World} {a : Addr} {k : Nat} {v : Value} (h : w.cell? (a.add 0) = some v) : a = ⟨a.block, a.off, none⟩ ∧ (⟨a.block, a.off, none⟩ : Addr).add k = ⟨a.block, a.off + k, none⟩ := by
  obtain ⟨ab, ao, spot⟩ := a
  have hs : spot = none := by simpa [Addr.add] using World.cell?_spot h
  subst hs
  exact ⟨rfl, addr_add ab ao k⟩
/-- a slice of bytes that came in, nil or not. -/
theorem open_bs {H : Type} {enc : TypeId × Value → H} {P : Program} {t e : TypeId} (ht : P.underlying t = some (.slice e)) (he : P.underlying e = some (.int .u8)) (hc : P.cellsOf e = 1) (hb : P.bytesOf e = 1)
    {W : World} {base : Nat} {v : Value} {d : DataW H} {p : List MemPlace} (hval : Value.okWide P W .any base t v) (h : DataW.Trod enc P W 0 (fun _ => true) true t v d p) :
    ∃ A l c, v = .slice A l.length c ∧ l.length ≤ c ∧ (A = none → c = 0) ∧ Bs W 0 W.heap.size A l ∧ ((d.weights P t).all (· ≤ reachBytes) = true → c ≤ 140737488351232) := by
  obtain ⟨a0, len, cap, rfl⟩ := okWide_slice ht hval
  obtain ⟨fuel, hf⟩ := h
  rcases open_ints ht he hc hf with ⟨hcs, hx⟩ | ⟨a, len', cap', zs, hcs, _, hl, hm, hz, hx, hcell, hwz⟩
  · simp [Value.cells] at hcs
    obtain ⟨rfl, rfl, rfl⟩ := hcs
    exact ⟨none, [], 0, rfl, Nat.le_refl _, fun _ => rfl, Bs.nil, fun _ => by omega⟩
  · simp [Value.cells] at hcs
    obtain ⟨rfl, rfl, rfl⟩ := hcs
    simp only [Prod.mk.injEq] at hx
    obtain ⟨rfl, rfl⟩ := hx
    simp only [if_true] at hz
    have hlen : ((zs.take len).map fun n => UInt8.ofNat n.toNat).length = len := by simp; omega
    refine ⟨some a, (zs.take len).map fun n => UInt8.ofNat n.toNat, cap, by rw [hlen], by omega, (fun h => by cases h), fun h0 => ?_, fun hw => ?_⟩
    · have hc0 := hcell 0 (by omega)
      obtain ⟨e1, _⟩ := addr_form (k := 0) hc0
      refine ⟨a.block, a.off, by rw [← e1], Nat.zero_le _, ?_, fun j hj => ?_⟩
      · have := World.block_lt_of_cell? _ _ hc0
        rw [e1, (addr_form (k := 0) hc0).2] at this
        exact this
      · rw [hlen] at hj
        have hcj := hcell j (by omega)
        rw [e1, (addr_form (k := j) hc0).2] at hcj
        rw [hcj]
        have hb := range_u8 hwz j
        simp only [List.getElem_map, List.getElem_take]
        have e : zs.getD j 0 = zs[j]'(by omega) := by simp [List.getD, List.getElem?_eq_getElem (show j < zs.length by omega)]
        rw [List.getD_eq_getElem?_getD] at e
        rw [e] at hb
        rw [List.getD_eq_getElem?_getD, e]
        congr 2
        simp only [UInt8.toNat_ofNat']
        omega
    · have := reach_slice ht hw
      rw [hb] at this
      simp [lits] at this
      omega
/-- strings that stand from a slice's head on. -/
def Ss (w : World) (hi : Nat) (A : Option Addr) (ls : List (List UInt8)) : Prop :=
  0 < ls.length → ∃ g o, A = some ⟨g, o, none⟩ ∧ g < hi ∧ ∀ j (h : j < ls.length), w.cell? ⟨g, o + j, none⟩ = some (sv ls[j])
theorem Ss.rd {w : World} {hi c : Nat} {A : Option Addr} {ls : List (List UInt8)} (h : Ss w hi A ls) (hc : ls.length ≤ c) : Rd w hi (.slice A ls.length c) ls := ⟨A, c, rfl, hc, h⟩
theorem weights_strs {H : Type} {P : Program} {e : TypeId} : ∀ ss : List ByteArray, DataW.weightsAll P e (strs ss : List (DataW H)) = ss.map (·.data.toList.length)
  | [] => by unfold strs; rw [List.map_nil, DataW.weightsAll]; rfl
  | s :: ss => by
    have ih := weights_strs (H := H) (P := P) (e := e) ss
    unfold strs at ih ⊢
    rw [List.map_cons, DataW.weightsAll, ih]
    simp [DataW.weights]
/-- a slice of strings that came in, nil or not. -/
theorem open_strs {H : Type} {enc : TypeId × Value → H} {P : Program} {t e : TypeId} (ht : P.underlying t = some (.slice e)) (he : P.underlying e = some .string) (hc : P.cellsOf e = 1) (hb : P.bytesOf e = 16)
    {W : World} {base : Nat} {v : Value} {d : DataW H} {p : List MemPlace} (hval : Value.okWide P W .any base t v) (h : DataW.Trod enc P W 0 (fun _ => true) true t v d p) :
    ∃ A ls c, v = .slice A ls.length c ∧ ls.length ≤ c ∧ (A = none → c = 0) ∧ Ss W W.heap.size A ls ∧ ((d.weights P t).all (· ≤ reachBytes) = true → c * 16 ≤ 140737488351232 ∧ ∀ l ∈ ls, l.length ≤ 140737488351232) := by
  obtain ⟨a0, len, cap, rfl⟩ := okWide_slice ht hval
  obtain ⟨fuel, hf⟩ := h
  rcases open_strings ht he hc hf with ⟨hcs, hx⟩ | ⟨a, len', cap', ss, hcs, _, hl, hm, hz, hx, hcell, _⟩
  · simp [Value.cells] at hcs
    obtain ⟨rfl, rfl, rfl⟩ := hcs
    exact ⟨none, [], 0, rfl, Nat.le_refl _, fun _ => rfl, (fun h => absurd h (by simp)), fun _ => ⟨by omega, fun l h => by cases h⟩⟩
  · simp [Value.cells] at hcs
    obtain ⟨rfl, rfl, rfl⟩ := hcs
    simp only [Prod.mk.injEq] at hx
    obtain ⟨rfl, rfl⟩ := hx
    simp only [if_true] at hz
    have hlen : ((ss.take len).map fun s => s.data.toList).length = len := by simp; omega
    refine ⟨some a, (ss.take len).map fun s => s.data.toList, cap, by rw [hlen], by omega, (fun h => by cases h), fun h0 => ?_, fun hw => ⟨?_, ?_⟩⟩
    · have hc0 := hcell 0 (by omega)
      obtain ⟨e1, _⟩ := addr_form (k := 0) hc0
      refine ⟨a.block, a.off, by rw [← e1], ?_, fun j hj => ?_⟩
      · have := World.block_lt_of_cell? _ _ hc0
        rw [e1, (addr_form (k := 0) hc0).2] at this
        exact this
      · rw [hlen] at hj
        have hcj := hcell j (by omega)
        rw [e1, (addr_form (k := j) hc0).2] at hcj
        rw [hcj]
        simp only [List.getElem_map, List.getElem_take]
        have e : ss.getD j ByteArray.empty = ss[j]'(by omega) := by simp [List.getD, List.getElem?_eq_getElem (show j < ss.length by omega)]
        rw [e, show sv (ss[j]'(by omega)).data.toList = Value.string (ss[j]'(by omega)) from congrArg Value.string (string_eq (s := ss[j]'(by omega)) rfl).symm]
    · have := reach_slice ht hw
      rw [hb] at this
      simp [strs] at this
      have e2 : min len ss.length + (ss.length - len) = cap := by omega
      rw [e2] at this
      exact this
    · intro l hl2
      simp only [DataW.weights, ht, List.all_cons, Bool.and_eq_true, List.all_append] at hw
      have hw1 := hw.2.1
      rw [weights_strs] at hw1
      obtain ⟨s, hs, rfl⟩ := List.mem_map.1 hl2
      have := of_decide_eq_true (List.all_eq_true.1 hw1 _ (List.mem_map.2 ⟨s, hs, rfl⟩))
      unfold reachBytes at this
      exact this
end Go.Proofs.YtopcklpmeaghmaaGreatDoor
/- A slice of items that came in, nil or not: each with a number, a name and a mark. -/
namespace Go.Proofs.YtopcklpmeaghmaaGreatDoor
open Go.ChangeShapes Go.WideShapes Go.Deep Go.RowKit

section
variable {H : Type} {enc : TypeId × Value → H} {P : Program} {w : World} {base : Nat} {spare : Nat → Bool} {held : Bool}
theorem open_slice_fields {t e : TypeId} {fs : Array Field} {fuel : Nat} {cs : List Value} {x : DataW H × List MemPlace} (ht : P.underlying t = some (.slice e)) (he : P.underlying e = some (.struct fs))
    (hone : oneCellFields P fs = true) (hC : P.cellsOf e = fs.size) (h : DataW.trod enc P w base spare held fuel t cs = some x) :
    (cs = [.slice none 0 0] ∧ x = (.nil, [])) ∨
    ∃ (a : Addr) (len cap m : Nat) (D : Nat → DataW H) (Pl : Nat → List MemPlace), cs = [.slice (some a) len cap] ∧ base ≤ a.block ∧ len ≤ cap ∧ cap ≤ maxLen ∧ m = (if spare a.block then cap else len) ∧
      x = (.slice ((List.range len).map D) ((List.range (m - len)).map fun j => D (len + j)), MemPlace.row a (m * fs.size) ++ (List.range m).flatMap Pl) ∧
      ∀ i, i < m → ∃ (ys : List (DataW H × List MemPlace)) (n : Nat), D i = .agg (ys.map (·.1)) ∧ Pl i = ys.flatMap (·.2) ∧ ys.length = fs.size ∧
        ∀ (j : Nat) (f : Field), fs[j]? = some f → ∃ (v : Value) (y : DataW H × List MemPlace), w.cell? (a.add (i * fs.size + j)) = some v ∧ ys[j]? = some y ∧ DataW.trod enc P w base spare held n f.type [v] = some y := by
  rcases open_slice ht h with h0 | ⟨a, len, cap, m, n, D, Pl, hcs, hb, hl, hm, hmm, hx, hi⟩
  · exact .inl h0
  · refine .inr ⟨a, len, cap, m, D, Pl, hcs, hb, hl, hm, hmm, by rw [hC] at hx; exact hx, fun i him => ?_⟩
    obtain ⟨cs', hc, ht'⟩ := hi i him
    rw [hC] at hc
    obtain ⟨ys, n', hn', hy, hlen, hyl, hf⟩ := DataW.trod_struct he ht'
    obtain ⟨_, hcl, hat⟩ := World.cells?_some hc
    simp only [Prod.mk.injEq] at hy
    refine ⟨ys, n', hy.1, hy.2, hyl, fun j f hj => ?_⟩
    obtain ⟨ho, hk⟩ := hone_of hone j f hj
    have hjl : j < fs.size := (Array.getElem?_eq_some_iff.1 hj).1
    have hcell := hat j hjl
    have hv : cs'[j]? = some (cs'[j]'(by omega)) := List.getElem?_eq_getElem (by omega)
    have h1 := hf j f hj
    rw [ho, hk] at h1
    have hone' : (cs'.drop j).take 1 = [cs'[j]'(by omega)] := by
      rw [List.drop_eq_getElem_cons (by omega)]
      rfl
    rw [hone'] at h1
    have hys : ys[j]? = some (ys[j]'(by omega)) := List.getElem?_eq_getElem (by omega)
    refine ⟨_, _, ?_, hys, h1.trans hys⟩
    rw [← Go.Deep.add_add, hcell, hv]
end

structure It where
  skip : Int
  name : ByteArray
  plain : Bool
/-- items that stand from a slice's head on. -/
def Its (w : World) (hi : Nat) (A : Option Addr) (its : List It) : Prop :=
  0 < its.length → ∃ g o, A = some ⟨g, o, none⟩ ∧ g < hi ∧ ∀ j (h : j < its.length), w.cell? ⟨g, o + j * 3, none⟩ = some (.int .i64 its[j].skip) ∧ w.cell? ⟨g, o + j * 3 + 1, none⟩ = some (.string its[j].name) ∧ w.cell? ⟨g, o + j * 3 + 2, none⟩ = some (.bool its[j].plain)
theorem Its.keep {w w' : World} {hi : Nat} {A : Option Addr} {its : List It} (h : Its w hi A its) (hb : Below hi w w') : Its w' hi A its := fun h0 => by
  obtain ⟨g, o, hA, hg, hc⟩ := h h0
  exact ⟨g, o, hA, hg, fun j hj => ⟨(hb.cell hg).trans (hc j hj).1, (hb.cell hg).trans (hc j hj).2.1, (hb.cell hg).trans (hc j hj).2.2⟩⟩
theorem weights_in {H : Type} {P : Program} {e : TypeId} {d : DataW H} : ∀ {x : List (DataW H)}, d ∈ x → (DataW.weightsAll P e x).all (· ≤ reachBytes) = true → (d.weights P e).all (· ≤ reachBytes) = true
  | c :: r, hm, h => by
    rw [DataW.weightsAll, List.all_append, Bool.and_eq_true] at h
    rcases List.mem_cons.1 hm with rfl | hm
    · exact h.1
    · exact weights_in hm h.2
theorem open_items {H : Type} {enc : TypeId × Value → H} {P : Program} {t e t0 t1 t2 : TypeId} {fs : Array Field} (ht : P.underlying t = some (.slice e)) (he : P.underlying e = some (.struct fs)) (hft : fs.toList.map (·.type) = [t0, t1, t2])
    (h0 : P.underlying t0 = some (.int .i64)) (h1 : P.underlying t1 = some .string) (h2 : P.underlying t2 = some .bool) (hone : oneCellFields P fs = true) (hC : P.cellsOf e = fs.size)
    {W : World} {base : Nat} {v : Value} {d : DataW H} {p : List MemPlace} (hval : Value.okWide P W .any base t v) (h : DataW.Trod enc P W 0 (fun _ => true) true t v d p) :
    ∃ A its c, v = .slice A its.length c ∧ its.length ≤ c ∧ (A = none → c = 0) ∧ Its W W.heap.size A its ∧ (∀ it ∈ its, (Lit.int .i64 it.skip).wf = true) ∧ ((d.weights P t).all (· ≤ reachBytes) = true → ∀ it ∈ its, it.name.size ≤ 140737488351232) := by
  obtain ⟨a0, len, cap, rfl⟩ := okWide_slice ht hval
  obtain ⟨fuel, hf⟩ := h
  have hsz : fs.size = 3 := by have := congrArg List.length hft; simpa using this
  obtain ⟨f0, f1, f2, rfl⟩ : ∃ f0 f1 f2, fs = #[f0, f1, f2] := by
    obtain ⟨l⟩ := fs
    match l, hsz with
    | [a, b, c], _ => exact ⟨a, b, c, rfl⟩
  simp only [List.map_cons, List.map_nil, List.cons.injEq, and_true] at hft
  obtain ⟨rfl, rfl, rfl⟩ := hft
  rcases open_slice_fields ht he hone hC hf with ⟨hcs, hx⟩ | ⟨a, len', cap', m, D, Pl, hcs, _, hl, hm, hmm, hx, hi⟩
  · simp [Value.cells] at hcs
    obtain ⟨rfl, rfl, rfl⟩ := hcs
    exact ⟨none, [], 0, rfl, Nat.le_refl _, fun _ => rfl, (fun h => absurd h (by simp)), (fun it h => by cases h), fun _ it h => by cases h⟩
  · simp [Value.cells] at hcs
    obtain ⟨rfl, rfl, rfl⟩ := hcs
    simp only [Prod.mk.injEq] at hx
    obtain ⟨rfl, rfl⟩ := hx
    simp only [if_true] at hmm
    subst m
    have key : ∀ i, i < cap → ∃ it : It, W.cell? (a.add (i * 3)) = some (.int .i64 it.skip) ∧ W.cell? (a.add (i * 3 + 1)) = some (.string it.name) ∧ W.cell? (a.add (i * 3 + 2)) = some (.bool it.plain) ∧ (Lit.int .i64 it.skip).wf = true ∧
        D i = .agg [.lit (.int .i64 it.skip), .lit (.string it.name.data.toList), .lit (.bool it.plain)] := fun i hik => by
      obtain ⟨ys, n, hD, _, hyl, hg⟩ := hi i hik
      obtain ⟨v0, y0, c0, e0, t0⟩ := hg 0 f0 rfl
      obtain ⟨v1, y1, c1, e1, t1⟩ := hg 1 f1 rfl
      obtain ⟨v2, y2, c2, e2, t2⟩ := hg 2 f2 rfl
      obtain ⟨k, hk, rfl, hwf⟩ := DataW.trod_int h0 t0
      obtain ⟨s, hs, rfl, _⟩ := DataW.trod_string h1 t1
      obtain ⟨b, hb, rfl⟩ := DataW.trod_bool h2 t2
      injection hk with hk _; subst hk
      injection hs with hs _; subst hs
      injection hb with hb _; subst hb
      refine ⟨⟨k, s, b⟩, by simpa using c0, by simpa using c1, by simpa using c2, hwf, ?_⟩
      rw [hD]
      match ys, hyl with
      | [a1, a2, a3], _ =>
        simp only [List.getElem?_cons_zero, List.getElem?_cons_succ, Option.some.injEq] at e0 e1 e2
        subst e0 e1 e2
        rfl
    have key' : ∀ i : Fin cap, ∃ it : It, W.cell? (a.add (i.1 * 3)) = some (.int .i64 it.skip) ∧ W.cell? (a.add (i.1 * 3 + 1)) = some (.string it.name) ∧ W.cell? (a.add (i.1 * 3 + 2)) = some (.bool it.plain) ∧ (Lit.int .i64 it.skip).wf = true ∧
        D i.1 = .agg [.lit (.int .i64 it.skip), .lit (.string it.name.data.toList), .lit (.bool it.plain)] := fun i => key i.1 i.2
    obtain ⟨T, hT⟩ := Classical.axiomOfChoice key'
    have hlen : ((List.finRange cap).take len).length = len := by simp; omega
    have hlen2 : (((List.finRange cap).take len).map T).length = len := by rw [List.length_map, hlen]
    refine ⟨some a, ((List.finRange cap).take len).map T, cap, by rw [hlen2], by omega, (fun h => by cases h), fun hpos => ?_, fun it hit => ?_, fun hw it hit => ?_⟩
    · have hc0 := (hT ⟨0, by omega⟩).1
      rw [Nat.zero_mul] at hc0
      obtain ⟨e1, _⟩ := addr_form (k := 0) hc0
      refine ⟨a.block, a.off, by rw [← e1], ?_, fun j hj => ?_⟩
      · have := World.block_lt_of_cell? _ _ hc0
        rw [e1, (addr_form (k := 0) hc0).2] at this
        exact this
      · rw [hlen2] at hj
        obtain ⟨q0, q1, q2, _⟩ := hT ⟨j, by omega⟩
        rw [e1, (addr_form hc0).2] at q0 q1 q2
        simp only [List.getElem_map, List.getElem_take, List.getElem_finRange, Fin.cast_mk]
        exact ⟨q0, by rw [Nat.add_assoc]; exact q1, by rw [Nat.add_assoc]; exact q2⟩
    · obtain ⟨i, _, rfl⟩ := List.mem_map.1 hit
      exact (hT i).2.2.2.1
    · obtain ⟨i, hi2, rfl⟩ := List.mem_map.1 hit
      have hil : i.1 < len := by
        obtain ⟨k, hk, rfl⟩ := List.mem_iff_getElem.1 hi2
        simp at hk ⊢
        omega
      simp only [DataW.weights, ht, List.all_cons, Bool.and_eq_true, List.all_append] at hw
      have hw1 := weights_in (d := D i.1) (List.mem_map.2 ⟨i.1, List.mem_range.2 hil, rfl⟩) hw.2.1
      rw [(hT i).2.2.2.2] at hw1
      simp only [DataW.weights, he, List.map_cons, List.map_nil, DataW.weightsEach] at hw1
      have := of_decide_eq_true (List.all_eq_true.1 hw1 (T i).name.data.toList.length (by simp))
      unfold reachBytes at this
      simpa using this
end Go.Proofs.YtopcklpmeaghmaaGreatDoor
/- Names that stand one behind the other, and what a row of writings leaves. -/
namespace Go.Proofs.YtopcklpmeaghmaaGreatDoor
open Go.RowKit

theorem get_snoc {α : Type} (l : List α) (x : α) : (l ++ [x])[l.length]? = some x := by simp
theorem get_front {α : Type} {l : List α} {j : Nat} {p : α} (h : l[j]? = some p) (r : List α) : (l ++ r)[j]? = some p := by
  rw [List.getElem?_append_left (List.getElem?_eq_some_iff.1 h).1]; exact h
/-- names that stand one behind the other: each is read at its place. -/
def Chain (b : List UInt8) (ps : List Nat) (ns : List (List UInt8)) : Prop :=
  ps.length = ns.length + 1 ∧ ∀ j (h : j < ns.length), ∃ ls p q, ns[j] = Nm.glue ls ∧ (Nm.glue ls).length ≤ 255 ∧ ps[j]? = some p ∧ ps[j + 1]? = some q ∧ p ≤ b.length ∧ q ≤ b.length ∧ Pr.Rdb b p ls p q
theorem Chain.nil : Chain [] [0] [] := ⟨rfl, fun j h => absurd h (by simp)⟩
theorem Chain.step {b R : List UInt8} {ats : List Nat} {ns : List (List UInt8)} (h : Chain b (ats ++ [b.length]) ns) {ls : List (List UInt8)} (h255 : (Nm.glue ls).length ≤ 255)
    (hr : Pr.Rdb (b ++ R) b.length ls b.length (b ++ R).length) :
    Chain (b ++ R) ((ats ++ [b.length]) ++ [(b ++ R).length]) (ns ++ [Nm.glue ls]) := by
  obtain ⟨h1, h2⟩ := h
  have hb : b.length ≤ (b ++ R).length := by rw [List.length_append]; omega
  have hl : ats.length = ns.length := by simp at h1; exact h1
  refine ⟨by rw [List.length_append, h1]; simp, fun j hj => ?_⟩
  rw [List.length_append] at hj
  by_cases hlt : j < ns.length
  · obtain ⟨ks, p, q, e1, e2, e3, e4, e5, e6, e7⟩ := h2 j hlt
    exact ⟨ks, p, q, by rw [List.getElem_append_left hlt]; exact e1, e2, get_front e3 _, get_front e4 _, by omega, by omega, e7.more R⟩
  · obtain rfl : j = ns.length := by simp at hj; omega
    refine ⟨ls, b.length, (b ++ R).length, by simp, h255, ?_, ?_, hb, Nat.le_refl _, hr⟩
    · rw [← hl]; exact get_front (get_snoc ats b.length) _
    · have := get_snoc (ats ++ [b.length]) (b ++ R).length
      have e : (ats ++ [b.length]).length = ns.length + 1 := h1
      rw [e] at this
      exact this
theorem Chain.take {b : List UInt8} {ps : List Nat} {ns : List (List UInt8)} (h : Chain b ps ns) {j : Nat} (hj : j < ns.length) (rest : List UInt8) :
    ∃ p q, ps[j]? = some p ∧ ps[j + 1]? = some q ∧ p ≤ b.length ∧ q ≤ b.length ∧ prTakeV (b ++ rest) (p : Nat) = .tuple #[sv (ns[j]'hj), .int .i64 (q : Nat), .int .i64 0] := by
  obtain ⟨ls, p, q, e1, e2, e3, e4, e5, e6, e7⟩ := h.2 j hj
  refine ⟨p, q, e3, e4, e5, e6, ?_⟩
  unfold prTakeV
  rw [if_neg (by rw [List.length_append]; omega), show ((p : Int)).toNat = p from rfl, e7 rest p 1 (Nat.le_refl _) (by rw [Pr.tot_glue] at e2; omega), e1]
  rfl

/-- what is known of what was written, apart from memory. -/
def BkP (T : Tab) (b : List UInt8) (ats : List Nat) (ns : List (List UInt8)) (i : Nat) : Prop :=
  Pr.Snd b T ∧ Chain b (ats ++ [b.length]) ns ∧ b.length ≤ 255 * i ∧ T.length ≤ 255 * i ∧ ns.length ≤ i ∧ ats.length = ns.length
theorem BkP.nil : BkP [] [] [] [] 0 := ⟨Pr.Snd.nil _, Chain.nil, by simp, by simp, by simp, rfl⟩
theorem BkP.skip {T : Tab} {b : List UInt8} {ats : List Nat} {ns : List (List UInt8)} {i : Nat} (h : BkP T b ats ns i) : BkP T b ats ns (i + 1) := by
  obtain ⟨h1, h2, h3, h4, h5, h6⟩ := h
  exact ⟨h1, h2, by omega, by omega, by omega, h6⟩
theorem BkP.step {T : Tab} {b : List UInt8} {ats : List Nat} {ns : List (List UInt8)} {i : Nat} (h : BkP T b ats ns i) (plain : Bool) {s : ByteArray} {ls : List (List UInt8)} (hs : Nm.split s.data.toList = some ls) :
    BkP (Pr.pw plain T b.length ls).1 (b ++ (Pr.pw plain T b.length ls).2) (ats ++ [b.length]) (ns ++ [s.data.toList]) (i + 1) ∧
    b.length < (b ++ (Pr.pw plain T b.length ls).2).length ∧ (b ++ (Pr.pw plain T b.length ls).2).length ≤ b.length + s.size ∧ (plain = true → (b ++ (Pr.pw plain T b.length ls).2).length = b.length + s.size) := by
  obtain ⟨h1, h2, h3, h4, h5, h6⟩ := h
  obtain ⟨hgl, hgd, h255⟩ := Nm.split_some.1 hs
  have hsz : s.size = (Nm.glue ls).length := by rw [← hgl]; simp
  rw [hgl] at h255
  obtain ⟨r1, r2⟩ := Pr.pw_sound (ls := ls) (t := T) (b := b) plain hgd h255 h1
  obtain ⟨p1, _, p3, p4⟩ := Pr.pw_len plain ls T b.length
  have p5 := p3 hgd
  have p6 := Pr.pw_tab plain ls T b.length
  have hfew := few hs
  have hst := h2.step (R := (Pr.pw plain T b.length ls).2) h255 r1
  rw [← hgl] at hst
  have hlen : (b ++ (Pr.pw plain T b.length ls).2).length = b.length + (Pr.pw plain T b.length ls).2.length := List.length_append
  refine ⟨⟨r2, hst, by omega, by omega, by simp; omega, by simp; omega⟩, by omega, by omega, fun hp => ?_⟩
  have := p4 hp
  rw [this] at hlen
  rw [this, hsz, hlen]

section
variable {w W W' : World}
theorem Rg.own {g base : Nat} (h : Rg g base W W') {t e : TypeId} {cs : Array Value} (hT : Has W g t cs) {b n : Nat} {v : Value} {xs : List Value} (hk : W.ownsRow b e 1 v n xs) (hte : t ≠ e) : W'.ownsRow b e 1 v n xs := by
  have hne := has_not_own hT hk hte
  refine ⟨hk.1, ?_⟩
  rcases hk.2 with h0 | ⟨g2, cap, cur, rfl, hb, hg, rest⟩
  · exact .inl h0
  · exact .inr ⟨g2, cap, cur, rfl, hb, h.same g2 _ (fun e2 => hne (by rw [e2]; rfl)) hg rfl, rest⟩
theorem Tb.still {g base b n : Nat} {e : TypeId} {mp : Option Nat} {t : Tab} {v : Value} {xs : List Value} (h : Tb W g base mp t) (ho : W.ownsRow b e 1 v n xs) (he : 87 ≠ e) (hg : W.grownBy W' v.ownBlock) : Tb W' g base mp t := by
  refine h.grown hg (has_not_own h.2.1 ho he) (fun r hr o hro => ?_)
  rcases ho.2 with ⟨rfl, _⟩ | ⟨g2, cap, cur, rfl, _, hgb, _⟩
  · simp [Value.ownBlock] at hr
  · have : g2 = r := by simpa [Value.ownBlock] using hr
    subst this
    rw [hgb] at hro
    cases hro
    rfl
/-- the writing's table and rows in memory. -/
def BkW (w : World) (T : Tab) (b : List UInt8) (ats : List Nat) (ns : List (List UInt8)) (vb vat vn : Value) (W : World) : Prop :=
  (∃ mp, Tb W w.heap.size w.heap.size mp T) ∧ W.ownsRow w.heap.size 5 1 vb b.length (bv b) ∧ W.ownsRow w.heap.size 3 1 vat ats.length (ints ats) ∧ W.ownsRow w.heap.size 23 1 vn ns.length (svs ns) ∧ Below w.heap.size w W
variable {T : Tab} {b : List UInt8} {ats : List Nat} {ns : List (List UInt8)} {vb vat vn : Value}
theorem BkW.new (w : World) : BkW w [] [] [] [] (.slice none 0 0) (.slice none 0 0) (.slice none 0 0) (w.alloc (.cells #[.map none] 87)) :=
  ⟨⟨none, Tb.new w (Nat.le_refl _)⟩, World.ownsRow_nil _ _ _ _, World.ownsRow_nil _ _ _ _, World.ownsRow_nil _ _ _ _, (Below.refl _ _).alloc (Nat.le_refl _) _⟩
theorem BkW.low (h : BkW w T b ats ns vb vat vn W) (hb : Below W.heap.size W W') : BkW w T b ats ns vb vat vn W' := by
  obtain ⟨⟨mp, h1⟩, h2, h3, h4, h5⟩ := h
  exact ⟨⟨mp, h1.below hb⟩, own_below h2 hb (Nat.le_refl _), own_below h3 hb (Nat.le_refl _), own_below h4 hb (Nat.le_refl _), h5.trans (hb.mono h5.size)⟩
theorem BkW.at_ (h : BkW w T b ats ns vb vat vn W) {o : Obj} {v9 : Value} {p : Nat} (hO : W'.ownsRow w.heap.size 3 1 v9 (ats.length + 1) (ints ats ++ [.int .i64 (p : Nat)])) (hB : Below w.heap.size w W') (hG : (W.alloc o).grownBy W' vat.ownBlock) :
    BkW w T b (ats ++ [p]) ns vb v9 vn W' := by
  obtain ⟨⟨mp, h1⟩, h2, h3, h4, h5⟩ := h
  exact ⟨⟨mp, (h1.below ((Below.refl _ _).alloc (Nat.le_refl _) o)).still (own_alloc h3 o) (by decide) hG⟩, own_still (own_alloc h3 o) (own_alloc h2 o) (by decide) hG, own_to hO (by simp) (by rw [ints_append]; rfl), own_still (own_alloc h3 o) (own_alloc h4 o) (by decide) hG, hB⟩
theorem BkW.name (h : BkW w T b ats ns vb vat vn W) {o : Obj} {v9 : Value} {s : ByteArray} (hO : W'.ownsRow w.heap.size 23 1 v9 (ns.length + 1) (svs ns ++ [.string s])) (hB : Below w.heap.size w W') (hG : (W.alloc o).grownBy W' vn.ownBlock) :
    BkW w T b ats (ns ++ [s.data.toList]) vb vat v9 W' := by
  obtain ⟨⟨mp, h1⟩, h2, h3, h4, h5⟩ := h
  exact ⟨⟨mp, (h1.below ((Below.refl _ _).alloc (Nat.le_refl _) o)).still (own_alloc h4 o) (by decide) hG⟩, own_still (own_alloc h4 o) (own_alloc h2 o) (by decide) hG, own_still (own_alloc h4 o) (own_alloc h3 o) (by decide) hG, own_to hO (by simp) (by rw [svs_append]; exact congrArg (svs ns ++ ·) (congrArg (fun x => [Value.string x]) (string_eq rfl))), hB⟩
/-- a name is put. -/
theorem BkW.put {A : Option Addr} {c i : Nat} (h : BkW w T b ats ns (.slice A b.length c) vat vn W) (hp : BkP T b ats ns i) {plain : Bool} {s : ByteArray} {ls : List (List UInt8)} (hs : Nm.split s.data.toList = some ls) {e : Ending} (hd : PutDone plain w.heap.size w.heap.size T b ls W e W') :
    ∃ A2 n c2 T2 b2, e = .returned (.tuple #[.slice A2 n c2, .int .i64 0]) ∧ b2.length = n ∧ b.length < n ∧ n ≤ b.length + s.size ∧ (plain = true → n = b.length + s.size) ∧ BkP T2 b2 (ats ++ [b.length]) (ns ++ [s.data.toList]) (i + 1) ∧ BkW w T2 b2 ats ns (.slice A2 n c2) vat vn W' := by
  obtain ⟨⟨mp0, h1⟩, h2, h3, h4, h5⟩ := h
  obtain ⟨v, mp, rfl, d1, d2, d3⟩ := hd
  obtain ⟨q1, q2, q3, q4⟩ := hp.step plain hs
  obtain ⟨A2, c2, rfl⟩ := own_form d1
  refine ⟨A2, _, c2, _, _, rfl, rfl, q2, q3, q4, q1, ⟨mp, d2⟩, own_mono d1 h5.size, d3.own h1.2.1 h3 (by decide), d3.own h1.2.1 h4 (by decide), h5.trans d3.below⟩
/-- what is put, before it is put. -/
theorem bk_put (plain : Bool) {A : Option Addr} {c i : Nat} (h : BkW w T b ats ns (.slice A b.length c) vat vn W) (hp : BkP T b ats ns i) (hi : i ≤ 60) {s : ByteArray} {ls : List (List UInt8)} (hs : Nm.split s.data.toList = some ls) :
    Calls Tryz.prog (if plain then 36 else 35) #[.pointer (some ⟨w.heap.size, 0, none⟩), .slice A b.length c, .string s] W fun e W' =>
      ∃ A2 n c2 T2 b2, e = .returned (.tuple #[.slice A2 n c2, .int .i64 0]) ∧ b2.length = n ∧ b.length < n ∧ n ≤ b.length + s.size ∧ (plain = true → n = b.length + s.size) ∧ BkP T2 b2 (ats ++ [b.length]) (ns ++ [s.data.toList]) (i + 1) ∧ BkW w T2 b2 ats ns (.slice A2 n c2) vat vn W' := by
  obtain ⟨⟨mp, h1⟩, h2, _, _, h5⟩ := id h
  have hbl := hp.2.2.1
  have htl := hp.2.2.2.1
  have hB : Bs W 0 W.heap.size A b := (Bs.of_own h2).more (Nat.zero_le _) (Nat.le_refl _)
  have hnil : A = none → c = 0 := fun e => by
    subst e
    rcases h2.2 with ⟨hv, _⟩ | ⟨g, cap, cur, hv, _⟩
    · injection hv
    · injection hv with h1; cases h1
  cases plain with
  | true => exact (plain_in w.heap.size w.heap.size mp T A b c s ls W h1 h5.size hs (own_le h2) hnil (by omega) hB (by omega)).mono fun e W' hd => h.put hp hs hd
  | false => exact (put_in w.heap.size w.heap.size mp T A b c s ls W h1 h5.size hs (own_le h2) hnil (by omega) hB (by omega)).mono fun e W' hd => h.put hp hs hd
end
theorem own_nil0 {w : World} {b n c : Nat} {e : TypeId} {A : Option Addr} {xs : List Value} (h : w.ownsRow b e 1 (.slice A n c) n xs) (hA : A = none) : c = 0 := by
  subst hA
  rcases h.2 with ⟨hv, _⟩ | ⟨g, cap, cur, hv, _⟩
  · injection hv
  · injection hv with h1; cases h1
/-- all bytes, all places and all names. -/
def Bk2 (w : World) (L : List UInt8) (ps : List Nat) (ns : List (List UInt8)) (vL vT vN : Value) (W : World) : Prop :=
  W.ownsRow w.heap.size 5 1 vL L.length (bv L) ∧ W.ownsRow w.heap.size 3 1 vT ps.length (ints ps) ∧ W.ownsRow w.heap.size 23 1 vN ns.length (svs ns) ∧ Below w.heap.size w W
theorem Bk2.low {w W W' : World} {L : List UInt8} {ps : List Nat} {ns : List (List UInt8)} {vL vT vN : Value} (h : Bk2 w L ps ns vL vT vN W) (hb : Below W.heap.size W W') : Bk2 w L ps ns vL vT vN W' :=
  ⟨own_below h.1 hb (Nat.le_refl _), own_below h.2.1 hb (Nat.le_refl _), own_below h.2.2.1 hb (Nat.le_refl _), h.2.2.2.trans (hb.mono h.2.2.2.size)⟩
theorem BkW.all {w W W' : World} {T : Tab} {b l : List UInt8} {ps : List Nat} {ns : List (List UInt8)} {vb vat vn v3 v4 : Value} (h : BkW w T b ps ns vb vat vn W) (h3 : W.ownsRow w.heap.size 5 1 v3 b.length (bv b)) (h4 : W'.ownsRow w.heap.size 5 1 v4 (b.length + l.length) (bv b ++ bv l)) (hG : W.grownBy W' v3.ownBlock) :
    Bk2 w (b ++ l) ps ns v4 vat vn W' :=
  ⟨own_to h4 List.length_append.symm (bv_append _ _).symm, own_still h3 h.2.2.1 (by decide) hG, own_still h3 h.2.2.2.1 (by decide) hG, h.2.2.2.2.grown hG h.2.2.2.2.size (fun k hk => (h3.lt k hk).1)⟩
/-- bytes that are read are put behind a row of the call's own, past 2^47 bytes too. -/
theorem wpList_append_bs_wide {P : Program} {w : World} {ops : Array Oper} {rest : List Oper} {o : Oper} {a : Act} {Q : Exit → Act → World → Prop} (hgd : o.guard = none) (s x : Operand) (t : TypeId)
    (ho : o.op = .call { callee := .builtin .append, args := #[s, x], argTypes := #[t, t] })
    (base : Nat) (e : TypeId) (i : TypeInfo) (z : Value) (ht : P.underlying t = some (.slice e)) (hi : P.info? e = some i) (hz : i.zero = some z)
    (hsize : i.size = 1) (hby : i.bytes = 1) (hzs : z.cells.size = 1)
    (v : Value) (n : Nat) (xs : List Value) (hs : a.eval s = v) (hown : w.ownsRow base e 1 v n xs)
    (lo hi' : Nat) (A : Option Addr) (c : Nat) (l : List UInt8) (hx : a.eval x = .slice A l.length c) (hr : Bs w lo hi' A l) (hnil : A = none → c = 0)
    (h63 : n + l.length ≤ 211106232532992) (hbase : base ≤ w.heap.size)
    (h : ∀ v' w', w'.ownsRow base e 1 v' (n + l.length) (xs ++ bv l) → w.grownBy w' v.ownBlock → wpList P ops Q rest (a.put o.dst v') w') : wpList P ops Q (o :: rest) a w := by
  rcases A with _ | ad
  · have h0 : l.length = 0 := by
      rcases Nat.eq_zero_or_pos l.length with h0 | h0
      · exact h0
      · obtain ⟨g, o, hh, _⟩ := hr h0; cases hh
    have hl : l = [] := List.eq_nil_of_length_eq_zero h0
    subst hl
    have := hnil rfl
    subst this
    exact wpList_append_own_none hgd s x t ho base e i 1 ht hi v n xs hs hown hx (h _ _ (by simpa [bv] using hown) (World.grownBy.refl w _))
  · exact wpList_append_own_wide w hgd s x t ho base e i z 1 1 ht hi hz hsize hby hzs (by decide) v n xs hs hown ad l.length c (bv l) hx (by simp [bv]) hr.at_ (bv_one l) (by unfold maxLen; omega) (by omega) hbase (fun v' w' a b _ => h v' w' a b)
end Go.Proofs.YtopcklpmeaghmaaGreatDoor
/- Zeros that are put behind a row of the call's own: append of make. -/
namespace Go.Proofs.YtopcklpmeaghmaaGreatDoor
open Go.RowKit

theorem zeros_cells (k : Nat) : Builtin.zeroCells (Value.int .u8 0).cells k = (List.replicate k (Value.int .u8 0)).toArray := by
  apply Array.ext
  · simp [Builtin.zeroCells, Value.cells]
  · intro j h1 h2
    have : Nat.mod j 1 = 0 := Nat.mod_one j
    simp [Builtin.zeroCells, Value.cells, Nat.mod_one]
theorem bv_zeros (k : Nat) : bv (List.replicate k 0) = List.replicate k (Value.int .u8 0) := by simp [bv]
theorem run_append_zeros {P : Program} (w : World) (base : Nat) (t tn ty e : TypeId) (i : TypeInfo) (ht : P.underlying t = some (.slice e)) (htn : P.underlying tn = some (.int .i64)) (hi : P.info? e = some i) (hz : i.zero = some (.int .u8 0))
    (hsize : i.size = 1) (hby : i.bytes = 1) (v : Value) (n : Nat) (xs : List Value) (hown : w.ownsRow base e 1 v n xs) (k : Nat) (h0 : 0 < k) (h63 : n + k ≤ 140737488355328) (hbase : base ≤ w.heap.size) :
    ∃ v' w', (Builtin.append_ #[t, tn] ty #[v, .int .i64 k]).run P w = .ok v' w' ∧ w'.ownsRow base e 1 v' (n + k) (xs ++ bv (List.replicate k 0)) ∧ w.grownBy w' v.ownBlock ∧ (v'.ownBlock = v.ownBlock ∨ v'.ownBlock = some w.heap.size) := by
  have hzl : (bv (List.replicate k 0)).length = k := by simp [bv]
  have hlen : (xs ++ bv (List.replicate k 0)).length = (n + k) * 1 := by rw [List.length_append, hown.1, hzl]; omega
  have grown : ∀ (old : Nat) (row : Option Nat),
      (w.drew.alloc (.cells (xs.toArray ++ Builtin.zeroCells (Value.int .u8 0).cells k ++ Builtin.zeroCells (Value.int .u8 0).cells (grownCap w (n + k) old e - (n + k))) e)).ownsRow base e 1
        (.slice (some ⟨w.heap.size, 0, none⟩) (n + k) (grownCap w (n + k) old e)) (n + k) (xs ++ bv (List.replicate k 0)) ∧
      w.grownBy (w.drew.alloc (.cells (xs.toArray ++ Builtin.zeroCells (Value.int .u8 0).cells k ++ Builtin.zeroCells (Value.int .u8 0).cells (grownCap w (n + k) old e - (n + k))) e)) row := by
    intro old row
    have hge := grownCap_ge w (n + k) old e
    have hcm : grownCap w (n + k) old e ≤ maxLen := grownCap_le_maxLen w (n + k) old e (by unfold maxLen; omega)
    have hxl := hown.1
    refine ⟨⟨hlen, .inr ⟨w.heap.size, _, _, rfl, hbase, heap_alloc_new w.drew _, hge, hcm, ?_, ?_⟩⟩, ⟨rfl, rfl, rfl, by simp, fun j hj _ => heap_alloc_old w.drew _ hj⟩⟩
    · simp only [Array.size_append, List.size_toArray, zeros_cells, List.length_replicate]
      omega
    · rw [zeros_cells, bv_zeros]
      simp only [Array.toList_append]
      have e1 : (n + k) * 1 = (xs ++ List.replicate k (Value.int .u8 0)).length := by rw [List.length_append, hxl, List.length_replicate]; omega
      rw [e1]
      exact List.take_left
  have hn : k ≠ 0 := by omega
  have hw : IntKind.i64.wrap (k : Int) = k := by rw [IntKind.wrap_i64]; omega
  have h48i : ¬ (281474976710656 < (k : Int)) := by omega
  have hneg : ¬ ((k : Int) < 0) := by omega
  rcases hown.2 with ⟨rfl, rfl⟩ | ⟨g, cap, cur, rfl, hbg, hg, hnc, hcm, hcs, htake⟩
  · have hx : xs = [] := List.eq_nil_of_length_eq_zero (by simpa using hown.1)
    subst hx
    have hr := Lib.run_append_nil_zeros (P := P) w t tn ty e i (.int .u8 0) .i64 .i64 ht htn hi hz k h0 (by omega) (by omega) (by rw [hby]; omega)
    have hgr := grown 0 (Value.ownBlock (.slice none 0 0))
    simp only [Nat.zero_add, List.nil_append, Array.empty_append] at hgr ⊢
    exact ⟨_, _, hr, hgr.1, hgr.2, .inr rfl⟩
  · by_cases hroom : n + k ≤ cap
    · have hst := run_storeCells_at P g n e (List.replicate k (Value.int .u8 0)) 0 cur w hg (by rw [List.length_replicate, hcs]; omega) (by
        intro v hv
        rw [List.eq_of_mem_replicate hv]
        rfl)
      have hr : (Builtin.append_ #[t, tn] ty #[.slice (some ⟨g, 0, none⟩) n cap, .int .i64 k]).run P w = .ok (.slice (some ⟨g, 0, none⟩) (n + k) cap) (w.setRow g (cur.toList.take n ++ List.replicate k (Value.int .u8 0) ++ cur.toList.drop (n + k)).toArray) := by
        simp only [Nat.add_zero, List.length_replicate] at hst
        simp [Builtin.append_, run_underlying ht, run_underlying htn, sizeOf, typeInfo, zeroValue, hi, hz, asInt, asIntOf, hsize, hby, hw, hn, hneg, h48i, hroom, zeros_cells, Addr.add_lit, hst]
      refine ⟨_, _, hr, ⟨hlen, .inr ⟨g, cap, _, rfl, hbg, setRow_heap w g cur _ e _ hg, hroom, hcm, ?_, ?_⟩⟩, ⟨rfl, rfl, rfl, by simp, fun j _ hj => setRow_other w g j _ (fun e => hj (by simp [Value.ownBlock, e]))⟩, .inl rfl⟩
      · simp only [List.size_toArray, List.length_append, List.length_take, List.length_drop, List.length_replicate, Array.length_toList]
        omega
      · rw [Nat.mul_one] at htake
        rw [htake, bv_zeros]
        have e1 : (n + k) * 1 = (xs ++ List.replicate k (Value.int .u8 0)).length := by rw [List.length_append, hown.1, List.length_replicate]; omega
        rw [e1]
        exact List.take_left
    · have hfo := run_firstCells_some (P := P) w.drew i.size n ⟨g, 0, none⟩ n cap xs (by rw [hsize]; exact hown.1) (by
        intro j u hj
        have := hown.cells (g := g) rfl j u hj
        simpa using this)
      have h63' : ¬ (9223372036854775807 < ((n : Int) + (k : Int))) := by omega
      have hfit : ¬ (281474976710656 < Builtin.nextslicecap (n + k) cap) := by
        have := growslice_fits (need := n + k) (old := cap) (bytes := 1) (by omega) (by omega)
        omega
      have hr : (Builtin.append_ #[t, tn] ty #[.slice (some ⟨g, 0, none⟩) n cap, .int .i64 k]).run P w = .ok (.slice (some ⟨w.heap.size, 0, none⟩) (n + k) (grownCap w (n + k) cap e)) (w.drew.alloc (.cells (xs.toArray ++ Builtin.zeroCells (Value.int .u8 0).cells k ++ Builtin.zeroCells (Value.int .u8 0).cells (grownCap w (n + k) cap e - (n + k))) e)) := by
        rw [hsize] at hfo
        simp [Builtin.append_, run_underlying ht, run_underlying htn, sizeOf, typeInfo, zeroValue, hi, hz, asInt, asIntOf, hsize, hby, hw, hn, hneg, h48i, hroom, h63', hfit, Question.forced, hfo, newRow, grownCap]
      have hgr := grown cap (Value.ownBlock (.slice (some ⟨g, 0, none⟩) n cap))
      exact ⟨_, _, hr, hgr.1, hgr.2, .inr rfl⟩
end Go.Proofs.YtopcklpmeaghmaaGreatDoor
