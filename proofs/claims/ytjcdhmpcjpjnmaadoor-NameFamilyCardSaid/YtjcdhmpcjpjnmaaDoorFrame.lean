/- The row's last step for a law that leaves what lay below as it was. -/
import Derived.Test.YtjcdhmpcjpjnmaaDoorWakes
import Derived.Test.YtjcdhmpcjpjnmaaDoorCards
import Derived.Test.YtjcdhmpcjpjnmaaDoorTie
import Derived.ProofKit
import Derived.OpenShut
import Derived.ShutString
import Derived.Deep.DeepHandedRow
import Derived.Deep.DeepWitnessRowRef
import Derived.LaidMore
import Derived.Stop.LaidErr
import Derived.LaidSub
namespace Go.Proofs.YtjcdhmpcjpjnmaaDoor
open Go.ChangeShapes Go.WideShapes Go.ChangeAt Go.RowKit

theorem own : ownKnob Tryd.prog.godebug = none := by kernel_rfl

/-- what holds behind a call of which 'Below' is known: the places that were read are as they were. -/
theorem post_low {H : Type} {enc : TypeId × Value → H} {P : Program} {f : Func} {s : ChangeSpec} {apart fresh handsOn again : Bool} {W W' : World} {args : Array Value} {v : Value} {ds gs : List (DataW H)} {before pa pv : List MemPlace}
    (hW : DataW.Whole enc P f.params.toList s.vars apart W args.toList ds gs before) (hps : before = pa ++ pv) (hb : Below W.heap.size W W')
    (hres : ∀ (b : Nat) (sp : Nat → Bool) (hd : Bool), DataW.TrodAll enc P W' b sp hd f.resultTypes.toList (v.resultList f.resultTypes.size) (s.fn H (ds ++ gs)).results [])
    (hargs : ∀ sp : Nat → Bool, (∀ p ∈ before, sp p.block = true) → DataW.TrodAll enc P W' 0 sp true f.params.toList args.toList (s.fn H (ds ++ gs)).args pa)
    (hvars : ∀ sp : Nat → Bool, (∀ p ∈ before, sp p.block = true) → DataW.TrodVars enc P W' sp s.vars (s.fn H (ds ++ gs)).vars pv)
    (hok : ∀ (j : Nat) (t : TypeId) (r : Value), f.resultTypes[j]? = some t → (v.resultList f.resultTypes.size)[j]? = some r → Value.okWide P W' .any 0 t r) :
    s.post enc P f apart fresh handsOn again W args v W' := by
  have hin : ∀ p ∈ before, (fun b => decide (b < W.heap.size)) p.block = true := fun p hp => by simpa using hW.lt p hp
  have hmem : ∀ p ∈ before, p ∈ pa ∨ p ∈ pv := fun p hp => by rw [hps] at hp; exact List.mem_append.1 hp
  refine ⟨ds, gs, before, [], pa, pv, hW, hres _ _ _, hargs _ hin, hvars _ hin, World.keptBut_mono (fun p hp => ⟨hp, .inr (hmem p hp)⟩) (hb.frame (· ∈ before)), fun _ => ?_⟩
  obtain ⟨_, _, _, _, _, hz, hn⟩ := id hW
  refine ⟨hok, _, _, ([] ++ pa) ++ pv, ⟨[] ++ pa, pv, trodAll_append (hargs _ (fun _ _ => rfl)) (hres _ _ _), hvars _ (fun _ _ => rfl), rfl, fun b off hp => ?_, fun ha => ?_⟩, fun p hp _ => ?_⟩
  · have hb' : MemPlace.cell b off ∈ before := by rw [hps]; simpa using hp
    exact (hb.frozen (hW.lt _ hb')).trans (hz b off hb')
  · have h := hn ha
    rw [hps] at h
    simpa using h
  · rw [hps]; simpa using hp

theorem reach_string {H : Type} {P : Program} {t : TypeId} {ts : List TypeId} {l : List UInt8} {r : List (DataW H)} (h : (DataW.weightsEach P (t :: ts) (.lit (.string l) :: r)).all (· ≤ reachBytes) = true) :
    l.length ≤ 140737488351232 ∧ (DataW.weightsEach P ts r).all (· ≤ reachBytes) = true := by
  have e : DataW.weightsEach P (t :: ts) (.lit (.string l) :: r) = l.length :: DataW.weightsEach P ts r := rfl
  rw [e, List.all_cons, Bool.and_eq_true] at h
  refine ⟨?_, h.2⟩
  have := of_decide_eq_true h.1
  unfold reachBytes at this
  exact this
theorem reach_bool {H : Type} {P : Program} {t : TypeId} {ts : List TypeId} {b : Bool} {r : List (DataW H)} (h : (DataW.weightsEach P (t :: ts) (.lit (.bool b) :: r)).all (· ≤ reachBytes) = true) : (DataW.weightsEach P ts r).all (· ≤ reachBytes) = true := h
theorem reach_int {H : Type} {P : Program} {t : TypeId} {ts : List TypeId} {k : IntKind} {n : Int} {r : List (DataW H)} (h : (DataW.weightsEach P (t :: ts) (.lit (.int k n) :: r)).all (· ≤ reachBytes) = true) : (DataW.weightsEach P ts r).all (· ≤ reachBytes) = true := h

/-- the settled world, the variables laid: where the witness starts. -/
noncomputable def lw (os : Os) : World := World.doorLaid Tryd.prog 400 os

theorem star : "*" ++ "errors.errorString" = "*errors.errorString" := by decide
theorem rowErr (u : TypeId) (h : Tryd.prog.typeName? 3 u = some "*errors.errorString") : u = 104 :=
  typeName_ptr_named (nm := "errors.errorString") (by rw [star]; kernel_rfl) (by kernel_rfl) (by decide) u (by rw [star]; exact h)
theorem laid_lay {W : World} (h : laidMetH Tryd.prog Rows.nameChecksRow.laid W) : Lay W := by
  rw [MakeChecks.laidMetH_plain _ _ _ (by kernel_rfl)] at h
  have h3 := h.tail.tail.tail
  obtain ⟨a, _, hv, _⟩ := laid_sentinel (g := 2) (ti := 87) (tp := 104) (te := 106) (ts := 9) h3 (by kernel_rfl) (by kernel_rfl) Tryd.underlying87 rowErr Tryd.underlying104 Tryd.underlying106 rfl rfl Tryd.underlying9 (by kernel_rfl) (by kernel_rfl)
  obtain ⟨b, _, hw, _⟩ := laid_sentinel (g := 1) (ti := 87) (tp := 104) (te := 106) (ts := 9) h3.tail (by kernel_rfl) (by kernel_rfl) Tryd.underlying87 rowErr Tryd.underlying104 Tryd.underlying106 rfl rfl Tryd.underlying9 (by kernel_rfl) (by kernel_rfl)
  refine ⟨⟨104, .pointer (some b), ?_⟩, 104, .pointer (some a), ?_⟩
  · have := World.var?_cell (P := Tryd.prog) (g := 1) (by kernel_rfl) hw 0
    simpa using this
  · have := World.var?_cell (P := Tryd.prog) (g := 2) (by kernel_rfl) hv 0
    simpa using this

theorem door_met (os : Os) (args : Array Value) : laidMetH Tryd.prog Rows.nameChecksRow.laid ((lw os).forCall (fun _ _ => 0) ⟨#[], args, []⟩).memory :=
  laidMetH_of_parts3 (fuel := 8) (laidMet_of_run' 8 (by kernel_rfl) (by kernel_rfl)) (by kernel_rfl) (by kernel_rfl)
end Go.Proofs.YtjcdhmpcjpjnmaaDoor
