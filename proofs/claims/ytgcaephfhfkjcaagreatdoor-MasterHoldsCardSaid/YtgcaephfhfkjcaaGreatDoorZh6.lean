/- Texts of the proofs, merged. -/
import Derived.Test.YtgcaephfhfkjcaaGreatDoorZh3
import Derived.Test.YtgcaephfhfkjcaaGreatDoorZh5
import Derived.Test.YtgcaephfhfkjcaaGreatDoorZh4
import Derived.ProofKit
import Derived.OpenShut
import Derived.ShutString
import Derived.WideKeyArgs
import Derived.SliceStrings
import Derived.Deep.DeepHandedRow
import Derived.Deep.DeepWitnessRowRef
import Derived.Deep.Slices
import Derived.Deep.Fields
import Derived.ChangeSame
import Derived.Deep.MidRow
namespace Go.Proofs.YtgcaephfhfkjcaaGreatDoor
open Go.RowKit

/-- one of the letters a to e. -/
def Mh.lt (n : Nat) : UInt8 := UInt8.ofNat (97 + n % 5)
theorem Mh.lt_any (n : Nat) : Mh.Lt (Mh.lt n) := by
  have h : n % 5 < 5 := Nat.mod_lt _ (by decide)
  unfold Mh.lt Mh.Lt
  generalize n % 5 = m at h
  rcases (by omega : m = 0 ∨ m = 1 ∨ m = 2 ∨ m = 3 ∨ m = 4) with rfl | rfl | rfl | rfl | rfl <;> decide
theorem let5 : ∀ n : Fin 5, (⟨#[97, 98, 99, 100, 101]⟩ : ByteArray).extract n.1 (n.1 + 1) = ⟨#[UInt8.ofNat (97 + n.1)]⟩ := by decide
set_option maxHeartbeats 1000000 in
set_option maxRecDepth 100000 in
theorem letter_any {n : Nat} (w : World) (h8 : n ≤ 255) : Calls Tryz.prog 16 #[.int .u8 n] w fun e w' => e = .returned (sv [Mh.lt n]) ∧ Below w.heap.size w w' := by
  have hm : n % 5 < 5 := Nat.mod_lt _ (by decide)
  have hd := let5 ⟨n % 5, hm⟩
  have e2 : Int.tmod (n : Int) 5 = ((n % 5 : Nat) : Int) := by rw [Int.tmod_eq_emod_of_nonneg (by omega)]; omega
  unfold Mh.lt
  obtain ⟨m, hmm⟩ : ∃ m, n % 5 = m := ⟨_, rfl⟩
  simp only [hmm] at hm hd e2 ⊢
  have HD := Lib.hid hd
  have i1 : IntKind.u8.wrap ((m : Int) + 1) = (m : Int) + 1 := by rw [IntKind.wrap_u8]; omega
  have i3 : IntKind.u8.wrap (m : Int) = (m : Int) := by rw [IntKind.wrap_u8]; omega
  have i2 : (m : Int) + 1 ≤ 5 := by omega
  have i6 : (m : Int) ≤ (m : Int) + 1 := by omega
  have i7 : (0 : Int) ≤ (m : Int) + 1 := by omega
  clear hmm hd
  go_enter Tryz.func16, Tryz.ntmps16
  go_wp2
  go_ret
  refine ⟨?_, Below.refl _ _⟩
  exact congrArg (fun s => Ending.returned (.string s)) HD.out
set_option maxHeartbeats 1000000 in
set_option maxRecDepth 100000 in
theorem hdigits_small {n : Nat} (w : World) (h10 : n < 10) : Calls Tryz.prog 18 #[.int .i64 n] w fun e w' => e = .returned (sv (Rd.dec n)) ∧ Below w.heap.size w w' := by
  have HD := Lib.hid (dig10 ⟨n, h10⟩)
  have HR := Lib.hid (Rd.dec_small h10)
  have i0 : (n : Int) < 10 := by omega
  have i1 : IntKind.i64.wrap ((n : Int) + 1) = (n : Int) + 1 := IntWalk.i64_in _ (by omega)
  have i2 : (n : Int) + 1 ≤ 10 := by omega
  go_enter Tryz.func18, Tryz.ntmps18
  go_wp2
  go_ret
  refine ⟨?_, Below.refl _ _⟩
  rw [HR.out]
  exact congrArg (fun s => Ending.returned (.string s)) HD.out
set_option maxHeartbeats 1000000 in
set_option maxRecDepth 100000 in
theorem hdigits_step : ∀ (k n : Nat) (w : World), n < 10 ^ (k + 1) → n ≤ 4294967295 →
    Calls Tryz.prog 18 #[.int .i64 n] w fun e w' => e = .returned (sv (Rd.dec n)) ∧ Below w.heap.size w w' := by
  intro k
  induction k with
  | zero =>
    intro n w hn h32
    exact hdigits_small w (by simpa using hn)
  | succ k ih =>
    intro n w hn h32
    by_cases h10 : n < 10
    · exact hdigits_small w h10
    · have hq : n / 10 < 10 ^ (k + 1) := by
        rw [Nat.pow_succ] at hn
        omega
      have hm : n % 10 < 10 := Nat.mod_lt _ (by decide)
      have HIH := Lib.hid (fun W => ih (n / 10) W hq (by omega))
      have HD := Lib.hid (dig10 ⟨n % 10, hm⟩)
      have HR := Lib.hid (Rd.dec_more h10)
      have HLN : Hid ((Rd.dec (n / 10)).length ≤ 4294967296) := Nat.le_trans (Rd.dec_len _) (by omega)
      have i0 : ¬ (n : Int) < 10 := by omega
      have e1 : Int.tdiv (n : Int) 10 = ((n / 10 : Nat) : Int) := by rw [Int.tdiv_eq_ediv_of_nonneg (by omega)]; omega
      have e2 : Int.tmod (n : Int) 10 = ((n % 10 : Nat) : Int) := by rw [Int.tmod_eq_emod_of_nonneg (by omega)]; omega
      obtain ⟨q, hqq⟩ : ∃ q, n / 10 = q := ⟨_, rfl⟩
      obtain ⟨m, hmm⟩ : ∃ m, n % 10 = m := ⟨_, rfl⟩
      have hq32 : q ≤ 429496729 := by omega
      rw [hqq] at e1 HIH HLN HR
      rw [hmm] at e2 hm HR
      have HD2 : Hid ((⟨#[48, 49, 50, 51, 52, 53, 54, 55, 56, 57]⟩ : ByteArray).extract m (m + 1) = ⟨#[UInt8.ofNat (48 + m)]⟩) := by
        have := HD.out
        simp only [hmm] at this
        exact this
      have i1 : IntKind.i64.wrap ((m : Int) + 1) = (m : Int) + 1 := IntWalk.i64_in _ (by omega)
      have i2 : (m : Int) + 1 ≤ 10 := by omega
      have i3 : IntKind.i64.wrap (q : Int) = (q : Int) := IntWalk.i64_in _ (by omega)
      have i4 : IntKind.i64.wrap (m : Int) = (m : Int) := IntWalk.i64_in _ (by omega)
      obtain ⟨ds, hds⟩ : ∃ ds, Rd.dec q = ds := ⟨_, rfl⟩
      rw [hds] at HIH HLN HR
      have hx := HD2.out
      have hsz : (⟨ds.toArray⟩ : ByteArray).size ≤ 4294967296 := by rw [mk_size]; exact HLN.out
      have hlong : ¬ 9223372036854775807 < List.length ds + 1 := by have h9 : List.length ds ≤ 4294967296 := HLN.out; omega
      have i5 : (0 : Int) ≤ (m : Int) := by omega
      have i6 : (m : Int) ≤ (m : Int) + 1 := by omega
      have i7 : (0 : Int) ≤ (m : Int) + 1 := by omega
      have i8 : ((m : Int) + 1).toNat = m + 1 := by omega
      have i9 : (0 : Int) ≤ (m : Int) + 1 ∧ (m : Int) + 1 ≤ 10 := ⟨i7, i2⟩
      have hdl : ds.length ≤ 4294967296 := HLN.out
      clear hn h32 h10 hq ih HD hqq hmm hds
      go_enter Tryz.func18, Tryz.ntmps18
      go_wp2
      go_region_held3 (fun W => Below w.heap.size w W)
        (first
          | (go_keep; done)
          | (try dsimp only
             first | exact (Below.refl _ _).drew | exact Below.refl _ _ | go_keep)
          | (go_split_ands
             try dsimp only
             exact Below.trans (by assumption) (hb1.mono (Below.size (by assumption)))))
        (first
          | (go_at_call 18; refine (HIH.out _).mono ?_; rintro e W1 ⟨rfl, hb1⟩))
      go_wp2
      go_ret
      refine ⟨?_, by assumption⟩
      rw [HR.out]
      have e : UInt8.ofNat (48 + m) = 48 + UInt8.ofNat m := by rw [UInt8.ofNat_add]; rfl
      rw [e]
      refine congrArg (fun s => Ending.returned (.string s)) ?_
      exact ByteArray.ext (by simp)
theorem hdigits_any (n : Nat) (w : World) (h : n ≤ 65535) : Calls Tryz.prog 18 #[.int .i64 n] w fun e w' => e = .returned (sv (Rd.dec n)) ∧ Below w.heap.size w w' :=
  hdigits_step 9 n w (by omega) (by omega)
set_option maxHeartbeats 1000000 in
set_option maxRecDepth 100000 in
theorem hunder_any (s n : List UInt8) (w : World) (hs : s.length ≤ 1000) (hn : n.length ≤ 1000) : Calls Tryz.prog 17 #[sv s, sv n] w fun e w' => e = .returned (sv ([1] ++ s ++ n)) ∧ Below w.heap.size w w' := by
  have h1 : (⟨s.toArray⟩ : ByteArray).size ≤ 1000 := by rw [mk_size]; exact hs
  have h2 : (⟨n.toArray⟩ : ByteArray).size ≤ 1000 := by rw [mk_size]; exact hn
  go_enter Tryz.func17, Tryz.ntmps17
  go_wp2
  go_ret
  refine ⟨?_, Below.refl _ _⟩
  refine congrArg (fun s => Ending.returned (.string s)) ?_
  exact ByteArray.ext (by simp)
end Go.Proofs.YtgcaephfhfkjcaaGreatDoor
namespace Go.Proofs.YtgcaephfhfkjcaaGreatDoor
open Go.ChangeShapes Go.WideShapes Go.ChangeAt Go.RowKit

theorem own : ownKnob Tryz.prog.godebug = none := by kernel_rfl
theorem out : laidOutB Tryz.prog = true := by kernel_rfl

/-- what holds behind a call of which 'Below' is known: the places that were read are as they were. -/
theorem post_low {H : Type} {enc : TypeId × Value → H} {P : Program} {f : Func} {s : ChangeSpec} {apart fresh handsOn again : Bool} {W W' : World} {args : Array Value} {v : Value} {ds gs : List (DataW H)} {before pa pv : List MemPlace}
    (hW : DataW.Whole enc P f.params.toList s.vars apart W args.toList ds gs before) (hps : before = pa ++ pv) (hb : Below W.heap.size W W')
    (hres : ∀ (b : Nat) (sp : Nat → Bool) (hd : Bool), DataW.TrodAll enc P W' b sp hd f.resultTypes.toList (v.resultList f.resultTypes.size) (s.fn H (ds ++ gs)).results [])
    (hargs : ∀ sp : Nat → Bool, (∀ p ∈ before, sp p.block = true) → DataW.TrodAll enc P W' 0 sp true f.params.toList args.toList (s.fn H (ds ++ gs)).args pa)
    (hvars : ∀ sp : Nat → Bool, (∀ p ∈ before, sp p.block = true) → DataW.TrodVars enc P W' sp s.vars (s.fn H (ds ++ gs)).vars pv)
    (hok : ∀ (j : Nat) (t : TypeId) (r : Value), f.resultTypes[j]? = some t → (v.resultList f.resultTypes.size)[j]? = some r → Value.okWide P W' .any 0 t r) :
    s.post enc P f apart fresh handsOn again W args v W' := by
  have hin : ∀ p ∈ before, (fun b => decide (b < W.heap.size)) p.block = true := fun p hp => by simpa using hW.lt p hp
  have hmem : ∀ p ∈ before, p ∈ pa ∨ p ∈ pv := fun p hp => by rw [hps] at hp; exact List.mem_append.1 hp
  refine ⟨ds, gs, before, [], pa, pv, hW, hres _ _ _, hargs _ hin, hvars _ hin, World.keptBut_mono (fun p hp => ⟨hp, .inr (hmem p hp)⟩) (hb.frame (· ∈ before)), fun _ => ?_⟩
  obtain ⟨_, _, _, _, _, hz, hn⟩ := id hW
  refine ⟨hok, _, _, ([] ++ pa) ++ pv, ⟨[] ++ pa, pv, trodAll_append (hargs _ (fun _ _ => rfl)) (hres _ _ _), hvars _ (fun _ _ => rfl), rfl, fun b off hp => ?_, fun ha => ?_⟩, fun p hp _ => ?_⟩
  · have hb' : MemPlace.cell b off ∈ before := by rw [hps]; simpa using hp
    exact (hb.frozen (hW.lt _ hb')).trans (hz b off hb')
  · have h := hn ha
    rw [hps] at h
    simpa using h
  · rw [hps]; simpa using hp

theorem reach_cons {H : Type} {P : Program} {t : TypeId} {ts : List TypeId} {d : DataW H} {r : List (DataW H)} (h : (DataW.weightsEach P (t :: ts) (d :: r)).all (· ≤ reachBytes) = true) :
    (d.weights P t).all (· ≤ reachBytes) = true ∧ (DataW.weightsEach P ts r).all (· ≤ reachBytes) = true := by
  have e : DataW.weightsEach P (t :: ts) (d :: r) = d.weights P t ++ DataW.weightsEach P ts r := rfl
  rw [e, List.all_append, Bool.and_eq_true] at h
  exact h
theorem reach_slice {H : Type} {P : Program} {t e : TypeId} {x y : List (DataW H)} (ht : P.underlying t = some (.slice e)) (h : ((DataW.slice x y).weights P t).all (· ≤ reachBytes) = true) : (x.length + y.length) * P.bytesOf e ≤ 140737488351232 := by
  simp only [DataW.weights, ht, List.all_cons, Bool.and_eq_true] at h
  have := of_decide_eq_true h.1
  unfold reachBytes at this
  exact this
/-- all arguments read behind the call as they did. -/
theorem trodAll_stays {H : Type} {enc : TypeId × Value → H} {P : Program} (hl : laidOutB P = true) {W W' : World} {sp : Nat → Bool} : ∀ {ts : List TypeId} {vs : List Value} {ds : List (DataW H)} {ps : List MemPlace},
    (ts.all fun t => P.readableRec t && decide (t < P.types.size)) = true → DataW.TrodAll enc P W 0 (fun _ => true) true ts vs ds ps → (∀ p ∈ ps, W.sameAt W' p) → (∀ p ∈ ps, sp p.block = true) → DataW.TrodAll enc P W' 0 sp true ts vs ds ps := by
  intro ts
  induction ts with
  | nil =>
    intro vs ds ps _ h _ _
    obtain ⟨rfl, rfl, rfl⟩ := trodAll_nil h
    exact trodAll_mk0
  | cons t ts ih =>
    intro vs ds ps hr h hs hsp
    obtain ⟨v, vs', d, ds', p, q, rfl, rfl, rfl, h0, h1⟩ := trodAll_cons h
    simp only [List.all_cons, Bool.and_eq_true, decide_eq_true_eq] at hr
    exact trodAll_cons_mk (WideElems.Trod_stays hl hr.1.1 hr.1.2 h0 (fun x hx => hs x (List.mem_append_left _ hx)) (fun x hx => hsp x (List.mem_append_left _ hx)))
      (ih (by simpa using hr.2) h1 (fun x hx => hs x (List.mem_append_right _ hx)) (fun x hx => hsp x (List.mem_append_right _ hx)))
theorem addr_form {w : World} {a : Addr} {k : Nat} {v : Value} (h : w.cell? (a.add 0) = some v) : a = ⟨a.block, a.off, none⟩ ∧ (⟨a.block, a.off, none⟩ : Addr).add k = ⟨a.block, a.off + k, none⟩ := by
  obtain ⟨ab, ao, spot⟩ := a
  have hs : spot = none := by simpa [Addr.add] using World.cell?_spot h
  subst hs
  exact ⟨rfl, addr_add ab ao k⟩
end Go.Proofs.YtgcaephfhfkjcaaGreatDoor
namespace Go.Proofs.YtgcaephfhfkjcaaGreatDoor
open Go.ChangeShapes Go.WideShapes Go.Deep Go.RowKit

section
variable {H : Type} {enc : TypeId × Value → H} {P : Program} {w : World} {base : Nat} {spare : Nat → Bool} {held : Bool}
end

structure It where
  skip : Int
  name : ByteArray
  plain : Bool
/-- items that stand from a slice's head on. -/
def Its (w : World) (hi : Nat) (A : Option Addr) (its : List It) : Prop :=
  0 < its.length → ∃ g o, A = some ⟨g, o, none⟩ ∧ g < hi ∧ ∀ j (h : j < its.length), w.cell? ⟨g, o + j * 3, none⟩ = some (.int .i64 its[j].skip) ∧ w.cell? ⟨g, o + j * 3 + 1, none⟩ = some (.string its[j].name) ∧ w.cell? ⟨g, o + j * 3 + 2, none⟩ = some (.bool its[j].plain)
theorem Its.keep {w w' : World} {hi : Nat} {A : Option Addr} {its : List It} (h : Its w hi A its) (hb : Below hi w w') : Its w' hi A its := fun h0 => by
  obtain ⟨g, o, hA, hg, hc⟩ := h h0
  exact ⟨g, o, hA, hg, fun j hj => ⟨(hb.cell hg).trans (hc j hj).1, (hb.cell hg).trans (hc j hj).2.1, (hb.cell hg).trans (hc j hj).2.2⟩⟩
theorem weights_in {H : Type} {P : Program} {e : TypeId} {d : DataW H} : ∀ {x : List (DataW H)}, d ∈ x → (DataW.weightsAll P e x).all (· ≤ reachBytes) = true → (d.weights P e).all (· ≤ reachBytes) = true
  | c :: r, hm, h => by
    rw [DataW.weightsAll, List.all_append, Bool.and_eq_true] at h
    rcases List.mem_cons.1 hm with rfl | hm
    · exact h.1
    · exact weights_in hm h.2
end Go.Proofs.YtgcaephfhfkjcaaGreatDoor
namespace Go.Proofs.YtgcaephfhfkjcaaGreatDoor
open Go.ChangeShapes Go.WideShapes Go.Deep Go.RowKit

structure DIt where
  skip : Int
  ty : Nat
  data : Dv
/-- items that stand from a slice's head on. -/
def DIts (w : World) (hi : Nat) (A : Option Addr) (its : List DIt) : Prop :=
  0 < its.length → ∃ g o, A = some ⟨g, o, none⟩ ∧ g < hi ∧ ∀ j (h : j < its.length), w.cell? ⟨g, o + j * 10, none⟩ = some (.int .i64 its[j].skip) ∧ w.cell? ⟨g, o + j * 10 + 1, none⟩ = some (.int .u16 its[j].ty) ∧ ∀ i, i < 8 → w.cell? ⟨g, o + j * 10 + 2 + i, none⟩ = its[j].data.cells[i]?
theorem DIts.keep {w w' : World} {hi : Nat} {A : Option Addr} {its : List DIt} (h : DIts w hi A its) (hb : Below hi w w') : DIts w' hi A its := fun h0 => by
  obtain ⟨g, o, hA, hg, hc⟩ := h h0
  exact ⟨g, o, hA, hg, fun j hj => ⟨(hb.cell hg).trans (hc j hj).1, (hb.cell hg).trans (hc j hj).2.1, fun i hi => (hb.cell hg).trans ((hc j hj).2.2 i hi)⟩⟩
theorem bulk_in {H : Type} {d : DataW H} : ∀ {x : List (DataW H)}, d ∈ x → Rows.uptoBulk d ≤ Rows.uptoBulkAll x
  | c :: r, hm => by
    rw [Rows.uptoBulkAll]
    rcases List.mem_cons.1 hm with rfl | hm
    · omega
    · have := bulk_in hm
      omega
end Go.Proofs.YtgcaephfhfkjcaaGreatDoor
namespace Go.Proofs.YtgcaephfhfkjcaaGreatDoor
open Go.ChangeShapes Go.WideShapes Go.Deep Go.RowKit

theorem bulk_pos {H : Type} (d : DataW H) : 1 ≤ Rows.uptoBulk d := by
  cases d with
  | lit x => cases x <;> simp [Rows.uptoBulk]
  | nil => simp [Rows.uptoBulk]
  | ptr d => simp [Rows.uptoBulk]
  | slice a b => simp [Rows.uptoBulk]
  | agg a => simp [Rows.uptoBulk]
  | iface a b => simp [Rows.uptoBulk]
  | map a => simp [Rows.uptoBulk]
  | held a => simp [Rows.uptoBulk]
theorem bulk_len {H : Type} : ∀ x : List (DataW H), x.length ≤ Rows.uptoBulkAll x
  | [] => Nat.zero_le _
  | c :: r => by
    have h1 := bulk_pos c
    have h2 := bulk_len r
    rw [Rows.uptoBulkAll, List.length_cons]
    omega
end Go.Proofs.YtgcaephfhfkjcaaGreatDoor
namespace Go.Proofs.YtgcaephfhfkjcaaGreatDoor
open Go.RowKit

/-- structs of k cells that stand from a slice's head on, in a block from lo on and below hi. -/
def Srow {α : Type} (enc : α → List Value) (k : Nat) (w : World) (lo hi : Nat) (A : Option Addr) (xs : List α) : Prop :=
  0 < xs.length → ∃ g o, A = some ⟨g, o, none⟩ ∧ lo ≤ g ∧ g < hi ∧ ∀ j (h : j < xs.length), w.rangeAt g (o + j * k) (enc xs[j])
theorem range_below {B : Nat} {w w' : World} (hb : Below B w w') {g o : Nat} (hg : g < B) {vs : List Value} (h : w.rangeAt g o vs) : w'.rangeAt g o vs := fun j v hj => by
  have := h j v hj
  first
    | exact (hb.cell (p := ⟨g, o + j, none⟩) hg).trans this
    | (rw [← this]; exact hb.cell (p := ⟨g, o + j, none⟩) hg)
section
variable {α : Type} {enc : α → List Value} {k : Nat} {w w' : World} {lo hi lo' hi' : Nat} {A : Option Addr} {xs : List α}
theorem Srow.nil : Srow enc k w lo hi A [] := fun h => absurd h (by simp)
theorem Srow.keep (h : Srow enc k w lo hi A xs) (hb : Below hi w w') : Srow enc k w' lo hi A xs := fun h0 => by
  obtain ⟨g, o, rfl, hlo, hhi, hc⟩ := h h0
  exact ⟨g, o, rfl, hlo, hhi, fun j hj => range_below hb hhi (hc j hj)⟩
theorem Srow.more (h : Srow enc k w lo hi A xs) (h1 : lo' ≤ lo) (h2 : hi ≤ hi') : Srow enc k w lo' hi' A xs := fun h0 => by
  obtain ⟨g, o, rfl, hlo, hhi, hc⟩ := h h0
  exact ⟨g, o, rfl, by omega, by omega, hc⟩
theorem Srow.at_ (h : Srow enc k w lo hi A xs) {j : Nat} (hj : j < xs.length) : ∃ g o, A = some ⟨g, o, none⟩ ∧ lo ≤ g ∧ g < hi ∧ w.rangeAt g (o + j * k) (enc xs[j]) := by
  obtain ⟨g, o, rfl, hlo, hhi, hc⟩ := h (by omega)
  exact ⟨g, o, rfl, hlo, hhi, hc j hj⟩
end
theorem Has.farCells {w : World} {g : Nat} {t : TypeId} {cs : Array Value} (h : Has w g t cs) {g' : Nat} (hp : g ≠ g') : ∀ (vs : List Value) (o : Nat), Has (w.setCells g' o vs) g t cs
  | [], _ => h
  | v :: r, o => by
    rw [World.setCells]
    exact Has.farCells (w := w.setCell ⟨g', o, none⟩ v) (h.far (p := ⟨g', o, none⟩) hp v) hp r (o + 1)
end Go.Proofs.YtgcaephfhfkjcaaGreatDoor
namespace Go.Proofs.YtgcaephfhfkjcaaGreatDoor
open Go.ChangeShapes Go.WideShapes Go.Deep Go.RowKit

set_option maxRecDepth 100000 in
theorem open_rows {α : Type} {en : α → List Value} {k : Nat} (hk0 : 0 < k) (hke : ∀ x, (en x).length = k) {P : Program} {ts te : TypeId} (ht : P.underlying ts = some (.slice te)) (hC : P.cellsOf te = k)
    {F N : α → Prop} {B : α → Nat} {H : Type} {enc : TypeId × Value → H} {W : World} {fuel : Nat}
    (hone : ∀ {fuel : Nat} {cs : List Value} {x : DataW H × List MemPlace}, cs.length = k → DataW.trod enc P W 0 (fun _ => true) true fuel te cs = some x →
      ∃ r : α, cs = en r ∧ F r ∧ ((x.1.weights P te).all (· ≤ reachBytes) = true → N r) ∧ B r ≤ Rows.uptoBulk x.1)
    {cs : List Value} {x : DataW H × List MemPlace} (hf : DataW.trod enc P W 0 (fun _ => true) true fuel ts cs = some x) :
    ∃ A rs c, cs = [.slice A rs.length c] ∧ rs.length ≤ c ∧ (A = none → c = 0) ∧ Srow en k W 0 W.heap.size A rs ∧ (∀ r ∈ rs, F r) ∧
      ((x.1.weights P ts).all (· ≤ reachBytes) = true → c * P.bytesOf te ≤ 140737488351232 ∧ ∀ r ∈ rs, N r) ∧ (∀ r ∈ rs, B r ≤ Rows.uptoBulk x.1) ∧ rs.length ≤ Rows.uptoBulk x.1 := by
  rcases open_slice ht hf with ⟨hcs, hx⟩ | ⟨a, len, cap, m, n, D, Pl, hcs, _, hl, hm, hmm, hx, hi⟩
  · subst hcs hx
    exact ⟨none, [], 0, rfl, Nat.le_refl _, fun _ => rfl, Srow.nil, (fun r h => by cases h), (fun _ => ⟨by omega, fun r h => by cases h⟩), (fun r h => by cases h), Nat.zero_le _⟩
  · subst hcs hx
    simp only [if_true] at hmm
    subst m
    have key : ∀ i, i < cap → ∃ r : α, (∀ j, j < k → W.cell? (a.add (i * k + j)) = (en r)[j]?) ∧ F r ∧ (((D i).weights P te).all (· ≤ reachBytes) = true → N r) ∧ B r ≤ Rows.uptoBulk (D i) := fun i hik => by
      obtain ⟨cs', hc, ht'⟩ := hi i hik
      rw [hC] at hc
      obtain ⟨_, hcl, hat⟩ := World.cells?_some hc
      obtain ⟨r, hcs', hfi, hne, hbu⟩ := hone hcl ht'
      refine ⟨r, fun j hj => ?_, hfi, hne, hbu⟩
      rw [← Go.Deep.add_add, hat j hj, ← hcs', List.getElem?_eq_getElem (by omega)]
    have key' : ∀ i : Fin cap, ∃ r : α, (∀ j, j < k → W.cell? (a.add (i.1 * k + j)) = (en r)[j]?) ∧ F r ∧ (((D i.1).weights P te).all (· ≤ reachBytes) = true → N r) ∧ B r ≤ Rows.uptoBulk (D i.1) := fun i => key i.1 i.2
    obtain ⟨T, hT⟩ := Classical.axiomOfChoice key'
    have hlen : ((List.finRange cap).take len).length = len := by simp; omega
    have hlen2 : (((List.finRange cap).take len).map T).length = len := by rw [List.length_map, hlen]
    have hmem : ∀ r ∈ ((List.finRange cap).take len).map T, ∃ i : Fin cap, r = T i ∧ i.1 < len := fun r hr => by
      obtain ⟨i, hi2, rfl⟩ := List.mem_map.1 hr
      refine ⟨i, rfl, ?_⟩
      obtain ⟨q, hq, rfl⟩ := List.mem_iff_getElem.1 hi2
      simp at hq ⊢
      omega
    refine ⟨some a, ((List.finRange cap).take len).map T, cap, by rw [hlen2], by omega, (fun h => by cases h), fun hpos => ?_, fun r hr => ?_, fun hw => ⟨?_, fun r hr => ?_⟩, fun r hr => ?_, ?_⟩
    · have hv0 : (en (T ⟨0, by omega⟩))[0]? = some ((en (T ⟨0, by omega⟩))[0]'(by rw [hke]; exact hk0)) := List.getElem?_eq_getElem _
      have hc0 := (hT ⟨0, by omega⟩).1 0 hk0
      rw [Nat.zero_mul, Nat.zero_add, hv0] at hc0
      obtain ⟨e1, e2⟩ := addr_form (k := 0) hc0
      refine ⟨a.block, a.off, by rw [← e1], Nat.zero_le _, ?_, fun j hj => ?_⟩
      · have := World.block_lt_of_cell? _ _ hc0
        rw [e1, e2] at this
        exact this
      · rw [hlen2] at hj
        have q := (hT ⟨j, by omega⟩).1
        intro i u hu
        have hi12 : i < k := by
          have := (List.getElem?_eq_some_iff.1 hu).1
          rw [hke] at this
          exact this
        have q2 := q i hi12
        rw [e1, (addr_form hc0).2] at q2
        rw [Nat.add_assoc, ← hu]
        simp only [List.getElem_map, List.getElem_take, List.getElem_finRange, Fin.cast_mk]
        exact q2
    · obtain ⟨i, rfl, _⟩ := hmem r hr
      exact (hT i).2.1
    · have := reach_slice ht hw
      simp only [List.length_map, List.length_range] at this
      rwa [show len + (cap - len) = cap by omega] at this
    · obtain ⟨i, rfl, hil⟩ := hmem r hr
      simp only [DataW.weights, ht, List.all_cons, Bool.and_eq_true, List.all_append] at hw
      have hw1 := weights_in (d := D i.1) (List.mem_map.2 ⟨i.1, List.mem_range.2 hil, rfl⟩) hw.2.1
      exact (hT i).2.2.1 hw1
    · obtain ⟨i, rfl, hil⟩ := hmem r hr
      have hb := bulk_in (d := D i.1) (x := (List.range len).map D) (List.mem_map.2 ⟨i.1, List.mem_range.2 hil, rfl⟩)
      have := (hT i).2.2.2
      rw [Rows.uptoBulk]
      omega
    · have := bulk_len ((List.range len).map D)
      rw [List.length_map, List.length_range] at this
      rw [hlen2, Rows.uptoBulk]
      omega
end Go.Proofs.YtgcaephfhfkjcaaGreatDoor
namespace Go.Proofs.YtgcaephfhfkjcaaGreatDoor
open Go.ChangeShapes Go.WideShapes Go.Deep Go.RowKit

/-- a line that is to be laid. -/
structure Hl where
  how : Nat
  own : Nat
  ttl : Nat
  tm : Bool
  cl : Bool
  bh : Bool
def hlc (x : Hl) : List Value := [.int .u8 x.how, .int .u8 x.own, .int .u16 x.ttl, .bool x.tm, .bool x.cl, .bool x.bh]
theorem hlc_len (x : Hl) : (hlc x).length = 6 := rfl
theorem wf_u8h {x : Int} (h : (Lit.int .u8 x).wf = true) : ∃ n : Nat, x = n ∧ n ≤ 255 := by
  have h1 : IntKind.u8.min = 0 := rfl
  have h2 : IntKind.u8.max = 255 := rfl
  simp only [Lit.wf, Bool.and_eq_true, decide_eq_true_eq] at h
  exact ⟨x.toNat, by omega, by omega⟩
theorem wf_u16h {x : Int} (h : (Lit.int .u16 x).wf = true) : ∃ n : Nat, x = n ∧ n ≤ 65535 := by
  have h1 : IntKind.u16.min = 0 := rfl
  have h2 : IntKind.u16.max = 65535 := rfl
  simp only [Lit.wf, Bool.and_eq_true, decide_eq_true_eq] at h
  exact ⟨x.toNat, by omega, by omega⟩
def Hl.fits (x : Hl) : Prop := x.how ≤ 255 ∧ x.own ≤ 255 ∧ x.ttl ≤ 65535
set_option maxRecDepth 100000 in
theorem open_line_at {H : Type} {enc : TypeId × Value → H} {W : World} {fuel : Nat} {cs : List Value} {x : DataW H × List MemPlace} (hl : cs.length = 6) (hf : DataW.trod enc Tryz.prog W 0 (fun _ => true) true fuel 47 cs = some x) :
    ∃ q : Hl, cs = hlc q ∧ q.fits ∧ ((x.1.weights Tryz.prog 47).all (· ≤ reachBytes) = true → True) ∧ 0 ≤ Rows.uptoBulk x.1 := by
  match cs, hl with
  | [a0, a1, a2, a3, a4, a5], _ =>
    obtain ⟨xs, n, _, hx, _, hlen, hg⟩ := DataW.trod_struct Tryz.underlying47 hf
    match xs, hlen with
    | [y0, y1, y2, y3, y4, y5], _ =>
      subst hx
      have k0 : Tryz.prog.cellsOf 5 = 1 := by kernel_rfl
      have k1 : Tryz.prog.cellsOf 30 = 1 := by kernel_rfl
      have k2 : Tryz.prog.cellsOf 4 = 1 := by kernel_rfl
      have g0 : DataW.trod enc Tryz.prog W 0 (fun _ => true) true n 5 (List.take (Tryz.prog.cellsOf 5) [a0, a1, a2, a3, a4, a5]) = some y0 := hg 0 _ rfl
      have g1 : DataW.trod enc Tryz.prog W 0 (fun _ => true) true n 5 (List.take (Tryz.prog.cellsOf 5) [a1, a2, a3, a4, a5]) = some y1 := hg 1 _ rfl
      have g2 : DataW.trod enc Tryz.prog W 0 (fun _ => true) true n 30 (List.take (Tryz.prog.cellsOf 30) [a2, a3, a4, a5]) = some y2 := hg 2 _ rfl
      have g3 : DataW.trod enc Tryz.prog W 0 (fun _ => true) true n 4 (List.take (Tryz.prog.cellsOf 4) [a3, a4, a5]) = some y3 := hg 3 _ rfl
      have g4 : DataW.trod enc Tryz.prog W 0 (fun _ => true) true n 4 (List.take (Tryz.prog.cellsOf 4) [a4, a5]) = some y4 := hg 4 _ rfl
      have g5 : DataW.trod enc Tryz.prog W 0 (fun _ => true) true n 4 (List.take (Tryz.prog.cellsOf 4) [a5]) = some y5 := hg 5 _ rfl
      rw [k0] at g0 g1
      rw [k1] at g2
      rw [k2] at g3 g4 g5
      obtain ⟨n0, f0, _, w0⟩ := DataW.trod_int Tryz.underlying5 g0
      obtain ⟨n1, f1, _, w1⟩ := DataW.trod_int Tryz.underlying5 g1
      obtain ⟨n2, f2, _, w2⟩ := DataW.trod_int Tryz.underlying30 g2
      obtain ⟨b3, f3, _⟩ := DataW.trod_bool Tryz.underlying4 g3
      obtain ⟨b4, f4, _⟩ := DataW.trod_bool Tryz.underlying4 g4
      obtain ⟨b5, f5, _⟩ := DataW.trod_bool Tryz.underlying4 g5
      obtain ⟨m0, rfl, l0⟩ := wf_u8h w0
      obtain ⟨m1, rfl, l1⟩ := wf_u8h w1
      obtain ⟨m2, rfl, l2⟩ := wf_u16h w2
      injection f0 with f0 _
      injection f1 with f1 _
      injection f2 with f2 _
      injection f3 with f3 _
      injection f4 with f4 _
      injection f5 with f5 _
      subst f0 f1 f2 f3 f4 f5
      exact ⟨⟨m0, m1, m2, b3, b4, b5⟩, rfl, ⟨l0, l1, l2⟩, fun _ => trivial, Nat.zero_le _⟩
set_option maxRecDepth 100000 in
theorem open_lines {H : Type} {enc : TypeId × Value → H} {W : World} {base : Nat} {v : Value} {d : DataW H} {p : List MemPlace} (hval : Value.okWide Tryz.prog W .any base 45 v) (h : DataW.Trod enc Tryz.prog W 0 (fun _ => true) true 45 v d p) :
    ∃ A rs c, v = .slice A (rs : List Hl).length c ∧ rs.length ≤ c ∧ Srow hlc 6 W 0 W.heap.size A rs ∧ ∀ r ∈ rs, r.fits := by
  obtain ⟨a0, len, cap, rfl⟩ := okWide_slice Tryz.underlying45 hval
  obtain ⟨fuel, hf⟩ := h
  obtain ⟨A, rs, c, h1, h2, _, h4, h5, _⟩ := open_rows (F := fun q : Hl => q.fits) (N := fun _ => True) (B := fun _ => 0) (by decide) hlc_len Tryz.underlying45 (by kernel_rfl) (fun h1 h2 => open_line_at h1 h2) hf
  refine ⟨A, rs, c, ?_, h2, h4, h5⟩
  simpa [Value.cells] using h1
end Go.Proofs.YtgcaephfhfkjcaaGreatDoor
namespace Go.Proofs.YtgcaephfhfkjcaaGreatDoor
open Go.RowKit

/-- data with names in small letters. -/
def Dv.fold (t : Nat) (d : Dv) : Dv :=
  { d with host := if Rd.isHost t then ⟨(Nm.fold d.host.data.toList).toArray⟩ else d.host, mail := if Rd.isMail t then ⟨(Nm.fold d.mail.data.toList).toArray⟩ else d.mail }
end Go.Proofs.YtgcaephfhfkjcaaGreatDoor
