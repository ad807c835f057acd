/- Texts of the proofs, merged. -/
import Derived.Test.YtgcaephfhfkjcaaGreatDoorZm21
import Derived.Test.YtgcaephfhfkjcaaGreatDoorZm20
import Derived.Test.YtgcaephfhfkjcaaGreatDoorZm9
import Derived.Test.YtgcaephfhfkjcaaGreatDoorZm16
import Derived.Deep.RegionWith
import Derived.Deep.CutRange
import Derived.Test.YtgcaephfhfkjcaaGreatDoorZm4
import Derived.Test.YtgcaephfhfkjcaaGreatDoorZm2
import Derived.ProofKit
import Derived.OpenShut
import Derived.ShutString
import Derived.WideKeyArgs
import Derived.SliceStrings
import Derived.Deep.DeepHandedRow
import Derived.Deep.DeepWitnessRowRef
import Derived.Deep.Slices
import Derived.Deep.Fields
import Derived.ChangeSame
import Derived.Deep.DeepAppendWide
import Derived.Lib.AppendZeros
import Derived.Laws.CopyOwn
namespace Go.Proofs.YtgcaephfhfkjcaaGreatDoor
open Go.RowKit

set_option maxHeartbeats 1000000 in
theorem row_arg (g B c lo : Nat) (A : Option Addr) (l X : List UInt8) (ld : Bool) (tw z : Int) (W : World) (h : RS W g B A l.length c X ld tw) (hc : l.length ≤ c) (hm : l.length ≤ 211106232532992) (hb : Bs W lo B A l)
    (hz : z < 0 ∨ (l.length : Int) < z) :
    Calls Tryz.prog 190 #[.pointer (some ⟨g, 0, none⟩), .int .i64 z] W fun e W' => e = .returned (.tuple #[.int .i64 0, .int .i64 1]) ∧ W = W' := by
  obtain ⟨hB, vL, h1, h2⟩ := h
  have c0 : W.cell? ⟨g, 0, none⟩ = some (.slice A l.length c) := by rw [h1.cell]; rfl
  have hT := take_u8 A l c z W hc hm lo B hb
  rw [takeV_arg hz] at hT
  have HT := Lib.hid hT
  clear h1 h2 hT hb hz
  go_enter Tryz.func190, Tryz.ntmps190
  go_wp2
  refine wp_loop_rounds 1 ?_
  rw [rounds_succ]
  go_wp2_with (go_at_call 150; refine HT.out.mono ?_; rintro e w' ⟨rfl, rfl⟩)
  go_ret2
  exact ⟨rfl, rfl⟩

/-- how far a reading has tw go yet. -/
def rdM (g : Nat) (e : Value) (w : World) : Nat :=
  if intOf e = 0 then match w.cell? ⟨g, 2, none⟩, w.cell? ⟨g, 3, none⟩ with
    | some (.bool true), some (.int _ p) => p.toNat + 1
    | _, _ => 0
  else 0
theorem rdM_err {g : Nat} {er : Int} {w : World} (h : (er == 0) = false) : rdM g (.int .i64 er) w = 0 := by
  unfold rdM; rw [if_neg (by simpa [intOf] using h)]
theorem rdM_rs {g B : Nat} {A : Option Addr} {n c : Nat} {X : List UInt8} {ld : Bool} {p : Nat} {w : World} (h : RS w g B A n c X ld p) : rdM g (.int .i64 0) w = if ld then p + 1 else 0 := by
  obtain ⟨_, vL, h1, _⟩ := h
  have c2 : w.cell? ⟨g, 2, none⟩ = some (.bool ld) := by rw [h1.cell]; rfl
  have c3 : w.cell? ⟨g, 3, none⟩ = some (.int .i64 p) := by rw [h1.cell]; rfl
  unfold rdM
  rw [c2, c3]
  cases ld <;> simp [intOf]

/-- between two rows. -/
def TkI (l : List UInt8) (g B c n : Nat) (A : Option Addr) (bh : Nat) (er : Int) (wr : World) : Prop :=
  ((er == 0) = false ∧ Pr.tk l n n 1 = .err er) ∨
  (er = 0 ∧ ∃ ls tw, RS wr g B A l.length c (Nm.body ls) false tw ∧ (Nm.body ls).length ≤ 254 ∧ Pr.tk l n n 1 = .ok ls bh) ∨
  (er = 0 ∧ ∃ ls p, RS wr g B A l.length c (Nm.body ls) true (p : Nat) ∧ p ≤ l.length ∧ (Nm.body ls).length ≤ 254 ∧ Pr.tk l n n 1 = Pr.fin ls (some bh) (Pr.tk l p p (1 + (Nm.body ls).length)))
theorem rdM_any {g : Nat} {er : Int} {w : World} {p : Nat} (h : (er == 0) = false) : rdM g (.int .i64 er) w < p + 1 := by rw [rdM_err h]; omega

theorem row_first (g B c lo n : Nat) (A : Option Addr) (l : List UInt8) (ld : Bool) (tw : Int) (W : World) (h : RS W g B A l.length c [] ld tw) (hc : l.length ≤ c) (hm : l.length ≤ 211106232532992) (hb : Bs W lo B A l) (hBW : B ≤ W.heap.size) (hn : n ≤ l.length) :
    Calls Tryz.prog 190 #[.pointer (some ⟨g, 0, none⟩), .int .i64 n] W fun e W' => ∃ (bh : Nat) (er : Int), e = .returned (.tuple #[.int .i64 bh, .int .i64 er]) ∧ TkI l g B c n A bh er W' ∧ Below B W W' := by
  refine (row_in g B n c lo A l [] ld tw W h hc hm hb hBW hn (by simp)).mono ?_
  rintro e W' ⟨hb', (⟨er, h1, rfl, h2⟩ | ⟨ls, bh, tw', rfl, h1, h2, h3⟩ | ⟨ls, bh, p, rfl, h1, h2, h3, h4⟩)⟩
  · have := h2 [] none
    rw [Pr.fin_nil] at this
    exact ⟨0, er, rfl, .inl ⟨h1, this⟩, hb'⟩
  · have := h3 [] none
    rw [Pr.fin_nil] at this
    exact ⟨bh, 0, rfl, .inr (.inl ⟨rfl, ls, tw', h1, h2, this⟩), hb'⟩
  · have := h4 [] none
    rw [Pr.fin_nil] at this
    exact ⟨bh, 0, rfl, .inr (.inr ⟨rfl, ls, p, h1, by omega, h3, this⟩), hb'⟩
theorem row_next (g B c lo n bh p : Nat) (A : Option Addr) (l : List UInt8) (ls : List (List UInt8)) (W : World) (h : RS W g B A l.length c (Nm.body ls) true (p : Nat)) (hc : l.length ≤ c) (hm : l.length ≤ 211106232532992) (hb : Bs W lo B A l) (hBW : B ≤ W.heap.size) (hp : p ≤ l.length)
    (hX : (Nm.body ls).length ≤ 254) (ht : Pr.tk l n n 1 = Pr.fin ls (some bh) (Pr.tk l p p (1 + (Nm.body ls).length))) :
    Calls Tryz.prog 190 #[.pointer (some ⟨g, 0, none⟩), .int .i64 p] W fun e W' => ∃ (bh2 : Nat) (er : Int), e = .returned (.tuple #[.int .i64 bh2, .int .i64 er]) ∧ TkI l g B c n A bh er W' ∧ Below B W W' ∧ rdM g (.int .i64 er) W' < p + 1 := by
  refine (row_in g B p c lo A l (Nm.body ls) true p W h hc hm hb hBW hp hX).mono ?_
  rintro e W' ⟨hb', (⟨er, h1, rfl, h2⟩ | ⟨ls2, bh2, tw', rfl, h1, h2, h3⟩ | ⟨ls2, bh2, p2, rfl, h1, h2, h3, h4⟩)⟩
  · have := h2 ls (some bh)
    rw [← ht] at this
    exact ⟨0, er, rfl, .inl ⟨h1, this⟩, hb', rdM_any h1⟩
  · have := h3 ls (some bh)
    rw [← ht] at this
    rw [← Nm.body_append] at h1 h2
    refine ⟨bh2, 0, rfl, .inr (.inl ⟨rfl, ls ++ ls2, tw', h1, h2, this⟩), hb', ?_⟩
    obtain ⟨_, vL, k1, _⟩ := h1
    have c2 : W'.cell? ⟨g, 2, none⟩ = some (.bool false) := by rw [k1.cell]; rfl
    unfold rdM
    rw [c2]
    simp [intOf]
  · have := h4 ls (some bh)
    rw [← ht] at this
    rw [← Nm.body_append] at h1 h3 this
    refine ⟨bh2, 0, rfl, .inr (.inr ⟨rfl, ls ++ ls2, p2, h1, by omega, h3, this⟩), hb', ?_⟩
    rw [rdM_rs h1]
    simp; omega

set_option maxHeartbeats 2000000 in
set_option maxRecDepth 100000 in
theorem prTake_in (A : Option Addr) (l : List UInt8) (c n : Nat) (w : World) (hc : l.length ≤ c) (hm : l.length ≤ 211106232532992) (lo : Nat) (hr : Bs w lo w.heap.size A l) (hn : n ≤ l.length) :
    Calls Tryz.prog 184 #[.slice A l.length c, .int .i64 n] w fun e w' => e = .returned (trV (Pr.tk l n n 1)) ∧ Below w.heap.size w w' := by
  have HR := Lib.hid hr
  have hrs : RS (w.alloc (.cells #[.slice A l.length c, .slice none 0 0, .bool false, .int .i64 0] 247)) w.heap.size w.heap.size A l.length c [] false 0 :=
    ⟨Nat.le_refl _, .slice none 0 0, Has.fresh w _ _, World.ownsRow_nil _ _ _ _⟩
  have HF := Lib.hid (row_first w.heap.size w.heap.size c lo n A l false 0 _ hrs hc hm (hr.alloc (Nat.le_refl _) _) (by simp) hn)
  clear hr hrs
  go_enter Tryz.func184, Tryz.ntmps184
  go_wp2_with (go_at_call 190; refine HF.out.mono ?_; rintro e w3 ⟨bh, er, rfl, hI3, hb3⟩)
  have hb03 : Below w.heap.size w w3 := ((Below.refl _ w).alloc (Nat.le_refl _) _).trans hb3
  have HI3 := Lib.hid hI3
  have HB3 := Lib.hid hb03
  clear hI3 hb3 hb03 HF
  go_loopw [9] (fun s9 wr => ∃ er, s9 = .int .i64 er ∧ Hid (TkI l w.heap.size w.heap.size c n A bh er wr) ∧ Below w.heap.size w wr) (fun s9 wr => rdM w.heap.size s9 wr)
  case atStart => exact ⟨er, rfl, HI3.out, HB3.out⟩
  case round =>
    obtain ⟨er, rfl, HI, hbw⟩ := hrel
    have HW := Lib.hid hbw
    have hbs := hbw.size
    clear hbw
    rcases HI.out with ⟨h1, h2⟩ | ⟨rfl, ls, tw, h1, h2, h3⟩ | ⟨rfl, ls, p, h1, h2, h3, h4⟩
    · have hne : (er != 0) = true := by simp [bne, h1]
      have H2 := Lib.hid h2
      clear h2 HI HI3 HB3
      go_wp2
      go_ret3
      exact ⟨by rw [H2.out]; rfl, HW.out⟩
    · obtain ⟨hgB, vL, k1, k2⟩ := h1
      obtain ⟨aL, cL, rfl⟩ := own_form k2
      have c1 : wr.cell? ⟨w.heap.size, 1, none⟩ = some (.slice aL (Nm.body ls).length cL) := by rw [k1.cell]; rfl
      have c2 : wr.cell? ⟨w.heap.size, 2, none⟩ = some (.bool false) := by rw [k1.cell]; rfl
      have hcv := run_convert_own wr 56 22 5 Tryz.underlying56 Tryz.underlying5 Tryz.underlying22 w.heap.size (Nm.body ls).length _ (Nm.body ls) k2
      have H3 := Lib.hid h3
      clear k1 k2 h3 HI HI3 HB3
      go_wp2
      go_ret3
      refine ⟨?_, HW.out⟩
      rw [H3.out]
      show Ending.returned (.tuple #[.string (⟨(Nm.body ls).toArray⟩ ++ ⟨#[0]⟩), .int .i64 bh, .int .i64 0]) = _
      rw [string_eq (s := ⟨(Nm.body ls).toArray⟩ ++ ⟨#[0]⟩) (l := Nm.glue ls) (by rw [Nm.glue, ByteArray.data_append]; simp)]
      rfl
    · have hmes := rdM_rs h1
      have HN := Lib.hid (row_next w.heap.size w.heap.size c lo n bh p A l ls wr h1 hc hm (HR.out.keep HW.out) hbs h2 h3 h4)
      obtain ⟨hgB, vL, k1, k2⟩ := h1
      have c2 : wr.cell? ⟨w.heap.size, 2, none⟩ = some (.bool true) := by rw [k1.cell]; rfl
      have c3 : wr.cell? ⟨w.heap.size, 3, none⟩ = some (.int .i64 p) := by rw [k1.cell]; rfl
      have HM := Lib.hid hmes
      clear k1 k2 h4 HI HI3 HB3 hmes
      go_wp2_with (go_at_call 190; refine HN.out.mono ?_; rintro e w5 ⟨bh2, er2, rfl, hI5, hb5, hm5⟩)
      go_roundw
      case rel => exact ⟨er2, rfl, hI5, HW.out.trans hb5⟩
      case measure => rw [HM.out]; exact hm5
theorem prTake_any (A : Option Addr) (l : List UInt8) (c : Nat) (z : Int) (w : World) (hc : l.length ≤ c) (hm : l.length ≤ 211106232532992) (lo : Nat) (hr : Bs w lo w.heap.size A l) :
    Calls Tryz.prog 184 #[.slice A l.length c, .int .i64 z] w fun e w' => e = .returned (prTakeV l z) ∧ Below w.heap.size w w' := by
  unfold prTakeV
  by_cases h0 : z < 0 ∨ (l.length : Int) < z
  · rw [if_pos h0]
    have HA := Lib.hid (row_arg w.heap.size w.heap.size c lo A l [] false 0 z (w.alloc (.cells #[.slice A l.length c, .slice none 0 0, .bool false, .int .i64 0] 247)) ⟨Nat.le_refl _, .slice none 0 0, Has.fresh w _ _, World.ownsRow_nil _ _ _ _⟩ hc hm (hr.alloc (Nat.le_refl _) _) h0)
    clear hr h0
    go_enter Tryz.func184, Tryz.ntmps184
    go_wp2_with (go_at_call 190; refine HA.out.mono ?_; rintro e w3 ⟨rfl, rfl⟩)
    refine wp_loop_rounds 1 ?_
    rw [rounds_succ]
    go_wp2
    go_ret3
    exact ⟨rfl, (Below.refl _ w).alloc (Nat.le_refl _) _⟩
  · rw [if_neg h0]
    obtain ⟨n, rfl⟩ : ∃ n : Nat, z = n := ⟨z.toNat, by omega⟩
    exact prTake_in A l c n w hc hm lo hr (by omega)
end Go.Proofs.YtgcaephfhfkjcaaGreatDoor
namespace Go.Proofs.YtgcaephfhfkjcaaGreatDoor
open Go.RowKit

def ab : List (List UInt8) := [[97], [98]]
def cb : List (List UInt8) := [[99], [98]]
end Go.Proofs.YtgcaephfhfkjcaaGreatDoor
namespace Go.Proofs.YtgcaephfhfkjcaaGreatDoor
open Go.RowKit

def d0 : Dv := ⟨⟨#[]⟩, ⟨#[1, 97, 0]⟩, ⟨#[]⟩, 10, 0, 0, 0, 0⟩
end Go.Proofs.YtgcaephfhfkjcaaGreatDoor
namespace Go.Proofs.YtgcaephfhfkjcaaGreatDoor
open Go.ChangeShapes Go.WideShapes Go.ChangeAt Go.RowKit

theorem own : ownKnob Tryz.prog.godebug = none := by kernel_rfl
theorem out : laidOutB Tryz.prog = true := by kernel_rfl

/-- what holds behind a call of which 'Below' is known: the places that were read are as they were. -/
theorem post_low {H : Type} {enc : TypeId × Value → H} {P : Program} {f : Func} {s : ChangeSpec} {apart fresh handsOn again : Bool} {W W' : World} {args : Array Value} {v : Value} {ds gs : List (DataW H)} {before pa pv : List MemPlace}
    (hW : DataW.Whole enc P f.params.toList s.vars apart W args.toList ds gs before) (hps : before = pa ++ pv) (hb : Below W.heap.size W W')
    (hres : ∀ (b : Nat) (sp : Nat → Bool) (hd : Bool), DataW.TrodAll enc P W' b sp hd f.resultTypes.toList (v.resultList f.resultTypes.size) (s.fn H (ds ++ gs)).results [])
    (hargs : ∀ sp : Nat → Bool, (∀ p ∈ before, sp p.block = true) → DataW.TrodAll enc P W' 0 sp true f.params.toList args.toList (s.fn H (ds ++ gs)).args pa)
    (hvars : ∀ sp : Nat → Bool, (∀ p ∈ before, sp p.block = true) → DataW.TrodVars enc P W' sp s.vars (s.fn H (ds ++ gs)).vars pv)
    (hok : ∀ (j : Nat) (t : TypeId) (r : Value), f.resultTypes[j]? = some t → (v.resultList f.resultTypes.size)[j]? = some r → Value.okWide P W' .any 0 t r) :
    s.post enc P f apart fresh handsOn again W args v W' := by
  have hin : ∀ p ∈ before, (fun b => decide (b < W.heap.size)) p.block = true := fun p hp => by simpa using hW.lt p hp
  have hmem : ∀ p ∈ before, p ∈ pa ∨ p ∈ pv := fun p hp => by rw [hps] at hp; exact List.mem_append.1 hp
  refine ⟨ds, gs, before, [], pa, pv, hW, hres _ _ _, hargs _ hin, hvars _ hin, World.keptBut_mono (fun p hp => ⟨hp, .inr (hmem p hp)⟩) (hb.frame (· ∈ before)), fun _ => ?_⟩
  obtain ⟨_, _, _, _, _, hz, hn⟩ := id hW
  refine ⟨hok, _, _, ([] ++ pa) ++ pv, ⟨[] ++ pa, pv, trodAll_append (hargs _ (fun _ _ => rfl)) (hres _ _ _), hvars _ (fun _ _ => rfl), rfl, fun b off hp => ?_, fun ha => ?_⟩, fun p hp _ => ?_⟩
  · have hb' : MemPlace.cell b off ∈ before := by rw [hps]; simpa using hp
    exact (hb.frozen (hW.lt _ hb')).trans (hz b off hb')
  · have h := hn ha
    rw [hps] at h
    simpa using h
  · rw [hps]; simpa using hp

theorem reach_cons {H : Type} {P : Program} {t : TypeId} {ts : List TypeId} {d : DataW H} {r : List (DataW H)} (h : (DataW.weightsEach P (t :: ts) (d :: r)).all (· ≤ reachBytes) = true) :
    (d.weights P t).all (· ≤ reachBytes) = true ∧ (DataW.weightsEach P ts r).all (· ≤ reachBytes) = true := by
  have e : DataW.weightsEach P (t :: ts) (d :: r) = d.weights P t ++ DataW.weightsEach P ts r := rfl
  rw [e, List.all_append, Bool.and_eq_true] at h
  exact h
theorem reach_str {H : Type} {P : Program} {t : TypeId} {s : ByteArray} (h : ((DataW.lit (.string s.data.toList) : DataW H).weights P t).all (· ≤ reachBytes) = true) : s.size ≤ 140737488351232 := by
  have e : (DataW.lit (.string s.data.toList) : DataW H).weights P t = [s.data.toList.length] := by unfold DataW.weights; rfl
  rw [e, List.all_cons, Bool.and_eq_true] at h
  have := of_decide_eq_true h.1
  unfold reachBytes at this
  simpa using this
/-- all arguments read behind the call as they did. -/
theorem trodAll_stays {H : Type} {enc : TypeId × Value → H} {P : Program} (hl : laidOutB P = true) {W W' : World} {sp : Nat → Bool} : ∀ {ts : List TypeId} {vs : List Value} {ds : List (DataW H)} {ps : List MemPlace},
    (ts.all fun t => P.readableRec t && decide (t < P.types.size)) = true → DataW.TrodAll enc P W 0 (fun _ => true) true ts vs ds ps → (∀ p ∈ ps, W.sameAt W' p) → (∀ p ∈ ps, sp p.block = true) → DataW.TrodAll enc P W' 0 sp true ts vs ds ps := by
  intro ts
  induction ts with
  | nil =>
    intro vs ds ps _ h _ _
    obtain ⟨rfl, rfl, rfl⟩ := trodAll_nil h
    exact trodAll_mk0
  | cons t ts ih =>
    intro vs ds ps hr h hs hsp
    obtain ⟨v, vs', d, ds', p, q, rfl, rfl, rfl, h0, h1⟩ := trodAll_cons h
    simp only [List.all_cons, Bool.and_eq_true, decide_eq_true_eq] at hr
    exact trodAll_cons_mk (WideElems.Trod_stays hl hr.1.1 hr.1.2 h0 (fun x hx => hs x (List.mem_append_left _ hx)) (fun x hx => hsp x (List.mem_append_left _ hx)))
      (ih (by simpa using hr.2) h1 (fun x hx => hs x (List.mem_append_right _ hx)) (fun x hx => hsp x (List.mem_append_right _ hx)))
theorem addr_form {w : World} {a : Addr} {k : Nat} {v : Value} (h : w.cell? (a.add 0) = some v) : a = ⟨a.block, a.off, none⟩ ∧ (⟨a.block, a.off, none⟩ : Addr).add k = ⟨a.block, a.off + k, none⟩ := by
  obtain ⟨ab, ao, spot⟩ := a
  have hs : spot = none := by simpa [Addr.add] using World.cell?_spot h
  subst hs
  exact ⟨rfl, addr_add ab ao k⟩
end Go.Proofs.YtgcaephfhfkjcaaGreatDoor
namespace Go.Proofs.YtgcaephfhfkjcaaGreatDoor
open Go.ChangeShapes Go.WideShapes Go.Deep Go.RowKit

section
variable {H : Type} {enc : TypeId × Value → H} {P : Program} {w : World} {base : Nat} {spare : Nat → Bool} {held : Bool}
end

structure It where
  skip : Int
  name : ByteArray
  plain : Bool
/-- items that stand from a slice's head on. -/
def Its (w : World) (hi : Nat) (A : Option Addr) (its : List It) : Prop :=
  0 < its.length → ∃ g o, A = some ⟨g, o, none⟩ ∧ g < hi ∧ ∀ j (h : j < its.length), w.cell? ⟨g, o + j * 3, none⟩ = some (.int .i64 its[j].skip) ∧ w.cell? ⟨g, o + j * 3 + 1, none⟩ = some (.string its[j].name) ∧ w.cell? ⟨g, o + j * 3 + 2, none⟩ = some (.bool its[j].plain)
theorem Its.keep {w w' : World} {hi : Nat} {A : Option Addr} {its : List It} (h : Its w hi A its) (hb : Below hi w w') : Its w' hi A its := fun h0 => by
  obtain ⟨g, o, hA, hg, hc⟩ := h h0
  exact ⟨g, o, hA, hg, fun j hj => ⟨(hb.cell hg).trans (hc j hj).1, (hb.cell hg).trans (hc j hj).2.1, (hb.cell hg).trans (hc j hj).2.2⟩⟩
theorem weights_in {H : Type} {P : Program} {e : TypeId} {d : DataW H} : ∀ {x : List (DataW H)}, d ∈ x → (DataW.weightsAll P e x).all (· ≤ reachBytes) = true → (d.weights P e).all (· ≤ reachBytes) = true
  | c :: r, hm, h => by
    rw [DataW.weightsAll, List.all_append, Bool.and_eq_true] at h
    rcases List.mem_cons.1 hm with rfl | hm
    · exact h.1
    · exact weights_in hm h.2
end Go.Proofs.YtgcaephfhfkjcaaGreatDoor
namespace Go.Proofs.YtgcaephfhfkjcaaGreatDoor
open Go.RowKit

theorem get_snoc {α : Type} (l : List α) (x : α) : (l ++ [x])[l.length]? = some x := by simp
theorem get_front {α : Type} {l : List α} {j : Nat} {p : α} (h : l[j]? = some p) (r : List α) : (l ++ r)[j]? = some p := by
  rw [List.getElem?_append_left (List.getElem?_eq_some_iff.1 h).1]; exact h
/-- names that stand one behind the other: each is read at its place. -/
def Chain (b : List UInt8) (ps : List Nat) (ns : List (List UInt8)) : Prop :=
  ps.length = ns.length + 1 ∧ ∀ j (h : j < ns.length), ∃ ls p q, ns[j] = Nm.glue ls ∧ (Nm.glue ls).length ≤ 255 ∧ ps[j]? = some p ∧ ps[j + 1]? = some q ∧ p ≤ b.length ∧ q ≤ b.length ∧ Pr.Rdb b p ls p q
theorem Chain.nil : Chain [] [0] [] := ⟨rfl, fun j h => absurd h (by simp)⟩
theorem Chain.step {b R : List UInt8} {ats : List Nat} {ns : List (List UInt8)} (h : Chain b (ats ++ [b.length]) ns) {ls : List (List UInt8)} (h255 : (Nm.glue ls).length ≤ 255)
    (hr : Pr.Rdb (b ++ R) b.length ls b.length (b ++ R).length) :
    Chain (b ++ R) ((ats ++ [b.length]) ++ [(b ++ R).length]) (ns ++ [Nm.glue ls]) := by
  obtain ⟨h1, h2⟩ := h
  have hb : b.length ≤ (b ++ R).length := by rw [List.length_append]; omega
  have hl : ats.length = ns.length := by simp at h1; exact h1
  refine ⟨by rw [List.length_append, h1]; simp, fun j hj => ?_⟩
  rw [List.length_append] at hj
  by_cases hlt : j < ns.length
  · obtain ⟨ks, p, q, e1, e2, e3, e4, e5, e6, e7⟩ := h2 j hlt
    exact ⟨ks, p, q, by rw [List.getElem_append_left hlt]; exact e1, e2, get_front e3 _, get_front e4 _, by omega, by omega, e7.more R⟩
  · obtain rfl : j = ns.length := by simp at hj; omega
    refine ⟨ls, b.length, (b ++ R).length, by simp, h255, ?_, ?_, hb, Nat.le_refl _, hr⟩
    · rw [← hl]; exact get_front (get_snoc ats b.length) _
    · have := get_snoc (ats ++ [b.length]) (b ++ R).length
      have e : (ats ++ [b.length]).length = ns.length + 1 := h1
      rw [e] at this
      exact this
theorem Chain.take {b : List UInt8} {ps : List Nat} {ns : List (List UInt8)} (h : Chain b ps ns) {j : Nat} (hj : j < ns.length) (rest : List UInt8) :
    ∃ p q, ps[j]? = some p ∧ ps[j + 1]? = some q ∧ p ≤ b.length ∧ q ≤ b.length ∧ prTakeV (b ++ rest) (p : Nat) = .tuple #[sv (ns[j]'hj), .int .i64 (q : Nat), .int .i64 0] := by
  obtain ⟨ls, p, q, e1, e2, e3, e4, e5, e6, e7⟩ := h.2 j hj
  refine ⟨p, q, e3, e4, e5, e6, ?_⟩
  unfold prTakeV
  rw [if_neg (by rw [List.length_append]; omega), show ((p : Int)).toNat = p from rfl, e7 rest p 1 (Nat.le_refl _) (by rw [Pr.tot_glue] at e2; omega), e1]
  rfl

/-- what is known of what was written, apart from memory. -/
def BkP (T : Tab) (b : List UInt8) (ats : List Nat) (ns : List (List UInt8)) (i : Nat) : Prop :=
  Pr.Snd b T ∧ Chain b (ats ++ [b.length]) ns ∧ b.length ≤ 255 * i ∧ T.length ≤ 255 * i ∧ ns.length ≤ i ∧ ats.length = ns.length
theorem BkP.nil : BkP [] [] [] [] 0 := ⟨Pr.Snd.nil _, Chain.nil, by simp, by simp, by simp, rfl⟩
theorem BkP.skip {T : Tab} {b : List UInt8} {ats : List Nat} {ns : List (List UInt8)} {i : Nat} (h : BkP T b ats ns i) : BkP T b ats ns (i + 1) := by
  obtain ⟨h1, h2, h3, h4, h5, h6⟩ := h
  exact ⟨h1, h2, by omega, by omega, by omega, h6⟩
theorem BkP.step {T : Tab} {b : List UInt8} {ats : List Nat} {ns : List (List UInt8)} {i : Nat} (h : BkP T b ats ns i) (plain : Bool) {s : ByteArray} {ls : List (List UInt8)} (hs : Nm.split s.data.toList = some ls) :
    BkP (Pr.pw plain T b.length ls).1 (b ++ (Pr.pw plain T b.length ls).2) (ats ++ [b.length]) (ns ++ [s.data.toList]) (i + 1) ∧
    b.length < (b ++ (Pr.pw plain T b.length ls).2).length ∧ (b ++ (Pr.pw plain T b.length ls).2).length ≤ b.length + s.size ∧ (plain = true → (b ++ (Pr.pw plain T b.length ls).2).length = b.length + s.size) := by
  obtain ⟨h1, h2, h3, h4, h5, h6⟩ := h
  obtain ⟨hgl, hgd, h255⟩ := Nm.split_some.1 hs
  have hsz : s.size = (Nm.glue ls).length := by rw [← hgl]; simp
  rw [hgl] at h255
  obtain ⟨r1, r2⟩ := Pr.pw_sound (ls := ls) (t := T) (b := b) plain hgd h255 h1
  obtain ⟨p1, _, p3, p4⟩ := Pr.pw_len plain ls T b.length
  have p5 := p3 hgd
  have p6 := Pr.pw_tab plain ls T b.length
  have hfew := few hs
  have hst := h2.step (R := (Pr.pw plain T b.length ls).2) h255 r1
  rw [← hgl] at hst
  have hlen : (b ++ (Pr.pw plain T b.length ls).2).length = b.length + (Pr.pw plain T b.length ls).2.length := List.length_append
  refine ⟨⟨r2, hst, by omega, by omega, by simp; omega, by simp; omega⟩, by omega, by omega, fun hp => ?_⟩
  have := p4 hp
  rw [this] at hlen
  rw [this, hsz, hlen]

section
variable {w W W' : World}
theorem Rg.own {g base : Nat} (h : Rg g base W W') {t e : TypeId} {cs : Array Value} (hT : Has W g t cs) {b n : Nat} {v : Value} {xs : List Value} (hk : W.ownsRow b e 1 v n xs) (hte : t ≠ e) : W'.ownsRow b e 1 v n xs := by
  have hne := has_not_own hT hk hte
  refine ⟨hk.1, ?_⟩
  rcases hk.2 with h0 | ⟨g2, cap, cur, rfl, hb, hg, rest⟩
  · exact .inl h0
  · exact .inr ⟨g2, cap, cur, rfl, hb, h.same g2 _ (fun e2 => hne (by rw [e2]; rfl)) hg rfl, rest⟩
variable {T : Tab} {b : List UInt8} {ats : List Nat} {ns : List (List UInt8)} {vb vat vn : Value}
end
/-- all bytes, all places and all names. -/
def Bk2 (w : World) (L : List UInt8) (ps : List Nat) (ns : List (List UInt8)) (vL vT vN : Value) (W : World) : Prop :=
  W.ownsRow w.heap.size 5 1 vL L.length (bv L) ∧ W.ownsRow w.heap.size 3 1 vT ps.length (ints ps) ∧ W.ownsRow w.heap.size 22 1 vN ns.length (svs ns) ∧ Below w.heap.size w W
theorem Bk2.low {w W W' : World} {L : List UInt8} {ps : List Nat} {ns : List (List UInt8)} {vL vT vN : Value} (h : Bk2 w L ps ns vL vT vN W) (hb : Below W.heap.size W W') : Bk2 w L ps ns vL vT vN W' :=
  ⟨own_below h.1 hb (Nat.le_refl _), own_below h.2.1 hb (Nat.le_refl _), own_below h.2.2.1 hb (Nat.le_refl _), h.2.2.2.trans (hb.mono h.2.2.2.size)⟩
end Go.Proofs.YtgcaephfhfkjcaaGreatDoor
namespace Go.Proofs.YtgcaephfhfkjcaaGreatDoor
open Go.RowKit

/-- two rows that share no block. -/
def Apart (a b : Value) : Prop := ∀ g, a.ownBlock = some g → b.ownBlock ≠ some g
theorem Apart.symm {a b : Value} (h : Apart a b) : Apart b a := fun g hb ha => h g ha hb
theorem Apart.row {a b : Value} (h : Apart a b) : a.ownBlock = none ∨ a.ownBlock ≠ b.ownBlock := by
  rcases hb : a.ownBlock with _ | g
  · exact .inl rfl
  · exact .inr fun e => h g hb e.symm
theorem Apart.nil (a : Value) : Apart a (.slice none 0 0) := fun g _ e => by simp [Value.ownBlock] at e
section
variable {base : Nat} {W W' : World}
end

section
variable {w W W' : World} {T : Tab} {la lb l : List UInt8} {va vb : Value}
end

section
variable {w W W' : World} {T : Tab} {l : List UInt8} {va vb : Value} {R : Nat}
end
end Go.Proofs.YtgcaephfhfkjcaaGreatDoor
namespace Go.Proofs.YtgcaephfhfkjcaaGreatDoor
open Go.RowKit

/-- what the parts of data that are as they should be come to. -/
theorem fitAll_at {d : Rd.Dt} {l : List Nat} {k : Nat} (h : Rd.fitAll d l 0 = true) (hk : k < l.length) : Rd.fit (l[k]) d (Rd.nums (l.take k)) = true := by
  have h1 : Rd.fitAll d (l.take (k + 1)) 0 = true := by
    cases hc : Rd.fitAll d (l.take (k + 1)) 0 with
    | true => rfl
    | false =>
      rw [Rd.fitAll_no hc] at h
      cases h
  rw [List.take_succ_eq_append_getElem hk, Rd.fitAll_snoc, Nat.zero_add, Bool.and_eq_true] at h1
  exact h1.2
theorem nm_split {l : List UInt8} (h : Rd.nm l = true) : ∃ ls, Nm.split l = some ls := Option.isSome_iff_exists.1 h
/-- the labels of a text, or none. -/
def lbs (s : ByteArray) : List (List UInt8) := (Nm.split s.data.toList).getD []
theorem lbs_of {s : ByteArray} (h : Rd.nm s.data.toList = true) : Nm.split s.data.toList = some (lbs s) := by
  obtain ⟨ls, e⟩ := nm_split h
  unfold lbs
  rw [e]
  rfl
theorem ok_raw {t : Nat} {d : Rd.Dt} (h : Rd.ok t d = true) : d.raw.length ≤ 65535 := by
  have h1 : Rd.rawOk t d.raw = true := by
    unfold Rd.ok at h
    simp only [Bool.and_eq_true] at h
    exact h.1.1.1.1.1.1.1.1.1
  unfold Rd.rawOk at h1
  split at h1
  · have : d.raw = [] := by simpa using h1
    rw [this]; simp
  split at h1
  · have : d.raw.length = 4 := by simpa using h1
    omega
  split at h1
  · have : d.raw.length = 16 := by simpa using h1
    omega
  split at h1
  · split at h1
    · exact of_decide_eq_true h1
    · cases h1
  · exact of_decide_eq_true h1
end Go.Proofs.YtgcaephfhfkjcaaGreatDoor
namespace Go.Proofs.YtgcaephfhfkjcaaGreatDoor
open Go.RowKit

theorem RowO.kept {W W' : World} {b : Nat} {v u : Value} {l : List UInt8} (h : RowO W b v l) (hG : W.grownBy W' u.ownBlock) (ha : Apart v u) : RowO W' b v l := by
  rcases h with h | ⟨g, cp, rfl, h⟩
  · exact .inl (h.kept hG ha.row)
  · exact .inr ⟨g, cp, rfl, h.kept hG (show (Value.slice (some ⟨g, 0, none⟩) l.length cp).ownBlock = none ∨ (Value.slice (some ⟨g, 0, none⟩) l.length cp).ownBlock ≠ u.ownBlock from Apart.row (a := .slice (some ⟨g, 0, none⟩) l.length l.length) ha)⟩
theorem RowO.lt {W : World} {b : Nat} {v : Value} {l : List UInt8} (h : RowO W b v l) : ∀ g, v.ownBlock = some g → b ≤ g ∧ g < W.heap.size := by
  rcases h with h | ⟨g, cp, rfl, h⟩
  · exact fun g hg => h.lt g hg
  · exact fun j hj => h.lt j hj
section
variable {w W W' : World} {T : Tab} {la lb l : List UInt8} {va vb : Value}
end
section
variable {w W W' : World} {T : Tab} {l : List UInt8} {va vb : Value} {R t : Nat} {d : Dv}
/-- data that a writing may be handed. -/
def PdD (t : Nat) (d : Dv) : Prop := t ≤ 65535 ∧ d.fits ∧ d.raw.size ≤ 8796093022208 ∧ d.host.size ≤ 140737488355328 ∧ d.mail.size ≤ 140737488355328
end
end Go.Proofs.YtgcaephfhfkjcaaGreatDoor
namespace Go.Proofs.YtgcaephfhfkjcaaGreatDoor
open Go.ChangeShapes Go.WideShapes Go.RowKit

theorem wf_u32 {x : Int} (h : (Lit.int .u32 x).wf = true) : ∃ n : Nat, x = n ∧ n ≤ 4294967295 := by
  have h1 : IntKind.u32.min = 0 := rfl
  have h2 : IntKind.u32.max = 4294967295 := rfl
  simp only [Lit.wf, Bool.and_eq_true, decide_eq_true_eq] at h
  exact ⟨x.toNat, by omega, by omega⟩
theorem fits_mk {r h m : ByteArray} {a b c d e : Nat} (ha : a ≤ 4294967295) (hb : b ≤ 4294967295) (hc : c ≤ 4294967295) (hd : d ≤ 4294967295) (he : e ≤ 4294967295) : (Dv.mk r h m a b c d e).fits := fun k => by
  match k with
  | 0 => exact ha
  | 1 => exact hb
  | 2 => exact hc
  | 3 => exact hd
  | _ + 4 => exact he
end Go.Proofs.YtgcaephfhfkjcaaGreatDoor
namespace Go.Proofs.YtgcaephfhfkjcaaGreatDoor
open Go.ChangeShapes Go.WideShapes Go.Deep Go.RowKit

structure DIt where
  skip : Int
  ty : Nat
  data : Dv
/-- items that stand from a slice's head on. -/
def DIts (w : World) (hi : Nat) (A : Option Addr) (its : List DIt) : Prop :=
  0 < its.length → ∃ g o, A = some ⟨g, o, none⟩ ∧ g < hi ∧ ∀ j (h : j < its.length), w.cell? ⟨g, o + j * 10, none⟩ = some (.int .i64 its[j].skip) ∧ w.cell? ⟨g, o + j * 10 + 1, none⟩ = some (.int .u16 its[j].ty) ∧ ∀ i, i < 8 → w.cell? ⟨g, o + j * 10 + 2 + i, none⟩ = its[j].data.cells[i]?
theorem DIts.keep {w w' : World} {hi : Nat} {A : Option Addr} {its : List DIt} (h : DIts w hi A its) (hb : Below hi w w') : DIts w' hi A its := fun h0 => by
  obtain ⟨g, o, hA, hg, hc⟩ := h h0
  exact ⟨g, o, hA, hg, fun j hj => ⟨(hb.cell hg).trans (hc j hj).1, (hb.cell hg).trans (hc j hj).2.1, fun i hi => (hb.cell hg).trans ((hc j hj).2.2 i hi)⟩⟩
theorem wf_u16i {x : Int} (h : (Lit.int .u16 x).wf = true) : ∃ n : Nat, x = n ∧ n ≤ 65535 := by
  have h1 : IntKind.u16.min = 0 := rfl
  have h2 : IntKind.u16.max = 65535 := rfl
  simp only [Lit.wf, Bool.and_eq_true, decide_eq_true_eq] at h
  exact ⟨x.toNat, by omega, by omega⟩
end Go.Proofs.YtgcaephfhfkjcaaGreatDoor
namespace Go.Proofs.YtgcaephfhfkjcaaGreatDoor
open Go.RowKit

theorem rd_cond {t : Nat} {d : Dv} (hok : Rd.ok t d.dt = true) (hf : d.fits) : ∀ j (h : j < (Rd.parts t).length), Rd.Cond d.dt (lbs d.host) (lbs d.mail) (Rd.nums ((Rd.parts t).take j)) ((Rd.parts t)[j]'h) := by
  intro j hj
  have hfa : Rd.fitAll d.dt (Rd.parts t) 0 = true := by
    rw [Rd.ok_parts, Bool.and_eq_true] at hok
    exact hok.1
  have hx := fitAll_at hfa hj
  have hn5 : Rd.nums ((Rd.parts t).take (j + 1)) ≤ 5 := Rd.nums_le
  rw [List.take_succ_eq_append_getElem hj, Rd.nums_snoc] at hn5
  have hnum : (Rd.parts t)[j] = 8 ∨ (Rd.parts t)[j] = 9 → Rd.hasN d.dt (Rd.nums ((Rd.parts t).take j)) ≤ 4294967295 := fun h => by
    rw [if_pos h] at hn5
    rw [rd_hasN2 d (by omega)]
    exact hf _
  refine ⟨fun h => ?_, fun h => ?_, fun h => ?_, fun h => ?_⟩
  · have hm : Rd.nm d.host.data.toList = true := by
      rcases h with h | h <;> rw [h] at hx <;> simpa [Rd.fit, Dv.dt] using hx
    obtain ⟨h1, h2, h3⟩ := Nm.split_some.1 (lbs_of hm)
    exact ⟨h2, by rw [← h1]; exact h3⟩
  · have hm : Rd.nm d.mail.data.toList = true := by
      rw [h] at hx
      simpa [Rd.fit, Dv.dt] using hx
    obtain ⟨h1, h2, h3⟩ := Nm.split_some.1 (lbs_of hm)
    exact ⟨h2, by rw [← h1]; exact h3⟩
  · rw [h] at hx
    have : Rd.hasN d.dt (Rd.nums ((Rd.parts t).take j)) ≤ 65535 := by simpa [Rd.fit] using hx
    omega
  · have := hnum (.inr h)
    omega
/-- data that stand one behind the other. -/
def RChain (b : List UInt8) (ps : List Nat) (ks : List DIt) : Prop :=
  ps.length = ks.length + 1 ∧ ∀ j (h : j < ks.length), ∃ q : Nat → Nat, ps[j]? = some (q 0) ∧ ps[j + 1]? = some (q 7) ∧ PdD ks[j].ty ks[j].data ∧ Rd.ok ks[j].ty ks[j].data.dt = true ∧
    Rd.All b ks[j].data.dt (lbs ks[j].data.host) (lbs ks[j].data.mail) (Rd.parts ks[j].ty) q
theorem RChain.nil : RChain [] [0] [] := ⟨rfl, fun j h => absurd h (by simp)⟩
theorem RChain.step {b R : List UInt8} {ats : List Nat} {ks : List DIt} (h : RChain b (ats ++ [b.length]) ks) {it : DIt} (hd : PdD it.ty it.data) (hok : Rd.ok it.ty it.data.dt = true) {q : Nat → Nat} (h0 : q 0 = b.length) (h7 : q 7 = (b ++ R).length)
    (hall : Rd.All (b ++ R) it.data.dt (lbs it.data.host) (lbs it.data.mail) (Rd.parts it.ty) q) :
    RChain (b ++ R) ((ats ++ [b.length]) ++ [(b ++ R).length]) (ks ++ [it]) := by
  obtain ⟨h1, h2⟩ := h
  have hl : ats.length = ks.length := by simp at h1; exact h1
  refine ⟨by rw [List.length_append, h1]; simp, fun j hj => ?_⟩
  rw [List.length_append] at hj
  by_cases hlt : j < ks.length
  · obtain ⟨q', e1, e2, e3, e4, e5⟩ := h2 j hlt
    refine ⟨q', get_front e1 _, get_front e2 _, ?_⟩
    rw [List.getElem_append_left hlt]
    exact ⟨e3, e4, e5.more R⟩
  · obtain rfl : j = ks.length := by simp at hj; omega
    refine ⟨q, ?_, ?_, ?_⟩
    · rw [← hl, h0]; exact get_front (get_snoc ats b.length) _
    · have := get_snoc (ats ++ [b.length]) (b ++ R).length
      have e : (ats ++ [b.length]).length = ks.length + 1 := h1
      rw [e] at this
      rw [h7]
      exact this
    · rw [List.getElem_append_right (Nat.le_refl _)]
      simp only [Nat.sub_self, List.getElem_cons_zero]
      exact ⟨hd, hok, hall⟩
/-- what is known of what was written, apart from memory. -/
def RbP (T : Tab) (b : List UInt8) (ats : List Nat) (ks : List DIt) (i : Nat) : Prop :=
  Pr.Snd b T ∧ RChain b (ats ++ [b.length]) ks ∧ b.length ≤ 500000 * i ∧ T.length ≤ 1400 * i ∧ ks.length ≤ i ∧ ats.length = ks.length
theorem RbP.nil : RbP [] [] [] [] 0 := ⟨Pr.Snd.nil _, RChain.nil, by simp, by simp, by simp, rfl⟩
theorem RbP.skip {T : Tab} {b : List UInt8} {ats : List Nat} {ks : List DIt} {i : Nat} (h : RbP T b ats ks i) : RbP T b ats ks (i + 1) := by
  obtain ⟨h1, h2, h3, h4, h5, h6⟩ := h
  exact ⟨h1, h2, by omega, by omega, by omega, h6⟩
theorem RbP.step {T : Tab} {b : List UInt8} {ats : List Nat} {ks : List DIt} {i : Nat} (h : RbP T b ats ks i) {it : DIt} (hd : PdD it.ty it.data) (hok : Rd.ok it.ty it.data.dt = true)
    (hb : (Rd.wrs T b it.data.dt (lbs it.data.host) (lbs it.data.mail) (Rd.parts it.ty)).2.1.length ≤ b.length + 490000) (hT : (Rd.wrs T b it.data.dt (lbs it.data.host) (lbs it.data.mail) (Rd.parts it.ty)).1.length ≤ T.length + 1400) :
    RbP (Rd.wrs T b it.data.dt (lbs it.data.host) (lbs it.data.mail) (Rd.parts it.ty)).1 (Rd.wrs T b it.data.dt (lbs it.data.host) (lbs it.data.mail) (Rd.parts it.ty)).2.1 (ats ++ [b.length]) (ks ++ [it]) (i + 1) := by
  obtain ⟨h1, h2, h3, h4, h5, h6⟩ := h
  obtain ⟨r1, ⟨R, r2⟩, r3⟩ := Rd.wrs_all (T := T) (l := b) (d := it.data.dt) (hl := lbs it.data.host) (ml := lbs it.data.mail) (Rd.parts_lt it.ty) (rd_cond hok hd.2.1) h1
  have e7 : (Rd.parts it.ty).take 7 = Rd.parts it.ty := List.take_of_length_le (by rw [Rd.parts_len]; omega)
  have p7 : Rd.pos T b it.data.dt (lbs it.data.host) (lbs it.data.mail) (Rd.parts it.ty) 7 = (Rd.wrs T b it.data.dt (lbs it.data.host) (lbs it.data.mail) (Rd.parts it.ty)).2.1.length := by
    unfold Rd.pos; rw [e7]
  have p0 : Rd.pos T b it.data.dt (lbs it.data.host) (lbs it.data.mail) (Rd.parts it.ty) 0 = b.length := rfl
  refine ⟨r1, ?_, by omega, by omega, by simp; omega, by simp; omega⟩
  have hs := h2.step (R := R) hd hok p0 (by rw [p7, r2]) (by rw [← r2]; exact r3)
  rw [r2]
  exact hs
theorem own_apartK {w : World} {b b2 k k2 n n2 : Nat} {e e2 : TypeId} {v v2 : Value} {xs ys : List Value} (h : w.ownsRow b e k v n xs) (h2 : w.ownsRow b2 e2 k2 v2 n2 ys) (hne : e2 ≠ e) : v2.ownBlock = none ∨ v2.ownBlock ≠ v.ownBlock := by
  rcases h2.2 with ⟨rfl, _⟩ | ⟨g2, cap2, cur2, rfl, _, hg2, _⟩
  · exact .inl rfl
  · rcases h.2 with ⟨rfl, _⟩ | ⟨g, cap, cur, rfl, _, hg, _⟩
    · exact .inr (by simp [Value.ownBlock])
    · refine .inr fun e' => ?_
      obtain rfl : g2 = g := by simpa [Value.ownBlock] using e'
      rw [hg] at hg2
      cases hg2
      exact hne rfl
theorem own_stillK {w w' : World} {b b2 k k2 n n2 : Nat} {e e2 : TypeId} {v v2 : Value} {xs ys : List Value} (h : w.ownsRow b e k v n xs) (h2 : w.ownsRow b2 e2 k2 v2 n2 ys) (hne : e2 ≠ e) (hg : w.grownBy w' v.ownBlock) : w'.ownsRow b2 e2 k2 v2 n2 ys := h2.kept hg (own_apartK h h2 hne)
section
variable {w W W' : World} {T : Tab} {b : List UInt8} {ats : List Nat} {ks : List DIt} {vb vat vk : Value}
end
end Go.Proofs.YtgcaephfhfkjcaaGreatDoor
