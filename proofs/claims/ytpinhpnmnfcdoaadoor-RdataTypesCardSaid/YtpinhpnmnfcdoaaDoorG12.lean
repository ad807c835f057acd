/- Texts of the proofs, merged. -/
import Derived.Test.YtpinhpnmnfcdoaaDoorG11
import Derived.Test.YtpinhpnmnfcdoaaDoorG2
import Derived.ProofKit
import Derived.OpenShut
import Derived.ShutString
import Derived.WideKeyArgs
import Derived.SliceStrings
import Derived.Deep.DeepHandedRow
import Derived.Deep.DeepWitnessRowRef
import Derived.Test.YtpinhpnmnfcdoaaDoorG3
import Derived.Test.YtpinhpnmnfcdoaaDoorG9
import Derived.Test.YtpinhpnmnfcdoaaDoorCards
import Derived.Test.YtpinhpnmnfcdoaaDoorTie
import Derived.LaidMore
import Derived.Stop.LaidErr
import Derived.LaidSub
/- TypeOf: the program's. -/
namespace Go.Proofs.YtpinhpnmnfcdoaaDoor
open Go.RowKit

theorem uintV_form (o : Option Nat) : ∃ (v : Nat) (b : Bool), uintV o = .tuple #[.int .u32 v, .bool b] ∧ (o = none → v = 0 ∧ b = false) ∧ (∀ x, o = some x → v = x ∧ b = true) := by
  cases o with
  | none => exact ⟨0, false, rfl, fun _ => ⟨rfl, rfl⟩, fun x h => by cases h⟩
  | some v => exact ⟨v, true, rfl, fun h => (by cases h), fun x h => by cases h; exact ⟨rfl, rfl⟩⟩
theorem pre4 (l : List UInt8) : Lib.hasPrefix l [116, 121, 112, 101] = true ↔ l.take 4 = [116, 121, 112, 101] := by
  unfold Lib.hasPrefix
  rw [List.isPrefixOf_iff_prefix, List.prefix_iff_eq_take]
  exact ⟨fun h => h.symm, fun h => h.symm⟩
theorem fold_drop4 (l : List UInt8) : (Nm.fold l).drop 4 = Nm.fold (l.drop 4) := by simp [Nm.fold, List.map_drop]
set_option maxHeartbeats 4000000 in
set_option maxRecDepth 100000 in
theorem TypeOf_any (s : ByteArray) (w : World) (hL : LayA w) (hE : Lay w) (hs : s.size ≤ 140737488355328) :
    Calls Tryd.prog 4 #[.string s] w fun e w' => e = .returned (tyV (Rd.tyOf s.data.toList)) ∧ Below w.heap.size w w' := by
  obtain ⟨R, hR⟩ : ∃ R, Rd.tyOf s.data.toList = R := ⟨_, rfl⟩
  rw [hR]
  have HR := Lib.hid hR
  have HL := Lib.hid hL
  have HE := Lib.hid hE
  have HS := Lib.hid (fun (W : World) => small_s s W hs)
  have HX := Lib.hid (fun (k : Nat) (W : World) => small_s ⟨(Rd.txt k).toArray⟩ W (by rw [mk_size]; have := Rd.txt_len k; omega))
  obtain ⟨low, hlow⟩ : ∃ low : ByteArray, (⟨(Nm.fold s.data.toList).toArray⟩ : ByteArray) = low := ⟨_, rfl⟩
  have HLO : Hid (low.data.toList = Nm.fold s.data.toList) := by show _ = _; rw [← hlow]
  have hfl : low.size = s.size := by
    have e := congrArg List.length HLO.out
    rw [fold_len] at e
    have e1 : low.data.toList.length = low.size := by simp
    have e2 : s.data.toList.length = s.size := by simp
    omega
  have hls : low.size ≤ 140737488355328 := by omega
  have e0 : sv (Nm.fold s.data.toList) = .string low := by rw [← hlow]
  rw [e0] at HS
  clear hR hlow hL hE e0 hfl
  go_enter Tryd.func4, Tryd.ntmps4
  go_wp2_with (go_at_call 9; refine (HS.out _).mono ?_; rintro e w1 ⟨rfl, B1⟩; have HB1 := Lib.hid B1; clear B1)
  go_loopw [12] (fun i wr => ∃ k : Nat, i = .int .i64 k ∧ k ≤ 9 ∧ Hid (∀ j, j < k → Nm.fold s.data.toList ≠ Nm.fold (Rd.txt j)) ∧ Hid (Below w.heap.size w wr)) (fun i _ => 9 - (intOf i).toNat)
  case atStart => exact ⟨0, rfl, by omega, fun j hj => absurd hj (by omega), HB1.out⟩
  case round =>
    obtain ⟨k, rfl, hk, HJ, HB⟩ := hrel
    have hbs := HB.out.size
    by_cases hlt : k < 9
    · have hla := HL.out.below HB.out (Nat.le_refl _)
      have c0 := rowNum hla.1 hlt
      have c1 := rowTxt hla.1 hlt
      have HTX := Lib.hid (HX.out k)
      obtain ⟨x, hx1, hx2⟩ := sv_str (Nm.fold (Rd.txt k))
      obtain ⟨y, hy1, hy2⟩ := sv_str (Rd.txt k)
      have hyy : (⟨(Rd.txt k).toArray⟩ : ByteArray) = y := by injection hy1
      rw [hyy] at HTX
      rw [← hy2] at HTX
      rw [hy1] at c1
      have hxx : sv (Nm.fold y.data.toList) = .string x := by rw [hy2, hx1]
      rw [show (sv (Nm.fold y.data.toList)) = .string x from hxx] at HTX
      have htk := @Rd.tyOf_at k s.data.toList hlt
      have HTK := Lib.hid htk
      have hty := Rd.ty_le k
      have HX2 := Lib.hid hx2
      clear hx1 hx2 hy1 hy2 hyy hxx htk hla
      generalize hyt : Rd.ty k = ty at *
      have HYT := Lib.hid hyt
      clear hyt
      by_cases he : x.data.toList = low.data.toList
      · have hb := rd_strEq he
        have HQ : Hid (R = some ty) := by rw [← HR.out]; exact HTK.out (by rw [← HLO.out, ← he, HX2.out])
        clear he
        go_wp2_with (go_at_call 9; refine (HTX.out _).mono ?_; rintro e w2 ⟨rfl, B2⟩; have HB2 := Lib.hid (HB.out.trans (B2.mono hbs)); have hlb := HL.out.below HB2.out (Nat.le_refl _); have d0 := rowNum hlb.1 hlt; rw [HYT.out] at d0; clear hlb B2)
        go_ret2
        exact ⟨by rw [HQ.out]; rfl, HB2.out⟩
      · have hb := rd_strNe he
        have HNE : Hid (Nm.fold s.data.toList ≠ Nm.fold (Rd.txt k)) := fun e => he (by rw [HLO.out, e, HX2.out])
        clear he
        go_wp2_with (go_at_call 9; refine (HTX.out _).mono ?_; rintro e w2 ⟨rfl, B2⟩; have HB2 := Lib.hid (HB.out.trans (B2.mono hbs)); clear B2)
        go_roundw
        case rel => exact ⟨k + 1, by go_num, by omega, fun j hj => (Nat.lt_succ_iff_lt_or_eq.1 hj).elim (HJ.out j) (fun e => by subst e; exact HNE.out), HB2.out⟩
        case measure => simp [intOf]; omega
    · obtain rfl : k = 9 := by omega
      have ht := Rd.tyOf_no HJ.out
      rw [HR.out] at ht
      have HT := Lib.hid ht
      clear ht
      have HCP := Lib.hid (fun (W : World) => Tryd.strings_CutPrefix low ⟨#[116, 121, 112, 101]⟩ W)
      obtain ⟨dg, hdg⟩ : ∃ dg : ByteArray, (⟨(Lib.trimPrefix low.data.toList (⟨#[116, 121, 112, 101]⟩ : ByteArray).data.toList).toArray⟩ : ByteArray) = dg := ⟨_, rfl⟩
      have hdl : dg.data.toList = Lib.trimPrefix low.data.toList [116, 121, 112, 101] := by rw [← hdg]
      have hds : dg.size ≤ 140737488355328 := by
        have e1 : dg.data.toList.length = dg.size := by simp
        have e2 : low.data.toList.length = low.size := by simp
        rw [hdl] at e1
        unfold Lib.trimPrefix at e1
        split at e1
        · rw [List.length_drop] at e1; omega
        · omega
      obtain ⟨b, hb⟩ : ∃ b, Lib.hasPrefix low.data.toList (⟨#[116, 121, 112, 101]⟩ : ByteArray).data.toList = b := ⟨_, rfl⟩
      rw [hdg, hb] at HCP
      obtain ⟨v, ok, hv, hv0, hv1⟩ := uintV_form (Rd.num dg.data.toList 65535)
      have HNU := Lib.hid (fun (W : World) (h : Lay W) => number16_any dg W h hds)
      rw [hv] at HNU
      have hb4 : Lib.hasPrefix low.data.toList [116, 121, 112, 101] = b := hb
      have hE2 := Lib.hid (HE.out.below HB.out HE.out.size)
      cases b with
      | false =>
        have hy : ¬ (Nm.fold s.data.toList).take 4 = [116, 121, 112, 101] := by
          rw [← HLO.out, ← pre4, hb4]; simp
        have hq : R = none := by rw [HT.out, if_neg hy]
        have HQ := Lib.hid hq
        clear hy hb4 hv hv0 hv1 hdl hdg hb hq
        cases ok
        all_goals
          (go_wp2_with (first
            | (go_at_call 10; refine (HCP.out _).mono ?_; rintro e w2 ⟨rfl, rfl⟩)
            | (go_at_call 11; refine (HNU.out _ hE2.out).mono ?_; rintro e w3 ⟨rfl, B3⟩))
           go_ret2
           exact ⟨by rw [HQ.out]; rfl, HB.out.trans (B3.mono hbs)⟩)
      | true =>
        have hy : (Nm.fold s.data.toList).take 4 = [116, 121, 112, 101] := by
          rw [← HLO.out, ← pre4, hb4]
        have hdd : Rd.num dg.data.toList 65535 = Rd.num (s.data.toList.drop 4) 65535 := by
          rw [hdl]
          unfold Lib.trimPrefix
          rw [hb4, if_pos rfl, HLO.out]
          show Rd.num ((Nm.fold s.data.toList).drop 4) 65535 = _
          rw [fold_drop4, Rd.num_fold]
        have hq : R = Rd.num dg.data.toList 65535 := by rw [HT.out, if_pos hy, hdd]
        cases hn : Rd.num dg.data.toList 65535 with
        | none =>
          obtain ⟨rfl, rfl⟩ := hv0 hn
          rw [hn] at hq
          have HQ := Lib.hid hq
          clear hy hb4 hv hv0 hv1 hdl hdg hb hdd hq hn
          go_wp2_with (first
            | (go_at_call 10; refine (HCP.out _).mono ?_; rintro e w2 ⟨rfl, rfl⟩)
            | (go_at_call 11; refine (HNU.out _ hE2.out).mono ?_; rintro e w3 ⟨rfl, B3⟩))
          go_ret2
          exact ⟨by rw [HQ.out]; rfl, HB.out.trans (B3.mono hbs)⟩
        | some z =>
          obtain ⟨rfl, rfl⟩ := hv1 z hn
          have hz := Rd.num_le hn
          rw [hn] at hq
          have HQ := Lib.hid hq
          clear hy hb4 hv hv0 hv1 hdl hdg hb hdd hq hn
          go_wp2_with (first
            | (go_at_call 10; refine (HCP.out _).mono ?_; rintro e w2 ⟨rfl, rfl⟩)
            | (go_at_call 11; refine (HNU.out _ hE2.out).mono ?_; rintro e w3 ⟨rfl, B3⟩))
          go_ret2
          exact ⟨by rw [HQ.out]; rfl, HB.out.trans (B3.mono hbs)⟩
end Go.Proofs.YtpinhpnmnfcdoaaDoor
/- A number's digits tell the number; a type's text the type. Nothing of the program. -/
namespace Go.Proofs.YtpinhpnmnfcdoaaDoor.Rd

theorem dg_nat {d : Nat} (h : d < 10) : (UInt8.ofNat (48 + d)).toNat = 48 + d := by
  rw [UInt8.toNat_ofNat']
  omega
theorem dec_digs (n : Nat) : digs (dec n) = true := by
  induction n using Nat.strongRecOn with
  | ind n ih =>
    by_cases h : n < 10
    · rw [dec_small h]
      show ((decide (48 ≤ (UInt8.ofNat (48 + n)).toNat) && decide ((UInt8.ofNat (48 + n)).toNat ≤ 57)) && true) = true
      rw [dg_nat h]
      simp; omega
    · rw [dec_more h, digs_snoc, ih _ (by omega), dg_nat (Nat.mod_lt _ (by omega))]
      simp; omega
theorem dec_val (n : Nat) : val (dec n) = n := by
  induction n using Nat.strongRecOn with
  | ind n ih =>
    by_cases h : n < 10
    · rw [dec_small h]
      show 10 * 0 + ((UInt8.ofNat (48 + n)).toNat - 48) = n
      rw [dg_nat h]; omega
    · rw [dec_more h, val_snoc, ih _ (by omega), dg_nat (Nat.mod_lt _ (by omega))]
      omega
theorem dec_ne (n : Nat) : dec n ≠ [] := by
  by_cases h : n < 10
  · rw [dec_small h]; simp
  · rw [dec_more h]; simp
theorem dec_head (n : Nat) (h0 : n ≠ 0) : (dec n).head? ≠ some 48 := by
  induction n using Nat.strongRecOn with
  | ind n ih =>
    by_cases h : n < 10
    · rw [dec_small h]
      intro e
      simp only [List.head?_cons] at e
      injection e with e
      have := congrArg UInt8.toNat e
      rw [dg_nat h] at this
      have h48 : (48 : UInt8).toNat = 48 := rfl
      omega
    · rw [dec_more h]
      have := ih (n / 10) (by omega) (by omega)
      have hne := dec_ne (n / 10)
      match hd : dec (n / 10), hne with
      | a :: r, _ =>
        rw [hd] at this
        simpa using this
theorem dec_short (k : Nat) : ∀ n, n < 10 ^ (k + 1) → (dec n).length ≤ k + 1 := by
  induction k with
  | zero =>
    intro n h
    rw [dec_small (by simpa using h)]; simp
  | succ k ih =>
    intro n h
    by_cases h10 : n < 10
    · rw [dec_small h10]; simp
    · rw [dec_more h10]
      have := ih (n / 10) (by rw [Nat.pow_succ] at h; exact Nat.div_lt_of_lt_mul (by omega))
      simp
      omega
theorem num_dec {n m : Nat} (hn : n ≤ m) (hm : m ≤ 4294967295) : num (dec n) m = some n := by
  have hs := dec_short 9 n (by have : (10 : Nat) ^ (9 + 1) = 10000000000 := by decide
                               omega)
  rw [num_dig ?_ (dec_digs n), dec_val, if_neg (by omega)]
  rintro (h | ⟨h1, h2⟩ | h)
  · exact dec_ne n (List.eq_nil_of_length_eq_zero h)
  · by_cases h0 : n = 0
    · subst h0
      rw [dec_small (by omega)] at h1
      simp at h1
    · exact dec_head n h0 h2
  · omega
theorem tyText_len (t : Nat) : (tyText t).length ≤ t + 10 := by
  by_cases h : ∃ k, k < 9 ∧ ty k = t
  · obtain ⟨k, hk, rfl⟩ := h
    rw [tyText_at hk]
    have := txt_len k
    omega
  · rw [tyText_no (fun j hj e => h ⟨j, hj, e⟩), List.length_append]
    have := dec_len t
    simp
    omega
/-- a type's text tells the type. -/
theorem tyBack (t : Nat) (ht : t ≤ 65535) : tyOf (tyText t) = some t := by
  by_cases h : ∃ k, k < 9 ∧ ty k = t
  · obtain ⟨k, hk, rfl⟩ := h
    rw [tyText_at hk, tyOf_at hk rfl]
  · have hno : ∀ j, j < 9 → ty j ≠ t := fun j hj e => h ⟨j, hj, e⟩
    rw [tyText_no hno]
    have hf : Nm.fold ([84, 89, 80, 69] ++ dec t) = [116, 121, 112, 101] ++ Nm.fold (dec t) := by
      unfold Nm.fold; rw [List.map_append]; rfl
    have hne : 5 ≤ (Nm.fold ([84, 89, 80, 69] ++ dec t)).length := by
      have hp : 0 < (dec t).length := List.length_pos_iff.2 (dec_ne t)
      simp [Nm.fold]; omega
    rw [tyOf_no (fun j hj e => ?_), hf, if_pos (by simp)]
    · show num (dec t) 65535 = some t
      exact num_dec ht (by omega)
    · rw [hf] at e
      refine nine (p := fun j => ¬ ([116, 121, 112, 101] ++ Nm.fold (dec t) = Nm.fold (txt j))) hj ?_ ?_ ?_ ?_ ?_ ?_ ?_ ?_ ?_ e
      all_goals
        intro e2
        have e3 := congrArg List.head? e2
        have e4 := congrArg List.length e2
        have hp : 0 < (dec t).length := List.length_pos_iff.2 (dec_ne t)
        have l1 : ([116, 121, 112, 101] ++ Nm.fold (dec t)).length = 4 + (dec t).length := by rw [List.length_append]; simp [Nm.fold]
        rw [l1] at e4
        first
          | (have l2 : ∀ m, 4 + (dec t).length = m → m ≤ 4 → False := fun m h1 h2 => by omega
             exact l2 _ e4 (by decide))
          | exact absurd (show (some (116 : UInt8)) = some 99 from e3) (by decide)
end Go.Proofs.YtpinhpnmnfcdoaaDoor.Rd
/- What a row asks ahead of and behind the walk, for arguments of any types that are not written. -/
namespace Go.Proofs.YtpinhpnmnfcdoaaDoor
open Go.ChangeShapes Go.WideShapes Go.ChangeAt Go.RowKit

theorem own : ownKnob Tryd.prog.godebug = none := by kernel_rfl
theorem out : laidOutB Tryd.prog = true := by kernel_rfl

/-- what holds behind a call of which 'Below' is known: the places that were read are as they were. -/
theorem post_low {H : Type} {enc : TypeId × Value → H} {P : Program} {f : Func} {s : ChangeSpec} {apart fresh handsOn again : Bool} {W W' : World} {args : Array Value} {v : Value} {ds gs : List (DataW H)} {before pa pv : List MemPlace}
    (hW : DataW.Whole enc P f.params.toList s.vars apart W args.toList ds gs before) (hps : before = pa ++ pv) (hb : Below W.heap.size W W')
    (hres : ∀ (b : Nat) (sp : Nat → Bool) (hd : Bool), DataW.TrodAll enc P W' b sp hd f.resultTypes.toList (v.resultList f.resultTypes.size) (s.fn H (ds ++ gs)).results [])
    (hargs : ∀ sp : Nat → Bool, (∀ p ∈ before, sp p.block = true) → DataW.TrodAll enc P W' 0 sp true f.params.toList args.toList (s.fn H (ds ++ gs)).args pa)
    (hvars : ∀ sp : Nat → Bool, (∀ p ∈ before, sp p.block = true) → DataW.TrodVars enc P W' sp s.vars (s.fn H (ds ++ gs)).vars pv)
    (hok : ∀ (j : Nat) (t : TypeId) (r : Value), f.resultTypes[j]? = some t → (v.resultList f.resultTypes.size)[j]? = some r → Value.okWide P W' .any 0 t r) :
    s.post enc P f apart fresh handsOn again W args v W' := by
  have hin : ∀ p ∈ before, (fun b => decide (b < W.heap.size)) p.block = true := fun p hp => by simpa using hW.lt p hp
  have hmem : ∀ p ∈ before, p ∈ pa ∨ p ∈ pv := fun p hp => by rw [hps] at hp; exact List.mem_append.1 hp
  refine ⟨ds, gs, before, [], pa, pv, hW, hres _ _ _, hargs _ hin, hvars _ hin, World.keptBut_mono (fun p hp => ⟨hp, .inr (hmem p hp)⟩) (hb.frame (· ∈ before)), fun _ => ?_⟩
  obtain ⟨_, _, _, _, _, hz, hn⟩ := id hW
  refine ⟨hok, _, _, ([] ++ pa) ++ pv, ⟨[] ++ pa, pv, trodAll_append (hargs _ (fun _ _ => rfl)) (hres _ _ _), hvars _ (fun _ _ => rfl), rfl, fun b off hp => ?_, fun ha => ?_⟩, fun p hp _ => ?_⟩
  · have hb' : MemPlace.cell b off ∈ before := by rw [hps]; simpa using hp
    exact (hb.frozen (hW.lt _ hb')).trans (hz b off hb')
  · have h := hn ha
    rw [hps] at h
    simpa using h
  · rw [hps]; simpa using hp

theorem reach_string {H : Type} {P : Program} {t : TypeId} {ts : List TypeId} {l : List UInt8} {r : List (DataW H)} (h : (DataW.weightsEach P (t :: ts) (.lit (.string l) :: r)).all (· ≤ reachBytes) = true) :
    l.length ≤ 140737488351232 ∧ (DataW.weightsEach P ts r).all (· ≤ reachBytes) = true := by
  have e : DataW.weightsEach P (t :: ts) (.lit (.string l) :: r) = l.length :: DataW.weightsEach P ts r := rfl
  rw [e, List.all_cons, Bool.and_eq_true] at h
  refine ⟨?_, h.2⟩
  have := of_decide_eq_true h.1
  unfold reachBytes at this
  exact this
theorem reach_bool {H : Type} {P : Program} {t : TypeId} {ts : List TypeId} {b : Bool} {r : List (DataW H)} (h : (DataW.weightsEach P (t :: ts) (.lit (.bool b) :: r)).all (· ≤ reachBytes) = true) : (DataW.weightsEach P ts r).all (· ≤ reachBytes) = true := h
theorem reach_int {H : Type} {P : Program} {t : TypeId} {ts : List TypeId} {k : IntKind} {n : Int} {r : List (DataW H)} (h : (DataW.weightsEach P (t :: ts) (.lit (.int k n) :: r)).all (· ≤ reachBytes) = true) : (DataW.weightsEach P ts r).all (· ≤ reachBytes) = true := h


theorem reach_cons {H : Type} {P : Program} {t : TypeId} {ts : List TypeId} {d : DataW H} {r : List (DataW H)} (h : (DataW.weightsEach P (t :: ts) (d :: r)).all (· ≤ reachBytes) = true) :
    (d.weights P t).all (· ≤ reachBytes) = true ∧ (DataW.weightsEach P ts r).all (· ≤ reachBytes) = true := by
  have e : DataW.weightsEach P (t :: ts) (d :: r) = d.weights P t ++ DataW.weightsEach P ts r := rfl
  rw [e, List.all_append, Bool.and_eq_true] at h
  exact h
theorem reach_slice {H : Type} {P : Program} {t e : TypeId} {x y : List (DataW H)} (ht : P.underlying t = some (.slice e)) (h : ((DataW.slice x y).weights P t).all (· ≤ reachBytes) = true) : (x.length + y.length) * P.bytesOf e ≤ 140737488351232 := by
  simp only [DataW.weights, ht, List.all_cons, Bool.and_eq_true] at h
  have := of_decide_eq_true h.1
  unfold reachBytes at this
  exact this
theorem reach_str {H : Type} {P : Program} {t : TypeId} {s : ByteArray} (h : ((DataW.lit (.string s.data.toList) : DataW H).weights P t).all (· ≤ reachBytes) = true) : s.size ≤ 140737488351232 := by
  have e : (DataW.lit (.string s.data.toList) : DataW H).weights P t = [s.data.toList.length] := by unfold DataW.weights; rfl
  rw [e, List.all_cons, Bool.and_eq_true] at h
  have := of_decide_eq_true h.1
  unfold reachBytes at this
  simpa using this
/-- all arguments read behind the call as they did. -/
theorem trodAll_stays {H : Type} {enc : TypeId × Value → H} {P : Program} (hl : laidOutB P = true) {W W' : World} {sp : Nat → Bool} : ∀ {ts : List TypeId} {vs : List Value} {ds : List (DataW H)} {ps : List MemPlace},
    (ts.all fun t => P.readableRec t && decide (t < P.types.size)) = true → DataW.TrodAll enc P W 0 (fun _ => true) true ts vs ds ps → (∀ p ∈ ps, W.sameAt W' p) → (∀ p ∈ ps, sp p.block = true) → DataW.TrodAll enc P W' 0 sp true ts vs ds ps := by
  intro ts
  induction ts with
  | nil =>
    intro vs ds ps _ h _ _
    obtain ⟨rfl, rfl, rfl⟩ := trodAll_nil h
    exact trodAll_mk0
  | cons t ts ih =>
    intro vs ds ps hr h hs hsp
    obtain ⟨v, vs', d, ds', p, q, rfl, rfl, rfl, h0, h1⟩ := trodAll_cons h
    simp only [List.all_cons, Bool.and_eq_true, decide_eq_true_eq] at hr
    exact trodAll_cons_mk (WideElems.Trod_stays hl hr.1.1 hr.1.2 h0 (fun x hx => hs x (List.mem_append_left _ hx)) (fun x hx => hsp x (List.mem_append_left _ hx)))
      (ih (by simpa using hr.2) h1 (fun x hx => hs x (List.mem_append_right _ hx)) (fun x hx => hsp x (List.mem_append_right _ hx)))
theorem addr_form {w : World} {a : Addr} {k : Nat} {v : Value} (h : w.cell? (a.add 0) = some v) : a = ⟨a.block, a.off, none⟩ ∧ (⟨a.block, a.off, none⟩ : Addr).add k = ⟨a.block, a.off + k, none⟩ := by
  obtain ⟨ab, ao, spot⟩ := a
  have hs : spot = none := by simpa [Addr.add] using World.cell?_spot h
  subst hs
  exact ⟨rfl, addr_add ab ao k⟩
/-- a slice of bytes that came in, nil or not. -/
theorem open_bs {H : Type} {enc : TypeId × Value → H} {P : Program} {t e : TypeId} (ht : P.underlying t = some (.slice e)) (he : P.underlying e = some (.int .u8)) (hc : P.cellsOf e = 1) (hb : P.bytesOf e = 1)
    {W : World} {base : Nat} {v : Value} {d : DataW H} {p : List MemPlace} (hval : Value.okWide P W .any base t v) (h : DataW.Trod enc P W 0 (fun _ => true) true t v d p) :
    ∃ A l c, v = .slice A l.length c ∧ l.length ≤ c ∧ (A = none → c = 0) ∧ Bs W 0 W.heap.size A l ∧ ((d.weights P t).all (· ≤ reachBytes) = true → c ≤ 140737488351232) := by
  obtain ⟨a0, len, cap, rfl⟩ := okWide_slice ht hval
  obtain ⟨fuel, hf⟩ := h
  rcases open_ints ht he hc hf with ⟨hcs, hx⟩ | ⟨a, len', cap', zs, hcs, _, hl, hm, hz, hx, hcell, hwz⟩
  · simp [Value.cells] at hcs
    obtain ⟨rfl, rfl, rfl⟩ := hcs
    exact ⟨none, [], 0, rfl, Nat.le_refl _, fun _ => rfl, Bs.nil, fun _ => by omega⟩
  · simp [Value.cells] at hcs
    obtain ⟨rfl, rfl, rfl⟩ := hcs
    simp only [Prod.mk.injEq] at hx
    obtain ⟨rfl, rfl⟩ := hx
    simp only [if_true] at hz
    have hlen : ((zs.take len).map fun n => UInt8.ofNat n.toNat).length = len := by simp; omega
    refine ⟨some a, (zs.take len).map fun n => UInt8.ofNat n.toNat, cap, by rw [hlen], by omega, (fun h => by cases h), fun h0 => ?_, fun hw => ?_⟩
    · have hc0 := hcell 0 (by omega)
      obtain ⟨e1, _⟩ := addr_form (k := 0) hc0
      refine ⟨a.block, a.off, by rw [← e1], Nat.zero_le _, ?_, fun j hj => ?_⟩
      · have := World.block_lt_of_cell? _ _ hc0
        rw [e1, (addr_form (k := 0) hc0).2] at this
        exact this
      · rw [hlen] at hj
        have hcj := hcell j (by omega)
        rw [e1, (addr_form (k := j) hc0).2] at hcj
        rw [hcj]
        have hb := range_u8 hwz j
        simp only [List.getElem_map, List.getElem_take]
        have e : zs.getD j 0 = zs[j]'(by omega) := by simp [List.getD, List.getElem?_eq_getElem (show j < zs.length by omega)]
        rw [List.getD_eq_getElem?_getD] at e
        rw [e] at hb
        rw [List.getD_eq_getElem?_getD, e]
        congr 2
        simp only [UInt8.toNat_ofNat']
        omega
    · have := reach_slice ht hw
      rw [hb] at this
      simp [lits] at this
      omega
/-- strings that stand from a slice's head on. -/
def Ss (w : World) (hi : Nat) (A : Option Addr) (ls : List (List UInt8)) : Prop :=
  0 < ls.length → ∃ g o, A = some ⟨g, o, none⟩ ∧ g < hi ∧ ∀ j (h : j < ls.length), w.cell? ⟨g, o + j, none⟩ = some (sv ls[j])
theorem Ss.rd {w : World} {hi c : Nat} {A : Option Addr} {ls : List (List UInt8)} (h : Ss w hi A ls) (hc : ls.length ≤ c) : Rd w hi (.slice A ls.length c) ls := ⟨A, c, rfl, hc, h⟩
theorem weights_strs {H : Type} {P : Program} {e : TypeId} : ∀ ss : List ByteArray, DataW.weightsAll P e (strs ss : List (DataW H)) = ss.map (·.data.toList.length)
  | [] => by unfold strs; rw [List.map_nil, DataW.weightsAll]; rfl
  | s :: ss => by
    have ih := weights_strs (H := H) (P := P) (e := e) ss
    unfold strs at ih ⊢
    rw [List.map_cons, DataW.weightsAll, ih]
    simp [DataW.weights]
/-- a slice of strings that came in, nil or not. -/
theorem open_strs {H : Type} {enc : TypeId × Value → H} {P : Program} {t e : TypeId} (ht : P.underlying t = some (.slice e)) (he : P.underlying e = some .string) (hc : P.cellsOf e = 1) (hb : P.bytesOf e = 16)
    {W : World} {base : Nat} {v : Value} {d : DataW H} {p : List MemPlace} (hval : Value.okWide P W .any base t v) (h : DataW.Trod enc P W 0 (fun _ => true) true t v d p) :
    ∃ A ls c, v = .slice A ls.length c ∧ ls.length ≤ c ∧ (A = none → c = 0) ∧ Ss W W.heap.size A ls ∧ ((d.weights P t).all (· ≤ reachBytes) = true → c * 16 ≤ 140737488351232 ∧ ∀ l ∈ ls, l.length ≤ 140737488351232) := by
  obtain ⟨a0, len, cap, rfl⟩ := okWide_slice ht hval
  obtain ⟨fuel, hf⟩ := h
  rcases open_strings ht he hc hf with ⟨hcs, hx⟩ | ⟨a, len', cap', ss, hcs, _, hl, hm, hz, hx, hcell, _⟩
  · simp [Value.cells] at hcs
    obtain ⟨rfl, rfl, rfl⟩ := hcs
    exact ⟨none, [], 0, rfl, Nat.le_refl _, fun _ => rfl, (fun h => absurd h (by simp)), fun _ => ⟨by omega, fun l h => by cases h⟩⟩
  · simp [Value.cells] at hcs
    obtain ⟨rfl, rfl, rfl⟩ := hcs
    simp only [Prod.mk.injEq] at hx
    obtain ⟨rfl, rfl⟩ := hx
    simp only [if_true] at hz
    have hlen : ((ss.take len).map fun s => s.data.toList).length = len := by simp; omega
    refine ⟨some a, (ss.take len).map fun s => s.data.toList, cap, by rw [hlen], by omega, (fun h => by cases h), fun h0 => ?_, fun hw => ⟨?_, ?_⟩⟩
    · have hc0 := hcell 0 (by omega)
      obtain ⟨e1, _⟩ := addr_form (k := 0) hc0
      refine ⟨a.block, a.off, by rw [← e1], ?_, fun j hj => ?_⟩
      · have := World.block_lt_of_cell? _ _ hc0
        rw [e1, (addr_form (k := 0) hc0).2] at this
        exact this
      · rw [hlen] at hj
        have hcj := hcell j (by omega)
        rw [e1, (addr_form (k := j) hc0).2] at hcj
        rw [hcj]
        simp only [List.getElem_map, List.getElem_take]
        have e : ss.getD j ByteArray.empty = ss[j]'(by omega) := by simp [List.getD, List.getElem?_eq_getElem (show j < ss.length by omega)]
        rw [e, show sv (ss[j]'(by omega)).data.toList = Value.string (ss[j]'(by omega)) from congrArg Value.string (string_eq (s := ss[j]'(by omega)) rfl).symm]
    · have := reach_slice ht hw
      rw [hb] at this
      simp [strs] at this
      have e2 : min len ss.length + (ss.length - len) = cap := by omega
      rw [e2] at this
      exact this
    · intro l hl2
      simp only [DataW.weights, ht, List.all_cons, Bool.and_eq_true, List.all_append] at hw
      have hw1 := hw.2.1
      rw [weights_strs] at hw1
      obtain ⟨s, hs, rfl⟩ := List.mem_map.1 hl2
      have := of_decide_eq_true (List.all_eq_true.1 hw1 _ (List.mem_map.2 ⟨s, hs, rfl⟩))
      unfold reachBytes at this
      exact this
end Go.Proofs.YtpinhpnmnfcdoaaDoor
/- same: two lists of labels. -/
namespace Go.Proofs.YtpinhpnmnfcdoaaDoor
open Go.RowKit

end Go.Proofs.YtpinhpnmnfcdoaaDoor
/- wakes: a name that is known. -/
namespace Go.Proofs.YtpinhpnmnfcdoaaDoor
open Go.RowKit

end Go.Proofs.YtpinhpnmnfcdoaaDoor
/- What a card's row asks besides: the listed variables. -/
namespace Go.Proofs.YtpinhpnmnfcdoaaDoor
open Go.ChangeShapes Go.WideShapes Go.ChangeAt Go.RowKit

theorem star : "*" ++ "errors.errorString" = "*errors.errorString" := by decide
theorem rowErr (u : TypeId) (h : Tryd.prog.typeName? 3 u = some "*errors.errorString") : u = 145 :=
  typeName_ptr_named (nm := "errors.errorString") (by rw [star]; kernel_rfl) (by kernel_rfl) (by decide) u (by rw [star]; exact h)
end Go.Proofs.YtpinhpnmnfcdoaaDoor
