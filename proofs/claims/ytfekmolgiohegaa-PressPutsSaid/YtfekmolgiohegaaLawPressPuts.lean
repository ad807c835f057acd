/- PressPuts: whatever items are handed in, the call returns true, and the arguments read behind it as before. -/
import Derived.Test.YtfekmolgiohegaaPuts
import Derived.Deep.CutRange
namespace Go.Proofs.Ytfekmolgiohegaa
open Go.RowKit

theorem its_cell {w : World} {hi : Nat} {A : Option Addr} {its : List It} (h : Its w hi A its) {k : Nat} (hk : k < its.length) :
    ∃ g o, A = some ⟨g, o, none⟩ ∧ g < hi ∧ w.cell? ⟨g, o + k * 3, none⟩ = some (.int .i64 (its[k]'hk).skip) ∧ w.cell? ⟨g, o + k * 3 + 1, none⟩ = some (.string (its[k]'hk).name) ∧ w.cell? ⟨g, o + k * 3 + 2, none⟩ = some (.bool (its[k]'hk).plain) := by
  obtain ⟨g, o, h1, h2, h3⟩ := h (by omega)
  exact ⟨g, o, h1, h2, (h3 k hk).1, (h3 k hk).2.1, (h3 k hk).2.2⟩
theorem tmod_bounds (x : Int) : -9000 < x.tmod 9000 ∧ x.tmod 9000 < 9000 := by
  have h1 := Int.tmod_lt_of_pos x (show (0 : Int) < 9000 by omega)
  have h2 := Int.tmod_lt_of_pos (-x) (show (0 : Int) < 9000 by omega)
  rw [Int.neg_tmod] at h2
  omega
set_option maxHeartbeats 2000000 in
set_option maxRecDepth 100000 in
theorem walk_PressPuts (w : World) (A : Option Addr) (its : List It) (c : Nat) (_hc : its.length ≤ c) (_hnil : A = none → c = 0) (hr : Its w w.heap.size A its) (hw : ∀ it ∈ its, (Lit.int .i64 it.skip).wf = true) (hsz : ∀ it ∈ its, it.name.size ≤ 140737488351232) :
    Calls Try.prog 3 #[.slice A its.length c] w fun e w' => e = .returned (.bool true) ∧ Below w.heap.size w w' := by
  by_cases hbig : 40 < its.length
  · clear hr hw hsz _hnil _hc
    go_enter Try.func3, Try.ntmps3
    go_wp2_with (go_at_call 9; refine (prWakes _).mono ?_; rintro e w5 ⟨rfl, B5⟩)
    go_ret
    exact ⟨rfl, B5⟩
  · obtain ⟨i0, hi, hz0, hz1, hz2⟩ := info_parts Try.infoByte
    have HR := Lib.hid hr
    have HSZ := Lib.hid hsz
    have HWF := Lib.hid hw
    have hd40 : decide ((40 : Int) < (its.length : Int)) = false := by simp; omega
    clear hr hw hsz _hnil
    go_enter Try.func3, Try.ntmps3
    go_wp2_with (go_at_call 10; refine (pnew_any _).mono ?_; rintro e w2 ⟨rfl, rfl⟩)
    have H0 : Hid (PuW w [] [] [] (.slice none 0 0) (.slice none 0 0) ((w.alloc (.cells #[.map none] 49)).alloc (.cells #[.slice none 0 0, .slice none 0 0] 30))) := PuW.new w
    go_loopw [5, 6, 7] (fun va vb i wr => ∃ (k : Nat) (T : Tab) (l : List UInt8), i = .int .i64 k ∧ k ≤ its.length ∧ Hid (PuW w T l l va vb wr) ∧ l.length ≤ 9300 * k ∧ T.length ≤ 255 * k) (fun _ _ i _ => its.length - (intOf i).toNat)
    case atStart => exact ⟨0, [], [], rfl, Nat.zero_le _, H0.out, by simp, by simp⟩
    case round =>
      obtain ⟨k, T, l, rfl, hk, HI, hl, hTl⟩ := hrel
      by_cases hlt : k < its.length
      · obtain ⟨gI, oI, rfl, hgI, c0, _, _⟩ := its_cell (HR.out.keep HI.out.2.2.2.2.2) hlt
        have hs1 := HSZ.out _ (List.getElem_mem hlt)
        have hsw := HI.out.2.2.2.2.2.size
        obtain ⟨s, hs⟩ : ∃ s, (its[k]'hlt).name = s := ⟨_, rfl⟩
        obtain ⟨pl, hpl⟩ : ∃ pl, (its[k]'hlt).plain = pl := ⟨_, rfl⟩
        obtain ⟨sk, hsk⟩ : ∃ sk, (its[k]'hlt).skip = sk := ⟨_, rfl⟩
        obtain ⟨m, hm⟩ : ∃ m, sk.tmod 9000 = m := ⟨_, rfl⟩
        have hmb := tmod_bounds sk
        rw [hm] at hmb
        rw [hsk] at c0
        rw [hs] at hs1
        have hmw : IntKind.i64.wrap m = m := by rw [IntKind.wrap_i64]; omega
        have HCL : Hid (∀ W, Below w.heap.size w W → W.cell? ⟨gI, oI + k * 3 + 1, none⟩ = some (.string s) ∧ W.cell? ⟨gI, oI + k * 3 + 2, none⟩ = some (.bool pl)) := fun W hb => by
          obtain ⟨gJ, oJ, e, _, _, d1, d2⟩ := its_cell (HR.out.keep hb) hlt
          cases e
          rw [hs] at d1
          rw [hpl] at d2
          exact ⟨d1, d2⟩
        clear hs hpl hsk
        go_upto_if 34 with fail
        go_cut [5, 6] from 21 to 129 (fun va vb wx => ∃ l2, Hid (PuW w T l2 l2 va vb wx) ∧ l2.length ≤ l.length + 9000)
        case first =>
          by_cases hm0 : 0 < m
          · obtain ⟨mk, rfl⟩ : ∃ mk : Nat, m = mk := ⟨m.toNat, by omega⟩
            obtain ⟨v1, w1, r1, P1⟩ := HI.out.za (k := mk) (by omega) (by omega) 31
            obtain ⟨v2, w2, r2, P2⟩ := P1.zb (k := mk) (by omega) (by omega) 31
            have HP2 := Lib.hid P2
            have R1 := Lib.hid r1
            have R2 := Lib.hid r2
            clear P1 P2 r1 r2 hm
            go_wp2_with (first
              | (at_builtin; refine Lib.wpList_append_run _ rfl (.tmp 35) (.tmp 36) _ _ rfl _ _ rfl rfl v1 w1 R1.out ?_)
              | (at_builtin; refine Lib.wpList_append_run _ rfl (.tmp 38) (.tmp 39) _ _ rfl _ _ rfl rfl v2 w2 R2.out ?_))
            go_meet
            case rel => exact ⟨_, HP2.out, by simp; omega⟩
          · go_wp2
            go_meet
            case rel => exact ⟨l, HI.out, by omega⟩
        case rest =>
          obtain ⟨l2, HP, hl2⟩ := hcut
          rename World => wd
          clear c0 hm HI
          obtain ⟨aA, cA, rfl⟩ := own_form HP.out.2.2.1
          obtain ⟨aB, cB, rfl⟩ := own_form HP.out.2.2.2.1
          have hswd := HP.out.2.2.2.2.2.size
          go_upto_if 54 with (first
            | (at_make; refine wpList_make_lc rfl _ _ _ rfl _ i0 Try.underlying31 hi hz0 hz1 hz2 _ _ _ _ l2.length (l2.length + 300) rfl rfl rfl (by omega) (by omega) (by omega) ?_; intro w1 Z1 B1 S1; have HS1 := Lib.hid S1; have HB1 := Lib.hid B1; have HZ1 := Lib.hid Z1; clear S1 B1 Z1)
            | (refine wpList_copy_splice rfl (.tmp 47) (.tmp 48) _ _ rfl 5 Try.underlying31 (by kernel_rfl) _ _ _ _ _ _ rfl rfl wd.heap.size 0 (List.replicate (l2.length + 300) (Value.int .u8 0)) 5 HZ1.out (bv l2) (by rw [bv_length]; simp) (fun h0 => ⟨rfl, ((bs_own HP.out.2.2.1).keep HB1.out).ad h0⟩) (by simp [bv]) (bv_one l2) wd.heap.size wd HB1.out (Nat.le_refl _) ?_; intro w2 H2 B2; have HP2 := Lib.hid (HP.out.low B2); have HRM := Lib.hid (room_of H2.out); have c2w := HCL.out _ HP2.out.2.2.2.2.2; clear H2 B2))
          have HMX := Lib.hid HP2.out.1.choose_spec.2.2.1
          go_cut [10, 11, 12, 13] from 21 to 129 (fun vx vy e f wx => ∃ er : Int, e = .int .i64 er ∧ f = .int .i64 er ∧ Hid (PuS w T l2 wd.heap.size (.slice aA l2.length cA) (.slice aB l2.length cB) vx vy er wx))
          case first =>
            rcases hsp : Nm.split s.data.toList with _ | ls
            · have HSP := Lib.hid hsp
              clear hsp
              cases pl with
              | true =>
                go_wp2_with (first
                  | (go_at_call 11; refine (pp_no true HP2.out HRM.out (by omega) HSP.out).mono ?_; rintro e' w3 ⟨rfl, P3', R3'⟩; have P3 := Lib.hid P3'; have R3 := Lib.hid R3'; have c3 := HCL.out _ P3'.2.2.2.2.2; clear P3' R3')
                  | (go_at_call 12; refine (rPlain_of (rr_no true P3.out R3.out (by omega) HSP.out)).mono ?_; rintro e' w4 ⟨v4, rfl, rfl, S4'⟩; have S4 := Lib.hid S4'; clear S4'))
                go_meet
                case rel => exact ⟨11, rfl, rfl, S4.out⟩
              | false =>
                go_wp2_with (first
                  | (go_at_call 13; refine (pp_no false HP2.out HRM.out (by omega) HSP.out).mono ?_; rintro e' w3 ⟨rfl, P3', R3'⟩; have P3 := Lib.hid P3'; have R3 := Lib.hid R3'; have c3 := HCL.out _ P3'.2.2.2.2.2; clear P3' R3')
                  | (go_at_call 14; refine (rPut_of (rr_no false P3.out R3.out (by omega) HSP.out)).mono ?_; rintro e' w4 ⟨v4, rfl, rfl, S4'⟩; have S4 := Lib.hid S4'; clear S4'))
                go_meet
                case rel => exact ⟨11, rfl, rfl, S4.out⟩
            · have HSP := Lib.hid hsp
              clear hsp
              cases pl with
              | true =>
                go_wp2_with (first
                  | (go_at_call 11; refine (pp_ok true HP2.out HRM.out (by omega) (by omega) HSP.out).mono ?_; rintro e' w3 ⟨A3, n3, c3, rfl, P3'⟩; have P3 := Lib.hid P3'; have d3 := HCL.out _ P3'.2.2.2.2.2.1; clear P3')
                  | (go_at_call 12; refine (rPlain_of (rr_ok true P3.out (by omega) (by omega) HMX.out HSP.out)).mono ?_; rintro e' w4 ⟨v4, rfl, S4'⟩; have S4 := Lib.hid S4'; clear S4'))
                go_meet
                case rel => exact ⟨0, rfl, rfl, S4.out⟩
              | false =>
                go_wp2_with (first
                  | (go_at_call 13; refine (pp_ok false HP2.out HRM.out (by omega) (by omega) HSP.out).mono ?_; rintro e' w3 ⟨A3, n3, c3, rfl, P3'⟩; have P3 := Lib.hid P3'; have d3 := HCL.out _ P3'.2.2.2.2.2.1; clear P3')
                  | (go_at_call 14; refine (rPut_of (rr_ok false P3.out (by omega) (by omega) HMX.out HSP.out)).mono ?_; rintro e' w4 ⟨v4, rfl, S4'⟩; have S4 := Lib.hid S4'; clear S4'))
                go_meet
                case rel => exact ⟨0, rfl, rfl, S4.out⟩
          case rest =>
            obtain ⟨er, rfl, rfl, HS⟩ := hcut
            obtain ⟨T2, X, hRm, hA, hx, hy, hor⟩ := HS.out
            obtain ⟨aX, cX, rfl⟩ := own_form hx
            obtain ⟨aY, cY, rfl⟩ := own_form hy
            have k1 := run_convert_bs (w := wc) (P := Try.prog) 31 9 5 Try.underlying31 Try.underlying5 Try.underlying9 _ _ aX X.length cX X rfl (bs_own hx)
            have k2 := run_convert_bs (w := wc) (P := Try.prog) 31 9 5 Try.underlying31 Try.underlying5 Try.underlying9 _ _ aY X.length cY X rfl (bs_own hy)
            have k3 := run_convert_bs (w := wc) (P := Try.prog) 31 9 5 Try.underlying31 Try.underlying5 Try.underlying9 _ _ (some ⟨wd.heap.size, 0, none⟩) l2.length (l2.length + 300) l2 rfl (room_bs hRm)
            have k4 := run_convert_bs (w := wc) (P := Try.prog) 31 9 5 Try.underlying31 Try.underlying5 Try.underlying9 _ _ aA l2.length cA l2 rfl (bs_own hA)
            have HZC : Hid (∀ j, j < 300 → wc.cell? ⟨wd.heap.size, l2.length + j, none⟩ = some (.int .u8 0)) := fun j hj => room_cell hRm (by omega) (by omega)
            clear hRm hA hx hy HS HP HP2 HRM HMX c2w HB1 HZ1
            rcases hor with ⟨rfl, hP, hX, hT2⟩ | ⟨rfl, hP⟩
            · have HPU := Lib.hid hP
              clear hP
              go_wp2_with (go_at_call 15; refine (bare_any wd.heap.size l2.length 300 300 wc (by omega) (by omega) HZC.out).mono ?_; rintro e' w6 ⟨rfl, rfl⟩)
              go_roundw
              case rel => exact ⟨k + 1, T2, X, by go_num, by omega, HPU.out, by omega, by omega⟩
              case measure => simp [intOf]; omega
            · have HPU := Lib.hid hP
              clear hP
              go_wp2_with (go_at_call 15; refine (bare_any wd.heap.size l2.length 300 300 wc (by omega) (by omega) HZC.out).mono ?_; rintro e' w6 ⟨rfl, rfl⟩)
              go_roundw
              case rel => exact ⟨k + 1, T, l2, by go_num, by omega, HPU.out, by omega, by omega⟩
              case measure => simp [intOf]; omega
      · obtain rfl : k = its.length := by omega
        have HB := Lib.hid HI.out.2.2.2.2.2
        have hsb := HB.out.size
        go_wp2_with (go_at_call 9; refine (prWakes _).mono ?_; rintro e w5 ⟨rfl, B5⟩)
        go_ret
        exact ⟨rfl, HB.out.trans (B5.mono hsb)⟩

namespace pressPuts
open Go.ChangeShapes Go.WideShapes Go.ChangeAt
open Go.ChangeMaps (open_string shut_string)
set_option maxRecDepth 100000 in
theorem contract (H : Type) (enc : TypeId × Value → H) (W : World) (base : Nat) (args : Array Value) (ds gs : List (DataW H)) (before : List MemPlace)
    (hval : ∀ (j : Nat) t v, Try.f3.params[j]? = some t → args[j]? = some v → Value.okWide Try.prog W .any base t v)
    (hW : DataW.Whole enc Try.prog Try.f3.params.toList Rows.pressPutsSpec.vars false W args.toList ds gs before)
    (hR : (DataW.weightsEach Try.prog (Try.f3.params.toList ++ (OpenSpec.ofChange Rows.pressPutsSpec).bare.plain.varTypes Try.prog) (ds ++ gs)).all (· ≤ reachBytes) = true) :
    Calls Try.prog 3 args W fun e W' => ∃ v, e = .returned v ∧ Rows.pressPutsSpec.post enc Try.prog Try.f3 false true false false W args v W' := by
  have hW' := hW
  obtain ⟨p, q, hA0, hV, rfl, hfz, hnd⟩ := hW
  have hA : DataW.TrodAll enc Try.prog W 0 (fun _ => true) true Try.f3.params.toList args.toList ds p := hA0
  have HS := trodAll_stays (W' := W) (sp := fun _ => true) out (by kernel_rfl) hA
  have HA := Lib.hid hA
  rw [Try.params3] at hA hval hR
  obtain ⟨v0, vs0, d0, ds0, p0, q0, hargs0, rfl, rfl, h0, r0⟩ := trodAll_cons hA
  obtain ⟨rfl, rfl, rfl⟩ := trodAll_nil r0
  obtain rfl : args = #[v0] := by cases args; simp_all
  obtain ⟨rfl, rfl⟩ := trodVars_none hV
  obtain ⟨A0, l, c0, rfl, hc0, hn0, hb0, hw0, hm0⟩ := open_items Try.underlying22 Try.underlying34 rfl Try.underlying3 Try.underlying32 Try.underlying4 (by kernel_rfl) (by kernel_rfl) (hval 0 22 v0 rfl rfl) h0
  clear hA0 HS
  obtain ⟨k0, s0⟩ := reach_cons hR
  refine (walk_PressPuts W A0 l c0 hc0 hn0 hb0 hw0 (hm0 k0)).mono fun e W' ⟨he, hb⟩ => ?_
  subst he
  have hlt := hW'.lt
  refine ⟨_, rfl, post_low hW' (pa := _) (pv := []) rfl hb (fun _ _ _ => trodAll_cons_mk (shut_bool Try.underlying4 _) trodAll_mk0) (fun sp hsp => ?_) (fun _ _ => rfl) (ok_one (by kernel_rfl) rfl (okWide_bool_mk Try.underlying4 _))⟩
  exact trodAll_stays out (by kernel_rfl) HA.out (fun x hx => hb.same (hlt x (List.mem_append_left _ hx))) (fun x hx => hsp x (List.mem_append_left _ hx))

noncomputable def wargs : Array Value := #[.slice none 0 0]
noncomputable def lw (os : Os) : World := World.settled Try.prog os
theorem reads (os : Os) {H : Type} (enc : TypeId × Value → H) : ∃ places, DataW.whole enc Try.prog ((lw os).forCall (fun _ _ => 0) ⟨#[], wargs, []⟩).memory Try.f3.params.toList Rows.pressPutsSpec.vars false wargs.toList 8 = some ([.nil], [], places) :=
  ⟨[], by kernel_rfl⟩
set_option maxRecDepth 100000 in
theorem lifted (os : Os) (started : os.Started) (H : Type) (enc : TypeId × Value → H) (G : Stop.Interp) :
    ReturnsInHanded {} Try.checked os 3 .any ((OpenSpec.ofChange Rows.pressPutsSpec).preRow enc Try.prog Try.f3 Rows.pressPutsRow.domain false Rows.pressPutsRow.laid) (((OpenSpec.ofChange Rows.pressPutsSpec).at G).post enc Try.prog Try.f3 false true false false) := by
  obtain ⟨places, hx⟩ := reads os enc
  refine returnsInHanded_of_row (C := Try.checked) (s := OpenSpec.ofChange Rows.pressPutsSpec) own started (by kernel_rfl) Try.func3
    (witness_row_atRef (enc := enc) (C := Try.checked) false (lw os) wargs rfl (by kernel_rfl) (by kernel_rfl) (by kernel_rfl)
      (OpenSpec.preRow_of_cond 8 hx (by kernel_rfl) (fun k hk => by cases hk) (by kernel_rfl) (laidMetH_nil _ _))) ?_
  intro W base args ds gs before hval hW _ _ hR _ _ _
  exact contract H enc W base args ds gs before hval hW hR
/-- THE STATEMENT. -/
theorem said : Rows.PressPutsSaid :=
  OpenClaim.holds_of_cond 3 Try.f3 rfl rfl rfl rfl rfl rfl rfl ⟨rfl, rfl, rfl, rfl, rfl⟩ rfl rfl rfl rfl rfl (by kernel_rfl) Try.func3 (by kernel_rfl)
    (of_decide_eq_true (by kernel_rfl)) (by unfold Func.isWrapper; first | (rw [if_pos (by decide +kernel)]; kernel_rfl) | (rw [if_neg (by decide +kernel)]; exact ⟨rfl, rfl⟩))
    (fun os started H enc _ G => by rw [OpenClaim.pre_eq_preRow]; exact lifted os started H enc G)
end pressPuts
end Go.Proofs.Ytfekmolgiohegaa
