/- Texts of the proofs, merged. -/
import Derived.Test.YtalghgaadcdhhaaDoorG13
import Derived.Test.YtalghgaadcdhhaaDoorG22
import Derived.Test.YtalghgaadcdhhaaDoorG16
import Derived.Deep.CutRange
import Derived.Deep.RegionWith
/- RdataPuts: whatever items are handed in, the call returns true, and the arguments read behind it as before (where they are at most 1048576 letters). -/
namespace Go.Proofs.YtalghgaadcdhhaaDoor
open Go.RowKit

theorem tmod_bounds (x : Int) : -9000 < x.tmod 9000 ∧ x.tmod 9000 < 9000 := by
  have h1 := Int.tmod_lt_of_pos x (show (0 : Int) < 9000 by omega)
  have h2 := Int.tmod_lt_of_pos (-x) (show (0 : Int) < 9000 by omega)
  rw [Int.neg_tmod] at h2
  omega
/-- the cells of an item. -/
def CItem (W : World) (g o : Nat) (t : Nat) (d : Dv) : Prop :=
  W.cell? ⟨g, o + 1, none⟩ = some (.int .u16 t) ∧ W.cell? ⟨g, o + 2, none⟩ = some (.string d.raw) ∧ W.cell? ⟨g, o + 2 + 1, none⟩ = some (.string d.host) ∧ W.cell? ⟨g, o + 2 + 2, none⟩ = some (.string d.mail) ∧
    W.cell? ⟨g, o + 2 + 3, none⟩ = some (.int .u32 d.n0) ∧ W.cell? ⟨g, o + 2 + 4, none⟩ = some (.int .u32 d.n1) ∧ W.cell? ⟨g, o + 2 + 5, none⟩ = some (.int .u32 d.n2) ∧ W.cell? ⟨g, o + 2 + 6, none⟩ = some (.int .u32 d.n3) ∧ W.cell? ⟨g, o + 2 + 7, none⟩ = some (.int .u32 d.n4)
theorem dits_cell {w : World} {hi : Nat} {A : Option Addr} {its : List DIt} (h : DIts w hi A its) {k : Nat} (hk : k < its.length) :
    ∃ g o, A = some ⟨g, o, none⟩ ∧ g < hi ∧ w.cell? ⟨g, o + k * 10, none⟩ = some (.int .i64 (its[k]'hk).skip) ∧ CItem w g (o + k * 10) (its[k]'hk).ty (its[k]'hk).data := by
  obtain ⟨g, o, h1, h2, h3⟩ := h (by omega)
  obtain ⟨q0, q1, q2⟩ := h3 k hk
  exact ⟨g, o, h1, h2, q0, q1, q2 0 (by omega), q2 1 (by omega), q2 2 (by omega), q2 3 (by omega), q2 4 (by omega), q2 5 (by omega), q2 6 (by omega), q2 7 (by omega)⟩
set_option maxHeartbeats 4000000 in
set_option maxRecDepth 100000 in
theorem walk_RdataPuts (w : World) (hL : LayA w) (A : Option Addr) (its : List DIt) (c : Nat) (_hc : its.length ≤ c) (_hnil : A = none → c = 0) (hr : DIts w w.heap.size A its) (hw : ∀ it ∈ its, (Lit.int .i64 it.skip).wf = true ∧ it.ty ≤ 65535 ∧ it.data.fits ∧ it.data.raw.size + it.data.host.size + it.data.mail.size ≤ 1048576) :
    Calls Tryd.prog 4 #[.slice A its.length c] w fun e w' => e = .returned (.bool true) ∧ Below w.heap.size w w' := by
  have HWK := Lib.hid (fun (W : World) (h : Below w.heap.size w W) => rdWakes W (hL.below h (Nat.le_refl _)))
  have HLR := Lib.hid (fun (W : World) (h : Below w.heap.size w W) => (hL.below h (Nat.le_refl _)).1)
  clear hL
  by_cases hbig : 30 < its.length
  · clear hr hw _hnil _hc
    go_enter Tryd.func4, Tryd.ntmps4
    go_wp2_with (go_at_call 12; refine (HWK.out _ (Below.refl _ _)).mono ?_; rintro e w5 ⟨rfl, B5⟩)
    go_ret
    exact ⟨rfl, B5⟩
  · obtain ⟨i0, hi, hz0, hz1, hz2⟩ := info_parts Tryd.infoByte
    have HR := Lib.hid hr
    have HWF := Lib.hid hw
    have hd30 : decide ((30 : Int) < (its.length : Int)) = false := by simp; omega
    clear hr hw _hnil
    go_enter Tryd.func4, Tryd.ntmps4
    go_wp2_with (go_at_call 13; refine (pnew_any _).mono ?_; rintro e w2 ⟨rfl, rfl⟩)
    have H0 : Hid (PdW w [] [] [] (.slice none 0 0) (.slice none 0 0) ((w.alloc (.cells #[.map none] 71)).alloc (.cells #[.slice none 0 0, .slice none 0 0] 40))) := PdW.of (PuW.new w)
    go_loopw [5, 6, 7] (fun va vb i wr => ∃ (k : Nat) (T : Tab) (l : List UInt8), i = .int .i64 k ∧ k ≤ its.length ∧ Hid (PdW w T l l va vb wr) ∧ l.length ≤ 500000 * k ∧ T.length ≤ 1400 * k) (fun _ _ i _ => its.length - (intOf i).toNat)
    case atStart => exact ⟨0, [], [], rfl, Nat.zero_le _, H0.out, by simp, by simp⟩
    case round =>
      obtain ⟨k, T, l, rfl, hk, HI, hl, hTl⟩ := hrel
      by_cases hlt : k < its.length
      · obtain ⟨gI, oI, rfl, hgI, c0, _⟩ := dits_cell (HR.out.keep HI.out.2.2.2.2.2) hlt
        obtain ⟨_, hty, hfi, hsz⟩ := HWF.out _ (List.getElem_mem hlt)
        have hsw := HI.out.2.2.2.2.2.size
        obtain ⟨d, hd⟩ : ∃ d, (its[k]'hlt).data = d := ⟨_, rfl⟩
        obtain ⟨t, hpt⟩ : ∃ t, (its[k]'hlt).ty = t := ⟨_, rfl⟩
        obtain ⟨sk, hsk⟩ : ∃ sk, (its[k]'hlt).skip = sk := ⟨_, rfl⟩
        obtain ⟨m, hm⟩ : ∃ m, sk.tmod 9000 = m := ⟨_, rfl⟩
        have hmb := tmod_bounds sk
        rw [hm] at hmb
        rw [hsk] at c0
        rw [hd] at hfi hsz
        rw [hpt] at hty
        have HPD : Hid (PdD t d) := ⟨hty, hfi, by omega, by omega, by omega⟩
        have hmw : IntKind.i64.wrap m = m := by rw [IntKind.wrap_i64]; omega
        have HCL : Hid (∀ W, Below w.heap.size w W → CItem W gI (oI + k * 10) t d) := fun W hb => by
          obtain ⟨gJ, oJ, e, _, _, d1⟩ := dits_cell (HR.out.keep hb) hlt
          cases e
          rw [hd, hpt] at d1
          exact d1
        clear hd hpt hsk hfi hsz hty
        go_upto_if 36 with fail
        go_cut [5, 6] from 23 to 104 (fun va vb wx => ∃ l2, Hid (PdW w T l2 l2 va vb wx) ∧ l2.length ≤ l.length + 9000)
        case first =>
          by_cases hm0 : 0 < m
          · obtain ⟨mk, rfl⟩ : ∃ mk : Nat, m = mk := ⟨m.toNat, by omega⟩
            obtain ⟨v1, w1, r1, P1⟩ := HI.out.za (k := mk) (by omega) (by omega) 41
            obtain ⟨v2, w2, r2, P2⟩ := P1.zb (k := mk) (by omega) (by omega) 41
            have HP2 := Lib.hid P2
            have R1 := Lib.hid r1
            have R2 := Lib.hid r2
            clear P1 P2 r1 r2 hm
            go_wp2_with (first
              | (at_builtin; refine Lib.wpList_append_run _ rfl (.tmp 37) (.tmp 38) _ _ rfl _ _ rfl rfl v1 w1 R1.out ?_)
              | (at_builtin; refine Lib.wpList_append_run _ rfl (.tmp 40) (.tmp 41) _ _ rfl _ _ rfl rfl v2 w2 R2.out ?_))
            go_meet
            case rel => exact ⟨_, HP2.out, by simp; omega⟩
          · go_wp2
            go_meet
            case rel => exact ⟨l, HI.out, by omega⟩
        case rest =>
          obtain ⟨l2, HP, hl2⟩ := hcut
          rename World => wd
          clear c0 hm HI
          obtain ⟨aA, cA, rfl⟩ := HP.out.2.2.1.form
          obtain ⟨aB, cB, rfl⟩ := own_form HP.out.2.2.2.1
          have hswd := HP.out.2.2.2.2.2.size
          obtain ⟨_, _, eA, _, _, HBA'⟩ := HP.out.2.2.1.rds
          cases eA
          have HBA := Lib.hid HBA'
          clear HBA'
          go_upto_region 15 with (first
            | (at_make; refine wpList_make_lc rfl _ _ _ rfl _ i0 Tryd.underlying41 hi hz0 hz1 hz2 _ _ _ _ l2.length (l2.length + 600) rfl rfl rfl (by omega) (by omega) (by omega) ?_; intro w1 Z1 B1 S1; have HS1 := Lib.hid S1; have HB1 := Lib.hid B1; have HZ1 := Lib.hid Z1; clear S1 B1 Z1)
            | (refine wpList_copy_splice rfl (.tmp 49) (.tmp 50) _ _ rfl 5 Tryd.underlying41 (by kernel_rfl) _ _ _ _ _ _ rfl rfl wd.heap.size 0 (List.replicate (l2.length + 600) (Value.int .u8 0)) 5 HZ1.out (bv l2) (by rw [bv_length]; simp) (fun h0 => ⟨rfl, (HBA.out.keep HB1.out).ad h0⟩) (by simp [bv]) (bv_one l2) wd.heap.size wd HB1.out (Nat.le_refl _) ?_; intro w2 H2 B2; have HP2 := Lib.hid ((HP.out.low B2).low ((Below.refl _ _).drew)); have HRM := Lib.hid (show Roo6 w2.drew wd.heap.size l2 from roo6_of H2.out); obtain ⟨e1, e2, e3, e4, e5, e6, e7, e8, e9⟩ := HCL.out _ HP2.out.2.2.2.2.2; have HLR2 := Lib.hid (HLR.out _ HP2.out.2.2.2.2.2); clear H2 B2))
          have HMX := Lib.hid HP2.out.1.choose_spec.2.2.1
          have hva : d.val = .agg #[.string d.raw, .string d.host, .string d.mail, .int .u32 d.n0, .int .u32 d.n1, .int .u32 d.n2, .int .u32 d.n3, .int .u32 d.n4] := rfl
          by_cases hok : Rd.ok t d.dt = true
          · have C1 := Lib.hid (pd_ok HP2.out HRM.out HLR2.out (by omega) (by omega) HPD.out hok)
            rw [hva] at C1
            go_region_with (go_at_call 14; (with_reducible refine C1.out.mono ?_); rintro e' w3 ⟨A3, n3, c3, rfl, P3', hX3, hT3⟩; have P3 := Lib.hid (P3'.low ((Below.refl _ _).drew)); obtain ⟨f1, f2, f3, f4, f5, f6, f7, f8, f9⟩ := HCL.out _ P3.out.2.2.2.2.2.1; clear P3')
            all_goals
              (have C2 := Lib.hid (rd_ok P3.out hX3 hT3 (by omega) (by omega) HMX.out HPD.out hok)
               rw [hva] at C2
               go_upto_region 16 with fail
               go_region_with (go_at_call 15; (with_reducible refine C2.out.mono ?_); rintro e' w4 ⟨v4, rfl, S4'⟩; have S4 := Lib.hid S4'; clear S4'))
            all_goals
              (obtain ⟨T2, X, hRm, hA, hx, hy, hor⟩ := S4.out
               obtain ⟨aX, cX, eX⟩ := hx.form
               cases eX
               obtain ⟨aY, cY, rfl⟩ := own_form hy
               have k1 := run_convert_bs (w := w4) (P := Tryd.prog) 41 9 5 Tryd.underlying41 Tryd.underlying5 Tryd.underlying9 _ _ A3 X.length c3 X rfl (rowo_bs hx)
               have k2 := run_convert_bs (w := w4) (P := Tryd.prog) 41 9 5 Tryd.underlying41 Tryd.underlying5 Tryd.underlying9 _ _ aY X.length cY X rfl (bs_own hy)
               have k3 := run_convert_bs (w := w4) (P := Tryd.prog) 41 9 5 Tryd.underlying41 Tryd.underlying5 Tryd.underlying9 _ _ (some ⟨wd.heap.size, 0, none⟩) l2.length (l2.length + 600) l2 rfl (roo6_bs hRm)
               have k4 := run_convert_bs (w := w4) (P := Tryd.prog) 41 9 5 Tryd.underlying41 Tryd.underlying5 Tryd.underlying9 _ _ aA l2.length cA l2 rfl (rowo_bs hA)
               rcases hor with ⟨_, hP, hX, hT2⟩ | ⟨h40, _⟩
               · have HPU := Lib.hid hP
                 clear hP hRm hA hx hy S4 C1 C2 P3 HP HP2 HRM HMX HB1 HZ1 e1 e2 e3 e4 e5 e6 e7 e8 e9 f1 f2 f3 f4 f5 f6 f7 f8 f9
                 go_wp2
                 go_roundw
                 case rel => exact ⟨k + 1, T2, X, by go_num, by omega, HPU.out, by omega, by omega⟩
                 case measure => simp [intOf]; omega
               · cases h40)
          · have hno : Rd.ok t d.dt = false := by simpa using hok
            have C1 := Lib.hid (pd_no HP2.out HRM.out HLR2.out HPD.out hno (A := some ⟨wd.heap.size, 0, none⟩) (n := l2.length) (c := l2.length + 600))
            rw [hva] at C1
            go_region_with (go_at_call 14; (with_reducible refine C1.out.mono ?_); rintro e' w3 ⟨rfl, P3', R3'⟩; have P3 := Lib.hid (P3'.low ((Below.refl _ _).drew)); have R3 := Lib.hid (show Roo6 w3.drew wd.heap.size l2 from R3'); obtain ⟨f1, f2, f3, f4, f5, f6, f7, f8, f9⟩ := HCL.out _ P3.out.2.2.2.2.2; clear P3' R3')
            all_goals
              (have C2 := Lib.hid (rd_no P3.out R3.out HPD.out hno (B := aB) (n := l2.length) (c := cB))
               rw [hva] at C2
               go_upto_region 16 with fail
               go_region_with (go_at_call 15; (with_reducible refine C2.out.mono ?_); rintro e' w4 ⟨v4, rfl, rfl, S4'⟩; have S4 := Lib.hid S4'; clear S4'))
            all_goals
              (obtain ⟨T2, X, hRm, hA, hx, hy, hor⟩ := S4.out
               rcases hor with ⟨h0, _⟩ | ⟨_, hP⟩
               · cases h0
               · have k1 := run_convert_bs (w := w4) (P := Tryd.prog) 41 9 5 Tryd.underlying41 Tryd.underlying5 Tryd.underlying9 _ _ none 0 0 [] rfl (Bs.nil (lo := 0) (hi := 0))
                 have k3 := run_convert_bs (w := w4) (P := Tryd.prog) 41 9 5 Tryd.underlying41 Tryd.underlying5 Tryd.underlying9 _ _ (some ⟨wd.heap.size, 0, none⟩) l2.length (l2.length + 600) l2 rfl (roo6_bs hRm)
                 have k4 := run_convert_bs (w := w4) (P := Tryd.prog) 41 9 5 Tryd.underlying41 Tryd.underlying5 Tryd.underlying9 _ _ aA l2.length cA l2 rfl (rowo_bs hA)
                 have HPU := Lib.hid hP
                 clear hP hRm hA hx hy S4 C1 C2 P3 R3 HP HP2 HRM HMX HB1 HZ1 e1 e2 e3 e4 e5 e6 e7 e8 e9 f1 f2 f3 f4 f5 f6 f7 f8 f9
                 go_wp2
                 go_roundw
                 case rel => exact ⟨k + 1, T, l2, by go_num, by omega, HPU.out, by omega, by omega⟩
                 case measure => simp [intOf]; omega)
      · obtain rfl : k = its.length := by omega
        have HB := Lib.hid HI.out.2.2.2.2.2
        have hsb := HB.out.size
        have HNI := Lib.hid (fun (W : World) => pdPut_nil none 0 0 1 ⟨⟨#[97, 98, 99, 100]⟩, ⟨#[]⟩, ⟨#[]⟩, 0, 0, 0, 0, 0⟩ W)
        go_wp2_with (first
          | (go_at_call 14; refine (HNI.out _).mono ?_; rintro e w4 ⟨rfl, B4⟩)
          | (go_at_call 12; refine (HWK.out _ (HB.out.trans (B4.mono hsb))).mono ?_; rintro e w5 ⟨rfl, B5⟩))
        go_ret
        exact ⟨rfl, (HB.out.trans (B4.mono hsb)).trans (B5.mono (by have := B4.size; omega))⟩
end Go.Proofs.YtalghgaadcdhhaaDoor
