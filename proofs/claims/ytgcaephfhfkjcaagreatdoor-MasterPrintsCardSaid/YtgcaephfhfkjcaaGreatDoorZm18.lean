/- Texts of the proofs, merged. -/
import Derived.Test.YtgcaephfhfkjcaaGreatDoorZm4
import Derived.Deep.CutRange
namespace Go.Proofs.YtgcaephfhfkjcaaGreatDoor
open Go.RowKit

set_option maxHeartbeats 4000000 in
set_option maxRecDepth 100000 in
theorem rdCheck_any (t : Nat) (d : Dv) (w : World) (ht : t ≤ 65535) (hf : d.fits) (hr : d.raw.size ≤ 8796093022208) (hh : d.host.size ≤ 140737488355328) (hm : d.mail.size ≤ 140737488355328) :
    Calls Tryz.prog 74 #[.int .u16 t, d.val] w fun e w' => e = .returned (.int .i64 (if Rd.ok t d.dt then 0 else 40 : Nat)) ∧ Below w.heap.size w w' := by
  obtain ⟨R, hR⟩ : ∃ R, (if Rd.ok t d.dt then 0 else 40 : Nat) = R := ⟨_, rfl⟩
  rw [hR]
  have HRES := Lib.hid hR
  clear hR
  have HNM := Lib.hid (fun W : World => rdNames_any t W ht)
  have HNU := Lib.hid (fun W : World => rdNumbers_any t W ht)
  have HRW := Lib.hid (fun W : World => rdRaw_any t d.raw W ht hr)
  have HI1 := Lib.hid (fun W : World => rdIs_any d.host W hh)
  have HI2 := Lib.hid (fun W : World => rdIs_any d.mail W hm)
  have hhd : Rd.head t d.dt = (Rd.rawOk t d.raw.data.toList && (Rd.isHost t == Rd.nm d.host.data.toList) && (Rd.isHost t || d.host.data.toList == []) && (Rd.isMail t == Rd.nm d.mail.data.toList) && (Rd.isMail t || d.mail.data.toList == [])) := rfl
  have hE1 := rd_strEmpty d.host
  have hE2 := rd_strEmpty d.mail
  have hc5 := Rd.cnt_le t
  have hb5 := Rd.bits_le t
  have hin := fun k => @Rd.num_in t k (d.n k)
  have hout := fun k => @Rd.num_out t k (d.n k)
  obtain ⟨ro, hro⟩ : ∃ ro, Rd.rawOk t d.raw.data.toList = ro := ⟨_, rfl⟩
  obtain ⟨hn, hhn⟩ : ∃ hn, Rd.nm d.host.data.toList = hn := ⟨_, rfl⟩
  obtain ⟨mn, hmn⟩ : ∃ mn, Rd.nm d.mail.data.toList = mn := ⟨_, rfl⟩
  obtain ⟨h, hih⟩ : ∃ h, Rd.isHost t = h := ⟨_, rfl⟩
  obtain ⟨m, him⟩ : ∃ m, Rd.isMail t = m := ⟨_, rfl⟩
  obtain ⟨he, hhe⟩ : ∃ he, (d.host.data.toList == []) = he := ⟨_, rfl⟩
  obtain ⟨me, hme⟩ : ∃ me, (d.mail.data.toList == []) = me := ⟨_, rfl⟩
  obtain ⟨cn, hcn⟩ : ∃ cn, Rd.cnt t = cn := ⟨_, rfl⟩
  obtain ⟨bt, hbt⟩ : ∃ bt, Rd.bits t = bt := ⟨_, rfl⟩
  rw [hro, hhn, hmn, hih, him, hhe, hme] at hhd
  rw [hro] at HRW
  rw [hhn] at HI1
  rw [hmn] at HI2
  rw [hih, him] at HNM
  rw [hcn, hbt] at HNU
  rw [hcn] at hc5 hin hout
  rw [hbt] at hb5 hin
  rw [hhe] at hE1
  rw [hme] at hE2
  have hF1 : d.host.toList.isEmpty = he := by rw [← hE1]; cases d.host.toList <;> rfl
  have hF2 : d.mail.toList.isEmpty = me := by rw [← hE2]; cases d.mail.toList <;> rfl
  have HH := Lib.hid hhd
  have HF := Lib.hid hf
  have HIN := Lib.hid hin
  have HOUT := Lib.hid hout
  clear hhd hro hhn hmn hih him hhe hme hcn hbt hf hin hout
  have hval : d.val = .agg d.cells := rfl
  have hX0 := Has.fresh w 34 d.cells
  have HX := Lib.hid hX0
  have HB : Hid (Below w.heap.size w (w.alloc (.cells d.cells 34))) := (Below.refl _ w).alloc (Nat.le_refl _) _
  clear hX0
  unfold Dv.val
  go_enter Tryz.func74, Tryz.ntmps74
  go_upto_region 3 with (first
    | (go_at_call 56; refine (HNM.out _).mono ?_; rintro e' w1 ⟨rfl, rfl⟩)
    | (go_at_call 75; refine (HNU.out _).mono ?_; rintro e' w2 ⟨rfl, rfl⟩))
  go_cut [56] from 10 to 56 (fun c wx => c = .bool (!Rd.head t d.dt) ∧ Hid (Has wx w.heap.size 34 d.cells) ∧ Hid (Below w.heap.size w wx))
  case first =>
    have fin : ∀ (wx : World) (b : Bool), Hid (Has wx w.heap.size 34 d.cells) → Hid (Below w.heap.size w wx) → b = (!(ro && h == hn && (h || he) && m == mn && (m || me))) → (Value.bool b = .bool (!Rd.head t d.dt) ∧ Hid (Has wx w.heap.size 34 d.cells) ∧ Hid (Below w.heap.size w wx)) := fun wx b k1 k2 k3 => ⟨by rw [HH.out, k3], k1, k2⟩
    have FIN := Lib.hid fin
    clear fin HIN HOUT HF HH HNM HNU hval
    cases ro with
    | false =>
      clear HI1 HI2 hE1 hE2 hF1 hF2
      go_wp2_with (first
          | (go_at_call 108; refine (HRW.out _).mono ?_; rintro e' w3 ⟨rfl, B3⟩; replace HB := Lib.hid (HB.out.trans (B3.mono HB.out.size)); replace HX := Lib.hid (HX.out.below B3 HX.out.lt); have cc := dv_host HX.out; have cd := dv_mail HX.out; clear B3)
          | (go_at_call 13; (with_reducible refine (HI1.out _).mono ?_); rintro e' w4 ⟨rfl, B4⟩; replace HB := Lib.hid (HB.out.trans (B4.mono HB.out.size)); replace HX := Lib.hid (HX.out.below B4 HX.out.lt); have cc := dv_host HX.out; have cd := dv_mail HX.out; clear B4)
          | (go_at_call 13; (with_reducible refine (HI2.out _).mono ?_); rintro e' w5 ⟨rfl, B5⟩; replace HB := Lib.hid (HB.out.trans (B5.mono HB.out.size)); replace HX := Lib.hid (HX.out.below B5 HX.out.lt); have cc := dv_host HX.out; have cd := dv_mail HX.out; clear B5))
      go_meet
      exact FIN.out _ _ HX HB rfl
    | true =>
      cases h <;> cases hn
      case false.true =>
        clear hE1 hE2 hF1 hF2
        go_wp2_with (first
          | (go_at_call 108; refine (HRW.out _).mono ?_; rintro e' w3 ⟨rfl, B3⟩; replace HB := Lib.hid (HB.out.trans (B3.mono HB.out.size)); replace HX := Lib.hid (HX.out.below B3 HX.out.lt); have cc := dv_host HX.out; have cd := dv_mail HX.out; clear B3)
          | (go_at_call 13; (with_reducible refine (HI1.out _).mono ?_); rintro e' w4 ⟨rfl, B4⟩; replace HB := Lib.hid (HB.out.trans (B4.mono HB.out.size)); replace HX := Lib.hid (HX.out.below B4 HX.out.lt); have cc := dv_host HX.out; have cd := dv_mail HX.out; clear B4)
          | (go_at_call 13; (with_reducible refine (HI2.out _).mono ?_); rintro e' w5 ⟨rfl, B5⟩; replace HB := Lib.hid (HB.out.trans (B5.mono HB.out.size)); replace HX := Lib.hid (HX.out.below B5 HX.out.lt); have cc := dv_host HX.out; have cd := dv_mail HX.out; clear B5))
        go_meet
        exact FIN.out _ _ HX HB rfl
      case true.false =>
        clear hE1 hE2 hF1 hF2
        go_wp2_with (first
          | (go_at_call 108; refine (HRW.out _).mono ?_; rintro e' w3 ⟨rfl, B3⟩; replace HB := Lib.hid (HB.out.trans (B3.mono HB.out.size)); replace HX := Lib.hid (HX.out.below B3 HX.out.lt); have cc := dv_host HX.out; have cd := dv_mail HX.out; clear B3)
          | (go_at_call 13; (with_reducible refine (HI1.out _).mono ?_); rintro e' w4 ⟨rfl, B4⟩; replace HB := Lib.hid (HB.out.trans (B4.mono HB.out.size)); replace HX := Lib.hid (HX.out.below B4 HX.out.lt); have cc := dv_host HX.out; have cd := dv_mail HX.out; clear B4)
          | (go_at_call 13; (with_reducible refine (HI2.out _).mono ?_); rintro e' w5 ⟨rfl, B5⟩; replace HB := Lib.hid (HB.out.trans (B5.mono HB.out.size)); replace HX := Lib.hid (HX.out.below B5 HX.out.lt); have cc := dv_host HX.out; have cd := dv_mail HX.out; clear B5))
        go_meet
        exact FIN.out _ _ HX HB rfl
      case true.true =>
        cases m <;> cases mn
        case false.false =>
          cases me with
          | true =>
            go_wp2_with (first
          | (go_at_call 108; refine (HRW.out _).mono ?_; rintro e' w3 ⟨rfl, B3⟩; replace HB := Lib.hid (HB.out.trans (B3.mono HB.out.size)); replace HX := Lib.hid (HX.out.below B3 HX.out.lt); have cc := dv_host HX.out; have cd := dv_mail HX.out; clear B3)
          | (go_at_call 13; (with_reducible refine (HI1.out _).mono ?_); rintro e' w4 ⟨rfl, B4⟩; replace HB := Lib.hid (HB.out.trans (B4.mono HB.out.size)); replace HX := Lib.hid (HX.out.below B4 HX.out.lt); have cc := dv_host HX.out; have cd := dv_mail HX.out; clear B4)
          | (go_at_call 13; (with_reducible refine (HI2.out _).mono ?_); rintro e' w5 ⟨rfl, B5⟩; replace HB := Lib.hid (HB.out.trans (B5.mono HB.out.size)); replace HX := Lib.hid (HX.out.below B5 HX.out.lt); have cc := dv_host HX.out; have cd := dv_mail HX.out; clear B5))
            go_meet
            exact FIN.out _ _ HX HB (by simp)
          | false =>
            go_wp2_with (first
          | (go_at_call 108; refine (HRW.out _).mono ?_; rintro e' w3 ⟨rfl, B3⟩; replace HB := Lib.hid (HB.out.trans (B3.mono HB.out.size)); replace HX := Lib.hid (HX.out.below B3 HX.out.lt); have cc := dv_host HX.out; have cd := dv_mail HX.out; clear B3)
          | (go_at_call 13; (with_reducible refine (HI1.out _).mono ?_); rintro e' w4 ⟨rfl, B4⟩; replace HB := Lib.hid (HB.out.trans (B4.mono HB.out.size)); replace HX := Lib.hid (HX.out.below B4 HX.out.lt); have cc := dv_host HX.out; have cd := dv_mail HX.out; clear B4)
          | (go_at_call 13; (with_reducible refine (HI2.out _).mono ?_); rintro e' w5 ⟨rfl, B5⟩; replace HB := Lib.hid (HB.out.trans (B5.mono HB.out.size)); replace HX := Lib.hid (HX.out.below B5 HX.out.lt); have cc := dv_host HX.out; have cd := dv_mail HX.out; clear B5))
            go_meet
            exact FIN.out _ _ HX HB (by simp)
        all_goals
          (go_wp2_with (first
          | (go_at_call 108; refine (HRW.out _).mono ?_; rintro e' w3 ⟨rfl, B3⟩; replace HB := Lib.hid (HB.out.trans (B3.mono HB.out.size)); replace HX := Lib.hid (HX.out.below B3 HX.out.lt); have cc := dv_host HX.out; have cd := dv_mail HX.out; clear B3)
          | (go_at_call 13; (with_reducible refine (HI1.out _).mono ?_); rintro e' w4 ⟨rfl, B4⟩; replace HB := Lib.hid (HB.out.trans (B4.mono HB.out.size)); replace HX := Lib.hid (HX.out.below B4 HX.out.lt); have cc := dv_host HX.out; have cd := dv_mail HX.out; clear B4)
          | (go_at_call 13; (with_reducible refine (HI2.out _).mono ?_); rintro e' w5 ⟨rfl, B5⟩; replace HB := Lib.hid (HB.out.trans (B5.mono HB.out.size)); replace HX := Lib.hid (HX.out.below B5 HX.out.lt); have cc := dv_host HX.out; have cd := dv_mail HX.out; clear B5))
           go_meet
           exact FIN.out _ _ HX HB (by simp))
      case false.false =>
        cases he with
        | false =>
          go_wp2_with (first
          | (go_at_call 108; refine (HRW.out _).mono ?_; rintro e' w3 ⟨rfl, B3⟩; replace HB := Lib.hid (HB.out.trans (B3.mono HB.out.size)); replace HX := Lib.hid (HX.out.below B3 HX.out.lt); have cc := dv_host HX.out; have cd := dv_mail HX.out; clear B3)
          | (go_at_call 13; (with_reducible refine (HI1.out _).mono ?_); rintro e' w4 ⟨rfl, B4⟩; replace HB := Lib.hid (HB.out.trans (B4.mono HB.out.size)); replace HX := Lib.hid (HX.out.below B4 HX.out.lt); have cc := dv_host HX.out; have cd := dv_mail HX.out; clear B4)
          | (go_at_call 13; (with_reducible refine (HI2.out _).mono ?_); rintro e' w5 ⟨rfl, B5⟩; replace HB := Lib.hid (HB.out.trans (B5.mono HB.out.size)); replace HX := Lib.hid (HX.out.below B5 HX.out.lt); have cc := dv_host HX.out; have cd := dv_mail HX.out; clear B5))
          go_meet
          exact FIN.out _ _ HX HB (by simp)
        | true =>
          cases m <;> cases mn
          case false.false =>
            cases me with
            | true =>
              go_wp2_with (first
          | (go_at_call 108; refine (HRW.out _).mono ?_; rintro e' w3 ⟨rfl, B3⟩; replace HB := Lib.hid (HB.out.trans (B3.mono HB.out.size)); replace HX := Lib.hid (HX.out.below B3 HX.out.lt); have cc := dv_host HX.out; have cd := dv_mail HX.out; clear B3)
          | (go_at_call 13; (with_reducible refine (HI1.out _).mono ?_); rintro e' w4 ⟨rfl, B4⟩; replace HB := Lib.hid (HB.out.trans (B4.mono HB.out.size)); replace HX := Lib.hid (HX.out.below B4 HX.out.lt); have cc := dv_host HX.out; have cd := dv_mail HX.out; clear B4)
          | (go_at_call 13; (with_reducible refine (HI2.out _).mono ?_); rintro e' w5 ⟨rfl, B5⟩; replace HB := Lib.hid (HB.out.trans (B5.mono HB.out.size)); replace HX := Lib.hid (HX.out.below B5 HX.out.lt); have cc := dv_host HX.out; have cd := dv_mail HX.out; clear B5))
              go_meet
              exact FIN.out _ _ HX HB (by simp)
            | false =>
              go_wp2_with (first
          | (go_at_call 108; refine (HRW.out _).mono ?_; rintro e' w3 ⟨rfl, B3⟩; replace HB := Lib.hid (HB.out.trans (B3.mono HB.out.size)); replace HX := Lib.hid (HX.out.below B3 HX.out.lt); have cc := dv_host HX.out; have cd := dv_mail HX.out; clear B3)
          | (go_at_call 13; (with_reducible refine (HI1.out _).mono ?_); rintro e' w4 ⟨rfl, B4⟩; replace HB := Lib.hid (HB.out.trans (B4.mono HB.out.size)); replace HX := Lib.hid (HX.out.below B4 HX.out.lt); have cc := dv_host HX.out; have cd := dv_mail HX.out; clear B4)
          | (go_at_call 13; (with_reducible refine (HI2.out _).mono ?_); rintro e' w5 ⟨rfl, B5⟩; replace HB := Lib.hid (HB.out.trans (B5.mono HB.out.size)); replace HX := Lib.hid (HX.out.below B5 HX.out.lt); have cc := dv_host HX.out; have cd := dv_mail HX.out; clear B5))
              go_meet
              exact FIN.out _ _ HX HB (by simp)
          all_goals
            (go_wp2_with (first
          | (go_at_call 108; refine (HRW.out _).mono ?_; rintro e' w3 ⟨rfl, B3⟩; replace HB := Lib.hid (HB.out.trans (B3.mono HB.out.size)); replace HX := Lib.hid (HX.out.below B3 HX.out.lt); have cc := dv_host HX.out; have cd := dv_mail HX.out; clear B3)
          | (go_at_call 13; (with_reducible refine (HI1.out _).mono ?_); rintro e' w4 ⟨rfl, B4⟩; replace HB := Lib.hid (HB.out.trans (B4.mono HB.out.size)); replace HX := Lib.hid (HX.out.below B4 HX.out.lt); have cc := dv_host HX.out; have cd := dv_mail HX.out; clear B4)
          | (go_at_call 13; (with_reducible refine (HI2.out _).mono ?_); rintro e' w5 ⟨rfl, B5⟩; replace HB := Lib.hid (HB.out.trans (B5.mono HB.out.size)); replace HX := Lib.hid (HX.out.below B5 HX.out.lt); have cc := dv_host HX.out; have cd := dv_mail HX.out; clear B5))
             go_meet
             exact FIN.out _ _ HX HB (by simp))
  case rest =>
    obtain ⟨rfl, HX1, HB1⟩ := hcut
    clear HX HB hE1 hE2 hF1 hF2 HH HNM HNU HRW HI1 HI2 hval
    rcases hq : Rd.head t d.dt with _ | _
    · have HQ := Lib.hid (Rd.ok_head hq)
      clear hq
      go_wp2
      go_ret
      exact ⟨by rw [← HRES.out, if_neg (by rw [HQ.out]; simp)]; rfl, HB1.out⟩
    · have HHD := Lib.hid hq
      clear hq
      go_wp2
      go_loop [9] (fun i => ∃ k : Nat, i = .int .i64 k ∧ k ≤ 5 ∧ Hid (∀ j, j < k → Rd.numOk t j (d.n j) = true)) (fun i => 5 - (intOf i).toNat)
      case atStart => exact ⟨0, rfl, Nat.zero_le _, fun j hj => absurd hj (by omega)⟩
      case round =>
        obtain ⟨k, rfl, hk, HJ⟩ := hrel
        by_cases hk5 : k < 5
        · have hcell := dv_n HX1.out hk5
          have hxf := HF.out k
          have hI := HIN.out k
          have hO := HOUT.out k
          obtain ⟨x, hx⟩ : ∃ x, d.n k = x := ⟨_, rfl⟩
          rw [hx] at hcell hxf hI hO
          by_cases hkc : k < cn
          · have hQ0 := hI hkc
            by_cases hb16 : bt = 16
            · subst hb16
              by_cases hbig : 65535 < x
              · have HQ : Hid (Rd.numOk t k (d.n k) = false) := by rw [hx]; show _ = _; rw [hQ0]; simp [hbig]
                clear hI hO hQ0
                go_wp2
                go_ret
                exact ⟨by rw [← HRES.out, if_neg (by rw [Rd.ok_num hk5 HQ.out]; simp)]; rfl, HB1.out⟩
              · have HQ : Hid (Rd.numOk t k (d.n k) = true) := by rw [hx]; show _ = _; rw [hQ0]; simp [hbig]
                clear hI hO hQ0
                go_wp2
                go_round
                case rel => exact ⟨k + 1, by go_num, by omega, fun j hj => (Nat.lt_succ_iff_lt_or_eq.1 hj).elim (HJ.out j) (fun e => by subst e; exact HQ.out)⟩
                case measure => simp [intOf]; omega
            · have HQ : Hid (Rd.numOk t k (d.n k) = true) := by rw [hx]; show _ = _; rw [hQ0]; simp [hb16]
              have kb : ((bt : Int) == 16) = false := by simp; omega
              clear hI hO hQ0 hb16
              go_wp2
              go_round
              case rel => exact ⟨k + 1, by go_num, by omega, fun j hj => (Nat.lt_succ_iff_lt_or_eq.1 hj).elim (HJ.out j) (fun e => by subst e; exact HQ.out)⟩
              case measure => simp [intOf]; omega
          · have hQ0 := hO hkc
            by_cases hx0 : x = 0
            · subst hx0
              have HQ : Hid (Rd.numOk t k (d.n k) = true) := by rw [hx]; show _ = _; rw [hQ0]; rfl
              clear hI hO hQ0
              go_wp2
              go_round
              case rel => exact ⟨k + 1, by go_num, by omega, fun j hj => (Nat.lt_succ_iff_lt_or_eq.1 hj).elim (HJ.out j) (fun e => by subst e; exact HQ.out)⟩
              case measure => simp [intOf]; omega
            · have HQ : Hid (Rd.numOk t k (d.n k) = false) := by rw [hx]; show _ = _; rw [hQ0]; simp [hx0]
              have kx : ((x : Int) != 0) = true := by simp; omega
              clear hI hO hQ0 hx0
              go_wp2
              go_ret
              exact ⟨by rw [← HRES.out, if_neg (by rw [Rd.ok_num hk5 HQ.out]; simp)]; rfl, HB1.out⟩
        · obtain rfl : k = 5 := by omega
          have HQ := Lib.hid (Rd.ok_all HHD.out HJ.out)
          go_wp2
          go_ret
          exact ⟨by rw [← HRES.out, if_pos HQ.out]; rfl, HB1.out⟩
end Go.Proofs.YtgcaephfhfkjcaaGreatDoor
