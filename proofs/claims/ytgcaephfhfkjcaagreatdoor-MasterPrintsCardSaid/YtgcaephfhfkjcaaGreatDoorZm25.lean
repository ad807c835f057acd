/- Texts of the proofs, merged. -/
import Derived.Test.YtgcaephfhfkjcaaGreatDoorZm24
import Derived.Deep.RegionWith
import Derived.Deep.CutRange
namespace Go.Proofs.YtgcaephfhfkjcaaGreatDoor
open Go.RowKit

set_option maxHeartbeats 4000000 in
set_option maxRecDepth 100000 in
theorem rdShow_SOA (d : Dv) (X Y : List UInt8) (w : World) (hf : d.fits) (hX : X.length ≤ 100000) (hY : Y.length ≤ 100000) (htx : ∀ W : World, Calls Tryz.prog 27 #[.string d.host] W fun e w' => e = .returned (sv X) ∧ Below W.heap.size W w') (hty : ∀ W : World, Calls Tryz.prog 27 #[.string d.mail] W fun e w' => e = .returned (sv Y) ∧ Below W.heap.size W w') (hck : ∀ W : World, Calls Tryz.prog 74 #[.int .u16 6, d.val] W fun e w' => e = .returned (.int .i64 0) ∧ Below W.heap.size W w') :
    Calls Tryz.prog 47 #[.int .u16 6, d.val] w fun e w' => e = .returned (.tuple #[sv (((((([] ++ [32]) ++ X) ++ [32]) ++ Y) ++ Rd.numw d 5).drop 1), .int .i64 0]) ∧ Below w.heap.size w w' := by
  have HCK := Lib.hid hck
  have HTX := Lib.hid htx
  have HTY := Lib.hid hty
  have HFT := Lib.hid hf
  have HNM : Hid (∀ W : World, Calls Tryz.prog 56 #[.int .u16 6] W fun e w' => e = .returned (.tuple #[.bool true, .bool true]) ∧ W = w') := fun W => rdNames_any 6 W (by omega)
  have HNU : Hid (∀ W : World, Calls Tryz.prog 75 #[.int .u16 6] W fun e w' => e = .returned (.tuple #[.int .i64 5, .int .i64 32]) ∧ W = w') := fun W => rdNumbers_any 6 W (by omega)
  have HX0 : Hid (Has (w.alloc (.cells d.cells 34)) w.heap.size 34 d.cells) := Has.fresh w _ _
  have HB0 : Hid (Below w.heap.size w (w.alloc (.cells d.cells 34))) := (Below.refl _ w).alloc (Nat.le_refl _) _
  obtain ⟨P, hP⟩ : ∃ P, (((([] ++ [32]) ++ X) ++ [32]) ++ Y : List UInt8) = P := ⟨_, rfl⟩
  have hpl : P.length ≤ 200002 := by rw [← hP]; simp; omega
  have hpp : 0 < P.length := by rw [← hP]; simp
  obtain ⟨R, hR⟩ : ∃ R, (P ++ Rd.numw d 5).drop 1 = R := ⟨_, rfl⟩
  rw [hP, hR]
  have HRR := Lib.hid hR
  have HPP := Lib.hid hP
  clear hck hR hP htx hty hf
  unfold Dv.val at HCK ⊢
  unfold Dv.cells at HX0 HB0
  go_enter Tryz.func47, Tryz.ntmps47
  go_upto_region 36 with (first
    | (go_at_call 74; refine (HCK.out _).mono ?_; rintro e' w1 ⟨rfl, B1⟩; have HX1 : Hid (Has w1 w.heap.size 34 d.cells) := HX0.out.below B1 HX0.out.lt; have HB1 := Lib.hid (HB0.out.trans (B1.mono HB0.out.size)); clear B1)
    | (go_at_call 56; refine (HNM.out _).mono ?_; rintro e' w2 ⟨rfl, rfl⟩)
    | (go_at_call 75; refine (HNU.out _).mono ?_; rintro e' w3 ⟨rfl, rfl⟩))
  go_cut [10] from 139 to 149 (fun s wx => s = sv P ∧ Hid (Has wx w.heap.size 34 d.cells) ∧ Hid (Below w.heap.size w wx))
  case first =>
    have HX : Hid (Has w1.drew w.heap.size 34 d.cells) := HX1.out
    have HB : Hid (Below w.heap.size w w1.drew) := HB1.out.drew
    have c1 := dv_host HX.out
    have c2 := dv_mail HX.out
    go_region_with (first
      | (go_at_call_of 27 (Value.string d.host); (with_reducible refine (HTX.out _).mono ?_); rintro e' wA ⟨rfl, BA⟩; replace HB := Lib.hid (HB.out.trans (BA.mono HB.out.size)); replace HX := Lib.hid (HX.out.below BA HX.out.lt); have c1 := dv_host HX.out; have c2 := dv_mail HX.out; clear BA)
      | (go_at_call_of 27 (Value.string d.mail); (with_reducible refine (HTY.out _).mono ?_); rintro e' wB ⟨rfl, BB⟩; replace HB := Lib.hid (HB.out.trans (BB.mono HB.out.size)); replace HX := Lib.hid (HX.out.below BB HX.out.lt); have c1 := dv_host HX.out; have c2 := dv_mail HX.out; clear BB))
    all_goals (go_wp2_with fail; go_meet; exact ⟨sv_eq (by rw [← HPP.out]; simp), HX.out, HB.out⟩)
  case rest =>
    obtain ⟨rfl, HX, HB⟩ := hcut
    clear HX1 HB1 HTX HTY
    go_wp2
    go_loopw [10, 18] (fun s i wr => ∃ (k : Nat) (r : List UInt8), i = .int .i64 k ∧ k ≤ 5 ∧ s = sv r ∧ Hid (r = P ++ Rd.numw d k) ∧ r.length ≤ 200002 + 11 * k ∧ Hid (Has wr w.heap.size 34 d.cells) ∧ Hid (Below w.heap.size w wr)) (fun _ i _ => 5 - (intOf i).toNat)
    case atStart => exact ⟨0, P, rfl, Nat.zero_le _, rfl, by simp [Hid, Rd.numw], by omega, HX.out, HB.out⟩
    case round =>
      obtain ⟨k, r, rfl, hk, rfl, HE, hrl, HX, HB⟩ := hrel
      have hsw := HB.out.size
      by_cases hkc : k < 5
      · have c0 := dv_n HX.out (k := k) (by omega)
        have hnk := HFT.out k
        have HD := Lib.hid (fun W : World => rdDigits_any (d.n k) W (by omega))
        have hdl := Rd.dec_len2 (d.n k) hnk
        have HE2 : Hid ((r ++ [32]) ++ Rd.dec (d.n k) = P ++ Rd.numw d (k + 1)) := by
          show _ = _
          rw [Rd.numw_succ, HE.out]
          simp
        obtain ⟨x, hx⟩ : ∃ x, Rd.dec (d.n k) = x := ⟨_, rfl⟩
        obtain ⟨y, hy⟩ : ∃ y, d.n k = y := ⟨_, rfl⟩
        rw [hx] at HD HE2 hdl
        rw [hy] at HD c0 hnk
        clear hx hy
        go_wp2_with (go_at_call 76; refine (HD.out _).mono ?_; rintro e' w5 ⟨rfl, B5⟩; have HX5 := Lib.hid (HX.out.below B5 HX.out.lt); have HB5 := Lib.hid (HB.out.trans (B5.mono hsw)); clear B5)
        go_roundw
        case rel => exact ⟨k + 1, (r ++ [32]) ++ x, by go_num, by omega, sv_eq (by simp), HE2.out, by simp; omega, HX5.out, HB5.out⟩
        case measure => simp [intOf]; omega
      · obtain rfl : k = 5 := by omega
        have hpos : 0 < r.length := by rw [HE.out]; simp; omega
        have HF : Hid (R = r.drop 1) := by rw [← HRR.out]; show _ = _; rw [HE.out]
        go_wp2
        go_ret2
        exact ⟨by rw [HF.out, ← sv_eq (ext_tail r)]; rfl, HB.out⟩
end Go.Proofs.YtgcaephfhfkjcaaGreatDoor
