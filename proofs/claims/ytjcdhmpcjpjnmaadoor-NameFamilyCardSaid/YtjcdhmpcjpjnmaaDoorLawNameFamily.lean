/- NameFamily: whatever is handed in, the call returns true, and the arguments read behind it as before. -/
import Derived.Test.YtjcdhmpcjpjnmaaDoorFrame
import Derived.Test.YtjcdhmpcjpjnmaaDoorFamPure
namespace Go.Proofs.YtjcdhmpcjpjnmaaDoor
open Go.RowKit

theorem at_of {f : FuncId} {args : Array Value} {w : World} {r r' : Value} (h : Calls Tryd.prog f args w fun e w' => e = .returned r ∧ Below w.heap.size w w') (hr : r = r') : Calls Tryd.prog f args w fun e w' => e = .returned r' ∧ Below w.heap.size w w' := hr ▸ h
theorem data_mk (l : List UInt8) : (⟨l.toArray⟩ : ByteArray).data.toList = l := rfl
theorem labels_yes {l : List UInt8} {x : List (List UInt8)} (h : Nm.split l = some x) : labelsOf l = x := by unfold labelsOf; rw [h]; rfl
theorem parent_of {l a : List UInt8} {r : List (List UInt8)} (h : Nm.split l = some (a :: r)) : parentR l = .tuple #[sv (Nm.glue r), .bool true] := by unfold parentR; rw [labels_yes h]
theorem parent_root {l : List UInt8} (h : Nm.split l = some []) : parentR l = .tuple #[.string ⟨#[]⟩, .bool false] := by unfold parentR; rw [labels_yes h]
theorem glue_le {l : List UInt8} {x : List (List UInt8)} (h : Nm.split l = some x) (k : Nat) : (Nm.glue (x.drop k)).length ≤ 255 := (Nm.split_some.1 (Nm.split_drop h k)).2.2

set_option maxHeartbeats 4000000 in
set_option maxRecDepth 100000 in
theorem walk_NameFamily (a : ByteArray) (ha : a.size ≤ 140737488351232) (b : ByteArray) (hb : b.size ≤ 140737488351232) (w : World) (hL : Lay w) :
    Calls Tryd.prog 12 #[.string a, .string b] w fun e w' => e = .returned (.bool true) ∧ Below w.heap.size w w' := by
  have h3 := hL.size
  have HW := Lib.hid (fun (w1 : World) (hb : Below w.heap.size w w1) => wakes_any w1 (hL.below hb h3))
  have HU := Lib.hid (fun w => Under_any a b w (by omega) (by omega))
  have B0 := Lib.hid (Below.refl w.heap.size w)
  clear hL
  rcases hsa : Nm.split a.data.toList with _ | x
  · have Kα := Lib.hid (fun w => Check_no a w (by omega) hsa)
    have hu : Nm.underB a.data.toList b.data.toList = false := by unfold Nm.underB; rw [hsa]
    rw [hu] at HU
    clear hsa hu
    go_enter Tryd.func12, Tryd.ntmps12
    go_wp2_with (first
      | (go_at_call 14; (with_reducible refine (Kα.out _).mono ?_); rintro e w1 ⟨rfl, hb1⟩; have B1 := Lib.hid (B0.out.trans (hb1.mono B0.out.size)); clear hb1)
      | (go_at_call 27; (with_reducible refine (HU.out _).mono ?_); rintro e w2 ⟨rfl, hb2⟩; have B2 := Lib.hid (B1.out.trans (hb2.mono B1.out.size)); clear hb2)
      | (go_at_call 19; (with_reducible refine (HW.out _ B2.out).mono ?_); rintro e w3 ⟨rfl, hb3⟩; have B3 := Lib.hid (B2.out.trans (hb3.mono B2.out.size)); clear hb3))
    go_ret
    exact ⟨rfl, B3.out⟩
  · have Kα := Lib.hid (fun w => Check_yes a x w (by omega) hsa)
    rcases hsb : Nm.split b.data.toList with _ | y
    · have Kβ := Lib.hid (fun w => Check_no b w (by omega) hsb)
      have hu : Nm.underB a.data.toList b.data.toList = false := by unfold Nm.underB; rw [hsa, hsb]
      rw [hu] at HU
      clear hsa hsb hu
      go_enter Tryd.func12, Tryd.ntmps12
      go_wp2_with (first
        | (go_at_call 14; (with_reducible refine (Kα.out _).mono ?_); rintro e w1 ⟨rfl, hb1⟩; have B1 := Lib.hid (B0.out.trans (hb1.mono B0.out.size)); clear hb1)
        | (go_at_call 14; (with_reducible refine (Kβ.out _).mono ?_); rintro e w2 ⟨rfl, hb2⟩; have B2 := Lib.hid (B1.out.trans (hb2.mono B1.out.size)); clear hb2)
        | (go_at_call 27; (with_reducible refine (HU.out _).mono ?_); rintro e w3 ⟨rfl, hb3⟩; have B3 := Lib.hid (B2.out.trans (hb3.mono B2.out.size)); clear hb3)
        | (go_at_call 19; (with_reducible refine (HW.out _ B3.out).mono ?_); rintro e w4 ⟨rfl, hb4⟩; have B4 := Lib.hid (B3.out.trans (hb4.mono B3.out.size)); clear hb4))
      go_ret
      exact ⟨rfl, B4.out⟩
    · have Kβ := Lib.hid (fun w => Check_yes b y w (by omega) hsb)
      have Cα := Lib.hid (fun w => at_of (Count_any a w (by omega)) (by rw [labels_yes hsa]))
      have Cβ := Lib.hid (fun w => at_of (Count_any b w (by omega)) (by rw [labels_yes hsb]))
      have Fβ := Lib.hid (fun w => Fold_any b w (by omega))
      have HF := Lib.hid (Nm.fam_all hsa hsb)
      have HR := Lib.hid (fun (k : Nat) (hk : k ≤ x.length) => Nm.last_of hsa hk)
      have HLk := Lib.hid (fun (k : Nat) (hk : k ≤ x.length) (w : World) => at_of (Last_any a k w (by omega)) (HR.out k hk))
      have HCk := Lib.hid (fun (k : Nat) (hk : k ≤ x.length) (w : World) => at_of (Count_any ⟨(Nm.glue (x.drop (x.length - k))).toArray⟩ w (by rw [mk_size]; have := glue_le hsa (x.length - k); omega)) (by rw [data_mk, Nm.labels_drop hsa hk]))
      have HUk := Lib.hid (fun (k : Nat) (hk : k ≤ x.length) (w : World) => at_of (Under_any a ⟨(Nm.glue (x.drop (x.length - k))).toArray⟩ w (by omega) (by rw [mk_size]; have := glue_le hsa (x.length - k); omega)) (by rw [data_mk, Nm.under_drop hsa hk]))
      have HFk := Lib.hid (fun (k : Nat) (w : World) => Fold_any ⟨(Nm.glue (x.drop (x.length - k))).toArray⟩ w (by rw [mk_size]; have := glue_le hsa (x.length - k); omega))
      have hx127 := few hsa
      have hy127 := few hsb
      -- the joined name
      obtain ⟨j, ej, HJ, HJU, HJC⟩ : ∃ (j : List UInt8) (ej : Int), Hid (∀ w, Calls Tryd.prog 29 #[.string a, .string b] w fun e w' => e = .returned (.tuple #[sv j, .int .i64 ej]) ∧ Below w.heap.size w w') ∧
          Hid (ej = 0 → ∀ w, Calls Tryd.prog 27 #[sv j, .string b] w fun e w' => e = .returned (.bool true) ∧ Below w.heap.size w w') ∧
          Hid (ej = 0 → ∀ w, Calls Tryd.prog 18 #[sv j] w fun e w' => e = .returned (.int .i64 ((x.length : Int) + y.length)) ∧ Below w.heap.size w w') := by
        obtain ⟨_, gx, _⟩ := Nm.split_some.1 hsa
        obtain ⟨_, gy, _⟩ := Nm.split_some.1 hsb
        by_cases hl : (Nm.glue (x ++ y)).length ≤ 255
        · have hl2 := hl
          rw [Nm.glue_length] at hl2
          refine ⟨Nm.glue (x ++ y), 0, fun w => at_of (Join_any a b w (by omega) (by omega)) ?_, fun _ w => at_of (Under_any ⟨(Nm.glue (x ++ y)).toArray⟩ b w (by rw [mk_size]; omega) (by omega)) ?_, fun _ w => at_of (Count_any ⟨(Nm.glue (x ++ y)).toArray⟩ w (by rw [mk_size]; omega)) ?_⟩
          · unfold joinR; rw [hsa, hsb]; simp only []; rw [nameR_eq]; unfold Nm.glueR; rw [if_neg (by omega)]; rfl
          · rw [data_mk, Nm.under_join hsb gx hl]
          · rw [data_mk, Nm.labels_join gx gy hl]; simp
        · have hl2 := hl
          rw [Nm.glue_length] at hl2
          refine ⟨[], 2, fun w => at_of (Join_any a b w (by omega) (by omega)) ?_, fun h => absurd h (by decide), fun h => absurd h (by decide)⟩
          unfold joinR; rw [hsa, hsb]; simp only []; rw [nameR_eq]; unfold Nm.glueR; rw [if_pos (by omega)]; rfl
      -- the parent
      obtain ⟨p, hp, HP, HPC, HPU, hpx⟩ : ∃ (p : List UInt8) (hp : Bool), Hid (∀ w, Calls Tryd.prog 23 #[.string a] w fun e w' => e = .returned (.tuple #[sv p, .bool hp]) ∧ Below w.heap.size w w') ∧
          Hid (hp = true → ∀ w, Calls Tryd.prog 18 #[sv p] w fun e w' => e = .returned (.int .i64 ((x.length : Int) - 1)) ∧ Below w.heap.size w w') ∧
          Hid (hp = true → ∀ w, Calls Tryd.prog 27 #[.string a, sv p] w fun e w' => e = .returned (.bool true) ∧ Below w.heap.size w w') ∧ (hp = decide (0 < x.length)) := by
        rcases x with _ | ⟨z, r⟩
        · exact ⟨[], false, fun w => at_of (Parent_any a w (by omega)) (parent_root hsa), fun h => by simp at h, fun h => by simp at h, by simp⟩
        · have e1 : Nm.glue r = Nm.glue ((z :: r).drop ((z :: r).length - r.length)) := by simp
          have hg := glue_le hsa ((z :: r).length - r.length)
          refine ⟨Nm.glue r, true, fun w => at_of (Parent_any a w (by omega)) (parent_of hsa), fun _ w => at_of (Count_any ⟨(Nm.glue r).toArray⟩ w (by rw [mk_size, e1]; omega)) ?_, fun _ w => at_of (Under_any a ⟨(Nm.glue r).toArray⟩ w (by omega) (by rw [mk_size, e1]; omega)) ?_, by simp⟩
          · rw [data_mk, e1, Nm.labels_drop hsa (by simp)]; simp
          · rw [data_mk, e1, Nm.under_drop hsa (by simp)]
      clear hsa hsb HR
      have FS := Lib.hid (Nm.fam_succ x (Nm.fold b.data.toList))
      have FZ := Lib.hid (Nm.fam_zero x (Nm.fold b.data.toList))
      generalize Nm.fold b.data.toList = fb at *
      generalize Nm.fam x fb = fm at *
      generalize x.length = n at *
      generalize y.length = m at *
      generalize Nm.underB a.data.toList b.data.toList = u at *
      cases u
      all_goals
        go_enter Tryd.func12, Tryd.ntmps12
        go_wp2_with (first
          | (go_at_call 14; (with_reducible refine (Kα.out _).mono ?_); rintro e w1 ⟨rfl, hb1⟩; have B1 := Lib.hid (B0.out.trans (hb1.mono B0.out.size)); clear hb1)
          | (go_at_call 14; (with_reducible refine (Kβ.out _).mono ?_); rintro e w2 ⟨rfl, hb2⟩; have B2 := Lib.hid (B1.out.trans (hb2.mono B1.out.size)); clear hb2))
        have hs2 := B2.out.size
        go_loopw [5, 6] (fun v i wr => ∃ k : Nat, i = .int .i64 k ∧ k ≤ n + 1 ∧ v = .bool (fm k) ∧ Below w2.heap.size w2 wr) (fun _ i _ => n + 1 - (intOf i).toNat)
        case atStart => exact ⟨0, rfl, Nat.zero_le _, by rw [FZ.out], Below.refl _ _⟩
        case round =>
          obtain ⟨k, rfl, hk, rfl, hbw⟩ := hrel
          have R0 := Lib.hid hbw
          have hbs := hbw.size
          clear hbw
          by_cases hlt : k ≤ n
          · have L1 := Lib.hid (HLk.out k hlt)
            have L2 := Lib.hid (HCk.out k hlt)
            have L3 := Lib.hid (HUk.out k hlt)
            have L4 := Lib.hid (HFk.out k)
            have HS := Lib.hid (FS.out k)
            generalize Nm.glue (x.drop (n - k)) = l at *
            generalize Nm.fold l = fl at *
            have hki : decide ((k : Int) ≤ (n : Int)) = true := decide_eq_true (by omega)
            rcases hv : fm k with _ | _
            · rcases hc : (fl == fb) with _ | _
              all_goals
                have HS2 : Hid (fm (k + 1) = (fl == fb)) := by show _ = _; rw [HS.out, hv]; rfl
                rw [hc] at HS2
                clear hv
                go_wp2_with (first
                  | (go_at_call 18; (with_reducible refine (Cα.out _).mono ?_); rintro e w3 ⟨rfl, hb3⟩; have R3 := Lib.hid (R0.out.trans (hb3.mono R0.out.size)); clear hb3)
                  | (go_at_call 25; (with_reducible refine (L1.out _).mono ?_); rintro e w4 ⟨rfl, hb4⟩; have R4 := Lib.hid (R3.out.trans (hb4.mono R3.out.size)); clear hb4)
                  | (go_at_call 18; (with_reducible refine (L2.out _).mono ?_); rintro e w5 ⟨rfl, hb5⟩; have R5 := Lib.hid (R4.out.trans (hb5.mono R4.out.size)); clear hb5)
                  | (go_at_call 27; (with_reducible refine (L3.out _).mono ?_); rintro e w6 ⟨rfl, hb6⟩; have R6 := Lib.hid (R5.out.trans (hb6.mono R5.out.size)); clear hb6)
                  | (go_at_call 15; (with_reducible refine (L4.out _).mono ?_); rintro e w7 ⟨rfl, hb7⟩; have R7 := Lib.hid (R6.out.trans (hb7.mono R6.out.size)); clear hb7)
                  | (go_at_call 15; (with_reducible refine (Fβ.out _).mono ?_); rintro e w8 ⟨rfl, hb8⟩; have R8 := Lib.hid (R7.out.trans (hb8.mono R7.out.size)); clear hb8))
                go_roundw
                case rel => exact ⟨k + 1, by go_num, by omega, by rw [HS2.out], R8.out⟩
                case measure => simp [intOf]; omega
            · have HS2 : Hid (fm (k + 1) = true) := by show _ = _; rw [HS.out, hv]; rfl
              clear hv
              go_wp2_with (first
                | (go_at_call 18; (with_reducible refine (Cα.out _).mono ?_); rintro e w3 ⟨rfl, hb3⟩; have R3 := Lib.hid (R0.out.trans (hb3.mono R0.out.size)); clear hb3)
                | (go_at_call 25; (with_reducible refine (L1.out _).mono ?_); rintro e w4 ⟨rfl, hb4⟩; have R4 := Lib.hid (R3.out.trans (hb4.mono R3.out.size)); clear hb4)
                | (go_at_call 18; (with_reducible refine (L2.out _).mono ?_); rintro e w5 ⟨rfl, hb5⟩; have R5 := Lib.hid (R4.out.trans (hb5.mono R4.out.size)); clear hb5)
                | (go_at_call 27; (with_reducible refine (L3.out _).mono ?_); rintro e w6 ⟨rfl, hb6⟩; have R6 := Lib.hid (R5.out.trans (hb6.mono R5.out.size)); clear hb6))
              go_roundw
              case rel => exact ⟨k + 1, by go_num, by omega, by rw [HS2.out], R6.out⟩
              case measure => simp [intOf]; omega
          · obtain rfl : k = n + 1 := by omega
            have hfu := HF.out
            clear HF
            rw [hfu] at *
            have T0 := Lib.hid (B2.out.trans (R0.out.mono hs2))
            have hki : decide (((n + 1 : Nat) : Int) ≤ (n : Int)) = false := decide_eq_false (by omega)
            have huu : (0 : Nat) = 0 := rfl
            have hxy : ((n : Int) + (m : Int) != (n : Int) + (m : Int)) = false := by simp
            have hx1 : ((n : Int) - 1 == (n : Int) - 1) = true := by simp
            by_cases he : ej = 0
            · subst he
              have J2 := Lib.hid (HJU.out rfl)
              have J3 := Lib.hid (HJC.out rfl)
              clear HJU HJC
              cases hp
              · have hx0 : decide (0 < (n : Int)) = false := by rw [decide_eq_false_iff_not]; have := of_decide_eq_false hpx.symm; omega
                have HN0 := Lib.hid (show ¬ 0 < n from of_decide_eq_false hpx.symm)
                clear hpx HPC HPU
                go_wp2_with (first
                  | (go_at_call 18; (with_reducible refine (Cα.out _).mono ?_); rintro e w3 ⟨rfl, hb3⟩; have B3 := Lib.hid (T0.out.trans (hb3.mono T0.out.size)); clear hb3)
                  | (go_at_call 27; (with_reducible refine (HU.out _).mono ?_); rintro e w4 ⟨rfl, hb4⟩; have B4 := Lib.hid (B3.out.trans (hb4.mono B3.out.size)); clear hb4)
                  | (go_at_call 29; (with_reducible refine (HJ.out _).mono ?_); rintro e w5 ⟨rfl, hb5⟩; have B5 := Lib.hid (B4.out.trans (hb5.mono B4.out.size)); clear hb5)
                  | (go_at_call 27; (with_reducible refine (J2.out _).mono ?_); rintro e w6 ⟨rfl, hb6⟩; have B6 := Lib.hid (B5.out.trans (hb6.mono B5.out.size)); clear hb6)
                  | (go_at_call 18; (with_reducible refine (J3.out _).mono ?_); rintro e w7 ⟨rfl, hb7⟩; have B7 := Lib.hid (B6.out.trans (hb7.mono B6.out.size)); clear hb7)
                  | (go_at_call 18; (with_reducible refine (Cα.out _).mono ?_); rintro e w8 ⟨rfl, hb8⟩; have B8 := Lib.hid (B7.out.trans (hb8.mono B7.out.size)); clear hb8)
                  | (go_at_call 18; (with_reducible refine (Cβ.out _).mono ?_); rintro e w9 ⟨rfl, hb9⟩; have B9 := Lib.hid (B8.out.trans (hb9.mono B8.out.size)); clear hb9)
                  | (go_at_call 23; (with_reducible refine (HP.out _).mono ?_); rintro e w10 ⟨rfl, hb10⟩; have B10 := Lib.hid (B9.out.trans (hb10.mono B9.out.size)); clear hb10)
                  | (go_at_call 18; (with_reducible refine (Cα.out _).mono ?_); rintro e w11 ⟨rfl, hb11⟩; have B11 := Lib.hid (B10.out.trans (hb11.mono B10.out.size)); clear hb11)
                  | (go_at_call 19; (with_reducible refine (HW.out _ B11.out).mono ?_); rintro e w12 ⟨rfl, hb12⟩; have B12 := Lib.hid (B11.out.trans (hb12.mono B11.out.size)); clear hb12))
                go_ret
                · exact ⟨rfl, B12.out⟩
                all_goals (exfalso; have := HN0.out; omega)
              · have hx0 : decide (0 < (n : Int)) = true := by rw [decide_eq_true_iff]; have := of_decide_eq_true hpx.symm; omega
                have HN0 := Lib.hid (show 0 < n from of_decide_eq_true hpx.symm)
                clear hpx
                have P2 := Lib.hid (HPC.out rfl)
                have P3 := Lib.hid (HPU.out rfl)
                clear HPC HPU
                go_wp2_with (first
                  | (go_at_call 18; (with_reducible refine (Cα.out _).mono ?_); rintro e w3 ⟨rfl, hb3⟩; have B3 := Lib.hid (T0.out.trans (hb3.mono T0.out.size)); clear hb3)
                  | (go_at_call 27; (with_reducible refine (HU.out _).mono ?_); rintro e w4 ⟨rfl, hb4⟩; have B4 := Lib.hid (B3.out.trans (hb4.mono B3.out.size)); clear hb4)
                  | (go_at_call 29; (with_reducible refine (HJ.out _).mono ?_); rintro e w5 ⟨rfl, hb5⟩; have B5 := Lib.hid (B4.out.trans (hb5.mono B4.out.size)); clear hb5)
                  | (go_at_call 27; (with_reducible refine (J2.out _).mono ?_); rintro e w6 ⟨rfl, hb6⟩; have B6 := Lib.hid (B5.out.trans (hb6.mono B5.out.size)); clear hb6)
                  | (go_at_call 18; (with_reducible refine (J3.out _).mono ?_); rintro e w7 ⟨rfl, hb7⟩; have B7 := Lib.hid (B6.out.trans (hb7.mono B6.out.size)); clear hb7)
                  | (go_at_call 18; (with_reducible refine (Cα.out _).mono ?_); rintro e w8 ⟨rfl, hb8⟩; have B8 := Lib.hid (B7.out.trans (hb8.mono B7.out.size)); clear hb8)
                  | (go_at_call 18; (with_reducible refine (Cβ.out _).mono ?_); rintro e w9 ⟨rfl, hb9⟩; have B9 := Lib.hid (B8.out.trans (hb9.mono B8.out.size)); clear hb9)
                  | (go_at_call 23; (with_reducible refine (HP.out _).mono ?_); rintro e w10 ⟨rfl, hb10⟩; have B10 := Lib.hid (B9.out.trans (hb10.mono B9.out.size)); clear hb10)
                  | (go_at_call 18; (with_reducible refine (Cα.out _).mono ?_); rintro e w11 ⟨rfl, hb11⟩; have B11 := Lib.hid (B10.out.trans (hb11.mono B10.out.size)); clear hb11)
                  | (go_at_call 18; (with_reducible refine (P2.out _).mono ?_); rintro e w12 ⟨rfl, hb12⟩; have B12 := Lib.hid (B11.out.trans (hb12.mono B11.out.size)); clear hb12)
                  | (go_at_call 18; (with_reducible refine (Cα.out _).mono ?_); rintro e w13 ⟨rfl, hb13⟩; have B13 := Lib.hid (B12.out.trans (hb13.mono B12.out.size)); clear hb13)
                  | (go_at_call 27; (with_reducible refine (P3.out _).mono ?_); rintro e w14 ⟨rfl, hb14⟩; have B14 := Lib.hid (B13.out.trans (hb14.mono B13.out.size)); clear hb14)
                  | (go_at_call 19; (with_reducible refine (HW.out _ B14.out).mono ?_); rintro e w15 ⟨rfl, hb15⟩; have B15 := Lib.hid (B14.out.trans (hb15.mono B14.out.size)); clear hb15))
                go_ret
                · exact ⟨rfl, B15.out⟩
                all_goals (exfalso; have := HN0.out; omega)
            · have he2 : (ej == 0) = false := beq_eq_false_iff_ne.2 he
              clear HJU HJC
              cases hp
              · have hx0 : decide (0 < (n : Int)) = false := by rw [decide_eq_false_iff_not]; have := of_decide_eq_false hpx.symm; omega
                have HN0 := Lib.hid (show ¬ 0 < n from of_decide_eq_false hpx.symm)
                clear hpx HPC HPU
                go_wp2_with (first
                  | (go_at_call 18; (with_reducible refine (Cα.out _).mono ?_); rintro e w3 ⟨rfl, hb3⟩; have B3 := Lib.hid (T0.out.trans (hb3.mono T0.out.size)); clear hb3)
                  | (go_at_call 27; (with_reducible refine (HU.out _).mono ?_); rintro e w4 ⟨rfl, hb4⟩; have B4 := Lib.hid (B3.out.trans (hb4.mono B3.out.size)); clear hb4)
                  | (go_at_call 29; (with_reducible refine (HJ.out _).mono ?_); rintro e w5 ⟨rfl, hb5⟩; have B5 := Lib.hid (B4.out.trans (hb5.mono B4.out.size)); clear hb5)
                  | (go_at_call 23; (with_reducible refine (HP.out _).mono ?_); rintro e w6 ⟨rfl, hb6⟩; have B6 := Lib.hid (B5.out.trans (hb6.mono B5.out.size)); clear hb6)
                  | (go_at_call 18; (with_reducible refine (Cα.out _).mono ?_); rintro e w7 ⟨rfl, hb7⟩; have B7 := Lib.hid (B6.out.trans (hb7.mono B6.out.size)); clear hb7)
                  | (go_at_call 19; (with_reducible refine (HW.out _ B7.out).mono ?_); rintro e w8 ⟨rfl, hb8⟩; have B8 := Lib.hid (B7.out.trans (hb8.mono B7.out.size)); clear hb8))
                go_ret
                · exact ⟨rfl, B8.out⟩
                all_goals (exfalso; have := HN0.out; omega)
              · have hx0 : decide (0 < (n : Int)) = true := by rw [decide_eq_true_iff]; have := of_decide_eq_true hpx.symm; omega
                have HN0 := Lib.hid (show 0 < n from of_decide_eq_true hpx.symm)
                clear hpx
                have P2 := Lib.hid (HPC.out rfl)
                have P3 := Lib.hid (HPU.out rfl)
                clear HPC HPU
                go_wp2_with (first
                  | (go_at_call 18; (with_reducible refine (Cα.out _).mono ?_); rintro e w3 ⟨rfl, hb3⟩; have B3 := Lib.hid (T0.out.trans (hb3.mono T0.out.size)); clear hb3)
                  | (go_at_call 27; (with_reducible refine (HU.out _).mono ?_); rintro e w4 ⟨rfl, hb4⟩; have B4 := Lib.hid (B3.out.trans (hb4.mono B3.out.size)); clear hb4)
                  | (go_at_call 29; (with_reducible refine (HJ.out _).mono ?_); rintro e w5 ⟨rfl, hb5⟩; have B5 := Lib.hid (B4.out.trans (hb5.mono B4.out.size)); clear hb5)
                  | (go_at_call 23; (with_reducible refine (HP.out _).mono ?_); rintro e w6 ⟨rfl, hb6⟩; have B6 := Lib.hid (B5.out.trans (hb6.mono B5.out.size)); clear hb6)
                  | (go_at_call 18; (with_reducible refine (Cα.out _).mono ?_); rintro e w7 ⟨rfl, hb7⟩; have B7 := Lib.hid (B6.out.trans (hb7.mono B6.out.size)); clear hb7)
                  | (go_at_call 18; (with_reducible refine (P2.out _).mono ?_); rintro e w8 ⟨rfl, hb8⟩; have B8 := Lib.hid (B7.out.trans (hb8.mono B7.out.size)); clear hb8)
                  | (go_at_call 18; (with_reducible refine (Cα.out _).mono ?_); rintro e w9 ⟨rfl, hb9⟩; have B9 := Lib.hid (B8.out.trans (hb9.mono B8.out.size)); clear hb9)
                  | (go_at_call 27; (with_reducible refine (P3.out _).mono ?_); rintro e w10 ⟨rfl, hb10⟩; have B10 := Lib.hid (B9.out.trans (hb10.mono B9.out.size)); clear hb10)
                  | (go_at_call 19; (with_reducible refine (HW.out _ B10.out).mono ?_); rintro e w11 ⟨rfl, hb11⟩; have B11 := Lib.hid (B10.out.trans (hb11.mono B10.out.size)); clear hb11))
                go_ret
                · exact ⟨rfl, B11.out⟩
                all_goals (exfalso; have := HN0.out; omega)

namespace nameFamily
open Go.ChangeShapes Go.WideShapes Go.ChangeAt
open Go.ChangeMaps (open_string shut_string)
set_option maxRecDepth 100000 in
theorem contract (H : Type) (enc : TypeId × Value → H) (W : World) (base : Nat) (args : Array Value) (ds gs : List (DataW H)) (before : List MemPlace)
    (hval : ∀ (j : Nat) t v, Tryd.f12.params[j]? = some t → args[j]? = some v → Value.okWide Tryd.prog W .any base t v)
    (hW : DataW.Whole enc Tryd.prog Tryd.f12.params.toList Rows.nameFamilySpec.vars false W args.toList ds gs before)
    (hR : (DataW.weightsEach Tryd.prog (Tryd.f12.params.toList ++ (OpenSpec.ofChange Rows.nameFamilySpec).bare.plain.varTypes Tryd.prog) (ds ++ gs)).all (· ≤ reachBytes) = true)
    (hL : laidMetH Tryd.prog Rows.nameFamilyRow.laid W) :
    Calls Tryd.prog 12 args W fun e W' => ∃ v, e = .returned v ∧ Rows.nameFamilySpec.post enc Tryd.prog Tryd.f12 false true false false W args v W' := by
  have hW' := hW
  obtain ⟨p, q, hA0, hV, rfl, hfz, hnd⟩ := hW
  have hA : DataW.TrodAll enc Tryd.prog W 0 (fun _ => true) true Tryd.f12.params.toList args.toList ds p := hA0
  rw [Tryd.params12] at hA hval hR
  obtain ⟨v0, vs0, d0, ds0, p0, q0, hargs0, rfl, rfl, h0, r0⟩ := trodAll_cons hA
  obtain ⟨v1, vs1, d1, ds1, p1, q1, hargs1, rfl, rfl, h1, r1⟩ := trodAll_cons r0
  obtain ⟨rfl, rfl, rfl⟩ := trodAll_nil r1
  obtain rfl : args = #[v0, v1] := by cases args; simp_all
  obtain ⟨rfl, rfl⟩ := trodVars_none hV
  obtain ⟨a, rfl, rfl, rfl, z0⟩ := open_string Tryd.underlying22 (hval 0 22 v0 rfl rfl) h0
  obtain ⟨b, rfl, rfl, rfl, z1⟩ := open_string Tryd.underlying22 (hval 1 22 v1 rfl rfl) h1
  clear hA0
  simp only [List.append_nil] at hW'
  obtain ⟨s0', hR0⟩ := reach_string hR
  obtain ⟨s1', hR1⟩ := reach_string hR0
  refine (walk_NameFamily a (by simpa using s0') b (by simpa using s1') W (laid_lay hL)).mono fun e W' ⟨he, hb⟩ => ?_
  subst he
  exact ⟨_, rfl, post_low hW' rfl hb (fun _ _ _ => trodAll_cons_mk (shut_bool Tryd.underlying4 _) trodAll_mk0) (fun _ _ => (trodAll_cons_mk (shut_string Tryd.underlying22 z0) (trodAll_cons_mk (shut_string Tryd.underlying22 z1) trodAll_mk0))) (fun _ _ => rfl) (ok_one (by kernel_rfl) rfl (okWide_bool_mk Tryd.underlying4 _))⟩

noncomputable def wargs : Array Value := #[.string ByteArray.empty, .string ByteArray.empty]
theorem reads (os : Os) {H : Type} (enc : TypeId × Value → H) : ∃ places, DataW.whole enc Tryd.prog ((lw os).forCall (fun _ _ => 0) ⟨#[], wargs, []⟩).memory Tryd.f12.params.toList Rows.nameFamilySpec.vars false wargs.toList 8 = some ([.lit (.string []), .lit (.string [])], [], places) :=
  ⟨[], by kernel_rfl⟩
set_option maxRecDepth 100000 in
theorem lifted (os : Os) (started : os.Started) (H : Type) (enc : TypeId × Value → H) (G : Stop.Interp) :
    ReturnsInHanded {} Tryd.checked os 12 .any ((OpenSpec.ofChange Rows.nameFamilySpec).preRow enc Tryd.prog Tryd.f12 Rows.nameFamilyRow.domain false Rows.nameFamilyRow.laid) (((OpenSpec.ofChange Rows.nameFamilySpec).at G).post enc Tryd.prog Tryd.f12 false true false false) := by
  obtain ⟨places, hx⟩ := reads os enc
  refine returnsInHanded_of_row (C := Tryd.checked) (s := OpenSpec.ofChange Rows.nameFamilySpec) own started (by kernel_rfl) Tryd.func12
    (witness_row_atRef (enc := enc) (C := Tryd.checked) false (lw os) wargs rfl (by kernel_rfl) (by kernel_rfl) (by kernel_rfl)
      (OpenSpec.preRow_of_cond 8 hx (by kernel_rfl) (fun k hk => by cases hk) (by kernel_rfl) (door_met os _))) ?_
  intro W base args ds gs before hval hW _ _ hR hL _ _
  exact contract H enc W base args ds gs before hval hW hR hL
theorem said : Rows.NameFamilySaid :=
  OpenClaim.holds_of_cond 12 Tryd.f12 rfl rfl rfl rfl rfl rfl rfl ⟨rfl, rfl, rfl, rfl, rfl⟩ rfl rfl rfl rfl rfl (by kernel_rfl) Tryd.func12 (by kernel_rfl)
    (of_decide_eq_true (by kernel_rfl)) (by unfold Func.isWrapper; first | (rw [if_pos (by decide +kernel)]; kernel_rfl) | (rw [if_neg (by decide +kernel)]; exact ⟨rfl, rfl⟩))
    (fun os started H enc _ G => by rw [OpenClaim.pre_eq_preRow]; exact lifted os started H enc G)
theorem plain (f : FuncId) (fn : Func) (hf : Tryd.pinned.checked.prog.funcNamed "hearsay/hearsaylaw01.NameFamily" = some f) (hfn : Tryd.pinned.checked.prog.funcs[f]? = some fn) :
    Tryd.pinned.checked.prog.looks [] = true ∧ ∀ (j : Nat) t, fn.params[j]? = some t → Tryd.pinned.checked.prog.wantsStandIn t = false := by
  obtain rfl : f = 12 := Option.some.inj ((show Tryd.prog.funcNamed "hearsay/hearsaylaw01.NameFamily" = some 12 by kernel_rfl).symm.trans hf) |>.symm
  obtain rfl : fn = Tryd.f12 := (Option.some.inj (Tryd.func12.symm.trans hfn)).symm
  refine ⟨by kernel_rfl, fun j t ht => ?_⟩
  rw [Tryd.params12] at ht
  have hm : t ∈ [22] := by simpa using Array.mem_of_getElem? ht
  have hall : ([22].all fun u => !Tryd.prog.wantsStandIn u) = true := by kernel_rfl
  exact (show Tryd.prog.wantsStandIn t = false by simpa using List.all_eq_true.1 hall t hm)
/-- THE STATEMENT. -/
theorem card : Rows.NameFamilyCardSaid :=
  Claim7.holds_tied_plain_at .later [] _ _ _ _ said (fun _ h => by cases h) (by kernel_rfl) (fun _ h => by cases h) nameFamily_row_tie rfl ⟨rfl, rfl⟩ (by kernel_rfl) rfl (fun f fn hf hfn => by have h := plain f fn hf hfn; exact ⟨h.1.symm, h.2⟩) (by kernel_rfl)
end nameFamily
end Go.Proofs.YtjcdhmpcjpjnmaaDoor
