/- NameOrder: whatever is handed in, the call returns true, and the arguments read behind it as before. -/
import Derived.Test.YtjcdhmpcjpjnmaaDoorFrame
import Derived.Test.YtjcdhmpcjpjnmaaDoorUnder
namespace Go.Proofs.YtjcdhmpcjpjnmaaDoor
open Go.RowKit

theorem Cmp_ab (a b : ByteArray) (w : World) (ha : a.size ≤ 140737488355328) (hb : b.size ≤ 140737488355328) (c : Int) (hc : Nm.cmpN a.data.toList b.data.toList = c) :
    Calls Tryd.prog 33 #[.string a, .string b] w fun e w' => e = .returned (.int .i64 c) ∧ Below w.heap.size w w' := by
  rw [← hc]; exact Cmp_any a b w ha hb

set_option maxHeartbeats 4000000 in
set_option maxRecDepth 100000 in
theorem walk_NameOrder (a : ByteArray) (ha : a.size ≤ 140737488351232) (b : ByteArray) (hb : b.size ≤ 140737488351232) (c : ByteArray) (hc : c.size ≤ 140737488351232) (w : World) (hL : Lay w) :
    Calls Tryd.prog 11 #[.string a, .string b, .string c] w fun e w' => e = .returned (.bool true) ∧ Below w.heap.size w w' := by
  have h3 := hL.size
  have HW := Lib.hid (fun (w1 : World) (hb : Below w.heap.size w w1) => wakes_any w1 (hL.below hb h3))
  have Hab := Lib.hid (fun w => Cmp_any a b w (by omega) (by omega))
  have Hba := Lib.hid (fun w => Cmp_any b a w (by omega) (by omega))
  have Haa := Lib.hid (fun w => Cmp_any a a w (by omega) (by omega))
  have Hbc := Lib.hid (fun w => Cmp_any b c w (by omega) (by omega))
  have Hac := Lib.hid (fun w => Cmp_any a c w (by omega) (by omega))
  have HU := Lib.hid (fun w => Under_any a b w (by omega) (by omega))
  have Fα := Lib.hid (fun w => Fold_any a w (by omega))
  have Fβ := Lib.hid (fun w => Fold_any b w (by omega))
  have hneg := Nm.cmpN_neg b.data.toList a.data.toList
  have hself := Nm.cmpN_self a.data.toList
  have hrange := Nm.cmpN_range a.data.toList b.data.toList
  have htr := @Nm.cmpN_trans a.data.toList b.data.toList c.data.toList
  have hund := @Nm.under_cmp a.data.toList b.data.toList
  have hzero := @Nm.cmpN_zero a.data.toList b.data.toList
  rw [hneg] at Hba
  rw [hself] at Haa
  clear hneg hself hL
  generalize Nm.cmpN a.data.toList b.data.toList = x at *
  generalize Nm.cmpN b.data.toList c.data.toList = y at *
  generalize Nm.cmpN a.data.toList c.data.toList = z at *
  generalize Nm.underB a.data.toList b.data.toList = u at *
  obtain ⟨hx1, hx2⟩ := hrange
  have hxx : (x != -(-x)) = false := by rw [bne_eq_false_iff_eq]; omega
  have hxx2 : (x != x) = false := by simp
  have h00 : ((0 : Int) != 0) = false := rfl
  by_cases h1 : x ≤ 0
  · by_cases h2 : y ≤ 0
    · have h3' := htr h1 h2
      clear htr
      rcases hsa : Nm.split a.data.toList with _ | xa
      · have Kα := Lib.hid (fun w => Check_no a w (by omega) hsa)
        clear hsa hzero
        cases u
        · clear hund
          go_enter Tryd.func11, Tryd.ntmps11
          go_wp2_with (first
      | (go_at_call 33; (with_reducible refine (Hab.out _).mono ?_); rintro e w1 ⟨rfl, hb1⟩; have B1 := Lib.hid hb1; clear hb1)
      | (go_at_call 33; (with_reducible refine (Hba.out _).mono ?_); rintro e w2 ⟨rfl, hb2⟩; have B2 := Lib.hid (B1.out.trans (hb2.mono B1.out.size)); clear hb2)
      | (go_at_call 33; (with_reducible refine (Haa.out _).mono ?_); rintro e w3 ⟨rfl, hb3⟩; have B3 := Lib.hid (B2.out.trans (hb3.mono B2.out.size)); clear hb3)
      | (go_at_call 33; (with_reducible refine (Hbc.out _).mono ?_); rintro e w4 ⟨rfl, hb4⟩; have B4 := Lib.hid (B3.out.trans (hb4.mono B3.out.size)); clear hb4)
      | (go_at_call 33; (with_reducible refine (Hac.out _).mono ?_); rintro e w5 ⟨rfl, hb5⟩; have B5 := Lib.hid (B4.out.trans (hb5.mono B4.out.size)); clear hb5)
      | (go_at_call 14; (with_reducible refine (Kα.out _).mono ?_); rintro e w6 ⟨rfl, hb6⟩; have B6 := Lib.hid (B5.out.trans (hb6.mono B5.out.size)); clear hb6)
      | (go_at_call 27; (with_reducible refine (HU.out _).mono ?_); rintro e w7 ⟨rfl, hb7⟩; have B7 := Lib.hid (B6.out.trans (hb7.mono B6.out.size)); clear hb7)
      | (go_at_call 19; (with_reducible refine (HW.out _ B7.out).mono ?_); rintro e w8 ⟨rfl, hb8⟩; have B8 := Lib.hid (B7.out.trans (hb8.mono B7.out.size)); clear hb8))
          go_ret
          exact ⟨by first | rfl | exact ret_bool (show (!decide (x < 0)) = true by rw [decide_eq_false (by omega)]; rfl), B8.out⟩
        · have hx0 := hund rfl
          clear hund
          go_enter Tryd.func11, Tryd.ntmps11
          go_wp2_with (first
      | (go_at_call 33; (with_reducible refine (Hab.out _).mono ?_); rintro e w1 ⟨rfl, hb1⟩; have B1 := Lib.hid hb1; clear hb1)
      | (go_at_call 33; (with_reducible refine (Hba.out _).mono ?_); rintro e w2 ⟨rfl, hb2⟩; have B2 := Lib.hid (B1.out.trans (hb2.mono B1.out.size)); clear hb2)
      | (go_at_call 33; (with_reducible refine (Haa.out _).mono ?_); rintro e w3 ⟨rfl, hb3⟩; have B3 := Lib.hid (B2.out.trans (hb3.mono B2.out.size)); clear hb3)
      | (go_at_call 33; (with_reducible refine (Hbc.out _).mono ?_); rintro e w4 ⟨rfl, hb4⟩; have B4 := Lib.hid (B3.out.trans (hb4.mono B3.out.size)); clear hb4)
      | (go_at_call 33; (with_reducible refine (Hac.out _).mono ?_); rintro e w5 ⟨rfl, hb5⟩; have B5 := Lib.hid (B4.out.trans (hb5.mono B4.out.size)); clear hb5)
      | (go_at_call 14; (with_reducible refine (Kα.out _).mono ?_); rintro e w6 ⟨rfl, hb6⟩; have B6 := Lib.hid (B5.out.trans (hb6.mono B5.out.size)); clear hb6)
      | (go_at_call 27; (with_reducible refine (HU.out _).mono ?_); rintro e w7 ⟨rfl, hb7⟩; have B7 := Lib.hid (B6.out.trans (hb7.mono B6.out.size)); clear hb7)
      | (go_at_call 19; (with_reducible refine (HW.out _ B7.out).mono ?_); rintro e w8 ⟨rfl, hb8⟩; have B8 := Lib.hid (B7.out.trans (hb8.mono B7.out.size)); clear hb8))
          go_ret
          exact ⟨by first | rfl | exact ret_bool (show (!decide (x < 0)) = true by rw [decide_eq_false (by omega)]; rfl), B8.out⟩
      · have Kα := Lib.hid (fun w => Check_yes a xa w (by omega) hsa)
        rcases hsb : Nm.split b.data.toList with _ | xb
        · have Kβ := Lib.hid (fun w => Check_no b w (by omega) hsb)
          clear hsa hsb hzero
          cases u
          · clear hund
            go_enter Tryd.func11, Tryd.ntmps11
            go_wp2_with (first
      | (go_at_call 33; (with_reducible refine (Hab.out _).mono ?_); rintro e w1 ⟨rfl, hb1⟩; have B1 := Lib.hid hb1; clear hb1)
      | (go_at_call 33; (with_reducible refine (Hba.out _).mono ?_); rintro e w2 ⟨rfl, hb2⟩; have B2 := Lib.hid (B1.out.trans (hb2.mono B1.out.size)); clear hb2)
      | (go_at_call 33; (with_reducible refine (Haa.out _).mono ?_); rintro e w3 ⟨rfl, hb3⟩; have B3 := Lib.hid (B2.out.trans (hb3.mono B2.out.size)); clear hb3)
      | (go_at_call 33; (with_reducible refine (Hbc.out _).mono ?_); rintro e w4 ⟨rfl, hb4⟩; have B4 := Lib.hid (B3.out.trans (hb4.mono B3.out.size)); clear hb4)
      | (go_at_call 33; (with_reducible refine (Hac.out _).mono ?_); rintro e w5 ⟨rfl, hb5⟩; have B5 := Lib.hid (B4.out.trans (hb5.mono B4.out.size)); clear hb5)
      | (go_at_call 14; (with_reducible refine (Kα.out _).mono ?_); rintro e w6 ⟨rfl, hb6⟩; have B6 := Lib.hid (B5.out.trans (hb6.mono B5.out.size)); clear hb6)
      | (go_at_call 14; (with_reducible refine (Kβ.out _).mono ?_); rintro e w7 ⟨rfl, hb7⟩; have B7 := Lib.hid (B6.out.trans (hb7.mono B6.out.size)); clear hb7)
      | (go_at_call 27; (with_reducible refine (HU.out _).mono ?_); rintro e w8 ⟨rfl, hb8⟩; have B8 := Lib.hid (B7.out.trans (hb8.mono B7.out.size)); clear hb8)
      | (go_at_call 19; (with_reducible refine (HW.out _ B8.out).mono ?_); rintro e w9 ⟨rfl, hb9⟩; have B9 := Lib.hid (B8.out.trans (hb9.mono B8.out.size)); clear hb9))
            go_ret
            exact ⟨by first | rfl | exact ret_bool (show (!decide (x < 0)) = true by rw [decide_eq_false (by omega)]; rfl), B9.out⟩
          · have hx0 := hund rfl
            clear hund
            go_enter Tryd.func11, Tryd.ntmps11
            go_wp2_with (first
      | (go_at_call 33; (with_reducible refine (Hab.out _).mono ?_); rintro e w1 ⟨rfl, hb1⟩; have B1 := Lib.hid hb1; clear hb1)
      | (go_at_call 33; (with_reducible refine (Hba.out _).mono ?_); rintro e w2 ⟨rfl, hb2⟩; have B2 := Lib.hid (B1.out.trans (hb2.mono B1.out.size)); clear hb2)
      | (go_at_call 33; (with_reducible refine (Haa.out _).mono ?_); rintro e w3 ⟨rfl, hb3⟩; have B3 := Lib.hid (B2.out.trans (hb3.mono B2.out.size)); clear hb3)
      | (go_at_call 33; (with_reducible refine (Hbc.out _).mono ?_); rintro e w4 ⟨rfl, hb4⟩; have B4 := Lib.hid (B3.out.trans (hb4.mono B3.out.size)); clear hb4)
      | (go_at_call 33; (with_reducible refine (Hac.out _).mono ?_); rintro e w5 ⟨rfl, hb5⟩; have B5 := Lib.hid (B4.out.trans (hb5.mono B4.out.size)); clear hb5)
      | (go_at_call 14; (with_reducible refine (Kα.out _).mono ?_); rintro e w6 ⟨rfl, hb6⟩; have B6 := Lib.hid (B5.out.trans (hb6.mono B5.out.size)); clear hb6)
      | (go_at_call 14; (with_reducible refine (Kβ.out _).mono ?_); rintro e w7 ⟨rfl, hb7⟩; have B7 := Lib.hid (B6.out.trans (hb7.mono B6.out.size)); clear hb7)
      | (go_at_call 27; (with_reducible refine (HU.out _).mono ?_); rintro e w8 ⟨rfl, hb8⟩; have B8 := Lib.hid (B7.out.trans (hb8.mono B7.out.size)); clear hb8)
      | (go_at_call 19; (with_reducible refine (HW.out _ B8.out).mono ?_); rintro e w9 ⟨rfl, hb9⟩; have B9 := Lib.hid (B8.out.trans (hb9.mono B8.out.size)); clear hb9))
            go_ret
            exact ⟨by first | rfl | exact ret_bool (show (!decide (x < 0)) = true by rw [decide_eq_false (by omega)]; rfl), B9.out⟩
        · have Kβ := Lib.hid (fun w => Check_yes b xb w (by omega) hsb)
          have hz := hzero hsa hsb
          have hfe : (Nm.fold a.data.toList == Nm.fold b.data.toList) = (x == 0) := by rw [Bool.eq_iff_iff, beq_iff_eq, beq_iff_eq]; exact hz.symm
          have hfe2 : ((x == 0) != (x == 0)) = false := by simp
          clear hsa hsb hzero hz
          generalize Nm.fold a.data.toList = fa at *
          generalize Nm.fold b.data.toList = fb at *
          cases u
          · clear hund
            go_enter Tryd.func11, Tryd.ntmps11
            go_wp2_with (first
      | (go_at_call 33; (with_reducible refine (Hab.out _).mono ?_); rintro e w1 ⟨rfl, hb1⟩; have B1 := Lib.hid hb1; clear hb1)
      | (go_at_call 33; (with_reducible refine (Hba.out _).mono ?_); rintro e w2 ⟨rfl, hb2⟩; have B2 := Lib.hid (B1.out.trans (hb2.mono B1.out.size)); clear hb2)
      | (go_at_call 33; (with_reducible refine (Haa.out _).mono ?_); rintro e w3 ⟨rfl, hb3⟩; have B3 := Lib.hid (B2.out.trans (hb3.mono B2.out.size)); clear hb3)
      | (go_at_call 33; (with_reducible refine (Hbc.out _).mono ?_); rintro e w4 ⟨rfl, hb4⟩; have B4 := Lib.hid (B3.out.trans (hb4.mono B3.out.size)); clear hb4)
      | (go_at_call 33; (with_reducible refine (Hac.out _).mono ?_); rintro e w5 ⟨rfl, hb5⟩; have B5 := Lib.hid (B4.out.trans (hb5.mono B4.out.size)); clear hb5)
      | (go_at_call 14; (with_reducible refine (Kα.out _).mono ?_); rintro e w6 ⟨rfl, hb6⟩; have B6 := Lib.hid (B5.out.trans (hb6.mono B5.out.size)); clear hb6)
      | (go_at_call 14; (with_reducible refine (Kβ.out _).mono ?_); rintro e w7 ⟨rfl, hb7⟩; have B7 := Lib.hid (B6.out.trans (hb7.mono B6.out.size)); clear hb7)
      | (go_at_call 15; (with_reducible refine (Fα.out _).mono ?_); rintro e w8 ⟨rfl, hb8⟩; have B8 := Lib.hid (B7.out.trans (hb8.mono B7.out.size)); clear hb8)
      | (go_at_call 15; (with_reducible refine (Fβ.out _).mono ?_); rintro e w9 ⟨rfl, hb9⟩; have B9 := Lib.hid (B8.out.trans (hb9.mono B8.out.size)); clear hb9)
      | (go_at_call 27; (with_reducible refine (HU.out _).mono ?_); rintro e w10 ⟨rfl, hb10⟩; have B10 := Lib.hid (B9.out.trans (hb10.mono B9.out.size)); clear hb10)
      | (go_at_call 19; (with_reducible refine (HW.out _ B10.out).mono ?_); rintro e w11 ⟨rfl, hb11⟩; have B11 := Lib.hid (B10.out.trans (hb11.mono B10.out.size)); clear hb11))
            go_ret
            exact ⟨by first | rfl | exact ret_bool (show (!decide (x < 0)) = true by rw [decide_eq_false (by omega)]; rfl), B11.out⟩
          · have hx0 := hund rfl
            clear hund
            go_enter Tryd.func11, Tryd.ntmps11
            go_wp2_with (first
      | (go_at_call 33; (with_reducible refine (Hab.out _).mono ?_); rintro e w1 ⟨rfl, hb1⟩; have B1 := Lib.hid hb1; clear hb1)
      | (go_at_call 33; (with_reducible refine (Hba.out _).mono ?_); rintro e w2 ⟨rfl, hb2⟩; have B2 := Lib.hid (B1.out.trans (hb2.mono B1.out.size)); clear hb2)
      | (go_at_call 33; (with_reducible refine (Haa.out _).mono ?_); rintro e w3 ⟨rfl, hb3⟩; have B3 := Lib.hid (B2.out.trans (hb3.mono B2.out.size)); clear hb3)
      | (go_at_call 33; (with_reducible refine (Hbc.out _).mono ?_); rintro e w4 ⟨rfl, hb4⟩; have B4 := Lib.hid (B3.out.trans (hb4.mono B3.out.size)); clear hb4)
      | (go_at_call 33; (with_reducible refine (Hac.out _).mono ?_); rintro e w5 ⟨rfl, hb5⟩; have B5 := Lib.hid (B4.out.trans (hb5.mono B4.out.size)); clear hb5)
      | (go_at_call 14; (with_reducible refine (Kα.out _).mono ?_); rintro e w6 ⟨rfl, hb6⟩; have B6 := Lib.hid (B5.out.trans (hb6.mono B5.out.size)); clear hb6)
      | (go_at_call 14; (with_reducible refine (Kβ.out _).mono ?_); rintro e w7 ⟨rfl, hb7⟩; have B7 := Lib.hid (B6.out.trans (hb7.mono B6.out.size)); clear hb7)
      | (go_at_call 15; (with_reducible refine (Fα.out _).mono ?_); rintro e w8 ⟨rfl, hb8⟩; have B8 := Lib.hid (B7.out.trans (hb8.mono B7.out.size)); clear hb8)
      | (go_at_call 15; (with_reducible refine (Fβ.out _).mono ?_); rintro e w9 ⟨rfl, hb9⟩; have B9 := Lib.hid (B8.out.trans (hb9.mono B8.out.size)); clear hb9)
      | (go_at_call 27; (with_reducible refine (HU.out _).mono ?_); rintro e w10 ⟨rfl, hb10⟩; have B10 := Lib.hid (B9.out.trans (hb10.mono B9.out.size)); clear hb10)
      | (go_at_call 19; (with_reducible refine (HW.out _ B10.out).mono ?_); rintro e w11 ⟨rfl, hb11⟩; have B11 := Lib.hid (B10.out.trans (hb11.mono B10.out.size)); clear hb11))
            go_ret
            exact ⟨by first | rfl | exact ret_bool (show (!decide (x < 0)) = true by rw [decide_eq_false (by omega)]; rfl), B11.out⟩
    · clear htr
      rcases hsa : Nm.split a.data.toList with _ | xa
      · have Kα := Lib.hid (fun w => Check_no a w (by omega) hsa)
        clear hsa hzero
        cases u
        · clear hund
          go_enter Tryd.func11, Tryd.ntmps11
          go_wp2_with (first
      | (go_at_call 33; (with_reducible refine (Hab.out _).mono ?_); rintro e w1 ⟨rfl, hb1⟩; have B1 := Lib.hid hb1; clear hb1)
      | (go_at_call 33; (with_reducible refine (Hba.out _).mono ?_); rintro e w2 ⟨rfl, hb2⟩; have B2 := Lib.hid (B1.out.trans (hb2.mono B1.out.size)); clear hb2)
      | (go_at_call 33; (with_reducible refine (Haa.out _).mono ?_); rintro e w3 ⟨rfl, hb3⟩; have B3 := Lib.hid (B2.out.trans (hb3.mono B2.out.size)); clear hb3)
      | (go_at_call 33; (with_reducible refine (Hbc.out _).mono ?_); rintro e w4 ⟨rfl, hb4⟩; have B4 := Lib.hid (B3.out.trans (hb4.mono B3.out.size)); clear hb4)
      | (go_at_call 14; (with_reducible refine (Kα.out _).mono ?_); rintro e w5 ⟨rfl, hb5⟩; have B5 := Lib.hid (B4.out.trans (hb5.mono B4.out.size)); clear hb5)
      | (go_at_call 27; (with_reducible refine (HU.out _).mono ?_); rintro e w6 ⟨rfl, hb6⟩; have B6 := Lib.hid (B5.out.trans (hb6.mono B5.out.size)); clear hb6)
      | (go_at_call 19; (with_reducible refine (HW.out _ B6.out).mono ?_); rintro e w7 ⟨rfl, hb7⟩; have B7 := Lib.hid (B6.out.trans (hb7.mono B6.out.size)); clear hb7))
          go_ret
          exact ⟨by first | rfl | exact ret_bool (show (!decide (x < 0)) = true by rw [decide_eq_false (by omega)]; rfl), B7.out⟩
        · have hx0 := hund rfl
          clear hund
          go_enter Tryd.func11, Tryd.ntmps11
          go_wp2_with (first
      | (go_at_call 33; (with_reducible refine (Hab.out _).mono ?_); rintro e w1 ⟨rfl, hb1⟩; have B1 := Lib.hid hb1; clear hb1)
      | (go_at_call 33; (with_reducible refine (Hba.out _).mono ?_); rintro e w2 ⟨rfl, hb2⟩; have B2 := Lib.hid (B1.out.trans (hb2.mono B1.out.size)); clear hb2)
      | (go_at_call 33; (with_reducible refine (Haa.out _).mono ?_); rintro e w3 ⟨rfl, hb3⟩; have B3 := Lib.hid (B2.out.trans (hb3.mono B2.out.size)); clear hb3)
      | (go_at_call 33; (with_reducible refine (Hbc.out _).mono ?_); rintro e w4 ⟨rfl, hb4⟩; have B4 := Lib.hid (B3.out.trans (hb4.mono B3.out.size)); clear hb4)
      | (go_at_call 14; (with_reducible refine (Kα.out _).mono ?_); rintro e w5 ⟨rfl, hb5⟩; have B5 := Lib.hid (B4.out.trans (hb5.mono B4.out.size)); clear hb5)
      | (go_at_call 27; (with_reducible refine (HU.out _).mono ?_); rintro e w6 ⟨rfl, hb6⟩; have B6 := Lib.hid (B5.out.trans (hb6.mono B5.out.size)); clear hb6)
      | (go_at_call 19; (with_reducible refine (HW.out _ B6.out).mono ?_); rintro e w7 ⟨rfl, hb7⟩; have B7 := Lib.hid (B6.out.trans (hb7.mono B6.out.size)); clear hb7))
          go_ret
          exact ⟨by first | rfl | exact ret_bool (show (!decide (x < 0)) = true by rw [decide_eq_false (by omega)]; rfl), B7.out⟩
      · have Kα := Lib.hid (fun w => Check_yes a xa w (by omega) hsa)
        rcases hsb : Nm.split b.data.toList with _ | xb
        · have Kβ := Lib.hid (fun w => Check_no b w (by omega) hsb)
          clear hsa hsb hzero
          cases u
          · clear hund
            go_enter Tryd.func11, Tryd.ntmps11
            go_wp2_with (first
      | (go_at_call 33; (with_reducible refine (Hab.out _).mono ?_); rintro e w1 ⟨rfl, hb1⟩; have B1 := Lib.hid hb1; clear hb1)
      | (go_at_call 33; (with_reducible refine (Hba.out _).mono ?_); rintro e w2 ⟨rfl, hb2⟩; have B2 := Lib.hid (B1.out.trans (hb2.mono B1.out.size)); clear hb2)
      | (go_at_call 33; (with_reducible refine (Haa.out _).mono ?_); rintro e w3 ⟨rfl, hb3⟩; have B3 := Lib.hid (B2.out.trans (hb3.mono B2.out.size)); clear hb3)
      | (go_at_call 33; (with_reducible refine (Hbc.out _).mono ?_); rintro e w4 ⟨rfl, hb4⟩; have B4 := Lib.hid (B3.out.trans (hb4.mono B3.out.size)); clear hb4)
      | (go_at_call 14; (with_reducible refine (Kα.out _).mono ?_); rintro e w5 ⟨rfl, hb5⟩; have B5 := Lib.hid (B4.out.trans (hb5.mono B4.out.size)); clear hb5)
      | (go_at_call 14; (with_reducible refine (Kβ.out _).mono ?_); rintro e w6 ⟨rfl, hb6⟩; have B6 := Lib.hid (B5.out.trans (hb6.mono B5.out.size)); clear hb6)
      | (go_at_call 27; (with_reducible refine (HU.out _).mono ?_); rintro e w7 ⟨rfl, hb7⟩; have B7 := Lib.hid (B6.out.trans (hb7.mono B6.out.size)); clear hb7)
      | (go_at_call 19; (with_reducible refine (HW.out _ B7.out).mono ?_); rintro e w8 ⟨rfl, hb8⟩; have B8 := Lib.hid (B7.out.trans (hb8.mono B7.out.size)); clear hb8))
            go_ret
            exact ⟨by first | rfl | exact ret_bool (show (!decide (x < 0)) = true by rw [decide_eq_false (by omega)]; rfl), B8.out⟩
          · have hx0 := hund rfl
            clear hund
            go_enter Tryd.func11, Tryd.ntmps11
            go_wp2_with (first
      | (go_at_call 33; (with_reducible refine (Hab.out _).mono ?_); rintro e w1 ⟨rfl, hb1⟩; have B1 := Lib.hid hb1; clear hb1)
      | (go_at_call 33; (with_reducible refine (Hba.out _).mono ?_); rintro e w2 ⟨rfl, hb2⟩; have B2 := Lib.hid (B1.out.trans (hb2.mono B1.out.size)); clear hb2)
      | (go_at_call 33; (with_reducible refine (Haa.out _).mono ?_); rintro e w3 ⟨rfl, hb3⟩; have B3 := Lib.hid (B2.out.trans (hb3.mono B2.out.size)); clear hb3)
      | (go_at_call 33; (with_reducible refine (Hbc.out _).mono ?_); rintro e w4 ⟨rfl, hb4⟩; have B4 := Lib.hid (B3.out.trans (hb4.mono B3.out.size)); clear hb4)
      | (go_at_call 14; (with_reducible refine (Kα.out _).mono ?_); rintro e w5 ⟨rfl, hb5⟩; have B5 := Lib.hid (B4.out.trans (hb5.mono B4.out.size)); clear hb5)
      | (go_at_call 14; (with_reducible refine (Kβ.out _).mono ?_); rintro e w6 ⟨rfl, hb6⟩; have B6 := Lib.hid (B5.out.trans (hb6.mono B5.out.size)); clear hb6)
      | (go_at_call 27; (with_reducible refine (HU.out _).mono ?_); rintro e w7 ⟨rfl, hb7⟩; have B7 := Lib.hid (B6.out.trans (hb7.mono B6.out.size)); clear hb7)
      | (go_at_call 19; (with_reducible refine (HW.out _ B7.out).mono ?_); rintro e w8 ⟨rfl, hb8⟩; have B8 := Lib.hid (B7.out.trans (hb8.mono B7.out.size)); clear hb8))
            go_ret
            exact ⟨by first | rfl | exact ret_bool (show (!decide (x < 0)) = true by rw [decide_eq_false (by omega)]; rfl), B8.out⟩
        · have Kβ := Lib.hid (fun w => Check_yes b xb w (by omega) hsb)
          have hz := hzero hsa hsb
          have hfe : (Nm.fold a.data.toList == Nm.fold b.data.toList) = (x == 0) := by rw [Bool.eq_iff_iff, beq_iff_eq, beq_iff_eq]; exact hz.symm
          have hfe2 : ((x == 0) != (x == 0)) = false := by simp
          clear hsa hsb hzero hz
          generalize Nm.fold a.data.toList = fa at *
          generalize Nm.fold b.data.toList = fb at *
          cases u
          · clear hund
            go_enter Tryd.func11, Tryd.ntmps11
            go_wp2_with (first
      | (go_at_call 33; (with_reducible refine (Hab.out _).mono ?_); rintro e w1 ⟨rfl, hb1⟩; have B1 := Lib.hid hb1; clear hb1)
      | (go_at_call 33; (with_reducible refine (Hba.out _).mono ?_); rintro e w2 ⟨rfl, hb2⟩; have B2 := Lib.hid (B1.out.trans (hb2.mono B1.out.size)); clear hb2)
      | (go_at_call 33; (with_reducible refine (Haa.out _).mono ?_); rintro e w3 ⟨rfl, hb3⟩; have B3 := Lib.hid (B2.out.trans (hb3.mono B2.out.size)); clear hb3)
      | (go_at_call 33; (with_reducible refine (Hbc.out _).mono ?_); rintro e w4 ⟨rfl, hb4⟩; have B4 := Lib.hid (B3.out.trans (hb4.mono B3.out.size)); clear hb4)
      | (go_at_call 14; (with_reducible refine (Kα.out _).mono ?_); rintro e w5 ⟨rfl, hb5⟩; have B5 := Lib.hid (B4.out.trans (hb5.mono B4.out.size)); clear hb5)
      | (go_at_call 14; (with_reducible refine (Kβ.out _).mono ?_); rintro e w6 ⟨rfl, hb6⟩; have B6 := Lib.hid (B5.out.trans (hb6.mono B5.out.size)); clear hb6)
      | (go_at_call 15; (with_reducible refine (Fα.out _).mono ?_); rintro e w7 ⟨rfl, hb7⟩; have B7 := Lib.hid (B6.out.trans (hb7.mono B6.out.size)); clear hb7)
      | (go_at_call 15; (with_reducible refine (Fβ.out _).mono ?_); rintro e w8 ⟨rfl, hb8⟩; have B8 := Lib.hid (B7.out.trans (hb8.mono B7.out.size)); clear hb8)
      | (go_at_call 27; (with_reducible refine (HU.out _).mono ?_); rintro e w9 ⟨rfl, hb9⟩; have B9 := Lib.hid (B8.out.trans (hb9.mono B8.out.size)); clear hb9)
      | (go_at_call 19; (with_reducible refine (HW.out _ B9.out).mono ?_); rintro e w10 ⟨rfl, hb10⟩; have B10 := Lib.hid (B9.out.trans (hb10.mono B9.out.size)); clear hb10))
            go_ret
            exact ⟨by first | rfl | exact ret_bool (show (!decide (x < 0)) = true by rw [decide_eq_false (by omega)]; rfl), B10.out⟩
          · have hx0 := hund rfl
            clear hund
            go_enter Tryd.func11, Tryd.ntmps11
            go_wp2_with (first
      | (go_at_call 33; (with_reducible refine (Hab.out _).mono ?_); rintro e w1 ⟨rfl, hb1⟩; have B1 := Lib.hid hb1; clear hb1)
      | (go_at_call 33; (with_reducible refine (Hba.out _).mono ?_); rintro e w2 ⟨rfl, hb2⟩; have B2 := Lib.hid (B1.out.trans (hb2.mono B1.out.size)); clear hb2)
      | (go_at_call 33; (with_reducible refine (Haa.out _).mono ?_); rintro e w3 ⟨rfl, hb3⟩; have B3 := Lib.hid (B2.out.trans (hb3.mono B2.out.size)); clear hb3)
      | (go_at_call 33; (with_reducible refine (Hbc.out _).mono ?_); rintro e w4 ⟨rfl, hb4⟩; have B4 := Lib.hid (B3.out.trans (hb4.mono B3.out.size)); clear hb4)
      | (go_at_call 14; (with_reducible refine (Kα.out _).mono ?_); rintro e w5 ⟨rfl, hb5⟩; have B5 := Lib.hid (B4.out.trans (hb5.mono B4.out.size)); clear hb5)
      | (go_at_call 14; (with_reducible refine (Kβ.out _).mono ?_); rintro e w6 ⟨rfl, hb6⟩; have B6 := Lib.hid (B5.out.trans (hb6.mono B5.out.size)); clear hb6)
      | (go_at_call 15; (with_reducible refine (Fα.out _).mono ?_); rintro e w7 ⟨rfl, hb7⟩; have B7 := Lib.hid (B6.out.trans (hb7.mono B6.out.size)); clear hb7)
      | (go_at_call 15; (with_reducible refine (Fβ.out _).mono ?_); rintro e w8 ⟨rfl, hb8⟩; have B8 := Lib.hid (B7.out.trans (hb8.mono B7.out.size)); clear hb8)
      | (go_at_call 27; (with_reducible refine (HU.out _).mono ?_); rintro e w9 ⟨rfl, hb9⟩; have B9 := Lib.hid (B8.out.trans (hb9.mono B8.out.size)); clear hb9)
      | (go_at_call 19; (with_reducible refine (HW.out _ B9.out).mono ?_); rintro e w10 ⟨rfl, hb10⟩; have B10 := Lib.hid (B9.out.trans (hb10.mono B9.out.size)); clear hb10))
            go_ret
            exact ⟨by first | rfl | exact ret_bool (show (!decide (x < 0)) = true by rw [decide_eq_false (by omega)]; rfl), B10.out⟩
  · clear htr
    rcases hsa : Nm.split a.data.toList with _ | xa
    · have Kα := Lib.hid (fun w => Check_no a w (by omega) hsa)
      clear hsa hzero
      cases u
      · clear hund
        go_enter Tryd.func11, Tryd.ntmps11
        go_wp2_with (first
      | (go_at_call 33; (with_reducible refine (Hab.out _).mono ?_); rintro e w1 ⟨rfl, hb1⟩; have B1 := Lib.hid hb1; clear hb1)
      | (go_at_call 33; (with_reducible refine (Hba.out _).mono ?_); rintro e w2 ⟨rfl, hb2⟩; have B2 := Lib.hid (B1.out.trans (hb2.mono B1.out.size)); clear hb2)
      | (go_at_call 33; (with_reducible refine (Haa.out _).mono ?_); rintro e w3 ⟨rfl, hb3⟩; have B3 := Lib.hid (B2.out.trans (hb3.mono B2.out.size)); clear hb3)
      | (go_at_call 14; (with_reducible refine (Kα.out _).mono ?_); rintro e w4 ⟨rfl, hb4⟩; have B4 := Lib.hid (B3.out.trans (hb4.mono B3.out.size)); clear hb4)
      | (go_at_call 27; (with_reducible refine (HU.out _).mono ?_); rintro e w5 ⟨rfl, hb5⟩; have B5 := Lib.hid (B4.out.trans (hb5.mono B4.out.size)); clear hb5)
      | (go_at_call 19; (with_reducible refine (HW.out _ B5.out).mono ?_); rintro e w6 ⟨rfl, hb6⟩; have B6 := Lib.hid (B5.out.trans (hb6.mono B5.out.size)); clear hb6))
        go_ret
        exact ⟨by first | rfl | exact ret_bool (show (!decide (x < 0)) = true by rw [decide_eq_false (by omega)]; rfl), B6.out⟩
      · have hx0 := hund rfl
        clear hund
        go_enter Tryd.func11, Tryd.ntmps11
        go_wp2_with (first
      | (go_at_call 33; (with_reducible refine (Hab.out _).mono ?_); rintro e w1 ⟨rfl, hb1⟩; have B1 := Lib.hid hb1; clear hb1)
      | (go_at_call 33; (with_reducible refine (Hba.out _).mono ?_); rintro e w2 ⟨rfl, hb2⟩; have B2 := Lib.hid (B1.out.trans (hb2.mono B1.out.size)); clear hb2)
      | (go_at_call 33; (with_reducible refine (Haa.out _).mono ?_); rintro e w3 ⟨rfl, hb3⟩; have B3 := Lib.hid (B2.out.trans (hb3.mono B2.out.size)); clear hb3)
      | (go_at_call 14; (with_reducible refine (Kα.out _).mono ?_); rintro e w4 ⟨rfl, hb4⟩; have B4 := Lib.hid (B3.out.trans (hb4.mono B3.out.size)); clear hb4)
      | (go_at_call 27; (with_reducible refine (HU.out _).mono ?_); rintro e w5 ⟨rfl, hb5⟩; have B5 := Lib.hid (B4.out.trans (hb5.mono B4.out.size)); clear hb5)
      | (go_at_call 19; (with_reducible refine (HW.out _ B5.out).mono ?_); rintro e w6 ⟨rfl, hb6⟩; have B6 := Lib.hid (B5.out.trans (hb6.mono B5.out.size)); clear hb6))
        go_ret
        exact ⟨by first | rfl | exact ret_bool (show (!decide (x < 0)) = true by rw [decide_eq_false (by omega)]; rfl), B6.out⟩
    · have Kα := Lib.hid (fun w => Check_yes a xa w (by omega) hsa)
      rcases hsb : Nm.split b.data.toList with _ | xb
      · have Kβ := Lib.hid (fun w => Check_no b w (by omega) hsb)
        clear hsa hsb hzero
        cases u
        · clear hund
          go_enter Tryd.func11, Tryd.ntmps11
          go_wp2_with (first
      | (go_at_call 33; (with_reducible refine (Hab.out _).mono ?_); rintro e w1 ⟨rfl, hb1⟩; have B1 := Lib.hid hb1; clear hb1)
      | (go_at_call 33; (with_reducible refine (Hba.out _).mono ?_); rintro e w2 ⟨rfl, hb2⟩; have B2 := Lib.hid (B1.out.trans (hb2.mono B1.out.size)); clear hb2)
      | (go_at_call 33; (with_reducible refine (Haa.out _).mono ?_); rintro e w3 ⟨rfl, hb3⟩; have B3 := Lib.hid (B2.out.trans (hb3.mono B2.out.size)); clear hb3)
      | (go_at_call 14; (with_reducible refine (Kα.out _).mono ?_); rintro e w4 ⟨rfl, hb4⟩; have B4 := Lib.hid (B3.out.trans (hb4.mono B3.out.size)); clear hb4)
      | (go_at_call 14; (with_reducible refine (Kβ.out _).mono ?_); rintro e w5 ⟨rfl, hb5⟩; have B5 := Lib.hid (B4.out.trans (hb5.mono B4.out.size)); clear hb5)
      | (go_at_call 27; (with_reducible refine (HU.out _).mono ?_); rintro e w6 ⟨rfl, hb6⟩; have B6 := Lib.hid (B5.out.trans (hb6.mono B5.out.size)); clear hb6)
      | (go_at_call 19; (with_reducible refine (HW.out _ B6.out).mono ?_); rintro e w7 ⟨rfl, hb7⟩; have B7 := Lib.hid (B6.out.trans (hb7.mono B6.out.size)); clear hb7))
          go_ret
          exact ⟨by first | rfl | exact ret_bool (show (!decide (x < 0)) = true by rw [decide_eq_false (by omega)]; rfl), B7.out⟩
        · have hx0 := hund rfl
          clear hund
          go_enter Tryd.func11, Tryd.ntmps11
          go_wp2_with (first
      | (go_at_call 33; (with_reducible refine (Hab.out _).mono ?_); rintro e w1 ⟨rfl, hb1⟩; have B1 := Lib.hid hb1; clear hb1)
      | (go_at_call 33; (with_reducible refine (Hba.out _).mono ?_); rintro e w2 ⟨rfl, hb2⟩; have B2 := Lib.hid (B1.out.trans (hb2.mono B1.out.size)); clear hb2)
      | (go_at_call 33; (with_reducible refine (Haa.out _).mono ?_); rintro e w3 ⟨rfl, hb3⟩; have B3 := Lib.hid (B2.out.trans (hb3.mono B2.out.size)); clear hb3)
      | (go_at_call 14; (with_reducible refine (Kα.out _).mono ?_); rintro e w4 ⟨rfl, hb4⟩; have B4 := Lib.hid (B3.out.trans (hb4.mono B3.out.size)); clear hb4)
      | (go_at_call 14; (with_reducible refine (Kβ.out _).mono ?_); rintro e w5 ⟨rfl, hb5⟩; have B5 := Lib.hid (B4.out.trans (hb5.mono B4.out.size)); clear hb5)
      | (go_at_call 27; (with_reducible refine (HU.out _).mono ?_); rintro e w6 ⟨rfl, hb6⟩; have B6 := Lib.hid (B5.out.trans (hb6.mono B5.out.size)); clear hb6)
      | (go_at_call 19; (with_reducible refine (HW.out _ B6.out).mono ?_); rintro e w7 ⟨rfl, hb7⟩; have B7 := Lib.hid (B6.out.trans (hb7.mono B6.out.size)); clear hb7))
          go_ret
          exact ⟨by first | rfl | exact ret_bool (show (!decide (x < 0)) = true by rw [decide_eq_false (by omega)]; rfl), B7.out⟩
      · have Kβ := Lib.hid (fun w => Check_yes b xb w (by omega) hsb)
        have hz := hzero hsa hsb
        have hfe : (Nm.fold a.data.toList == Nm.fold b.data.toList) = (x == 0) := by rw [Bool.eq_iff_iff, beq_iff_eq, beq_iff_eq]; exact hz.symm
        have hfe2 : ((x == 0) != (x == 0)) = false := by simp
        clear hsa hsb hzero hz
        generalize Nm.fold a.data.toList = fa at *
        generalize Nm.fold b.data.toList = fb at *
        cases u
        · clear hund
          go_enter Tryd.func11, Tryd.ntmps11
          go_wp2_with (first
      | (go_at_call 33; (with_reducible refine (Hab.out _).mono ?_); rintro e w1 ⟨rfl, hb1⟩; have B1 := Lib.hid hb1; clear hb1)
      | (go_at_call 33; (with_reducible refine (Hba.out _).mono ?_); rintro e w2 ⟨rfl, hb2⟩; have B2 := Lib.hid (B1.out.trans (hb2.mono B1.out.size)); clear hb2)
      | (go_at_call 33; (with_reducible refine (Haa.out _).mono ?_); rintro e w3 ⟨rfl, hb3⟩; have B3 := Lib.hid (B2.out.trans (hb3.mono B2.out.size)); clear hb3)
      | (go_at_call 14; (with_reducible refine (Kα.out _).mono ?_); rintro e w4 ⟨rfl, hb4⟩; have B4 := Lib.hid (B3.out.trans (hb4.mono B3.out.size)); clear hb4)
      | (go_at_call 14; (with_reducible refine (Kβ.out _).mono ?_); rintro e w5 ⟨rfl, hb5⟩; have B5 := Lib.hid (B4.out.trans (hb5.mono B4.out.size)); clear hb5)
      | (go_at_call 15; (with_reducible refine (Fα.out _).mono ?_); rintro e w6 ⟨rfl, hb6⟩; have B6 := Lib.hid (B5.out.trans (hb6.mono B5.out.size)); clear hb6)
      | (go_at_call 15; (with_reducible refine (Fβ.out _).mono ?_); rintro e w7 ⟨rfl, hb7⟩; have B7 := Lib.hid (B6.out.trans (hb7.mono B6.out.size)); clear hb7)
      | (go_at_call 27; (with_reducible refine (HU.out _).mono ?_); rintro e w8 ⟨rfl, hb8⟩; have B8 := Lib.hid (B7.out.trans (hb8.mono B7.out.size)); clear hb8)
      | (go_at_call 19; (with_reducible refine (HW.out _ B8.out).mono ?_); rintro e w9 ⟨rfl, hb9⟩; have B9 := Lib.hid (B8.out.trans (hb9.mono B8.out.size)); clear hb9))
          go_ret
          exact ⟨by first | rfl | exact ret_bool (show (!decide (x < 0)) = true by rw [decide_eq_false (by omega)]; rfl), B9.out⟩
        · have hx0 := hund rfl
          clear hund
          go_enter Tryd.func11, Tryd.ntmps11
          go_wp2_with (first
      | (go_at_call 33; (with_reducible refine (Hab.out _).mono ?_); rintro e w1 ⟨rfl, hb1⟩; have B1 := Lib.hid hb1; clear hb1)
      | (go_at_call 33; (with_reducible refine (Hba.out _).mono ?_); rintro e w2 ⟨rfl, hb2⟩; have B2 := Lib.hid (B1.out.trans (hb2.mono B1.out.size)); clear hb2)
      | (go_at_call 33; (with_reducible refine (Haa.out _).mono ?_); rintro e w3 ⟨rfl, hb3⟩; have B3 := Lib.hid (B2.out.trans (hb3.mono B2.out.size)); clear hb3)
      | (go_at_call 14; (with_reducible refine (Kα.out _).mono ?_); rintro e w4 ⟨rfl, hb4⟩; have B4 := Lib.hid (B3.out.trans (hb4.mono B3.out.size)); clear hb4)
      | (go_at_call 14; (with_reducible refine (Kβ.out _).mono ?_); rintro e w5 ⟨rfl, hb5⟩; have B5 := Lib.hid (B4.out.trans (hb5.mono B4.out.size)); clear hb5)
      | (go_at_call 15; (with_reducible refine (Fα.out _).mono ?_); rintro e w6 ⟨rfl, hb6⟩; have B6 := Lib.hid (B5.out.trans (hb6.mono B5.out.size)); clear hb6)
      | (go_at_call 15; (with_reducible refine (Fβ.out _).mono ?_); rintro e w7 ⟨rfl, hb7⟩; have B7 := Lib.hid (B6.out.trans (hb7.mono B6.out.size)); clear hb7)
      | (go_at_call 27; (with_reducible refine (HU.out _).mono ?_); rintro e w8 ⟨rfl, hb8⟩; have B8 := Lib.hid (B7.out.trans (hb8.mono B7.out.size)); clear hb8)
      | (go_at_call 19; (with_reducible refine (HW.out _ B8.out).mono ?_); rintro e w9 ⟨rfl, hb9⟩; have B9 := Lib.hid (B8.out.trans (hb9.mono B8.out.size)); clear hb9))
          go_ret
          exact ⟨by first | rfl | exact ret_bool (show (!decide (x < 0)) = true by rw [decide_eq_false (by omega)]; rfl), B9.out⟩

namespace nameOrder
open Go.ChangeShapes Go.WideShapes Go.ChangeAt
open Go.ChangeMaps (open_string shut_string)
set_option maxRecDepth 100000 in
theorem contract (H : Type) (enc : TypeId × Value → H) (W : World) (base : Nat) (args : Array Value) (ds gs : List (DataW H)) (before : List MemPlace)
    (hval : ∀ (j : Nat) t v, Tryd.f11.params[j]? = some t → args[j]? = some v → Value.okWide Tryd.prog W .any base t v)
    (hW : DataW.Whole enc Tryd.prog Tryd.f11.params.toList Rows.nameOrderSpec.vars false W args.toList ds gs before)
    (hR : (DataW.weightsEach Tryd.prog (Tryd.f11.params.toList ++ (OpenSpec.ofChange Rows.nameOrderSpec).bare.plain.varTypes Tryd.prog) (ds ++ gs)).all (· ≤ reachBytes) = true)
    (hL : laidMetH Tryd.prog Rows.nameOrderRow.laid W) :
    Calls Tryd.prog 11 args W fun e W' => ∃ v, e = .returned v ∧ Rows.nameOrderSpec.post enc Tryd.prog Tryd.f11 false true false false W args v W' := by
  have hW' := hW
  obtain ⟨p, q, hA0, hV, rfl, hfz, hnd⟩ := hW
  have hA : DataW.TrodAll enc Tryd.prog W 0 (fun _ => true) true Tryd.f11.params.toList args.toList ds p := hA0
  rw [Tryd.params11] at hA hval hR
  obtain ⟨v0, vs0, d0, ds0, p0, q0, hargs0, rfl, rfl, h0, r0⟩ := trodAll_cons hA
  obtain ⟨v1, vs1, d1, ds1, p1, q1, hargs1, rfl, rfl, h1, r1⟩ := trodAll_cons r0
  obtain ⟨v2, vs2, d2, ds2, p2, q2, hargs2, rfl, rfl, h2, r2⟩ := trodAll_cons r1
  obtain ⟨rfl, rfl, rfl⟩ := trodAll_nil r2
  obtain rfl : args = #[v0, v1, v2] := by cases args; simp_all
  obtain ⟨rfl, rfl⟩ := trodVars_none hV
  obtain ⟨a, rfl, rfl, rfl, z0⟩ := open_string Tryd.underlying22 (hval 0 22 v0 rfl rfl) h0
  obtain ⟨b, rfl, rfl, rfl, z1⟩ := open_string Tryd.underlying22 (hval 1 22 v1 rfl rfl) h1
  obtain ⟨c, rfl, rfl, rfl, z2⟩ := open_string Tryd.underlying22 (hval 2 22 v2 rfl rfl) h2
  clear hA0
  simp only [List.append_nil] at hW'
  obtain ⟨s0', hR0⟩ := reach_string hR
  obtain ⟨s1', hR1⟩ := reach_string hR0
  obtain ⟨s2', hR2⟩ := reach_string hR1
  refine (walk_NameOrder a (by simpa using s0') b (by simpa using s1') c (by simpa using s2') W (laid_lay hL)).mono fun e W' ⟨he, hb⟩ => ?_
  subst he
  exact ⟨_, rfl, post_low hW' rfl hb (fun _ _ _ => trodAll_cons_mk (shut_bool Tryd.underlying4 _) trodAll_mk0) (fun _ _ => (trodAll_cons_mk (shut_string Tryd.underlying22 z0) (trodAll_cons_mk (shut_string Tryd.underlying22 z1) (trodAll_cons_mk (shut_string Tryd.underlying22 z2) trodAll_mk0)))) (fun _ _ => rfl) (ok_one (by kernel_rfl) rfl (okWide_bool_mk Tryd.underlying4 _))⟩

noncomputable def wargs : Array Value := #[.string ByteArray.empty, .string ByteArray.empty, .string ByteArray.empty]
theorem reads (os : Os) {H : Type} (enc : TypeId × Value → H) : ∃ places, DataW.whole enc Tryd.prog ((lw os).forCall (fun _ _ => 0) ⟨#[], wargs, []⟩).memory Tryd.f11.params.toList Rows.nameOrderSpec.vars false wargs.toList 8 = some ([.lit (.string []), .lit (.string []), .lit (.string [])], [], places) :=
  ⟨[], by kernel_rfl⟩
set_option maxRecDepth 100000 in
theorem lifted (os : Os) (started : os.Started) (H : Type) (enc : TypeId × Value → H) (G : Stop.Interp) :
    ReturnsInHanded {} Tryd.checked os 11 .any ((OpenSpec.ofChange Rows.nameOrderSpec).preRow enc Tryd.prog Tryd.f11 Rows.nameOrderRow.domain false Rows.nameOrderRow.laid) (((OpenSpec.ofChange Rows.nameOrderSpec).at G).post enc Tryd.prog Tryd.f11 false true false false) := by
  obtain ⟨places, hx⟩ := reads os enc
  refine returnsInHanded_of_row (C := Tryd.checked) (s := OpenSpec.ofChange Rows.nameOrderSpec) own started (by kernel_rfl) Tryd.func11
    (witness_row_atRef (enc := enc) (C := Tryd.checked) false (lw os) wargs rfl (by kernel_rfl) (by kernel_rfl) (by kernel_rfl)
      (OpenSpec.preRow_of_cond 8 hx (by kernel_rfl) (fun k hk => by cases hk) (by kernel_rfl) (door_met os _))) ?_
  intro W base args ds gs before hval hW _ _ hR hL _ _
  exact contract H enc W base args ds gs before hval hW hR hL
theorem said : Rows.NameOrderSaid :=
  OpenClaim.holds_of_cond 11 Tryd.f11 rfl rfl rfl rfl rfl rfl rfl ⟨rfl, rfl, rfl, rfl, rfl⟩ rfl rfl rfl rfl rfl (by kernel_rfl) Tryd.func11 (by kernel_rfl)
    (of_decide_eq_true (by kernel_rfl)) (by unfold Func.isWrapper; first | (rw [if_pos (by decide +kernel)]; kernel_rfl) | (rw [if_neg (by decide +kernel)]; exact ⟨rfl, rfl⟩))
    (fun os started H enc _ G => by rw [OpenClaim.pre_eq_preRow]; exact lifted os started H enc G)
theorem plain (f : FuncId) (fn : Func) (hf : Tryd.pinned.checked.prog.funcNamed "hearsay/hearsaylaw01.NameOrder" = some f) (hfn : Tryd.pinned.checked.prog.funcs[f]? = some fn) :
    Tryd.pinned.checked.prog.looks [] = true ∧ ∀ (j : Nat) t, fn.params[j]? = some t → Tryd.pinned.checked.prog.wantsStandIn t = false := by
  obtain rfl : f = 11 := Option.some.inj ((show Tryd.prog.funcNamed "hearsay/hearsaylaw01.NameOrder" = some 11 by kernel_rfl).symm.trans hf) |>.symm
  obtain rfl : fn = Tryd.f11 := (Option.some.inj (Tryd.func11.symm.trans hfn)).symm
  refine ⟨by kernel_rfl, fun j t ht => ?_⟩
  rw [Tryd.params11] at ht
  have hm : t ∈ [22] := by simpa using Array.mem_of_getElem? ht
  have hall : ([22].all fun u => !Tryd.prog.wantsStandIn u) = true := by kernel_rfl
  exact (show Tryd.prog.wantsStandIn t = false by simpa using List.all_eq_true.1 hall t hm)
/-- THE STATEMENT. -/
theorem card : Rows.NameOrderCardSaid :=
  Claim7.holds_tied_plain_at .later [] _ _ _ _ said (fun _ h => by cases h) (by kernel_rfl) (fun _ h => by cases h) nameOrder_row_tie rfl ⟨rfl, rfl⟩ (by kernel_rfl) rfl (fun f fn hf hfn => by have h := plain f fn hf hfn; exact ⟨h.1.symm, h.2⟩) (by kernel_rfl)
end nameOrder
end Go.Proofs.YtjcdhmpcjpjnmaaDoor
