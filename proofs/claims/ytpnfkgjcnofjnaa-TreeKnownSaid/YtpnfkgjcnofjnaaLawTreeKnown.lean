/- TreeKnown holds: the call returns true. Conditions: none. -/
import Derived.Test.YtpnfkgjcnofjnaaMgSe
import Derived.Deep.CutRange
namespace Go.Proofs.Ytpnfkgjcnofjnaa
open Go.RowKit Go.Shelf Tr Ts

set_option maxRecDepth 100000 in
set_option maxHeartbeats 8000000 in
theorem walk_TreeKnown (w : World) : Calls Try.prog 8 #[] w fun e w' => e = .returned (.bool true) ∧ Below w.heap.size w w' := by
  have HNEW := Lib.hid (ks_new w)
  obtain ⟨n0, hn0⟩ : ∃ n, n = T0 := ⟨_, rfl⟩
  obtain ⟨n1, hn1⟩ : ∃ n, n = T1 := ⟨_, rfl⟩
  obtain ⟨n2, hn2⟩ : ∃ n, n = T2 := ⟨_, rfl⟩
  obtain ⟨n3, hn3⟩ : ∃ n, n = T3 := ⟨_, rfl⟩
  obtain ⟨n4, hn4⟩ : ∃ n, n = T4 := ⟨_, rfl⟩
  obtain ⟨n5, hn5⟩ : ∃ n, n = T5 := ⟨_, rfl⟩
  obtain ⟨n6, hn6⟩ : ∃ n, n = T6 := ⟨_, rfl⟩
  obtain ⟨n7, hn7⟩ : ∃ n, n = T7 := ⟨_, rfl⟩
  have hr : rootN = n0 := hn0.symm
  rw [hr] at HNEW
  have H0 : Hid (∀ X b F, KS w X b n0 F → Calls Try.prog 35 #[ptr b, .string ⟨#[1, 98, 1, 97, 0]⟩, .string ⟨#[49]⟩] X fun e w' => ∃ F', e = .returned (.tuple #[.bool true, .int .i64 0]) ∧ KS w w' b n1 F') := fun X b F h => by
    subst hn0 hn1 hn2 hn3 hn4 hn5 hn6 hn7
    exact c0 h
  have H1 : Hid (∀ X b F, KS w X b n1 F → Calls Try.prog 35 #[ptr b, .string ⟨#[1, 97, 0]⟩, .string ⟨#[50]⟩] X fun e w' => ∃ F', e = .returned (.tuple #[.bool true, .int .i64 0]) ∧ KS w w' b n2 F') := fun X b F h => by
    subst hn0 hn1 hn2 hn3 hn4 hn5 hn6 hn7
    exact c1 h
  have H2 : Hid (∀ X b F, KS w X b n2 F → Calls Try.prog 35 #[ptr b, .string ⟨#[1, 120, 1, 99, 1, 97, 0]⟩, .string ⟨#[51]⟩] X fun e w' => ∃ F', e = .returned (.tuple #[.bool true, .int .i64 0]) ∧ KS w w' b n3 F') := fun X b F h => by
    subst hn0 hn1 hn2 hn3 hn4 hn5 hn6 hn7
    exact c2 h
  have H3 : Hid (∀ X b F, KS w X b n3 F → Calls Try.prog 35 #[ptr b, .string ⟨#[1, 66, 1, 65, 0]⟩, .string ⟨#[52]⟩] X fun e w' => ∃ F', e = .returned (.tuple #[.bool false, .int .i64 0]) ∧ KS w w' b n4 F') := fun X b F h => by
    subst hn0 hn1 hn2 hn3 hn4 hn5 hn6 hn7
    exact c3 h
  have H4 : Hid (∀ X b F, KS w X b n4 F → Calls Try.prog 36 #[ptr b] X fun e w' => e = .returned (.int .i64 3) ∧ KS w w' b n4 F) := fun X b F h => by
    subst hn0 hn1 hn2 hn3 hn4 hn5 hn6 hn7
    exact c4 h
  have H5 : Hid (∀ X b F, KS w X b n4 F → Calls Try.prog 37 #[ptr b, .string ⟨#[1, 98, 1, 65, 0]⟩] X fun e w' => e = .returned (.tuple #[.string ⟨#[52]⟩, .bool true]) ∧ KS w w' b n4 F) := fun X b F h => by
    subst hn0 hn1 hn2 hn3 hn4 hn5 hn6 hn7
    exact c5 h
  have H6 : Hid (∀ X b F, KS w X b n4 F → Calls Try.prog 37 #[ptr b, .string ⟨#[1, 99, 1, 97, 0]⟩] X fun e w' => e = .returned (.tuple #[.string ⟨#[]⟩, .bool false]) ∧ KS w w' b n4 F) := fun X b F h => by
    subst hn0 hn1 hn2 hn3 hn4 hn5 hn6 hn7
    exact c6 h
  have H7 : Hid (∀ X b F, KS w X b n4 F → Calls Try.prog 38 #[ptr b, .string ⟨#[1, 97, 0]⟩] X fun e w' => e = .returned (.tuple #[.string ⟨#[1, 98, 1, 97, 0]⟩, .bool true]) ∧ KS w w' b n4 F) := fun X b F h => by
    subst hn0 hn1 hn2 hn3 hn4 hn5 hn6 hn7
    exact c7 h
  have H8 : Hid (∀ X b F, KS w X b n4 F → Calls Try.prog 38 #[ptr b, .string ⟨#[1, 99, 1, 97, 0]⟩] X fun e w' => e = .returned (.tuple #[.string ⟨#[1, 120, 1, 99, 1, 97, 0]⟩, .bool true]) ∧ KS w w' b n4 F) := fun X b F h => by
    subst hn0 hn1 hn2 hn3 hn4 hn5 hn6 hn7
    exact c8 h
  have H9 : Hid (∀ X b F, KS w X b n4 F → Calls Try.prog 38 #[ptr b, .string ⟨#[1, 120, 1, 99, 1, 97, 0]⟩] X fun e w' => e = .returned (.tuple #[.string ⟨#[]⟩, .bool false]) ∧ KS w w' b n4 F) := fun X b F h => by
    subst hn0 hn1 hn2 hn3 hn4 hn5 hn6 hn7
    exact c9 h
  have H10 : Hid (∀ X b F, KS w X b n4 F → Calls Try.prog 38 #[ptr b, .string ⟨#[0]⟩] X fun e w' => e = .returned (.tuple #[.string ⟨#[1, 97, 0]⟩, .bool true]) ∧ KS w w' b n4 F) := fun X b F h => by
    subst hn0 hn1 hn2 hn3 hn4 hn5 hn6 hn7
    exact c10 h
  have H11 : Hid (∀ X b F, KS w X b n4 F → Calls Try.prog 39 #[ptr b, .string ⟨#[1, 99, 1, 97, 0]⟩] X fun e w' => e = .returned (.bool true) ∧ KS w w' b n4 F) := fun X b F h => by
    subst hn0 hn1 hn2 hn3 hn4 hn5 hn6 hn7
    exact c11 h
  have H12 : Hid (∀ X b F, KS w X b n4 F → Calls Try.prog 39 #[ptr b, .string ⟨#[0]⟩] X fun e w' => e = .returned (.bool true) ∧ KS w w' b n4 F) := fun X b F h => by
    subst hn0 hn1 hn2 hn3 hn4 hn5 hn6 hn7
    exact c12 h
  have H13 : Hid (∀ X b F, KS w X b n4 F → Calls Try.prog 39 #[ptr b, .string ⟨#[1, 100, 1, 97, 0]⟩] X fun e w' => e = .returned (.bool false) ∧ KS w w' b n4 F) := fun X b F h => by
    subst hn0 hn1 hn2 hn3 hn4 hn5 hn6 hn7
    exact c13 h
  have H14 : Hid (∀ X b F, KS w X b n4 F → Calls Try.prog 40 #[ptr b, .string ⟨#[1, 121, 1, 88, 1, 99, 1, 97, 0]⟩] X fun e w' => e = .returned (.tuple #[.string ⟨#[1, 120, 1, 99, 1, 97, 0]⟩, .bool true]) ∧ KS w w' b n4 F) := fun X b F h => by
    subst hn0 hn1 hn2 hn3 hn4 hn5 hn6 hn7
    exact c14 h
  have H15 : Hid (∀ X b F, KS w X b n4 F → Calls Try.prog 40 #[ptr b, .string ⟨#[1, 113, 1, 67, 1, 97, 0]⟩] X fun e w' => e = .returned (.tuple #[.string ⟨#[1, 99, 1, 97, 0]⟩, .bool true]) ∧ KS w w' b n4 F) := fun X b F h => by
    subst hn0 hn1 hn2 hn3 hn4 hn5 hn6 hn7
    exact c15 h
  have H16 : Hid (∀ X b F, KS w X b n4 F → Calls Try.prog 40 #[ptr b, .string ⟨#[1, 122, 0]⟩] X fun e w' => e = .returned (.tuple #[.string ⟨#[0]⟩, .bool true]) ∧ KS w w' b n4 F) := fun X b F h => by
    subst hn0 hn1 hn2 hn3 hn4 hn5 hn6 hn7
    exact c16 h
  have H17 : Hid (∀ X b F, KS w X b n4 F → Calls Try.prog 41 #[ptr b, .string ⟨#[1, 65, 0]⟩] X fun e w' => ∃ F', e = .returned (.bool true) ∧ KS w w' b n5 F') := fun X b F h => by
    subst hn0 hn1 hn2 hn3 hn4 hn5 hn6 hn7
    exact c17 h
  have H18 : Hid (∀ X b F, KS w X b n5 F → Calls Try.prog 41 #[ptr b, .string ⟨#[1, 97, 0]⟩] X fun e w' => ∃ F', e = .returned (.bool false) ∧ KS w w' b n6 F') := fun X b F h => by
    subst hn0 hn1 hn2 hn3 hn4 hn5 hn6 hn7
    exact c18 h
  have H19 : Hid (∀ X b F, KS w X b n6 F → Calls Try.prog 39 #[ptr b, .string ⟨#[1, 97, 0]⟩] X fun e w' => e = .returned (.bool true) ∧ KS w w' b n6 F) := fun X b F h => by
    subst hn0 hn1 hn2 hn3 hn4 hn5 hn6 hn7
    exact c19 h
  have H20 : Hid (∀ X b F, KS w X b n6 F → Calls Try.prog 36 #[ptr b] X fun e w' => e = .returned (.int .i64 2) ∧ KS w w' b n6 F) := fun X b F h => by
    subst hn0 hn1 hn2 hn3 hn4 hn5 hn6 hn7
    exact c20 h
  have H21 : Hid (∀ X b F, KS w X b n6 F → Calls Try.prog 35 #[ptr b, .string ⟨#[97, 46]⟩, .string ⟨#[53]⟩] X fun e w' => e = .returned (.tuple #[.bool false, .int .i64 11]) ∧ KS w w' b n6 F) := fun X b F h => by
    subst hn0 hn1 hn2 hn3 hn4 hn5 hn6 hn7
    exact c21 h
  have H22 : Hid (∀ X b F, KS w X b n6 F → Calls Try.prog 37 #[ptr b, .string ⟨#[97, 46]⟩] X fun e w' => e = .returned (.tuple #[.string ⟨#[]⟩, .bool false]) ∧ KS w w' b n6 F) := fun X b F h => by
    subst hn0 hn1 hn2 hn3 hn4 hn5 hn6 hn7
    exact c22 h
  have H23 : Hid (∀ X b F, KS w X b n6 F → Calls Try.prog 40 #[ptr b, .string ⟨#[]⟩] X fun e w' => e = .returned (.tuple #[.string ⟨#[]⟩, .bool false]) ∧ KS w w' b n6 F) := fun X b F h => by
    subst hn0 hn1 hn2 hn3 hn4 hn5 hn6 hn7
    exact c23 h
  have H24 : Hid (∀ X b F, KS w X b n6 F → Calls Try.prog 35 #[ptr b, .string ⟨#[0]⟩, .string ⟨#[54]⟩] X fun e w' => ∃ F', e = .returned (.tuple #[.bool true, .int .i64 0]) ∧ KS w w' b n7 F') := fun X b F h => by
    subst hn0 hn1 hn2 hn3 hn4 hn5 hn6 hn7
    exact c24 h
  have H25 : Hid (∀ X b F, KS w X b n7 F → Calls Try.prog 37 #[ptr b, .string ⟨#[0]⟩] X fun e w' => e = .returned (.tuple #[.string ⟨#[54]⟩, .bool true]) ∧ KS w w' b n7 F) := fun X b F h => by
    subst hn0 hn1 hn2 hn3 hn4 hn5 hn6 hn7
    exact c25 h
  have H26 : Hid (∀ X b F, KS w X b n7 F → Calls Try.prog 41 #[ptr b, .string ⟨#[97, 46]⟩] X fun e w' => e = .returned (.bool false) ∧ KS w w' b n7 F) := fun X b F h => by
    subst hn0 hn1 hn2 hn3 hn4 hn5 hn6 hn7
    exact c26 h
  have H27 : Hid (∀ X b F, KS w X b n7 F → Calls Try.prog 39 #[ptr b, .string ⟨#[97, 46]⟩] X fun e w' => e = .returned (.bool false) ∧ KS w w' b n7 F) := fun X b F h => by
    subst hn0 hn1 hn2 hn3 hn4 hn5 hn6 hn7
    exact c27 h
  clear hr hn0 hn1 hn2 hn3 hn4 hn5 hn6 hn7
  go_enter Try.func8, Try.ntmps8
  go_upto_region 4 with (go_at_call 34; refine HNEW.out.mono ?_; rintro e v0 ⟨rfl, hk⟩; have KS0 := Lib.hid hk; clear hk)
  obtain ⟨b, hb⟩ : ∃ b, b = w.heap.size := ⟨_, rfl⟩
  have HBW := Lib.hid hb
  rw [← hb] at KS0
  rw [← hb]
  clear hb HNEW
  go_upto_region 5 with (first
    | (go_at_call_of 35 (Value.string ⟨#[1, 98, 1, 97, 0]⟩); refine (H0.out _ _ _ KS0.out).mono ?_; rintro e v1 ⟨F1, rfl, hk⟩; have KS1 := Lib.hid hk; clear hk))
  go_upto_region 6 with (first
    | (go_at_call_of 35 (Value.string ⟨#[1, 97, 0]⟩); refine (H1.out _ _ _ KS1.out).mono ?_; rintro e v2 ⟨F2, rfl, hk⟩; have KS2 := Lib.hid hk; clear hk))
  go_upto_region 7 with (first
    | (go_at_call_of 35 (Value.string ⟨#[1, 120, 1, 99, 1, 97, 0]⟩); refine (H2.out _ _ _ KS2.out).mono ?_; rintro e v3 ⟨F3, rfl, hk⟩; have KS3 := Lib.hid hk; clear hk))
  go_upto_region 8 with (first
    | (go_at_call_of 35 (Value.string ⟨#[1, 66, 1, 65, 0]⟩); refine (H3.out _ _ _ KS3.out).mono ?_; rintro e v4 ⟨F4, rfl, hk⟩; have KS4 := Lib.hid hk; clear hk))
  go_upto_region 10 with (first
    | (go_at_call 36; refine (H4.out _ _ _ KS4.out).mono ?_; rintro e v5 ⟨rfl, hk⟩; have KS5 := Lib.hid hk; clear hk))
  go_upto_region 11 with (first
    | (go_at_call_of 37 (Value.string ⟨#[1, 98, 1, 65, 0]⟩); refine (H5.out _ _ _ KS5.out).mono ?_; rintro e v6 ⟨rfl, hk⟩; have KS6 := Lib.hid hk; clear hk))
  go_upto_region 14 with (first
    | (go_at_call_of 37 (Value.string ⟨#[1, 99, 1, 97, 0]⟩); refine (H6.out _ _ _ KS6.out).mono ?_; rintro e v7 ⟨rfl, hk⟩; have KS7 := Lib.hid hk; clear hk))
  go_upto_region 15 with (first
    | (go_at_call_of 38 (Value.string ⟨#[1, 97, 0]⟩); refine (H7.out _ _ _ KS7.out).mono ?_; rintro e v8 ⟨rfl, hk⟩; have KS8 := Lib.hid hk; clear hk))
  go_upto_region 16 with (first
    | (go_at_call_of 38 (Value.string ⟨#[1, 99, 1, 97, 0]⟩); refine (H8.out _ _ _ KS8.out).mono ?_; rintro e v9 ⟨rfl, hk⟩; have KS9 := Lib.hid hk; clear hk))
  go_upto_region 17 with (first
    | (go_at_call_of 38 (Value.string ⟨#[1, 120, 1, 99, 1, 97, 0]⟩); refine (H9.out _ _ _ KS9.out).mono ?_; rintro e v10 ⟨rfl, hk⟩; have KS10 := Lib.hid hk; clear hk))
  go_upto_region 18 with (first
    | (go_at_call_of 38 (Value.string ⟨#[0]⟩); refine (H10.out _ _ _ KS10.out).mono ?_; rintro e v11 ⟨rfl, hk⟩; have KS11 := Lib.hid hk; clear hk))
  go_upto_region 20 with (first
    | (go_at_call_of 39 (Value.string ⟨#[1, 99, 1, 97, 0]⟩); refine (H11.out _ _ _ KS11.out).mono ?_; rintro e v12 ⟨rfl, hk⟩; have KS12 := Lib.hid hk; clear hk)
    | (go_at_call_of 39 (Value.string ⟨#[0]⟩); refine (H12.out _ _ _ KS12.out).mono ?_; rintro e v13 ⟨rfl, hk⟩; have KS13 := Lib.hid hk; clear hk)
    | (go_at_call_of 39 (Value.string ⟨#[1, 100, 1, 97, 0]⟩); refine (H13.out _ _ _ KS13.out).mono ?_; rintro e v14 ⟨rfl, hk⟩; have KS14 := Lib.hid hk; clear hk))
  go_upto_region 21 with (first
    | (go_at_call_of 40 (Value.string ⟨#[1, 121, 1, 88, 1, 99, 1, 97, 0]⟩); refine (H14.out _ _ _ KS14.out).mono ?_; rintro e v15 ⟨rfl, hk⟩; have KS15 := Lib.hid hk; clear hk))
  go_upto_region 22 with (first
    | (go_at_call_of 40 (Value.string ⟨#[1, 113, 1, 67, 1, 97, 0]⟩); refine (H15.out _ _ _ KS15.out).mono ?_; rintro e v16 ⟨rfl, hk⟩; have KS16 := Lib.hid hk; clear hk))
  go_upto_region 25 with (first
    | (go_at_call_of 40 (Value.string ⟨#[1, 122, 0]⟩); refine (H16.out _ _ _ KS16.out).mono ?_; rintro e v17 ⟨rfl, hk⟩; have KS17 := Lib.hid hk; clear hk))
  go_upto_region 27 with (first
    | (go_at_call_of 41 (Value.string ⟨#[1, 65, 0]⟩); refine (H17.out _ _ _ KS17.out).mono ?_; rintro e v18 ⟨F18, rfl, hk⟩; have KS18 := Lib.hid hk; clear hk)
    | (go_at_call_of 41 (Value.string ⟨#[1, 97, 0]⟩); refine (H18.out _ _ _ KS18.out).mono ?_; rintro e v19 ⟨F19, rfl, hk⟩; have KS19 := Lib.hid hk; clear hk)
    | (go_at_call_of 39 (Value.string ⟨#[1, 97, 0]⟩); refine (H19.out _ _ _ KS19.out).mono ?_; rintro e v20 ⟨rfl, hk⟩; have KS20 := Lib.hid hk; clear hk)
    | (go_at_call 36; refine (H20.out _ _ _ KS20.out).mono ?_; rintro e v21 ⟨rfl, hk⟩; have KS21 := Lib.hid hk; clear hk))
  go_upto_region 28 with (first
    | (go_at_call_of 35 (Value.string ⟨#[97, 46]⟩); refine (H21.out _ _ _ KS21.out).mono ?_; rintro e v22 ⟨rfl, hk⟩; have KS22 := Lib.hid hk; clear hk))
  go_upto_region 29 with (first
    | (go_at_call_of 37 (Value.string ⟨#[97, 46]⟩); refine (H22.out _ _ _ KS22.out).mono ?_; rintro e v23 ⟨rfl, hk⟩; have KS23 := Lib.hid hk; clear hk))
  go_upto_region 30 with (first
    | (go_at_call_of 40 (Value.string ⟨#[]⟩); refine (H23.out _ _ _ KS23.out).mono ?_; rintro e v24 ⟨rfl, hk⟩; have KS24 := Lib.hid hk; clear hk))
  go_upto_region 31 with (first
    | (go_at_call_of 35 (Value.string ⟨#[0]⟩); refine (H24.out _ _ _ KS24.out).mono ?_; rintro e v25 ⟨F25, rfl, hk⟩; have KS25 := Lib.hid hk; clear hk))
  go_upto_region 32 with (first
    | (go_at_call_of 37 (Value.string ⟨#[0]⟩); refine (H25.out _ _ _ KS25.out).mono ?_; rintro e v26 ⟨rfl, hk⟩; have KS26 := Lib.hid hk; clear hk))
  go_upto_region 35 with (first
    | (go_at_call_of 41 (Value.string ⟨#[97, 46]⟩); refine (H26.out _ _ _ KS26.out).mono ?_; rintro e v27 ⟨rfl, hk⟩; have KS27 := Lib.hid hk; clear hk)
    | (go_at_call_of 39 (Value.string ⟨#[97, 46]⟩); refine (H27.out _ _ _ KS27.out).mono ?_; rintro e v28 ⟨rfl, hk⟩; have KS28 := Lib.hid hk; clear hk))
  have HB0 := Lib.hid KS28.out.bel
  go_upto_region 36 with (go_at_call 12; refine (Ti.PutN_any ⟨#[0]⟩ 1 _).mono ?_; rintro e u1 ⟨rfl, rfl⟩)
  go_upto_region 37 with (go_at_call 26; refine (Ti.GetN_any ⟨#[0]⟩ _ (by decide)).mono ?_; rintro e u2 ⟨rfl, hb⟩; have Hu2 := Lib.hid (HB0.out.trans (hb.mono HB0.out.size)); clear hb)
  go_upto_region 38 with (go_at_call 25; refine (Ti.NextN_any ⟨#[0]⟩ _ (by decide)).mono ?_; rintro e u3 ⟨rfl, hb⟩; have Hu3 := Lib.hid (Hu2.out.trans (hb.mono Hu2.out.size)); clear hb)
  go_upto_region 39 with (go_at_call 30; refine (Ti.EnclN_any ⟨#[0]⟩ _ (by decide)).mono ?_; rintro e u4 ⟨rfl, hb⟩; have Hu4 := Lib.hid (Hu3.out.trans (hb.mono Hu3.out.size)); clear hb)
  go_wp2_with (first
    | (go_at_call 11; refine (Ti.LenN_any _).mono ?_; rintro e u5 ⟨rfl, rfl⟩)
    | (go_at_call 31; refine (Ti.ExisN_any ⟨#[0]⟩ _ (by decide)).mono ?_; rintro e u6 ⟨rfl, hb⟩; have Hu6 := Lib.hid (Hu4.out.trans (hb.mono Hu4.out.size)); clear hb)
    | (go_at_call 14; refine (Ti.DelN_any ⟨#[0]⟩ _ (by decide)).mono ?_; rintro e u7 ⟨rfl, hb⟩; have Hu7 := Lib.hid (Hu6.out.trans (hb.mono Hu6.out.size)); clear hb)
    | (go_at_call 20; refine (Ti.lawAllN_any).mono ?_; rintro e u8 ⟨vv, rfl, hr, hb⟩; obtain ⟨Av, cv, hv, _⟩ := ownK_form hr; subst hv; have Hu8 := Lib.hid (Hu7.out.trans (hb.mono Hu7.out.size)); clear hb hr)
    | (go_at_call 18; refine (Ti.lawBelowN_any ⟨#[0]⟩ (by decide)).mono ?_; rintro e u9 ⟨vv, rfl, hr, hb⟩; obtain ⟨Av, cv, hv, _⟩ := ownK_form hr; subst hv; have Hu9 := Lib.hid (Hu8.out.trans (hb.mono Hu8.out.size)); clear hb hr)
    | (go_at_call 29; refine (Ti.grows_any _).mono ?_; rintro e u10 ⟨rfl, hb⟩; have Hu10 := Lib.hid (Hu9.out.trans (hb.mono Hu9.out.size)); clear hb))
  go_ret
  exact ⟨rfl, Hu10.out⟩

namespace treeKnown
open Go.ChangeShapes Go.WideShapes Go.ChangeAt
open Go.ChangeMaps (open_string shut_string)
set_option maxRecDepth 100000 in
theorem contract (H : Type) (enc : TypeId × Value → H) (W : World) (base : Nat) (args : Array Value) (ds gs : List (DataW H)) (before : List MemPlace)
    (hval : ∀ (j : Nat) t v, Try.f8.params[j]? = some t → args[j]? = some v → Value.okWide Try.prog W .any base t v)
    (hW : DataW.Whole enc Try.prog Try.f8.params.toList Rows.treeKnownSpec.vars false W args.toList ds gs before)
    (hR : (DataW.weightsEach Try.prog (Try.f8.params.toList ++ (OpenSpec.ofChange Rows.treeKnownSpec).bare.plain.varTypes Try.prog) (ds ++ gs)).all (· ≤ reachBytes) = true) :
    Calls Try.prog 8 args W fun e W' => ∃ v, e = .returned v ∧ Rows.treeKnownSpec.post enc Try.prog Try.f8 false true false false W args v W' := by
  have hW' := hW
  obtain ⟨p, q, hA0, hV, rfl, hfz, hnd⟩ := hW
  have hA : DataW.TrodAll enc Try.prog W 0 (fun _ => true) true Try.f8.params.toList args.toList ds p := hA0
  have HS := trodAll_stays (W' := W) (sp := fun _ => true) out (by kernel_rfl) hA
  have HA := Lib.hid hA
  rw [Try.params8] at hA hval hR

  obtain ⟨ha0, rfl, rfl⟩ := trodAll_nil hA
  obtain rfl : args = #[] := by cases args; simp_all
  obtain ⟨rfl, rfl⟩ := trodVars_none hV

  clear hA0 HS

  refine (walk_TreeKnown W ).mono fun e W' ⟨he, hb⟩ => ?_
  subst he
  have hlt := hW'.lt
  refine ⟨_, rfl, post_low hW' (pa := _) (pv := []) rfl hb (fun _ _ _ => trodAll_cons_mk (shut_bool Try.underlying4 _) trodAll_mk0) (fun sp hsp => ?_) (fun _ _ => rfl) (ok_one (by kernel_rfl) rfl (okWide_bool_mk Try.underlying4 _))⟩
  exact trodAll_stays out (by kernel_rfl) HA.out (fun x hx => hb.same (hlt x (List.mem_append_left _ hx))) (fun x hx => hsp x (List.mem_append_left _ hx))

noncomputable def wargs : Array Value := #[]
noncomputable def lw (os : Os) : World := World.settled Try.prog os
theorem reads (os : Os) {H : Type} (enc : TypeId × Value → H) : ∃ places, DataW.whole enc Try.prog ((lw os).forCall (fun _ _ => 0) ⟨#[], wargs, []⟩).memory Try.f8.params.toList Rows.treeKnownSpec.vars false wargs.toList 8 = some ([], [], places) :=
  ⟨[], by kernel_rfl⟩
set_option maxRecDepth 100000 in
theorem lifted (os : Os) (started : os.Started) (H : Type) (enc : TypeId × Value → H) (G : Stop.Interp) :
    ReturnsInHanded {} Try.checked os 8 .any ((OpenSpec.ofChange Rows.treeKnownSpec).preRow enc Try.prog Try.f8 Rows.treeKnownRow.domain false Rows.treeKnownRow.laid) (((OpenSpec.ofChange Rows.treeKnownSpec).at G).post enc Try.prog Try.f8 false true false false) := by
  obtain ⟨places, hx⟩ := reads os enc
  refine returnsInHanded_of_row (C := Try.checked) (s := OpenSpec.ofChange Rows.treeKnownSpec) own started (by kernel_rfl) Try.func8
    (witness_row_atRef (enc := enc) (C := Try.checked) false (lw os) wargs rfl (by kernel_rfl) (by kernel_rfl) (by kernel_rfl)
      (OpenSpec.preRow_of_cond 8 hx (by kernel_rfl) (fun k hk => by cases hk) (by kernel_rfl) (laidMetH_nil _ _))) ?_
  intro W base args ds gs before hval hW _ _ hR _ _ _
  exact contract H enc W base args ds gs before hval hW hR
/-- THE STATEMENT. -/
theorem said : Rows.TreeKnownSaid :=
  OpenClaim.holds_of_cond 8 Try.f8 rfl rfl rfl rfl rfl rfl rfl ⟨rfl, rfl, rfl, rfl, rfl⟩ rfl rfl rfl rfl rfl (by kernel_rfl) Try.func8 (by kernel_rfl)
    (of_decide_eq_true (by kernel_rfl)) (by unfold Func.isWrapper; first | (rw [if_pos (by decide +kernel)]; kernel_rfl) | (rw [if_neg (by decide +kernel)]; exact ⟨rfl, rfl⟩))
    (fun os started H enc _ G => by rw [OpenClaim.pre_eq_preRow]; exact lifted os started H enc G)
end treeKnown
end Go.Proofs.Ytpnfkgjcnofjnaa
