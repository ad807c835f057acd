/- The document's answers for numbers as bytes, and short texts. -/
import Derived.Test.YtklpjlligmklfaaOct
namespace Go.Proofs.Ytklpjlligmklfaa
open Go.RowKit

theorem ret3 {k : IntKind} {a b : Int} {x y : Value} (h : a = b) : Ending.returned (.tuple #[.int k a, x, y]) = .returned (.tuple #[.int k b, x, y]) := by rw [h]

set_option maxHeartbeats 1000000 in
set_option maxRecDepth 100000 in
theorem refTake_1_ok (A : Option Addr) (l : List UInt8) (c n : Nat) (w : World) (_hc : l.length ≤ c) (hm : l.length ≤ 140737488355328) (lo hi : Nat) (hr : Bs w lo hi A l) (hk : n + 1 ≤ l.length) :
    Calls Try.prog 17 #[.slice A l.length c, .int .i64 n, .int .i64 1] w fun e w' => e = .returned (.tuple #[.int .u32 (Oc.num ((l.drop n).take 1)), .int .i64 (n + 1), .int .i64 0]) ∧ w = w' := by
  obtain ⟨g0, o0, rfl, _, _, hcell⟩ := hr (by omega)
  have h0 : w.cell? ⟨g0, o0 + (n), none⟩ = _ := hcell n (by omega)
  have b0 := (l[n]'(by omega)).toNat_lt
  have s0 := num_step l n 0 (by omega)
  have q0 := Oc.num_take_lt (l.drop n) 1
  have z0 : Oc.num ((l.drop n).take 0) = 0 := by simp [Oc.num]
  rw [z0] at s0
  clear hcell hr z0
  simp only [Nat.add_zero] at s0 b0
  generalize (l[n]'(by omega)).toNat = x0 at *
  generalize Oc.num ((l.drop n).take 1) = p1 at *
  have HS0 := Lib.hid s0; clear s0;
  go_enter Try.func17, Try.ntmps17
  go_wp2
  refine wp_loop_rounds 2 ?_
  rw [rounds_succ]
  go_wp2
  rw [rounds_succ]
  go_wp2
  go_ret3
  have e0 := HS0.out
  refine ⟨ret3 ?_, rfl⟩
  first | omega | (simp; omega) | (show _ = _; omega)
set_option maxHeartbeats 1000000 in
theorem refTake_1 (A : Option Addr) (l : List UInt8) (c : Nat) (z : Int) (w : World) (hc : l.length ≤ c) (hm : l.length ≤ 140737488355328) (lo hi : Nat) (hr : Bs w lo hi A l) :
    Calls Try.prog 17 #[.slice A l.length c, .int .i64 z, .int .i64 1] w fun e w' => e = .returned (takeV .u32 1 l z) ∧ w = w' := by
  unfold takeV
  by_cases h0 : z < 0
  · rw [if_pos (.inl h0)]
    go_enter Try.func17, Try.ntmps17
    go_wp2
    go_ret3
    exact ⟨rfl, rfl⟩
  · obtain ⟨n, rfl⟩ : ∃ n : Nat, z = n := ⟨z.toNat, by omega⟩
    by_cases h1 : l.length < n
    · rw [if_pos (.inr (by omega))]
      go_enter Try.func17, Try.ntmps17
      go_wp2
      go_ret3
      exact ⟨rfl, rfl⟩
    · rw [if_neg (by omega)]
      by_cases h2 : l.length < n + 1
      · rw [if_pos (by omega)]
        have h3 : (l.length : Int) - n < 1 := by omega
        go_enter Try.func17, Try.ntmps17
        go_wp2
        go_ret3
        exact ⟨rfl, rfl⟩
      · rw [if_neg (by omega)]
        exact refTake_1_ok A l c n w hc hm lo hi hr (by omega)

set_option maxHeartbeats 1000000 in
set_option maxRecDepth 100000 in
theorem refTake_2_ok (A : Option Addr) (l : List UInt8) (c n : Nat) (w : World) (_hc : l.length ≤ c) (hm : l.length ≤ 140737488355328) (lo hi : Nat) (hr : Bs w lo hi A l) (hk : n + 2 ≤ l.length) :
    Calls Try.prog 17 #[.slice A l.length c, .int .i64 n, .int .i64 2] w fun e w' => e = .returned (.tuple #[.int .u32 (Oc.num ((l.drop n).take 2)), .int .i64 (n + 2), .int .i64 0]) ∧ w = w' := by
  obtain ⟨g0, o0, rfl, _, _, hcell⟩ := hr (by omega)
  have h0 : w.cell? ⟨g0, o0 + (n), none⟩ = _ := hcell n (by omega)
  have b0 := (l[n]'(by omega)).toNat_lt
  have s0 := num_step l n 0 (by omega)
  have q0 := Oc.num_take_lt (l.drop n) 1
  have h1 : w.cell? ⟨g0, o0 + (n + 1), none⟩ = _ := hcell (n + 1) (by omega)
  have b1 := (l[n + 1]'(by omega)).toNat_lt
  have s1 := num_step l n 1 (by omega)
  have q1 := Oc.num_take_lt (l.drop n) 2
  have z0 : Oc.num ((l.drop n).take 0) = 0 := by simp [Oc.num]
  rw [z0] at s0
  clear hcell hr z0
  simp only [Nat.add_zero] at s0 b0
  generalize (l[n]'(by omega)).toNat = x0 at *
  generalize (l[n + 1]'(by omega)).toNat = x1 at *
  generalize Oc.num ((l.drop n).take 1) = p1 at *
  generalize Oc.num ((l.drop n).take 2) = p2 at *
  have HS0 := Lib.hid s0; clear s0; have HS1 := Lib.hid s1; clear s1;
  go_enter Try.func17, Try.ntmps17
  go_wp2
  refine wp_loop_rounds 3 ?_
  rw [rounds_succ]
  go_wp2
  rw [rounds_succ]
  go_wp2
  rw [rounds_succ]
  go_wp2
  go_ret3
  have e0 := HS0.out; have e1 := HS1.out
  refine ⟨ret3 ?_, rfl⟩
  first | omega | (simp; omega) | (show _ = _; omega)
set_option maxHeartbeats 1000000 in
theorem refTake_2 (A : Option Addr) (l : List UInt8) (c : Nat) (z : Int) (w : World) (hc : l.length ≤ c) (hm : l.length ≤ 140737488355328) (lo hi : Nat) (hr : Bs w lo hi A l) :
    Calls Try.prog 17 #[.slice A l.length c, .int .i64 z, .int .i64 2] w fun e w' => e = .returned (takeV .u32 2 l z) ∧ w = w' := by
  unfold takeV
  by_cases h0 : z < 0
  · rw [if_pos (.inl h0)]
    go_enter Try.func17, Try.ntmps17
    go_wp2
    go_ret3
    exact ⟨rfl, rfl⟩
  · obtain ⟨n, rfl⟩ : ∃ n : Nat, z = n := ⟨z.toNat, by omega⟩
    by_cases h1 : l.length < n
    · rw [if_pos (.inr (by omega))]
      go_enter Try.func17, Try.ntmps17
      go_wp2
      go_ret3
      exact ⟨rfl, rfl⟩
    · rw [if_neg (by omega)]
      by_cases h2 : l.length < n + 2
      · rw [if_pos (by omega)]
        have h3 : (l.length : Int) - n < 2 := by omega
        go_enter Try.func17, Try.ntmps17
        go_wp2
        go_ret3
        exact ⟨rfl, rfl⟩
      · rw [if_neg (by omega)]
        exact refTake_2_ok A l c n w hc hm lo hi hr (by omega)

set_option maxHeartbeats 1000000 in
set_option maxRecDepth 100000 in
theorem refTake_4_ok (A : Option Addr) (l : List UInt8) (c n : Nat) (w : World) (_hc : l.length ≤ c) (hm : l.length ≤ 140737488355328) (lo hi : Nat) (hr : Bs w lo hi A l) (hk : n + 4 ≤ l.length) :
    Calls Try.prog 17 #[.slice A l.length c, .int .i64 n, .int .i64 4] w fun e w' => e = .returned (.tuple #[.int .u32 (Oc.num ((l.drop n).take 4)), .int .i64 (n + 4), .int .i64 0]) ∧ w = w' := by
  obtain ⟨g0, o0, rfl, _, _, hcell⟩ := hr (by omega)
  have h0 : w.cell? ⟨g0, o0 + (n), none⟩ = _ := hcell n (by omega)
  have b0 := (l[n]'(by omega)).toNat_lt
  have s0 := num_step l n 0 (by omega)
  have q0 := Oc.num_take_lt (l.drop n) 1
  have h1 : w.cell? ⟨g0, o0 + (n + 1), none⟩ = _ := hcell (n + 1) (by omega)
  have b1 := (l[n + 1]'(by omega)).toNat_lt
  have s1 := num_step l n 1 (by omega)
  have q1 := Oc.num_take_lt (l.drop n) 2
  have h2 : w.cell? ⟨g0, o0 + (n + 2), none⟩ = _ := hcell (n + 2) (by omega)
  have b2 := (l[n + 2]'(by omega)).toNat_lt
  have s2 := num_step l n 2 (by omega)
  have q2 := Oc.num_take_lt (l.drop n) 3
  have h3 : w.cell? ⟨g0, o0 + (n + 3), none⟩ = _ := hcell (n + 3) (by omega)
  have b3 := (l[n + 3]'(by omega)).toNat_lt
  have s3 := num_step l n 3 (by omega)
  have q3 := Oc.num_take_lt (l.drop n) 4
  have z0 : Oc.num ((l.drop n).take 0) = 0 := by simp [Oc.num]
  rw [z0] at s0
  clear hcell hr z0
  simp only [Nat.add_zero] at s0 b0
  generalize (l[n]'(by omega)).toNat = x0 at *
  generalize (l[n + 1]'(by omega)).toNat = x1 at *
  generalize (l[n + 2]'(by omega)).toNat = x2 at *
  generalize (l[n + 3]'(by omega)).toNat = x3 at *
  generalize Oc.num ((l.drop n).take 1) = p1 at *
  generalize Oc.num ((l.drop n).take 2) = p2 at *
  generalize Oc.num ((l.drop n).take 3) = p3 at *
  generalize Oc.num ((l.drop n).take 4) = p4 at *
  have HS0 := Lib.hid s0; clear s0; have HS1 := Lib.hid s1; clear s1; have HS2 := Lib.hid s2; clear s2; have HS3 := Lib.hid s3; clear s3;
  go_enter Try.func17, Try.ntmps17
  go_wp2
  refine wp_loop_rounds 5 ?_
  rw [rounds_succ]
  go_wp2
  rw [rounds_succ]
  go_wp2
  rw [rounds_succ]
  go_wp2
  rw [rounds_succ]
  go_wp2
  rw [rounds_succ]
  go_wp2
  go_ret3
  have e0 := HS0.out; have e1 := HS1.out; have e2 := HS2.out; have e3 := HS3.out
  refine ⟨ret3 ?_, rfl⟩
  first | omega | (simp; omega) | (show _ = _; omega)
set_option maxHeartbeats 1000000 in
theorem refTake_4 (A : Option Addr) (l : List UInt8) (c : Nat) (z : Int) (w : World) (hc : l.length ≤ c) (hm : l.length ≤ 140737488355328) (lo hi : Nat) (hr : Bs w lo hi A l) :
    Calls Try.prog 17 #[.slice A l.length c, .int .i64 z, .int .i64 4] w fun e w' => e = .returned (takeV .u32 4 l z) ∧ w = w' := by
  unfold takeV
  by_cases h0 : z < 0
  · rw [if_pos (.inl h0)]
    go_enter Try.func17, Try.ntmps17
    go_wp2
    go_ret3
    exact ⟨rfl, rfl⟩
  · obtain ⟨n, rfl⟩ : ∃ n : Nat, z = n := ⟨z.toNat, by omega⟩
    by_cases h1 : l.length < n
    · rw [if_pos (.inr (by omega))]
      go_enter Try.func17, Try.ntmps17
      go_wp2
      go_ret3
      exact ⟨rfl, rfl⟩
    · rw [if_neg (by omega)]
      by_cases h2 : l.length < n + 4
      · rw [if_pos (by omega)]
        have h3 : (l.length : Int) - n < 4 := by omega
        go_enter Try.func17, Try.ntmps17
        go_wp2
        go_ret3
        exact ⟨rfl, rfl⟩
      · rw [if_neg (by omega)]
        exact refTake_4_ok A l c n w hc hm lo hi hr (by omega)

set_option maxHeartbeats 1000000 in
set_option maxRecDepth 100000 in
theorem refPut_1 (A : Option Addr) (l : List UInt8) (c v : Nat) (w : World) (hnil : A = none → c = 0) (hm : l.length ≤ 140737488355300) (_hv : v < 4294967296) (lo : Nat) (hr : Bs w lo w.heap.size A l) :
    Calls Try.prog 12 #[.slice A l.length c, .int .u32 v, .int .i64 1] w fun e w' => ∃ g cp, e = .returned (.slice (some ⟨g, 0, none⟩) (l.length + 1) cp) ∧ w'.ownsRow w.heap.size 5 1 (.slice (some ⟨g, 0, none⟩) (l.length + 1) cp) (l.length + 1) (bv (l ++ Oc.beb 1 v)) ∧ Below w.heap.size w w' := by
  obtain ⟨i0, hi, hz0, hz1, hz2⟩ := info_parts Try.infoByte
  have HR := Lib.hid hr
  have HN := Lib.hid hnil
  clear hr hnil
  go_enter Try.func12, Try.ntmps12
  go_wp2_with (at_builtin; refine wpList_append_bs rfl _ (.tmp 9) _ rfl w.heap.size _ i0 _ Try.underlying22 hi hz0 hz1 hz2 rfl _ 0 [] rfl (World.ownsRow_nil _ _ _ _) lo w.heap.size A c l rfl HR.out HN.out (by omega) (Nat.le_refl _) ?_; intro v0 w0 O0' hg0; have B0 := below_self hg0 (Nat.le_refl _) (fun k hk => absurd (show (none : Option Nat) = some k from hk) (by simp)); have O0 := own_to O0' (Nat.zero_add _) (List.nil_append _); clear O0' hg0)
  refine wp_loop_rounds 2 ?_
  rw [rounds_succ]
  go_wp2_with (at_builtin; refine wpList_append_one rfl (.tmp 17) (.tmp 24) _ rfl _ i0 _ Try.underlying22 hi hz0 hz1 hz2 rfl w.heap.size w v0 (l.length) _ rfl O0 B0 (Nat.le_refl _) _ rfl _ rfl (by omega) ?_; intro v1 w1 O1 B1)
  obtain ⟨g, cp, rfl, hcp, hgl, hgs⟩ := own_pos O1 (by omega)
  rw [rounds_succ]
  go_wp2
  go_ret
  refine ⟨g, cp, rfl, own_to O1 rfl ?_, B1⟩
  rw [bv_append]
  try simp only [List.append_assoc, List.cons_append, List.nil_append]
  congr 1
  exact bv_beb1 v (by omega)

set_option maxHeartbeats 1000000 in
set_option maxRecDepth 100000 in
theorem refPut_2 (A : Option Addr) (l : List UInt8) (c v : Nat) (w : World) (hnil : A = none → c = 0) (hm : l.length ≤ 140737488355300) (_hv : v < 4294967296) (lo : Nat) (hr : Bs w lo w.heap.size A l) :
    Calls Try.prog 12 #[.slice A l.length c, .int .u32 v, .int .i64 2] w fun e w' => ∃ g cp, e = .returned (.slice (some ⟨g, 0, none⟩) (l.length + 2) cp) ∧ w'.ownsRow w.heap.size 5 1 (.slice (some ⟨g, 0, none⟩) (l.length + 2) cp) (l.length + 2) (bv (l ++ Oc.beb 2 v)) ∧ Below w.heap.size w w' := by
  obtain ⟨i0, hi, hz0, hz1, hz2⟩ := info_parts Try.infoByte
  have HR := Lib.hid hr
  have HN := Lib.hid hnil
  clear hr hnil
  go_enter Try.func12, Try.ntmps12
  go_wp2_with (at_builtin; refine wpList_append_bs rfl _ (.tmp 9) _ rfl w.heap.size _ i0 _ Try.underlying22 hi hz0 hz1 hz2 rfl _ 0 [] rfl (World.ownsRow_nil _ _ _ _) lo w.heap.size A c l rfl HR.out HN.out (by omega) (Nat.le_refl _) ?_; intro v0 w0 O0' hg0; have B0 := below_self hg0 (Nat.le_refl _) (fun k hk => absurd (show (none : Option Nat) = some k from hk) (by simp)); have O0 := own_to O0' (Nat.zero_add _) (List.nil_append _); clear O0' hg0)
  refine wp_loop_rounds 3 ?_
  rw [rounds_succ]
  go_wp2_with (at_builtin; refine wpList_append_one rfl (.tmp 17) (.tmp 24) _ rfl _ i0 _ Try.underlying22 hi hz0 hz1 hz2 rfl w.heap.size w v0 (l.length) _ rfl O0 B0 (Nat.le_refl _) _ rfl _ rfl (by omega) ?_; intro v1 w1 O1 B1)
  rw [rounds_succ]
  go_wp2_with (at_builtin; refine wpList_append_one rfl (.tmp 17) (.tmp 24) _ rfl _ i0 _ Try.underlying22 hi hz0 hz1 hz2 rfl w.heap.size w v1 (l.length + 1) _ rfl O1 B1 (Nat.le_refl _) _ rfl _ rfl (by omega) ?_; intro v2 w2 O2 B2)
  obtain ⟨g, cp, rfl, hcp, hgl, hgs⟩ := own_pos O2 (by omega)
  rw [rounds_succ]
  go_wp2
  go_ret
  refine ⟨g, cp, rfl, own_to O2 rfl ?_, B2⟩
  rw [bv_append]
  try simp only [List.append_assoc, List.cons_append, List.nil_append]
  congr 1
  exact bv_beb2 v (by omega) (by omega)

set_option maxHeartbeats 1000000 in
set_option maxRecDepth 100000 in
theorem refPut_4 (A : Option Addr) (l : List UInt8) (c v : Nat) (w : World) (hnil : A = none → c = 0) (hm : l.length ≤ 140737488355300) (hv : v < 4294967296) (lo : Nat) (hr : Bs w lo w.heap.size A l) :
    Calls Try.prog 12 #[.slice A l.length c, .int .u32 v, .int .i64 4] w fun e w' => ∃ g cp, e = .returned (.slice (some ⟨g, 0, none⟩) (l.length + 4) cp) ∧ w'.ownsRow w.heap.size 5 1 (.slice (some ⟨g, 0, none⟩) (l.length + 4) cp) (l.length + 4) (bv (l ++ Oc.beb 4 v)) ∧ Below w.heap.size w w' := by
  obtain ⟨i0, hi, hz0, hz1, hz2⟩ := info_parts Try.infoByte
  have HR := Lib.hid hr
  have HN := Lib.hid hnil
  clear hr hnil
  go_enter Try.func12, Try.ntmps12
  go_wp2_with (at_builtin; refine wpList_append_bs rfl _ (.tmp 9) _ rfl w.heap.size _ i0 _ Try.underlying22 hi hz0 hz1 hz2 rfl _ 0 [] rfl (World.ownsRow_nil _ _ _ _) lo w.heap.size A c l rfl HR.out HN.out (by omega) (Nat.le_refl _) ?_; intro v0 w0 O0' hg0; have B0 := below_self hg0 (Nat.le_refl _) (fun k hk => absurd (show (none : Option Nat) = some k from hk) (by simp)); have O0 := own_to O0' (Nat.zero_add _) (List.nil_append _); clear O0' hg0)
  refine wp_loop_rounds 5 ?_
  rw [rounds_succ]
  go_wp2_with (at_builtin; refine wpList_append_one rfl (.tmp 17) (.tmp 24) _ rfl _ i0 _ Try.underlying22 hi hz0 hz1 hz2 rfl w.heap.size w v0 (l.length) _ rfl O0 B0 (Nat.le_refl _) _ rfl _ rfl (by omega) ?_; intro v1 w1 O1 B1)
  rw [rounds_succ]
  go_wp2_with (at_builtin; refine wpList_append_one rfl (.tmp 17) (.tmp 24) _ rfl _ i0 _ Try.underlying22 hi hz0 hz1 hz2 rfl w.heap.size w v1 (l.length + 1) _ rfl O1 B1 (Nat.le_refl _) _ rfl _ rfl (by omega) ?_; intro v2 w2 O2 B2)
  rw [rounds_succ]
  go_wp2_with (at_builtin; refine wpList_append_one rfl (.tmp 17) (.tmp 24) _ rfl _ i0 _ Try.underlying22 hi hz0 hz1 hz2 rfl w.heap.size w v2 (l.length + 2) _ rfl O2 B2 (Nat.le_refl _) _ rfl _ rfl (by omega) ?_; intro v3 w3 O3 B3)
  rw [rounds_succ]
  go_wp2_with (at_builtin; refine wpList_append_one rfl (.tmp 17) (.tmp 24) _ rfl _ i0 _ Try.underlying22 hi hz0 hz1 hz2 rfl w.heap.size w v3 (l.length + 3) _ rfl O3 B3 (Nat.le_refl _) _ rfl _ rfl (by omega) ?_; intro v4 w4 O4 B4)
  obtain ⟨g, cp, rfl, hcp, hgl, hgs⟩ := own_pos O4 (by omega)
  rw [rounds_succ]
  go_wp2
  go_ret
  refine ⟨g, cp, rfl, own_to O4 rfl ?_, B4⟩
  rw [bv_append]
  try simp only [List.append_assoc, List.cons_append, List.nil_append]
  congr 1
  exact bv_beb4 v (by omega) (by omega) (by omega) (by omega)
end Go.Proofs.Ytklpjlligmklfaa
