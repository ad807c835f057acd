/- Widths, cut ends, numbers' bytes: package octet, a function for each width. -/
import Derived.Test.YtfekmolgiohegaaMem
import Derived.Test.YtfekmolgiohegaaOctPure
import Derived.Test.YtfekmolgiohegaaBits
namespace Go.Proofs.Ytfekmolgiohegaa
open Go.RowKit

theorem tight_any (A : Option Addr) (n c : Nat) (w : World) (hc : n ≤ c) :
    Calls Try.prog 37 #[.slice A n c] w fun e w' => e = .returned (.slice A n n) ∧ w = w' := by
  go_enter Try.func37, Try.ntmps37
  go_wp2
  go_ret
  exact ⟨rfl, rfl⟩

theorem u8v {x : Int} {n : Nat} (h : x = ((n % 256 : Nat) : Int)) : Value.int .u8 x = .int .u8 ((UInt8.ofNat n).toNat : Int) := by rw [h]; simp
theorem bv_beb1 (v : Nat) {a : Int} (ha : a = ((v % 256 : Nat) : Int)) : [Value.int .u8 a] = bv (Oc.beb 1 v) := by
  rw [u8v ha]; simp [bv, Oc.beb]
theorem bv_beb2 (v : Nat) {a b : Int} (ha : a = ((v / 256 % 256 : Nat) : Int)) (hb : b = ((v % 256 : Nat) : Int)) : [Value.int .u8 a, Value.int .u8 b] = bv (Oc.beb 2 v) := by
  rw [u8v ha, u8v hb]; simp [bv, Oc.beb]
theorem bv_beb4 (v : Nat) {a b c d : Int} (ha : a = ((v / 16777216 % 256 : Nat) : Int)) (hb : b = ((v / 65536 % 256 : Nat) : Int)) (hc : c = ((v / 256 % 256 : Nat) : Int)) (hd : d = ((v % 256 : Nat) : Int)) :
    [Value.int .u8 a, Value.int .u8 b, Value.int .u8 c, Value.int .u8 d] = bv (Oc.beb 4 v) := by
  rw [u8v ha, u8v hb, u8v hc, u8v hd]; simp [bv, Oc.beb]

set_option maxHeartbeats 400000 in
set_option maxRecDepth 100000 in
theorem len_u8 (w : World) : Calls Try.prog 43 #[.int .u32 255] w fun e w' => e = .returned (.int .i64 8) ∧ w = w' := by
  go_enter Try.func43, Try.ntmps43
  go_wp2
  go_ret
  refine ⟨?_, rfl⟩
  kernel_rfl
theorem width_u8 (w : World) : Calls Try.prog 44 #[] w fun e w' => e = .returned (.int .i64 1) ∧ w = w' := by
  go_enter Try.func44, Try.ntmps44
  go_wp2_with (go_at_call 43; refine (len_u8 _).mono ?_; rintro e w' ⟨rfl, rfl⟩)
  go_ret
  exact ⟨rfl, rfl⟩

set_option maxHeartbeats 400000 in
set_option maxRecDepth 100000 in
theorem len_u16 (w : World) : Calls Try.prog 43 #[.int .u32 65535] w fun e w' => e = .returned (.int .i64 16) ∧ w = w' := by
  go_enter Try.func43, Try.ntmps43
  go_wp2
  go_ret
  refine ⟨?_, rfl⟩
  kernel_rfl
theorem width_u16 (w : World) : Calls Try.prog 38 #[] w fun e w' => e = .returned (.int .i64 2) ∧ w = w' := by
  go_enter Try.func38, Try.ntmps38
  go_wp2_with (go_at_call 43; refine (len_u16 _).mono ?_; rintro e w' ⟨rfl, rfl⟩)
  go_ret
  exact ⟨rfl, rfl⟩

set_option maxHeartbeats 400000 in
set_option maxRecDepth 100000 in
theorem len_u32 (w : World) : Calls Try.prog 43 #[.int .u32 4294967295] w fun e w' => e = .returned (.int .i64 32) ∧ w = w' := by
  go_enter Try.func43, Try.ntmps43
  go_wp2
  go_ret
  refine ⟨?_, rfl⟩
  kernel_rfl
set_option maxHeartbeats 400000 in
set_option maxRecDepth 100000 in
theorem put_u16 (A : Option Addr) (l : List UInt8) (c v : Nat) (w : World) (hc : l.length ≤ c) (hm : l.length ≤ 140737488355300) (hv : v < 65536) (lo : Nat) (hr : Bs w lo w.heap.size A l) :
    Calls Try.prog 26 #[.slice A l.length c, .int .u16 v] w fun e w' => ∃ g cp, e = .returned (.slice (some ⟨g, 0, none⟩) (l.length + 2) (l.length + 2)) ∧ w'.ownsRow w.heap.size 5 1 (.slice (some ⟨g, 0, none⟩) (l.length + 2) cp) (l.length + 2) (bv (l ++ Oc.beb 2 v)) ∧ Below w.heap.size w w' := by
  obtain ⟨i0, hi, hz0, hz1, hz2⟩ := info_parts Try.infoByte
  have HR := Lib.hid hr
  clear hr
  go_enter Try.func26, Try.ntmps26
  go_wp2_with (first
    | (go_at_call 37; refine (tight_any _ _ _ _ hc).mono ?_; rintro e w' ⟨rfl, rfl⟩)
    | (go_at_call 38; refine (width_u16 _).mono ?_; rintro e w' ⟨rfl, rfl⟩))
  refine wp_loop_rounds 3 ?_
  rw [rounds_succ]
  go_wp2_with (at_builtin; refine wpList_append_full rfl (.tmp 15) (.tmp 22) _ rfl _ i0 _ Try.underlying31 hi hz0 hz1 hz2 rfl lo w.heap.size A l rfl HR.out (Nat.le_refl _) _ rfl _ rfl (by omega) ?_; intro v1 w1 O1 B1)
  rw [rounds_succ]
  go_wp2_with (at_builtin; refine wpList_append_one rfl (.tmp 15) (.tmp 22) _ rfl _ i0 _ Try.underlying31 hi hz0 hz1 hz2 rfl w.heap.size w v1 (l.length + 1) _ rfl O1 B1 (Nat.le_refl _) _ rfl _ rfl (by omega) ?_; intro v2 w2 O2 B2)
  obtain ⟨g, cp, rfl, hcp, hgl, hgs⟩ := own_pos O2 (by omega)
  rw [rounds_succ]
  go_wp2_with (go_at_call 37; refine (tight_any _ _ _ _ hcp).mono ?_; rintro e w' ⟨rfl, rfl⟩)
  go_ret
  refine ⟨g, cp, rfl, own_to O2 rfl ?_, B2⟩
  rw [bv_append]
  try simp only [List.append_assoc, List.cons_append, List.nil_append]
  congr 1
  exact bv_beb2 v (by omega) (by omega)

theorem num_step (l : List UInt8) (at_ j : Nat) (h : at_ + j < l.length) : Oc.num ((l.drop at_).take (j + 1)) = Oc.num ((l.drop at_).take j) * 256 + (l[at_ + j]'h).toNat := by
  rw [Oc.num_take_succ _ _ (by rw [List.length_drop]; omega), List.getElem_drop]
/-- what Take answers: the number of k bytes at a place, the place behind them, and an error. -/
def takeV (K : IntKind) (k : Nat) (l : List UInt8) (z : Int) : Value :=
  if z < 0 ∨ (l.length : Int) < z then .tuple #[.int K 0, .int .i64 0, .int .i64 1]
  else if (l.length : Int) < z + k then .tuple #[.int K 0, .int .i64 0, .int .i64 6]
  else .tuple #[.int K (Oc.num ((l.drop z.toNat).take k)), .int .i64 (z + k), .int .i64 0]

set_option maxHeartbeats 1000000 in
set_option maxRecDepth 100000 in
theorem take_u8_ok (A : Option Addr) (l : List UInt8) (c n : Nat) (w : World) (hc : l.length ≤ c) (hm : l.length ≤ 211106232532992) (lo hi : Nat) (hr : Bs w lo hi A l) (hk : n + 1 ≤ l.length) :
    Calls Try.prog 39 #[.slice A l.length c, .int .i64 n] w fun e w' => e = .returned (.tuple #[.int .u8 (Oc.num ((l.drop n).take 1)), .int .i64 (n + 1), .int .i64 0]) ∧ w = w' := by
  obtain ⟨g0, o0, rfl, _, _, hcell⟩ := hr (by omega)
  have h0 : w.cell? ⟨g0, o0 + n, none⟩ = _ := hcell n (by omega)
  have b0 := (l[n]'(by omega)).toNat_lt
  have s0 := num_step l n 0 (by omega)
  have q0 := Oc.num_take_lt (l.drop n) 1
  have z0 : Oc.num ((l.drop n).take 0) = 0 := by simp [Oc.num]
  rw [z0] at s0
  clear hcell hr z0
  simp only [Nat.add_zero] at s0 b0
  generalize (l[n]'(by omega)).toNat = x0 at *
  generalize Oc.num ((l.drop n).take 1) = p1 at *
  have r1 : (0 : Nat) < 256 := by omega
  have o0 : bits .or .u32 0 (x0 : Int) = (p1 : Int) := by rw [or32_0 x0 (by omega)]; omega
  clear s0
  go_enter Try.func39, Try.ntmps39
  go_wp2_with (go_at_call 44; refine (width_u8 _).mono ?_; rintro e w' ⟨rfl, rfl⟩)
  refine wp_loop_rounds 2 ?_
  rw [rounds_succ]
  go_wp2
  rw [rounds_succ]
  go_wp2
  go_ret3
  exact ⟨rfl, rfl⟩
set_option maxHeartbeats 1000000 in
theorem take_u8 (A : Option Addr) (l : List UInt8) (c : Nat) (z : Int) (w : World) (hc : l.length ≤ c) (hm : l.length ≤ 211106232532992) (lo hi : Nat) (hr : Bs w lo hi A l) :
    Calls Try.prog 39 #[.slice A l.length c, .int .i64 z] w fun e w' => e = .returned (takeV .u8 1 l z) ∧ w = w' := by
  unfold takeV
  by_cases h0 : z < 0
  · rw [if_pos (.inl h0)]
    go_enter Try.func39, Try.ntmps39
    go_wp2
    go_ret3
    exact ⟨rfl, rfl⟩
  · obtain ⟨n, rfl⟩ : ∃ n : Nat, z = n := ⟨z.toNat, by omega⟩
    by_cases h1 : l.length < n
    · rw [if_pos (.inr (by omega))]
      go_enter Try.func39, Try.ntmps39
      go_wp2
      go_ret3
      exact ⟨rfl, rfl⟩
    · rw [if_neg (by omega)]
      by_cases h2 : l.length < n + 1
      · rw [if_pos (by omega)]
        go_enter Try.func39, Try.ntmps39
        go_wp2_with (go_at_call 44; refine (width_u8 _).mono ?_; rintro e w' ⟨rfl, rfl⟩)
        go_ret3
        exact ⟨rfl, rfl⟩
      · rw [if_neg (by omega)]
        exact take_u8_ok A l c n w hc hm lo hi hr (by omega)

set_option maxHeartbeats 1000000 in
set_option maxRecDepth 100000 in
theorem take_u16_ok (A : Option Addr) (l : List UInt8) (c n : Nat) (w : World) (hc : l.length ≤ c) (hm : l.length ≤ 211106232532992) (lo hi : Nat) (hr : Bs w lo hi A l) (hk : n + 2 ≤ l.length) :
    Calls Try.prog 45 #[.slice A l.length c, .int .i64 n] w fun e w' => e = .returned (.tuple #[.int .u16 (Oc.num ((l.drop n).take 2)), .int .i64 (n + 2), .int .i64 0]) ∧ w = w' := by
  obtain ⟨g0, o0, rfl, _, _, hcell⟩ := hr (by omega)
  have h0 : w.cell? ⟨g0, o0 + n, none⟩ = _ := hcell n (by omega)
  have b0 := (l[n]'(by omega)).toNat_lt
  have s0 := num_step l n 0 (by omega)
  have q0 := Oc.num_take_lt (l.drop n) 1
  have h1 : w.cell? ⟨g0, o0 + n + 1, none⟩ = _ := hcell (n + 1) (by omega)
  have b1 := (l[n + 1]'(by omega)).toNat_lt
  have s1 := num_step l n 1 (by omega)
  have q1 := Oc.num_take_lt (l.drop n) 2
  have z0 : Oc.num ((l.drop n).take 0) = 0 := by simp [Oc.num]
  rw [z0] at s0
  clear hcell hr z0
  simp only [Nat.add_zero] at s0 b0
  generalize (l[n]'(by omega)).toNat = x0 at *
  generalize (l[n + 1]'(by omega)).toNat = x1 at *
  generalize Oc.num ((l.drop n).take 1) = p1 at *
  generalize Oc.num ((l.drop n).take 2) = p2 at *
  have r1 : (0 : Nat) < 256 := by omega
  have o0 : bits .or .u32 0 (x0 : Int) = (p1 : Int) := by rw [or32_0 x0 (by omega)]; omega
  have o1 : bits .or .u32 ((p1 : Int) * 256) (x1 : Int) = (p2 : Int) := by rw [or32 p1 x1 (by omega) (by omega)]; omega
  clear s0 s1
  go_enter Try.func45, Try.ntmps45
  go_wp2_with (go_at_call 38; refine (width_u16 _).mono ?_; rintro e w' ⟨rfl, rfl⟩)
  refine wp_loop_rounds 3 ?_
  rw [rounds_succ]
  go_wp2
  rw [rounds_succ]
  go_wp2
  rw [rounds_succ]
  go_wp2
  go_ret3
  exact ⟨rfl, rfl⟩
set_option maxHeartbeats 1000000 in
theorem take_u16 (A : Option Addr) (l : List UInt8) (c : Nat) (z : Int) (w : World) (hc : l.length ≤ c) (hm : l.length ≤ 211106232532992) (lo hi : Nat) (hr : Bs w lo hi A l) :
    Calls Try.prog 45 #[.slice A l.length c, .int .i64 z] w fun e w' => e = .returned (takeV .u16 2 l z) ∧ w = w' := by
  unfold takeV
  by_cases h0 : z < 0
  · rw [if_pos (.inl h0)]
    go_enter Try.func45, Try.ntmps45
    go_wp2
    go_ret3
    exact ⟨rfl, rfl⟩
  · obtain ⟨n, rfl⟩ : ∃ n : Nat, z = n := ⟨z.toNat, by omega⟩
    by_cases h1 : l.length < n
    · rw [if_pos (.inr (by omega))]
      go_enter Try.func45, Try.ntmps45
      go_wp2
      go_ret3
      exact ⟨rfl, rfl⟩
    · rw [if_neg (by omega)]
      by_cases h2 : l.length < n + 2
      · rw [if_pos (by omega)]
        go_enter Try.func45, Try.ntmps45
        go_wp2_with (go_at_call 38; refine (width_u16 _).mono ?_; rintro e w' ⟨rfl, rfl⟩)
        go_ret3
        exact ⟨rfl, rfl⟩
      · rw [if_neg (by omega)]
        exact take_u16_ok A l c n w hc hm lo hi hr (by omega)

end Go.Proofs.Ytfekmolgiohegaa
