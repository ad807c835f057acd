/- Short texts, numbers that go round, and the numbers that are known: package octet and the document's answers. -/
import Derived.Test.YtklpjlligmklfaaOctRef
namespace Go.Proofs.Ytklpjlligmklfaa
open Go.RowKit

-- what PutText answers: an error, or the text behind what there is.
set_option maxHeartbeats 1000000 in
set_option maxRecDepth 100000 in
theorem putText_long (A : Option Addr) (n c : Nat) (s : ByteArray) (w : World) (hs : 255 < s.size) (hm : s.size ≤ 140737488355328) :
    Calls Try.prog 18 #[.slice A n c, .string s] w fun e w' => e = .returned (.tuple #[.slice none 0 0, .int .i64 2]) ∧ w = w' := by
  go_enter Try.func18, Try.ntmps18
  go_wp2
  go_ret2
  exact ⟨rfl, rfl⟩
set_option maxHeartbeats 1000000 in
set_option maxRecDepth 100000 in
theorem putText_ok (A : Option Addr) (l : List UInt8) (c : Nat) (s : ByteArray) (w : World) (hc : l.length ≤ c) (hm : l.length ≤ 140737488355000) (hs : s.size ≤ 255) (lo : Nat) (hr : Bs w lo w.heap.size A l) :
    Calls Try.prog 18 #[.slice A l.length c, .string s] w fun e w' => ∃ g cp, e = .returned (.tuple #[.slice (some ⟨g, 0, none⟩) (l.length + 1 + s.size) (l.length + 1 + s.size), .int .i64 0]) ∧
      w'.ownsRow w.heap.size 5 1 (.slice (some ⟨g, 0, none⟩) (l.length + 1 + s.size) cp) (l.length + 1 + s.size) (bv (l ++ Oc.beb 1 s.size ++ s.data.toList)) ∧ Below w.heap.size w w' := by
  obtain ⟨i0, hi, hz0, hz1, hz2⟩ := info_parts Try.infoByte
  have HR := Lib.hid hr
  clear hr
  go_enter Try.func18, Try.ntmps18
  go_wp2_with (first
    | (go_at_call 9; refine (put_u8 A l c s.size _ hc (by omega) (by omega) lo HR.out).mono ?_; rintro e w1 ⟨g1, cp1, rfl, O1, B1⟩; have C1 := Lib.hid (show Cut w1 w.heap.size 5 (.slice (some ⟨g1, 0, none⟩) (l.length + 1) (l.length + 1)) (l.length + 1) (bv (l ++ Oc.beb 1 s.size)) from ⟨g1, _, cp1, rfl, Nat.le_refl _, O1, .inl rfl⟩); have HB1 := Lib.hid B1; clear O1 B1)
    | (at_builtin; refine wpList_append_run rfl (.tmp 13) (.tmp 14) _ _ rfl _ _ rfl rfl (run_append_string_full _ _ _ _ i0 Try.underlying22 Try.underlying9 hi hz0 hz1 hz2 _ _ _ _ C1.out s (by omega) HB1.out.size) ?_; rintro v2 w2 ⟨C2, B2⟩; obtain ⟨g2, cp2, cq2, rfl, hcp2, O2, _⟩ := C2)
    | (go_at_call 26; refine (tight_any _ _ _ _ hcp2).mono ?_; rintro e w' ⟨rfl, rfl⟩))
  go_ret2
  refine ⟨g2, cq2, rfl, own_to O2 rfl (by simp [bv]), HB1.out.trans B2⟩

set_option maxHeartbeats 1000000 in
set_option maxRecDepth 100000 in
theorem refPutText_long (A : Option Addr) (n c : Nat) (s : ByteArray) (w : World) (hs : 255 < s.size) (hm : s.size ≤ 140737488355328) :
    Calls Try.prog 19 #[.slice A n c, .string s] w fun e w' => e = .returned (.tuple #[.slice none 0 0, .int .i64 2]) ∧ w = w' := by
  go_enter Try.func19, Try.ntmps19
  go_wp2
  go_ret2
  exact ⟨rfl, rfl⟩
set_option maxHeartbeats 1000000 in
set_option maxRecDepth 100000 in
theorem refPutText_ok (A : Option Addr) (l : List UInt8) (c : Nat) (s : ByteArray) (w : World) (hnil : A = none → c = 0) (hm : l.length ≤ 140737488355000) (hs : s.size ≤ 255) (lo : Nat) (hr : Bs w lo w.heap.size A l) :
    Calls Try.prog 19 #[.slice A l.length c, .string s] w fun e w' => ∃ g cp, e = .returned (.tuple #[.slice (some ⟨g, 0, none⟩) (l.length + 1 + s.size) cp, .int .i64 0]) ∧
      Bs w' w.heap.size w'.heap.size (some ⟨g, 0, none⟩) (l ++ Oc.beb 1 s.size ++ s.data.toList) ∧ Below w.heap.size w w' := by
  obtain ⟨i0, hi, hz0, hz1, hz2⟩ := info_parts Try.infoByte
  have HR := Lib.hid hr
  have HN := Lib.hid hnil
  clear hr hnil
  go_enter Try.func19, Try.ntmps19
  go_wp2_with (first
    | (at_builtin; refine wpList_append_bs rfl _ (.tmp 10) _ rfl w.heap.size _ i0 _ Try.underlying22 hi hz0 hz1 hz2 rfl _ 0 [] rfl (World.ownsRow_nil _ _ _ _) lo w.heap.size A c l rfl HR.out HN.out (by omega) (Nat.le_refl _) ?_; intro v0 w0 O0' hg0; have B0 := below_self hg0 (Nat.le_refl _) (fun k hk => absurd (show (none : Option Nat) = some k from hk) (by simp)); have O0 := own_to O0' (Nat.zero_add _) (List.nil_append _); clear O0' hg0)
    | (at_builtin; refine wpList_append_one rfl (.tmp 12) (.tmp 16) _ rfl _ i0 _ Try.underlying22 hi hz0 hz1 hz2 rfl w.heap.size w v0 l.length _ rfl O0 B0 (Nat.le_refl _) _ rfl _ rfl (by omega) ?_; intro v1 w1 O1 B1; have C1 := Lib.hid (Cut.of_own O1 (by omega)); have HB1 := Lib.hid B1; clear O1 B1)
    | (at_builtin; refine wpList_append_run rfl (.tmp 18) (.tmp 19) _ _ rfl _ _ rfl rfl (run_append_string_full _ _ _ _ i0 Try.underlying22 Try.underlying9 hi hz0 hz1 hz2 _ _ _ _ C1.out s (by omega) HB1.out.size) ?_; rintro v2 w2 ⟨C2, B2⟩; obtain ⟨g2, cp2, cq2, rfl, hcp2, O2, hq2⟩ := C2))
  go_ret2
  refine ⟨g2, cp2, rfl, ?_, HB1.out.trans B2⟩
  have e1 : bv l ++ [Value.int .u8 (s.size : Nat)] ++ bv s.data.toList = bv (l ++ Oc.beb 1 s.size ++ s.data.toList) := by
    rw [bv_append, bv_append, ← bv_beb1 s.size (a := (s.size : Nat)) (by omega)]
  exact Bs.of_own (own_to O2 rfl e1)

def tup3 (a b c : Value) : Value := .tuple #[a, b, c]
/-- what TakeText answers. -/
def takeTextV (l : List UInt8) (z : Int) : Value :=
  if z < 0 ∨ (l.length : Int) < z then .tuple #[.string ⟨#[]⟩, .int .i64 0, .int .i64 1]
  else if (l.length : Int) < z + 1 + Oc.num ((l.drop z.toNat).take 1) ∨ (l.length : Int) < z + 1 then .tuple #[.string ⟨#[]⟩, .int .i64 0, .int .i64 6]
  else .tuple #[sv ((l.drop (z.toNat + 1)).take (Oc.num ((l.drop z.toNat).take 1))), .int .i64 (z + 1 + Oc.num ((l.drop z.toNat).take 1)), .int .i64 0]
theorem takeV_arg {K : IntKind} {k : Nat} {l : List UInt8} {z : Int} (h : z < 0 ∨ (l.length : Int) < z) : takeV K k l z = .tuple #[.int K 0, .int .i64 0, .int .i64 1] := by unfold takeV; rw [if_pos h]
theorem takeV_short {K : IntKind} {k : Nat} {l : List UInt8} {z : Int} (h : ¬ (z < 0 ∨ (l.length : Int) < z)) (h2 : (l.length : Int) < z + k) : takeV K k l z = .tuple #[.int K 0, .int .i64 0, .int .i64 6] := by unfold takeV; rw [if_neg h, if_pos h2]
theorem takeV_ok {K : IntKind} {k : Nat} {l : List UInt8} {n : Nat} (h2 : n + k ≤ l.length) : takeV K k l n = .tuple #[.int K (Oc.num ((l.drop n).take k)), .int .i64 (n + k), .int .i64 0] := by
  unfold takeV; rw [if_neg (by omega), if_neg (by omega)]; simp


set_option maxHeartbeats 1000000 in
set_option maxRecDepth 100000 in
theorem takeText_ok (g0 o0 : Nat) (l : List UInt8) (c n m : Nat) (w : World) (hc : l.length ≤ c) (hm : l.length ≤ 140737488355328) (lo hi : Nat) (hr : Bs w lo hi (some ⟨g0, o0, none⟩) l) (hk : n + 1 + m ≤ l.length)
    (ht : Calls Try.prog 14 #[.slice (some ⟨g0, o0, none⟩) l.length c, .int .i64 n] w fun e w' => e = .returned (.tuple #[.int .u8 m, .int .i64 (n + 1), .int .i64 0]) ∧ w = w') (hm2 : m < 256) :
    Calls Try.prog 20 #[.slice (some ⟨g0, o0, none⟩) l.length c, .int .i64 n] w fun e w' => e = .returned (.tuple #[sv ((l.drop (n + 1)).take m), .int .i64 (n + 1 + m), .int .i64 0]) ∧ w = w' := by
  have HT := Lib.hid ht
  clear ht
  have HR := Lib.hid (hr.sub (n + 1) m hk)
  clear hr
  by_cases hcn : c = n + 1
  · obtain rfl : m = 0 := by omega
    subst hcn
    go_enter Try.func20, Try.ntmps20
    go_wp2_with (first
      | (go_at_call 14; refine HT.out.mono ?_; rintro e w1 ⟨rfl, rfl⟩)
      | (refine wpList_convert_bs rfl 22 9 (.tmp 32) rfl 5 Try.underlying22 Try.underlying5 Try.underlying9 lo hi _ _ _ [] (by simp) rfl Bs.nil ?_))
    go_ret3
    exact ⟨by simp, rfl⟩
  · have hcn2 : n + 1 < c := by omega
    go_enter Try.func20, Try.ntmps20
    go_wp2_with (first
      | (go_at_call 14; refine HT.out.mono ?_; rintro e w1 ⟨rfl, rfl⟩)
      | (refine wpList_convert_bs rfl 22 9 (.tmp 32) rfl 5 Try.underlying22 Try.underlying5 Try.underlying9 lo hi _ _ _ ((l.drop (n + 1)).take m) (by rw [List.length_take, List.length_drop]; omega) rfl HR.out ?_))
    go_ret3
    exact ⟨rfl, rfl⟩
set_option maxHeartbeats 1000000 in
set_option maxRecDepth 100000 in
theorem takeText (A : Option Addr) (l : List UInt8) (c : Nat) (z : Int) (w : World) (hc : l.length ≤ c) (hm : l.length ≤ 140737488355328) (lo hi : Nat) (hr : Bs w lo hi A l) :
    Calls Try.prog 20 #[.slice A l.length c, .int .i64 z] w fun e w' => e = .returned (takeTextV l z) ∧ w = w' := by
  have HT := fun w => take_u8 A l c z w hc hm lo hi
  unfold takeTextV
  by_cases h0 : z < 0 ∨ (l.length : Int) < z
  · rw [if_pos h0]
    have HT1 := Lib.hid (fun (w : World) (hr : Bs w lo hi A l) => HT w hr)
    rw [takeV_arg h0] at HT1
    clear HT h0
    have HR := Lib.hid hr
    clear hr
    go_enter Try.func20, Try.ntmps20
    go_wp2_with (first
      | (go_at_call 14; refine (HT1.out _ HR.out).mono ?_; rintro e w1 ⟨rfl, rfl⟩))
    go_ret3
    exact ⟨rfl, rfl⟩
  · rw [if_neg h0]
    by_cases h1 : (l.length : Int) < z + 1
    · rw [if_pos (.inr h1)]
      have HT1 := Lib.hid (fun (w : World) (hr : Bs w lo hi A l) => HT w hr)
      rw [takeV_short h0 h1] at HT1
      clear HT h0 h1
      have HR := Lib.hid hr
      clear hr
      go_enter Try.func20, Try.ntmps20
      go_wp2_with (first
        | (go_at_call 14; refine (HT1.out _ HR.out).mono ?_; rintro e w1 ⟨rfl, rfl⟩))
      go_ret3
      exact ⟨rfl, rfl⟩
    · obtain ⟨n, rfl⟩ : ∃ n : Nat, z = n := ⟨z.toNat, by omega⟩
      obtain ⟨g0, o0, rfl, _, _, _⟩ := hr (by omega)
      have HT1 := Lib.hid (fun (w : World) (hr : Bs w lo hi (some ⟨g0, o0, none⟩) l) => HT w hr)
      rw [takeV_ok (k := 1) (by omega)] at HT1
      clear HT
      have hx := Oc.num_take_lt (l.drop n) 1
      rw [show (n : Int).toNat = n from rfl]
      generalize Oc.num ((l.drop n).take 1) = m at *
      by_cases h2 : (l.length : Int) < n + 1 + m
      · rw [if_pos (.inl h2)]
        have h3 : (l.length : Int) - (n + 1) < m := by omega
        have HR := Lib.hid hr
        clear hr
        go_enter Try.func20, Try.ntmps20
        go_wp2_with (first
          | (go_at_call 14; refine (HT1.out _ HR.out).mono ?_; rintro e w1 ⟨rfl, rfl⟩))
        go_ret3
        exact ⟨rfl, rfl⟩
      · rw [if_neg (by omega)]
        exact takeText_ok g0 o0 l c n m w hc hm lo hi hr (by omega) (HT1.out w hr) (by omega)

set_option maxHeartbeats 1000000 in
set_option maxRecDepth 100000 in
theorem refTakeText_ok (g0 o0 : Nat) (l : List UInt8) (c n m : Nat) (w : World) (hc : l.length ≤ c) (hm : l.length ≤ 140737488355328) (lo hi : Nat) (hr : Bs w lo hi (some ⟨g0, o0, none⟩) l) (hk : n + 1 + m ≤ l.length)
    (ht : Calls Try.prog 17 #[.slice (some ⟨g0, o0, none⟩) l.length c, .int .i64 n, .int .i64 1] w fun e w' => e = .returned (.tuple #[.int .u32 m, .int .i64 (n + 1), .int .i64 0]) ∧ w = w') (hm2 : m < 256) :
    Calls Try.prog 21 #[.slice (some ⟨g0, o0, none⟩) l.length c, .int .i64 n] w fun e w' => e = .returned (.tuple #[sv ((l.drop (n + 1)).take m), .int .i64 (n + 1 + m), .int .i64 0]) ∧ w = w' := by
  have HT := Lib.hid ht
  clear ht
  have HR := Lib.hid (hr.sub (n + 1) m hk)
  clear hr
  by_cases hcn : c = n + 1
  · obtain rfl : m = 0 := by omega
    subst hcn
    go_enter Try.func21, Try.ntmps21
    go_wp2_with (first
      | (go_at_call 17; refine HT.out.mono ?_; rintro e w1 ⟨rfl, rfl⟩)
      | (refine wpList_convert_bs rfl 22 9 (.tmp 32) rfl 5 Try.underlying22 Try.underlying5 Try.underlying9 lo hi _ _ _ [] (by simp) rfl Bs.nil ?_))
    go_ret3
    exact ⟨by simp, rfl⟩
  · have hcn2 : n + 1 < c := by omega
    go_enter Try.func21, Try.ntmps21
    go_wp2_with (first
      | (go_at_call 17; refine HT.out.mono ?_; rintro e w1 ⟨rfl, rfl⟩)
      | (refine wpList_convert_bs rfl 22 9 (.tmp 32) rfl 5 Try.underlying22 Try.underlying5 Try.underlying9 lo hi _ _ _ ((l.drop (n + 1)).take m) (by rw [List.length_take, List.length_drop]; omega) rfl HR.out ?_))
    go_ret3
    exact ⟨rfl, rfl⟩
set_option maxHeartbeats 1000000 in
set_option maxRecDepth 100000 in
theorem refTakeText (A : Option Addr) (l : List UInt8) (c : Nat) (z : Int) (w : World) (hc : l.length ≤ c) (hm : l.length ≤ 140737488355328) (lo hi : Nat) (hr : Bs w lo hi A l) :
    Calls Try.prog 21 #[.slice A l.length c, .int .i64 z] w fun e w' => e = .returned (takeTextV l z) ∧ w = w' := by
  have HT := fun w => refTake_1 A l c z w hc hm lo hi
  unfold takeTextV
  by_cases h0 : z < 0 ∨ (l.length : Int) < z
  · rw [if_pos h0]
    have HT1 := Lib.hid (fun (w : World) (hr : Bs w lo hi A l) => HT w hr)
    rw [takeV_arg h0] at HT1
    clear HT h0
    have HR := Lib.hid hr
    clear hr
    go_enter Try.func21, Try.ntmps21
    go_wp2_with (first
      | (go_at_call 17; refine (HT1.out _ HR.out).mono ?_; rintro e w1 ⟨rfl, rfl⟩))
    go_ret3
    exact ⟨rfl, rfl⟩
  · rw [if_neg h0]
    by_cases h1 : (l.length : Int) < z + 1
    · rw [if_pos (.inr h1)]
      have HT1 := Lib.hid (fun (w : World) (hr : Bs w lo hi A l) => HT w hr)
      rw [takeV_short h0 h1] at HT1
      clear HT h0 h1
      have HR := Lib.hid hr
      clear hr
      go_enter Try.func21, Try.ntmps21
      go_wp2_with (first
        | (go_at_call 17; refine (HT1.out _ HR.out).mono ?_; rintro e w1 ⟨rfl, rfl⟩))
      go_ret3
      exact ⟨rfl, rfl⟩
    · obtain ⟨n, rfl⟩ : ∃ n : Nat, z = n := ⟨z.toNat, by omega⟩
      obtain ⟨g0, o0, rfl, _, _, _⟩ := hr (by omega)
      have HT1 := Lib.hid (fun (w : World) (hr : Bs w lo hi (some ⟨g0, o0, none⟩) l) => HT w hr)
      rw [takeV_ok (k := 1) (by omega)] at HT1
      clear HT
      have hx := Oc.num_take_lt (l.drop n) 1
      rw [show (n : Int).toNat = n from rfl]
      generalize Oc.num ((l.drop n).take 1) = m at *
      by_cases h2 : (l.length : Int) < n + 1 + m
      · rw [if_pos (.inl h2)]
        have h3 : (l.length : Int) - (n + 1) < m := by omega
        have HR := Lib.hid hr
        clear hr
        go_enter Try.func21, Try.ntmps21
        go_wp2_with (first
          | (go_at_call 17; refine (HT1.out _ HR.out).mono ?_; rintro e w1 ⟨rfl, rfl⟩))
        go_ret3
        exact ⟨rfl, rfl⟩
      · rw [if_neg (by omega)]
        exact refTakeText_ok g0 o0 l c n m w hc hm lo hi hr (by omega) (HT1.out w hr) (by omega)

/-- is a number that is so far ahead later? -/
def laterI (d : Int) : Bool := decide (0 < d) && decide (d < 2147483648)
theorem laterI_no {d : Int} (h : d ≤ 0) : laterI d = false := by unfold laterI; rw [decide_eq_false (by omega)]; rfl
theorem laterI_yes {d : Int} (h : 0 < d) : laterI d = decide (d < 2147483648) := by unfold laterI; rw [decide_eq_true h]; rfl
/-- is b later than a? -/
def laterB (a b : Nat) : Bool := laterI (((b : Int) - a) % 4294967296)
set_option maxHeartbeats 1000000 in
theorem later_any (a b : Nat) (w : World) (ha : a < 4294967296) (hb : b < 4294967296) :
    Calls Try.prog 22 #[.int .u32 a, .int .u32 b] w fun e w' => e = .returned (.bool (laterB a b)) ∧ w = w' := by
  unfold laterB
  by_cases h0 : ((b : Int) - a) % 4294967296 ≤ 0
  · rw [laterI_no h0]
    go_enter Try.func22, Try.ntmps22
    go_wp2
    go_ret
    exact ⟨rfl, rfl⟩
  · have h1 : 0 < ((b : Int) - a) % 4294967296 := by omega
    rw [laterI_yes h1]
    go_enter Try.func22, Try.ntmps22
    go_wp2
    go_ret
    exact ⟨rfl, rfl⟩
set_option maxHeartbeats 1000000 in
theorem refLater_any (a b : Nat) (w : World) (ha : a < 4294967296) (hb : b < 4294967296) :
    Calls Try.prog 23 #[.int .u32 a, .int .u32 b] w fun e w' => e = .returned (.bool (laterB a b)) ∧ w = w' := by
  unfold laterB
  have e : ((b : Int) - a) % 4294967296 = ((b : Int) + 4294967296 - a) % 4294967296 := by omega
  rw [e]
  clear e
  by_cases h0 : ((b : Int) + 4294967296 - a) % 4294967296 ≤ 0
  · rw [laterI_no h0]
    go_enter Try.func23, Try.ntmps23
    go_wp2
    go_ret
    exact ⟨rfl, rfl⟩
  · have h1 : 0 < ((b : Int) + 4294967296 - a) % 4294967296 := by omega
    rw [laterI_yes h1]
    go_enter Try.func23, Try.ntmps23
    go_wp2
    go_ret
    exact ⟨rfl, rfl⟩
theorem ret_u32 {a b : Int} (h : a = b) : Ending.returned (.int .u32 a) = .returned (.int .u32 b) := by rw [h]
/-- a number some steps on. -/
def stepN (a : Nat) (n : Int) : Int := ((a : Int) + n) % 4294967296
set_option maxHeartbeats 1000000 in
theorem step_any (a : Nat) (n : Int) (w : World) (_ha : a < 4294967296) :
    Calls Try.prog 24 #[.int .u32 a, .int .i64 n] w fun e w' => e = .returned (.int .u32 (stepN a n)) ∧ w = w' := by
  go_enter Try.func24, Try.ntmps24
  go_wp2
  go_ret
  refine ⟨ret_u32 (a := ((a : Int) + n % 4294967296) % 4294967296) ?_, rfl⟩
  unfold stepN
  omega
theorem tmod_neg (n : Int) (h : n < 0) : n.tmod 4294967296 = -((-n) % 4294967296) := by
  have h1 : (-n).tmod 4294967296 = (-n) % 4294967296 := Int.tmod_eq_emod_of_nonneg (by omega)
  rw [Int.neg_tmod] at h1
  omega
set_option maxHeartbeats 1000000 in
theorem refStep_any (a : Nat) (n : Int) (w : World) (ha : a < 4294967296) :
    Calls Try.prog 25 #[.int .u32 a, .int .i64 n] w fun e w' => e = .returned (.int .u32 (stepN a n)) ∧ w = w' := by
  by_cases h0 : 0 ≤ n
  · have b1 : n % 4294967296 < 4294967296 := by omega
    have b2 : 0 ≤ n % 4294967296 := by omega
    go_enter Try.func25, Try.ntmps25
    go_wp2
    go_ret
    refine ⟨ret_u32 ?_, rfl⟩
    unfold stepN
    omega
  · obtain ⟨r, hr, b1, b2, hq⟩ : ∃ r : Int, n.tmod 4294967296 = r ∧ -4294967296 < r ∧ r ≤ 0 ∧ (n - r) % 4294967296 = 0 := ⟨_, tmod_neg n (by omega), by omega, by omega, by omega⟩
    have HQ := Lib.hid hq
    clear hq
    by_cases h1 : r = 0
    · subst h1
      go_enter Try.func25, Try.ntmps25
      go_wp2
      go_ret
      refine ⟨ret_u32 ?_, rfl⟩
      have := HQ.out
      unfold stepN
      omega
    · have b3 : r < 0 := by omega
      go_enter Try.func25, Try.ntmps25
      go_wp2
      go_ret
      refine ⟨ret_u32 ?_, rfl⟩
      have := HQ.out
      unfold stepN
      omega
end Go.Proofs.Ytklpjlligmklfaa
