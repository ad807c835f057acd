/- Short texts, numbers that go round, and the numbers that are known: package octet and the document's answers. -/
import Derived.Test.YtfekmolgiohegaaOctRef
namespace Go.Proofs.Ytfekmolgiohegaa
open Go.RowKit

-- what PutText answers: an error, or the text behind what there is.
def tup3 (a b c : Value) : Value := .tuple #[a, b, c]
/-- what TakeText answers. -/
def takeTextV (l : List UInt8) (z : Int) : Value :=
  if z < 0 ∨ (l.length : Int) < z then .tuple #[.string ⟨#[]⟩, .int .i64 0, .int .i64 1]
  else if (l.length : Int) < z + 1 + Oc.num ((l.drop z.toNat).take 1) ∨ (l.length : Int) < z + 1 then .tuple #[.string ⟨#[]⟩, .int .i64 0, .int .i64 6]
  else .tuple #[sv ((l.drop (z.toNat + 1)).take (Oc.num ((l.drop z.toNat).take 1))), .int .i64 (z + 1 + Oc.num ((l.drop z.toNat).take 1)), .int .i64 0]
theorem takeV_arg {K : IntKind} {k : Nat} {l : List UInt8} {z : Int} (h : z < 0 ∨ (l.length : Int) < z) : takeV K k l z = .tuple #[.int K 0, .int .i64 0, .int .i64 1] := by unfold takeV; rw [if_pos h]
theorem takeV_short {K : IntKind} {k : Nat} {l : List UInt8} {z : Int} (h : ¬ (z < 0 ∨ (l.length : Int) < z)) (h2 : (l.length : Int) < z + k) : takeV K k l z = .tuple #[.int K 0, .int .i64 0, .int .i64 6] := by unfold takeV; rw [if_neg h, if_pos h2]
theorem takeV_ok {K : IntKind} {k : Nat} {l : List UInt8} {n : Nat} (h2 : n + k ≤ l.length) : takeV K k l n = .tuple #[.int K (Oc.num ((l.drop n).take k)), .int .i64 (n + k), .int .i64 0] := by
  unfold takeV; rw [if_neg (by omega), if_neg (by omega)]; simp


set_option maxHeartbeats 1000000 in
set_option maxRecDepth 100000 in
theorem takeText_ok (g0 o0 : Nat) (l : List UInt8) (c n m : Nat) (w : World) (hc : l.length ≤ c) (hm : l.length ≤ 211106232532992) (lo hi : Nat) (hr : Bs w lo hi (some ⟨g0, o0, none⟩) l) (hk : n + 1 + m ≤ l.length)
    (ht : Calls Try.prog 39 #[.slice (some ⟨g0, o0, none⟩) l.length c, .int .i64 n] w fun e w' => e = .returned (.tuple #[.int .u8 m, .int .i64 (n + 1), .int .i64 0]) ∧ w = w') (hm2 : m < 256) :
    Calls Try.prog 46 #[.slice (some ⟨g0, o0, none⟩) l.length c, .int .i64 n] w fun e w' => e = .returned (.tuple #[sv ((l.drop (n + 1)).take m), .int .i64 (n + 1 + m), .int .i64 0]) ∧ w = w' := by
  have HT := Lib.hid ht
  clear ht
  have HR := Lib.hid (hr.sub (n + 1) m hk)
  clear hr
  by_cases hcn : c = n + 1
  · obtain rfl : m = 0 := by omega
    subst hcn
    go_enter Try.func46, Try.ntmps46
    go_wp2_with (first
      | (go_at_call 39; refine HT.out.mono ?_; rintro e w1 ⟨rfl, rfl⟩)
      | (refine wpList_convert_bs rfl 31 9 (.tmp 32) rfl 5 Try.underlying31 Try.underlying5 Try.underlying9 lo hi _ _ _ [] (by simp) rfl Bs.nil ?_))
    go_ret3
    exact ⟨by simp, rfl⟩
  · have hcn2 : n + 1 < c := by omega
    go_enter Try.func46, Try.ntmps46
    go_wp2_with (first
      | (go_at_call 39; refine HT.out.mono ?_; rintro e w1 ⟨rfl, rfl⟩)
      | (refine wpList_convert_bs rfl 31 9 (.tmp 32) rfl 5 Try.underlying31 Try.underlying5 Try.underlying9 lo hi _ _ _ ((l.drop (n + 1)).take m) (by rw [List.length_take, List.length_drop]; omega) rfl HR.out ?_))
    go_ret3
    exact ⟨rfl, rfl⟩
set_option maxHeartbeats 1000000 in
set_option maxRecDepth 100000 in
theorem takeText (A : Option Addr) (l : List UInt8) (c : Nat) (z : Int) (w : World) (hc : l.length ≤ c) (hm : l.length ≤ 211106232532992) (lo hi : Nat) (hr : Bs w lo hi A l) :
    Calls Try.prog 46 #[.slice A l.length c, .int .i64 z] w fun e w' => e = .returned (takeTextV l z) ∧ w = w' := by
  have HT := fun w => take_u8 A l c z w hc (by omega) lo hi
  unfold takeTextV
  by_cases h0 : z < 0 ∨ (l.length : Int) < z
  · rw [if_pos h0]
    have HT1 := Lib.hid (fun (w : World) (hr : Bs w lo hi A l) => HT w hr)
    rw [takeV_arg h0] at HT1
    clear HT h0
    have HR := Lib.hid hr
    clear hr
    go_enter Try.func46, Try.ntmps46
    go_wp2_with (first
      | (go_at_call 39; refine (HT1.out _ HR.out).mono ?_; rintro e w1 ⟨rfl, rfl⟩))
    go_ret3
    exact ⟨rfl, rfl⟩
  · rw [if_neg h0]
    by_cases h1 : (l.length : Int) < z + 1
    · rw [if_pos (.inr h1)]
      have HT1 := Lib.hid (fun (w : World) (hr : Bs w lo hi A l) => HT w hr)
      rw [takeV_short h0 h1] at HT1
      clear HT h0 h1
      have HR := Lib.hid hr
      clear hr
      go_enter Try.func46, Try.ntmps46
      go_wp2_with (first
        | (go_at_call 39; refine (HT1.out _ HR.out).mono ?_; rintro e w1 ⟨rfl, rfl⟩))
      go_ret3
      exact ⟨rfl, rfl⟩
    · obtain ⟨n, rfl⟩ : ∃ n : Nat, z = n := ⟨z.toNat, by omega⟩
      obtain ⟨g0, o0, rfl, _, _, _⟩ := hr (by omega)
      have HT1 := Lib.hid (fun (w : World) (hr : Bs w lo hi (some ⟨g0, o0, none⟩) l) => HT w hr)
      rw [takeV_ok (k := 1) (by omega)] at HT1
      clear HT
      have hx := Oc.num_take_lt (l.drop n) 1
      rw [show (n : Int).toNat = n from rfl]
      generalize Oc.num ((l.drop n).take 1) = m at *
      by_cases h2 : (l.length : Int) < n + 1 + m
      · rw [if_pos (.inl h2)]
        have h3 : (l.length : Int) - (n + 1) < m := by omega
        have HR := Lib.hid hr
        clear hr
        go_enter Try.func46, Try.ntmps46
        go_wp2_with (first
          | (go_at_call 39; refine (HT1.out _ HR.out).mono ?_; rintro e w1 ⟨rfl, rfl⟩))
        go_ret3
        exact ⟨rfl, rfl⟩
      · rw [if_neg (by omega)]
        exact takeText_ok g0 o0 l c n m w hc hm lo hi hr (by omega) (HT1.out w hr) (by omega)

/-- is a number that is so far ahead later? -/
def laterI (d : Int) : Bool := decide (0 < d) && decide (d < 2147483648)
theorem laterI_no {d : Int} (h : d ≤ 0) : laterI d = false := by unfold laterI; rw [decide_eq_false (by omega)]; rfl
theorem laterI_yes {d : Int} (h : 0 < d) : laterI d = decide (d < 2147483648) := by unfold laterI; rw [decide_eq_true h]; rfl
/-- is b later than a? -/
def laterB (a b : Nat) : Bool := laterI (((b : Int) - a) % 4294967296)
theorem ret_u32 {a b : Int} (h : a = b) : Ending.returned (.int .u32 a) = .returned (.int .u32 b) := by rw [h]
/-- a number some steps on. -/
def stepN (a : Nat) (n : Int) : Int := ((a : Int) + n) % 4294967296
theorem tmod_neg (n : Int) (h : n < 0) : n.tmod 4294967296 = -((-n) % 4294967296) := by
  have h1 : (-n).tmod 4294967296 = (-n) % 4294967296 := Int.tmod_eq_emod_of_nonneg (by omega)
  rw [Int.neg_tmod] at h1
  omega
end Go.Proofs.Ytfekmolgiohegaa
