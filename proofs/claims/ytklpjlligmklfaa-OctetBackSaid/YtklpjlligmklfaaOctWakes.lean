/- The known numbers of the statements on octets; forms of what is answered. -/
import Derived.Test.YtklpjlligmklfaaOctText
namespace Go.Proofs.Ytklpjlligmklfaa
open Go.RowKit

theorem takeV_form (k : Nat) (l : List UInt8) (z : Int) : ∃ (a : Nat) (b c : Int), a < 256 ^ k ∧ ∀ K, takeV K k l z = .tuple #[.int K a, .int .i64 b, .int .i64 c] := by
  by_cases h0 : z < 0 ∨ (l.length : Int) < z
  · exact ⟨0, 0, 1, Nat.pow_pos (by omega), fun K => takeV_arg h0⟩
  · by_cases h1 : (l.length : Int) < z + k
    · exact ⟨0, 0, 6, Nat.pow_pos (by omega), fun K => takeV_short h0 h1⟩
    · exact ⟨_, _, _, Oc.num_take_lt (l.drop z.toNat) k, fun K => by unfold takeV; rw [if_neg h0, if_neg h1]⟩
theorem takeTextV_form (l : List UInt8) (z : Int) : ∃ (a : List UInt8) (b c : Int), takeTextV l z = .tuple #[sv a, .int .i64 b, .int .i64 c] := by
  unfold takeTextV
  split
  · exact ⟨[], _, _, rfl⟩
  · split
    · exact ⟨[], _, _, rfl⟩
    · exact ⟨_, _, _, rfl⟩

theorem seven (w : World) (t : TypeId) (fr : Nat × Nat) : Bs (w.alloc (.cells #[.int .u8 7] t fr)) 0 (w.alloc (.cells #[.int .u8 7] t fr)).heap.size (some ⟨w.heap.size, 0, none⟩) [7] := fun _ => by
  refine ⟨w.heap.size, 0, rfl, Nat.zero_le _, by simp, fun j hj => ?_⟩
  obtain rfl : j = 0 := by simp at hj; omega
  exact World.cell?_alloc_mark _ _ _ _ _

set_option maxHeartbeats 1000000 in
set_option maxRecDepth 100000 in
theorem octWakes (w : World) : Calls Try.prog 13 #[] w fun e w' => e = .returned (.bool true) ∧ Below w.heap.size w w' := by
  have hl : Hid (laterB 1 2 = true) := by show _ = _; decide
  have ht : Hid (takeV .u16 2 [7, 2, 1] 1 = .tuple #[.int .u16 513, .int .i64 3, .int .i64 0]) := by show _ = _; kernel_rfl
  have hb : Hid ([7] ++ Oc.beb 2 513 = [7, 2, 1]) := by show _ = _; decide
  have HL := Lib.hid (fun w => later_any 1 2 w (by omega) (by omega))
  rw [hl.out] at HL
  have HT := Lib.hid (fun (A : Option Addr) (c : Nat) (w : World) (hc : 3 ≤ c) (lo hi : Nat) (hr : Bs w lo hi A [7, 2, 1]) => take_u16 A [7, 2, 1] c 1 w hc (by simp) lo hi hr)
  rw [ht.out] at HT
  go_enter Try.func13, Try.ntmps13
  go_wp2_with (first
    | (go_at_call 10; refine (put_u16 _ [7] 1 513 _ (by simp) (by simp) (by omega) 0 (seven _ _ _)).mono ?_; rintro e w1 ⟨g, cp, rfl, O1, B1⟩; have R1 := Lib.hid (show Bs w1 _ _ (some ⟨g, 0, none⟩) [7, 2, 1] from by have := Bs.of_own O1; rwa [hb.out] at this); have HB1 := Lib.hid (((Below.refl w.heap.size w).alloc (Nat.le_refl _) _).trans (B1.mono (by simp))); clear O1 B1)
    | (go_at_call 15; refine (HT.out _ _ _ (by simp) _ _ R1.out).mono ?_; rintro e w2 ⟨rfl, rfl⟩)
    | (go_at_call 22; refine (HL.out _).mono ?_; rintro e w2 ⟨rfl, rfl⟩)
    | (refine wpList_convert_bs rfl 22 9 (.tmp 13) rfl 5 Try.underlying22 Try.underlying5 Try.underlying9 _ _ _ _ _ [7, 2, 1] (by simp) rfl R1.out ?_))
  go_ret
  exact ⟨rfl, HB1.out⟩
end Go.Proofs.Ytklpjlligmklfaa
