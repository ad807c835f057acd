/- Fold's parts, and its closure. -/
import Derived.Test.YtnhoaceickojeaaMem
import Derived.Test.YtnhoaceickojeaaPure
namespace Go.Proofs.Ytnhoaceickojeaa
open Go.RowKit

set_option maxHeartbeats 400000 in
theorem small_any (c : UInt8) (w : World) :
    Calls Try.prog 64 #[.int .u8 (c.toNat : Int)] w fun e w' => e = .returned (.int .u8 ((Nm.small c).toNat : Int)) ∧ w = w' := by
  have hc := c.toNat_lt
  have hv := Nm.small_val c
  have HV := Lib.hid hv
  clear hv
  by_cases h1 : 65 ≤ c.toNat
  · by_cases h2 : c.toNat ≤ 90
    · go_enter Try.func64, Try.ntmps64
      go_wp2
      go_ret
      exact ⟨ret_int (by rw [HV.out, if_pos ⟨h1, h2⟩]; omega), rfl⟩
    · go_enter Try.func64, Try.ntmps64
      go_wp2
      go_ret
      exact ⟨ret_int (by rw [HV.out, if_neg (by omega)]), rfl⟩
  · go_enter Try.func64, Try.ntmps64
    go_wp2
    go_ret
    exact ⟨ret_int (by rw [HV.out, if_neg (by omega)]), rfl⟩

-- the closure of Fold: it appends one byte to the row that it is handed.
set_option maxHeartbeats 400000 in
set_option maxRecDepth 100000 in
theorem fold1_any (B : Nat) (v : Value) (n : Nat) (xs : List Value) (c : UInt8) (w : World) (hB : B ≤ w.heap.size) (hown : w.ownsRow B 5 1 v n xs) (hn : n + 1 ≤ 140737488355328) :
    Calls Try.prog 63 #[v, .int .u8 (c.toNat : Int)] w fun e w' => ∃ v', e = .returned v' ∧ w'.ownsRow B 5 1 v' (n + 1) (xs ++ [.int .u8 ((Nm.small c).toNat : Int)]) ∧ Below B w w' := by
  obtain ⟨i0, hi, hz0, hz1, hz2⟩ := info_parts Try.infoByte
  have hcb := c.toNat_lt
  have hcs := (Nm.small c).toNat_lt
  go_enter Try.func63, Try.ntmps63
  go_wp2_with (first | (go_at_call 64; refine (small_any c _).mono ?_; rintro e w' ⟨rfl, rfl⟩) | (at_builtin; refine wpList_append_own _ rfl (.tmp 5) (.tmp 8) _ rfl B 5 i0 _ 1 1 Try.underlying114 hi hz0 hz1 hz2 rfl (by decide) v n xs rfl (hown.alloc _) ⟨w.heap.size, 0, none⟩ 1 1 [.int .u8 ((Nm.small c).toNat : Int)] rfl rfl ?c1 ?c2 ?c3 ?c4 ?c5 (fun v' w1 hown1 hg1 _ => ?_)))
  case c1 => exact cell_one_new _ _ _
  case c2 => simp [Value.oneCell']
  case c3 => unfold maxLen; omega
  case c4 => omega
  case c5 => simp; omega
  go_ret
  refine ⟨v', rfl, hown1, ?_⟩
  refine ((Below.refl _ _).alloc hB _).grown hg1 (by simp; omega) ?_
  intro k hk
  exact (hown.lt k hk).1


end Go.Proofs.Ytnhoaceickojeaa
