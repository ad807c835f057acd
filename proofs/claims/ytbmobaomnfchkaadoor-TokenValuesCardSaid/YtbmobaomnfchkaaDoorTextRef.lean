/- digit, marked, Bytes, Escape: the document's answers on texts. -/
import Derived.Test.YtbmobaomnfchkaaDoorEscape
namespace Go.Proofs.YtbmobaomnfchkaaDoor
open Go.RowKit

set_option maxHeartbeats 400000 in
theorem digit_yes (c : UInt8) (w : World) (h : Nm.dg c) : Calls Tryd.prog 13 #[.int .u8 (c.toNat : Int)] w fun e w' => e = .returned (.bool true) ∧ w = w' := by
  obtain ⟨h1, h2⟩ := h
  go_enter Tryd.func13, Tryd.ntmps13
  go_wp2
  go_ret
  exact ⟨ret_bool (decide_eq_true (by omega)), rfl⟩
set_option maxHeartbeats 400000 in
theorem digit_no (c : UInt8) (w : World) (h : ¬ Nm.dg c) : Calls Tryd.prog 13 #[.int .u8 (c.toNat : Int)] w fun e w' => e = .returned (.bool false) ∧ w = w' := by
  have hd' : c.toNat < 48 ∨ 57 < c.toNat := by unfold Nm.dg at h; omega
  have h8 := c.toNat_lt
  clear h
  rcases hd' with hd | hd
  · go_enter Tryd.func13, Tryd.ntmps13
    go_wp2
    go_ret
    exact ⟨rfl, rfl⟩
  · have h1 : 48 ≤ c.toNat := by omega
    go_enter Tryd.func13, Tryd.ntmps13
    go_wp2
    go_ret
    exact ⟨ret_bool (decide_eq_false (by omega)), rfl⟩

end Go.Proofs.YtbmobaomnfchkaaDoor
