/- wakes: a name that is known. -/
import Derived.Test.YtklpjlligmklfaaDoorEscape
import Derived.Test.YtklpjlligmklfaaDoorSame
import Derived.Test.YtklpjlligmklfaaDoorFold
namespace Go.Proofs.YtklpjlligmklfaaDoor
open Go.RowKit

set_option maxHeartbeats 1000000 in
set_option maxRecDepth 100000 in
theorem wakes_any (w : World) (hL : Lay w) : Calls Tryd.prog 9 #[] w fun e w' => e = .returned (.bool true) ∧ Below w.heap.size w w' := by
  have h1 : parseR [65, 98, 46, 99] [0] = .tuple #[.string ⟨#[2, 65, 98, 1, 99, 0]⟩, .int .i64 0] := by
    have : Nm.parse [65, 98, 46, 99] [0] = ([2, 65, 98, 1, 99, 0], 0) := by decide +kernel
    unfold parseR; rw [this]; rfl
  have HP := Lib.hid (Parse_any ⟨#[65, 98, 46, 99]⟩ ⟨#[0]⟩ w hL (by decide) (by decide))
  have e1 : (⟨#[65, 98, 46, 99]⟩ : ByteArray).data.toList = [65, 98, 46, 99] := rfl
  have e2 : (⟨#[0]⟩ : ByteArray).data.toList = [0] := rfl
  rw [e1, e2, h1] at HP
  have hc : labelsOf [2, 65, 98, 1, 99, 0] = [[65, 98], [99]] := by decide +kernel
  have hs : Nm.split [2, 65, 98, 1, 99, 0] = some [[65, 98], [99]] := by decide +kernel
  have HC : Hid (∀ w : World, Calls Tryd.prog 16 #[.string ⟨#[2, 65, 98, 1, 99, 0]⟩] w fun e w' => e = .returned (.int .i64 2) ∧ Below w.heap.size w w') := fun w =>
    (Count_any ⟨#[2, 65, 98, 1, 99, 0]⟩ w (by decide)).mono fun _ _ ⟨a, b⟩ => ⟨by rw [a]; show Ending.returned (.int .i64 ((labelsOf [2, 65, 98, 1, 99, 0]).length : Nat)) = _; rw [hc]; rfl, b⟩
  have HF : Hid (∀ w : World, Calls Tryd.prog 18 #[.string ⟨#[2, 65, 98, 1, 99, 0]⟩] w fun e w' => e = .returned (.string ⟨#[2, 97, 98, 1, 99, 0]⟩) ∧ Below w.heap.size w w') := fun w =>
    (Fold_any ⟨#[2, 65, 98, 1, 99, 0]⟩ w (by decide)).mono fun _ _ ⟨a, b⟩ => ⟨by
      rw [a]; show Ending.returned (sv (Nm.fold [2, 65, 98, 1, 99, 0])) = _
      have : Nm.fold [2, 65, 98, 1, 99, 0] = [2, 97, 98, 1, 99, 0] := by decide +kernel
      rw [this], b⟩
  have HT : Hid (∀ w : World, Calls Tryd.prog 17 #[.string ⟨#[2, 97, 98, 1, 99, 0]⟩] w fun e w' => e = .returned (.string ⟨#[97, 98, 46, 99, 46]⟩) ∧ Below w.heap.size w w') := fun w =>
    (Text_any ⟨#[2, 97, 98, 1, 99, 0]⟩ w (by decide)).mono fun _ _ ⟨a, b⟩ => ⟨by
      rw [a]; show Ending.returned (sv (Nm.text [2, 97, 98, 1, 99, 0])) = _
      have : Nm.text [2, 97, 98, 1, 99, 0] = [97, 98, 46, 99, 46] := by decide +kernel
      rw [this], b⟩
  have HK : Hid (∀ w : World, Calls Tryd.prog 6 #[.string ⟨#[2, 65, 98, 1, 99, 0]⟩] w fun e w' => e = .returned (.int .i64 0) ∧ Below w.heap.size w w') := fun w =>
    Check_yes ⟨#[2, 65, 98, 1, 99, 0]⟩ _ w (by decide) hs
  clear h1 e1 e2 hc hs hL
  go_enter Tryd.func9, Tryd.ntmps9
  go_wp2_with (first
    | (go_at_call 15; refine HP.out.mono ?_; rintro e w1 ⟨rfl, hb1⟩)
    | (go_at_call 16; refine (HC.out _).mono ?_; rintro e w2 ⟨rfl, hb2⟩)
    | (go_at_call 18; refine (HF.out _).mono ?_; rintro e w3 ⟨rfl, hb3⟩)
    | (go_at_call 17; refine (HT.out _).mono ?_; rintro e w4 ⟨rfl, hb4⟩)
    | (go_at_call 6; refine (HK.out _).mono ?_; rintro e w5 ⟨rfl, hb5⟩))
  go_ret
  exact ⟨rfl, (((hb1.trans (hb2.mono hb1.size)).trans (hb3.mono (Nat.le_trans hb1.size hb2.size))).trans (hb4.mono (Nat.le_trans (Nat.le_trans hb1.size hb2.size) hb3.size))).trans (hb5.mono (Nat.le_trans (Nat.le_trans (Nat.le_trans hb1.size hb2.size) hb3.size) hb4.size))⟩
end Go.Proofs.YtklpjlligmklfaaDoor
