/- The document's answer on data: may they be? -/
import Derived.Test.YtnhoaceickojeaaRdRef
import Derived.Laws.StructEq
import Derived.MapKept
namespace Go.Proofs.Ytnhoaceickojeaa
open Go.RowKit

theorem rdIs_any (s : ByteArray) (w : World) (hs : s.size ≤ 140737488355328) :
    Calls Try.prog 39 #[.string s] w fun e w' => e = .returned (.bool (Rd.nm s.data.toList)) ∧ Below w.heap.size w w' := by
  unfold Rd.nm
  have HC := Lib.hid (Split_any s w hs)
  cases h : Nm.split s.data.toList with
  | none =>
    rw [h] at HC
    clear h
    go_enter Try.func39, Try.ntmps39
    go_wp2_with (go_at_call 57; refine HC.out.mono ?_; rintro e w1 ⟨v, hb1, rfl⟩)
    go_ret
    exact ⟨rfl, hb1⟩
  | some ls =>
    rw [h] at HC
    clear h
    go_enter Try.func39, Try.ntmps39
    go_wp2_with (go_at_call 57; refine HC.out.mono ?_; rintro e w1 ⟨v, hb1, rfl, _⟩)
    go_ret
    exact ⟨rfl, hb1⟩
theorem rd_strEmpty (s : ByteArray) : (s.toList == []) = (s.data.toList == []) := by
  have e0 : (⟨#[]⟩ : ByteArray).toList = [] := by kernel_rfl
  by_cases h : s.data.toList = []
  · obtain rfl : s = ⟨#[]⟩ := string_eq h
    rw [e0]
  · have h1 : (s.toList == (⟨#[]⟩ : ByteArray).toList) = false := by
      rw [← beq_toListBytes, Bool.eq_false_iff]
      intro hb
      have := (MapKept.bytes_beq _ _).1 hb
      subst this
      exact h rfl
    rw [e0] at h1
    rw [h1]
    cases hb : (s.data.toList == []) with
    | false => rfl
    | true => exact absurd (beq_iff_eq.1 hb) h

theorem raw16 (l : List UInt8) : Rd.rawOk 16 l = match Rd.tx l with | some (_ :: _) => decide (l.length ≤ 65535) | _ => false := rfl
end Go.Proofs.Ytnhoaceickojeaa
