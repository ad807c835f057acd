/- The document's answer on data: may they be? -/
import Derived.Test.YtgmemngfkajnbaaRdRef
import Derived.Laws.StructEq
import Derived.MapKept
namespace Go.Proofs.Ytgmemngfkajnbaa
open Go.RowKit

theorem rd_strEmpty (s : ByteArray) : (s.toList == []) = (s.data.toList == []) := by
  have e0 : (⟨#[]⟩ : ByteArray).toList = [] := by kernel_rfl
  by_cases h : s.data.toList = []
  · obtain rfl : s = ⟨#[]⟩ := string_eq h
    rw [e0]
  · have h1 : (s.toList == (⟨#[]⟩ : ByteArray).toList) = false := by
      rw [← beq_toListBytes, Bool.eq_false_iff]
      intro hb
      have := (MapKept.bytes_beq _ _).1 hb
      subst this
      exact h rfl
    rw [e0] at h1
    rw [h1]
    cases hb : (s.data.toList == []) with
    | false => rfl
    | true => exact absurd (beq_iff_eq.1 hb) h

theorem raw16 (l : List UInt8) : Rd.rawOk 16 l = match Rd.tx l with | some (_ :: _) => decide (l.length ≤ 65535) | _ => false := rfl
end Go.Proofs.Ytgmemngfkajnbaa
