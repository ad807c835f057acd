/- Data as an argument. -/
import Derived.Test.YtgmemngfkajnbaaShut
import Derived.Test.YtgmemngfkajnbaaRdDat
namespace Go.Proofs.Ytgmemngfkajnbaa
open Go.ChangeShapes Go.WideShapes Go.RowKit

theorem wf_u32 {x : Int} (h : (Lit.int .u32 x).wf = true) : ∃ n : Nat, x = n ∧ n ≤ 4294967295 := by
  have h1 : IntKind.u32.min = 0 := rfl
  have h2 : IntKind.u32.max = 4294967295 := rfl
  simp only [Lit.wf, Bool.and_eq_true, decide_eq_true_eq] at h
  exact ⟨x.toNat, by omega, by omega⟩
theorem fits_mk {r h m : ByteArray} {a b c d e : Nat} (ha : a ≤ 4294967295) (hb : b ≤ 4294967295) (hc : c ≤ 4294967295) (hd : d ≤ 4294967295) (he : e ≤ 4294967295) : (Dv.mk r h m a b c d e).fits := fun k => by
  match k with
  | 0 => exact ha
  | 1 => exact hb
  | 2 => exact hc
  | 3 => exact hd
  | _ + 4 => exact he
end Go.Proofs.Ytgmemngfkajnbaa
