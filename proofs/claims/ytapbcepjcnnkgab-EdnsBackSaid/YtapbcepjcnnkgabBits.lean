/- Bits of numbers of 32 bits: or, and, as sums and remainders. -/
import Derived.WalkKit
import Derived.Laws.Bits64b
namespace Go.Proofs.Ytapbcepjcnnkgab
open Go.RowKit

theorem ofInt_nat (n : Nat) : BitVec.ofInt 32 (n : Int) = BitVec.ofNat 32 n := by
  apply BitVec.eq_of_toNat_eq
  simp
theorem wrap_u32 (n : Nat) (h : n < 4294967296) : IntKind.u32.wrap (n : Int) = n := by
  have := IntWalk.u32_in (n : Int) (by omega)
  exact this
theorem or32 (a b : Nat) (ha : a < 16777216) (hb : b < 256) : bits .or .u32 ((a : Int) * 256) (b : Int) = ((a * 256 + b : Nat) : Int) := by
  have e : ((a : Int) * 256) = ((a * 256 : Nat) : Int) := by omega
  unfold bits
  rw [e]
  show IntKind.u32.wrap (((BitVec.ofInt 32 ((a * 256 : Nat) : Int)) ||| (BitVec.ofInt 32 (b : Int))).toNat : Int) = _
  rw [ofInt_nat, ofInt_nat, BitVec.toNat_or, BitVec.toNat_ofNat, BitVec.toNat_ofNat, Nat.mod_eq_of_lt (by omega), Nat.mod_eq_of_lt (by omega)]
  have h := Nat.shiftLeft_add_eq_or_of_lt (i := 8) (b := b) (by omega) a
  rw [Nat.shiftLeft_eq] at h
  have h2 : a * 256 ||| b = a * 256 + b := h.symm
  rw [h2]
  exact wrap_u32 _ (by omega)
theorem or32_0 (b : Nat) (hb : b < 256) : bits .or .u32 0 (b : Int) = (b : Int) := by
  have := or32 0 b (by omega) hb
  simpa using this
theorem and32 (v k : Nat) (hv : v < 4294967296) (hk : k ≤ 31) : bits .and .u32 (v : Int) ((2 ^ k - 1 : Nat) : Int) = ((v % 2 ^ k : Nat) : Int) := by
  have hk2 : 2 ^ k ≤ 2 ^ 31 := Nat.pow_le_pow_right (by omega) hk
  unfold bits
  show IntKind.u32.wrap (((BitVec.ofInt 32 (v : Int)) &&& (BitVec.ofInt 32 ((2 ^ k - 1 : Nat) : Int))).toNat : Int) = _
  rw [ofInt_nat, ofInt_nat, BitVec.toNat_and, BitVec.toNat_ofNat, BitVec.toNat_ofNat, Nat.mod_eq_of_lt hv, Nat.mod_eq_of_lt (by omega), Nat.and_two_pow_sub_one_eq_mod]
  have := Nat.mod_lt v (Nat.two_pow_pos k)
  exact wrap_u32 _ (by omega)
theorem and32_255 (v : Nat) (hv : v < 4294967296) : bits .and .u32 (v : Int) 255 = ((v % 256 : Nat) : Int) := and32 v 8 hv (by omega)
theorem and32_65535 (v : Nat) (hv : v < 4294967296) : bits .and .u32 (v : Int) 65535 = ((v % 65536 : Nat) : Int) := and32 v 16 hv (by omega)
end Go.Proofs.Ytapbcepjcnnkgab
