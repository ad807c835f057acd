/- Numbers as bytes, the greatest first: plain lists. Nothing of the program. -/
import Derived.Lib.Hide
namespace Go.Proofs.Ytfekmolgiohegaa.Oc

abbrev By := List UInt8

/-- the bytes of a number, k of them. -/
def beb : Nat → Nat → By
  | 0, _ => []
  | k + 1, v => UInt8.ofNat (v / 256 ^ k) :: beb k v
/-- the number of some bytes. -/
def num (l : By) : Nat := l.foldl (fun a c => a * 256 + c.toNat) 0

theorem beb_length (k v : Nat) : (beb k v).length = k := by
  induction k with
  | zero => rfl
  | succ k ih => simp [beb, ih]
theorem num_snoc (l : By) (c : UInt8) : num (l ++ [c]) = num l * 256 + c.toNat := by simp [num]
theorem fold_lin (l : By) : ∀ a : Nat, l.foldl (fun a c => a * 256 + c.toNat) a = a * 256 ^ l.length + num l := by
  induction l with
  | nil => intro a; simp [num]
  | cons c t ih =>
    intro a
    have h0 := ih c.toNat
    have h1 : num (c :: t) = t.foldl (fun a c => a * 256 + c.toNat) c.toNat := by simp [num]
    rw [List.foldl_cons, ih, h1, h0, List.length_cons, Nat.pow_succ]
    rw [Nat.add_mul, Nat.mul_assoc, Nat.mul_comm 256 (256 ^ t.length)]
    omega
theorem num_cons (c : UInt8) (l : By) : num (c :: l) = c.toNat * 256 ^ l.length + num l := by
  have := fold_lin l c.toNat
  simpa [num] using this
theorem num_lt (l : By) : num l < 256 ^ l.length := by
  induction l with
  | nil => simp [num]
  | cons c t ih =>
    rw [num_cons, List.length_cons, Nat.pow_succ]
    have hc := c.toNat_lt
    have h1 : c.toNat * 256 ^ t.length ≤ 255 * 256 ^ t.length := Nat.mul_le_mul_right _ (by omega)
    omega
theorem num_beb (k v : Nat) : num (beb k v) = v % 256 ^ k := by
  induction k with
  | zero => simp [beb, num, Nat.mod_one]
  | succ k ih =>
    rw [beb, num_cons, beb_length, ih]
    have h1 : (UInt8.ofNat (v / 256 ^ k)).toNat = v / 256 ^ k % 256 := by simp
    rw [h1, Nat.pow_succ, Nat.mod_mul (x := v) (a := 256 ^ k) (b := 256), Nat.mul_comm]
    omega
theorem beb_mod (k v m : Nat) (h : k ≤ m) : beb k (v % 256 ^ m) = beb k v := by
  induction k with
  | zero => rfl
  | succ k ih =>
    rw [beb, beb, ih (by omega)]
    have : UInt8.ofNat (v % 256 ^ m / 256 ^ k) = UInt8.ofNat (v / 256 ^ k) := by
      apply UInt8.toNat_inj.1
      have e : (256 : Nat) ^ m = 256 ^ k * 256 ^ (m - k) := by rw [← Nat.pow_add]; congr 1; omega
      have h2 : v % 256 ^ m / 256 ^ k = v / 256 ^ k % 256 ^ (m - k) := by rw [e, Nat.mod_mul_right_div_self]
      rw [h2]
      have e2 : (256 : Nat) ^ (m - k) = 256 * 256 ^ (m - k - 1) := by rw [← Nat.pow_succ']; congr 1; omega
      simp only [UInt8.toNat_ofNat']
      rw [e2]
      exact Nat.mod_mul_right_mod _ _ _
    rw [this]
theorem num_take_succ (l : By) (k : Nat) (h : k < l.length) : num (l.take (k + 1)) = num (l.take k) * 256 + l[k].toNat := by
  rw [List.take_succ_eq_append_getElem h, num_snoc]
theorem num_take_lt (l : By) (k : Nat) : num (l.take k) < 256 ^ k := by
  have := num_lt (l.take k)
  have h2 : (l.take k).length ≤ k := List.length_take_le _ _
  exact Nat.lt_of_lt_of_le this (Nat.pow_le_pow_right (by omega) h2)
end Go.Proofs.Ytfekmolgiohegaa.Oc
