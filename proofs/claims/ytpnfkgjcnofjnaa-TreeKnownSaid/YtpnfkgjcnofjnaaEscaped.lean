/- escaped, Bytes, cut: a text's bytes, and its pieces. -/
import Derived.Test.YtpnfkgjcnofjnaaRow
import Derived.Test.YtpnfkgjcnofjnaaTextPure
import Derived.Test.YtpnfkgjcnofjnaaShelf
import Derived.Lib.ConvBytes
import Derived.Lib.ParseIntB
namespace Go.Proofs.Ytpnfkgjcnofjnaa
open Go.RowKit Go.Lib

theorem bytesWorld_below (w : World) (e : TypeId) (s : ByteArray) : Below w.heap.size w (Lib.bytesWorld w e s) := ⟨rfl, rfl, rfl, by rw [Lib.bytesWorld_size]; omega, fun j hj => Lib.bytesWorld_at_old w e s j hj⟩

/-- three bytes as a number: what ParseUint says of them. -/
theorem parse3 (a b c : UInt8) (h : Nm.dg a ∧ Nm.dg b ∧ Nm.dg c ∧ Nm.val3 a b c ≤ 255) : Lib.parseUintB 8 [a, b, c] = .ok (Nm.val3 a b c) := by
  obtain ⟨⟨a1, a2⟩, ⟨b1, b2⟩, ⟨c1, c2⟩, hv⟩ := h
  unfold Nm.val3 at *
  unfold Lib.parseUintB
  rw [if_neg (by simp)]
  simp only [Lib.parseUintM]
  rw [if_pos ⟨a1, a2⟩, if_neg (by omega), if_neg (by omega), if_pos ⟨b1, b2⟩, if_neg (by omega), if_neg (by omega), if_pos ⟨c1, c2⟩, if_neg (by omega), if_neg (by omega)]
  congr 1; omega
theorem parse3_no (a b c : UInt8) (h : ¬ (Nm.dg a ∧ Nm.dg b ∧ Nm.dg c ∧ Nm.val3 a b c ≤ 255)) : Lib.parseUintB 8 [a, b, c] = Lib.parseUintB 8 [] ∨ Lib.parseUintB 8 [a, b, c] = .range := by
  unfold Lib.parseUintB
  rw [if_neg (by simp)]
  simp only [Lib.parseUintM]
  by_cases ha : 48 ≤ a.toNat ∧ a.toNat ≤ 57
  · rw [if_pos ha, if_neg (by omega), if_neg (by omega)]
    by_cases hb : 48 ≤ b.toNat ∧ b.toNat ≤ 57
    · rw [if_pos hb, if_neg (by omega), if_neg (by omega)]
      by_cases hc : 48 ≤ c.toNat ∧ c.toNat ≤ 57
      · rw [if_pos hc, if_neg (by omega), if_pos ?_]
        · exact .inr rfl
        · have : ¬ Nm.val3 a b c ≤ 255 := fun hv => h ⟨ha, hb, hc, hv⟩
          unfold Nm.val3 at this; omega
      · rw [if_neg hc]; exact .inl rfl
    · rw [if_neg hb]; exact .inl rfl
  · rw [if_neg ha]; exact .inl rfl

theorem empty_yes {s : ByteArray} (h : s.size = 0) : s.toList.isEmpty = true := by
  rw [toList_data, List.isEmpty_iff]; exact List.eq_nil_of_length_eq_zero (by simpa using h)
theorem empty_no {s : ByteArray} (h : s.size ≠ 0) : s.toList.isEmpty = false := by
  rw [toList_data]
  rcases hs : s.data.toList with _ | ⟨c, t⟩
  · exact absurd (by have := congrArg List.length hs; simpa using this) h
  · rfl

def escR (l : List UInt8) : Value := match Nm.escd l with
  | none => .tuple #[.int .u8 0, .int .i64 0]
  | some (b, k) => .tuple #[.int .u8 (b.toNat : Nat), .int .i64 (k : Nat)]
theorem escR_none {l : List UInt8} (h : Nm.escd l = none) : escR l = .tuple #[.int .u8 0, .int .i64 0] := by unfold escR; rw [h]
theorem escR_some {l : List UInt8} {b : UInt8} {k : Nat} (h : Nm.escd l = some (b, k)) : escR l = .tuple #[.int .u8 (b.toNat : Nat), .int .i64 (k : Nat)] := by unfold escR; rw [h]
theorem at_list (s : ByteArray) (k : Nat) (h : k < s.size) : s.data.toList[k]'(by simpa using h) = s[k] := rfl

def unR (l : List UInt8) : Value := match Nm.unesc l with
  | none => .tuple #[.string ⟨#[]⟩, .int .i64 12]
  | some r => .tuple #[sv r, .int .i64 0]

/-- the bytes so far, at k. -/
def Sofar (l : List UInt8) (k : Nat) (out : List UInt8) : Prop := k ≤ l.length ∧ out.length ≤ k ∧ Nm.unesc l = (Nm.unesc (l.drop k)).map (out ++ ·)
theorem Sofar.zero (l : List UInt8) : Sofar l 0 [] := ⟨Nat.zero_le _, by simp, by simp⟩
theorem Sofar.plain {l : List UInt8} {k : Nat} {out : List UInt8} (h : Sofar l k out) (hk : k < l.length) (hc : (l[k]).toNat ≠ 92) : Sofar l (k + 1) (out ++ [l[k]]) := by
  refine ⟨hk, by have := h.2.1; simp; omega, ?_⟩
  rw [h.2.2, Nm.drop_cons hk, Nm.unesc_plain hc]
  rcases Nm.unesc (l.drop (k + 1)) with _ | r <;> simp
theorem Sofar.yes {l : List UInt8} {k : Nat} {out : List UInt8} {b : UInt8} {n : Nat} (h : Sofar l k out) (hk : k < l.length) (hc : (l[k]).toNat = 92) (he : Nm.escd (l.drop (k + 1)) = some (b, n)) : Sofar l (k + 1 + n) (out ++ [b]) := by
  have hp := Nm.escd_pos he
  simp at hp
  refine ⟨by omega, by have := h.2.1; simp; omega, ?_⟩
  rw [h.2.2, Nm.drop_cons hk, Nm.unesc_yes hc he, List.drop_drop]
  rcases Nm.unesc (l.drop (k + 1 + n)) with _ | r <;> simp
theorem Sofar.no {l : List UInt8} {k : Nat} {out : List UInt8} (h : Sofar l k out) (hk : k < l.length) (hc : (l[k]).toNat = 92) (he : Nm.escd (l.drop (k + 1)) = none) : unR l = .tuple #[.string ⟨#[]⟩, .int .i64 12] := by
  unfold unR
  rw [h.2.2, Nm.drop_cons hk, Nm.unesc_no hc he]; rfl
theorem Sofar.done {l : List UInt8} {out : List UInt8} (h : Sofar l l.length out) : unR l = .tuple #[sv out, .int .i64 0] := by
  unfold unR
  rw [h.2.2, List.drop_length, Nm.unesc_nil]; simp

end Go.Proofs.Ytpnfkgjcnofjnaa
