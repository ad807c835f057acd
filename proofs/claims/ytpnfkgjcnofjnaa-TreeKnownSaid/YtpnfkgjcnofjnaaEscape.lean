/- Escape, Text: a text of bytes, of a name. -/
import Derived.Test.YtpnfkgjcnofjnaaParse
namespace Go.Proofs.Ytpnfkgjcnofjnaa
open Go.RowKit

theorem cells_new (w : World) (t : TypeId) (l : List Value) : ∀ j u, l[j]? = some u → (w.alloc (.cells l.toArray t)).cell? ((⟨w.heap.size, 0, none⟩ : Addr).add j) = some u := by
  intro j u h
  have : (⟨w.heap.size, 0, none⟩ : Addr).add j = ⟨w.heap.size, j, none⟩ := by unfold Addr.add; split <;> simp_all
  rw [this, (Has.fresh w t l.toArray).cell]; simpa using h
theorem bv1 (c : UInt8) : bv [c] = [.int .u8 (c.toNat : Nat)] := rfl
theorem bv2 (a c : UInt8) : bv [a, c] = [.int .u8 (a.toNat : Nat), .int .u8 (c.toNat : Nat)] := rfl
theorem bv4 (c : UInt8) : bv (92 :: Nm.dig3 c) = [.int .u8 92, .int .u8 (48 + (c.toNat : Int) / 100), .int .u8 (48 + (c.toNat : Int) / 10 % 10), .int .u8 (48 + (c.toNat : Int) % 10)] := by
  have := c.toNat_lt
  have h1 : (UInt8.ofNat (48 + c.toNat / 100)).toNat = 48 + c.toNat / 100 := by simp; omega
  have h2 : (UInt8.ofNat (48 + c.toNat / 10 % 10)).toNat = 48 + c.toNat / 10 % 10 := by simp; omega
  have h3 : (UInt8.ofNat (48 + c.toNat % 10)).toNat = 48 + c.toNat % 10 := by simp; omega
  simp only [bv, Nm.dig3, List.map_cons, List.map_nil, h1, h2, h3]
  simp
/-- Escape's closure at one byte: the row has what the byte becomes. -/
def EscPost (B : Nat) (w : World) (n : Nat) (xs : List Value) (l : List UInt8) (e : Ending) (w' : World) : Prop :=
  ∃ v', e = .returned v' ∧ w'.ownsRow B 5 1 v' (n + l.length) (xs ++ bv l) ∧ Below B w w'
theorem esc_done {B n : Nat} {w w1 : World} {xs : List Value} {v v' : Value} {l : List UInt8} {news : List Value} {o : Obj} (hB : B ≤ w.heap.size) (hown : w.ownsRow B 5 1 v n xs) (hl : bv l = news)
    (h1 : w1.ownsRow B 5 1 v' (n + l.length) (xs ++ news)) (hg : (w.alloc o).grownBy w1 v.ownBlock) : EscPost B w n xs l (.returned v') w1 :=
  ⟨v', rfl, by rw [hl]; exact h1, ((Below.refl _ _).alloc hB _).grown hg (by simp; omega) (fun j hj => (hown.lt j hj).1)⟩

theorem ne {c : UInt8} {n : Nat} (h : c.toNat ≠ n) : ((c.toNat : Int) == (n : Int)) = false := beq_eq_false_iff_ne.2 (by omega)
theorem eq {c : UInt8} {n : Nat} (h : c.toNat = n) : ((c.toNat : Int) == (n : Int)) = true := beq_iff_eq.2 (by omega)
theorem textL_snoc (ls : List (List UInt8)) (l : List UInt8) : Nm.textL (ls ++ [l]) = Nm.textL ls ++ (Nm.esc false l ++ [46]) := by simp [Nm.textL]
theorem text_root : Nm.text [0] = [46] := rfl
theorem text_of (l : List UInt8) (h : l ≠ [0]) : Nm.text l = Nm.textL (labelsOf l) := by
  unfold Nm.text labelsOf
  rcases hs : Nm.split l with _ | ls
  · rfl
  · rcases ls with _ | ⟨a, ls⟩
    · exact absurd (Nm.split_some.1 hs).1 h
    · rfl
theorem labelsOf_good (l : List UInt8) : Nm.Good (labelsOf l) ∧ (labelsOf l).length ≤ 127 := by
  unfold labelsOf
  rcases hs : Nm.split l with _ | ls
  · exact ⟨fun x hx => by simp at hx, by simp⟩
  · exact ⟨(Nm.split_some.1 hs).2.1, few hs⟩
theorem textL_len (ls : List (List UInt8)) (h : Nm.Good ls) : (Nm.textL ls).length ≤ 300 * ls.length := by
  induction ls with
  | nil => simp [Nm.textL]
  | cons a ls ih =>
    have := ih (fun x hx => h x (by simp [hx]))
    have ha := (h a (by simp)).2
    have he := Nm.esc_len false a
    have e : Nm.textL (a :: ls) = (Nm.esc false a ++ [46]) ++ Nm.textL ls := rfl
    rw [e]; simp; omega

end Go.Proofs.Ytpnfkgjcnofjnaa
