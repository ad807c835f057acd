/- Data of types, as plain lists: the document's definitions. Nothing of the program. -/
import Derived.Test.YtnhoaceickojeaaTextPure
namespace Go.Proofs.Ytnhoaceickojeaa.Rd

abbrev By := List UInt8

/-- short texts, one behind the other; f bounds how many. -/
def txF : Nat → By → Option (List By)
  | 0, _ => none
  | _ + 1, [] => some []
  | f + 1, k :: t => if t.length < k.toNat then none else (txF f (t.drop k.toNat)).map (t.take k.toNat :: ·)
def tx (l : By) : Option (List By) := txF (l.length + 1) l
theorem txF_more : ∀ (f : Nat) (l : By), l.length < f → txF (f + 1) l = txF f l := by
  intro f
  induction f with
  | zero => intro l h; omega
  | succ f ih =>
    intro l h
    cases l with
    | nil => rfl
    | cons k t =>
      rw [txF, txF]
      have hd : (t.drop k.toNat).length < f := by simp at h ⊢; omega
      rw [ih _ hd]
theorem txF_eq : ∀ (d f : Nat) (l : By), l.length < f → txF (f + d) l = txF f l := by
  intro d
  induction d with
  | zero => intro f l _; rfl
  | succ d ih => intro f l h; rw [← Nat.add_assoc, txF_more _ _ (by omega)]; exact ih f l h
theorem tx_nil : tx [] = some [] := rfl
theorem tx_bad {k : UInt8} {t : By} (h : t.length < k.toNat) : tx (k :: t) = none := by unfold tx; rw [List.length_cons, txF, if_pos h]
theorem tx_cons {k : UInt8} {t : By} (h : ¬ t.length < k.toNat) : tx (k :: t) = (tx (t.drop k.toNat)).map (t.take k.toNat :: ·) := by
  have e : txF (t.length + 1) (t.drop k.toNat) = tx (t.drop k.toNat) := by
    have := txF_eq (k.toNat) ((t.drop k.toNat).length + 1) (t.drop k.toNat) (by omega)
    rw [show (t.drop k.toNat).length + 1 + k.toNat = t.length + 1 from by rw [List.length_drop]; omega] at this
    exact this
  unfold tx at e ⊢
  rw [List.length_cons, txF, if_neg h, e]
/-- a text is never of more pieces than it has bytes. -/
theorem tx_len {l : By} {ls : List By} : tx l = some ls → ls.length ≤ l.length := by
  suffices H : ∀ n (l : By) (ls : List By), l.length ≤ n → tx l = some ls → ls.length ≤ l.length from H l.length l ls (Nat.le_refl _)
  intro n
  induction n with
  | zero =>
    intro l ls hl h
    obtain rfl : l = [] := List.eq_nil_of_length_eq_zero (by omega)
    rw [tx_nil] at h; cases h; simp
  | succ n ih =>
    intro l ls hl h
    cases l with
    | nil => rw [tx_nil] at h; cases h; simp
    | cons k t =>
      by_cases hk : t.length < k.toNat
      · rw [tx_bad hk] at h; cases h
      · rw [tx_cons hk] at h
        obtain ⟨r, hr, rfl⟩ := Option.map_eq_some_iff.1 h
        have := ih _ _ (by simp at hl ⊢; omega) hr
        simp at this ⊢
        omega

/-- data. -/
structure Dt where
  raw : By
  host : By
  mail : By
  n0 : Nat
  n1 : Nat
  n2 : Nat
  n3 : Nat
  n4 : Nat
def isHost (t : Nat) : Bool := t == 2 || t == 5 || t == 12 || t == 6 || t == 15 || t == 33
def isMail (t : Nat) : Bool := t == 6
def cnt (t : Nat) : Nat := if t = 6 then 5 else if t = 15 then 1 else if t = 33 then 3 else 0
def bits (t : Nat) : Nat := if t = 6 then 32 else if t = 15 then 16 else if t = 33 then 16 else 0
def rawOk (t : Nat) (s : By) : Bool :=
  if isHost t then s == [] else if t = 1 then s.length == 4 else if t = 28 then s.length == 16
  else if t = 16 then (match tx s with | some (_ :: _) => decide (s.length ≤ 65535) | _ => false) else decide (s.length ≤ 65535)
def nm (s : By) : Bool := (Nm.split s).isSome
def numOk (t i x : Nat) : Bool := if i < cnt t then !(bits t == 16 && decide (65535 < x)) else x == 0
def ok (t : Nat) (d : Dt) : Bool :=
  rawOk t d.raw && (isHost t == nm d.host) && (isHost t || d.host == []) && (isMail t == nm d.mail) && (isMail t || d.mail == []) &&
  numOk t 0 d.n0 && numOk t 1 d.n1 && numOk t 2 d.n2 && numOk t 3 d.n3 && numOk t 4 d.n4

/-- a number to the base 10, and to the base 16. -/
def dec (n : Nat) : By := if n < 10 then [UInt8.ofNat (48 + n)] else dec (n / 10) ++ [UInt8.ofNat (48 + n % 10)]
def hx (n : Nat) : UInt8 := if n < 10 then UInt8.ofNat (48 + n) else UInt8.ofNat (87 + n)
def hex (n : Nat) : By := if n < 16 then [hx n] else hex (n / 16) ++ [hx (n % 16)]
theorem dec_small {n : Nat} (h : n < 10) : dec n = [UInt8.ofNat (48 + n)] := by rw [dec, if_pos h]
theorem dec_more {n : Nat} (h : ¬ n < 10) : dec n = dec (n / 10) ++ [UInt8.ofNat (48 + n % 10)] := by rw [dec, if_neg h]
theorem hex_small {n : Nat} (h : n < 16) : hex n = [hx n] := by rw [hex, if_pos h]
theorem hex_more {n : Nat} (h : ¬ n < 16) : hex n = hex (n / 16) ++ [hx (n % 16)] := by rw [hex, if_neg h]
theorem dec_len (n : Nat) : (dec n).length ≤ n + 1 := by
  induction n using Nat.strongRecOn with
  | ind n ih =>
    by_cases h : n < 10
    · rw [dec_small h]; simp
    · rw [dec_more h]
      have := ih (n / 10) (by omega)
      simp
      omega
theorem hex_len (n : Nat) : (hex n).length ≤ n + 1 := by
  induction n using Nat.strongRecOn with
  | ind n ih =>
    by_cases h : n < 16
    · rw [hex_small h]; simp
    · rw [hex_more h]
      have := ih (n / 16) (by omega)
      simp
      omega
/-- the types that have a text. -/
def tyTab : List (Nat × By) := [(1, [65]), (2, [78, 83]), (5, [67, 78, 65, 77, 69]), (6, [83, 79, 65]), (12, [80, 84, 82]), (15, [77, 88]), (16, [84, 88, 84]), (28, [65, 65, 65, 65]), (33, [83, 82, 86])]
def tyText (t : Nat) : By := match tyTab.find? (fun x => x.1 == t) with
  | some x => x.2
  | none => [84, 89, 80, 69] ++ dec t
/-- a number that a text tells, of at most so much. -/
def num (s : By) (most : Nat) : Option Nat :=
  if s.length = 0 ∨ (1 < s.length ∧ s.head? = some 48) ∨ 12 < s.length then none
  else if s.all (fun c => decide (48 ≤ c.toNat) && decide (c.toNat ≤ 57)) then
    (let v := s.foldl (fun v c => 10 * v + (c.toNat - 48)) 0
     if most < v then none else some v)
  else none
def tyOf (s : By) : Option Nat := match tyTab.find? (fun x => Nm.fold x.2 == Nm.fold s) with
  | some x => some x.1
  | none => if (Nm.fold s).take 4 = [116, 121, 112, 101] then num (s.drop 4) 65535 else none
end Go.Proofs.Ytnhoaceickojeaa.Rd
