/- Plain lists of bytes: texts of names, backslashes, dots. Nothing of the program. -/
import Derived.Test.YtnhoaceickojeaaPure
namespace Go.Proofs.Ytnhoaceickojeaa.Nm

def dg (c : UInt8) : Prop := 48 ≤ c.toNat ∧ c.toNat ≤ 57
instance (c : UInt8) : Decidable (dg c) := inferInstanceAs (Decidable (_ ∧ _))
def val3 (a b c : UInt8) : Nat := 100 * (a.toNat - 48) + 10 * (b.toNat - 48) + (c.toNat - 48)
/-- what is told behind a backslash, and by how many bytes. -/
def escd : By → Option (UInt8 × Nat)
  | [] => none
  | c :: t => if ¬ dg c then some (c, 1) else
    match t with
    | d :: e :: _ => if dg d ∧ dg e ∧ val3 c d e ≤ 255 then some (UInt8.ofNat (val3 c d e), 3) else none
    | _ => none
theorem escd_plain {c : UInt8} {t : By} (h : ¬ dg c) : escd (c :: t) = some (c, 1) := by show (if ¬ dg c then _ else _) = _; rw [if_pos h]
theorem escd_few {c : UInt8} {t : By} (h : dg c) (ht : t.length < 2) : escd (c :: t) = none := by
  show (if ¬ dg c then _ else _) = _
  rw [if_neg (fun x => x h)]
  match t, ht with
  | [], _ => rfl
  | [d], _ => rfl
  | d :: e :: r, ht => simp at ht; omega
theorem escd_three {c d e : UInt8} {r : By} (h : dg c) : escd (c :: d :: e :: r) = if dg d ∧ dg e ∧ val3 c d e ≤ 255 then some (UInt8.ofNat (val3 c d e), 3) else none := by
  show (if ¬ dg c then _ else _) = _
  rw [if_neg (fun x => x h)]
theorem escd_pos {l : By} {b : UInt8} {k : Nat} (h : escd l = some (b, k)) : 1 ≤ k ∧ k ≤ l.length := by
  unfold escd at h
  split at h
  · simp at h
  · split at h
    · injection h with h; injection h with _ h; subst h; simp
    · split at h
      · split at h
        · injection h with h; injection h with _ h; subst h; simp
        · simp at h
      · simp at h

/-- a text's bytes. -/
def unescF : Nat → By → Option By
  | 0, _ => none
  | _ + 1, [] => some []
  | f + 1, c :: t =>
    if c.toNat = 92 then
      match escd t with
      | none => none
      | some (b, k) => (unescF f (t.drop k)).map (b :: ·)
    else (unescF f t).map (c :: ·)
theorem unescF_more : ∀ (f : Nat) (l : By), l.length < f → unescF (f + 1) l = unescF f l := by
  intro f
  induction f with
  | zero => intro l h; omega
  | succ f ih =>
    intro l h
    cases l with
    | nil => rfl
    | cons c t =>
      rw [unescF, unescF]
      have ht : t.length < f := by simpa using h
      rcases he : escd t with _ | ⟨b, k⟩
      · simp only [ih t ht]
      · simp only [ih t ht, ih (t.drop k) (by simp; omega)]
theorem unescF_eq (d f : Nat) (l : By) (h : l.length < f) : unescF (f + d) l = unescF f l := by
  induction d with
  | zero => rfl
  | succ d ih => rw [← Nat.add_assoc, unescF_more _ _ (by omega)]; exact ih
def unesc (l : By) : Option By := unescF (l.length + 1) l
theorem unescF_len (f : Nat) (l : By) (h : l.length < f) : unescF f l = unesc l := by
  have := unescF_eq (f - (l.length + 1)) (l.length + 1) l (by omega)
  rw [show l.length + 1 + (f - (l.length + 1)) = f from by omega] at this
  exact this
theorem unesc_nil : unesc [] = some [] := rfl
theorem unesc_plain {c : UInt8} {t : By} (h : c.toNat ≠ 92) : unesc (c :: t) = (unesc t).map (c :: ·) := by
  rw [unesc, unescF, if_neg h, unescF_len _ t (by simp)]
theorem unesc_no {c : UInt8} {t : By} (h : c.toNat = 92) (he : escd t = none) : unesc (c :: t) = none := by
  rw [unesc, unescF, if_pos h, he]
theorem unesc_yes {c b : UInt8} {k : Nat} {t : By} (h : c.toNat = 92) (he : escd t = some (b, k)) : unesc (c :: t) = (unesc (t.drop k)).map (b :: ·) := by
  rw [unesc, unescF, if_pos h, he]
  simp only []
  rw [unescF_len _ _ (by simp; omega)]
theorem unesc_len : ∀ (n : Nat) (l r : By), l.length ≤ n → unesc l = some r → r.length ≤ l.length := by
  intro n
  induction n with
  | zero =>
    intro l r h he
    have : l = [] := List.eq_nil_of_length_eq_zero (by omega)
    subst this; rw [unesc_nil] at he; injection he with he; subst he; simp
  | succ n ih =>
    intro l r h he
    cases l with
    | nil => rw [unesc_nil] at he; injection he with he; subst he; simp
    | cons c t =>
      by_cases h92 : c.toNat = 92
      · rcases hd : escd t with _ | ⟨b, k⟩
        · rw [unesc_no h92 hd] at he; simp at he
        · rw [unesc_yes h92 hd] at he
          rcases hr : unesc (t.drop k) with _ | r'
          · rw [hr] at he; simp at he
          · rw [hr] at he; simp at he; subst he
            have := ih _ _ (by simp at h ⊢; omega) hr
            have := (escd_pos hd).1
            simp at *; omega
      · rw [unesc_plain h92] at he
        rcases hr : unesc t with _ | r'
        · rw [hr] at he; simp at he
        · rw [hr] at he; simp at he; subst he
          have := ih _ _ (by simpa using h) hr
          simp; omega

/-- up to the first dot that is not behind a backslash; what is left; whether there is one. -/
def cutP : By → By × By × Bool
  | [] => ([], [], false)
  | [c] => if c.toNat = 46 then ([], [], true) else ([c], [], false)
  | c :: d :: t =>
    if c.toNat = 46 then ([], d :: t, true)
    else if c.toNat = 92 then let r := cutP t; (c :: d :: r.1, r.2)
    else let r := cutP (d :: t); (c :: r.1, r.2)
theorem cutP_dot {c : UInt8} {t : By} (h : c.toNat = 46) : cutP (c :: t) = ([], t, true) := by
  cases t <;> simp [cutP, h]
theorem cutP_back {c d : UInt8} {t : By} (h : c.toNat = 92) : cutP (c :: d :: t) = (c :: d :: (cutP t).1, (cutP t).2) := by
  simp [cutP, h]
theorem cutP_last {c : UInt8} (h : c.toNat ≠ 46) : cutP [c] = ([c], [], false) := by simp [cutP, h]
theorem cutP_plain {c : UInt8} {t : By} (h : c.toNat ≠ 46) (h2 : c.toNat ≠ 92) : cutP (c :: t) = (c :: (cutP t).1, (cutP t).2) := by
  cases t <;> simp [cutP, h, h2]
theorem cutP_less : ∀ (n : Nat) (l : By), l.length ≤ n → (cutP l).2.2 = true → (cutP l).2.1.length < l.length := by
  intro n
  induction n with
  | zero => intro l h; have : l = [] := List.eq_nil_of_length_eq_zero (by omega); subst this; simp [cutP]
  | succ n ih =>
    intro l h hd
    match l with
    | [] => simp [cutP] at hd
    | [c] =>
      by_cases h46 : c.toNat = 46
      · rw [cutP_dot h46]; simp
      · rw [cutP_last h46] at hd; simp at hd
    | c :: d :: t =>
      by_cases h46 : c.toNat = 46
      · rw [cutP_dot h46]; simp
      · by_cases h92 : c.toNat = 92
        · rw [cutP_back h92] at hd ⊢
          have := ih t (by simp at h; omega) hd
          simp at *; omega
        · rw [cutP_plain h46 h92] at hd ⊢
          have := ih (d :: t) (by simpa using h) hd
          simp at *; omega

/-- the pieces of a text, and whether it is whole. -/
def piecesF : Nat → By → List By × Bool
  | 0, _ => ([], false)
  | f + 1, l =>
    if (cutP l).2.2 then
      if (cutP l).2.1.length = 0 then ([(cutP l).1], true) else ((cutP l).1 :: (piecesF f (cutP l).2.1).1, (piecesF f (cutP l).2.1).2)
    else ([(cutP l).1], false)
theorem piecesF_succ (f : Nat) (l : By) : piecesF (f + 1) l = if (cutP l).2.2 then
      if (cutP l).2.1.length = 0 then ([(cutP l).1], true) else ((cutP l).1 :: (piecesF f (cutP l).2.1).1, (piecesF f (cutP l).2.1).2)
    else ([(cutP l).1], false) := rfl
theorem piecesF_more : ∀ (f : Nat) (l : By), l.length < f → piecesF (f + 1) l = piecesF f l := by
  intro f
  induction f with
  | zero => intro l h; omega
  | succ f ih =>
    intro l h
    rw [piecesF_succ (f + 1) l, piecesF_succ f l]
    by_cases hd : (cutP l).2.2 = true
    · have := cutP_less _ l (Nat.le_refl _) hd
      rw [ih _ (by omega)]
    · rw [if_neg hd, if_neg hd]
def pieces (l : By) : List By × Bool := piecesF (l.length + 1) l
theorem piecesF_len (f : Nat) (l : By) (h : l.length < f) : piecesF f l = pieces l := by
  obtain ⟨d, rfl⟩ : ∃ d, f = l.length + 1 + d := ⟨f - (l.length + 1), by omega⟩
  induction d with
  | zero => rfl
  | succ d ih => rw [← Nat.add_assoc, piecesF_more _ _ (by omega)]; exact ih (by omega)
theorem pieces_end {l : By} (h : (cutP l).2.2 = false) : pieces l = ([(cutP l).1], false) := by
  rw [pieces, piecesF_succ, if_neg (by rw [h]; simp)]
theorem pieces_whole {l : By} (h : (cutP l).2.2 = true) (h2 : (cutP l).2.1.length = 0) : pieces l = ([(cutP l).1], true) := by
  rw [pieces, piecesF_succ, if_pos h, if_pos h2]
theorem pieces_more {l : By} (h : (cutP l).2.2 = true) (h2 : (cutP l).2.1.length ≠ 0) : pieces l = ((cutP l).1 :: (pieces (cutP l).2.1).1, (pieces (cutP l).2.1).2) := by
  rw [pieces, piecesF_succ, if_pos h, if_neg h2, piecesF_len _ _ (cutP_less _ l (Nat.le_refl _) h)]

/-- the labels of pieces, or the first error: 12 or 10. -/
def labelsP : List By → Except Nat (List By)
  | [] => .ok []
  | p :: ps =>
    match unesc p with
    | none => .error 12
    | some b => if 1 ≤ b.length ∧ b.length ≤ 63 then
        match labelsP ps with
        | .error e => .error e
        | .ok ls => .ok (b :: ls)
      else .error 10

def glueR (ls : List By) : By × Nat := if 255 < (body ls).length + 1 then ([], 2) else (glue ls, 0)
/-- the name that a text tells, and an error's number. -/
def parse (l origin : By) : By × Nat :=
  match split origin with
  | none => ([], 11)
  | some os =>
    if l = [46] then ([0], 0) else
    match labelsP (pieces l).1 with
    | .error e => ([], e)
    | .ok ls => glueR (if (pieces l).2 then ls else ls ++ os)

/-- a byte in a text. -/
def mark (q : Bool) (c : UInt8) : Bool := c.toNat = 34 || c.toNat = 92 || (!q && (c.toNat = 46 || c.toNat = 59 || c.toNat = 40 || c.toNat = 41 || c.toNat = 64 || c.toNat = 36))
def clear (q : Bool) (c : UInt8) : Bool := (32 < c.toNat && c.toNat < 127) || (c.toNat = 32 && q)
def dig3 (c : UInt8) : By := [UInt8.ofNat (48 + c.toNat / 100), UInt8.ofNat (48 + c.toNat / 10 % 10), UInt8.ofNat (48 + c.toNat % 10)]
def esc1 (q : Bool) (c : UInt8) : By := if mark q c then [92, c] else if clear q c then [c] else 92 :: dig3 c
def esc (q : Bool) (l : By) : By := l.flatMap (esc1 q)
theorem esc_snoc (q : Bool) (l : By) (c : UInt8) : esc q (l ++ [c]) = esc q l ++ esc1 q c := by simp [esc]
theorem esc1_len (q : Bool) (c : UInt8) : 1 ≤ (esc1 q c).length ∧ (esc1 q c).length ≤ 4 := by
  unfold esc1; split
  · simp
  · split <;> simp [dig3]
theorem esc_len (q : Bool) (l : By) : (esc q l).length ≤ 4 * l.length := by
  induction l with
  | nil => simp [esc]
  | cons c l ih =>
    have := (esc1_len q c).2
    have e : esc q (c :: l) = esc1 q c ++ esc q l := rfl
    rw [e]; simp; omega
/-- a name's text. -/
def textL (ls : List By) : By := ls.flatMap fun l => esc false l ++ [46]
def text (n : By) : By := match split n with
  | none => []
  | some [] => [46]
  | some ls => textL ls
end Go.Proofs.Ytnhoaceickojeaa.Nm
