/- Texts of the proofs, merged. -/
import Derived.Test.YtgcaephfhfkjcaaGreatDoorZh1
namespace Go.Proofs.YtgcaephfhfkjcaaGreatDoor.Nm

def dg (c : UInt8) : Prop := 48 ≤ c.toNat ∧ c.toNat ≤ 57
instance (c : UInt8) : Decidable (dg c) := inferInstanceAs (Decidable (_ ∧ _))
def val3 (a b c : UInt8) : Nat := 100 * (a.toNat - 48) + 10 * (b.toNat - 48) + (c.toNat - 48)
/-- what is told behind a backslash, and by how many bytes. -/
def escd : By → Option (UInt8 × Nat)
  | [] => none
  | c :: t => if ¬ dg c then some (c, 1) else
    match t with
    | d :: e :: _ => if dg d ∧ dg e ∧ val3 c d e ≤ 255 then some (UInt8.ofNat (val3 c d e), 3) else none
    | _ => none
theorem escd_plain {c : UInt8} {t : By} (h : ¬ dg c) : escd (c :: t) = some (c, 1) := by show (if ¬ dg c then _ else _) = _; rw [if_pos h]
theorem escd_few {c : UInt8} {t : By} (h : dg c) (ht : t.length < 2) : escd (c :: t) = none := by
  show (if ¬ dg c then _ else _) = _
  rw [if_neg (fun x => x h)]
  match t, ht with
  | [], _ => rfl
  | [d], _ => rfl
  | d :: e :: r, ht => simp at ht; omega
theorem escd_three {c d e : UInt8} {r : By} (h : dg c) : escd (c :: d :: e :: r) = if dg d ∧ dg e ∧ val3 c d e ≤ 255 then some (UInt8.ofNat (val3 c d e), 3) else none := by
  show (if ¬ dg c then _ else _) = _
  rw [if_neg (fun x => x h)]
theorem escd_pos {l : By} {b : UInt8} {k : Nat} (h : escd l = some (b, k)) : 1 ≤ k ∧ k ≤ l.length := by
  unfold escd at h
  split at h
  · simp at h
  · split at h
    · injection h with h; injection h with _ h; subst h; simp
    · split at h
      · split at h
        · injection h with h; injection h with _ h; subst h; simp
        · simp at h
      · simp at h

/-- a text's bytes. -/
def unescF : Nat → By → Option By
  | 0, _ => none
  | _ + 1, [] => some []
  | f + 1, c :: t =>
    if c.toNat = 92 then
      match escd t with
      | none => none
      | some (b, k) => (unescF f (t.drop k)).map (b :: ·)
    else (unescF f t).map (c :: ·)
theorem unescF_more : ∀ (f : Nat) (l : By), l.length < f → unescF (f + 1) l = unescF f l := by
  intro f
  induction f with
  | zero => intro l h; omega
  | succ f ih =>
    intro l h
    cases l with
    | nil => rfl
    | cons c t =>
      rw [unescF, unescF]
      have ht : t.length < f := by simpa using h
      rcases he : escd t with _ | ⟨b, k⟩
      · simp only [ih t ht]
      · simp only [ih t ht, ih (t.drop k) (by simp; omega)]
theorem unescF_eq (d f : Nat) (l : By) (h : l.length < f) : unescF (f + d) l = unescF f l := by
  induction d with
  | zero => rfl
  | succ d ih => rw [← Nat.add_assoc, unescF_more _ _ (by omega)]; exact ih
def unesc (l : By) : Option By := unescF (l.length + 1) l
theorem unescF_len (f : Nat) (l : By) (h : l.length < f) : unescF f l = unesc l := by
  have := unescF_eq (f - (l.length + 1)) (l.length + 1) l (by omega)
  rw [show l.length + 1 + (f - (l.length + 1)) = f from by omega] at this
  exact this
theorem unesc_nil : unesc [] = some [] := rfl
theorem unesc_plain {c : UInt8} {t : By} (h : c.toNat ≠ 92) : unesc (c :: t) = (unesc t).map (c :: ·) := by
  rw [unesc, unescF, if_neg h, unescF_len _ t (by simp)]
theorem unesc_no {c : UInt8} {t : By} (h : c.toNat = 92) (he : escd t = none) : unesc (c :: t) = none := by
  rw [unesc, unescF, if_pos h, he]
theorem unesc_yes {c b : UInt8} {k : Nat} {t : By} (h : c.toNat = 92) (he : escd t = some (b, k)) : unesc (c :: t) = (unesc (t.drop k)).map (b :: ·) := by
  rw [unesc, unescF, if_pos h, he]
  simp only []
  rw [unescF_len _ _ (by simp; omega)]
theorem unesc_len : ∀ (n : Nat) (l r : By), l.length ≤ n → unesc l = some r → r.length ≤ l.length := by
  intro n
  induction n with
  | zero =>
    intro l r h he
    have : l = [] := List.eq_nil_of_length_eq_zero (by omega)
    subst this; rw [unesc_nil] at he; injection he with he; subst he; simp
  | succ n ih =>
    intro l r h he
    cases l with
    | nil => rw [unesc_nil] at he; injection he with he; subst he; simp
    | cons c t =>
      by_cases h92 : c.toNat = 92
      · rcases hd : escd t with _ | ⟨b, k⟩
        · rw [unesc_no h92 hd] at he; simp at he
        · rw [unesc_yes h92 hd] at he
          rcases hr : unesc (t.drop k) with _ | r'
          · rw [hr] at he; simp at he
          · rw [hr] at he; simp at he; subst he
            have := ih _ _ (by simp at h ⊢; omega) hr
            have := (escd_pos hd).1
            simp at *; omega
      · rw [unesc_plain h92] at he
        rcases hr : unesc t with _ | r'
        · rw [hr] at he; simp at he
        · rw [hr] at he; simp at he; subst he
          have := ih _ _ (by simpa using h) hr
          simp; omega

/-- up to the first dot that is not behind a backslash; what is left; whether there is one. -/
def cutP : By → By × By × Bool
  | [] => ([], [], false)
  | [c] => if c.toNat = 46 then ([], [], true) else ([c], [], false)
  | c :: d :: t =>
    if c.toNat = 46 then ([], d :: t, true)
    else if c.toNat = 92 then let r := cutP t; (c :: d :: r.1, r.2)
    else let r := cutP (d :: t); (c :: r.1, r.2)
theorem cutP_dot {c : UInt8} {t : By} (h : c.toNat = 46) : cutP (c :: t) = ([], t, true) := by
  cases t <;> simp [cutP, h]
theorem cutP_back {c d : UInt8} {t : By} (h : c.toNat = 92) : cutP (c :: d :: t) = (c :: d :: (cutP t).1, (cutP t).2) := by
  simp [cutP, h]
theorem cutP_last {c : UInt8} (h : c.toNat ≠ 46) : cutP [c] = ([c], [], false) := by simp [cutP, h]
theorem cutP_plain {c : UInt8} {t : By} (h : c.toNat ≠ 46) (h2 : c.toNat ≠ 92) : cutP (c :: t) = (c :: (cutP t).1, (cutP t).2) := by
  cases t <;> simp [cutP, h, h2]
theorem cutP_less : ∀ (n : Nat) (l : By), l.length ≤ n → (cutP l).2.2 = true → (cutP l).2.1.length < l.length := by
  intro n
  induction n with
  | zero => intro l h; have : l = [] := List.eq_nil_of_length_eq_zero (by omega); subst this; simp [cutP]
  | succ n ih =>
    intro l h hd
    match l with
    | [] => simp [cutP] at hd
    | [c] =>
      by_cases h46 : c.toNat = 46
      · rw [cutP_dot h46]; simp
      · rw [cutP_last h46] at hd; simp at hd
    | c :: d :: t =>
      by_cases h46 : c.toNat = 46
      · rw [cutP_dot h46]; simp
      · by_cases h92 : c.toNat = 92
        · rw [cutP_back h92] at hd ⊢
          have := ih t (by simp at h; omega) hd
          simp at *; omega
        · rw [cutP_plain h46 h92] at hd ⊢
          have := ih (d :: t) (by simpa using h) hd
          simp at *; omega

/-- the pieces of a text, and whether it is whole. -/
def piecesF : Nat → By → List By × Bool
  | 0, _ => ([], false)
  | f + 1, l =>
    if (cutP l).2.2 then
      if (cutP l).2.1.length = 0 then ([(cutP l).1], true) else ((cutP l).1 :: (piecesF f (cutP l).2.1).1, (piecesF f (cutP l).2.1).2)
    else ([(cutP l).1], false)
theorem piecesF_succ (f : Nat) (l : By) : piecesF (f + 1) l = if (cutP l).2.2 then
      if (cutP l).2.1.length = 0 then ([(cutP l).1], true) else ((cutP l).1 :: (piecesF f (cutP l).2.1).1, (piecesF f (cutP l).2.1).2)
    else ([(cutP l).1], false) := rfl
theorem piecesF_more : ∀ (f : Nat) (l : By), l.length < f → piecesF (f + 1) l = piecesF f l := by
  intro f
  induction f with
  | zero => intro l h; omega
  | succ f ih =>
    intro l h
    rw [piecesF_succ (f + 1) l, piecesF_succ f l]
    by_cases hd : (cutP l).2.2 = true
    · have := cutP_less _ l (Nat.le_refl _) hd
      rw [ih _ (by omega)]
    · rw [if_neg hd, if_neg hd]
def pieces (l : By) : List By × Bool := piecesF (l.length + 1) l
theorem piecesF_len (f : Nat) (l : By) (h : l.length < f) : piecesF f l = pieces l := by
  obtain ⟨d, rfl⟩ : ∃ d, f = l.length + 1 + d := ⟨f - (l.length + 1), by omega⟩
  induction d with
  | zero => rfl
  | succ d ih => rw [← Nat.add_assoc, piecesF_more _ _ (by omega)]; exact ih (by omega)
theorem pieces_end {l : By} (h : (cutP l).2.2 = false) : pieces l = ([(cutP l).1], false) := by
  rw [pieces, piecesF_succ, if_neg (by rw [h]; simp)]
theorem pieces_whole {l : By} (h : (cutP l).2.2 = true) (h2 : (cutP l).2.1.length = 0) : pieces l = ([(cutP l).1], true) := by
  rw [pieces, piecesF_succ, if_pos h, if_pos h2]
theorem pieces_more {l : By} (h : (cutP l).2.2 = true) (h2 : (cutP l).2.1.length ≠ 0) : pieces l = ((cutP l).1 :: (pieces (cutP l).2.1).1, (pieces (cutP l).2.1).2) := by
  rw [pieces, piecesF_succ, if_pos h, if_neg h2, piecesF_len _ _ (cutP_less _ l (Nat.le_refl _) h)]

/-- the labels of pieces, or the first error: 12 or 10. -/
def labelsP : List By → Except Nat (List By)
  | [] => .ok []
  | p :: ps =>
    match unesc p with
    | none => .error 12
    | some b => if 1 ≤ b.length ∧ b.length ≤ 63 then
        match labelsP ps with
        | .error e => .error e
        | .ok ls => .ok (b :: ls)
      else .error 10

def glueR (ls : List By) : By × Nat := if 255 < (body ls).length + 1 then ([], 2) else (glue ls, 0)
/-- the name that a text tells, and an error's number. -/
def parse (l origin : By) : By × Nat :=
  match split origin with
  | none => ([], 11)
  | some os =>
    if l = [46] then ([0], 0) else
    match labelsP (pieces l).1 with
    | .error e => ([], e)
    | .ok ls => glueR (if (pieces l).2 then ls else ls ++ os)

/-- a byte in a text. -/
def mark (q : Bool) (c : UInt8) : Bool := c.toNat = 34 || c.toNat = 92 || (!q && (c.toNat = 46 || c.toNat = 59 || c.toNat = 40 || c.toNat = 41 || c.toNat = 64 || c.toNat = 36))
def clear (q : Bool) (c : UInt8) : Bool := (32 < c.toNat && c.toNat < 127) || (c.toNat = 32 && q)
def dig3 (c : UInt8) : By := [UInt8.ofNat (48 + c.toNat / 100), UInt8.ofNat (48 + c.toNat / 10 % 10), UInt8.ofNat (48 + c.toNat % 10)]
def esc1 (q : Bool) (c : UInt8) : By := if mark q c then [92, c] else if clear q c then [c] else 92 :: dig3 c
def esc (q : Bool) (l : By) : By := l.flatMap (esc1 q)
/-- a name's text. -/
def textL (ls : List By) : By := ls.flatMap fun l => esc false l ++ [46]
def text (n : By) : By := match split n with
  | none => []
  | some [] => [46]
  | some ls => textL ls
end Go.Proofs.YtgcaephfhfkjcaaGreatDoor.Nm
namespace Go.Proofs.YtgcaephfhfkjcaaGreatDoor.Rd

abbrev By := List UInt8

/-- short texts, one behind the other; f bounds how many. -/
def txF : Nat → By → Option (List By)
  | 0, _ => none
  | _ + 1, [] => some []
  | f + 1, k :: t => if t.length < k.toNat then none else (txF f (t.drop k.toNat)).map (t.take k.toNat :: ·)
def tx (l : By) : Option (List By) := txF (l.length + 1) l
theorem txF_more : ∀ (f : Nat) (l : By), l.length < f → txF (f + 1) l = txF f l := by
  intro f
  induction f with
  | zero => intro l h; omega
  | succ f ih =>
    intro l h
    cases l with
    | nil => rfl
    | cons k t =>
      rw [txF, txF]
      have hd : (t.drop k.toNat).length < f := by simp at h ⊢; omega
      rw [ih _ hd]
theorem txF_eq : ∀ (d f : Nat) (l : By), l.length < f → txF (f + d) l = txF f l := by
  intro d
  induction d with
  | zero => intro f l _; rfl
  | succ d ih => intro f l h; rw [← Nat.add_assoc, txF_more _ _ (by omega)]; exact ih f l h
theorem tx_nil : tx [] = some [] := rfl
theorem tx_bad {k : UInt8} {t : By} (h : t.length < k.toNat) : tx (k :: t) = none := by unfold tx; rw [List.length_cons, txF, if_pos h]
theorem tx_cons {k : UInt8} {t : By} (h : ¬ t.length < k.toNat) : tx (k :: t) = (tx (t.drop k.toNat)).map (t.take k.toNat :: ·) := by
  have e : txF (t.length + 1) (t.drop k.toNat) = tx (t.drop k.toNat) := by
    have := txF_eq (k.toNat) ((t.drop k.toNat).length + 1) (t.drop k.toNat) (by omega)
    rw [show (t.drop k.toNat).length + 1 + k.toNat = t.length + 1 from by rw [List.length_drop]; omega] at this
    exact this
  unfold tx at e ⊢
  rw [List.length_cons, txF, if_neg h, e]
/-- data. -/
structure Dt where
  raw : By
  host : By
  mail : By
  n0 : Nat
  n1 : Nat
  n2 : Nat
  n3 : Nat
  n4 : Nat
def isHost (t : Nat) : Bool := t == 2 || t == 5 || t == 12 || t == 6 || t == 15 || t == 33
def isMail (t : Nat) : Bool := t == 6
def cnt (t : Nat) : Nat := if t = 6 then 5 else if t = 15 then 1 else if t = 33 then 3 else 0
def bits (t : Nat) : Nat := if t = 6 then 32 else if t = 15 then 16 else if t = 33 then 16 else 0
def rawOk (t : Nat) (s : By) : Bool :=
  if isHost t then s == [] else if t = 1 then s.length == 4 else if t = 28 then s.length == 16
  else if t = 16 then (match tx s with | some (_ :: _) => decide (s.length ≤ 65535) | _ => false) else decide (s.length ≤ 65535)
def nm (s : By) : Bool := (Nm.split s).isSome
def numOk (t i x : Nat) : Bool := if i < cnt t then !(bits t == 16 && decide (65535 < x)) else x == 0
def ok (t : Nat) (d : Dt) : Bool :=
  rawOk t d.raw && (isHost t == nm d.host) && (isHost t || d.host == []) && (isMail t == nm d.mail) && (isMail t || d.mail == []) &&
  numOk t 0 d.n0 && numOk t 1 d.n1 && numOk t 2 d.n2 && numOk t 3 d.n3 && numOk t 4 d.n4

/-- a number to the base 10, and to the base 16. -/
def dec (n : Nat) : By := if n < 10 then [UInt8.ofNat (48 + n)] else dec (n / 10) ++ [UInt8.ofNat (48 + n % 10)]
def hx (n : Nat) : UInt8 := if n < 10 then UInt8.ofNat (48 + n) else UInt8.ofNat (87 + n)
def hex (n : Nat) : By := if n < 16 then [hx n] else hex (n / 16) ++ [hx (n % 16)]
theorem dec_small {n : Nat} (h : n < 10) : dec n = [UInt8.ofNat (48 + n)] := by rw [dec, if_pos h]
theorem dec_more {n : Nat} (h : ¬ n < 10) : dec n = dec (n / 10) ++ [UInt8.ofNat (48 + n % 10)] := by rw [dec, if_neg h]
theorem hex_small {n : Nat} (h : n < 16) : hex n = [hx n] := by rw [hex, if_pos h]
theorem dec_len (n : Nat) : (dec n).length ≤ n + 1 := by
  induction n using Nat.strongRecOn with
  | ind n ih =>
    by_cases h : n < 10
    · rw [dec_small h]; simp
    · rw [dec_more h]
      have := ih (n / 10) (by omega)
      simp
      omega
/-- the types that have a text. -/
def tyTab : List (Nat × By) := [(1, [65]), (2, [78, 83]), (5, [67, 78, 65, 77, 69]), (6, [83, 79, 65]), (12, [80, 84, 82]), (15, [77, 88]), (16, [84, 88, 84]), (28, [65, 65, 65, 65]), (33, [83, 82, 86])]
def tyText (t : Nat) : By := match tyTab.find? (fun x => x.1 == t) with
  | some x => x.2
  | none => [84, 89, 80, 69] ++ dec t
/-- a number that a text tells, of at most so much. -/
def num (s : By) (most : Nat) : Option Nat :=
  if s.length = 0 ∨ (1 < s.length ∧ s.head? = some 48) ∨ 12 < s.length then none
  else if s.all (fun c => decide (48 ≤ c.toNat) && decide (c.toNat ≤ 57)) then
    (let v := s.foldl (fun v c => 10 * v + (c.toNat - 48)) 0
     if most < v then none else some v)
  else none
def tyOf (s : By) : Option Nat := match tyTab.find? (fun x => Nm.fold x.2 == Nm.fold s) with
  | some x => some x.1
  | none => if (Nm.fold s).take 4 = [116, 121, 112, 101] then num (s.drop 4) 65535 else none
end Go.Proofs.YtgcaephfhfkjcaaGreatDoor.Rd
namespace Go.Proofs.YtgcaephfhfkjcaaGreatDoor.Rd

/-- a digit to the base 10. -/
def isDig (c : UInt8) : Bool := decide (48 ≤ c.toNat) && decide (c.toNat ≤ 57)
def decV (s : By) : Nat := s.foldl (fun v c => 10 * v + (c.toNat - 48)) 0
theorem dig_dec {k : Nat} (h : k < 10) : (UInt8.ofNat (48 + k)).toNat = 48 + k := by simp; omega
theorem dec_digs (n : Nat) : (dec n).all isDig = true := by
  induction n using Nat.strongRecOn with
  | ind n ih =>
    by_cases h : n < 10
    · rw [dec_small h]
      simp only [List.all_cons, List.all_nil, Bool.and_true, isDig, dig_dec h, Bool.and_eq_true, decide_eq_true_eq]
      omega
    · rw [dec_more h, List.all_append, ih (n / 10) (by omega)]
      simp only [List.all_cons, List.all_nil, Bool.and_true, Bool.true_and, isDig, dig_dec (Nat.mod_lt n (by decide : 0 < 10)), Bool.and_eq_true, decide_eq_true_eq]
      omega
theorem dec_val (n : Nat) : decV (dec n) = n := by
  induction n using Nat.strongRecOn with
  | ind n ih =>
    by_cases h : n < 10
    · rw [dec_small h]
      simp only [decV, List.foldl_cons, List.foldl_nil, dig_dec h]
      omega
    · have := ih (n / 10) (by omega)
      rw [dec_more h]
      unfold decV at this ⊢
      rw [List.foldl_append, this]
      simp only [List.foldl_cons, List.foldl_nil, dig_dec (Nat.mod_lt n (by decide : 0 < 10))]
      omega
theorem dec_pos (n : Nat) : 0 < (dec n).length := by
  by_cases h : n < 10
  · rw [dec_small h]; simp
  · rw [dec_more h]; simp
theorem dec_head (n : Nat) (h : 1 < (dec n).length) : (dec n).head? ≠ some 48 := by
  induction n using Nat.strongRecOn with
  | ind n ih =>
    by_cases hn : n < 10
    · rw [dec_small hn] at h
      simp at h
    · rw [dec_more hn]
      have hp := dec_pos (n / 10)
      have hh : (dec (n / 10) ++ [UInt8.ofNat (48 + n % 10)]).head? = (dec (n / 10)).head? := by
        cases hd : dec (n / 10) with
        | nil => rw [hd] at hp; simp at hp
        | cons a r => rfl
      rw [hh]
      by_cases h2 : n / 10 < 10
      · rw [dec_small h2]
        intro e
        have e2 := congrArg UInt8.toNat (Option.some.inj e)
        rw [dig_dec h2] at e2
        have : (48 : UInt8).toNat = 48 := rfl
        omega
      · refine ih (n / 10) (by omega) ?_
        rw [dec_more h2]
        have := dec_pos (n / 10 / 10)
        simp
        omega
theorem dec_few (k : Nat) : ∀ n, n < 10 ^ (k + 1) → (dec n).length ≤ k + 1 := by
  induction k with
  | zero =>
    intro n h
    rw [dec_small (by simpa using h)]
    simp
  | succ k ih =>
    intro n h
    by_cases hn : n < 10
    · rw [dec_small hn]; simp
    · rw [dec_more hn]
      have := ih (n / 10) (by rw [Nat.pow_succ] at h; omega)
      simp
      omega
/-- a number's digits tell it. -/
theorem num_dec {n most : Nat} (h : n ≤ most) (h2 : most ≤ 4294967295) : num (dec n) most = some n := by
  have hl := dec_few 9 n (by omega)
  have hp := dec_pos n
  unfold num
  have hdg : (dec n).all (fun c => decide (48 ≤ c.toNat) && decide (c.toNat ≤ 57)) = true := dec_digs n
  rw [if_neg, if_pos hdg]
  · show (if most < decV (dec n) then none else some (decV (dec n))) = _
    rw [dec_val, if_neg (by omega)]
  · rintro (h3 | ⟨h3, h4⟩ | h3)
    · omega
    · exact dec_head n h3 h4
    · omega

/-- a digit to the base 16, and what it is worth. -/
def hexD (c : UInt8) : Option Nat := if 48 ≤ c.toNat ∧ c.toNat ≤ 57 then some (c.toNat - 48) else if 97 ≤ c.toNat ∧ c.toNat ≤ 102 then some (c.toNat - 87) else if 65 ≤ c.toNat ∧ c.toNat ≤ 70 then some (c.toNat - 55) else none
/-- a row of digits to the base 16. -/
def hexV (s : By) : Option Nat := s.foldl (fun v c => match v, hexD c with
  | some v, some d => some (16 * v + d)
  | _, _ => none) (some 0)
/-- a text, cut at each byte that is this one. -/
def splitB (b : UInt8) : By → List By
  | [] => [[]]
  | c :: r => if c = b then [] :: splitB b r else match splitB b r with
    | [] => [[c]]
    | p :: ps => (c :: p) :: ps
theorem splitB_no {b : UInt8} : ∀ {s : By}, (∀ c ∈ s, c ≠ b) → splitB b s = [s]
  | [], _ => rfl
  | c :: r, h => by rw [splitB, if_neg (h c (by simp)), splitB_no (fun x hx => h x (by simp [hx]))]
theorem splitB_cons {b : UInt8} (t : By) : ∀ {s : By}, (∀ c ∈ s, c ≠ b) → splitB b (s ++ b :: t) = s :: splitB b t
  | [], _ => by rw [List.nil_append, splitB, if_pos rfl]
  | c :: r, h => by rw [List.cons_append, splitB, if_neg (h c (by simp)), splitB_cons t (fun x hx => h x (by simp [hx]))]
end Go.Proofs.YtgcaephfhfkjcaaGreatDoor.Rd
namespace Go.Proofs.YtgcaephfhfkjcaaGreatDoor.Rd

/-- how many bytes a word takes, up to a byte that ends it: a backslash takes the byte behind it along. -/
def scan (e : UInt8) : By → Nat
  | [] => 0
  | [c] => if c = e then 0 else 1
  | c :: d :: r => if c = e then 0 else if c = 92 then 2 + scan e r else 1 + scan e (d :: r)
theorem scan_plain {e c : UInt8} {r : By} (h : c ≠ e) (h2 : c ≠ 92) : scan e (c :: r) = 1 + scan e r := by
  cases r with
  | nil => simp [scan, h]
  | cons d r => rw [scan, if_neg h, if_neg h2]
theorem scan_back {e d : UInt8} {r : By} (h : e ≠ 92) : scan e (92 :: d :: r) = 2 + scan e r := by
  rw [scan, if_neg (fun x => h x.symm), if_pos rfl]
/-- a word without its end in it. -/
def Whole (e : UInt8) (p : By) : Prop := ∀ t, scan e (p ++ t) = p.length + scan e t
theorem Whole.nil (e : UInt8) : Whole e [] := fun t => by simp
theorem Whole.app {e : UInt8} {p q : By} (h : Whole e p) (h2 : Whole e q) : Whole e (p ++ q) := fun t => by
  rw [List.append_assoc, h, h2, List.length_append]
  omega
theorem Whole.one {e c : UInt8} (h : c ≠ e) (h2 : c ≠ 92) : Whole e [c] := fun t => by
  rw [List.cons_append, List.nil_append, scan_plain h h2]
  rfl
theorem Whole.back {e d : UInt8} (h : e ≠ 92) : Whole e [92, d] := fun t => by
  rw [List.cons_append, List.cons_append, List.nil_append, scan_back h]
  rfl
theorem Whole.all {e : UInt8} : ∀ {p : By}, (∀ c ∈ p, c ≠ e ∧ c ≠ 92) → Whole e p
  | [], _ => Whole.nil e
  | c :: r, h => (Whole.one (h c (by simp)).1 (h c (by simp)).2).app (Whole.all (p := r) (fun x hx => h x (by simp [hx])))
/-- a word that is told as it is. -/
def Good (x : By × Bool) : Prop := if x.2 then Whole 34 x.1 else Whole 32 x.1 ∧ ∃ c r, x.1 = c :: r ∧ c ≠ 32 ∧ c ≠ 34
end Go.Proofs.YtgcaephfhfkjcaaGreatDoor.Rd
namespace Go.Proofs.YtgcaephfhfkjcaaGreatDoor.Rd

/-- the parts of a type: 1 four, 2 eight, 3 texts, 4 any bytes, 5 host, 6 host without pointers, 7 mail, 8 a number of 16 bits, 9 one of 32 bits, 0 none. -/
def parts (t : Nat) : List Nat :=
  if t = 1 then [1, 0, 0, 0, 0, 0, 0] else if t = 2 then [5, 0, 0, 0, 0, 0, 0] else if t = 5 then [5, 0, 0, 0, 0, 0, 0]
  else if t = 6 then [5, 7, 9, 9, 9, 9, 9] else if t = 12 then [5, 0, 0, 0, 0, 0, 0] else if t = 15 then [8, 5, 0, 0, 0, 0, 0]
  else if t = 16 then [3, 0, 0, 0, 0, 0, 0] else if t = 28 then [2, 0, 0, 0, 0, 0, 0] else if t = 33 then [8, 8, 8, 6, 0, 0, 0] else [4, 0, 0, 0, 0, 0, 0]
/-- the types of the table, and any other one. -/
theorem by_type {P : Nat → Prop} (h1 : P 1) (h2 : P 2) (h5 : P 5) (h6 : P 6) (h12 : P 12) (h15 : P 15) (h16 : P 16) (h28 : P 28) (h33 : P 33) (ho : ∀ t, t ≠ 1 → t ≠ 2 → t ≠ 5 → t ≠ 6 → t ≠ 12 → t ≠ 15 → t ≠ 16 → t ≠ 28 → t ≠ 33 → P t) (t : Nat) : P t := by
  by_cases a1 : t = 1
  · subst a1; exact h1
  by_cases a2 : t = 2
  · subst a2; exact h2
  by_cases a5 : t = 5
  · subst a5; exact h5
  by_cases a6 : t = 6
  · subst a6; exact h6
  by_cases a12 : t = 12
  · subst a12; exact h12
  by_cases a15 : t = 15
  · subst a15; exact h15
  by_cases a16 : t = 16
  · subst a16; exact h16
  by_cases a28 : t = 28
  · subst a28; exact h28
  by_cases a33 : t = 33
  · subst a33; exact h33
  exact ho t a1 a2 a5 a6 a12 a15 a16 a28 a33
theorem parts_other {t : Nat} (h1 : t ≠ 1) (h2 : t ≠ 2) (h5 : t ≠ 5) (h6 : t ≠ 6) (h12 : t ≠ 12) (h15 : t ≠ 15) (h16 : t ≠ 16) (h28 : t ≠ 28) (h33 : t ≠ 33) : parts t = [4, 0, 0, 0, 0, 0, 0] := by
  unfold parts
  rw [if_neg h1, if_neg h2, if_neg h5, if_neg h6, if_neg h12, if_neg h15, if_neg h16, if_neg h28, if_neg h33]
theorem parts_len (t : Nat) : (parts t).length = 7 := by
  refine by_type (P := fun t => (parts t).length = 7) rfl rfl rfl rfl rfl rfl rfl rfl rfl (fun t a b c d e f g h i => ?_) t
  rw [parts_other a b c d e f g h i]; rfl
theorem parts_lt (t : Nat) : ∀ p ∈ parts t, p ≤ 9 := by
  refine by_type (P := fun t => ∀ p ∈ parts t, p ≤ 9) ?_ ?_ ?_ ?_ ?_ ?_ ?_ ?_ ?_ (fun t a b c d e f g h i => ?_) t
  all_goals first
    | (rw [parts_other a b c d e f g h i]; decide)
    | decide
/-- how many numbers parts have; whether they have Raw, Host, Mail. -/
def nums (l : List Nat) : Nat := (l.filter fun p => p == 8 || p == 9).length
def hasRaw (l : List Nat) : Bool := l.any fun p => p == 1 || p == 2 || p == 3 || p == 4
def hasHost (l : List Nat) : Bool := l.any fun p => p == 5 || p == 6
def hasMail (l : List Nat) : Bool := l.any fun p => p == 7
theorem nums_snoc (l : List Nat) (p : Nat) : nums (l ++ [p]) = nums l + if p = 8 ∨ p = 9 then 1 else 0 := by
  unfold nums
  rw [List.filter_append, List.length_append]
  congr 1
  by_cases h : p = 8 ∨ p = 9
  · rw [if_pos h]; rcases h with rfl | rfl <;> rfl
  · rw [if_neg h, List.filter_cons_of_neg (by simpa using h)]; rfl
theorem nums_le {t k : Nat} : nums ((parts t).take k) ≤ 5 := by
  have h : nums (parts t) ≤ 5 := by
    refine by_type (P := fun t => nums (parts t) ≤ 5) (by decide) (by decide) (by decide) (by decide) (by decide) (by decide) (by decide) (by decide) (by decide) (fun t a b c d e f g h i => ?_) t
    rw [parts_other a b c d e f g h i]; decide
  have e : nums (parts t) = nums ((parts t).take k) + nums ((parts t).drop k) := by
    unfold nums
    rw [← List.length_append, ← List.filter_append, List.take_append_drop]
  omega
def hasN (d : Dt) : Nat → Nat
  | 0 => d.n0
  | 1 => d.n1
  | 2 => d.n2
  | 3 => d.n3
  | _ => d.n4
/-- may this be a part, when so many numbers stand ahead of it? -/
def fit (p : Nat) (d : Dt) (n : Nat) : Bool :=
  if p = 1 then d.raw.length == 4 else if p = 2 then d.raw.length == 16
  else if p = 3 then (match tx d.raw with | some (_ :: _) => decide (d.raw.length ≤ 65535) | _ => false)
  else if p = 4 then decide (d.raw.length ≤ 65535)
  else if p = 5 ∨ p = 6 then nm d.host else if p = 7 then nm d.mail
  else if p = 8 then decide (hasN d n ≤ 65535) else true
/-- all parts fit. -/
def fitAll (d : Dt) : List Nat → Nat → Bool
  | [], _ => true
  | p :: r, n => fit p d n && fitAll d r (n + if p = 8 ∨ p = 9 then 1 else 0)
theorem fitAll_snoc (d : Dt) (l : List Nat) (p n : Nat) : fitAll d (l ++ [p]) n = (fitAll d l n && fit p d (n + nums l)) := by
  induction l generalizing n with
  | nil => simp [fitAll, nums]
  | cons q r ih =>
    have e : nums (q :: r) = (if q = 8 ∨ q = 9 then 1 else 0) + nums r := by
      have : q :: r = [q] ++ r := rfl
      rw [this]
      unfold nums
      rw [List.filter_append, List.length_append]
      congr 1
      by_cases h : q = 8 ∨ q = 9
      · rw [if_pos h]; rcases h with rfl | rfl <;> rfl
      · rw [if_neg h, List.filter_cons_of_neg (by simpa using h)]; rfl
    rw [List.cons_append, fitAll, ih, fitAll, e, Bool.and_assoc, Nat.add_assoc]
theorem fitAll_no {d : Dt} {l : List Nat} {k : Nat} (h : fitAll d (l.take k) 0 = false) : fitAll d l 0 = false := by
  suffices H : ∀ (l : List Nat) (k n : Nat), fitAll d (l.take k) n = false → fitAll d l n = false from H l k 0 h
  intro l
  induction l with
  | nil => intro k n h; simpa using h
  | cons q r ih =>
    intro k n h
    cases k with
    | zero => simp [fitAll] at h
    | succ k =>
      rw [List.take_succ_cons, fitAll] at h
      rw [fitAll]
      cases hf : fit q d n with
      | false => rfl
      | true => rw [hf, Bool.true_and] at h; rw [Bool.true_and]; exact ih _ _ h
/-- nothing is in data but what these parts have. -/
def bare (l : List Nat) (d : Dt) : Bool :=
  (hasRaw l || d.raw == []) && (hasHost l || d.host == []) && (hasMail l || d.mail == []) &&
  (decide (0 < nums l) || d.n0 == 0) && (decide (1 < nums l) || d.n1 == 0) && (decide (2 < nums l) || d.n2 == 0) && (decide (3 < nums l) || d.n3 == 0) && (decide (4 < nums l) || d.n4 == 0)
theorem nm_nil : nm [] = false := rfl
theorem nm_cases (l : By) : (l = [] ∧ nm l = false) ∨ (l ≠ [] ∧ nm l = true) ∨ (l ≠ [] ∧ nm l = false) := by
  by_cases h : l = []
  · exact .inl ⟨h, by rw [h]; rfl⟩
  · cases hn : nm l
    · exact .inr (.inr ⟨h, rfl⟩)
    · exact .inr (.inl ⟨h, rfl⟩)
set_option maxHeartbeats 4000000 in
theorem ok_parts (t : Nat) (d : Dt) : ok t d = (fitAll d (parts t) 0 && bare (parts t) d) := by
  obtain ⟨r, ho, ma, n0, n1, n2, n3, n4⟩ := d
  refine by_type (P := fun t => ok t ⟨r, ho, ma, n0, n1, n2, n3, n4⟩ = (fitAll ⟨r, ho, ma, n0, n1, n2, n3, n4⟩ (parts t) 0 && bare (parts t) ⟨r, ho, ma, n0, n1, n2, n3, n4⟩)) ?_ ?_ ?_ ?_ ?_ ?_ ?_ ?_ ?_ (fun t a b c d e' f g h i => ?_) t
  case refine_10 =>
    have e1 : isHost t = false := by simp [isHost, *]
    have e2 : isMail t = false := by simp [isMail, *]
    have e3 : cnt t = 0 := by unfold cnt; rw [if_neg d, if_neg f, if_neg i]
    have hr : rawOk t r = decide (r.length ≤ 65535) := by
      unfold rawOk
      rw [e1, if_neg (by simp), if_neg a, if_neg h, if_neg g]
    unfold ok
    simp only
    rw [parts_other a b c d e' f g h i, e1, e2, hr]
    clear hr e1 e2 a b c d e' f g h i
    rw [Bool.eq_iff_iff]
    rcases nm_cases ho with ⟨q1, q2⟩ | ⟨q1, q2⟩ | ⟨q1, q2⟩ <;> rcases nm_cases ma with ⟨q3, q4⟩ | ⟨q3, q4⟩ | ⟨q3, q4⟩ <;> simp [nm_nil, q1, q2, q3, q4, numOk, e3, fitAll, fit, bare, hasRaw, hasHost, hasMail, nums, and_assoc]
  all_goals
    rw [Bool.eq_iff_iff]
    rcases nm_cases ho with ⟨q1, q2⟩ | ⟨q1, q2⟩ | ⟨q1, q2⟩ <;> rcases nm_cases ma with ⟨q3, q4⟩ | ⟨q3, q4⟩ | ⟨q3, q4⟩ <;>
      (simp [nm_nil, q1, q2, q3, q4, ok, rawOk, numOk, parts, fitAll, fit, bare, hasRaw, hasHost, hasMail, nums, isHost, isMail, cnt, bits, hasN, and_assoc, and_left_comm, and_comm] <;> (intros; rfl))
end Go.Proofs.YtgcaephfhfkjcaaGreatDoor.Rd
namespace Go.Proofs.YtgcaephfhfkjcaaGreatDoor.Rd

def two (c : UInt8) : By := hex (c.toNat / 16) ++ hex (c.toNat % 16)
theorem dec_mem {n : Nat} {c : UInt8} (h : c ∈ dec n) : isDig c = true := List.all_eq_true.1 (dec_digs n) c h
theorem dec_ne (n : Nat) : dec n ≠ [] := fun e => by have := dec_pos n; rw [e] at this; simp at this
end Go.Proofs.YtgcaephfhfkjcaaGreatDoor.Rd
namespace Go.Proofs.YtgcaephfhfkjcaaGreatDoor.Tk

/-- bytes that a bare word takes, whatever is behind them. -/
def WholeL (p : By) : Prop := ∀ t, bareLen (p ++ t) = p.length + bareLen t
theorem WholeL.nil : WholeL [] := fun t => by simp
theorem WholeL.app {p q : By} (h : WholeL p) (h2 : WholeL q) : WholeL (p ++ q) := fun t => by
  rw [List.append_assoc, h, h2, List.length_append]
  omega
theorem WholeL.one {c : UInt8} (h : ends c = false) (h2 : c.toNat ≠ 92) : WholeL [c] := fun t => by
  rw [List.cons_append, List.nil_append, bareLen_one h h2]
  rfl
theorem WholeL.back {d : UInt8} (h : d.toNat ≠ 10) : WholeL [92, d] := fun t => by
  rw [List.cons_append, List.cons_append, List.nil_append, bareLen_92 h]
  rfl
theorem WholeL.all : ∀ {p : By}, (∀ c ∈ p, ends c = false ∧ c.toNat ≠ 92) → WholeL p
  | [], _ => WholeL.nil
  | c :: r, h => (WholeL.one (h c (by simp)).1 (h c (by simp)).2).app (WholeL.all (p := r) (fun x hx => h x (by simp [hx])))
/-- bytes that a quoted word takes. -/
def WholeQ (p : By) : Prop := ∀ t, quoLen (p ++ t) = (quoLen t).map (p.length + ·)
theorem WholeQ.nil : WholeQ [] := fun t => by
  rw [List.nil_append]
  cases quoLen t with
  | none => rfl
  | some k => simp
theorem WholeQ.app {p q : By} (h : WholeQ p) (h2 : WholeQ q) : WholeQ (p ++ q) := fun t => by
  rw [List.append_assoc, h, h2]
  cases quoLen t with
  | none => rfl
  | some k => simp; omega
theorem WholeQ.one {c : UInt8} (h : c.toNat ≠ 10) (h1 : c.toNat ≠ 34) (h2 : c.toNat ≠ 92) : WholeQ [c] := fun t => by
  rw [List.cons_append, List.nil_append, quoLen_one h h1 h2]
  rfl
theorem WholeQ.back {d : UInt8} (h : d.toNat ≠ 10) : WholeQ [92, d] := fun t => by
  rw [List.cons_append, List.cons_append, List.nil_append, quoLen_92 h]
  rfl
/-- the words of a line, without their places. -/
def bareW (ws : List Wd) : List (By × Bool) := ws.map fun w => (w.text, w.quoted)
end Go.Proofs.YtgcaephfhfkjcaaGreatDoor.Tk
namespace Go.Proofs.YtgcaephfhfkjcaaGreatDoor.Rd

abbrev W2 := By × Bool
/-- the next word, if it is not quoted. -/
def plainW : List W2 → Option (By × List W2)
  | [] => none
  | w :: r => if w.2 then none else some (w.1, r)
def allM (f : By → Option Nat) : List By → Option (List Nat)
  | [] => some []
  | p :: r => match f p, allM f r with
    | some v, some vs => some (v :: vs)
    | _, _ => none
/-- an address of four bytes. -/
def addr4 (s : By) : Option By := if (splitB 46 s).length = 4 then (allM (fun p => num p 255) (splitB 46 s)).map (·.map UInt8.ofNat) else none
/-- one to four digits to the base 16. -/
def hexR (s : By) : Option Nat := if s.length = 0 ∨ 4 < s.length then none else hexV s
def groupsR (s : By) : Option (List Nat) := if s = [] then some [] else allM hexR (splitB 58 s)
/-- at the first :: -/
def cut2 : By → By × By × Bool
  | [] => ([], [], false)
  | [c] => ([c], [], false)
  | c :: d :: r => if c = 58 ∧ d = 58 then ([], r, true) else (c :: (cut2 (d :: r)).1, (cut2 (d :: r)).2)
def addr16 (s : By) : Option By :=
  match groupsR (cut2 s).1, groupsR (cut2 s).2.1 with
  | some a, some b =>
    if ((cut2 s).2.2 = true ∧ 8 ≤ a.length + b.length) ∨ ((cut2 s).2.2 = false ∧ a.length + b.length ≠ 8) then none
    else some ((a ++ List.replicate (8 - (a.length + b.length)) 0 ++ b).flatMap fun g => [UInt8.ofNat (g / 256), UInt8.ofNat (g % 256)])
  | _, _ => none
/-- short texts, one behind the other. -/
def textsR : By → List W2 → Option By
  | raw, [] => some raw
  | raw, w :: r => match Nm.unesc w.1 with
    | none => none
    | some l => if 255 < l.length ∨ 65535 < raw.length + (1 + l.length) then none else textsR (raw ++ UInt8.ofNat l.length :: l) r
/-- a name in a word. -/
def nameR (o s : By) : Option By := if s = [64] then some o else if (Nm.parse s o).2 = 0 then some (Nm.parse s o).1 else none
end Go.Proofs.YtgcaephfhfkjcaaGreatDoor.Rd
namespace Go.Proofs.YtgcaephfhfkjcaaGreatDoor.Rd

def setN (d : Dt) (k v : Nat) : Dt := match k with
  | 0 => { d with n0 := v }
  | 1 => { d with n1 := v }
  | 2 => { d with n2 := v }
  | 3 => { d with n3 := v }
  | _ => { d with n4 := v }
/-- what reading holds: the words that are left, the data so far, how many numbers were read. -/
abbrev RS := List W2 × Dt × Nat
def rdP (o : By) (p : Nat) (s : RS) : Option RS :=
  if p = 0 then some s
  else if p = 1 then (plainW s.1).bind fun x => (addr4 x.1).map fun r => (x.2, { s.2.1 with raw := r }, s.2.2)
  else if p = 2 then (plainW s.1).bind fun x => (addr16 x.1).map fun r => (x.2, { s.2.1 with raw := r }, s.2.2)
  else if p = 3 then if s.1 = [] then none else (textsR [] s.1).map fun r => ([], { s.2.1 with raw := r }, s.2.2)
  else if p = 4 then none
  else if p = 5 ∨ p = 6 then (plainW s.1).bind fun x => (nameR o x.1).map fun r => (x.2, { s.2.1 with host := r }, s.2.2)
  else if p = 7 then (plainW s.1).bind fun x => (nameR o x.1).map fun r => (x.2, { s.2.1 with mail := r }, s.2.2)
  else (plainW s.1).bind fun x => (num x.1 (if p = 8 then 65535 else 4294967295)).map fun v => (x.2, setN s.2.1 s.2.2 v, s.2.2 + 1)
def rdAll (o : By) : List Nat → RS → Option RS
  | [], s => some s
  | p :: r, s => (rdP o p s).bind (rdAll o r)
def dt0 : Dt := ⟨[], [], [], 0, 0, 0, 0, 0⟩
def knownR (o : By) (t : Nat) (ws : List W2) : Option Dt := (rdAll o (parts t) (ws, dt0, 0)).bind fun s => if s.1 = [] then some s.2.1 else none
/-- the digits of any data. -/
def gathR (m : Nat) : By → List W2 → Option (By × List W2)
  | ds, [] => some (ds, [])
  | ds, w :: r => if ds.length ≤ m then (if w.2 then none else gathR m (ds ++ w.1) r) else some (ds, w :: r)
def twoR : By → Option By
  | [] => some []
  | [_] => none
  | a :: b :: r => match hexR [a, b], twoR r with
    | some v, some s => some (UInt8.ofNat v :: s)
    | _, _ => none
/-- any data's bytes, of the words behind the first one. -/
def anyR (ws : List W2) : Option By := (plainW ws).bind fun x => (num x.1 65535).bind fun n => (gathR (2 * n) [] x.2).bind fun y => if y.1.length = 2 * n then twoR y.1 else none

end Go.Proofs.YtgcaephfhfkjcaaGreatDoor.Rd
namespace Go.Proofs.YtgcaephfhfkjcaaGreatDoor.Rd

/-- the words that tell data. -/
def readR (o : By) (t : Nat) (ws : List W2) : Option Dt := match ws with
  | [] => knownR o t []
  | x :: r => if x.1 = [92, 35] ∧ x.2 = false then (if parts t = [4, 0, 0, 0, 0, 0, 0] then (anyR r).map fun raw => ⟨raw, [], [], 0, 0, 0, 0, 0⟩ else none) else knownR o t (x :: r)
/-- data with names in small letters. -/
def foldD (t : Nat) (d : Dt) : Dt := { d with host := if isHost t then Nm.fold d.host else d.host, mail := if isMail t then Nm.fold d.mail else d.mail }

end Go.Proofs.YtgcaephfhfkjcaaGreatDoor.Rd
namespace Go.Proofs.YtgcaephfhfkjcaaGreatDoor.Ma
open Rd (By Dt)

/-- what is wrong, and where. -/
structure Er where
  e : Nat
  line : Nat
  col : Nat
abbrev Ans (α : Type) := Except Er α
def at_ (x : Tk.Wd) (e : Nat) : Er := ⟨e, x.line, x.col⟩
/-- a word in small letters. -/
def kw (x : Tk.Wd) : By := if x.quoted then [] else Nm.fold x.text
/-- the number in a word. -/
def num (x : Tk.Wd) : Option Nat := if x.quoted then none else Rd.num x.text 4294967295
def isClass (x : Tk.Wd) : Bool := kw x == [105, 110] || (kw x == [99, 104] || (kw x == [99, 115] || kw x == [104, 115]))
/-- the name in a word. -/
def name (o : By) (x : Tk.Wd) : Option By := if x.quoted then none else Rd.nameR o x.text
/-- a TTL and a class: what holds behind them, the record's own, what is left. -/
def tc (fx : Bool) : List Tk.Wd → Nat → Nat → Bool → Bool → Ans (Nat × Nat × List Tk.Wd)
  | [], h, t, _, _ => .ok (h, t, [])
  | w :: r, h, t, bt, bc =>
    if (num w).isSome ∧ bt = false then (if (num w).getD 0 ≤ 2147483647 then tc fx r (if fx then h else (num w).getD 0) ((num w).getD 0) true bc else .error (at_ w 91))
    else if isClass w ∧ bc = false then (if kw w = [105, 110] then tc fx r h t bt true else .error (at_ w 92))
    else .ok (h, t, w :: r)
/-- a record. -/
structure Rc where
  nm : By
  ty : Nat
  ttl : Nat
  d : Dt
/-- what holds. -/
structure S where
  o : By
  ttl : Nat
  fx : Bool
  recs : List Rc
def w2 (x : Tk.Wd) : Rd.W2 := (x.text, x.quoted)
/-- the owner, and the words behind it. -/
def owner (s : S) (f : Tk.Wd) (bl : Bool) (ws : List Tk.Wd) : Ans (By × List Tk.Wd) :=
  if bl then (match s.recs.getLast? with
    | some r => .ok (r.nm, ws)
    | none => .error (at_ f 90))
  else match ws with
    | [] => .error (at_ f 90)
    | x :: r => match name s.o x with
      | some n => .ok (Nm.fold n, r)
      | none => .error (at_ f 90)
/-- a record's type and data. -/
def tail (o : By) (f : Tk.Wd) : List Tk.Wd → Ans (Nat × Dt)
  | [] => .error (at_ f 93)
  | k :: r => if k.quoted then .error (at_ k 93) else match Rd.tyOf k.text with
    | none => .error (at_ k 93)
    | some t => match Rd.readR o t (r.map w2) with
      | none => .error (at_ k 41)
      | some d => .ok (t, Rd.foldD t d)
def record (s : S) (f : Tk.Wd) (bl : Bool) (ws : List Tk.Wd) : Ans (Nat × Rc) := match owner s f bl ws with
  | .error x => .error x
  | .ok (n, ws) => match tc s.fx ws s.ttl s.ttl false false with
    | .error x => .error x
    | .ok (h, t, ws) => match tail s.o f ws with
      | .error x => .error x
      | .ok (ty, d) => .ok (h, ⟨n, ty, t, d⟩)
/-- is an entry a directive? -/
def isDir (bl : Bool) (x : Tk.Wd) : Bool := !bl && (match kw x with
  | c :: _ => c == 36
  | [] => false)
def directive (s : S) (k : Tk.Wd) : List Tk.Wd → Ans S
  | [x] => if kw k = [36, 111, 114, 105, 103, 105, 110] then (match name s.o x with
      | some n => .ok { s with o := n }
      | none => .error (at_ k 94))
    else if kw k = [36, 116, 116, 108] then (match num x with
      | some v => if v ≤ 2147483647 then .ok { s with ttl := v, fx := true } else .error (at_ k 94)
      | none => .error (at_ k 94))
    else .error (at_ k 94)
  | _ => .error (at_ k 94)
def entry (s : S) (bl : Bool) (x : Tk.Wd) (r : List Tk.Wd) : Ans S :=
  if isDir bl x then directive s x r
  else if s.recs.length = 4096 then .error (at_ x 2)
  else match record s x bl (x :: r) with
    | .error e => .error e
    | .ok (h, c) => .ok { s with ttl := h, recs := s.recs ++ [c] }
def entries : S → List Tk.En → Ans S
  | s, [] => .ok s
  | s, e :: r => match e.words with
    | [] => .error ⟨0, 0, 0⟩
    | x :: ws => match entry s e.blank x ws with
      | .error e => .error e
      | .ok s => entries s r
end Go.Proofs.YtgcaephfhfkjcaaGreatDoor.Ma
