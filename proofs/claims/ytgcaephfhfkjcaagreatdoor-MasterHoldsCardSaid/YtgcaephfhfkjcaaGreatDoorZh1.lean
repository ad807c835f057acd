/- Texts of the proofs, merged. -/
import Derived.Lib.Hide
namespace Go.Proofs.YtgcaephfhfkjcaaGreatDoor.Tk

abbrev By := List UInt8
def blank (c : UInt8) : Bool := c.toNat == 32 || c.toNat == 9 || c.toNat == 13
def ends (c : UInt8) : Bool := c.toNat == 10 || c.toNat == 59 || c.toNat == 40 || c.toNat == 41 || c.toNat == 34 || blank c
/-- how many bytes a word's byte takes: itself, and the one behind a backslash, unless that is a line's end. -/
def tlen : By → Nat
  | c :: d :: _ => if c.toNat = 92 ∧ d.toNat ≠ 10 then 2 else 1
  | _ => 1
def bareLen : By → Nat
  | [] => 0
  | [c] => if ends c then 0 else 1
  | c :: d :: r => if ends c then 0 else if c.toNat = 92 ∧ d.toNat ≠ 10 then 2 + bareLen r else 1 + bareLen (d :: r)
def quoLen : By → Option Nat
  | [] => none
  | [c] => if c.toNat = 34 then some 0 else none
  | c :: d :: r => if c.toNat = 10 then none else if c.toNat = 34 then some 0 else
      if c.toNat = 92 ∧ d.toNat ≠ 10 then (quoLen r).map (2 + ·) else (quoLen (d :: r)).map (1 + ·)
def remLen : By → Nat
  | [] => 0
  | c :: r => if c.toNat = 10 then 0 else 1 + remLen r

inductive Pc where
  | ch (c : UInt8)
  | rem (b : By)
  | bare (b : By)
  | quo (b : By)
  | bad (b : By)
deriving DecidableEq
def lex : Nat → By → List Pc
  | 0, _ => []
  | _ + 1, [] => []
  | n + 1, c :: r =>
    if c.toNat = 59 then .rem (c :: r.take (remLen r)) :: lex n (r.drop (remLen r))
    else if c.toNat = 34 then match quoLen r with
      | none => [.bad (c :: r)]
      | some k => .quo (r.take k) :: lex n (r.drop (k + 1))
    else if ends c then .ch c :: lex n r
    else .bare ((c :: r).take (bareLen (c :: r))) :: lex n ((c :: r).drop (bareLen (c :: r)))

theorem bareLen_pos {c : UInt8} {r : By} (h : ends c = false) : 1 ≤ bareLen (c :: r) := by
  cases r with
  | nil => simp [bareLen, h]
  | cons d r =>
    rw [bareLen]
    simp only [h, Bool.false_eq_true, if_false]
    split <;> omega
theorem bareLen_end {c : UInt8} {r : By} (h : ends c = true) : bareLen (c :: r) = 0 := by
  cases r <;> simp [bareLen, h]
/-- one byte further, or two. -/
theorem bareLen_step {c : UInt8} {r : By} (h : ends c = false) : bareLen (c :: r) = tlen (c :: r) + bareLen ((c :: r).drop (tlen (c :: r))) := by
  cases r with
  | nil => simp [bareLen, h, tlen]
  | cons d r =>
    rw [bareLen]
    simp only [h, Bool.false_eq_true, if_false, tlen]
    split <;> simp
theorem quoLen_lf {c : UInt8} {r : By} (h : c.toNat = 10) : quoLen (c :: r) = none := by
  cases r with
  | nil => simp [quoLen, h]
  | cons d r => simp [quoLen, h]
theorem quoLen_q {c : UInt8} {r : By} (h : c.toNat = 34) : quoLen (c :: r) = some 0 := by
  cases r with
  | nil => simp [quoLen, h]
  | cons d r => simp [quoLen, h]
theorem quoLen_step {c : UInt8} {r : By} (h : c.toNat ≠ 10) (h2 : c.toNat ≠ 34) : quoLen (c :: r) = (quoLen ((c :: r).drop (tlen (c :: r)))).map (tlen (c :: r) + ·) := by
  cases r with
  | nil => simp [quoLen, h2, tlen]
  | cons d r =>
    rw [quoLen]
    simp only [h, h2, if_false, tlen]
    split <;> simp

theorem tlen_le {c : UInt8} {r : By} : tlen (c :: r) ≤ (c :: r).length := by
  cases r with
  | nil => simp [tlen]
  | cons d r => simp only [tlen, List.length_cons]; split <;> omega
theorem remLen_le : ∀ (l : By), remLen l ≤ l.length
  | [] => by simp [remLen]
  | c :: r => by
    have := remLen_le r
    unfold remLen
    split <;> simp; omega

theorem lex_fuel : ∀ (n m : Nat) (l : By), l.length ≤ n → l.length ≤ m → lex n l = lex m l := by
  intro n
  induction n with
  | zero =>
    intro m l h _
    obtain rfl : l = [] := List.eq_nil_of_length_eq_zero (by omega)
    cases m <;> rfl
  | succ n ih =>
    intro m l h1 h2
    cases l with
    | nil => cases m <;> rfl
    | cons c r =>
      obtain ⟨m, rfl⟩ : ∃ k, m = k + 1 := ⟨m - 1, by simp at h2; omega⟩
      simp only [List.length_cons] at h1 h2
      rw [lex, lex]
      split
      · rw [ih m _ (by simp; omega) (by simp; omega)]
      split
      · split
        · rfl
        · rw [ih m _ (by simp; omega) (by simp; omega)]
      split
      · rw [ih m _ (by omega) (by omega)]
      · rename_i h
        have := bareLen_pos (r := r) (by simpa using h)
        rw [ih m _ (by simp; omega) (by simp; omega)]
/-- a text's pieces. -/
def lx (l : By) : List Pc := lex l.length l
theorem lex_lx {n : Nat} {l : By} (h : l.length ≤ n) : lex n l = lx l := lex_fuel _ _ _ h (Nat.le_refl _)
theorem lx_rem {c : UInt8} {r : By} (h : c.toNat = 59) : lx (c :: r) = .rem (c :: r.take (remLen r)) :: lx (r.drop (remLen r)) := by
  conv => lhs; unfold lx
  rw [List.length_cons, lex, if_pos h, lex_lx (by simp)]
theorem lx_bad {c : UInt8} {r : By} (h : c.toNat = 34) (hq : quoLen r = none) : lx (c :: r) = [.bad (c :: r)] := by
  conv => lhs; unfold lx
  rw [List.length_cons, lex, if_neg (by omega), if_pos h, hq]
theorem lx_quo {c : UInt8} {r : By} {k : Nat} (h : c.toNat = 34) (hq : quoLen r = some k) : lx (c :: r) = .quo (r.take k) :: lx (r.drop (k + 1)) := by
  conv => lhs; unfold lx
  rw [List.length_cons, lex, if_neg (by omega), if_pos h, hq]
  simp only
  rw [lex_lx (by simp)]
theorem ends_59 {c : UInt8} (h : c.toNat = 59) : ends c = true := by simp [ends, h]
theorem ends_34 {c : UInt8} (h : c.toNat = 34) : ends c = true := by simp [ends, h]
theorem lx_ch {c : UInt8} {r : By} (h1 : c.toNat ≠ 59) (h2 : c.toNat ≠ 34) (h : ends c = true) : lx (c :: r) = .ch c :: lx r := by
  conv => lhs; unfold lx
  rw [List.length_cons, lex, if_neg h1, if_neg h2, if_pos h, lex_lx (Nat.le_refl _)]
theorem lx_bare {c : UInt8} {r : By} (h : ends c = false) : lx (c :: r) = .bare ((c :: r).take (bareLen (c :: r))) :: lx ((c :: r).drop (bareLen (c :: r))) := by
  have hp := bareLen_pos (r := r) h
  conv => lhs; unfold lx
  rw [List.length_cons, lex, if_neg (fun e => by rw [ends_59 e] at h; cases h), if_neg (fun e => by rw [ends_34 e] at h; cases h), if_neg (by simp [h]), lex_lx (by simp only [List.length_drop, List.length_cons]; omega)]

structure Wd where
  text : By
  quoted : Bool
  line : Nat
  col : Nat
deriving DecidableEq
structure En where
  blank : Bool
  line : Nat
  words : List Wd
deriving DecidableEq
inductive Rs where
  | err (line col e : Nat)
  | ok (es : List En)
deriving DecidableEq
structure St where
  line : Nat
  col : Nat
  dep : Nat
  fl : Nat
  fc : Nat
  bl : Bool
  el : Nat
  ws : List Wd
  es : List En
/-- the entries, with the one that is being read. -/
def St.done (s : St) : List En := if s.ws = [] then s.es else s.es ++ [⟨s.bl, s.el, s.ws⟩]
/-- is the byte that comes next a blank? -/
def hb : By → Bool
  | [] => false
  | c :: _ => blank c
def hp : List Pc → Bool
  | .ch c :: _ => blank c
  | _ => false
def eQuote : Nat := 80
def eParen : Nat := 81
/-- behind a line's end. -/
def St.nl (s : St) (b : Bool) : St :=
  if s.dep = 0 then ⟨s.line + 1, 1, 0, s.fl, s.fc, b, s.line + 1, [], s.done⟩ else { s with line := s.line + 1, col := 1 }
/-- behind an open parenthesis. -/
def St.op (s : St) : St := { s with dep := s.dep + 1, fl := if s.dep = 0 then s.line else s.fl, fc := if s.dep = 0 then s.col else s.fc, col := s.col + 1 }
def St.cl (s : St) : St := { s with dep := s.dep - 1, col := s.col + 1 }
def St.go (s : St) (n : Nat) : St := { s with col := s.col + n }
def St.put (s : St) (b : By) (q : Bool) (n : Nat) : St := { s with ws := s.ws ++ [⟨b, q, s.line, s.col⟩], col := s.col + n }
def play : List Pc → St → Rs
  | [], s => if s.dep = 0 then .ok s.done else .err s.fl s.fc eParen
  | .bad _ :: _, s => .err s.line s.col eQuote
  | .ch c :: ps, s =>
    if c.toNat = 10 then play ps (s.nl (hp ps))
    else if c.toNat = 40 then play ps s.op
    else if c.toNat = 41 then if s.dep = 0 then .err s.line s.col eParen else play ps s.cl
    else play ps (s.go 1)
  | .rem b :: ps, s => play ps (s.go b.length)
  | .bare b :: ps, s => play ps (s.put b false b.length)
  | .quo b :: ps, s => play ps (s.put b true (b.length + 2))
/-- at a text's beginning. -/
def start (l : By) : St := ⟨1, 1, 0, 0, 0, hb l, 1, [], []⟩
/-- what a text tells. -/
def tells (l : By) : Rs := play (lx l) (start l)
theorem blank_ends {c : UInt8} (h : blank c = true) : ends c = true := by simp [ends, h]
theorem hp_lx (l : By) : hp (lx l) = hb l := by
  cases l with
  | nil => rfl
  | cons c r =>
    by_cases h1 : c.toNat = 59
    · rw [lx_rem h1]; simp [hp, hb, blank, h1]
    by_cases h2 : c.toNat = 34
    · rcases hq : quoLen r with _ | k
      · rw [lx_bad h2 hq]; simp [hp, hb, blank, h2]
      · rw [lx_quo h2 hq]; simp [hp, hb, blank, h2]
    by_cases h3 : ends c = true
    · rw [lx_ch h1 h2 h3]; rfl
    · rw [lx_bare (by simpa using h3)]
      have : blank c = false := by
        rcases hb' : blank c with _ | _
        · rfl
        · exact absurd (blank_ends hb') h3
      simp [hp, hb, this]
end Go.Proofs.YtgcaephfhfkjcaaGreatDoor.Tk
namespace Go.Proofs.YtgcaephfhfkjcaaGreatDoor.Tk

def adv (p : Nat × Nat) (c : UInt8) : Nat × Nat := if c.toNat = 10 then (p.1 + 1, 1) else (p.1, p.2 + 1)
def advs (p : Nat × Nat) (l : By) : Nat × Nat := l.foldl adv p
theorem advs_cons (p : Nat × Nat) (c : UInt8) (l : By) : advs p (c :: l) = advs (adv p c) l := rfl
theorem advs_append (p : Nat × Nat) (a b : By) : advs p (a ++ b) = advs (advs p a) b := List.foldl_append
def noLf (l : By) : Prop := ∀ c ∈ l, c.toNat ≠ 10
theorem advs_noLf : ∀ (l : By) (p : Nat × Nat), noLf l → advs p l = (p.1, p.2 + l.length)
  | [], p, _ => rfl
  | c :: r, p, h => by
    rw [advs_cons, adv, if_neg (h c (by simp)), advs_noLf r _ (fun d hd => h d (by simp [hd]))]
    simp; omega

def Pc.raw : Pc → By
  | .ch c => [c]
  | .rem b => b
  | .bare b => b
  | .quo b => 34 :: b ++ [34]
  | .bad b => b
def Pc.wf : Pc → Prop
  | .ch c => ends c = true ∧ c.toNat ≠ 59 ∧ c.toNat ≠ 34
  | .rem b => noLf b ∧ ∃ r, b = 59 :: r
  | .bare b => noLf b ∧ ∃ c r, b = c :: r ∧ ends c = false
  | .quo b => noLf b
  | .bad b => ∃ r, b = 34 :: r ∧ quoLen r = none
structure Qs where
  line : Nat
  col : Nat
  beg : Bool
  bl : Bool
  el : Nat
  ws : List Wd
  es : List En
def Qs.done (x : Qs) : List En := if x.ws = [] then x.es else x.es ++ [⟨x.bl, x.el, x.ws⟩]
/-- a word's further bytes. -/
def mo (r : List (UInt8 × Nat)) : By := (r.takeWhile (·.2 == 4)).map (·.1)
def Qs.begin (x : Qs) (c : UInt8) : Qs := if x.beg then { x with beg := false, bl := blank c, el := x.line, ws := [] } else x
def Qs.word (x : Qs) (c : UInt8) (k : Nat) (m : By) : Qs :=
  if k = 3 then { x with ws := x.ws ++ [⟨c :: m, false, x.line, x.col⟩] }
  else if k = 5 then { x with ws := x.ws ++ [⟨m.dropLast, true, x.line, x.col⟩] } else x
def Qs.stop (x : Qs) (k : Nat) : Qs := if k = 2 then { x with es := x.done, beg := true, bl := false, el := 0, ws := [] } else x
def Qs.adv (x : Qs) (c : UInt8) : Qs := { x with line := (Tk.adv (x.line, x.col) c).1, col := (Tk.adv (x.line, x.col) c).2 }
def Qs.step (x : Qs) (c : UInt8) (k : Nat) (m : By) : Qs := (((x.begin c).word c k m).stop k).adv c
def p2 : List (UInt8 × Nat) → Qs → List En
  | [], x => x.done
  | (c, k) :: r, x => p2 r (x.step c k (mo r))

/-- a state by pieces and a state by bytes that are one. -/
def Agree (s : St) (x : Qs) (l : By) : Prop :=
  x.line = s.line ∧ x.col = s.col ∧ x.es = s.es ∧ (if x.beg then s.ws = [] ∧ s.el = s.line ∧ s.bl = hb l ∧ x.ws = [] else x.ws = s.ws ∧ x.el = s.el ∧ x.bl = s.bl)
/-- behind its first byte's begin. -/
theorem Agree.begun {s : St} {x : Qs} {c : UInt8} {l : By} (h : Agree s x (c :: l)) : x.begin c = ⟨s.line, s.col, false, s.bl, s.el, s.ws, s.es⟩ := by
  obtain ⟨h1, h2, h3, h4⟩ := h
  unfold Qs.begin
  split
  · rename_i hb'
    rw [if_pos hb'] at h4
    obtain ⟨ha, hc, hd, _⟩ := h4
    rw [h1, h2, h3, ha, hc, hd]
    rfl
  · rename_i hb'
    rw [if_neg hb'] at h4
    obtain ⟨ha, hc, hd⟩ := h4
    obtain ⟨_, _, xb, _, _, _, _⟩ := x
    simp only [Bool.not_eq_true] at hb'
    simp only at h1 h2 h3 ha hc hd hb'
    subst h1 h2 h3 ha hc hd hb'
    rfl
theorem Agree.fin {s : St} {x : Qs} (h : Agree s x []) : x.done = s.done := by
  obtain ⟨h1, h2, h3, h4⟩ := h
  unfold Qs.done St.done
  split at h4
  · obtain ⟨ha, hc, hd, he⟩ := h4
    rw [if_pos he, if_pos ha, h3]
  · obtain ⟨ha, hc, hd⟩ := h4
    rw [ha, hc, hd, h3]
end Go.Proofs.YtgcaephfhfkjcaaGreatDoor.Tk
namespace Go.Proofs.YtgcaephfhfkjcaaGreatDoor.Tk

/-- a byte that can't stand as it is in a word without quotes. -/
def bareB (c : UInt8) : Bool := blank c || c.toNat == 59 || c.toNat == 40 || c.toNat == 41
def stB (q : Bool) (c : UInt8) : By := if c.toNat = 10 then [92, 48, 49, 48] else if c.toNat = 34 ∨ c.toNat = 92 ∨ (bareB c = true ∧ q = false) then [92, c] else [c]
def stW (q : Bool) (s : By) : By := s.flatMap (stB q)
theorem stW_cons (q : Bool) (c : UInt8) (s : By) : stW q (c :: s) = stB q c ++ stW q s := by simp [stW]
def hE (t : By) : Prop := ∃ c r, t = c :: r ∧ ends c = true

theorem tlen_92 {d : UInt8} {r : By} (h : d.toNat ≠ 10) : tlen (92 :: d :: r) = 2 := by
  unfold tlen
  exact if_pos ⟨rfl, h⟩
theorem tlen_other {c : UInt8} {r : By} (h : c.toNat ≠ 92) : tlen (c :: r) = 1 := by
  cases r with
  | nil => rfl
  | cons d r =>
    unfold tlen
    exact if_neg (fun h2 => h h2.1)
theorem ends_92 : ends 92 = false := by decide
theorem ends_of {c : UInt8} (h1 : c.toNat ≠ 10) (h2 : c.toNat ≠ 34) (h3 : bareB c = false) : ends c = false := by
  simp only [bareB, Bool.or_eq_false_iff] at h3
  obtain ⟨⟨⟨h3, h4⟩, h5⟩, h6⟩ := h3
  simp [ends, h1, h2, h3, h4, h5, h6]
theorem bareLen_92 {d : UInt8} {r : By} (h : d.toNat ≠ 10) : bareLen (92 :: d :: r) = 2 + bareLen r := by
  rw [bareLen_step ends_92, tlen_92 h]; rfl
theorem bareLen_one {c : UInt8} {r : By} (h : ends c = false) (h2 : c.toNat ≠ 92) : bareLen (c :: r) = 1 + bareLen r := by
  rw [bareLen_step h, tlen_other h2]; rfl
theorem bareLen_stB {c : UInt8} (r : By) : bareLen (stB false c ++ r) = (stB false c).length + bareLen r := by
  unfold stB
  split
  · simp only [List.cons_append, List.nil_append]
    rw [bareLen_92 (by decide), bareLen_one (by decide) (by decide), bareLen_one (by decide) (by decide)]
    simp; omega
  rename_i h1
  split
  · simp only [List.cons_append, List.nil_append]
    rw [bareLen_92 h1]
    simp
  · rename_i h2
    simp only [not_or] at h2
    have h3 : bareB c = false := by
      cases hb : bareB c with
      | false => rfl
      | true => exact absurd (by simp [hb]) h2.2.2
    simp only [List.cons_append, List.nil_append]
    rw [bareLen_one (ends_of h1 h2.1 h3) h2.2.1]
    simp
theorem bareLen_stW {t : By} (ht : hE t) : ∀ s : By, bareLen (stW false s ++ t) = (stW false s).length
  | [] => by
    obtain ⟨c, r, rfl, h⟩ := ht
    exact bareLen_end h
  | c :: s => by
    rw [stW_cons, List.append_assoc, bareLen_stB, bareLen_stW ht s, List.length_append]
theorem stB_head {c : UInt8} : ∃ d r, stB false c = d :: r ∧ ends d = false := by
  unfold stB
  split
  · exact ⟨_, _, rfl, by decide⟩
  rename_i h1
  split
  · exact ⟨_, _, rfl, by decide⟩
  · rename_i h2
    simp only [not_or] at h2
    have h3 : bareB c = false := by
      cases hb : bareB c with
      | false => rfl
      | true => exact absurd (by simp [hb]) h2.2.2
    exact ⟨_, _, rfl, ends_of h1 h2.1 h3⟩
theorem lx_word {s t : By} (hs : s ≠ []) (ht : hE t) : lx (stW false s ++ t) = .bare (stW false s) :: lx t := by
  have hb := bareLen_stW ht s
  obtain ⟨c, s, rfl⟩ : ∃ c r, s = c :: r := by cases s with | nil => exact absurd rfl hs | cons c r => exact ⟨c, r, rfl⟩
  obtain ⟨d, r, h1, h2⟩ := stB_head (c := c)
  have e : stW false (c :: s) = d :: (r ++ stW false s) := by rw [stW_cons, h1]; rfl
  rw [e] at hb ⊢
  rw [List.cons_append] at hb ⊢
  rw [lx_bare h2, hb]
  have e2 : d :: (r ++ stW false s ++ t) = (d :: (r ++ stW false s)) ++ t := rfl
  rw [e2, List.take_left, List.drop_left]
theorem quoLen_92 {d : UInt8} {r : By} (h : d.toNat ≠ 10) : quoLen (92 :: d :: r) = (quoLen r).map (2 + ·) := by
  rw [quoLen_step (by decide) (by decide), tlen_92 h]; rfl
theorem quoLen_one {c : UInt8} {r : By} (h : c.toNat ≠ 10) (h1 : c.toNat ≠ 34) (h2 : c.toNat ≠ 92) : quoLen (c :: r) = (quoLen r).map (1 + ·) := by
  rw [quoLen_step h h1, tlen_other h2]; rfl
theorem quoLen_stB {c : UInt8} (r : By) : quoLen (stB true c ++ r) = (quoLen r).map ((stB true c).length + ·) := by
  unfold stB
  split
  · simp only [List.cons_append, List.nil_append]
    rw [quoLen_92 (by decide), quoLen_one (by decide) (by decide) (by decide), quoLen_one (by decide) (by decide) (by decide)]
    cases quoLen r
    · rfl
    · simp; omega
  rename_i h1
  split
  · simp only [List.cons_append, List.nil_append]
    rw [quoLen_92 h1]
    rfl
  · rename_i h2
    simp only [not_or] at h2
    simp only [List.cons_append, List.nil_append]
    rw [quoLen_one h1 h2.1 h2.2.1]
    rfl
theorem quoLen_stW (t : By) : ∀ s : By, quoLen (stW true s ++ 34 :: t) = some (stW true s).length
  | [] => quoLen_q rfl
  | c :: s => by
    rw [stW_cons, List.append_assoc, quoLen_stB, quoLen_stW t s, List.length_append]
    rfl
/-- a word, with quotes or without. -/
def wdq (q : Bool) (s : By) : Bool := q || s.isEmpty
def wdT (q : Bool) (s : By) : By := if wdq q s then 34 :: stW q s ++ [34] else stW q s
theorem lx_quoted {q : Bool} {s t : By} (h : wdq q s = true) : lx (34 :: stW q s ++ [34] ++ t) = .quo (stW q s) :: lx t := by
  have hq : quoLen (stW q s ++ 34 :: t) = some (stW q s).length := by
    cases q with
    | true => exact quoLen_stW t s
    | false =>
      cases s with
      | nil => exact quoLen_q rfl
      | cons c s => simp [wdq] at h
  have e : 34 :: stW q s ++ [34] ++ t = 34 :: (stW q s ++ 34 :: t) := by simp
  rw [e, lx_quo rfl hq, List.take_left]
  congr 2
  rw [← List.drop_drop, List.drop_left]
  rfl
theorem play_word {q : Bool} {s t : By} (ht : wdq q s = false → hE t) (σ : St) : play (lx (wdT q s ++ t)) σ = play (lx t) (σ.put (stW q s) (wdq q s) (wdT q s).length) := by
  unfold wdT
  rcases h : wdq q s with _ | _
  · simp only [Bool.false_eq_true, if_false]
    simp only [wdq, Bool.or_eq_false_iff, List.isEmpty_eq_false_iff] at h
    obtain ⟨rfl, hs⟩ := h
    rw [lx_word hs (ht (by simp [wdq, hs])), play]
  · simp only [if_true]
    rw [lx_quoted h, play]
    simp
theorem wd_noLf (q : Bool) : ∀ s : By, noLf (stW q s)
  | [] => by simp [stW, noLf]
  | c :: s => by
    have ih := wd_noLf q s
    rw [stW_cons]
    intro x hx
    rw [List.mem_append] at hx
    rcases hx with hx | hx
    · unfold stB at hx
      split at hx
      · revert hx x
        decide
      split at hx
      · simp only [List.mem_cons, List.not_mem_nil, or_false] at hx
        rcases hx with rfl | rfl
        · decide
        · assumption
      · simp only [List.mem_cons, List.not_mem_nil, or_false] at hx
        subst hx
        assumption
    · exact ih x hx
theorem wdT_noLf (q : Bool) (s : By) : noLf (wdT q s) := by
  unfold wdT
  have := wd_noLf q s
  split
  · intro x hx
    simp only [List.cons_append, List.mem_cons, List.mem_append, List.not_mem_nil, or_false] at hx
    rcases hx with rfl | hx | rfl
    · decide
    · exact this x hx
    · decide
  · exact this

theorem noLf_dec {a : By} (h : a.all (fun c => c.toNat != 10) = true) : noLf a := fun x hx => by
  simpa using List.all_eq_true.1 h x hx
theorem remLen_to {t : By} : ∀ {r : By}, noLf r → remLen (r ++ 10 :: t) = r.length
  | [], _ => by simp [remLen]
  | c :: r, h => by
    rw [List.cons_append, remLen, if_neg (h c (by simp)), remLen_to (fun x hx => h x (by simp [hx]))]
    simp; omega
theorem lx_rem_to {r t : By} (h : noLf r) : lx (59 :: (r ++ 10 :: t)) = .rem (59 :: r) :: lx (10 :: t) := by
  rw [lx_rem rfl, remLen_to h, List.take_left, List.drop_left]

/-- pieces that tell no word: what they do. -/
def Mv (a : By) (o o' : Nat) : Prop := ∀ (line col fl fc : Nat), ∃ fl' fc', ∀ (bl : Bool) (el : Nat) (ws : List Wd) (es : List En) (t : By),
  play (lx (a ++ t)) ⟨line, col, o, fl, fc, bl, el, ws, es⟩ = play (lx t) ⟨(advs (line, col) a).1, (advs (line, col) a).2, o', fl', fc', bl, el, ws, es⟩
theorem Mv.nil (o : Nat) : Mv [] o o := fun _ _ fl fc => ⟨fl, fc, fun _ _ _ _ _ => rfl⟩
theorem Mv.app {a b : By} {o o' o2 : Nat} (h : Mv a o o') (h2 : Mv b o' o2) : Mv (a ++ b) o o2 := fun line col fl fc => by
  obtain ⟨fl', fc', h⟩ := h line col fl fc
  obtain ⟨fl2, fc2, h2⟩ := h2 (advs (line, col) a).1 (advs (line, col) a).2 fl' fc'
  refine ⟨fl2, fc2, fun bl el ws es t => ?_⟩
  rw [List.append_assoc, h, h2, advs_append]
theorem Mv.blank {c : UInt8} (h : blank c = true) (o : Nat) : Mv [c] o o := fun line col fl fc => ⟨fl, fc, fun bl el ws es t => by
  have hn : c.toNat = 32 ∨ c.toNat = 9 ∨ c.toNat = 13 := by
    simp only [Tk.blank, Bool.or_eq_true, beq_iff_eq] at h
    omega
  rw [List.cons_append, List.nil_append, lx_ch (by omega) (by omega) (blank_ends h), play, if_neg (by omega), if_neg (by omega), if_neg (by omega)]
  simp only [St.go, advs, List.foldl_cons, List.foldl_nil, adv]
  rw [if_neg (by omega)]⟩
theorem Mv.op (o : Nat) : Mv [40] o (o + 1) := fun line col fl fc => ⟨if o = 0 then line else fl, if o = 0 then col else fc, fun bl el ws es t => by
  rw [List.cons_append, List.nil_append, lx_ch (by decide) (by decide) (by decide), play, if_neg (by decide), if_pos (by decide)]
  rfl⟩
theorem Mv.cl (o : Nat) : Mv [41] (o + 1) o := fun line col fl fc => ⟨fl, fc, fun bl el ws es t => by
  rw [List.cons_append, List.nil_append, lx_ch (by decide) (by decide) (by decide), play, if_neg (by decide), if_neg (by decide), if_pos (by decide), if_neg (by simp)]
  rfl⟩
theorem Mv.lf (o : Nat) : Mv [10] (o + 1) (o + 1) := fun line col fl fc => ⟨fl, fc, fun bl el ws es t => by
  rw [List.cons_append, List.nil_append, lx_ch (by decide) (by decide) (by decide), play, if_pos (by decide)]
  simp only [St.nl, Nat.add_one_ne_zero, if_false]
  rfl⟩
theorem Mv.rem {r : By} (h : noLf r) (o : Nat) : Mv (59 :: (r ++ [10])) (o + 1) (o + 1) := fun line col fl fc => ⟨fl, fc, fun bl el ws es t => by
  have e : 59 :: (r ++ [10]) ++ t = 59 :: (r ++ 10 :: t) := by simp
  rw [e, lx_rem_to h, play, lx_ch (by decide) (by decide) (by decide), play, if_pos (by decide)]
  simp only [St.nl, St.go, Nat.add_one_ne_zero, if_false]
  have hn : noLf (59 :: r) := fun x hx => by
    simp only [List.mem_cons] at hx
    rcases hx with rfl | hx
    · decide
    · exact h x hx
  rw [← List.cons_append, advs_append, advs_noLf _ _ hn]
  rfl⟩
/-- what stands between words. -/
def gapB (k o : Nat) : By :=
  if k % 8 = 1 then [9, 13, 32] else if k % 8 = 2 then [40] else if k % 8 = 3 then [32, 40, 32, 59, 32, 40, 32, 34, 32, 120, 10]
  else if k % 8 = 4 ∨ k % 8 = 5 then (if 0 < o then [41] else [40, 41])
  else if k % 8 = 6 then (if 0 < o then [32, 59, 41, 32, 92, 10, 10, 32] else [32]) else [32]
def gapO (k o : Nat) : Nat :=
  if k % 8 = 2 ∨ k % 8 = 3 then o + 1 else if k % 8 = 4 ∨ k % 8 = 5 then o - 1 else o
theorem gapB_head (k o : Nat) (t : By) : hE (gapB k o ++ t) := by
  unfold gapB
  repeat' split
  all_goals exact ⟨_, _, rfl, by decide⟩
theorem gap_mv (k o : Nat) : Mv (gapB k o) o (gapO k o) := by
  unfold gapB gapO
  by_cases h1 : k % 8 = 1
  · simp only [h1]
    exact ((Mv.blank (c := 9) (by decide) o).app (Mv.blank (c := 13) (by decide) o)).app (Mv.blank (c := 32) (by decide) o)
  by_cases h2 : k % 8 = 2
  · simp only [h2]
    exact Mv.op o
  by_cases h3 : k % 8 = 3
  · simp only [h3]
    exact (((Mv.blank (c := 32) (by decide) o).app (Mv.op o)).app (Mv.blank (c := 32) (by decide) (o + 1))).app (Mv.rem (r := [32, 40, 32, 34, 32, 120]) (noLf_dec (by decide)) o)
  by_cases h4 : k % 8 = 4 ∨ k % 8 = 5
  · rw [if_neg h1, if_neg h2, if_neg h3, if_pos h4, if_neg (not_or.2 ⟨h2, h3⟩), if_pos h4]
    by_cases ho : 0 < o
    · rw [if_pos ho]
      obtain ⟨m, rfl⟩ : ∃ m, o = m + 1 := ⟨o - 1, by omega⟩
      exact Mv.cl m
    · obtain rfl : o = 0 := by omega
      exact (Mv.op 0).app (Mv.cl 0)
  rw [if_neg h1, if_neg h2, if_neg h3, if_neg h4, if_neg (not_or.2 ⟨h2, h3⟩), if_neg h4]
  by_cases h6 : k % 8 = 6
  · rw [if_pos h6]
    by_cases ho : 0 < o
    · rw [if_pos ho]
      obtain ⟨m, rfl⟩ : ∃ m, o = m + 1 := ⟨o - 1, by omega⟩
      exact (((Mv.blank (c := 32) (by decide) (m + 1)).app (Mv.rem (r := [41, 32, 92]) (noLf_dec (by decide)) m)).app (Mv.lf m)).app (Mv.blank (c := 32) (by decide) (m + 1))
    · rw [if_neg ho]
      exact Mv.blank (by decide) o
  · rw [if_neg h6]
    exact Mv.blank (by decide) o

/-- a text so far, and what is behind it is read from there. -/
def Tl (b : By) (c : By → Prop) (bl : By → Bool) (o el : Nat) (ws : List Wd) (es : List En) : Prop :=
  ∃ fl fc, ∀ t, c t → tells (b ++ t) = play (lx t) ⟨(advs (1, 1) b).1, (advs (1, 1) b).2, o, fl, fc, bl t, el, ws, es⟩
theorem Tl.start : Tl [] (fun _ => True) hb 0 1 [] [] := ⟨0, 0, fun _ _ => rfl⟩
theorem Tl.move {b a : By} {c : By → Prop} {bl : By → Bool} {o o' el : Nat} {ws : List Wd} {es : List En} (h : Tl b c bl o el ws es) (hm : Mv a o o') (hc : ∀ t, c (a ++ t)) : Tl (b ++ a) (fun _ => True) (fun t => bl (a ++ t)) o' el ws es := by
  obtain ⟨fl, fc, h⟩ := h
  obtain ⟨fl', fc', hm⟩ := hm (advs (1, 1) b).1 (advs (1, 1) b).2 fl fc
  refine ⟨fl', fc', fun t _ => ?_⟩
  rw [List.append_assoc, h _ (hc t), hm, advs_append]
theorem Tl.word {b : By} {c : By → Prop} {bl : By → Bool} {o el : Nat} {ws : List Wd} {es : List En} (h : Tl b c bl o el ws es) (q : Bool) (s : By) (hc : ∀ t, hE t → c (wdT q s ++ t)) :
    Tl (b ++ wdT q s) hE (fun t => bl (wdT q s ++ t)) o el (ws ++ [⟨stW q s, wdq q s, (advs (1, 1) b).1, (advs (1, 1) b).2⟩]) es := by
  obtain ⟨fl, fc, h⟩ := h
  refine ⟨fl, fc, fun t ht => ?_⟩
  rw [List.append_assoc, h _ (hc t ht), play_word (fun _ => ht), advs_append, advs_noLf _ _ (wdT_noLf q s)]
  rfl
/-- a line's end behind all. -/
def tailB : By := [32, 59, 32, 34, 32, 40, 32, 10]
theorem Tl.fin {b : By} {c : By → Prop} {bl : By → Bool} {B : Bool} {el : Nat} {ws : List Wd} {es : List En} (h : Tl b c bl 0 el ws es) (hc : ∀ t, c (tailB ++ t)) (hbl : ws ≠ [] → ∀ t, bl t = B) :
    Tl (b ++ tailB) (fun _ => True) hb 0 (advs (1, 1) (b ++ tailB)).1 [] (if ws = [] then es else es ++ [⟨B, el, ws⟩]) := by
  obtain ⟨fl, fc, h⟩ := h
  refine ⟨fl, fc, fun t _ => ?_⟩
  rw [List.append_assoc, h _ (hc t)]
  have e : tailB ++ t = 32 :: 59 :: ([32, 34, 32, 40, 32] ++ 10 :: t) := rfl
  generalize hx : bl (tailB ++ t) = x
  rw [e, lx_ch (by decide) (by decide) (by decide), play, if_neg (by decide), if_neg (by decide), if_neg (by decide), lx_rem_to (noLf_dec (by decide)), play, lx_ch (by decide) (by decide) (by decide), play, if_pos (by decide)]
  simp only [St.go, St.nl, if_true, hp_lx, St.done]
  have e2 : advs (1, 1) (b ++ tailB) = ((advs (1, 1) b).1 + 1, 1) := by rw [advs_append]; rfl
  rw [e2]
  cases ws with
  | nil => rfl
  | cons a r => rw [← hx, hbl (by simp)]; rfl
theorem Tl.done {b : By} {c : By → Prop} {bl : By → Bool} {el : Nat} {es : List En} (h : Tl b c bl 0 el [] es) (hc : c []) : tells b = .ok es := by
  obtain ⟨fl, fc, h⟩ := h
  have := h [] hc
  rw [List.append_nil] at this
  rw [this]
  rfl
theorem hb_word {q : Bool} {s t : By} (h : wdq q s = true ∨ s ≠ []) : hb (wdT q s ++ t) = false := by
  unfold wdT
  rcases hq : wdq q s with _ | _
  · simp only [Bool.false_eq_true, if_false]
    simp only [wdq, Bool.or_eq_false_iff, List.isEmpty_eq_false_iff] at hq
    obtain ⟨rfl, hs⟩ := hq
    obtain ⟨c, s, rfl⟩ : ∃ c r, s = c :: r := by cases s with | nil => exact absurd rfl hs | cons c r => exact ⟨c, r, rfl⟩
    obtain ⟨d, r, h1, h2⟩ := stB_head (c := c)
    rw [stW_cons, h1]
    simp only [List.cons_append, hb]
    rcases hbl : blank d with _ | _
    · rfl
    · rw [blank_ends hbl] at h2
      cases h2
  · simp only [if_true]
    rfl
theorem hb_word' (q : Bool) (s t : By) : hb (wdT q s ++ t) = false := hb_word (by cases s <;> simp [wdq])

/-- between the words of an entry: how many there are, and what holds. -/
structure Lv (B : Bool) (k : Nat) (b : By) (ws : List Wd) (o el : Nat) (es : List En) : Prop where
  n : ws.length = k
  on : (B = true ∨ 0 < k) → ∃ c bl, (∀ t, hE t → c t) ∧ (∀ t, bl t = B) ∧ Tl b c bl o el ws es
  off : ¬(B = true ∨ 0 < k) → o = 0 ∧ Tl b (fun _ => True) hb 0 el ws es
theorem Lv.startBlank {b : By} {el : Nat} {es : List En} (h : Tl b (fun _ => True) hb 0 el [] es) : Lv true 0 (b ++ [32]) [] 0 el es :=
  ⟨rfl, fun _ => ⟨_, _, fun _ _ => trivial, fun _ => rfl, h.move (Mv.blank (c := 32) (by decide) 0) (fun _ => trivial)⟩, fun h => absurd (.inl rfl) h⟩
theorem Lv.startBare {b : By} {el : Nat} {es : List En} (h : Tl b (fun _ => True) hb 0 el [] es) : Lv false 0 b [] 0 el es :=
  ⟨rfl, fun h => absurd h (by simp), fun _ => ⟨rfl, h⟩⟩
/-- with the gap laid, if there must be one. -/
structure Lr (B : Bool) (k : Nat) (b : By) (ws : List Wd) (o el : Nat) (es : List En) : Prop where
  n : ws.length = k
  tl : ∃ bl, (∀ q s t, bl (wdT q s ++ t) = B) ∧ Tl b (fun _ => True) bl o el ws es
theorem Lv.nogap {B : Bool} {k : Nat} {b : By} {ws : List Wd} {o el : Nat} {es : List En} (h : Lv B k b ws o el es) (hk : ¬(B = true ∨ 0 < k)) : Lr B k b ws o el es := by
  obtain ⟨rfl, h1⟩ := h.off hk
  refine ⟨h.n, _, fun q s t => ?_, h1⟩
  have : B = false := by
    cases B with
    | false => rfl
    | true => exact absurd (.inl rfl) hk
  rw [hb_word', this]
theorem Lr.word {B : Bool} {k : Nat} {b : By} {ws : List Wd} {o el : Nat} {es : List En} (h : Lr B k b ws o el es) (q : Bool) (s : By) : Lv B (k + 1) (b ++ wdT q s) (ws ++ [⟨stW q s, wdq q s, (advs (1, 1) b).1, (advs (1, 1) b).2⟩]) o el es := by
  obtain ⟨bl, h1, h2⟩ := h.tl
  exact ⟨by simp [h.n], fun _ => ⟨_, _, fun _ h => h, fun t => h1 q s t, h2.word q s (fun _ _ => trivial)⟩, fun h => absurd (.inr (by omega)) h⟩
/-- behind the words. -/
structure Lf (B : Bool) (b : By) (ws : List Wd) (o el : Nat) (es : List En) : Prop where
  tl : ∃ bl, (ws ≠ [] → ∀ t, bl t = B) ∧ Tl b (fun _ => True) bl o el ws es
theorem Lv.last {B : Bool} {k : Nat} {b : By} {ws : List Wd} {o el : Nat} {es : List En} (h : Lv B k b ws o el es) (g : Nat) : Lf B (b ++ gapB g o) ws (gapO g o) el es := by
  by_cases hk : B = true ∨ 0 < k
  · obtain ⟨c, bl, h1, h2, h3⟩ := h.on hk
    exact ⟨_, fun _ t => h2 _, h3.move (gap_mv g o) (fun t => h1 _ (gapB_head g o t))⟩
  · obtain ⟨rfl, h1⟩ := h.off hk
    refine ⟨_, fun hw => absurd (List.eq_nil_of_length_eq_zero (by have := h.n; omega)) hw, h1.move (gap_mv g 0) (fun t => trivial)⟩
theorem Lf.close {B : Bool} {b : By} {ws : List Wd} {o el : Nat} {es : List En} (h : Lf B b ws (o + 1) el es) : Lf B (b ++ [41]) ws o el es := by
  obtain ⟨bl, h1, h2⟩ := h.tl
  exact ⟨_, fun hw t => h1 hw _, h2.move (Mv.cl o) (fun _ => trivial)⟩
theorem Lf.fin {B : Bool} {b : By} {ws : List Wd} {el : Nat} {es : List En} (h : Lf B b ws 0 el es) :
    Tl (b ++ tailB) (fun _ => True) hb 0 (advs (1, 1) (b ++ tailB)).1 [] (if ws = [] then es else es ++ [⟨B, el, ws⟩]) := by
  obtain ⟨bl, h1, h2⟩ := h.tl
  exact h2.fin (fun _ => trivial) h1
end Go.Proofs.YtgcaephfhfkjcaaGreatDoor.Tk
namespace Go.Proofs.YtgcaephfhfkjcaaGreatDoor.Nm

abbrev By := List UInt8

def small (c : UInt8) : UInt8 := if 65 ≤ c ∧ c ≤ 90 then c + 32 else c
def fold (l : By) : By := l.map small

/-- the labels of what stands here, up to its byte 0; f bounds how many. -/
def splitF : Nat → By → Option (List By)
  | 0, _ => none
  | _ + 1, [] => none
  | f + 1, k :: t =>
    if k.toNat = 0 then (if t.length = 0 then some [] else none)
    else if 63 < k.toNat ∨ t.length < k.toNat then none
    else (splitF f (t.drop k.toNat)).map (t.take k.toNat :: ·)
def split (l : By) : Option (List By) := if 255 < l.length then none else splitF (l.length + 1) l

theorem splitF_more : ∀ (f : Nat) (l : By), l.length < f → splitF (f + 1) l = splitF f l := by
  intro f
  induction f with
  | zero => intro l h; omega
  | succ f ih =>
    intro l h
    cases l with
    | nil => rfl
    | cons k t =>
      rw [splitF, splitF]
      have hd : (t.drop k.toNat).length < f := by simp at h ⊢; omega
      rw [ih _ hd]
theorem splitF_eq : ∀ (d f : Nat) (l : By), l.length < f → splitF (f + d) l = splitF f l := by
  intro d
  induction d with
  | zero => intro f l _; rfl
  | succ d ih => intro f l h; rw [← Nat.add_assoc, splitF_more _ _ (by omega)]; exact ih f l h
theorem splitF_len (f : Nat) (l : By) (h : l.length < f) : splitF f l = splitF (l.length + 1) l := by
  have := splitF_eq (f - (l.length + 1)) (l.length + 1) l (by omega)
  rw [show l.length + 1 + (f - (l.length + 1)) = f from by omega] at this
  exact this

/-- what stands at one's place: the same with no bound to carry. -/
def sp (l : By) : Option (List By) := splitF (l.length + 1) l
theorem sp_nil : sp [] = none := rfl
theorem sp_zero {k : UInt8} {t : By} (h : k.toNat = 0) : sp (k :: t) = if t.length = 0 then some [] else none := by simp [sp, splitF, h]
theorem sp_bad {k : UInt8} {t : By} (h : k.toNat ≠ 0) (h2 : 63 < k.toNat ∨ t.length < k.toNat) : sp (k :: t) = none := by simp [sp, splitF, h, h2]
theorem sp_cons {k : UInt8} {t : By} (h : k.toNat ≠ 0) (h2 : k.toNat ≤ 63) (h3 : k.toNat ≤ t.length) :
    sp (k :: t) = (sp (t.drop k.toNat)).map (t.take k.toNat :: ·) := by
  have e : splitF (t.length + 1) (t.drop k.toNat) = sp (t.drop k.toNat) := splitF_len _ _ (by simp; omega)
  unfold sp at e ⊢
  rw [List.length_cons, splitF, if_neg h, if_neg (by omega), e]

def lab (l : By) : By := UInt8.ofNat l.length :: l
def body (ls : List By) : By := ls.flatMap lab
def glue (ls : List By) : By := body ls ++ [0]
def Good (ls : List By) : Prop := ∀ l ∈ ls, 1 ≤ l.length ∧ l.length ≤ 63

theorem body_nil : body [] = [] := rfl
theorem body_cons (l : By) (ls : List By) : body (l :: ls) = lab l ++ body ls := rfl
theorem body_append (a b : List By) : body (a ++ b) = body a ++ body b := by simp [body]
theorem lab_length (l : By) : (lab l).length = l.length + 1 := by simp [lab]
theorem glue_length (ls : List By) : (glue ls).length = (body ls).length + 1 := by simp [glue]
theorem body_snoc_length (a : List By) (l : By) : (body (a ++ [l])).length = (body a).length + 1 + l.length := by
  rw [body_append]; simp [body, lab]; omega

theorem sp_glue : ∀ (ls : List By), Good ls → sp (glue ls) = some ls := by
  intro ls
  induction ls with
  | nil => intro _; rfl
  | cons l ls ih =>
    intro h
    have hl := h l (by simp)
    have hb : (UInt8.ofNat l.length).toNat = l.length := by simp; omega
    have e : glue (l :: ls) = UInt8.ofNat l.length :: (l ++ glue ls) := by simp [glue, body, lab]
    rw [e, sp_cons (by omega) (by omega) (by simp; omega), hb, List.drop_left, List.take_left, ih (fun x hx => h x (by simp [hx]))]
    rfl
theorem sp_some : ∀ (n : Nat) (l : By) (ls : List By), l.length ≤ n → sp l = some ls → l = glue ls ∧ Good ls := by
  intro n
  induction n with
  | zero =>
    intro l ls hn h
    have : l = [] := List.eq_nil_of_length_eq_zero (by omega)
    subst this; simp [sp_nil] at h
  | succ n ih =>
    intro l ls hn h
    cases l with
    | nil => simp [sp_nil] at h
    | cons k t =>
      by_cases h0 : k.toNat = 0
      · rw [sp_zero h0] at h
        split at h
        · rename_i ht
          have : t = [] := List.eq_nil_of_length_eq_zero ht
          subst this
          injection h with h
          subst h
          have hk : k = 0 := UInt8.toNat_inj.1 (by simpa using h0)
          subst hk
          exact ⟨rfl, by intro x hx; simp at hx⟩
        · simp at h
      · by_cases hb : 63 < k.toNat ∨ t.length < k.toNat
        · rw [sp_bad h0 hb] at h; simp at h
        · rw [sp_cons h0 (by omega) (by omega)] at h
          rcases hs : sp (t.drop k.toNat) with _ | ls'
          · simp [hs] at h
          · simp [hs] at h
            subst h
            obtain ⟨e, g⟩ := ih (t.drop k.toNat) ls' (by simp at hn ⊢; omega) hs
            refine ⟨?_, ?_⟩
            · have hlen : (t.take k.toNat).length = k.toNat := by simp; omega
              have : glue (t.take k.toNat :: ls') = k :: (t.take k.toNat ++ glue ls') := by simp [glue, body, lab, Nat.min_eq_left (show k.toNat ≤ t.length by omega)]
              rw [this, ← e, List.take_append_drop]
            · intro x hx
              rcases List.mem_cons.1 hx with rfl | hx
              · simp; omega
              · exact g x hx
theorem split_some {l : By} {ls : List By} : split l = some ls ↔ l = glue ls ∧ Good ls ∧ l.length ≤ 255 := by
  unfold split
  constructor
  · intro h
    split at h
    · simp at h
    · obtain ⟨a, b⟩ := sp_some l.length l ls (Nat.le_refl _) h
      exact ⟨a, b, by omega⟩
  · rintro ⟨rfl, g, h⟩
    rw [if_neg (by omega)]
    exact sp_glue ls g
theorem split_glue {ls : List By} (g : Good ls) (h : (glue ls).length ≤ 255) : split (glue ls) = some ls := split_some.2 ⟨rfl, g, h⟩
theorem good_count {ls : List By} (g : Good ls) : 2 * ls.length ≤ (body ls).length := by
  induction ls with
  | nil => simp
  | cons l ls ih =>
    have := ih (fun x hx => g x (by simp [hx]))
    have hl := g l (by simp)
    rw [body_cons, List.length_append, lab_length, List.length_cons]; omega

/-- where each label begins. -/
def starts (ls : List By) : List Nat := (List.range ls.length).map fun i => (body (ls.take i)).length
theorem starts_length (ls : List By) : (starts ls).length = ls.length := by simp [starts]
theorem starts_snoc (ls : List By) (l : By) : starts (ls ++ [l]) = starts ls ++ [(body ls).length] := by
  unfold starts
  rw [List.length_append, List.length_singleton, List.range_succ, List.map_append]
  congr 1
  · apply List.map_congr_left
    intro i hi
    rw [List.take_append_of_le_length (by have := List.mem_range.1 hi; omega)]
  · simp
/-- and behind them where the byte 0 stands. -/
def offs (ls : List By) : List Nat := starts ls ++ [(body ls).length]
theorem offs_length (ls : List By) : (offs ls).length = ls.length + 1 := by simp [offs, starts_length]
theorem offs_get (ls : List By) (i : Nat) (h : i ≤ ls.length) : (offs ls)[i]? = some (body (ls.take i)).length := by
  unfold offs
  by_cases hi : i < ls.length
  · rw [List.getElem?_append_left (by simpa [starts_length] using hi)]; simp [starts, hi]
  · have : i = ls.length := by omega
    subst this
    rw [List.getElem?_append_right (by simp [starts_length])]; simp [starts_length]

theorem small_val (c : UInt8) : (small c).toNat = if 65 ≤ c.toNat ∧ c.toNat ≤ 90 then c.toNat + 32 else c.toNat := by
  have := c.toNat_lt
  unfold small
  by_cases h : 65 ≤ c.toNat ∧ c.toNat ≤ 90
  · rw [if_pos (by simpa [UInt8.le_iff_toNat_le] using h), if_pos h]; simp; omega
  · rw [if_neg (by simpa [UInt8.le_iff_toNat_le] using h), if_neg h]
theorem take_succ_body {ls : List By} {i : Nat} (h : i < ls.length) : (body (ls.take (i + 1))).length = (body (ls.take i)).length + 1 + (ls[i]).length := by
  rw [List.take_succ_eq_append_getElem h, body_snoc_length]
theorem glue_split {ls : List By} {i : Nat} (h : i < ls.length) : glue ls = body (ls.take i) ++ (lab ls[i] ++ glue (ls.drop (i + 1))) := by
  have e : ls = ls.take i ++ (ls[i] :: ls.drop (i + 1)) := by rw [← List.drop_eq_getElem_cons h]; simp
  conv => lhs; rw [e]
  unfold glue
  rw [body_append, body_cons]; simp
theorem label_cut {ls : List By} {i : Nat} (h : i < ls.length) :
    ((glue ls).drop ((body (ls.take i)).length + 1)).take ((body (ls.take (i + 1))).length - ((body (ls.take i)).length + 1)) = ls[i] := by
  rw [take_succ_body h, glue_split h, ← List.drop_drop, List.drop_left]
  simp [lab]
theorem body_take_le {ls : List By} {i : Nat} : (body (ls.take i)).length ≤ (body ls).length := by
  conv => rhs; rw [← List.take_append_drop i ls, body_append]
  simp
theorem drop_cons {l : By} {k : Nat} (h : k < l.length) : l.drop k = l[k] :: l.drop (k + 1) := List.drop_eq_getElem_cons h


/-- what is so far, when a label is read: f is how far. -/
theorem sp_step {l pre : By} {c : UInt8} {t : By} {ps : List By} (hl : l = pre ++ c :: t) (hs : sp l = (sp (c :: t)).map (ps ++ ·)) (h0 : c.toNat ≠ 0) (h2 : c.toNat ≤ 63) (h3 : c.toNat ≤ t.length) :
    l = (pre ++ c :: t.take c.toNat) ++ t.drop c.toNat ∧ sp l = (sp (t.drop c.toNat)).map (ps ++ [t.take c.toNat] ++ ·) := by
  refine ⟨by rw [hl]; simp, ?_⟩
  rw [hs, sp_cons h0 h2 h3]
  rcases sp (t.drop c.toNat) with _ | x <;> simp
theorem lab_take {t : By} {c : UInt8} (h3 : c.toNat ≤ t.length) : lab (t.take c.toNat) = c :: t.take c.toNat := by
  unfold lab; rw [List.length_take, Nat.min_eq_left h3]; simp
theorem split_of_sp {l : By} (h : l.length ≤ 255) : split l = sp l := by unfold split; rw [if_neg (by omega)]; rfl
theorem split_long {l : By} (h : 255 < l.length) : split l = none := by unfold split; rw [if_pos h]

end Go.Proofs.YtgcaephfhfkjcaaGreatDoor.Nm
