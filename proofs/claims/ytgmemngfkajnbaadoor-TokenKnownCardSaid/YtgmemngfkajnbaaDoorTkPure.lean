/- Pure: a zone's text as pieces, and these as entries: what the program's lexer comes to. -/
import Derived.Lib.Hide
namespace Go.Proofs.YtgmemngfkajnbaaDoor.Tk

abbrev By := List UInt8
def blank (c : UInt8) : Bool := c.toNat == 32 || c.toNat == 9 || c.toNat == 13
def ends (c : UInt8) : Bool := c.toNat == 10 || c.toNat == 59 || c.toNat == 40 || c.toNat == 41 || c.toNat == 34 || blank c
/-- how many bytes a word's byte takes: itself, and the one behind a backslash, unless that is a line's end. -/
def tlen : By → Nat
  | c :: d :: _ => if c.toNat = 92 ∧ d.toNat ≠ 10 then 2 else 1
  | _ => 1
def bareLen : By → Nat
  | [] => 0
  | [c] => if ends c then 0 else 1
  | c :: d :: r => if ends c then 0 else if c.toNat = 92 ∧ d.toNat ≠ 10 then 2 + bareLen r else 1 + bareLen (d :: r)
def quoLen : By → Option Nat
  | [] => none
  | [c] => if c.toNat = 34 then some 0 else none
  | c :: d :: r => if c.toNat = 10 then none else if c.toNat = 34 then some 0 else
      if c.toNat = 92 ∧ d.toNat ≠ 10 then (quoLen r).map (2 + ·) else (quoLen (d :: r)).map (1 + ·)
def remLen : By → Nat
  | [] => 0
  | c :: r => if c.toNat = 10 then 0 else 1 + remLen r

inductive Pc where
  | ch (c : UInt8)
  | rem (b : By)
  | bare (b : By)
  | quo (b : By)
  | bad (b : By)
deriving DecidableEq
def lex : Nat → By → List Pc
  | 0, _ => []
  | _ + 1, [] => []
  | n + 1, c :: r =>
    if c.toNat = 59 then .rem (c :: r.take (remLen r)) :: lex n (r.drop (remLen r))
    else if c.toNat = 34 then match quoLen r with
      | none => [.bad (c :: r)]
      | some k => .quo (r.take k) :: lex n (r.drop (k + 1))
    else if ends c then .ch c :: lex n r
    else .bare ((c :: r).take (bareLen (c :: r))) :: lex n ((c :: r).drop (bareLen (c :: r)))

theorem tlen_pos (l : By) : 1 ≤ tlen l := by
  unfold tlen
  split
  · split <;> omega
  · omega
theorem bareLen_pos {c : UInt8} {r : By} (h : ends c = false) : 1 ≤ bareLen (c :: r) := by
  cases r with
  | nil => simp [bareLen, h]
  | cons d r =>
    rw [bareLen]
    simp only [h, Bool.false_eq_true, if_false]
    split <;> omega
theorem bareLen_end {c : UInt8} {r : By} (h : ends c = true) : bareLen (c :: r) = 0 := by
  cases r <;> simp [bareLen, h]
/-- one byte further, or two. -/
theorem bareLen_step {c : UInt8} {r : By} (h : ends c = false) : bareLen (c :: r) = tlen (c :: r) + bareLen ((c :: r).drop (tlen (c :: r))) := by
  cases r with
  | nil => simp [bareLen, h, tlen]
  | cons d r =>
    rw [bareLen]
    simp only [h, Bool.false_eq_true, if_false, tlen]
    split <;> simp
theorem quoLen_lf {c : UInt8} {r : By} (h : c.toNat = 10) : quoLen (c :: r) = none := by
  cases r with
  | nil => simp [quoLen, h]
  | cons d r => simp [quoLen, h]
theorem quoLen_q {c : UInt8} {r : By} (h : c.toNat = 34) : quoLen (c :: r) = some 0 := by
  cases r with
  | nil => simp [quoLen, h]
  | cons d r => simp [quoLen, h]
theorem quoLen_step {c : UInt8} {r : By} (h : c.toNat ≠ 10) (h2 : c.toNat ≠ 34) : quoLen (c :: r) = (quoLen ((c :: r).drop (tlen (c :: r)))).map (tlen (c :: r) + ·) := by
  cases r with
  | nil => simp [quoLen, h2, tlen]
  | cons d r =>
    rw [quoLen]
    simp only [h, h2, if_false, tlen]
    split <;> simp

theorem tlen_le {c : UInt8} {r : By} : tlen (c :: r) ≤ (c :: r).length := by
  cases r with
  | nil => simp [tlen]
  | cons d r => simp only [tlen, List.length_cons]; split <;> omega
theorem bareLen_le : ∀ (l : By), bareLen l ≤ l.length := by
  intro l
  induction l using bareLen.induct with
  | case1 => simp [bareLen]
  | case2 c h => simp [bareLen, h]
  | case3 c h => simp [bareLen, h]
  | case4 c d r h => simp [bareLen, h]
  | case5 c d r h1 h2 ih => simp only [Bool.not_eq_true] at h1; simp [bareLen, h1, h2]; omega
  | case6 c d r h1 h2 ih => simp only [Bool.not_eq_true] at h1; rw [bareLen]; simp only [h1, h2, Bool.false_eq_true, if_false]; simp at ih ⊢; omega
theorem quoLen_lt : ∀ (l : By) (k : Nat), quoLen l = some k → k < l.length := by
  intro l
  induction l using quoLen.induct with
  | case1 => intro k h; simp [quoLen] at h
  | case2 c h => intro k hk; simp [quoLen, h] at hk; simp; omega
  | case3 c h => intro k hk; simp [quoLen, h] at hk
  | case4 c d r h => intro k hk; simp [quoLen, h] at hk
  | case5 c d r h1 h2 => intro k hk; simp [quoLen, h2] at hk; simp; omega
  | case6 c d r h1 h2 h3 ih =>
    intro k hk
    rw [quoLen, if_neg h1, if_neg h2, if_pos h3] at hk
    rcases hq : quoLen r with _ | j
    · rw [hq] at hk; cases hk
    · rw [hq] at hk; simp at hk; have := ih j hq; simp; omega
  | case7 c d r h1 h2 h3 ih =>
    intro k hk
    rw [quoLen, if_neg h1, if_neg h2, if_neg h3] at hk
    rcases hq : quoLen (d :: r) with _ | j
    · rw [hq] at hk; cases hk
    · rw [hq] at hk; simp at hk; have := ih j hq; simp at this ⊢; omega
theorem remLen_le : ∀ (l : By), remLen l ≤ l.length
  | [] => by simp [remLen]
  | c :: r => by
    have := remLen_le r
    unfold remLen
    split <;> simp; omega

theorem lex_fuel : ∀ (n m : Nat) (l : By), l.length ≤ n → l.length ≤ m → lex n l = lex m l := by
  intro n
  induction n with
  | zero =>
    intro m l h _
    obtain rfl : l = [] := List.eq_nil_of_length_eq_zero (by omega)
    cases m <;> rfl
  | succ n ih =>
    intro m l h1 h2
    cases l with
    | nil => cases m <;> rfl
    | cons c r =>
      obtain ⟨m, rfl⟩ : ∃ k, m = k + 1 := ⟨m - 1, by simp at h2; omega⟩
      simp only [List.length_cons] at h1 h2
      rw [lex, lex]
      split
      · rw [ih m _ (by simp; omega) (by simp; omega)]
      split
      · split
        · rfl
        · rw [ih m _ (by simp; omega) (by simp; omega)]
      split
      · rw [ih m _ (by omega) (by omega)]
      · rename_i h
        have := bareLen_pos (r := r) (by simpa using h)
        rw [ih m _ (by simp; omega) (by simp; omega)]
/-- a text's pieces. -/
def lx (l : By) : List Pc := lex l.length l
theorem lex_lx {n : Nat} {l : By} (h : l.length ≤ n) : lex n l = lx l := lex_fuel _ _ _ h (Nat.le_refl _)
theorem lx_nil : lx [] = [] := rfl
theorem lx_rem {c : UInt8} {r : By} (h : c.toNat = 59) : lx (c :: r) = .rem (c :: r.take (remLen r)) :: lx (r.drop (remLen r)) := by
  conv => lhs; unfold lx
  rw [List.length_cons, lex, if_pos h, lex_lx (by simp)]
theorem lx_bad {c : UInt8} {r : By} (h : c.toNat = 34) (hq : quoLen r = none) : lx (c :: r) = [.bad (c :: r)] := by
  conv => lhs; unfold lx
  rw [List.length_cons, lex, if_neg (by omega), if_pos h, hq]
theorem lx_quo {c : UInt8} {r : By} {k : Nat} (h : c.toNat = 34) (hq : quoLen r = some k) : lx (c :: r) = .quo (r.take k) :: lx (r.drop (k + 1)) := by
  conv => lhs; unfold lx
  rw [List.length_cons, lex, if_neg (by omega), if_pos h, hq]
  simp only
  rw [lex_lx (by simp)]
theorem ends_59 {c : UInt8} (h : c.toNat = 59) : ends c = true := by simp [ends, h]
theorem ends_34 {c : UInt8} (h : c.toNat = 34) : ends c = true := by simp [ends, h]
theorem lx_ch {c : UInt8} {r : By} (h1 : c.toNat ≠ 59) (h2 : c.toNat ≠ 34) (h : ends c = true) : lx (c :: r) = .ch c :: lx r := by
  conv => lhs; unfold lx
  rw [List.length_cons, lex, if_neg h1, if_neg h2, if_pos h, lex_lx (Nat.le_refl _)]
theorem lx_bare {c : UInt8} {r : By} (h : ends c = false) : lx (c :: r) = .bare ((c :: r).take (bareLen (c :: r))) :: lx ((c :: r).drop (bareLen (c :: r))) := by
  have hp := bareLen_pos (r := r) h
  conv => lhs; unfold lx
  rw [List.length_cons, lex, if_neg (fun e => by rw [ends_59 e] at h; cases h), if_neg (fun e => by rw [ends_34 e] at h; cases h), if_neg (by simp [h]), lex_lx (by simp only [List.length_drop, List.length_cons]; omega)]

structure Wd where
  text : By
  quoted : Bool
  line : Nat
  col : Nat
deriving DecidableEq
structure En where
  blank : Bool
  line : Nat
  words : List Wd
deriving DecidableEq
inductive Rs where
  | err (line col e : Nat)
  | ok (es : List En)
deriving DecidableEq
structure St where
  line : Nat
  col : Nat
  dep : Nat
  fl : Nat
  fc : Nat
  bl : Bool
  el : Nat
  ws : List Wd
  es : List En
/-- the entries, with the one that is being read. -/
def St.done (s : St) : List En := if s.ws = [] then s.es else s.es ++ [⟨s.bl, s.el, s.ws⟩]
/-- is the byte that comes next a blank? -/
def hb : By → Bool
  | [] => false
  | c :: _ => blank c
def hp : List Pc → Bool
  | .ch c :: _ => blank c
  | _ => false
def eQuote : Nat := 80
def eParen : Nat := 81
/-- behind a line's end. -/
def St.nl (s : St) (b : Bool) : St :=
  if s.dep = 0 then ⟨s.line + 1, 1, 0, s.fl, s.fc, b, s.line + 1, [], s.done⟩ else { s with line := s.line + 1, col := 1 }
/-- behind an open parenthesis. -/
def St.op (s : St) : St := { s with dep := s.dep + 1, fl := if s.dep = 0 then s.line else s.fl, fc := if s.dep = 0 then s.col else s.fc, col := s.col + 1 }
def St.cl (s : St) : St := { s with dep := s.dep - 1, col := s.col + 1 }
def St.go (s : St) (n : Nat) : St := { s with col := s.col + n }
def St.put (s : St) (b : By) (q : Bool) (n : Nat) : St := { s with ws := s.ws ++ [⟨b, q, s.line, s.col⟩], col := s.col + n }
def play : List Pc → St → Rs
  | [], s => if s.dep = 0 then .ok s.done else .err s.fl s.fc eParen
  | .bad _ :: _, s => .err s.line s.col eQuote
  | .ch c :: ps, s =>
    if c.toNat = 10 then play ps (s.nl (hp ps))
    else if c.toNat = 40 then play ps s.op
    else if c.toNat = 41 then if s.dep = 0 then .err s.line s.col eParen else play ps s.cl
    else play ps (s.go 1)
  | .rem b :: ps, s => play ps (s.go b.length)
  | .bare b :: ps, s => play ps (s.put b false b.length)
  | .quo b :: ps, s => play ps (s.put b true (b.length + 2))
/-- at a text's beginning. -/
def start (l : By) : St := ⟨1, 1, 0, 0, 0, hb l, 1, [], []⟩
/-- what a text tells. -/
def tells (l : By) : Rs := play (lx l) (start l)
theorem blank_ends {c : UInt8} (h : blank c = true) : ends c = true := by simp [ends, h]
theorem hb_ends {c : UInt8} (h : blank c = true) : c.toNat ≠ 59 ∧ c.toNat ≠ 34 := by
  simp [blank] at h
  omega
theorem hp_lx (l : By) : hp (lx l) = hb l := by
  cases l with
  | nil => rfl
  | cons c r =>
    by_cases h1 : c.toNat = 59
    · rw [lx_rem h1]; simp [hp, hb, blank, h1]
    by_cases h2 : c.toNat = 34
    · rcases hq : quoLen r with _ | k
      · rw [lx_bad h2 hq]; simp [hp, hb, blank, h2]
      · rw [lx_quo h2 hq]; simp [hp, hb, blank, h2]
    by_cases h3 : ends c = true
    · rw [lx_ch h1 h2 h3]; rfl
    · rw [lx_bare (by simpa using h3)]
      have : blank c = false := by
        rcases hb' : blank c with _ | _
        · rfl
        · exact absurd (blank_ends hb') h3
      simp [hp, hb, this]
end Go.Proofs.YtgmemngfkajnbaaDoor.Tk
