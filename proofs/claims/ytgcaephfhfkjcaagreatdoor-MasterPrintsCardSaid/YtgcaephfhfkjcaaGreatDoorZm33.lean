/- Texts of the proofs, merged. -/
import Derived.Lib.Hide
import Derived.Test.YtgcaephfhfkjcaaGreatDoorZm1
import Derived.Test.YtgcaephfhfkjcaaGreatDoorZm5
import Derived.Test.YtgcaephfhfkjcaaGreatDoorZm2
namespace Go.Proofs.YtgcaephfhfkjcaaGreatDoor.Tk

abbrev By := List UInt8
def blank (c : UInt8) : Bool := c.toNat == 32 || c.toNat == 9 || c.toNat == 13
def ends (c : UInt8) : Bool := c.toNat == 10 || c.toNat == 59 || c.toNat == 40 || c.toNat == 41 || c.toNat == 34 || blank c
/-- how many bytes a word's byte takes: itself, and the one behind a backslash, unless that is a line's end. -/
def tlen : By → Nat
  | c :: d :: _ => if c.toNat = 92 ∧ d.toNat ≠ 10 then 2 else 1
  | _ => 1
def bareLen : By → Nat
  | [] => 0
  | [c] => if ends c then 0 else 1
  | c :: d :: r => if ends c then 0 else if c.toNat = 92 ∧ d.toNat ≠ 10 then 2 + bareLen r else 1 + bareLen (d :: r)
def quoLen : By → Option Nat
  | [] => none
  | [c] => if c.toNat = 34 then some 0 else none
  | c :: d :: r => if c.toNat = 10 then none else if c.toNat = 34 then some 0 else
      if c.toNat = 92 ∧ d.toNat ≠ 10 then (quoLen r).map (2 + ·) else (quoLen (d :: r)).map (1 + ·)
def remLen : By → Nat
  | [] => 0
  | c :: r => if c.toNat = 10 then 0 else 1 + remLen r

inductive Pc where
  | ch (c : UInt8)
  | rem (b : By)
  | bare (b : By)
  | quo (b : By)
  | bad (b : By)
deriving DecidableEq
def lex : Nat → By → List Pc
  | 0, _ => []
  | _ + 1, [] => []
  | n + 1, c :: r =>
    if c.toNat = 59 then .rem (c :: r.take (remLen r)) :: lex n (r.drop (remLen r))
    else if c.toNat = 34 then match quoLen r with
      | none => [.bad (c :: r)]
      | some k => .quo (r.take k) :: lex n (r.drop (k + 1))
    else if ends c then .ch c :: lex n r
    else .bare ((c :: r).take (bareLen (c :: r))) :: lex n ((c :: r).drop (bareLen (c :: r)))

theorem bareLen_pos {c : UInt8} {r : By} (h : ends c = false) : 1 ≤ bareLen (c :: r) := by
  cases r with
  | nil => simp [bareLen, h]
  | cons d r =>
    rw [bareLen]
    simp only [h, Bool.false_eq_true, if_false]
    split <;> omega
theorem bareLen_end {c : UInt8} {r : By} (h : ends c = true) : bareLen (c :: r) = 0 := by
  cases r <;> simp [bareLen, h]
/-- one byte further, or two. -/
theorem bareLen_step {c : UInt8} {r : By} (h : ends c = false) : bareLen (c :: r) = tlen (c :: r) + bareLen ((c :: r).drop (tlen (c :: r))) := by
  cases r with
  | nil => simp [bareLen, h, tlen]
  | cons d r =>
    rw [bareLen]
    simp only [h, Bool.false_eq_true, if_false, tlen]
    split <;> simp
theorem quoLen_lf {c : UInt8} {r : By} (h : c.toNat = 10) : quoLen (c :: r) = none := by
  cases r with
  | nil => simp [quoLen, h]
  | cons d r => simp [quoLen, h]
theorem quoLen_q {c : UInt8} {r : By} (h : c.toNat = 34) : quoLen (c :: r) = some 0 := by
  cases r with
  | nil => simp [quoLen, h]
  | cons d r => simp [quoLen, h]
theorem quoLen_step {c : UInt8} {r : By} (h : c.toNat ≠ 10) (h2 : c.toNat ≠ 34) : quoLen (c :: r) = (quoLen ((c :: r).drop (tlen (c :: r)))).map (tlen (c :: r) + ·) := by
  cases r with
  | nil => simp [quoLen, h2, tlen]
  | cons d r =>
    rw [quoLen]
    simp only [h, h2, if_false, tlen]
    split <;> simp

theorem tlen_le {c : UInt8} {r : By} : tlen (c :: r) ≤ (c :: r).length := by
  cases r with
  | nil => simp [tlen]
  | cons d r => simp only [tlen, List.length_cons]; split <;> omega
theorem remLen_le : ∀ (l : By), remLen l ≤ l.length
  | [] => by simp [remLen]
  | c :: r => by
    have := remLen_le r
    unfold remLen
    split <;> simp; omega

theorem lex_fuel : ∀ (n m : Nat) (l : By), l.length ≤ n → l.length ≤ m → lex n l = lex m l := by
  intro n
  induction n with
  | zero =>
    intro m l h _
    obtain rfl : l = [] := List.eq_nil_of_length_eq_zero (by omega)
    cases m <;> rfl
  | succ n ih =>
    intro m l h1 h2
    cases l with
    | nil => cases m <;> rfl
    | cons c r =>
      obtain ⟨m, rfl⟩ : ∃ k, m = k + 1 := ⟨m - 1, by simp at h2; omega⟩
      simp only [List.length_cons] at h1 h2
      rw [lex, lex]
      split
      · rw [ih m _ (by simp; omega) (by simp; omega)]
      split
      · split
        · rfl
        · rw [ih m _ (by simp; omega) (by simp; omega)]
      split
      · rw [ih m _ (by omega) (by omega)]
      · rename_i h
        have := bareLen_pos (r := r) (by simpa using h)
        rw [ih m _ (by simp; omega) (by simp; omega)]
/-- a text's pieces. -/
def lx (l : By) : List Pc := lex l.length l
theorem lex_lx {n : Nat} {l : By} (h : l.length ≤ n) : lex n l = lx l := lex_fuel _ _ _ h (Nat.le_refl _)
theorem lx_rem {c : UInt8} {r : By} (h : c.toNat = 59) : lx (c :: r) = .rem (c :: r.take (remLen r)) :: lx (r.drop (remLen r)) := by
  conv => lhs; unfold lx
  rw [List.length_cons, lex, if_pos h, lex_lx (by simp)]
theorem lx_bad {c : UInt8} {r : By} (h : c.toNat = 34) (hq : quoLen r = none) : lx (c :: r) = [.bad (c :: r)] := by
  conv => lhs; unfold lx
  rw [List.length_cons, lex, if_neg (by omega), if_pos h, hq]
theorem lx_quo {c : UInt8} {r : By} {k : Nat} (h : c.toNat = 34) (hq : quoLen r = some k) : lx (c :: r) = .quo (r.take k) :: lx (r.drop (k + 1)) := by
  conv => lhs; unfold lx
  rw [List.length_cons, lex, if_neg (by omega), if_pos h, hq]
  simp only
  rw [lex_lx (by simp)]
theorem ends_59 {c : UInt8} (h : c.toNat = 59) : ends c = true := by simp [ends, h]
theorem ends_34 {c : UInt8} (h : c.toNat = 34) : ends c = true := by simp [ends, h]
theorem lx_ch {c : UInt8} {r : By} (h1 : c.toNat ≠ 59) (h2 : c.toNat ≠ 34) (h : ends c = true) : lx (c :: r) = .ch c :: lx r := by
  conv => lhs; unfold lx
  rw [List.length_cons, lex, if_neg h1, if_neg h2, if_pos h, lex_lx (Nat.le_refl _)]
theorem lx_bare {c : UInt8} {r : By} (h : ends c = false) : lx (c :: r) = .bare ((c :: r).take (bareLen (c :: r))) :: lx ((c :: r).drop (bareLen (c :: r))) := by
  have hp := bareLen_pos (r := r) h
  conv => lhs; unfold lx
  rw [List.length_cons, lex, if_neg (fun e => by rw [ends_59 e] at h; cases h), if_neg (fun e => by rw [ends_34 e] at h; cases h), if_neg (by simp [h]), lex_lx (by simp only [List.length_drop, List.length_cons]; omega)]

structure Wd where
  text : By
  quoted : Bool
  line : Nat
  col : Nat
deriving DecidableEq
structure En where
  blank : Bool
  line : Nat
  words : List Wd
deriving DecidableEq
inductive Rs where
  | err (line col e : Nat)
  | ok (es : List En)
deriving DecidableEq
structure St where
  line : Nat
  col : Nat
  dep : Nat
  fl : Nat
  fc : Nat
  bl : Bool
  el : Nat
  ws : List Wd
  es : List En
/-- the entries, with the one that is being read. -/
def St.done (s : St) : List En := if s.ws = [] then s.es else s.es ++ [⟨s.bl, s.el, s.ws⟩]
/-- is the byte that comes next a blank? -/
def hb : By → Bool
  | [] => false
  | c :: _ => blank c
def hp : List Pc → Bool
  | .ch c :: _ => blank c
  | _ => false
def eQuote : Nat := 80
def eParen : Nat := 81
/-- behind a line's end. -/
def St.nl (s : St) (b : Bool) : St :=
  if s.dep = 0 then ⟨s.line + 1, 1, 0, s.fl, s.fc, b, s.line + 1, [], s.done⟩ else { s with line := s.line + 1, col := 1 }
/-- behind an open parenthesis. -/
def St.op (s : St) : St := { s with dep := s.dep + 1, fl := if s.dep = 0 then s.line else s.fl, fc := if s.dep = 0 then s.col else s.fc, col := s.col + 1 }
def St.cl (s : St) : St := { s with dep := s.dep - 1, col := s.col + 1 }
def St.go (s : St) (n : Nat) : St := { s with col := s.col + n }
def St.put (s : St) (b : By) (q : Bool) (n : Nat) : St := { s with ws := s.ws ++ [⟨b, q, s.line, s.col⟩], col := s.col + n }
def play : List Pc → St → Rs
  | [], s => if s.dep = 0 then .ok s.done else .err s.fl s.fc eParen
  | .bad _ :: _, s => .err s.line s.col eQuote
  | .ch c :: ps, s =>
    if c.toNat = 10 then play ps (s.nl (hp ps))
    else if c.toNat = 40 then play ps s.op
    else if c.toNat = 41 then if s.dep = 0 then .err s.line s.col eParen else play ps s.cl
    else play ps (s.go 1)
  | .rem b :: ps, s => play ps (s.go b.length)
  | .bare b :: ps, s => play ps (s.put b false b.length)
  | .quo b :: ps, s => play ps (s.put b true (b.length + 2))
/-- at a text's beginning. -/
def start (l : By) : St := ⟨1, 1, 0, 0, 0, hb l, 1, [], []⟩
/-- what a text tells. -/
def tells (l : By) : Rs := play (lx l) (start l)
theorem blank_ends {c : UInt8} (h : blank c = true) : ends c = true := by simp [ends, h]
theorem hp_lx (l : By) : hp (lx l) = hb l := by
  cases l with
  | nil => rfl
  | cons c r =>
    by_cases h1 : c.toNat = 59
    · rw [lx_rem h1]; simp [hp, hb, blank, h1]
    by_cases h2 : c.toNat = 34
    · rcases hq : quoLen r with _ | k
      · rw [lx_bad h2 hq]; simp [hp, hb, blank, h2]
      · rw [lx_quo h2 hq]; simp [hp, hb, blank, h2]
    by_cases h3 : ends c = true
    · rw [lx_ch h1 h2 h3]; rfl
    · rw [lx_bare (by simpa using h3)]
      have : blank c = false := by
        rcases hb' : blank c with _ | _
        · rfl
        · exact absurd (blank_ends hb') h3
      simp [hp, hb, this]
end Go.Proofs.YtgcaephfhfkjcaaGreatDoor.Tk
namespace Go.Proofs.YtgcaephfhfkjcaaGreatDoor.Rd

theorem dec_few (k : Nat) : ∀ n, n < 10 ^ (k + 1) → (dec n).length ≤ k + 1 := by
  induction k with
  | zero =>
    intro n h
    rw [dec_small (by simpa using h)]
    simp
  | succ k ih =>
    intro n h
    by_cases hn : n < 10
    · rw [dec_small hn]; simp
    · rw [dec_more hn]
      have := ih (n / 10) (by rw [Nat.pow_succ] at h; omega)
      simp
      omega
/-- a digit to the base 16, and what it is worth. -/
def hexD (c : UInt8) : Option Nat := if 48 ≤ c.toNat ∧ c.toNat ≤ 57 then some (c.toNat - 48) else if 97 ≤ c.toNat ∧ c.toNat ≤ 102 then some (c.toNat - 87) else if 65 ≤ c.toNat ∧ c.toNat ≤ 70 then some (c.toNat - 55) else none
/-- a row of digits to the base 16. -/
def hexV (s : By) : Option Nat := s.foldl (fun v c => match v, hexD c with
  | some v, some d => some (16 * v + d)
  | _, _ => none) (some 0)
/-- a text, cut at each byte that is this one. -/
def splitB (b : UInt8) : By → List By
  | [] => [[]]
  | c :: r => if c = b then [] :: splitB b r else match splitB b r with
    | [] => [[c]]
    | p :: ps => (c :: p) :: ps
theorem splitB_no {b : UInt8} : ∀ {s : By}, (∀ c ∈ s, c ≠ b) → splitB b s = [s]
  | [], _ => rfl
  | c :: r, h => by rw [splitB, if_neg (h c (by simp)), splitB_no (fun x hx => h x (by simp [hx]))]
theorem splitB_cons {b : UInt8} (t : By) : ∀ {s : By}, (∀ c ∈ s, c ≠ b) → splitB b (s ++ b :: t) = s :: splitB b t
  | [], _ => by rw [List.nil_append, splitB, if_pos rfl]
  | c :: r, h => by rw [List.cons_append, splitB, if_neg (h c (by simp)), splitB_cons t (fun x hx => h x (by simp [hx]))]
end Go.Proofs.YtgcaephfhfkjcaaGreatDoor.Rd
namespace Go.Proofs.YtgcaephfhfkjcaaGreatDoor.Rd

/-- how many bytes a word takes, up to a byte that ends it: a backslash takes the byte behind it along. -/
def scan (e : UInt8) : By → Nat
  | [] => 0
  | [c] => if c = e then 0 else 1
  | c :: d :: r => if c = e then 0 else if c = 92 then 2 + scan e r else 1 + scan e (d :: r)
theorem scan_plain {e c : UInt8} {r : By} (h : c ≠ e) (h2 : c ≠ 92) : scan e (c :: r) = 1 + scan e r := by
  cases r with
  | nil => simp [scan, h]
  | cons d r => rw [scan, if_neg h, if_neg h2]
theorem scan_back {e d : UInt8} {r : By} (h : e ≠ 92) : scan e (92 :: d :: r) = 2 + scan e r := by
  rw [scan, if_neg (fun x => h x.symm), if_pos rfl]
/-- a word without its end in it. -/
def Whole (e : UInt8) (p : By) : Prop := ∀ t, scan e (p ++ t) = p.length + scan e t
theorem Whole.nil (e : UInt8) : Whole e [] := fun t => by simp
theorem Whole.app {e : UInt8} {p q : By} (h : Whole e p) (h2 : Whole e q) : Whole e (p ++ q) := fun t => by
  rw [List.append_assoc, h, h2, List.length_append]
  omega
theorem Whole.one {e c : UInt8} (h : c ≠ e) (h2 : c ≠ 92) : Whole e [c] := fun t => by
  rw [List.cons_append, List.nil_append, scan_plain h h2]
  rfl
theorem Whole.back {e d : UInt8} (h : e ≠ 92) : Whole e [92, d] := fun t => by
  rw [List.cons_append, List.cons_append, List.nil_append, scan_back h]
  rfl
theorem Whole.all {e : UInt8} : ∀ {p : By}, (∀ c ∈ p, c ≠ e ∧ c ≠ 92) → Whole e p
  | [], _ => Whole.nil e
  | c :: r, h => (Whole.one (h c (by simp)).1 (h c (by simp)).2).app (Whole.all (p := r) (fun x hx => h x (by simp [hx])))
/-- a word that is told as it is. -/
def Good (x : By × Bool) : Prop := if x.2 then Whole 34 x.1 else Whole 32 x.1 ∧ ∃ c r, x.1 = c :: r ∧ c ≠ 32 ∧ c ≠ 34
end Go.Proofs.YtgcaephfhfkjcaaGreatDoor.Rd
namespace Go.Proofs.YtgcaephfhfkjcaaGreatDoor.Rd

def two (c : UInt8) : By := hex (c.toNat / 16) ++ hex (c.toNat % 16)
end Go.Proofs.YtgcaephfhfkjcaaGreatDoor.Rd
namespace Go.Proofs.YtgcaephfhfkjcaaGreatDoor.Rd

abbrev W2 := By × Bool
/-- the next word, if it is not quoted. -/
def plainW : List W2 → Option (By × List W2)
  | [] => none
  | w :: r => if w.2 then none else some (w.1, r)
def allM (f : By → Option Nat) : List By → Option (List Nat)
  | [] => some []
  | p :: r => match f p, allM f r with
    | some v, some vs => some (v :: vs)
    | _, _ => none
/-- an address of four bytes. -/
def addr4 (s : By) : Option By := if (splitB 46 s).length = 4 then (allM (fun p => num p 255) (splitB 46 s)).map (·.map UInt8.ofNat) else none
/-- one to four digits to the base 16. -/
def hexR (s : By) : Option Nat := if s.length = 0 ∨ 4 < s.length then none else hexV s
def groupsR (s : By) : Option (List Nat) := if s = [] then some [] else allM hexR (splitB 58 s)
/-- at the first :: -/
def cut2 : By → By × By × Bool
  | [] => ([], [], false)
  | [c] => ([c], [], false)
  | c :: d :: r => if c = 58 ∧ d = 58 then ([], r, true) else (c :: (cut2 (d :: r)).1, (cut2 (d :: r)).2)
def addr16 (s : By) : Option By :=
  match groupsR (cut2 s).1, groupsR (cut2 s).2.1 with
  | some a, some b =>
    if ((cut2 s).2.2 = true ∧ 8 ≤ a.length + b.length) ∨ ((cut2 s).2.2 = false ∧ a.length + b.length ≠ 8) then none
    else some ((a ++ List.replicate (8 - (a.length + b.length)) 0 ++ b).flatMap fun g => [UInt8.ofNat (g / 256), UInt8.ofNat (g % 256)])
  | _, _ => none
/-- short texts, one behind the other. -/
def textsR : By → List W2 → Option By
  | raw, [] => some raw
  | raw, w :: r => match Nm.unesc w.1 with
    | none => none
    | some l => if 255 < l.length ∨ 65535 < raw.length + (1 + l.length) then none else textsR (raw ++ UInt8.ofNat l.length :: l) r
/-- a name in a word. -/
def nameR (o s : By) : Option By := if s = [64] then some o else if (Nm.parse s o).2 = 0 then some (Nm.parse s o).1 else none
end Go.Proofs.YtgcaephfhfkjcaaGreatDoor.Rd
namespace Go.Proofs.YtgcaephfhfkjcaaGreatDoor.Rd

def setN (d : Dt) (k v : Nat) : Dt := match k with
  | 0 => { d with n0 := v }
  | 1 => { d with n1 := v }
  | 2 => { d with n2 := v }
  | 3 => { d with n3 := v }
  | _ => { d with n4 := v }
/-- what reading holds: the words that are left, the data so far, how many numbers were read. -/
abbrev RS := List W2 × Dt × Nat
def rdP (o : By) (p : Nat) (s : RS) : Option RS :=
  if p = 0 then some s
  else if p = 1 then (plainW s.1).bind fun x => (addr4 x.1).map fun r => (x.2, { s.2.1 with raw := r }, s.2.2)
  else if p = 2 then (plainW s.1).bind fun x => (addr16 x.1).map fun r => (x.2, { s.2.1 with raw := r }, s.2.2)
  else if p = 3 then if s.1 = [] then none else (textsR [] s.1).map fun r => ([], { s.2.1 with raw := r }, s.2.2)
  else if p = 4 then none
  else if p = 5 ∨ p = 6 then (plainW s.1).bind fun x => (nameR o x.1).map fun r => (x.2, { s.2.1 with host := r }, s.2.2)
  else if p = 7 then (plainW s.1).bind fun x => (nameR o x.1).map fun r => (x.2, { s.2.1 with mail := r }, s.2.2)
  else (plainW s.1).bind fun x => (num x.1 (if p = 8 then 65535 else 4294967295)).map fun v => (x.2, setN s.2.1 s.2.2 v, s.2.2 + 1)
def rdAll (o : By) : List Nat → RS → Option RS
  | [], s => some s
  | p :: r, s => (rdP o p s).bind (rdAll o r)
def dt0 : Dt := ⟨[], [], [], 0, 0, 0, 0, 0⟩
def knownR (o : By) (t : Nat) (ws : List W2) : Option Dt := (rdAll o (parts t) (ws, dt0, 0)).bind fun s => if s.1 = [] then some s.2.1 else none
/-- the digits of any data. -/
def gathR (m : Nat) : By → List W2 → Option (By × List W2)
  | ds, [] => some (ds, [])
  | ds, w :: r => if ds.length ≤ m then (if w.2 then none else gathR m (ds ++ w.1) r) else some (ds, w :: r)
def twoR : By → Option By
  | [] => some []
  | [_] => none
  | a :: b :: r => match hexR [a, b], twoR r with
    | some v, some s => some (UInt8.ofNat v :: s)
    | _, _ => none
/-- any data's bytes, of the words behind the first one. -/
def anyR (ws : List W2) : Option By := (plainW ws).bind fun x => (num x.1 65535).bind fun n => (gathR (2 * n) [] x.2).bind fun y => if y.1.length = 2 * n then twoR y.1 else none

end Go.Proofs.YtgcaephfhfkjcaaGreatDoor.Rd
namespace Go.Proofs.YtgcaephfhfkjcaaGreatDoor.Rd

/-- the words that tell data. -/
def readR (o : By) (t : Nat) (ws : List W2) : Option Dt := match ws with
  | [] => knownR o t []
  | x :: r => if x.1 = [92, 35] ∧ x.2 = false then (if parts t = [4, 0, 0, 0, 0, 0, 0] then (anyR r).map fun raw => ⟨raw, [], [], 0, 0, 0, 0, 0⟩ else none) else knownR o t (x :: r)
/-- data with names in small letters. -/
def foldD (t : Nat) (d : Dt) : Dt := { d with host := if isHost t then Nm.fold d.host else d.host, mail := if isMail t then Nm.fold d.mail else d.mail }

end Go.Proofs.YtgcaephfhfkjcaaGreatDoor.Rd
namespace Go.Proofs.YtgcaephfhfkjcaaGreatDoor.Ma
open Rd (By Dt)

/-- what is wrong, and where. -/
structure Er where
  e : Nat
  line : Nat
  col : Nat
abbrev Ans (α : Type) := Except Er α
def at_ (x : Tk.Wd) (e : Nat) : Er := ⟨e, x.line, x.col⟩
/-- a word in small letters. -/
def kw (x : Tk.Wd) : By := if x.quoted then [] else Nm.fold x.text
/-- the number in a word. -/
def num (x : Tk.Wd) : Option Nat := if x.quoted then none else Rd.num x.text 4294967295
def isClass (x : Tk.Wd) : Bool := kw x == [105, 110] || (kw x == [99, 104] || (kw x == [99, 115] || kw x == [104, 115]))
/-- the name in a word. -/
def name (o : By) (x : Tk.Wd) : Option By := if x.quoted then none else Rd.nameR o x.text
/-- a TTL and a class: what holds behind them, the record's own, what is left. -/
def tc (fx : Bool) : List Tk.Wd → Nat → Nat → Bool → Bool → Ans (Nat × Nat × List Tk.Wd)
  | [], h, t, _, _ => .ok (h, t, [])
  | w :: r, h, t, bt, bc =>
    if (num w).isSome ∧ bt = false then (if (num w).getD 0 ≤ 2147483647 then tc fx r (if fx then h else (num w).getD 0) ((num w).getD 0) true bc else .error (at_ w 91))
    else if isClass w ∧ bc = false then (if kw w = [105, 110] then tc fx r h t bt true else .error (at_ w 92))
    else .ok (h, t, w :: r)
/-- a record. -/
structure Rc where
  nm : By
  ty : Nat
  ttl : Nat
  d : Dt
/-- what holds. -/
structure S where
  o : By
  ttl : Nat
  fx : Bool
  recs : List Rc
def w2 (x : Tk.Wd) : Rd.W2 := (x.text, x.quoted)
/-- the owner, and the words behind it. -/
def owner (s : S) (f : Tk.Wd) (bl : Bool) (ws : List Tk.Wd) : Ans (By × List Tk.Wd) :=
  if bl then (match s.recs.getLast? with
    | some r => .ok (r.nm, ws)
    | none => .error (at_ f 90))
  else match ws with
    | [] => .error (at_ f 90)
    | x :: r => match name s.o x with
      | some n => .ok (Nm.fold n, r)
      | none => .error (at_ f 90)
/-- a record's type and data. -/
def tail (o : By) (f : Tk.Wd) : List Tk.Wd → Ans (Nat × Dt)
  | [] => .error (at_ f 93)
  | k :: r => if k.quoted then .error (at_ k 93) else match Rd.tyOf k.text with
    | none => .error (at_ k 93)
    | some t => match Rd.readR o t (r.map w2) with
      | none => .error (at_ k 41)
      | some d => .ok (t, Rd.foldD t d)
def record (s : S) (f : Tk.Wd) (bl : Bool) (ws : List Tk.Wd) : Ans (Nat × Rc) := match owner s f bl ws with
  | .error x => .error x
  | .ok (n, ws) => match tc s.fx ws s.ttl s.ttl false false with
    | .error x => .error x
    | .ok (h, t, ws) => match tail s.o f ws with
      | .error x => .error x
      | .ok (ty, d) => .ok (h, ⟨n, ty, t, d⟩)
/-- is an entry a directive? -/
def isDir (bl : Bool) (x : Tk.Wd) : Bool := !bl && (match kw x with
  | c :: _ => c == 36
  | [] => false)
def directive (s : S) (k : Tk.Wd) : List Tk.Wd → Ans S
  | [x] => if kw k = [36, 111, 114, 105, 103, 105, 110] then (match name s.o x with
      | some n => .ok { s with o := n }
      | none => .error (at_ k 94))
    else if kw k = [36, 116, 116, 108] then (match num x with
      | some v => if v ≤ 2147483647 then .ok { s with ttl := v, fx := true } else .error (at_ k 94)
      | none => .error (at_ k 94))
    else .error (at_ k 94)
  | _ => .error (at_ k 94)
def entry (s : S) (bl : Bool) (x : Tk.Wd) (r : List Tk.Wd) : Ans S :=
  if isDir bl x then directive s x r
  else if s.recs.length = 4096 then .error (at_ x 2)
  else match record s x bl (x :: r) with
    | .error e => .error e
    | .ok (h, c) => .ok { s with ttl := h, recs := s.recs ++ [c] }
def entries : S → List Tk.En → Ans S
  | s, [] => .ok s
  | s, e :: r => match e.words with
    | [] => .error ⟨0, 0, 0⟩
    | x :: ws => match entry s e.blank x ws with
      | .error e => .error e
      | .ok s => entries s r
end Go.Proofs.YtgcaephfhfkjcaaGreatDoor.Ma
namespace Go.Proofs.YtgcaephfhfkjcaaGreatDoor
open Go.RowKit

set_option maxRecDepth 100000 in
theorem isBlank_any (c : UInt8) (w : World) : Calls Tryz.prog 109 #[.int .u8 (c.toNat : Int)] w fun e w' => e = .returned (.bool (Tk.blank c)) ∧ w' = w := by
  have h8 := c.toNat_lt
  have HB : Hid (Tk.blank c = (((c.toNat : Int) == 32) || ((c.toNat : Int) == 9) || ((c.toNat : Int) == 13))) := by
    unfold Hid Tk.blank
    congr 1
    · congr 1 <;> (rw [Bool.eq_iff_iff]; simp; omega)
    · rw [Bool.eq_iff_iff]; simp; omega
  rw [HB.out]
  by_cases h1 : ((c.toNat : Int) == 32) = true
  · rw [h1]
    go_enter Tryz.func109, Tryz.ntmps109
    go_wp2
    go_ret
    exact ⟨rfl, rfl⟩
  · simp only [Bool.not_eq_true] at h1
    by_cases h2 : ((c.toNat : Int) == 9) = true
    · rw [h1, h2]
      go_enter Tryz.func109, Tryz.ntmps109
      go_wp2
      go_ret
      exact ⟨rfl, rfl⟩
    · simp only [Bool.not_eq_true] at h2
      rw [h1, h2]
      go_enter Tryz.func109, Tryz.ntmps109
      go_wp2
      go_ret
      exact ⟨rfl, rfl⟩
set_option maxRecDepth 100000 in
theorem endsBare_any (c : UInt8) (w : World) : Calls Tryz.prog 85 #[.int .u8 (c.toNat : Int)] w fun e w' => e = .returned (.bool (Tk.ends c)) ∧ w' = w := by
  have h8 := c.toNat_lt
  have key : ∀ n : Nat, c.toNat = n → n = 10 ∨ n = 59 ∨ n = 40 ∨ n = 41 ∨ n = 34 → Calls Tryz.prog 85 #[.int .u8 (n : Int)] w fun e w' => e = .returned (.bool true) ∧ w' = w := by
    intro n _ h
    rcases h with rfl | rfl | rfl | rfl | rfl <;>
    · go_enter Tryz.func85, Tryz.ntmps85
      go_wp2
      go_ret
      exact ⟨rfl, rfl⟩
  by_cases h : c.toNat = 10 ∨ c.toNat = 59 ∨ c.toNat = 40 ∨ c.toNat = 41 ∨ c.toNat = 34
  · have : Tk.ends c = true := by
      unfold Tk.ends
      rcases h with h | h | h | h | h <;> simp [h]
    rw [this]
    exact key _ rfl h
  · have e : Tk.ends c = Tk.blank c := by
      unfold Tk.ends
      have h1 : (c.toNat == 10) = false := beq_eq_false_iff_ne.2 (by omega)
      have h2 : (c.toNat == 59) = false := beq_eq_false_iff_ne.2 (by omega)
      have h3 : (c.toNat == 40) = false := beq_eq_false_iff_ne.2 (by omega)
      have h4 : (c.toNat == 41) = false := beq_eq_false_iff_ne.2 (by omega)
      have h5 : (c.toNat == 34) = false := beq_eq_false_iff_ne.2 (by omega)
      rw [h1, h2, h3, h4, h5]
      rfl
    rw [e]
    have h1 : ((c.toNat : Int) == 10) = false := beq_eq_false_iff_ne.2 (by omega)
    have h2 : ((c.toNat : Int) == 59) = false := beq_eq_false_iff_ne.2 (by omega)
    have h3 : ((c.toNat : Int) == 40) = false := beq_eq_false_iff_ne.2 (by omega)
    have h4 : ((c.toNat : Int) == 41) = false := beq_eq_false_iff_ne.2 (by omega)
    have h5 : ((c.toNat : Int) == 34) = false := beq_eq_false_iff_ne.2 (by omega)
    clear e h
    go_enter Tryz.func85, Tryz.ntmps85
    go_wp2_with (go_at_call 109; refine (isBlank_any c _).mono ?_; rintro e w1 ⟨rfl, rfl⟩)
    go_ret
    exact ⟨rfl, rfl⟩

/-- the lexer's cells. -/
def lxc (s : ByteArray) (at_ line lineAt dep fl fc : Nat) (bl : Bool) (el : Nat) (vw ve : Value) : Array Value :=
  #[.string s, .int .i64 at_, .int .i64 line, .int .i64 lineAt, .int .i64 dep, .int .i64 fl, .int .i64 fc, .bool bl, .int .i64 el, vw, ve]
/-- the byte that comes next. -/
def nb (s : ByteArray) (at_ : Nat) : UInt8 := s.data.toList.getD at_ 10

set_option maxRecDepth 100000 in
theorem atEnd_any (s : ByteArray) (at_ line lineAt dep fl fc : Nat) (bl : Bool) (el : Nat) (vw ve : Value) (g : Nat) (w : World) (h : Has w g 103 (lxc s at_ line lineAt dep fl fc bl el vw ve)) :
    Calls Tryz.prog 83 #[.pointer (some ⟨g, 0, none⟩)] w fun e w' => e = .returned (.bool ((at_ : Int) == (s.size : Int))) ∧ ∃ n, w' = w.drewN n := by
  have H0 : w.cell? ⟨g, 0, none⟩ = some (.string s) := h.cell 0
  have H1 : w.cell? ⟨g, 1, none⟩ = some (.int .i64 at_) := h.cell 1
  clear h
  go_enter Tryz.func83, Tryz.ntmps83
  go_wp2
  go_quiet (fail)
  go_wp2
  go_ret
  exact ⟨rfl, _, rfl⟩

set_option maxRecDepth 100000 in
theorem next_any (s : ByteArray) (at_ line lineAt dep fl fc : Nat) (bl : Bool) (el : Nat) (vw ve : Value) (g : Nat) (w : World) (h : Has w g 103 (lxc s at_ line lineAt dep fl fc bl el vw ve)) (hat : at_ ≤ s.size) :
    Calls Tryz.prog 82 #[.pointer (some ⟨g, 0, none⟩)] w fun e w' => e = .returned (.int .u8 ((nb s at_).toNat : Int)) ∧ ∃ n, w' = w.drewN n := by
  have HE := Lib.hid (fun W (hW : Has W g 103 (lxc s at_ line lineAt dep fl fc bl el vw ve)) => atEnd_any s at_ line lineAt dep fl fc bl el vw ve g W hW)
  have H := Lib.hid h
  clear h
  by_cases he : at_ = s.size
  · have hq : ((at_ : Int) == (s.size : Int)) = true := beq_iff_eq.2 (by omega)
    rw [hq] at HE
    have HN : Hid ((nb s at_).toNat = 10) := by
      unfold Hid nb
      rw [List.getD_eq_getElem?_getD, List.getElem?_eq_none (by simp [he])]
      rfl
    rw [HN.out]
    clear hat hq he
    go_enter Tryz.func82, Tryz.ntmps82
    go_wp2_with (go_at_call 83; refine (HE.out _ H.out).mono ?_; rintro e w1 ⟨rfl, n, rfl⟩)
    go_ret
    exact ⟨rfl, _, rfl⟩
  · have hq : ((at_ : Int) == (s.size : Int)) = false := beq_eq_false_iff_ne.2 (by omega)
    rw [hq] at HE
    have hlt : at_ < s.size := by omega
    have HN : Hid (nb s at_ = s[at_]) := by
      unfold Hid nb
      rw [List.getD_eq_getElem?_getD, List.getElem?_eq_getElem (by simpa using hlt)]
      rfl
    rw [HN.out]
    clear hat hq he
    have H0 : Hid (∀ n, (w.drewN n).cell? ⟨g, 0, none⟩ = some (.string s)) := fun n => H.out.cell 0
    have H1 : Hid (∀ n, (w.drewN n).cell? ⟨g, 1, none⟩ = some (.int .i64 at_)) := fun n => H.out.cell 1
    go_enter Tryz.func82, Tryz.ntmps82
    go_wp2_with (go_at_call 83; refine (HE.out _ H.out).mono ?_; rintro e w1 ⟨rfl, n, rfl⟩; have H0' := H0.out n; have H1' := H1.out n; generalize hW : w.drewN n = W at *; have HW := Lib.hid hW; clear hW)
    go_quiet (fail)
    go_wp2
    go_ret
    exact ⟨rfl, n + _, by rw [← HW.out, World.drewN_drewN]⟩
end Go.Proofs.YtgcaephfhfkjcaaGreatDoor
