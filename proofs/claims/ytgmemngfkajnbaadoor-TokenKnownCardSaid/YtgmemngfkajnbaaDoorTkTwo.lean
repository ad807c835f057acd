/- Pure: what the document's answer comes to (each byte's kind first, then words and entries): the same. -/
import Derived.Test.YtgmemngfkajnbaaDoorTkPure
namespace Go.Proofs.YtgmemngfkajnbaaDoor.Tk

def adv (p : Nat × Nat) (c : UInt8) : Nat × Nat := if c.toNat = 10 then (p.1 + 1, 1) else (p.1, p.2 + 1)
def advs (p : Nat × Nat) (l : By) : Nat × Nat := l.foldl adv p
theorem advs_nil (p : Nat × Nat) : advs p [] = p := rfl
theorem advs_cons (p : Nat × Nat) (c : UInt8) (l : By) : advs p (c :: l) = advs (adv p c) l := rfl
theorem advs_append (p : Nat × Nat) (a b : By) : advs p (a ++ b) = advs (advs p a) b := List.foldl_append
def noLf (l : By) : Prop := ∀ c ∈ l, c.toNat ≠ 10
theorem advs_noLf : ∀ (l : By) (p : Nat × Nat), noLf l → advs p l = (p.1, p.2 + l.length)
  | [], p, _ => rfl
  | c :: r, p, h => by
    rw [advs_cons, adv, if_neg (h c (by simp)), advs_noLf r _ (fun d hd => h d (by simp [hd]))]
    simp; omega

def Pc.raw : Pc → By
  | .ch c => [c]
  | .rem b => b
  | .bare b => b
  | .quo b => 34 :: b ++ [34]
  | .bad b => b
def raws (ps : List Pc) : By := (ps.map Pc.raw).flatten
theorem raws_nil : raws [] = [] := rfl
theorem raws_cons (p : Pc) (ps : List Pc) : raws (p :: ps) = p.raw ++ raws ps := by simp [raws]
def Pc.wf : Pc → Prop
  | .ch c => ends c = true ∧ c.toNat ≠ 59 ∧ c.toNat ≠ 34
  | .rem b => noLf b ∧ ∃ r, b = 59 :: r
  | .bare b => noLf b ∧ ∃ c r, b = c :: r ∧ ends c = false
  | .quo b => noLf b
  | .bad b => ∃ r, b = 34 :: r ∧ quoLen r = none
theorem ends_lf {c : UInt8} (h : ends c = false) : c.toNat ≠ 10 := fun e => by simp [ends, e] at h
theorem bare_noLf : ∀ (l : By), noLf (l.take (bareLen l)) := by
  intro l
  induction l using bareLen.induct with
  | case1 => simp [noLf]
  | case2 c h => simp [noLf, bareLen, h]
  | case3 c h => simp only [Bool.not_eq_true] at h; simp [noLf, bareLen, h, ends_lf h]
  | case4 c d r h => simp [noLf, bareLen, h]
  | case5 c d r h1 h2 ih =>
    simp only [Bool.not_eq_true] at h1
    rw [bareLen, if_neg (by simp [h1]), if_pos h2]
    intro x hx
    rw [show 2 + bareLen r = bareLen r + 1 + 1 by omega, List.take_succ_cons, List.take_succ_cons] at hx
    simp only [List.mem_cons] at hx
    rcases hx with rfl | rfl | hx
    · omega
    · exact h2.2
    · exact ih x hx
  | case6 c d r h1 h2 ih =>
    simp only [Bool.not_eq_true] at h1
    rw [bareLen, if_neg (by simp [h1]), if_neg h2]
    intro x hx
    rw [show 1 + bareLen (d :: r) = bareLen (d :: r) + 1 by omega, List.take_succ_cons] at hx
    simp only [List.mem_cons] at hx
    rcases hx with rfl | hx
    · exact ends_lf h1
    · exact ih x hx
theorem quo_noLf : ∀ (l : By) (k : Nat), quoLen l = some k → noLf (l.take k) ∧ l.drop k = 34 :: l.drop (k + 1) := by
  intro l
  induction l using quoLen.induct with
  | case1 => intro k h; simp [quoLen] at h
  | case2 c h =>
    intro k hk
    simp [quoLen, h] at hk
    subst hk
    exact ⟨by simp [noLf], by simp; exact UInt8.toNat_inj.1 h⟩
  | case3 c h => intro k hk; simp [quoLen, h] at hk
  | case4 c d r h => intro k hk; simp [quoLen, h] at hk
  | case5 c d r h1 h2 =>
    intro k hk
    simp [quoLen, h2] at hk
    subst hk
    exact ⟨by simp [noLf], by simp; exact UInt8.toNat_inj.1 h2⟩
  | case6 c d r h1 h2 h3 ih =>
    intro k hk
    rw [quoLen, if_neg h1, if_neg h2, if_pos h3] at hk
    rcases hq : quoLen r with _ | j
    · rw [hq] at hk; cases hk
    · rw [hq] at hk
      simp at hk
      subst hk
      obtain ⟨ha, hb⟩ := ih j hq
      refine ⟨?_, ?_⟩
      · intro x hx
        rw [show 2 + j = j + 1 + 1 by omega, List.take_succ_cons, List.take_succ_cons] at hx
        simp only [List.mem_cons] at hx
        rcases hx with rfl | rfl | hx
        · exact h1
        · exact h3.2
        · exact ha x hx
      · rw [show 2 + j = j + 1 + 1 by omega, List.drop_succ_cons, List.drop_succ_cons, List.drop_succ_cons, List.drop_succ_cons]
        exact hb
  | case7 c d r h1 h2 h3 ih =>
    intro k hk
    rw [quoLen, if_neg h1, if_neg h2, if_neg h3] at hk
    rcases hq : quoLen (d :: r) with _ | j
    · rw [hq] at hk; cases hk
    · rw [hq] at hk
      simp at hk
      subst hk
      obtain ⟨ha, hb⟩ := ih j hq
      refine ⟨?_, ?_⟩
      · intro x hx
        rw [show 1 + j = j + 1 by omega, List.take_succ_cons] at hx
        simp only [List.mem_cons] at hx
        rcases hx with rfl | hx
        · exact h1
        · exact ha x hx
      · rw [show 1 + j = j + 1 by omega, List.drop_succ_cons, List.drop_succ_cons]
        exact hb
theorem rem_noLf : ∀ (l : By), noLf (l.take (remLen l))
  | [] => by simp [noLf]
  | c :: r => by
    have ih := rem_noLf r
    rw [remLen]
    split
    · simp [noLf]
    · rename_i h
      rw [show 1 + remLen r = remLen r + 1 by omega, List.take_succ_cons]
      intro x hx
      simp only [List.mem_cons] at hx
      rcases hx with rfl | hx
      · exact h
      · exact ih x hx
/-- a text is its pieces, one behind the other. -/
theorem lx_all : ∀ (n : Nat) (l : By), l.length ≤ n → raws (lx l) = l ∧ ∀ p ∈ lx l, p.wf := by
  intro n
  induction n with
  | zero =>
    intro l h
    obtain rfl : l = [] := List.eq_nil_of_length_eq_zero (by omega)
    exact ⟨rfl, by simp [lx_nil]⟩
  | succ n ih =>
    intro l h
    rcases l with _ | ⟨c, r⟩
    · exact ⟨rfl, by simp [lx_nil]⟩
    simp only [List.length_cons] at h
    by_cases h1 : c.toNat = 59
    · obtain ⟨ha, hb⟩ := ih (r.drop (remLen r)) (by simp; omega)
      rw [lx_rem h1, raws_cons, ha]
      refine ⟨by simp [Pc.raw], ?_⟩
      intro p hp
      rcases List.mem_cons.1 hp with rfl | hp
      · refine ⟨?_, _, by rw [show c = 59 from UInt8.toNat_inj.1 h1]⟩
        intro x hx
        rcases List.mem_cons.1 hx with rfl | hx
        · omega
        · exact rem_noLf r x hx
      · exact hb p hp
    by_cases h2 : c.toNat = 34
    · rcases hq : quoLen r with _ | k
      · rw [lx_bad h2 hq]
        refine ⟨by simp [raws, Pc.raw], ?_⟩
        intro p hp
        simp only [List.mem_singleton] at hp
        subst hp
        exact ⟨r, by rw [show c = 34 from UInt8.toNat_inj.1 h2], hq⟩
      · obtain ⟨ha, hb⟩ := ih (r.drop (k + 1)) (by simp; omega)
        obtain ⟨hc, hd⟩ := quo_noLf r k hq
        rw [lx_quo h2 hq, raws_cons, ha]
        refine ⟨?_, ?_⟩
        · simp only [Pc.raw, List.append_assoc, List.cons_append, List.nil_append]
          rw [← hd, List.take_append_drop, show c = 34 from UInt8.toNat_inj.1 h2]
        · intro p hp
          rcases List.mem_cons.1 hp with rfl | hp
          · exact hc
          · exact hb p hp
    by_cases h3 : ends c = true
    · obtain ⟨ha, hb⟩ := ih r (by omega)
      rw [lx_ch h1 h2 h3, raws_cons, ha]
      refine ⟨rfl, ?_⟩
      intro p hp
      rcases List.mem_cons.1 hp with rfl | hp
      · exact ⟨h3, h1, h2⟩
      · exact hb p hp
    · have h3 : ends c = false := by simpa using h3
      have hpos := bareLen_pos (r := r) h3
      obtain ⟨ha, hb⟩ := ih ((c :: r).drop (bareLen (c :: r))) (by simp only [List.length_drop, List.length_cons]; omega)
      rw [lx_bare h3, raws_cons, ha]
      refine ⟨by simp only [Pc.raw, List.take_append_drop], ?_⟩
      intro p hp
      rcases List.mem_cons.1 hp with rfl | hp
      · refine ⟨bare_noLf _, c, r.take (bareLen (c :: r) - 1), ?_, h3⟩
        obtain ⟨k, hk⟩ : ∃ k, bareLen (c :: r) = k + 1 := ⟨_, (Nat.sub_add_cancel hpos).symm⟩
        rw [hk, List.take_succ_cons, Nat.add_sub_cancel]
      · exact hb p hp
theorem raws_lx (l : By) : raws (lx l) = l := (lx_all _ l (Nat.le_refl _)).1
theorem lx_wf (l : By) : ∀ p ∈ lx l, p.wf := (lx_all _ l (Nat.le_refl _)).2

inductive Ks where
  | err (at_ e : Nat)
  | ok (ks : List Nat)
def kin : List Pc → Nat → List Nat → List Nat → Ks
  | [], _, o, acc => match o with
    | [] => .ok acc
    | a :: _ => .err a eParen
  | .bad _ :: _, p, _, _ => .err p eQuote
  | .ch c :: ps, p, o, acc =>
    if c.toNat = 10 ∧ o = [] then kin ps (p + 1) o (acc ++ [2])
    else if c.toNat = 40 then kin ps (p + 1) (o ++ [p]) (acc ++ [1])
    else if c.toNat = 41 then if o = [] then .err p eParen else kin ps (p + 1) o.dropLast (acc ++ [1])
    else kin ps (p + 1) o (acc ++ [1])
  | .rem b :: ps, p, o, acc => kin ps (p + b.length) o (acc ++ List.replicate b.length 1)
  | .bare b :: ps, p, o, acc => kin ps (p + b.length) o (acc ++ 3 :: List.replicate (b.length - 1) 4)
  | .quo b :: ps, p, o, acc => kin ps (p + (b.length + 2)) o (acc ++ 5 :: List.replicate (b.length + 1) 4)

structure Qs where
  line : Nat
  col : Nat
  beg : Bool
  bl : Bool
  el : Nat
  ws : List Wd
  es : List En
def Qs.done (x : Qs) : List En := if x.ws = [] then x.es else x.es ++ [⟨x.bl, x.el, x.ws⟩]
/-- a word's further bytes. -/
def mo (r : List (UInt8 × Nat)) : By := (r.takeWhile (·.2 == 4)).map (·.1)
def Qs.begin (x : Qs) (c : UInt8) : Qs := if x.beg then { x with beg := false, bl := blank c, el := x.line, ws := [] } else x
def Qs.word (x : Qs) (c : UInt8) (k : Nat) (m : By) : Qs :=
  if k = 3 then { x with ws := x.ws ++ [⟨c :: m, false, x.line, x.col⟩] }
  else if k = 5 then { x with ws := x.ws ++ [⟨m.dropLast, true, x.line, x.col⟩] } else x
def Qs.stop (x : Qs) (k : Nat) : Qs := if k = 2 then { x with es := x.done, beg := true, bl := false, el := 0, ws := [] } else x
def Qs.adv (x : Qs) (c : UInt8) : Qs := { x with line := (Tk.adv (x.line, x.col) c).1, col := (Tk.adv (x.line, x.col) c).2 }
def Qs.step (x : Qs) (c : UInt8) (k : Nat) (m : By) : Qs := (((x.begin c).word c k m).stop k).adv c
def p2 : List (UInt8 × Nat) → Qs → List En
  | [], x => x.done
  | (c, k) :: r, x => p2 r (x.step c k (mo r))

/-- a piece's further bytes change the place alone. -/
theorem p2_more (k : Nat) (hk : k = 1 ∨ k = 4) : ∀ (b : By) (r : List (UInt8 × Nat)) (x : Qs), x.beg = false → p2 (b.zip (List.replicate b.length k) ++ r) x = p2 r { x with line := (advs (x.line, x.col) b).1, col := (advs (x.line, x.col) b).2 }
  | [], r, x, _ => rfl
  | c :: b, r, x, h => by
    have hs : x.step c k (mo (b.zip (List.replicate b.length k) ++ r)) = x.adv c := by
      unfold Qs.step Qs.begin Qs.word Qs.stop
      rcases hk with rfl | rfl <;> simp [h]
    rw [List.length_cons, List.replicate_succ, List.zip_cons_cons, List.cons_append, p2, hs, p2_more k hk b r (x.adv c) h]
    rfl
theorem mo_rep (b : By) (r : List (UInt8 × Nat)) (h : mo r = []) : mo (b.zip (List.replicate b.length 4) ++ r) = b := by
  unfold mo at h ⊢
  induction b with
  | nil => exact h
  | cons c b ih =>
    rw [List.length_cons, List.replicate_succ, List.zip_cons_cons, List.cons_append, List.takeWhile_cons]
    simp [ih]
/-- no piece begins with a further byte. -/
theorem kin_head : ∀ (ps : List Pc) (p : Nat) (o acc ks : List Nat), kin ps p o acc = .ok ks → (∀ q ∈ ps, q.wf) → ∃ k2, ks = acc ++ k2 ∧ k2.length = (raws ps).length ∧ mo ((raws ps).zip k2) = []
  | [], p, o, acc, ks, h, _ => by
    rcases o with _ | ⟨a, o⟩
    · simp [kin] at h
      exact ⟨[], by simp [h], rfl, rfl⟩
    · simp [kin] at h
  | .bad b :: ps, p, o, acc, ks, h, _ => by simp [kin] at h
  | .ch c :: ps, p, o, acc, ks, h, hw => by
    have hw' : ∀ q ∈ ps, q.wf := fun q hq => hw q (by simp [hq])
    have go : ∀ (k : Nat) (o' : List Nat), k ≠ 4 → kin ps (p + 1) o' (acc ++ [k]) = .ok ks → ∃ k2, ks = acc ++ k2 ∧ k2.length = (raws (.ch c :: ps)).length ∧ mo ((raws (.ch c :: ps)).zip k2) = [] := by
      intro k o' hk h
      obtain ⟨k2, rfl, hl, _⟩ := kin_head ps _ _ _ _ h hw'
      refine ⟨k :: k2, by simp, by simp [raws_cons, Pc.raw, hl], ?_⟩
      simp [raws_cons, Pc.raw, mo, hk]
    rw [kin] at h
    split at h
    · exact go 2 _ (by omega) h
    split at h
    · exact go 1 _ (by omega) h
    split at h
    · split at h
      · cases h
      · exact go 1 _ (by omega) h
    · exact go 1 _ (by omega) h
  | .rem b :: ps, p, o, acc, ks, h, hw => by
    obtain ⟨_, r, rfl⟩ := hw (.rem b) (by simp)
    rw [kin] at h
    obtain ⟨k2, rfl, hl, _⟩ := kin_head ps _ _ _ _ h (fun q hq => hw q (by simp [hq]))
    refine ⟨_, List.append_assoc _ _ _, by simp [raws_cons, Pc.raw, hl]; omega, ?_⟩
    simp [raws_cons, Pc.raw, mo, List.replicate_succ]
  | .bare b :: ps, p, o, acc, ks, h, hw => by
    obtain ⟨_, c, r, rfl, _⟩ := hw (.bare b) (by simp)
    rw [kin] at h
    obtain ⟨k2, rfl, hl, _⟩ := kin_head ps _ _ _ _ h (fun q hq => hw q (by simp [hq]))
    refine ⟨_, List.append_assoc _ _ _, by simp [raws_cons, Pc.raw, hl], ?_⟩
    simp [raws_cons, Pc.raw, mo]
  | .quo b :: ps, p, o, acc, ks, h, hw => by
    rw [kin] at h
    obtain ⟨k2, rfl, hl, _⟩ := kin_head ps _ _ _ _ h (fun q hq => hw q (by simp [hq]))
    refine ⟨_, List.append_assoc _ _ _, by simp [raws_cons, Pc.raw, hl]; omega, ?_⟩
    simp [raws_cons, Pc.raw, mo]
/-- a state by pieces and a state by bytes that are one. -/
def Agree (s : St) (x : Qs) (l : By) : Prop :=
  x.line = s.line ∧ x.col = s.col ∧ x.es = s.es ∧ (if x.beg then s.ws = [] ∧ s.el = s.line ∧ s.bl = hb l ∧ x.ws = [] else x.ws = s.ws ∧ x.el = s.el ∧ x.bl = s.bl)
/-- behind its first byte's begin. -/
theorem Agree.begun {s : St} {x : Qs} {c : UInt8} {l : By} (h : Agree s x (c :: l)) : x.begin c = ⟨s.line, s.col, false, s.bl, s.el, s.ws, s.es⟩ := by
  obtain ⟨h1, h2, h3, h4⟩ := h
  unfold Qs.begin
  split
  · rename_i hb'
    rw [if_pos hb'] at h4
    obtain ⟨ha, hc, hd, _⟩ := h4
    rw [h1, h2, h3, ha, hc, hd]
    rfl
  · rename_i hb'
    rw [if_neg hb'] at h4
    obtain ⟨ha, hc, hd⟩ := h4
    obtain ⟨_, _, xb, _, _, _, _⟩ := x
    simp only [Bool.not_eq_true] at hb'
    simp only at h1 h2 h3 ha hc hd hb'
    subst h1 h2 h3 ha hc hd hb'
    rfl
theorem Agree.fin {s : St} {x : Qs} (h : Agree s x []) : x.done = s.done := by
  obtain ⟨h1, h2, h3, h4⟩ := h
  unfold Qs.done St.done
  split at h4
  · obtain ⟨ha, hc, hd, he⟩ := h4
    rw [if_pos he, if_pos ha, h3]
  · obtain ⟨ha, hc, hd⟩ := h4
    rw [ha, hc, hd, h3]
theorem agree_of (line col : Nat) (bl : Bool) (el dep fl fc : Nat) (ws : List Wd) (es : List En) (l : By) : Agree ⟨line, col, dep, fl, fc, bl, el, ws, es⟩ ⟨line, col, false, bl, el, ws, es⟩ l :=
  ⟨rfl, rfl, rfl, rfl, rfl, rfl⟩

theorem hp_raws {ps : List Pc} (hw : ∀ q ∈ ps, q.wf) : hp ps = hb (raws ps) := by
  rcases ps with _ | ⟨p, ps⟩
  · rfl
  have h := hw p (by simp)
  rw [raws_cons]
  cases p with
  | ch c => rfl
  | rem b =>
    obtain ⟨_, r, rfl⟩ := h
    rfl
  | bare b =>
    obtain ⟨_, c, r, rfl, hc⟩ := h
    have : blank c = false := by
      rcases hb' : blank c with _ | _
      · rfl
      · rw [blank_ends hb'] at hc; cases hc
    simp [hp, Pc.raw, hb, this]
  | quo b => rfl
  | bad b =>
    obtain ⟨r, rfl, _⟩ := h
    rfl
theorem noLf_dropLast (b : By) (d : UInt8) : (b ++ [d]).dropLast = b := by simp

/-- what the two come to is one: pre is what lies behind. -/
theorem kin_play : ∀ (ps : List Pc) (pre : By) (o acc : List Nat) (s : St) (t : By), t = pre ++ raws ps → (∀ q ∈ ps, q.wf) → advs (1, 1) pre = (s.line, s.col) → o.length = s.dep → (∀ a r, o = a :: r → a ≤ pre.length ∧ advs (1, 1) (t.take a) = (s.fl, s.fc)) →
    match kin ps pre.length o acc with
    | .err a e => a ≤ t.length ∧ play ps s = .err (advs (1, 1) (t.take a)).1 (advs (1, 1) (t.take a)).2 e
    | .ok ks => ∃ k2, ks = acc ++ k2 ∧ k2.length = (raws ps).length ∧ ∀ x, Agree s x (raws ps) → play ps s = .ok (p2 ((raws ps).zip k2) x)
  | [], pre, o, acc, s, t, ht, hw, hs, ho, hf => by
    rcases o with _ | ⟨a, r⟩
    · simp only [kin]
      refine ⟨[], by simp, rfl, fun x hx => ?_⟩
      rw [play, if_pos (by simpa using ho.symm)]
      exact congrArg Rs.ok (hx.fin).symm
    · simp only [kin]
      obtain ⟨h1, h2⟩ := hf a r rfl
      rw [h2]
      subst ht
      refine ⟨by simp [raws_nil]; omega, ?_⟩
      rw [play, if_neg (by rw [← ho]; simp)]
  | .bad b :: ps, pre, o, acc, s, t, ht, hw, hs, ho, hf => by
    simp only [kin]
    subst ht
    rw [List.take_left' rfl, hs, play]
    exact ⟨by simp, rfl⟩
  | .ch c :: ps, pre, o, acc, s, t, ht, hw, hs, ho, hf => by
    have hw' : ∀ q ∈ ps, q.wf := fun q hq => hw q (by simp [hq])
    have ht' : t = (pre ++ [c]) ++ raws ps := by rw [ht, raws_cons]; simp [Pc.raw]
    have hl' : (pre ++ [c]).length = pre.length + 1 := by simp
    have hs' : advs (1, 1) (pre ++ [c]) = adv (s.line, s.col) c := by rw [advs_append, hs]; rfl
    -- the step, whatever it is
    have step : ∀ (k : Nat) (o' : List Nat) (s' : St), k = 1 ∨ k = 2 → advs (1, 1) (pre ++ [c]) = (s'.line, s'.col) → o'.length = s'.dep →
        (∀ a r, o' = a :: r → a ≤ pre.length + 1 ∧ advs (1, 1) (t.take a) = (s'.fl, s'.fc)) →
        play (.ch c :: ps) s = play ps s' →
        (∀ x, Agree s x (raws (.ch c :: ps)) → Agree s' (x.step c k []) (raws ps)) →
        match kin ps (pre.length + 1) o' (acc ++ [k]) with
        | .err a e => a ≤ t.length ∧ play (.ch c :: ps) s = .err (advs (1, 1) (t.take a)).1 (advs (1, 1) (t.take a)).2 e
        | .ok ks => ∃ k2, ks = acc ++ k2 ∧ k2.length = (raws (.ch c :: ps)).length ∧ ∀ x, Agree s x (raws (.ch c :: ps)) → play (.ch c :: ps) s = .ok (p2 ((raws (.ch c :: ps)).zip k2) x) := by
      intro k o' s' hk h1 h2 h3 h4 h5
      have ih := kin_play ps (pre ++ [c]) o' (acc ++ [k]) s' t ht' hw' h1 h2 (fun a r e => by rw [hl']; exact h3 a r e)
      rw [hl'] at ih
      rw [h4]
      generalize hq : kin ps (pre.length + 1) o' (acc ++ [k]) = q at ih ⊢
      cases q with
      | err a e => exact ih
      | ok ks =>
        obtain ⟨k2, rfl, hl, hx⟩ := ih
        obtain ⟨k3, e3, hl3, hmo⟩ := kin_head _ _ _ _ _ hq hw'
        obtain rfl : k2 = k3 := List.append_cancel_left e3
        refine ⟨k :: k2, by simp, by simp [raws_cons, Pc.raw, hl], fun x hax => ?_⟩
        rw [hx _ (h5 x hax)]
        show _ = Rs.ok (p2 ((c, k) :: (raws ps).zip k2) x)
        rw [p2, hmo]
    have plain : ∀ (x : Qs) (k : Nat), Agree s x (raws (.ch c :: ps)) → k = 1 → x.step c k [] = ⟨(adv (s.line, s.col) c).1, (adv (s.line, s.col) c).2, false, s.bl, s.el, s.ws, s.es⟩ := by
      intro x k hx hk
      subst hk
      unfold Qs.step
      rw [raws_cons] at hx
      rw [hx.begun]
      rfl
    by_cases h10 : c.toNat = 10
    · by_cases ho0 : o = []
      · rw [kin, if_pos ⟨h10, ho0⟩]
        subst ho0
        have hd : s.dep = 0 := by simpa using ho.symm
        refine step 2 [] (s.nl (hp ps)) (.inr rfl) ?_ ?_ (fun a r e => by cases e) ?_ ?_
        · rw [hs', adv, if_pos h10, St.nl, if_pos hd]
        · rw [St.nl, if_pos hd]; rfl
        · rw [play, if_pos h10]
        · intro x hx
          rw [raws_cons] at hx
          unfold Qs.step
          rw [hx.begun, St.nl, if_pos hd, hp_raws hw']
          refine ⟨?_, ?_, rfl, ?_⟩
          · show (adv (s.line, s.col) c).1 = _
            rw [adv, if_pos h10]
          · show (adv (s.line, s.col) c).2 = _
            rw [adv, if_pos h10]
          · exact ⟨rfl, rfl, rfl, rfl⟩
      · have hd : s.dep ≠ 0 := by
          rw [← ho]
          intro e
          exact ho0 (List.eq_nil_of_length_eq_zero e)
        rw [kin, if_neg (fun e => ho0 e.2), if_neg (by omega), if_neg (by omega)]
        refine step 1 o (s.nl (hp ps)) (.inl rfl) ?_ ?_ ?_ ?_ ?_
        · rw [hs', adv, if_pos h10, St.nl, if_neg hd]
        · rw [St.nl, if_neg hd]; exact ho
        · intro a r e
          obtain ⟨h1, h2⟩ := hf a r e
          rw [St.nl, if_neg hd]
          exact ⟨by omega, h2⟩
        · rw [play, if_pos h10]
        · intro x hx
          rw [plain x 1 hx rfl, St.nl, if_neg hd, adv, if_pos h10]
          exact agree_of _ _ _ _ _ _ _ _ _ _
    have hadv : adv (s.line, s.col) c = (s.line, s.col + 1) := by rw [adv, if_neg h10]
    by_cases h40 : c.toNat = 40
    · rw [kin, if_neg (fun e => h10 e.1), if_pos h40]
      refine step 1 (o ++ [pre.length]) s.op (.inl rfl) ?_ ?_ ?_ ?_ ?_
      · rw [hs', hadv]; rfl
      · simp [St.op, ho]
      · intro a r e
        rcases o with _ | ⟨a', r'⟩
        · simp only [List.nil_append, List.cons.injEq] at e
          have hd : s.dep = 0 := by simpa using ho.symm
          rw [← e.1]
          refine ⟨by omega, ?_⟩
          rw [ht, List.take_left' rfl, hs]
          simp [St.op, hd]
        · simp only [List.cons_append, List.cons.injEq] at e
          obtain ⟨h1, h2⟩ := hf a' r' rfl
          rw [← e.1]
          have hd : s.dep ≠ 0 := by rw [← ho]; simp
          refine ⟨by omega, ?_⟩
          rw [h2]
          simp [St.op, hd]
      · rw [play, if_neg h10, if_pos h40]
      · intro x hx
        rw [plain x 1 hx rfl, hadv]
        exact agree_of _ _ _ _ _ _ _ _ _ _
    by_cases h41 : c.toNat = 41
    · rw [kin, if_neg (fun e => h10 e.1), if_neg h40, if_pos h41]
      by_cases ho0 : o = []
      · rw [if_pos ho0]
        have hd : s.dep = 0 := by rw [← ho, ho0]; rfl
        simp only
        rw [play, if_neg h10, if_neg h40, if_pos h41, if_pos hd, ht, List.take_left' rfl, hs]
        exact ⟨by simp, rfl⟩
      · rw [if_neg ho0]
        have hd : s.dep ≠ 0 := by
          rw [← ho]
          intro e
          exact ho0 (List.eq_nil_of_length_eq_zero e)
        refine step 1 o.dropLast s.cl (.inl rfl) ?_ ?_ ?_ ?_ ?_
        · rw [hs', hadv]; rfl
        · simp [St.cl, ho]
        · intro a r e
          rcases o with _ | ⟨a', r'⟩
          · cases e
          · obtain ⟨h1, h2⟩ := hf a' r' rfl
            have : a = a' := by
              rcases r' with _ | ⟨b', r''⟩
              · simp at e
              · simp only [List.dropLast_cons_cons, List.cons.injEq] at e
                exact e.1.symm
            subst this
            exact ⟨by omega, h2⟩
        · rw [play, if_neg h10, if_neg h40, if_pos h41, if_neg hd]
        · intro x hx
          rw [plain x 1 hx rfl, hadv]
          exact agree_of _ _ _ _ _ _ _ _ _ _
    · rw [kin, if_neg (fun e => h10 e.1), if_neg h40, if_neg h41]
      refine step 1 o (s.go 1) (.inl rfl) ?_ ho ?_ ?_ ?_
      · rw [hs', hadv]; rfl
      · intro a r e
        obtain ⟨h1, h2⟩ := hf a r e
        exact ⟨by omega, h2⟩
      · rw [play, if_neg h10, if_neg h40, if_neg h41]
      · intro x hx
        rw [plain x 1 hx rfl, hadv]
        exact agree_of _ _ _ _ _ _ _ _ _ _
  | .rem b :: ps, pre, o, acc, s, t, ht, hw, hs, ho, hf => by
    obtain ⟨hn, r, rfl⟩ := hw (.rem b) (by simp)
    have hw' : ∀ q ∈ ps, q.wf := fun q hq => hw q (by simp [hq])
    have hs' : advs (1, 1) (pre ++ (59 :: r)) = (s.line, s.col + (59 :: r).length) := by rw [advs_append, hs, advs_noLf _ _ hn]
    have ih := kin_play ps (pre ++ (59 :: r)) o (acc ++ List.replicate (59 :: r).length 1) (s.go (59 :: r).length) t (by rw [ht, raws_cons]; simp [Pc.raw]) hw' hs' ho (fun a r' e => by
      obtain ⟨h1, h2⟩ := hf a r' e
      exact ⟨by simp; omega, h2⟩)
    rw [show (pre ++ 59 :: r).length = pre.length + (59 :: r).length by simp] at ih
    rw [kin, play]
    generalize hq : kin ps (pre.length + (59 :: r).length) o (acc ++ List.replicate (59 :: r).length 1) = q at ih ⊢
    cases q with
    | err a e => exact ih
    | ok ks =>
      obtain ⟨k2, rfl, hl, hx⟩ := ih
      refine ⟨_, List.append_assoc _ _ _, by simp [raws_cons, Pc.raw, hl]; omega, fun x hax => ?_⟩
      rw [raws_cons] at hax ⊢
      rw [List.zip_append (by simp [Pc.raw])]
      show _ = Rs.ok (p2 ((59, 1) :: (r.zip (List.replicate r.length 1) ++ (raws ps).zip k2)) x)
      have hn' : noLf r := fun d hd => hn d (by simp [hd])
      rw [p2, Qs.step, hax.begun, p2_more 1 (.inl rfl) _ _ _ (by rfl)]
      refine hx _ ?_
      simp only [Qs.word, Qs.stop, Qs.adv, show ¬ (1 = 3) by omega, show ¬ (1 = 5) by omega, show ¬ (1 = 2) by omega, if_false]
      rw [advs_noLf _ _ hn', show adv (s.line, s.col) 59 = (s.line, s.col + 1) by rw [adv, if_neg (by decide)]]
      refine ⟨rfl, ?_, rfl, rfl, rfl, rfl⟩
      show s.col + 1 + r.length = s.col + (r.length + 1)
      omega
  | .bare b :: ps, pre, o, acc, s, t, ht, hw, hs, ho, hf => by
    obtain ⟨hn, c, r, rfl, hc⟩ := hw (.bare b) (by simp)
    have hw' : ∀ q ∈ ps, q.wf := fun q hq => hw q (by simp [hq])
    have hs' : advs (1, 1) (pre ++ (c :: r)) = (s.line, s.col + (c :: r).length) := by rw [advs_append, hs, advs_noLf _ _ hn]
    have ih := kin_play ps (pre ++ (c :: r)) o (acc ++ 3 :: List.replicate ((c :: r).length - 1) 4) (s.put (c :: r) false (c :: r).length) t (by rw [ht, raws_cons]; simp [Pc.raw]) hw' hs' ho (fun a r' e => by
      obtain ⟨h1, h2⟩ := hf a r' e
      exact ⟨by simp; omega, h2⟩)
    rw [show (pre ++ c :: r).length = pre.length + (c :: r).length by simp] at ih
    rw [kin, play]
    generalize hq : kin ps (pre.length + (c :: r).length) o (acc ++ 3 :: List.replicate ((c :: r).length - 1) 4) = q at ih ⊢
    cases q with
    | err a e => exact ih
    | ok ks =>
      obtain ⟨k2, rfl, hl, hx⟩ := ih
      obtain ⟨k3, e3, hl3, hmo⟩ := kin_head _ _ _ _ _ hq hw'
      obtain rfl : k2 = k3 := List.append_cancel_left e3
      refine ⟨_, List.append_assoc _ _ _, by simp [raws_cons, Pc.raw, hl], fun x hax => ?_⟩
      rw [raws_cons] at hax ⊢
      rw [List.zip_append (by simp [Pc.raw])]
      show _ = Rs.ok (p2 ((c, 3) :: (r.zip (List.replicate r.length 4) ++ (raws ps).zip k2)) x)
      have hn' : noLf r := fun d hd => hn d (by simp [hd])
      rw [p2, Qs.step, hax.begun, mo_rep _ _ hmo, p2_more 4 (.inr rfl) _ _ _ (by rfl)]
      refine hx _ ?_
      simp only [Qs.word, Qs.stop, Qs.adv, show ¬ (3 = 2) by omega, if_true, if_false]
      rw [advs_noLf _ _ hn', show adv (s.line, s.col) c = (s.line, s.col + 1) by rw [adv, if_neg (ends_lf hc)]]
      refine ⟨rfl, ?_, rfl, rfl, rfl, rfl⟩
      show s.col + 1 + r.length = s.col + (r.length + 1)
      omega
  | .quo b :: ps, pre, o, acc, s, t, ht, hw, hs, ho, hf => by
    have hn : noLf b := hw (.quo b) (by simp)
    have hw' : ∀ q ∈ ps, q.wf := fun q hq => hw q (by simp [hq])
    have hs' : advs (1, 1) (pre ++ (34 :: b ++ [34])) = (s.line, s.col + (b.length + 2)) := by
      rw [advs_append, hs, advs_noLf]
      · simp
      · intro d hd
        simp only [List.cons_append, List.mem_cons, List.mem_append, List.not_mem_nil, or_false] at hd
        rcases hd with rfl | hd | rfl
        · decide
        · exact hn d hd
        · decide
    have ih := kin_play ps (pre ++ (34 :: b ++ [34])) o (acc ++ 5 :: List.replicate (b.length + 1) 4) (s.put b true (b.length + 2)) t (by rw [ht, raws_cons]; simp [Pc.raw]) hw' hs' ho (fun a r' e => by
      obtain ⟨h1, h2⟩ := hf a r' e
      exact ⟨by simp; omega, h2⟩)
    have hpl : (pre ++ (34 :: b ++ [34])).length = pre.length + (b.length + 2) := by simp
    rw [hpl] at ih
    rw [kin, play]
    generalize hq : kin ps (pre.length + (b.length + 2)) o (acc ++ 5 :: List.replicate (b.length + 1) 4) = q at ih ⊢
    cases q with
    | err a e => exact ih
    | ok ks =>
      obtain ⟨k2, rfl, hl, hx⟩ := ih
      obtain ⟨k3, e3, hl3, hmo⟩ := kin_head _ _ _ _ _ hq hw'
      obtain rfl : k2 = k3 := List.append_cancel_left e3
      refine ⟨_, List.append_assoc _ _ _, by simp [raws_cons, Pc.raw, hl]; omega, fun x hax => ?_⟩
      rw [raws_cons] at hax ⊢
      rw [List.zip_append (by simp [Pc.raw])]
      have hlen : b.length + 1 = (b ++ [34]).length := by simp
      rw [hlen]
      show _ = Rs.ok (p2 ((34, 5) :: ((b ++ [34]).zip (List.replicate (b ++ [34]).length 4) ++ (raws ps).zip k2)) x)
      have hn' : noLf (b ++ [34]) := by
        intro d hd
        simp only [List.mem_append, List.mem_singleton] at hd
        rcases hd with hd | rfl
        · exact hn d hd
        · decide
      rw [p2, Qs.step, hax.begun, mo_rep _ _ hmo, p2_more 4 (.inr rfl) _ _ _ (by rfl)]
      refine hx _ ?_
      simp only [Qs.word, Qs.stop, Qs.adv, show ¬ (5 = 2) by omega, show ¬ (5 = 3) by omega, if_true, if_false, noLf_dropLast]
      rw [advs_noLf _ _ hn', show adv (s.line, s.col) 34 = (s.line, s.col + 1) by rw [adv, if_neg (by decide)]]
      refine ⟨rfl, ?_, rfl, rfl, rfl, rfl⟩
      show s.col + 1 + (b ++ [34]).length = s.col + (b.length + 2)
      simp; omega

/-- the document's answer is what a text tells. -/
theorem kin_tells (t : By) : match kin (lx t) 0 [] [] with
    | .err a e => a ≤ t.length ∧ tells t = .err (advs (1, 1) (t.take a)).1 (advs (1, 1) (t.take a)).2 e
    | .ok ks => ks.length = t.length ∧ tells t = .ok (p2 (t.zip ks) ⟨1, 1, true, false, 0, [], []⟩) := by
  have h := kin_play (lx t) [] [] [] (start t) t (raws_lx t).symm (lx_wf t) rfl rfl (fun a r e => by cases e)
  simp only [List.length_nil] at h
  generalize kin (lx t) 0 [] [] = q at h ⊢
  cases q with
  | err a e => exact h
  | ok ks =>
    obtain ⟨k2, rfl, hl, hx⟩ := h
    rw [raws_lx] at hl hx
    exact ⟨by simpa using hl, hx _ ⟨rfl, rfl, rfl, rfl, rfl, rfl, rfl⟩⟩
end Go.Proofs.YtgmemngfkajnbaaDoor.Tk
