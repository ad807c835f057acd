/- Two texts with a line's end between them. Pure. -/
import Derived.Test.YtbmobaomnfchkaaTkFacts
namespace Go.Proofs.Ytbmobaomnfchkaa.Tk

theorem bareLen_cat (b : By) : ∀ (l : By), bareLen (l ++ 10 :: b) = bareLen l := by
  intro l
  induction l using bareLen.induct with
  | case1 => exact bareLen_end (by decide)
  | case2 c h => rw [List.singleton_append, bareLen_end h]; simp [bareLen, h]
  | case3 c h =>
    simp only [Bool.not_eq_true] at h
    have e : bareLen (c :: 10 :: b) = 1 + bareLen (10 :: b) := by
      conv => lhs; rw [bareLen]
      simp [h]
    rw [List.singleton_append, e, bareLen_end (by decide)]
    simp [bareLen, h]
  | case4 c d r h => rw [List.cons_append, bareLen_end h, bareLen_end h]
  | case5 c d r h1 h2 ih =>
    rw [List.cons_append, List.cons_append, bareLen, if_neg h1, if_pos h2, ih]
    conv => rhs; rw [bareLen, if_neg h1, if_pos h2]
  | case6 c d r h1 h2 ih =>
    rw [List.cons_append, List.cons_append, bareLen, if_neg h1, if_neg h2, ← List.cons_append, ih]
    conv => rhs; rw [bareLen, if_neg h1, if_neg h2]
theorem quoLen_cat (b : By) : ∀ (l : By), quoLen (l ++ 10 :: b) = quoLen l := by
  intro l
  induction l using quoLen.induct with
  | case1 => exact quoLen_lf (by decide)
  | case2 c h => rw [List.singleton_append, quoLen_q h]; simp [quoLen, h]
  | case3 c h =>
    rw [List.singleton_append]
    have e : quoLen [c] = none := by simp [quoLen, h]
    rw [e]
    by_cases h10 : c.toNat = 10
    · exact quoLen_lf h10
    · rw [quoLen, if_neg h10, if_neg h, if_neg (by simp), quoLen_lf (by decide)]
      rfl
  | case4 c d r h => rw [List.cons_append, quoLen_lf h, quoLen_lf h]
  | case5 c d r h1 h2 => rw [List.cons_append, quoLen_q h2, quoLen_q h2]
  | case6 c d r h1 h2 h3 ih =>
    rw [List.cons_append, List.cons_append, quoLen, if_neg h1, if_neg h2, if_pos h3, ih]
    conv => rhs; rw [quoLen, if_neg h1, if_neg h2, if_pos h3]
  | case7 c d r h1 h2 h3 ih =>
    rw [List.cons_append, List.cons_append, quoLen, if_neg h1, if_neg h2, if_neg h3, ← List.cons_append, ih]
    conv => rhs; rw [quoLen, if_neg h1, if_neg h2, if_neg h3]
theorem remLen_cat (b : By) : ∀ (l : By), remLen (l ++ 10 :: b) = remLen l
  | [] => by simp [remLen]
  | c :: r => by rw [List.cons_append, remLen, remLen, remLen_cat b r]
def noBad (ps : List Pc) : Prop := ∀ p ∈ ps, ∀ r, p ≠ .bad r
theorem lx_cat (b : By) : ∀ (n : Nat) (a : By), a.length ≤ n →
    (∃ ps r, lx a = ps ++ [.bad r] ∧ lx (a ++ 10 :: b) = ps ++ [.bad (r ++ 10 :: b)]) ∨ (noBad (lx a) ∧ lx (a ++ 10 :: b) = lx a ++ .ch 10 :: lx b) := by
  intro n
  induction n with
  | zero =>
    intro a h
    obtain rfl : a = [] := List.eq_nil_of_length_eq_zero (by omega)
    refine .inr ⟨(fun p hp => by cases hp), ?_⟩
    rw [List.nil_append, lx_ch (by decide) (by decide) (by decide)]
    rfl
  | succ n ih =>
    intro a h
    rcases a with _ | ⟨c, r⟩
    · refine .inr ⟨(fun p hp => by cases hp), ?_⟩
      rw [List.nil_append, lx_ch (by decide) (by decide) (by decide)]
      rfl
    simp only [List.length_cons] at h
    -- a piece, and the rest
    have go : ∀ (p : Pc) (r' : By), r'.length ≤ n → (∀ x, p ≠ .bad x) → lx (c :: r) = p :: lx r' → lx (c :: (r ++ 10 :: b)) = p :: lx (r' ++ 10 :: b) →
        (∃ ps x, lx (c :: r) = ps ++ [.bad x] ∧ lx (c :: (r ++ 10 :: b)) = ps ++ [.bad (x ++ 10 :: b)]) ∨ (noBad (lx (c :: r)) ∧ lx (c :: (r ++ 10 :: b)) = lx (c :: r) ++ .ch 10 :: lx b) := by
      intro p r' hr hp h1 h2
      rcases ih r' hr with ⟨ps, x, e1, e2⟩ | ⟨e1, e2⟩
      · exact .inl ⟨p :: ps, x, by rw [h1, e1]; rfl, by rw [h2, e2]; rfl⟩
      · refine .inr ⟨?_, by rw [h2, e2, h1]; rfl⟩
        rw [h1]
        intro q hq
        rcases List.mem_cons.1 hq with rfl | hq
        · exact hp
        · exact e1 q hq
    rw [List.cons_append]
    by_cases h1 : c.toNat = 59
    · have hl := remLen_le r
      refine go (.rem (c :: r.take (remLen r))) (r.drop (remLen r)) (by simp; omega) (fun x e => by cases e) (lx_rem h1) ?_
      rw [lx_rem h1, remLen_cat, List.take_append_of_le_length hl, List.drop_append_of_le_length hl]
    by_cases h2 : c.toNat = 34
    · rcases hq : quoLen r with _ | k
      · refine .inl ⟨[], c :: r, by rw [lx_bad h2 hq]; rfl, ?_⟩
        rw [lx_bad h2 (by rw [quoLen_cat, hq])]
        rfl
      · have hl := quoLen_lt r k hq
        refine go (.quo (r.take k)) (r.drop (k + 1)) (by simp; omega) (fun x e => by cases e) (lx_quo h2 hq) ?_
        rw [lx_quo h2 (by rw [quoLen_cat, hq]), List.take_append_of_le_length (by omega), List.drop_append_of_le_length (by omega)]
    by_cases h3 : ends c = true
    · exact go (.ch c) r (by omega) (fun x e => by cases e) (lx_ch h1 h2 h3) (lx_ch h1 h2 h3)
    · have h3 : ends c = false := by simpa using h3
      have hp := bareLen_pos (r := r) h3
      have hl := bareLen_le (c :: r)
      have e := bareLen_cat b (c :: r)
      rw [List.cons_append] at e
      refine go (.bare ((c :: r).take (bareLen (c :: r)))) ((c :: r).drop (bareLen (c :: r))) (by simp only [List.length_drop, List.length_cons]; omega) (fun x e => by cases e) (lx_bare h3) ?_
      rw [lx_bare h3, e, ← List.cons_append, List.take_append_of_le_length hl, List.drop_append_of_le_length hl]

theorem hp_cat (ps : List Pc) (qs : List Pc) : hp (ps ++ .ch 10 :: qs) = hp ps := by
  cases ps with
  | nil => rfl
  | cons p ps => cases p <;> rfl
theorem hp_bad (ps : List Pc) (x y : By) : hp (ps ++ [.bad x]) = hp (ps ++ [.bad y]) := by
  cases ps with
  | nil => rfl
  | cons p ps => cases p <;> rfl
theorem play_bad : ∀ (ps : List Pc) (x y : By) (s : St), play (ps ++ [.bad x]) s = play (ps ++ [.bad y]) s
  | [], _, _, _ => rfl
  | .bad _ :: _, _, _, _ => rfl
  | .ch c :: ps, x, y, s => by
    rw [List.cons_append, List.cons_append, play, play, hp_bad ps x y, play_bad ps x y, play_bad ps x y, play_bad ps x y, play_bad ps x y]
  | .rem b :: ps, x, y, s => by rw [List.cons_append, List.cons_append, play, play, play_bad ps x y]
  | .bare b :: ps, x, y, s => by rw [List.cons_append, List.cons_append, play, play, play_bad ps x y]
  | .quo b :: ps, x, y, s => by rw [List.cons_append, List.cons_append, play, play, play_bad ps x y]
theorem play_nobad : ∀ (ps : List Pc) (s : St) (l c x : Nat), noBad ps → play ps s = .err l c x → x = 81
  | [], s, l, c, x, _, h => by
    rw [play] at h
    split at h
    · cases h
    · cases h; rfl
  | .bad r :: _, s, l, c, x, hn, h => absurd rfl (hn (.bad r) (by simp) r)
  | .ch c' :: ps, s, l, c, x, hn, h => by
    have hn' : noBad ps := fun q hq => hn q (by simp [hq])
    rw [play] at h
    split at h
    · exact play_nobad ps _ _ _ _ hn' h
    split at h
    · exact play_nobad ps _ _ _ _ hn' h
    split at h
    · split at h
      · cases h; rfl
      · exact play_nobad ps _ _ _ _ hn' h
    · exact play_nobad ps _ _ _ _ hn' h
  | .rem b :: ps, s, l, c, x, hn, h => by rw [play] at h; exact play_nobad ps _ _ _ _ (fun q hq => hn q (by simp [hq])) h
  | .bare b :: ps, s, l, c, x, hn, h => by rw [play] at h; exact play_nobad ps _ _ _ _ (fun q hq => hn q (by simp [hq])) h
  | .quo b :: ps, s, l, c, x, hn, h => by rw [play] at h; exact play_nobad ps _ _ _ _ (fun q hq => hn q (by simp [hq])) h
theorem tells_quote {a b : By} {l c : Nat} (h : tells a = .err l c 80) : tells (a ++ 10 :: b) = .err l c 80 := by
  have hs : start (a ++ 10 :: b) = start a := by
    unfold start
    cases a <;> rfl
  rcases lx_cat b _ a (Nat.le_refl _) with ⟨ps, r, e1, e2⟩ | ⟨e1, e2⟩
  · unfold tells at h ⊢
    rw [e2, hs, play_bad ps _ r, ← e1, h]
  · have := play_nobad _ _ _ _ _ e1 h
    cases this

def lfs : By → Nat
  | [] => 0
  | c :: r => (if c.toNat = 10 then 1 else 0) + lfs r
theorem lfs_append : ∀ (a b : By), lfs (a ++ b) = lfs a + lfs b
  | [], b => by simp [lfs]
  | c :: r, b => by rw [List.cons_append, lfs, lfs, lfs_append r b]; omega
theorem lfs_noLf : ∀ (a : By), noLf a → lfs a = 0
  | [], _ => rfl
  | c :: r, h => by rw [lfs, if_neg (h c (by simp)), lfs_noLf r (fun d hd => h d (by simp [hd]))]
/-- what ends well goes on. -/
theorem play_on (qs : List Pc) : ∀ (ps : List Pc) (s : St) (es : List En), (∀ p ∈ ps, p.wf) → play ps s = .ok es →
    ∃ σ : St, σ.dep = 0 ∧ σ.done = es ∧ σ.line = s.line + lfs (raws ps) ∧ play (ps ++ .ch 10 :: qs) s = play qs (σ.nl (hp qs))
  | [], s, es, _, h => by
    rw [play] at h
    split at h
    · rename_i hd
      injection h with h
      exact ⟨s, hd, h, rfl, by rw [List.nil_append, play, if_pos (by decide)]⟩
    · cases h
  | .bad _ :: _, s, es, _, h => by rw [play] at h; cases h
  | .ch c :: ps, s, es, hw, h => by
    have hw' : ∀ p ∈ ps, p.wf := fun q hq => hw q (by simp [hq])
    rw [play] at h
    have hl1 : lfs (raws (.ch c :: ps)) = lfs [c] + lfs (raws ps) := by rw [raws_cons, lfs_append]; rfl
    rw [hl1]
    by_cases h10 : c.toNat = 10
    · rw [if_pos h10] at h
      obtain ⟨σ, a1, a2, a3, a4⟩ := play_on qs ps _ es hw' h
      have hl : (s.nl (hp ps)).line = s.line + 1 := by unfold St.nl; split <;> rfl
      have hc : lfs [c] = 1 := by simp [lfs, h10]
      exact ⟨σ, a1, a2, by rw [a3, hl, hc]; omega, by rw [List.cons_append, play, hp_cat, if_pos h10]; exact a4⟩
    rw [if_neg h10] at h
    have hc : lfs [c] = 0 := by simp [lfs, h10]
    rw [hc, Nat.zero_add]
    by_cases h40 : c.toNat = 40
    · rw [if_pos h40] at h
      obtain ⟨σ, a1, a2, a3, a4⟩ := play_on qs ps s.op es hw' h
      exact ⟨σ, a1, a2, a3, by rw [List.cons_append, play, if_neg h10, if_pos h40]; exact a4⟩
    rw [if_neg h40] at h
    by_cases h41 : c.toNat = 41
    · rw [if_pos h41] at h
      by_cases hd : s.dep = 0
      · rw [if_pos hd] at h; cases h
      · rw [if_neg hd] at h
        obtain ⟨σ, a1, a2, a3, a4⟩ := play_on qs ps s.cl es hw' h
        exact ⟨σ, a1, a2, a3, by rw [List.cons_append, play, if_neg h10, if_neg h40, if_pos h41, if_neg hd]; exact a4⟩
    · rw [if_neg h41] at h
      obtain ⟨σ, a1, a2, a3, a4⟩ := play_on qs ps (s.go 1) es hw' h
      exact ⟨σ, a1, a2, a3, by rw [List.cons_append, play, if_neg h10, if_neg h40, if_neg h41]; exact a4⟩
  | .rem b :: ps, s, es, hw, h => by
    have hn : noLf b := (hw (.rem b) (by simp)).1
    rw [play] at h
    obtain ⟨σ, a1, a2, a3, a4⟩ := play_on qs ps (s.go b.length) es (fun q hq => hw q (by simp [hq])) h
    refine ⟨σ, a1, a2, ?_, by rw [List.cons_append, play]; exact a4⟩
    rw [a3, raws_cons, lfs_append, show (Pc.rem b).raw = b from rfl, lfs_noLf b hn]
    show s.line + _ = _
    omega
  | .bare b :: ps, s, es, hw, h => by
    have hn : noLf b := (hw (.bare b) (by simp)).1
    rw [play] at h
    obtain ⟨σ, a1, a2, a3, a4⟩ := play_on qs ps _ es (fun q hq => hw q (by simp [hq])) h
    refine ⟨σ, a1, a2, ?_, by rw [List.cons_append, play]; exact a4⟩
    rw [a3, raws_cons, lfs_append, show (Pc.bare b).raw = b from rfl, lfs_noLf b hn]
    show s.line + _ = _
    omega
  | .quo b :: ps, s, es, hw, h => by
    have hn : noLf b := hw (.quo b) (by simp)
    rw [play] at h
    obtain ⟨σ, a1, a2, a3, a4⟩ := play_on qs ps _ es (fun q hq => hw q (by simp [hq])) h
    refine ⟨σ, a1, a2, ?_, by rw [List.cons_append, play]; exact a4⟩
    have h0 : lfs (Pc.quo b).raw = 0 := lfs_noLf _ (by
      intro d hd
      simp only [Pc.raw, List.cons_append, List.mem_cons, List.mem_append, List.not_mem_nil, or_false] at hd
      rcases hd with rfl | hd | rfl
      · decide
      · exact hn d hd
      · decide)
    rw [a3, raws_cons, lfs_append, h0]
    show s.line + _ = _
    omega

def shW (n : Nat) (w : Wd) : Wd := { w with line := w.line + n }
def shE (n : Nat) (e : En) : En := ⟨e.blank, e.line + n, e.words.map (shW n)⟩
/-- a state n lines further on, behind other entries. -/
structure Sim (n : Nat) (pre : List En) (s s' : St) : Prop where
  line : s'.line = s.line + n
  col : s'.col = s.col
  dep : s'.dep = s.dep
  fst : s.dep ≠ 0 → s'.fl = s.fl + n ∧ s'.fc = s.fc
  bl : s'.bl = s.bl
  el : s'.el = s.el + n
  ws : s'.ws = s.ws.map (shW n)
  es : s'.es = pre ++ s.es.map (shE n)
theorem Sim.done {n : Nat} {pre : List En} {s s' : St} (h : Sim n pre s s') : s'.done = pre ++ s.done.map (shE n) := by
  unfold St.done
  by_cases hw : s.ws = []
  · rw [if_pos hw, if_pos (by rw [h.ws, hw]; rfl), h.es]
  · rw [if_neg hw, if_neg (by rw [h.ws]; simpa using hw), h.es, h.bl, h.el, h.ws, List.map_append, List.append_assoc]
    rfl
theorem Sim.nl {n : Nat} {pre : List En} {s s' : St} (h : Sim n pre s s') (b : Bool) : Sim n pre (s.nl b) (s'.nl b) := by
  unfold St.nl
  rw [h.dep]
  by_cases hd : s.dep = 0
  · rw [if_pos hd, if_pos hd]
    exact ⟨by show s'.line + 1 = s.line + 1 + n; rw [h.line]; omega, rfl, rfl, fun e => absurd rfl e, rfl, by show s'.line + 1 = s.line + 1 + n; rw [h.line]; omega, rfl, h.done⟩
  · rw [if_neg hd, if_neg hd]
    exact ⟨by show s'.line + 1 = s.line + 1 + n; rw [h.line]; omega, rfl, rfl, h.fst, h.bl, h.el, h.ws, h.es⟩
theorem Sim.op {n : Nat} {pre : List En} {s s' : St} (h : Sim n pre s s') : Sim n pre s.op s'.op := by
  refine ⟨h.line, by show s'.col + 1 = s.col + 1; rw [h.col], by show s'.dep + 1 = s.dep + 1; rw [h.dep], fun _ => ?_, h.bl, h.el, h.ws, h.es⟩
  show (if s'.dep = 0 then s'.line else s'.fl) = (if s.dep = 0 then s.line else s.fl) + n ∧ (if s'.dep = 0 then s'.col else s'.fc) = (if s.dep = 0 then s.col else s.fc)
  rw [h.dep]
  by_cases hd : s.dep = 0
  · rw [if_pos hd, if_pos hd, if_pos hd, if_pos hd]
    exact ⟨h.line, h.col⟩
  · rw [if_neg hd, if_neg hd, if_neg hd, if_neg hd]
    exact h.fst hd
theorem Sim.put {n : Nat} {pre : List En} {s s' : St} (h : Sim n pre s s') (b : By) (q : Bool) (k : Nat) : Sim n pre (s.put b q k) (s'.put b q k) := by
  refine ⟨h.line, by show s'.col + k = s.col + k; rw [h.col], h.dep, h.fst, h.bl, h.el, ?_, h.es⟩
  show s'.ws ++ [_] = (s.ws ++ [_]).map (shW n)
  rw [List.map_append, h.ws, h.line, h.col]
  rfl
def shR (n : Nat) (pre : List En) : Rs → Rs
  | .err l c x => .err (l + n) c x
  | .ok es => .ok (pre ++ es.map (shE n))
theorem play_sim (n : Nat) (pre : List En) : ∀ (ps : List Pc) (s s' : St), Sim n pre s s' → play ps s' = shR n pre (play ps s)
  | [], s, s', h => by
    rw [play, play, h.dep]
    split
    · rw [h.done]; rfl
    · rename_i hd
      rw [(h.fst hd).1, (h.fst hd).2]; rfl
  | .bad _ :: _, s, s', h => by rw [play, play, h.line, h.col]; rfl
  | .ch c :: ps, s, s', h => by
    rw [play, play]
    split
    · exact play_sim n pre ps _ _ (h.nl _)
    split
    · exact play_sim n pre ps _ _ h.op
    split
    · rw [h.dep]
      split
      · rw [h.line, h.col]; rfl
      · exact play_sim n pre ps _ _ ⟨h.line, by show s'.col + 1 = s.col + 1; rw [h.col], by show s'.dep - 1 = s.dep - 1; rw [h.dep], fun e => h.fst (fun e2 => e (by show s.dep - 1 = 0; omega)), h.bl, h.el, h.ws, h.es⟩
    · exact play_sim n pre ps _ _ ⟨h.line, by show s'.col + 1 = s.col + 1; rw [h.col], h.dep, h.fst, h.bl, h.el, h.ws, h.es⟩
  | .rem b :: ps, s, s', h => by
    rw [play, play]
    exact play_sim n pre ps _ _ ⟨h.line, by show s'.col + b.length = s.col + b.length; rw [h.col], h.dep, h.fst, h.bl, h.el, h.ws, h.es⟩
  | .bare b :: ps, s, s', h => by rw [play, play]; exact play_sim n pre ps _ _ (h.put _ _ _)
  | .quo b :: ps, s, s', h => by rw [play, play]; exact play_sim n pre ps _ _ (h.put _ _ _)
theorem tells_cat {a b : By} {es : List En} (h : tells a = .ok es) : tells (a ++ 10 :: b) = shR (lfs a + 1) es (tells b) := by
  have hs : start (a ++ 10 :: b) = start a := by
    unfold start
    cases a <;> rfl
  rcases lx_cat b _ a (Nat.le_refl _) with ⟨ps, r, e1, e2⟩ | ⟨e1, e2⟩
  · exfalso
    have key : ∀ (ps : List Pc) (s : St), play (ps ++ [.bad r]) s ≠ .ok es := by
      intro ps
      induction ps with
      | nil => intro s h; rw [List.nil_append, play] at h; cases h
      | cons p ps ih =>
        intro s h
        rw [List.cons_append] at h
        cases p with
        | bad x => rw [play] at h; cases h
        | ch c =>
          rw [play] at h
          split at h
          · exact ih _ h
          split at h
          · exact ih _ h
          split at h
          · split at h
            · cases h
            · exact ih _ h
          · exact ih _ h
        | rem x => rw [play] at h; exact ih _ h
        | bare x => rw [play] at h; exact ih _ h
        | quo x => rw [play] at h; exact ih _ h
    unfold tells at h
    rw [e1] at h
    exact key _ _ h
  · obtain ⟨σ, a1, a2, a3, a4⟩ := play_on (lx b) (lx a) (start a) es (lx_wf a) h
    rw [raws_lx] at a3
    unfold tells
    rw [e2, hs, a4]
    refine play_sim _ _ _ _ _ ?_
    unfold St.nl
    rw [if_pos a1, hp_lx, a2]
    have hl : σ.line = 1 + lfs a := a3
    refine ⟨?_, rfl, rfl, fun e => absurd rfl e, rfl, ?_, rfl, by simp [start]⟩
    · show σ.line + 1 = 1 + (lfs a + 1); omega
    · show σ.line + 1 = 1 + (lfs a + 1); omega
theorem play_line : ∀ (ps : List Pc) (s : St) (l c x : Nat), s.fl ≤ s.line → play ps s = .err l c x → l ≤ s.line + ps.length
  | [], s, l, c, x, hf, h => by
    rw [play] at h
    split at h
    · cases h
    · injection h with h1 _ _
      omega
  | .bad _ :: ps, s, l, c, x, hf, h => by
    rw [play] at h
    injection h with h1 _ _
    omega
  | .ch c' :: ps, s, l, c, x, hf, h => by
    rw [List.length_cons]
    rw [play] at h
    split at h
    · have hl : (s.nl (hp ps)).line = s.line + 1 ∧ (s.nl (hp ps)).fl = s.fl := by unfold St.nl; split <;> exact ⟨rfl, rfl⟩
      have := play_line ps _ l c x (by omega) h
      omega
    split at h
    · have := play_line ps s.op l c x (by show (if s.dep = 0 then s.line else s.fl) ≤ s.line; split <;> omega) h
      have hl : s.op.line = s.line := rfl
      omega
    split at h
    · split at h
      · injection h with h1 _ _
        omega
      · have := play_line ps s.cl l c x hf h
        have hl : s.cl.line = s.line := rfl
        omega
    · have := play_line ps (s.go 1) l c x hf h
      have hl : (s.go 1).line = s.line := rfl
      omega
  | .rem b :: ps, s, l, c, x, hf, h => by
    rw [play] at h
    have := play_line ps (s.go b.length) l c x hf h
    have hl : (s.go b.length).line = s.line := rfl
    rw [List.length_cons]
    omega
  | .bare b :: ps, s, l, c, x, hf, h => by
    rw [play] at h
    have := play_line ps (s.put b false b.length) l c x hf h
    have hl : (s.put b false b.length).line = s.line := rfl
    rw [List.length_cons]
    omega
  | .quo b :: ps, s, l, c, x, hf, h => by
    rw [play] at h
    have := play_line ps (s.put b true (b.length + 2)) l c x hf h
    have hl : (s.put b true (b.length + 2)).line = s.line := rfl
    rw [List.length_cons]
    omega
theorem tells_line {t : By} {l c x : Nat} (h : tells t = .err l c x) : l ≤ t.length + 1 := by
  have h1 := play_line (lx t) (start t) l c x (Nat.zero_le _) h
  have h2 := lx_count t
  have h3 : (start t).line = 1 := rfl
  omega
end Go.Proofs.Ytbmobaomnfchkaa.Tk
