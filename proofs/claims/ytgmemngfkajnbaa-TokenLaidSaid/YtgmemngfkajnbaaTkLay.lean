/- Pure: a text that is laid piece by piece is read as what was laid. -/
import Derived.Test.YtgmemngfkajnbaaTkTwo
namespace Go.Proofs.Ytgmemngfkajnbaa.Tk

/-- a byte that can't stand as it is in a word without quotes. -/
def bareB (c : UInt8) : Bool := blank c || c.toNat == 59 || c.toNat == 40 || c.toNat == 41
def stB (q : Bool) (c : UInt8) : By := if c.toNat = 10 then [92, 48, 49, 48] else if c.toNat = 34 ∨ c.toNat = 92 ∨ (bareB c = true ∧ q = false) then [92, c] else [c]
def stW (q : Bool) (s : By) : By := s.flatMap (stB q)
theorem stW_nil (q : Bool) : stW q [] = [] := rfl
theorem stW_cons (q : Bool) (c : UInt8) (s : By) : stW q (c :: s) = stB q c ++ stW q s := by simp [stW]
theorem stW_snoc (q : Bool) (c : UInt8) (s : By) : stW q (s ++ [c]) = stW q s ++ stB q c := by simp [stW]
theorem stB_pos (q : Bool) (c : UInt8) : 1 ≤ (stB q c).length ∧ (stB q c).length ≤ 4 := by
  unfold stB
  split
  · decide
  split <;> simp
theorem stW_len (q : Bool) : ∀ s : By, (stW q s).length ≤ 4 * s.length
  | [] => by simp [stW]
  | c :: s => by
    have := stW_len q s
    have := (stB_pos q c).2
    rw [stW_cons, List.length_append, List.length_cons]
    omega
theorem stW_eq_nil (q : Bool) : ∀ s : By, stW q s = [] ↔ s = []
  | [] => by simp [stW]
  | c :: s => by
    have := (stB_pos q c).1
    rw [stW_cons]
    simp only [List.append_eq_nil_iff, reduceCtorEq, iff_false]
    intro h
    rw [h.1] at this
    simp at this
def hE (t : By) : Prop := ∃ c r, t = c :: r ∧ ends c = true

theorem tlen_92 {d : UInt8} {r : By} (h : d.toNat ≠ 10) : tlen (92 :: d :: r) = 2 := by
  unfold tlen
  exact if_pos ⟨rfl, h⟩
theorem tlen_other {c : UInt8} {r : By} (h : c.toNat ≠ 92) : tlen (c :: r) = 1 := by
  cases r with
  | nil => rfl
  | cons d r =>
    unfold tlen
    exact if_neg (fun h2 => h h2.1)
theorem ends_92 : ends 92 = false := by decide
theorem ends_of {c : UInt8} (h1 : c.toNat ≠ 10) (h2 : c.toNat ≠ 34) (h3 : bareB c = false) : ends c = false := by
  simp only [bareB, Bool.or_eq_false_iff] at h3
  obtain ⟨⟨⟨h3, h4⟩, h5⟩, h6⟩ := h3
  simp [ends, h1, h2, h3, h4, h5, h6]
theorem bareLen_92 {d : UInt8} {r : By} (h : d.toNat ≠ 10) : bareLen (92 :: d :: r) = 2 + bareLen r := by
  rw [bareLen_step ends_92, tlen_92 h]; rfl
theorem bareLen_one {c : UInt8} {r : By} (h : ends c = false) (h2 : c.toNat ≠ 92) : bareLen (c :: r) = 1 + bareLen r := by
  rw [bareLen_step h, tlen_other h2]; rfl
theorem bareLen_stB {c : UInt8} (r : By) : bareLen (stB false c ++ r) = (stB false c).length + bareLen r := by
  unfold stB
  split
  · simp only [List.cons_append, List.nil_append]
    rw [bareLen_92 (by decide), bareLen_one (by decide) (by decide), bareLen_one (by decide) (by decide)]
    simp; omega
  rename_i h1
  split
  · simp only [List.cons_append, List.nil_append]
    rw [bareLen_92 h1]
    simp
  · rename_i h2
    simp only [not_or] at h2
    have h3 : bareB c = false := by
      cases hb : bareB c with
      | false => rfl
      | true => exact absurd (by simp [hb]) h2.2.2
    simp only [List.cons_append, List.nil_append]
    rw [bareLen_one (ends_of h1 h2.1 h3) h2.2.1]
    simp
theorem bareLen_stW {t : By} (ht : hE t) : ∀ s : By, bareLen (stW false s ++ t) = (stW false s).length
  | [] => by
    obtain ⟨c, r, rfl, h⟩ := ht
    exact bareLen_end h
  | c :: s => by
    rw [stW_cons, List.append_assoc, bareLen_stB, bareLen_stW ht s, List.length_append]
theorem stB_head {c : UInt8} : ∃ d r, stB false c = d :: r ∧ ends d = false := by
  unfold stB
  split
  · exact ⟨_, _, rfl, by decide⟩
  rename_i h1
  split
  · exact ⟨_, _, rfl, by decide⟩
  · rename_i h2
    simp only [not_or] at h2
    have h3 : bareB c = false := by
      cases hb : bareB c with
      | false => rfl
      | true => exact absurd (by simp [hb]) h2.2.2
    exact ⟨_, _, rfl, ends_of h1 h2.1 h3⟩
theorem lx_word {s t : By} (hs : s ≠ []) (ht : hE t) : lx (stW false s ++ t) = .bare (stW false s) :: lx t := by
  have hb := bareLen_stW ht s
  obtain ⟨c, s, rfl⟩ : ∃ c r, s = c :: r := by cases s with | nil => exact absurd rfl hs | cons c r => exact ⟨c, r, rfl⟩
  obtain ⟨d, r, h1, h2⟩ := stB_head (c := c)
  have e : stW false (c :: s) = d :: (r ++ stW false s) := by rw [stW_cons, h1]; rfl
  rw [e] at hb ⊢
  rw [List.cons_append] at hb ⊢
  rw [lx_bare h2, hb]
  have e2 : d :: (r ++ stW false s ++ t) = (d :: (r ++ stW false s)) ++ t := rfl
  rw [e2, List.take_left, List.drop_left]
theorem quoLen_92 {d : UInt8} {r : By} (h : d.toNat ≠ 10) : quoLen (92 :: d :: r) = (quoLen r).map (2 + ·) := by
  rw [quoLen_step (by decide) (by decide), tlen_92 h]; rfl
theorem quoLen_one {c : UInt8} {r : By} (h : c.toNat ≠ 10) (h1 : c.toNat ≠ 34) (h2 : c.toNat ≠ 92) : quoLen (c :: r) = (quoLen r).map (1 + ·) := by
  rw [quoLen_step h h1, tlen_other h2]; rfl
theorem quoLen_stB {c : UInt8} (r : By) : quoLen (stB true c ++ r) = (quoLen r).map ((stB true c).length + ·) := by
  unfold stB
  split
  · simp only [List.cons_append, List.nil_append]
    rw [quoLen_92 (by decide), quoLen_one (by decide) (by decide) (by decide), quoLen_one (by decide) (by decide) (by decide)]
    cases quoLen r
    · rfl
    · simp; omega
  rename_i h1
  split
  · simp only [List.cons_append, List.nil_append]
    rw [quoLen_92 h1]
    rfl
  · rename_i h2
    simp only [not_or] at h2
    simp only [List.cons_append, List.nil_append]
    rw [quoLen_one h1 h2.1 h2.2.1]
    rfl
theorem quoLen_stW (t : By) : ∀ s : By, quoLen (stW true s ++ 34 :: t) = some (stW true s).length
  | [] => quoLen_q rfl
  | c :: s => by
    rw [stW_cons, List.append_assoc, quoLen_stB, quoLen_stW t s, List.length_append]
    rfl
/-- a word, with quotes or without. -/
def wdq (q : Bool) (s : By) : Bool := q || s.isEmpty
def wdT (q : Bool) (s : By) : By := if wdq q s then 34 :: stW q s ++ [34] else stW q s
theorem wdT_len (q : Bool) (s : By) : (wdT q s).length ≤ 4 * s.length + 2 := by
  have := stW_len q s
  unfold wdT
  split
  · simp; omega
  · omega
theorem lx_quoted {q : Bool} {s t : By} (h : wdq q s = true) : lx (34 :: stW q s ++ [34] ++ t) = .quo (stW q s) :: lx t := by
  have hq : quoLen (stW q s ++ 34 :: t) = some (stW q s).length := by
    cases q with
    | true => exact quoLen_stW t s
    | false =>
      cases s with
      | nil => exact quoLen_q rfl
      | cons c s => simp [wdq] at h
  have e : 34 :: stW q s ++ [34] ++ t = 34 :: (stW q s ++ 34 :: t) := by simp
  rw [e, lx_quo rfl hq, List.take_left]
  congr 2
  rw [← List.drop_drop, List.drop_left]
  rfl
theorem play_word {q : Bool} {s t : By} (ht : wdq q s = false → hE t) (σ : St) : play (lx (wdT q s ++ t)) σ = play (lx t) (σ.put (stW q s) (wdq q s) (wdT q s).length) := by
  unfold wdT
  rcases h : wdq q s with _ | _
  · simp only [Bool.false_eq_true, if_false]
    simp only [wdq, Bool.or_eq_false_iff, List.isEmpty_eq_false_iff] at h
    obtain ⟨rfl, hs⟩ := h
    rw [lx_word hs (ht (by simp [wdq, hs])), play]
  · simp only [if_true]
    rw [lx_quoted h, play]
    simp
theorem wd_noLf (q : Bool) : ∀ s : By, noLf (stW q s)
  | [] => by simp [stW, noLf]
  | c :: s => by
    have ih := wd_noLf q s
    rw [stW_cons]
    intro x hx
    rw [List.mem_append] at hx
    rcases hx with hx | hx
    · unfold stB at hx
      split at hx
      · revert hx x
        decide
      split at hx
      · simp only [List.mem_cons, List.not_mem_nil, or_false] at hx
        rcases hx with rfl | rfl
        · decide
        · assumption
      · simp only [List.mem_cons, List.not_mem_nil, or_false] at hx
        subst hx
        assumption
    · exact ih x hx
theorem wdT_noLf (q : Bool) (s : By) : noLf (wdT q s) := by
  unfold wdT
  have := wd_noLf q s
  split
  · intro x hx
    simp only [List.cons_append, List.mem_cons, List.mem_append, List.not_mem_nil, or_false] at hx
    rcases hx with rfl | hx | rfl
    · decide
    · exact this x hx
    · decide
  · exact this

theorem noLf_dec {a : By} (h : a.all (fun c => c.toNat != 10) = true) : noLf a := fun x hx => by
  simpa using List.all_eq_true.1 h x hx
theorem remLen_to {t : By} : ∀ {r : By}, noLf r → remLen (r ++ 10 :: t) = r.length
  | [], _ => by simp [remLen]
  | c :: r, h => by
    rw [List.cons_append, remLen, if_neg (h c (by simp)), remLen_to (fun x hx => h x (by simp [hx]))]
    simp; omega
theorem lx_rem_to {r t : By} (h : noLf r) : lx (59 :: (r ++ 10 :: t)) = .rem (59 :: r) :: lx (10 :: t) := by
  rw [lx_rem rfl, remLen_to h, List.take_left, List.drop_left]

/-- pieces that tell no word: what they do. -/
def Mv (a : By) (o o' : Nat) : Prop := ∀ (line col fl fc : Nat), ∃ fl' fc', ∀ (bl : Bool) (el : Nat) (ws : List Wd) (es : List En) (t : By),
  play (lx (a ++ t)) ⟨line, col, o, fl, fc, bl, el, ws, es⟩ = play (lx t) ⟨(advs (line, col) a).1, (advs (line, col) a).2, o', fl', fc', bl, el, ws, es⟩
theorem Mv.nil (o : Nat) : Mv [] o o := fun _ _ fl fc => ⟨fl, fc, fun _ _ _ _ _ => rfl⟩
theorem Mv.app {a b : By} {o o' o2 : Nat} (h : Mv a o o') (h2 : Mv b o' o2) : Mv (a ++ b) o o2 := fun line col fl fc => by
  obtain ⟨fl', fc', h⟩ := h line col fl fc
  obtain ⟨fl2, fc2, h2⟩ := h2 (advs (line, col) a).1 (advs (line, col) a).2 fl' fc'
  refine ⟨fl2, fc2, fun bl el ws es t => ?_⟩
  rw [List.append_assoc, h, h2, advs_append]
theorem Mv.blank {c : UInt8} (h : blank c = true) (o : Nat) : Mv [c] o o := fun line col fl fc => ⟨fl, fc, fun bl el ws es t => by
  have hn : c.toNat = 32 ∨ c.toNat = 9 ∨ c.toNat = 13 := by
    simp only [Tk.blank, Bool.or_eq_true, beq_iff_eq] at h
    omega
  rw [List.cons_append, List.nil_append, lx_ch (by omega) (by omega) (blank_ends h), play, if_neg (by omega), if_neg (by omega), if_neg (by omega)]
  simp only [St.go, advs, List.foldl_cons, List.foldl_nil, adv]
  rw [if_neg (by omega)]⟩
theorem Mv.op (o : Nat) : Mv [40] o (o + 1) := fun line col fl fc => ⟨if o = 0 then line else fl, if o = 0 then col else fc, fun bl el ws es t => by
  rw [List.cons_append, List.nil_append, lx_ch (by decide) (by decide) (by decide), play, if_neg (by decide), if_pos (by decide)]
  rfl⟩
theorem Mv.cl (o : Nat) : Mv [41] (o + 1) o := fun line col fl fc => ⟨fl, fc, fun bl el ws es t => by
  rw [List.cons_append, List.nil_append, lx_ch (by decide) (by decide) (by decide), play, if_neg (by decide), if_neg (by decide), if_pos (by decide), if_neg (by simp)]
  rfl⟩
theorem Mv.lf (o : Nat) : Mv [10] (o + 1) (o + 1) := fun line col fl fc => ⟨fl, fc, fun bl el ws es t => by
  rw [List.cons_append, List.nil_append, lx_ch (by decide) (by decide) (by decide), play, if_pos (by decide)]
  simp only [St.nl, Nat.add_one_ne_zero, if_false]
  rfl⟩
theorem Mv.rem {r : By} (h : noLf r) (o : Nat) : Mv (59 :: (r ++ [10])) (o + 1) (o + 1) := fun line col fl fc => ⟨fl, fc, fun bl el ws es t => by
  have e : 59 :: (r ++ [10]) ++ t = 59 :: (r ++ 10 :: t) := by simp
  rw [e, lx_rem_to h, play, lx_ch (by decide) (by decide) (by decide), play, if_pos (by decide)]
  simp only [St.nl, St.go, Nat.add_one_ne_zero, if_false]
  have hn : noLf (59 :: r) := fun x hx => by
    simp only [List.mem_cons] at hx
    rcases hx with rfl | hx
    · decide
    · exact h x hx
  rw [← List.cons_append, advs_append, advs_noLf _ _ hn]
  rfl⟩
/-- what stands between words. -/
def gapB (k o : Nat) : By :=
  if k % 8 = 1 then [9, 13, 32] else if k % 8 = 2 then [40] else if k % 8 = 3 then [32, 40, 32, 59, 32, 40, 32, 34, 32, 120, 10]
  else if k % 8 = 4 ∨ k % 8 = 5 then (if 0 < o then [41] else [40, 41])
  else if k % 8 = 6 then (if 0 < o then [32, 59, 41, 32, 92, 10, 10, 32] else [32]) else [32]
def gapO (k o : Nat) : Nat :=
  if k % 8 = 2 ∨ k % 8 = 3 then o + 1 else if k % 8 = 4 ∨ k % 8 = 5 then o - 1 else o
theorem gapO_le (k o : Nat) : gapO k o ≤ o + 1 := by unfold gapO; split <;> try split
                                                     all_goals omega
theorem gapB_len (k o : Nat) : (gapB k o).length ≤ 11 := by
  unfold gapB
  repeat' split
  all_goals decide
theorem gapB_head (k o : Nat) (t : By) : hE (gapB k o ++ t) := by
  unfold gapB
  repeat' split
  all_goals exact ⟨_, _, rfl, by decide⟩
theorem gap_mv (k o : Nat) : Mv (gapB k o) o (gapO k o) := by
  unfold gapB gapO
  by_cases h1 : k % 8 = 1
  · simp only [h1]
    exact ((Mv.blank (c := 9) (by decide) o).app (Mv.blank (c := 13) (by decide) o)).app (Mv.blank (c := 32) (by decide) o)
  by_cases h2 : k % 8 = 2
  · simp only [h2]
    exact Mv.op o
  by_cases h3 : k % 8 = 3
  · simp only [h3]
    exact (((Mv.blank (c := 32) (by decide) o).app (Mv.op o)).app (Mv.blank (c := 32) (by decide) (o + 1))).app (Mv.rem (r := [32, 40, 32, 34, 32, 120]) (noLf_dec (by decide)) o)
  by_cases h4 : k % 8 = 4 ∨ k % 8 = 5
  · rw [if_neg h1, if_neg h2, if_neg h3, if_pos h4, if_neg (not_or.2 ⟨h2, h3⟩), if_pos h4]
    by_cases ho : 0 < o
    · rw [if_pos ho]
      obtain ⟨m, rfl⟩ : ∃ m, o = m + 1 := ⟨o - 1, by omega⟩
      exact Mv.cl m
    · obtain rfl : o = 0 := by omega
      exact (Mv.op 0).app (Mv.cl 0)
  rw [if_neg h1, if_neg h2, if_neg h3, if_neg h4, if_neg (not_or.2 ⟨h2, h3⟩), if_neg h4]
  by_cases h6 : k % 8 = 6
  · rw [if_pos h6]
    by_cases ho : 0 < o
    · rw [if_pos ho]
      obtain ⟨m, rfl⟩ : ∃ m, o = m + 1 := ⟨o - 1, by omega⟩
      exact (((Mv.blank (c := 32) (by decide) (m + 1)).app (Mv.rem (r := [41, 32, 92]) (noLf_dec (by decide)) m)).app (Mv.lf m)).app (Mv.blank (c := 32) (by decide) (m + 1))
    · rw [if_neg ho]
      exact Mv.blank (by decide) o
  · rw [if_neg h6]
    exact Mv.blank (by decide) o

/-- a text so far, and what is behind it is read from there. -/
def Tl (b : By) (c : By → Prop) (bl : By → Bool) (o el : Nat) (ws : List Wd) (es : List En) : Prop :=
  ∃ fl fc, ∀ t, c t → tells (b ++ t) = play (lx t) ⟨(advs (1, 1) b).1, (advs (1, 1) b).2, o, fl, fc, bl t, el, ws, es⟩
theorem Tl.start : Tl [] (fun _ => True) hb 0 1 [] [] := ⟨0, 0, fun _ _ => rfl⟩
theorem Tl.move {b a : By} {c : By → Prop} {bl : By → Bool} {o o' el : Nat} {ws : List Wd} {es : List En} (h : Tl b c bl o el ws es) (hm : Mv a o o') (hc : ∀ t, c (a ++ t)) : Tl (b ++ a) (fun _ => True) (fun t => bl (a ++ t)) o' el ws es := by
  obtain ⟨fl, fc, h⟩ := h
  obtain ⟨fl', fc', hm⟩ := hm (advs (1, 1) b).1 (advs (1, 1) b).2 fl fc
  refine ⟨fl', fc', fun t _ => ?_⟩
  rw [List.append_assoc, h _ (hc t), hm, advs_append]
theorem Tl.word {b : By} {c : By → Prop} {bl : By → Bool} {o el : Nat} {ws : List Wd} {es : List En} (h : Tl b c bl o el ws es) (q : Bool) (s : By) (hc : ∀ t, hE t → c (wdT q s ++ t)) :
    Tl (b ++ wdT q s) hE (fun t => bl (wdT q s ++ t)) o el (ws ++ [⟨stW q s, wdq q s, (advs (1, 1) b).1, (advs (1, 1) b).2⟩]) es := by
  obtain ⟨fl, fc, h⟩ := h
  refine ⟨fl, fc, fun t ht => ?_⟩
  rw [List.append_assoc, h _ (hc t ht), play_word (fun _ => ht), advs_append, advs_noLf _ _ (wdT_noLf q s)]
  rfl
/-- a line's end behind all. -/
def tailB : By := [32, 59, 32, 34, 32, 40, 32, 10]
theorem Tl.fin {b : By} {c : By → Prop} {bl : By → Bool} {B : Bool} {el : Nat} {ws : List Wd} {es : List En} (h : Tl b c bl 0 el ws es) (hc : ∀ t, c (tailB ++ t)) (hbl : ws ≠ [] → ∀ t, bl t = B) :
    Tl (b ++ tailB) (fun _ => True) hb 0 (advs (1, 1) (b ++ tailB)).1 [] (if ws = [] then es else es ++ [⟨B, el, ws⟩]) := by
  obtain ⟨fl, fc, h⟩ := h
  refine ⟨fl, fc, fun t _ => ?_⟩
  rw [List.append_assoc, h _ (hc t)]
  have e : tailB ++ t = 32 :: 59 :: ([32, 34, 32, 40, 32] ++ 10 :: t) := rfl
  generalize hx : bl (tailB ++ t) = x
  rw [e, lx_ch (by decide) (by decide) (by decide), play, if_neg (by decide), if_neg (by decide), if_neg (by decide), lx_rem_to (noLf_dec (by decide)), play, lx_ch (by decide) (by decide) (by decide), play, if_pos (by decide)]
  simp only [St.go, St.nl, if_true, hp_lx, St.done]
  have e2 : advs (1, 1) (b ++ tailB) = ((advs (1, 1) b).1 + 1, 1) := by rw [advs_append]; rfl
  rw [e2]
  cases ws with
  | nil => rfl
  | cons a r => rw [← hx, hbl (by simp)]; rfl
theorem Tl.done {b : By} {c : By → Prop} {bl : By → Bool} {el : Nat} {es : List En} (h : Tl b c bl 0 el [] es) (hc : c []) : tells b = .ok es := by
  obtain ⟨fl, fc, h⟩ := h
  have := h [] hc
  rw [List.append_nil] at this
  rw [this]
  rfl
theorem hb_word {q : Bool} {s t : By} (h : wdq q s = true ∨ s ≠ []) : hb (wdT q s ++ t) = false := by
  unfold wdT
  rcases hq : wdq q s with _ | _
  · simp only [Bool.false_eq_true, if_false]
    simp only [wdq, Bool.or_eq_false_iff, List.isEmpty_eq_false_iff] at hq
    obtain ⟨rfl, hs⟩ := hq
    obtain ⟨c, s, rfl⟩ : ∃ c r, s = c :: r := by cases s with | nil => exact absurd rfl hs | cons c r => exact ⟨c, r, rfl⟩
    obtain ⟨d, r, h1, h2⟩ := stB_head (c := c)
    rw [stW_cons, h1]
    simp only [List.cons_append, hb]
    rcases hbl : blank d with _ | _
    · rfl
    · rw [blank_ends hbl] at h2
      cases h2
  · simp only [if_true]
    rfl
theorem hb_word' (q : Bool) (s t : By) : hb (wdT q s ++ t) = false := hb_word (by cases s <;> simp [wdq])

/-- between the words of an entry: how many there are, and what holds. -/
structure Lv (B : Bool) (k : Nat) (b : By) (ws : List Wd) (o el : Nat) (es : List En) : Prop where
  n : ws.length = k
  on : (B = true ∨ 0 < k) → ∃ c bl, (∀ t, hE t → c t) ∧ (∀ t, bl t = B) ∧ Tl b c bl o el ws es
  off : ¬(B = true ∨ 0 < k) → o = 0 ∧ Tl b (fun _ => True) hb 0 el ws es
theorem Lv.startBlank {b : By} {el : Nat} {es : List En} (h : Tl b (fun _ => True) hb 0 el [] es) : Lv true 0 (b ++ [32]) [] 0 el es :=
  ⟨rfl, fun _ => ⟨_, _, fun _ _ => trivial, fun _ => rfl, h.move (Mv.blank (c := 32) (by decide) 0) (fun _ => trivial)⟩, fun h => absurd (.inl rfl) h⟩
theorem Lv.startBare {b : By} {el : Nat} {es : List En} (h : Tl b (fun _ => True) hb 0 el [] es) : Lv false 0 b [] 0 el es :=
  ⟨rfl, fun h => absurd h (by simp), fun _ => ⟨rfl, h⟩⟩
/-- with the gap laid, if there must be one. -/
structure Lr (B : Bool) (k : Nat) (b : By) (ws : List Wd) (o el : Nat) (es : List En) : Prop where
  n : ws.length = k
  tl : ∃ bl, (∀ q s t, bl (wdT q s ++ t) = B) ∧ Tl b (fun _ => True) bl o el ws es
theorem Lv.gap {B : Bool} {k : Nat} {b : By} {ws : List Wd} {o el : Nat} {es : List En} (h : Lv B k b ws o el es) (hk : B = true ∨ 0 < k) (g : Nat) : Lr B k (b ++ gapB g o) ws (gapO g o) el es := by
  obtain ⟨c, bl, h1, h2, h3⟩ := h.on hk
  exact ⟨h.n, fun t => bl (gapB g o ++ t), fun q s t => h2 _, h3.move (gap_mv g o) (fun t => h1 _ (gapB_head g o t))⟩
theorem Lv.nogap {B : Bool} {k : Nat} {b : By} {ws : List Wd} {o el : Nat} {es : List En} (h : Lv B k b ws o el es) (hk : ¬(B = true ∨ 0 < k)) : Lr B k b ws o el es := by
  obtain ⟨rfl, h1⟩ := h.off hk
  refine ⟨h.n, _, fun q s t => ?_, h1⟩
  have : B = false := by
    cases B with
    | false => rfl
    | true => exact absurd (.inl rfl) hk
  rw [hb_word', this]
theorem Lr.word {B : Bool} {k : Nat} {b : By} {ws : List Wd} {o el : Nat} {es : List En} (h : Lr B k b ws o el es) (q : Bool) (s : By) : Lv B (k + 1) (b ++ wdT q s) (ws ++ [⟨stW q s, wdq q s, (advs (1, 1) b).1, (advs (1, 1) b).2⟩]) o el es := by
  obtain ⟨bl, h1, h2⟩ := h.tl
  exact ⟨by simp [h.n], fun _ => ⟨_, _, fun _ h => h, fun t => h1 q s t, h2.word q s (fun _ _ => trivial)⟩, fun h => absurd (.inr (by omega)) h⟩
/-- behind the words. -/
structure Lf (B : Bool) (b : By) (ws : List Wd) (o el : Nat) (es : List En) : Prop where
  tl : ∃ bl, (ws ≠ [] → ∀ t, bl t = B) ∧ Tl b (fun _ => True) bl o el ws es
theorem Lv.last {B : Bool} {k : Nat} {b : By} {ws : List Wd} {o el : Nat} {es : List En} (h : Lv B k b ws o el es) (g : Nat) : Lf B (b ++ gapB g o) ws (gapO g o) el es := by
  by_cases hk : B = true ∨ 0 < k
  · obtain ⟨c, bl, h1, h2, h3⟩ := h.on hk
    exact ⟨_, fun _ t => h2 _, h3.move (gap_mv g o) (fun t => h1 _ (gapB_head g o t))⟩
  · obtain ⟨rfl, h1⟩ := h.off hk
    refine ⟨_, fun hw => absurd (List.eq_nil_of_length_eq_zero (by have := h.n; omega)) hw, h1.move (gap_mv g 0) (fun t => trivial)⟩
theorem Lf.close {B : Bool} {b : By} {ws : List Wd} {o el : Nat} {es : List En} (h : Lf B b ws (o + 1) el es) : Lf B (b ++ [41]) ws o el es := by
  obtain ⟨bl, h1, h2⟩ := h.tl
  exact ⟨_, fun hw t => h1 hw _, h2.move (Mv.cl o) (fun _ => trivial)⟩
theorem Lf.fin {B : Bool} {b : By} {ws : List Wd} {el : Nat} {es : List En} (h : Lf B b ws 0 el es) :
    Tl (b ++ tailB) (fun _ => True) hb 0 (advs (1, 1) (b ++ tailB)).1 [] (if ws = [] then es else es ++ [⟨B, el, ws⟩]) := by
  obtain ⟨bl, h1, h2⟩ := h.tl
  exact h2.fin (fun _ => trivial) h1
/-- a text's lines and columns are no more than its bytes. -/
theorem advs_le : ∀ (a : By) (p : Nat × Nat), (advs p a).1 ≤ p.1 + a.length ∧ (advs p a).2 ≤ max p.2 1 + a.length
  | [], p => by simp [advs_nil]; omega
  | c :: r, p => by
    have h := advs_le r (adv p c)
    have e : (adv p c).1 ≤ p.1 + 1 ∧ (adv p c).2 ≤ max p.2 1 + 1 := by
      unfold adv
      split
      · simp
        try omega
      · simp
        try omega
    rw [advs_cons, List.length_cons]
    omega
theorem advs_pos : ∀ (a : By) (p : Nat × Nat), 1 ≤ p.1 → 1 ≤ p.2 → 1 ≤ (advs p a).1 ∧ 1 ≤ (advs p a).2
  | [], p, h, h2 => ⟨h, h2⟩
  | c :: r, p, h, h2 => by
    rw [advs_cons]
    unfold adv
    split
    · exact advs_pos r _ (by simp) (by simp)
    · exact advs_pos r _ h (by simp)
end Go.Proofs.Ytgmemngfkajnbaa.Tk
