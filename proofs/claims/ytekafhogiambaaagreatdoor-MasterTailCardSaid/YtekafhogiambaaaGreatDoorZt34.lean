/- Texts of the proofs, merged. -/
import Derived.Test.YtekafhogiambaaaGreatDoorZt25
import Derived.Test.YtekafhogiambaaaGreatDoorZt1
import Derived.Test.YtekafhogiambaaaGreatDoorZt2
import Derived.Test.YtekafhogiambaaaGreatDoorZt33
import Derived.Calls
import Derived.Below
import Derived.Deep.Draws
import Derived.Sort.Grow
import Derived.Test.YtekafhogiambaaaGreatDoorZt3
import Derived.Deep.MidRow
import Derived.Laws.CopyRow
import Derived.Shelf.SlSortCmp.NoneTotal
import Derived.ProofKit
import Derived.OpenShut
import Derived.ShutString
import Derived.WideKeyArgs
import Derived.SliceStrings
import Derived.Deep.DeepHandedRow
import Derived.Deep.DeepWitnessRowRef
import Derived.Test.YtekafhogiambaaaGreatDoorZt4
import Derived.Deep.Slices
import Derived.Deep.Fields
import Derived.ChangeSame
import Derived.Test.YtekafhogiambaaaGreatDoorZt9
import Derived.Test.YtekafhogiambaaaGreatDoorZt16
import Derived.BigQuiet
import Derived.Test.YtekafhogiambaaaGreatDoorZt24
import Derived.Test.YtekafhogiambaaaGreatDoorZt27
namespace Go.Proofs.YtekafhogiambaaaGreatDoor.Tk

/-- a byte that can't stand as it is in a word without quotes. -/
def bareB (c : UInt8) : Bool := blank c || c.toNat == 59 || c.toNat == 40 || c.toNat == 41
def stB (q : Bool) (c : UInt8) : By := if c.toNat = 10 then [92, 48, 49, 48] else if c.toNat = 34 ∨ c.toNat = 92 ∨ (bareB c = true ∧ q = false) then [92, c] else [c]
def stW (q : Bool) (s : By) : By := s.flatMap (stB q)
theorem stW_cons (q : Bool) (c : UInt8) (s : By) : stW q (c :: s) = stB q c ++ stW q s := by simp [stW]
def hE (t : By) : Prop := ∃ c r, t = c :: r ∧ ends c = true

theorem tlen_92 {d : UInt8} {r : By} (h : d.toNat ≠ 10) : tlen (92 :: d :: r) = 2 := by
  unfold tlen
  exact if_pos ⟨rfl, h⟩
theorem tlen_other {c : UInt8} {r : By} (h : c.toNat ≠ 92) : tlen (c :: r) = 1 := by
  cases r with
  | nil => rfl
  | cons d r =>
    unfold tlen
    exact if_neg (fun h2 => h h2.1)
theorem ends_92 : ends 92 = false := by decide
theorem ends_of {c : UInt8} (h1 : c.toNat ≠ 10) (h2 : c.toNat ≠ 34) (h3 : bareB c = false) : ends c = false := by
  simp only [bareB, Bool.or_eq_false_iff] at h3
  obtain ⟨⟨⟨h3, h4⟩, h5⟩, h6⟩ := h3
  simp [ends, h1, h2, h3, h4, h5, h6]
theorem bareLen_92 {d : UInt8} {r : By} (h : d.toNat ≠ 10) : bareLen (92 :: d :: r) = 2 + bareLen r := by
  rw [bareLen_step ends_92, tlen_92 h]; rfl
theorem bareLen_one {c : UInt8} {r : By} (h : ends c = false) (h2 : c.toNat ≠ 92) : bareLen (c :: r) = 1 + bareLen r := by
  rw [bareLen_step h, tlen_other h2]; rfl
theorem bareLen_stB {c : UInt8} (r : By) : bareLen (stB false c ++ r) = (stB false c).length + bareLen r := by
  unfold stB
  split
  · simp only [List.cons_append, List.nil_append]
    rw [bareLen_92 (by decide), bareLen_one (by decide) (by decide), bareLen_one (by decide) (by decide)]
    simp; omega
  rename_i h1
  split
  · simp only [List.cons_append, List.nil_append]
    rw [bareLen_92 h1]
    simp
  · rename_i h2
    simp only [not_or] at h2
    have h3 : bareB c = false := by
      cases hb : bareB c with
      | false => rfl
      | true => exact absurd (by simp [hb]) h2.2.2
    simp only [List.cons_append, List.nil_append]
    rw [bareLen_one (ends_of h1 h2.1 h3) h2.2.1]
    simp
theorem bareLen_stW {t : By} (ht : hE t) : ∀ s : By, bareLen (stW false s ++ t) = (stW false s).length
  | [] => by
    obtain ⟨c, r, rfl, h⟩ := ht
    exact bareLen_end h
  | c :: s => by
    rw [stW_cons, List.append_assoc, bareLen_stB, bareLen_stW ht s, List.length_append]
theorem stB_head {c : UInt8} : ∃ d r, stB false c = d :: r ∧ ends d = false := by
  unfold stB
  split
  · exact ⟨_, _, rfl, by decide⟩
  rename_i h1
  split
  · exact ⟨_, _, rfl, by decide⟩
  · rename_i h2
    simp only [not_or] at h2
    have h3 : bareB c = false := by
      cases hb : bareB c with
      | false => rfl
      | true => exact absurd (by simp [hb]) h2.2.2
    exact ⟨_, _, rfl, ends_of h1 h2.1 h3⟩
theorem lx_word {s t : By} (hs : s ≠ []) (ht : hE t) : lx (stW false s ++ t) = .bare (stW false s) :: lx t := by
  have hb := bareLen_stW ht s
  obtain ⟨c, s, rfl⟩ : ∃ c r, s = c :: r := by cases s with | nil => exact absurd rfl hs | cons c r => exact ⟨c, r, rfl⟩
  obtain ⟨d, r, h1, h2⟩ := stB_head (c := c)
  have e : stW false (c :: s) = d :: (r ++ stW false s) := by rw [stW_cons, h1]; rfl
  rw [e] at hb ⊢
  rw [List.cons_append] at hb ⊢
  rw [lx_bare h2, hb]
  have e2 : d :: (r ++ stW false s ++ t) = (d :: (r ++ stW false s)) ++ t := rfl
  rw [e2, List.take_left, List.drop_left]
theorem quoLen_92 {d : UInt8} {r : By} (h : d.toNat ≠ 10) : quoLen (92 :: d :: r) = (quoLen r).map (2 + ·) := by
  rw [quoLen_step (by decide) (by decide), tlen_92 h]; rfl
theorem quoLen_one {c : UInt8} {r : By} (h : c.toNat ≠ 10) (h1 : c.toNat ≠ 34) (h2 : c.toNat ≠ 92) : quoLen (c :: r) = (quoLen r).map (1 + ·) := by
  rw [quoLen_step h h1, tlen_other h2]; rfl
theorem quoLen_stB {c : UInt8} (r : By) : quoLen (stB true c ++ r) = (quoLen r).map ((stB true c).length + ·) := by
  unfold stB
  split
  · simp only [List.cons_append, List.nil_append]
    rw [quoLen_92 (by decide), quoLen_one (by decide) (by decide) (by decide), quoLen_one (by decide) (by decide) (by decide)]
    cases quoLen r
    · rfl
    · simp; omega
  rename_i h1
  split
  · simp only [List.cons_append, List.nil_append]
    rw [quoLen_92 h1]
    rfl
  · rename_i h2
    simp only [not_or] at h2
    simp only [List.cons_append, List.nil_append]
    rw [quoLen_one h1 h2.1 h2.2.1]
    rfl
theorem quoLen_stW (t : By) : ∀ s : By, quoLen (stW true s ++ 34 :: t) = some (stW true s).length
  | [] => quoLen_q rfl
  | c :: s => by
    rw [stW_cons, List.append_assoc, quoLen_stB, quoLen_stW t s, List.length_append]
    rfl
/-- a word, with quotes or without. -/
def wdq (q : Bool) (s : By) : Bool := q || s.isEmpty
def wdT (q : Bool) (s : By) : By := if wdq q s then 34 :: stW q s ++ [34] else stW q s
theorem lx_quoted {q : Bool} {s t : By} (h : wdq q s = true) : lx (34 :: stW q s ++ [34] ++ t) = .quo (stW q s) :: lx t := by
  have hq : quoLen (stW q s ++ 34 :: t) = some (stW q s).length := by
    cases q with
    | true => exact quoLen_stW t s
    | false =>
      cases s with
      | nil => exact quoLen_q rfl
      | cons c s => simp [wdq] at h
  have e : 34 :: stW q s ++ [34] ++ t = 34 :: (stW q s ++ 34 :: t) := by simp
  rw [e, lx_quo rfl hq, List.take_left]
  congr 2
  rw [← List.drop_drop, List.drop_left]
  rfl
theorem play_word {q : Bool} {s t : By} (ht : wdq q s = false → hE t) (σ : St) : play (lx (wdT q s ++ t)) σ = play (lx t) (σ.put (stW q s) (wdq q s) (wdT q s).length) := by
  unfold wdT
  rcases h : wdq q s with _ | _
  · simp only [Bool.false_eq_true, if_false]
    simp only [wdq, Bool.or_eq_false_iff, List.isEmpty_eq_false_iff] at h
    obtain ⟨rfl, hs⟩ := h
    rw [lx_word hs (ht (by simp [wdq, hs])), play]
  · simp only [if_true]
    rw [lx_quoted h, play]
    simp
theorem wd_noLf (q : Bool) : ∀ s : By, noLf (stW q s)
  | [] => by simp [stW, noLf]
  | c :: s => by
    have ih := wd_noLf q s
    rw [stW_cons]
    intro x hx
    rw [List.mem_append] at hx
    rcases hx with hx | hx
    · unfold stB at hx
      split at hx
      · revert hx x
        decide
      split at hx
      · simp only [List.mem_cons, List.not_mem_nil, or_false] at hx
        rcases hx with rfl | rfl
        · decide
        · assumption
      · simp only [List.mem_cons, List.not_mem_nil, or_false] at hx
        subst hx
        assumption
    · exact ih x hx
theorem wdT_noLf (q : Bool) (s : By) : noLf (wdT q s) := by
  unfold wdT
  have := wd_noLf q s
  split
  · intro x hx
    simp only [List.cons_append, List.mem_cons, List.mem_append, List.not_mem_nil, or_false] at hx
    rcases hx with rfl | hx | rfl
    · decide
    · exact this x hx
    · decide
  · exact this

theorem noLf_dec {a : By} (h : a.all (fun c => c.toNat != 10) = true) : noLf a := fun x hx => by
  simpa using List.all_eq_true.1 h x hx
theorem remLen_to {t : By} : ∀ {r : By}, noLf r → remLen (r ++ 10 :: t) = r.length
  | [], _ => by simp [remLen]
  | c :: r, h => by
    rw [List.cons_append, remLen, if_neg (h c (by simp)), remLen_to (fun x hx => h x (by simp [hx]))]
    simp; omega
theorem lx_rem_to {r t : By} (h : noLf r) : lx (59 :: (r ++ 10 :: t)) = .rem (59 :: r) :: lx (10 :: t) := by
  rw [lx_rem rfl, remLen_to h, List.take_left, List.drop_left]

/-- pieces that tell no word: what they do. -/
def Mv (a : By) (o o' : Nat) : Prop := ∀ (line col fl fc : Nat), ∃ fl' fc', ∀ (bl : Bool) (el : Nat) (ws : List Wd) (es : List En) (t : By),
  play (lx (a ++ t)) ⟨line, col, o, fl, fc, bl, el, ws, es⟩ = play (lx t) ⟨(advs (line, col) a).1, (advs (line, col) a).2, o', fl', fc', bl, el, ws, es⟩
theorem Mv.nil (o : Nat) : Mv [] o o := fun _ _ fl fc => ⟨fl, fc, fun _ _ _ _ _ => rfl⟩
theorem Mv.app {a b : By} {o o' o2 : Nat} (h : Mv a o o') (h2 : Mv b o' o2) : Mv (a ++ b) o o2 := fun line col fl fc => by
  obtain ⟨fl', fc', h⟩ := h line col fl fc
  obtain ⟨fl2, fc2, h2⟩ := h2 (advs (line, col) a).1 (advs (line, col) a).2 fl' fc'
  refine ⟨fl2, fc2, fun bl el ws es t => ?_⟩
  rw [List.append_assoc, h, h2, advs_append]
theorem Mv.blank {c : UInt8} (h : blank c = true) (o : Nat) : Mv [c] o o := fun line col fl fc => ⟨fl, fc, fun bl el ws es t => by
  have hn : c.toNat = 32 ∨ c.toNat = 9 ∨ c.toNat = 13 := by
    simp only [Tk.blank, Bool.or_eq_true, beq_iff_eq] at h
    omega
  rw [List.cons_append, List.nil_append, lx_ch (by omega) (by omega) (blank_ends h), play, if_neg (by omega), if_neg (by omega), if_neg (by omega)]
  simp only [St.go, advs, List.foldl_cons, List.foldl_nil, adv]
  rw [if_neg (by omega)]⟩
theorem Mv.op (o : Nat) : Mv [40] o (o + 1) := fun line col fl fc => ⟨if o = 0 then line else fl, if o = 0 then col else fc, fun bl el ws es t => by
  rw [List.cons_append, List.nil_append, lx_ch (by decide) (by decide) (by decide), play, if_neg (by decide), if_pos (by decide)]
  rfl⟩
theorem Mv.cl (o : Nat) : Mv [41] (o + 1) o := fun line col fl fc => ⟨fl, fc, fun bl el ws es t => by
  rw [List.cons_append, List.nil_append, lx_ch (by decide) (by decide) (by decide), play, if_neg (by decide), if_neg (by decide), if_pos (by decide), if_neg (by simp)]
  rfl⟩
theorem Mv.lf (o : Nat) : Mv [10] (o + 1) (o + 1) := fun line col fl fc => ⟨fl, fc, fun bl el ws es t => by
  rw [List.cons_append, List.nil_append, lx_ch (by decide) (by decide) (by decide), play, if_pos (by decide)]
  simp only [St.nl, Nat.add_one_ne_zero, if_false]
  rfl⟩
theorem Mv.rem {r : By} (h : noLf r) (o : Nat) : Mv (59 :: (r ++ [10])) (o + 1) (o + 1) := fun line col fl fc => ⟨fl, fc, fun bl el ws es t => by
  have e : 59 :: (r ++ [10]) ++ t = 59 :: (r ++ 10 :: t) := by simp
  rw [e, lx_rem_to h, play, lx_ch (by decide) (by decide) (by decide), play, if_pos (by decide)]
  simp only [St.nl, St.go, Nat.add_one_ne_zero, if_false]
  have hn : noLf (59 :: r) := fun x hx => by
    simp only [List.mem_cons] at hx
    rcases hx with rfl | hx
    · decide
    · exact h x hx
  rw [← List.cons_append, advs_append, advs_noLf _ _ hn]
  rfl⟩
/-- what stands between words. -/
def gapB (k o : Nat) : By :=
  if k % 8 = 1 then [9, 13, 32] else if k % 8 = 2 then [40] else if k % 8 = 3 then [32, 40, 32, 59, 32, 40, 32, 34, 32, 120, 10]
  else if k % 8 = 4 ∨ k % 8 = 5 then (if 0 < o then [41] else [40, 41])
  else if k % 8 = 6 then (if 0 < o then [32, 59, 41, 32, 92, 10, 10, 32] else [32]) else [32]
def gapO (k o : Nat) : Nat :=
  if k % 8 = 2 ∨ k % 8 = 3 then o + 1 else if k % 8 = 4 ∨ k % 8 = 5 then o - 1 else o
theorem gapB_head (k o : Nat) (t : By) : hE (gapB k o ++ t) := by
  unfold gapB
  repeat' split
  all_goals exact ⟨_, _, rfl, by decide⟩
theorem gap_mv (k o : Nat) : Mv (gapB k o) o (gapO k o) := by
  unfold gapB gapO
  by_cases h1 : k % 8 = 1
  · simp only [h1]
    exact ((Mv.blank (c := 9) (by decide) o).app (Mv.blank (c := 13) (by decide) o)).app (Mv.blank (c := 32) (by decide) o)
  by_cases h2 : k % 8 = 2
  · simp only [h2]
    exact Mv.op o
  by_cases h3 : k % 8 = 3
  · simp only [h3]
    exact (((Mv.blank (c := 32) (by decide) o).app (Mv.op o)).app (Mv.blank (c := 32) (by decide) (o + 1))).app (Mv.rem (r := [32, 40, 32, 34, 32, 120]) (noLf_dec (by decide)) o)
  by_cases h4 : k % 8 = 4 ∨ k % 8 = 5
  · rw [if_neg h1, if_neg h2, if_neg h3, if_pos h4, if_neg (not_or.2 ⟨h2, h3⟩), if_pos h4]
    by_cases ho : 0 < o
    · rw [if_pos ho]
      obtain ⟨m, rfl⟩ : ∃ m, o = m + 1 := ⟨o - 1, by omega⟩
      exact Mv.cl m
    · obtain rfl : o = 0 := by omega
      exact (Mv.op 0).app (Mv.cl 0)
  rw [if_neg h1, if_neg h2, if_neg h3, if_neg h4, if_neg (not_or.2 ⟨h2, h3⟩), if_neg h4]
  by_cases h6 : k % 8 = 6
  · rw [if_pos h6]
    by_cases ho : 0 < o
    · rw [if_pos ho]
      obtain ⟨m, rfl⟩ : ∃ m, o = m + 1 := ⟨o - 1, by omega⟩
      exact (((Mv.blank (c := 32) (by decide) (m + 1)).app (Mv.rem (r := [41, 32, 92]) (noLf_dec (by decide)) m)).app (Mv.lf m)).app (Mv.blank (c := 32) (by decide) (m + 1))
    · rw [if_neg ho]
      exact Mv.blank (by decide) o
  · rw [if_neg h6]
    exact Mv.blank (by decide) o

/-- a text so far, and what is behind it is read from there. -/
def Tl (b : By) (c : By → Prop) (bl : By → Bool) (o el : Nat) (ws : List Wd) (es : List En) : Prop :=
  ∃ fl fc, ∀ t, c t → tells (b ++ t) = play (lx t) ⟨(advs (1, 1) b).1, (advs (1, 1) b).2, o, fl, fc, bl t, el, ws, es⟩
theorem Tl.start : Tl [] (fun _ => True) hb 0 1 [] [] := ⟨0, 0, fun _ _ => rfl⟩
theorem Tl.move {b a : By} {c : By → Prop} {bl : By → Bool} {o o' el : Nat} {ws : List Wd} {es : List En} (h : Tl b c bl o el ws es) (hm : Mv a o o') (hc : ∀ t, c (a ++ t)) : Tl (b ++ a) (fun _ => True) (fun t => bl (a ++ t)) o' el ws es := by
  obtain ⟨fl, fc, h⟩ := h
  obtain ⟨fl', fc', hm⟩ := hm (advs (1, 1) b).1 (advs (1, 1) b).2 fl fc
  refine ⟨fl', fc', fun t _ => ?_⟩
  rw [List.append_assoc, h _ (hc t), hm, advs_append]
theorem Tl.word {b : By} {c : By → Prop} {bl : By → Bool} {o el : Nat} {ws : List Wd} {es : List En} (h : Tl b c bl o el ws es) (q : Bool) (s : By) (hc : ∀ t, hE t → c (wdT q s ++ t)) :
    Tl (b ++ wdT q s) hE (fun t => bl (wdT q s ++ t)) o el (ws ++ [⟨stW q s, wdq q s, (advs (1, 1) b).1, (advs (1, 1) b).2⟩]) es := by
  obtain ⟨fl, fc, h⟩ := h
  refine ⟨fl, fc, fun t ht => ?_⟩
  rw [List.append_assoc, h _ (hc t ht), play_word (fun _ => ht), advs_append, advs_noLf _ _ (wdT_noLf q s)]
  rfl
/-- a line's end behind all. -/
def tailB : By := [32, 59, 32, 34, 32, 40, 32, 10]
theorem Tl.fin {b : By} {c : By → Prop} {bl : By → Bool} {B : Bool} {el : Nat} {ws : List Wd} {es : List En} (h : Tl b c bl 0 el ws es) (hc : ∀ t, c (tailB ++ t)) (hbl : ws ≠ [] → ∀ t, bl t = B) :
    Tl (b ++ tailB) (fun _ => True) hb 0 (advs (1, 1) (b ++ tailB)).1 [] (if ws = [] then es else es ++ [⟨B, el, ws⟩]) := by
  obtain ⟨fl, fc, h⟩ := h
  refine ⟨fl, fc, fun t _ => ?_⟩
  rw [List.append_assoc, h _ (hc t)]
  have e : tailB ++ t = 32 :: 59 :: ([32, 34, 32, 40, 32] ++ 10 :: t) := rfl
  generalize hx : bl (tailB ++ t) = x
  rw [e, lx_ch (by decide) (by decide) (by decide), play, if_neg (by decide), if_neg (by decide), if_neg (by decide), lx_rem_to (noLf_dec (by decide)), play, lx_ch (by decide) (by decide) (by decide), play, if_pos (by decide)]
  simp only [St.go, St.nl, if_true, hp_lx, St.done]
  have e2 : advs (1, 1) (b ++ tailB) = ((advs (1, 1) b).1 + 1, 1) := by rw [advs_append]; rfl
  rw [e2]
  cases ws with
  | nil => rfl
  | cons a r => rw [← hx, hbl (by simp)]; rfl
theorem Tl.done {b : By} {c : By → Prop} {bl : By → Bool} {el : Nat} {es : List En} (h : Tl b c bl 0 el [] es) (hc : c []) : tells b = .ok es := by
  obtain ⟨fl, fc, h⟩ := h
  have := h [] hc
  rw [List.append_nil] at this
  rw [this]
  rfl
/-- between the words of an entry: how many there are, and what holds. -/
structure Lv (B : Bool) (k : Nat) (b : By) (ws : List Wd) (o el : Nat) (es : List En) : Prop where
  n : ws.length = k
  on : (B = true ∨ 0 < k) → ∃ c bl, (∀ t, hE t → c t) ∧ (∀ t, bl t = B) ∧ Tl b c bl o el ws es
  off : ¬(B = true ∨ 0 < k) → o = 0 ∧ Tl b (fun _ => True) hb 0 el ws es
/-- with the gap laid, if there must be one. -/
structure Lr (B : Bool) (k : Nat) (b : By) (ws : List Wd) (o el : Nat) (es : List En) : Prop where
  n : ws.length = k
  tl : ∃ bl, (∀ q s t, bl (wdT q s ++ t) = B) ∧ Tl b (fun _ => True) bl o el ws es
theorem Lr.word {B : Bool} {k : Nat} {b : By} {ws : List Wd} {o el : Nat} {es : List En} (h : Lr B k b ws o el es) (q : Bool) (s : By) : Lv B (k + 1) (b ++ wdT q s) (ws ++ [⟨stW q s, wdq q s, (advs (1, 1) b).1, (advs (1, 1) b).2⟩]) o el es := by
  obtain ⟨bl, h1, h2⟩ := h.tl
  exact ⟨by simp [h.n], fun _ => ⟨_, _, fun _ h => h, fun t => h1 q s t, h2.word q s (fun _ _ => trivial)⟩, fun h => absurd (.inr (by omega)) h⟩
/-- behind the words. -/
structure Lf (B : Bool) (b : By) (ws : List Wd) (o el : Nat) (es : List En) : Prop where
  tl : ∃ bl, (ws ≠ [] → ∀ t, bl t = B) ∧ Tl b (fun _ => True) bl o el ws es
theorem Lv.last {B : Bool} {k : Nat} {b : By} {ws : List Wd} {o el : Nat} {es : List En} (h : Lv B k b ws o el es) (g : Nat) : Lf B (b ++ gapB g o) ws (gapO g o) el es := by
  by_cases hk : B = true ∨ 0 < k
  · obtain ⟨c, bl, h1, h2, h3⟩ := h.on hk
    exact ⟨_, fun _ t => h2 _, h3.move (gap_mv g o) (fun t => h1 _ (gapB_head g o t))⟩
  · obtain ⟨rfl, h1⟩ := h.off hk
    refine ⟨_, fun hw => absurd (List.eq_nil_of_length_eq_zero (by have := h.n; omega)) hw, h1.move (gap_mv g 0) (fun t => trivial)⟩
theorem Lf.close {B : Bool} {b : By} {ws : List Wd} {o el : Nat} {es : List En} (h : Lf B b ws (o + 1) el es) : Lf B (b ++ [41]) ws o el es := by
  obtain ⟨bl, h1, h2⟩ := h.tl
  exact ⟨_, fun hw t => h1 hw _, h2.move (Mv.cl o) (fun _ => trivial)⟩
theorem Lf.fin {B : Bool} {b : By} {ws : List Wd} {el : Nat} {es : List En} (h : Lf B b ws 0 el es) :
    Tl (b ++ tailB) (fun _ => True) hb 0 (advs (1, 1) (b ++ tailB)).1 [] (if ws = [] then es else es ++ [⟨B, el, ws⟩]) := by
  obtain ⟨bl, h1, h2⟩ := h.tl
  exact h2.fin (fun _ => trivial) h1
end Go.Proofs.YtekafhogiambaaaGreatDoor.Tk
namespace Go.Proofs.YtekafhogiambaaaGreatDoor.Tk

/-- bytes that a bare word takes, whatever is behind them. -/
def WholeL (p : By) : Prop := ∀ t, bareLen (p ++ t) = p.length + bareLen t
theorem WholeL.nil : WholeL [] := fun t => by simp
theorem WholeL.app {p q : By} (h : WholeL p) (h2 : WholeL q) : WholeL (p ++ q) := fun t => by
  rw [List.append_assoc, h, h2, List.length_append]
  omega
theorem WholeL.one {c : UInt8} (h : ends c = false) (h2 : c.toNat ≠ 92) : WholeL [c] := fun t => by
  rw [List.cons_append, List.nil_append, bareLen_one h h2]
  rfl
theorem WholeL.back {d : UInt8} (h : d.toNat ≠ 10) : WholeL [92, d] := fun t => by
  rw [List.cons_append, List.cons_append, List.nil_append, bareLen_92 h]
  rfl
theorem WholeL.all : ∀ {p : By}, (∀ c ∈ p, ends c = false ∧ c.toNat ≠ 92) → WholeL p
  | [], _ => WholeL.nil
  | c :: r, h => (WholeL.one (h c (by simp)).1 (h c (by simp)).2).app (WholeL.all (p := r) (fun x hx => h x (by simp [hx])))
/-- bytes that a quoted word takes. -/
def WholeQ (p : By) : Prop := ∀ t, quoLen (p ++ t) = (quoLen t).map (p.length + ·)
theorem WholeQ.nil : WholeQ [] := fun t => by
  rw [List.nil_append]
  cases quoLen t with
  | none => rfl
  | some k => simp
theorem WholeQ.app {p q : By} (h : WholeQ p) (h2 : WholeQ q) : WholeQ (p ++ q) := fun t => by
  rw [List.append_assoc, h, h2]
  cases quoLen t with
  | none => rfl
  | some k => simp; omega
theorem WholeQ.one {c : UInt8} (h : c.toNat ≠ 10) (h1 : c.toNat ≠ 34) (h2 : c.toNat ≠ 92) : WholeQ [c] := fun t => by
  rw [List.cons_append, List.nil_append, quoLen_one h h1 h2]
  rfl
theorem WholeQ.back {d : UInt8} (h : d.toNat ≠ 10) : WholeQ [92, d] := fun t => by
  rw [List.cons_append, List.cons_append, List.nil_append, quoLen_92 h]
  rfl
end Go.Proofs.YtekafhogiambaaaGreatDoor.Tk
namespace Go.Proofs.YtekafhogiambaaaGreatDoor.Mh
open Rd (By)

/-- a word that stands as it is. -/
def Pw (s : By) : Prop := s ≠ [] ∧ ∀ c ∈ s, Tk.stB false c = [c]
theorem st_plain : ∀ {s : By}, (∀ c ∈ s, Tk.stB false c = [c]) → Tk.stW false s = s
  | [], _ => rfl
  | c :: r, h => by
    rw [Tk.stW_cons, h c (by simp), st_plain (fun x hx => h x (by simp [hx]))]
    rfl
theorem Pw.wdq {s : By} (h : Pw s) : Tk.wdq false s = false := by
  cases s with
  | nil => exact absurd rfl h.1
  | cons c r => rfl
theorem Pw.wdT {s : By} (h : Pw s) : Tk.wdT false s = s := by
  unfold Tk.wdT
  rw [h.wdq, st_plain h.2]
  rfl
section
variable {B : Bool} {k : Nat} {b : By} {ws : List Tk.Wd} {o el : Nat} {es : List Tk.En}
theorem sep (h : Tk.Lv B k b ws o el es) (hk : B = true ∨ 0 < k) {a : By} {o' : Nat} (hm : Tk.Mv a o o') (ha : ∀ t, Tk.hE (a ++ t)) : Tk.Lr B k (b ++ a) ws o' el es := by
  obtain ⟨c, bl, h1, h2, h3⟩ := h.on hk
  exact ⟨h.n, fun t => bl (a ++ t), fun q s t => h2 _, h3.move hm (fun t => h1 _ (ha t))⟩
theorem word (h : Tk.Lr B k b ws o el es) {s : By} (hs : Pw s) : ∃ l c, Tk.Lv B (k + 1) (b ++ s) (ws ++ [⟨s, false, l, c⟩]) o el es := by
  have := h.word false s
  rw [hs.wdT, st_plain hs.2, hs.wdq] at this
  exact ⟨_, _, this⟩
def Its (l : List (UInt8 × By)) : Prop := ∀ x ∈ l, Tk.blank x.1 = true ∧ Pw x.2
end
section
variable {B : Bool} {b : By} {c : By → Prop} {bl : By → Bool} {el : Nat} {ws : List Tk.Wd} {es : List Tk.En}
theorem Tl.nl (h : Tk.Tl b c bl 0 el ws es) (hc : ∀ t, c (10 :: t)) (hbl : ∀ t, bl t = B) (hw : ws ≠ []) : ∃ el', Tk.Tl (b ++ [10]) (fun _ => True) Tk.hb 0 el' [] (es ++ [⟨B, el, ws⟩]) := by
  obtain ⟨fl, fc, h⟩ := h
  refine ⟨(Tk.advs (1, 1) (b ++ [10])).1, fl, fc, fun t _ => ?_⟩
  rw [List.append_assoc, List.cons_append, List.nil_append, h _ (hc t), hbl]
  rw [Tk.lx_ch (by decide) (by decide) (by decide), Tk.play, if_pos (by decide)]
  simp only [Tk.St.nl, if_true, Tk.hp_lx, Tk.St.done]
  have e2 : Tk.advs (1, 1) (b ++ [10]) = ((Tk.advs (1, 1) b).1 + 1, 1) := by rw [Tk.advs_append]; rfl
  rw [e2]
  cases ws with
  | nil => exact absurd rfl hw
  | cons a r => rfl
end
section
variable {B : Bool} {k : Nat} {b : By} {ws : List Tk.Wd} {el : Nat} {es : List Tk.En}
end
/-- what a record's data are. -/
def dat (o : By) : Rd.Dt := ⟨[], [1, 110] ++ o, [], 0, 0, 0, 0, 0⟩
/-- a record's words: the TTL, and the class ahead of it or behind it. -/
def its (tm cl bh : Bool) (n : Nat) : List (UInt8 × By) :=
  (if cl && !bh then [(32, [73, 110])] else []) ++ ((if tm then [(32, Rd.dec n)] else []) ++ ((if cl && bh then [(9, [73, 78])] else []) ++ [(32, [110, 115])]))
section
variable {l c : Nat}
theorem num_IN : Ma.num ⟨[73, 78], false, l, c⟩ = none := show Rd.num [73, 78] 4294967295 = none by decide
theorem kw_IN : Ma.kw ⟨[73, 78], false, l, c⟩ = [105, 110] := show Nm.fold [73, 78] = _ by decide
end
end Go.Proofs.YtekafhogiambaaaGreatDoor.Mh
namespace Go.Proofs.YtekafhogiambaaaGreatDoor.Mt
open Rd (By)

theorem entries_app : ∀ {es : List Tk.En} {s s1 : Ma.S} {fs : List Tk.En}, Ma.entries s es = .ok s1 → Ma.entries s (es ++ fs) = Ma.entries s1 fs
  | [], s, s1, fs, h => by
    rw [Ma.entries] at h
    injection h with h
    rw [h]; rfl
  | e :: es, s, s1, fs, h => by
    rw [Ma.entries] at h
    rw [List.cons_append, Ma.entries]
    split at h
    · cases h
    · split at h
      · cases h
      · exact entries_app h
theorem entry_pre {s s' : Ma.S} {bl : Bool} {x : Tk.Wd} {r : List Tk.Wd} (h : Ma.entry s bl x r = .ok s') : ∃ l, s'.recs = s.recs ++ l ∧ l.length ≤ 1 := by
  unfold Ma.entry at h
  split at h
  · unfold Ma.directive at h
    split at h
    · split at h
      · split at h
        · injection h with h; rw [← h]; exact ⟨[], by simp, by simp⟩
        · cases h
      · split at h
        · split at h
          · split at h
            · injection h with h; rw [← h]; exact ⟨[], by simp, by simp⟩
            · cases h
          · cases h
        · cases h
    · cases h
  · split at h
    · cases h
    · split at h
      · cases h
      · injection h with h
        rw [← h]
        exact ⟨[_], rfl, by simp⟩
/-- records are put behind those that there are. -/
theorem entries_pre : ∀ {es : List Tk.En} {s s' : Ma.S}, Ma.entries s es = .ok s' → ∃ l, s'.recs = s.recs ++ l ∧ l.length ≤ es.length
  | [], s, s', h => by
    rw [Ma.entries] at h
    injection h with h
    rw [h]; exact ⟨[], by simp, by simp⟩
  | e :: es, s, s', h => by
    rw [Ma.entries] at h
    split at h
    · cases h
    · split at h
      · cases h
      · rename_i s1 h1
        obtain ⟨l1, e1, n1⟩ := entry_pre h1
        obtain ⟨l2, e2, n2⟩ := entries_pre h
        exact ⟨l1 ++ l2, by rw [e2, e1, List.append_assoc], by rw [List.length_append, List.length_cons]; omega⟩
section
variable {a b : By} {es : List Tk.En} {s0 s1 : Ma.S}
/-- a text behind one that is read: what is told ahead is the same. -/
theorem both {eb : List Tk.En} {s2 : Ma.S} (ha : Tk.tells a = .ok es) (he : Ma.entries s0 es = .ok s1) (hb : Tk.tells (a ++ 10 :: b) = .ok eb) (h2 : Ma.entries s0 eb = .ok s2) : ∃ l, s2.recs = s1.recs ++ l := by
  rw [Tk.tells_cat ha] at hb
  cases ht : Tk.tells b with
  | err l c x => rw [ht] at hb; cases hb
  | ok ec =>
    rw [ht] at hb
    simp only [Tk.shR] at hb
    injection hb with hb
    subst hb
    rw [entries_app he] at h2
    obtain ⟨l, e, _⟩ := entries_pre h2
    exact ⟨l, e⟩
def dxB : By := [36, 120]
def dxE : List Tk.En := [⟨false, 1, [⟨[36, 120], false, 1, 1⟩]⟩]
theorem dx_tells : Tk.tells dxB = .ok dxE := by kernel_rfl
/-- a wrong directive behind a text that is read. -/
theorem wrong {ec : List Tk.En} (ha : Tk.tells a = .ok es) (he : Ma.entries s0 es = .ok s1) (hb : Tk.tells b = .ok ec) :
    ∃ eb, Tk.tells (a ++ 10 :: (dxB ++ 10 :: b)) = .ok eb ∧ Ma.entries s0 eb = .error ⟨94, Tk.lfs a + 2, 1⟩ := by
  rw [Tk.tells_cat ha, Tk.tells_cat dx_tells, hb]
  refine ⟨_, rfl, ?_⟩
  rw [entries_app he]
  have e : Tk.shE (Tk.lfs a + 1) ⟨false, 1, [⟨[36, 120], false, 1, 1⟩]⟩ = ⟨false, 1 + (Tk.lfs a + 1), [⟨[36, 120], false, 1 + (Tk.lfs a + 1), 1⟩]⟩ := rfl
  simp only [dxE, List.cons_append, List.nil_append, List.map_cons, e]
  rw [Ma.entries]
  have hd : Ma.isDir false (⟨[36, 120], false, 1 + (Tk.lfs a + 1), 1⟩ : Tk.Wd) = true := by
    show (match Nm.fold [36, 120] with
      | x :: _ => x == 36
      | [] => false) = true
    decide
  simp only [Ma.entry, hd, if_true, Ma.directive, Ma.at_]
  have : 1 + (Tk.lfs a + 1) = Tk.lfs a + 2 := by omega
  rw [this]
def qxB : By := [120, 46, 32, 49, 32, 73, 78, 32, 34, 65, 34, 32, 49, 46, 49, 46, 49, 46, 49, 10]
def qxE : List Tk.En := [⟨false, 1, [⟨[120, 46], false, 1, 1⟩, ⟨[49], false, 1, 4⟩, ⟨[73, 78], false, 1, 6⟩, ⟨[65], true, 1, 9⟩, ⟨[49, 46, 49, 46, 49, 46, 49], false, 1, 13⟩]⟩]
theorem qx_tells : Tk.tells qxB = .ok qxE := by kernel_rfl
/-- a quoted type behind a text that is read. -/
theorem quoted (ha : Tk.tells a = .ok es) (he : Ma.entries s0 es = .ok s1) (h0 : s0.recs = []) (ho : Rd.nm s1.o = true) (hl : a.length ≤ 3000) :
    ∃ eb, Tk.tells (a ++ 10 :: qxB) = .ok eb ∧ Ma.entries s0 eb = .error ⟨93, Tk.lfs a + 2, 9⟩ := by
  rw [Tk.tells_cat ha, qx_tells]
  refine ⟨_, rfl, ?_⟩
  rw [entries_app he]
  obtain ⟨l, e1, e2⟩ := entries_pre he
  have hf := (Tk.tells_fit ha).1
  rw [h0, List.nil_append] at e1
  have hne : ¬ s1.recs.length = 4096 := by rw [e1]; omega
  have hn : 1 + (Tk.lfs a + 1) = Tk.lfs a + 2 := by omega
  simp only [qxE, List.map_cons, List.map_nil, Tk.shE, Tk.shW, hn]
  rw [Ma.entries]
  have hd : Ma.isDir false (⟨[120, 46], false, Tk.lfs a + 2, 1⟩ : Tk.Wd) = false := by
    show (match Nm.fold [120, 46] with
      | x :: _ => x == 36
      | [] => false) = false
    decide
  have h1 : Ma.num (⟨[49], false, Tk.lfs a + 2, 4⟩ : Tk.Wd) = some 1 := show Rd.num [49] 4294967295 = some 1 by decide
  have h2 : Ma.num (⟨[73, 78], false, Tk.lfs a + 2, 6⟩ : Tk.Wd) = none := Mh.num_IN
  have h3 : Ma.kw (⟨[73, 78], false, Tk.lfs a + 2, 6⟩ : Tk.Wd) = [105, 110] := Mh.kw_IN
  have h4 : Ma.isClass (⟨[73, 78], false, Tk.lfs a + 2, 6⟩ : Tk.Wd) = true := by unfold Ma.isClass; rw [h3]; rfl
  have h5 : Ma.num (⟨[65], true, Tk.lfs a + 2, 9⟩ : Tk.Wd) = none := rfl
  have hnm : ∃ n, Ma.name s1.o (⟨[120, 46], false, Tk.lfs a + 2, 1⟩ : Tk.Wd) = some n := by
    have h := Rd.nameR_text (n := [1, 120, 0]) (o := s1.o) (by decide) ho
    rw [show Nm.text [1, 120, 0] = [120, 46] from by decide] at h
    exact ⟨_, h⟩
  obtain ⟨n, hnm⟩ := hnm
  simp only [Ma.entry, hd, Bool.false_eq_true, if_false, hne, Ma.record, Ma.owner, hnm, Ma.tc, h1, h2, h3, h4, h5, Option.isSome_some, Option.getD_some, Option.isSome_none, and_self, if_true, false_and, Bool.true_eq_false, and_false, Nat.reduceLeDiff, Ma.tail, Ma.at_]
end
end Go.Proofs.YtekafhogiambaaaGreatDoor.Mt
namespace Go.Proofs.YtekafhogiambaaaGreatDoor
open Go.RowKit Go.Sort Go.Shelf

section
variable {α : Type} [Inhabited α] {enc : α → List Value} {k : Nat} {w w' : World} {g : Nat} {t : TypeId}
theorem flat_at (hk : ∀ x, (enc x).length = k) (d : Array α) {i j : Nat} (hi : i < d.size) (hj : j < k) : (flatK enc k d)[i * k + j]? = (enc d[i])[j]? := by
  have h0 : 0 < k := by omega
  have hlt : i * k + j < d.size * k := by
    have : (i + 1) * k ≤ d.size * k := Nat.mul_le_mul_right k hi
    rw [Nat.add_mul, Nat.one_mul] at this
    omega
  have hd : (i * k + j) / k = i := by rw [Nat.mul_comm, Nat.mul_add_div h0, Nat.div_eq_of_lt hj, Nat.add_zero]
  have hm : (i * k + j) % k = j := by rw [Nat.mul_comm, Nat.mul_add_mod, Nat.mod_eq_of_lt hj]
  have h := get_flatK enc k d (i * k + j) hlt
  rw [hd, hm, getElem!_pos d i hi] at h
  have hs : i * k + j < (flatK enc k d).size := by simpa using hlt
  rw [getElem!_pos (flatK enc k d) _ hs, getElem!_pos (enc d[i]) j (by rw [hk]; exact hj)] at h
  rw [Array.getElem?_eq_getElem hs, h, List.getElem?_eq_getElem (by rw [hk]; exact hj)]
end
end Go.Proofs.YtekafhogiambaaaGreatDoor
namespace Go.Proofs.YtekafhogiambaaaGreatDoor
open Go.RowKit Go.Sort Go.Shelf

section
variable {α : Type} {enc : α → List Value} {k : Nat}
theorem fl_flatK [Inhabited α] (hk : ∀ x, (enc x).length = k) (d : Array α) : (flatK enc k d).toList = fl enc d.toList := by
  apply List.ext_getElem?
  intro t
  by_cases ht : t < d.size * k
  · have h0 : 0 < k := by
      rcases Nat.eq_zero_or_pos k with h | h
      · subst h; simp at ht
      · exact h
    have hi : t / k < d.size := Nat.div_lt_of_lt_mul (by rw [Nat.mul_comm]; exact ht)
    have hm : t % k < k := Nat.mod_lt _ h0
    have e : t / k * k + t % k = t := by rw [Nat.mul_comm]; exact Nat.div_add_mod t k
    have h1 := flat_at hk d hi hm
    have h2 := fl_get hk d.toList (j := t / k) (i := t % k) (by simpa using hi) hm
    rw [e] at h1 h2
    rw [Array.getElem?_toList, h1, h2]
    simp
  · rw [List.getElem?_eq_none (by simp; omega), List.getElem?_eq_none (by rw [fl_len hk]; simp; omega)]
end
section
variable {α : Type} {enc : α → List Value} {k : Nat} {w w' : World} {base B : Nat} {e : TypeId} {v : Value} {xs : List α}
theorem Own.holds [Inhabited α] (hk : ∀ x, (enc x).length = k) {g n c : Nat} (h : Own enc k w base e (.slice (some ⟨g, 0, none⟩) n c) xs) (h0 : 0 < xs.length) : HoldsK enc k w g 0 xs.toArray := by
  obtain ⟨g', cp, cur, hv, hc, hb, hlt, hg, ht⟩ := ownK_pos h h0
  injection hv with hv _ _
  injection hv with hv
  injection hv with hv
  subst hv
  intro j hj
  have hf := fl_flatK hk xs.toArray
  refine ⟨?_, frozen_of_row w g _ cur e hg⟩
  rw [cell_of_row w g _ cur e (0, 0) hg, Nat.zero_add, getElem!_pos _ j hj]
  refine take_at ht ?_
  rw [show fl enc xs = (flatK enc k xs.toArray).toList from hf.symm, Array.getElem?_toList, Array.getElem?_eq_getElem hj]
  rfl
end
end Go.Proofs.YtekafhogiambaaaGreatDoor
namespace Go.Proofs.YtekafhogiambaaaGreatDoor
open Go.ChangeShapes Go.WideShapes Go.ChangeAt Go.RowKit

theorem own : ownKnob Tryz.prog.godebug = none := by kernel_rfl
theorem out : laidOutB Tryz.prog = true := by kernel_rfl

/-- what holds behind a call of which 'Below' is known: the places that were read are as they were. -/
theorem post_low {H : Type} {enc : TypeId × Value → H} {P : Program} {f : Func} {s : ChangeSpec} {apart fresh handsOn again : Bool} {W W' : World} {args : Array Value} {v : Value} {ds gs : List (DataW H)} {before pa pv : List MemPlace}
    (hW : DataW.Whole enc P f.params.toList s.vars apart W args.toList ds gs before) (hps : before = pa ++ pv) (hb : Below W.heap.size W W')
    (hres : ∀ (b : Nat) (sp : Nat → Bool) (hd : Bool), DataW.TrodAll enc P W' b sp hd f.resultTypes.toList (v.resultList f.resultTypes.size) (s.fn H (ds ++ gs)).results [])
    (hargs : ∀ sp : Nat → Bool, (∀ p ∈ before, sp p.block = true) → DataW.TrodAll enc P W' 0 sp true f.params.toList args.toList (s.fn H (ds ++ gs)).args pa)
    (hvars : ∀ sp : Nat → Bool, (∀ p ∈ before, sp p.block = true) → DataW.TrodVars enc P W' sp s.vars (s.fn H (ds ++ gs)).vars pv)
    (hok : ∀ (j : Nat) (t : TypeId) (r : Value), f.resultTypes[j]? = some t → (v.resultList f.resultTypes.size)[j]? = some r → Value.okWide P W' .any 0 t r) :
    s.post enc P f apart fresh handsOn again W args v W' := by
  have hin : ∀ p ∈ before, (fun b => decide (b < W.heap.size)) p.block = true := fun p hp => by simpa using hW.lt p hp
  have hmem : ∀ p ∈ before, p ∈ pa ∨ p ∈ pv := fun p hp => by rw [hps] at hp; exact List.mem_append.1 hp
  refine ⟨ds, gs, before, [], pa, pv, hW, hres _ _ _, hargs _ hin, hvars _ hin, World.keptBut_mono (fun p hp => ⟨hp, .inr (hmem p hp)⟩) (hb.frame (· ∈ before)), fun _ => ?_⟩
  obtain ⟨_, _, _, _, _, hz, hn⟩ := id hW
  refine ⟨hok, _, _, ([] ++ pa) ++ pv, ⟨[] ++ pa, pv, trodAll_append (hargs _ (fun _ _ => rfl)) (hres _ _ _), hvars _ (fun _ _ => rfl), rfl, fun b off hp => ?_, fun ha => ?_⟩, fun p hp _ => ?_⟩
  · have hb' : MemPlace.cell b off ∈ before := by rw [hps]; simpa using hp
    exact (hb.frozen (hW.lt _ hb')).trans (hz b off hb')
  · have h := hn ha
    rw [hps] at h
    simpa using h
  · rw [hps]; simpa using hp

theorem reach_cons {H : Type} {P : Program} {t : TypeId} {ts : List TypeId} {d : DataW H} {r : List (DataW H)} (h : (DataW.weightsEach P (t :: ts) (d :: r)).all (· ≤ reachBytes) = true) :
    (d.weights P t).all (· ≤ reachBytes) = true ∧ (DataW.weightsEach P ts r).all (· ≤ reachBytes) = true := by
  have e : DataW.weightsEach P (t :: ts) (d :: r) = d.weights P t ++ DataW.weightsEach P ts r := rfl
  rw [e, List.all_append, Bool.and_eq_true] at h
  exact h
theorem reach_str {H : Type} {P : Program} {t : TypeId} {s : ByteArray} (h : ((DataW.lit (.string s.data.toList) : DataW H).weights P t).all (· ≤ reachBytes) = true) : s.size ≤ 140737488351232 := by
  have e : (DataW.lit (.string s.data.toList) : DataW H).weights P t = [s.data.toList.length] := by unfold DataW.weights; rfl
  rw [e, List.all_cons, Bool.and_eq_true] at h
  have := of_decide_eq_true h.1
  unfold reachBytes at this
  simpa using this
/-- all arguments read behind the call as they did. -/
theorem trodAll_stays {H : Type} {enc : TypeId × Value → H} {P : Program} (hl : laidOutB P = true) {W W' : World} {sp : Nat → Bool} : ∀ {ts : List TypeId} {vs : List Value} {ds : List (DataW H)} {ps : List MemPlace},
    (ts.all fun t => P.readableRec t && decide (t < P.types.size)) = true → DataW.TrodAll enc P W 0 (fun _ => true) true ts vs ds ps → (∀ p ∈ ps, W.sameAt W' p) → (∀ p ∈ ps, sp p.block = true) → DataW.TrodAll enc P W' 0 sp true ts vs ds ps := by
  intro ts
  induction ts with
  | nil =>
    intro vs ds ps _ h _ _
    obtain ⟨rfl, rfl, rfl⟩ := trodAll_nil h
    exact trodAll_mk0
  | cons t ts ih =>
    intro vs ds ps hr h hs hsp
    obtain ⟨v, vs', d, ds', p, q, rfl, rfl, rfl, h0, h1⟩ := trodAll_cons h
    simp only [List.all_cons, Bool.and_eq_true, decide_eq_true_eq] at hr
    exact trodAll_cons_mk (WideElems.Trod_stays hl hr.1.1 hr.1.2 h0 (fun x hx => hs x (List.mem_append_left _ hx)) (fun x hx => hsp x (List.mem_append_left _ hx)))
      (ih (by simpa using hr.2) h1 (fun x hx => hs x (List.mem_append_right _ hx)) (fun x hx => hsp x (List.mem_append_right _ hx)))
end Go.Proofs.YtekafhogiambaaaGreatDoor
namespace Go.Proofs.YtekafhogiambaaaGreatDoor
open Go.ChangeShapes Go.WideShapes Go.Deep Go.RowKit

section
variable {H : Type} {enc : TypeId × Value → H} {P : Program} {w : World} {base : Nat} {spare : Nat → Bool} {held : Bool}
end

structure It where
  skip : Int
  name : ByteArray
  plain : Bool
/-- items that stand from a slice's head on. -/
def Its (w : World) (hi : Nat) (A : Option Addr) (its : List It) : Prop :=
  0 < its.length → ∃ g o, A = some ⟨g, o, none⟩ ∧ g < hi ∧ ∀ j (h : j < its.length), w.cell? ⟨g, o + j * 3, none⟩ = some (.int .i64 its[j].skip) ∧ w.cell? ⟨g, o + j * 3 + 1, none⟩ = some (.string its[j].name) ∧ w.cell? ⟨g, o + j * 3 + 2, none⟩ = some (.bool its[j].plain)
theorem Its.keep {w w' : World} {hi : Nat} {A : Option Addr} {its : List It} (h : Its w hi A its) (hb : Below hi w w') : Its w' hi A its := fun h0 => by
  obtain ⟨g, o, hA, hg, hc⟩ := h h0
  exact ⟨g, o, hA, hg, fun j hj => ⟨(hb.cell hg).trans (hc j hj).1, (hb.cell hg).trans (hc j hj).2.1, (hb.cell hg).trans (hc j hj).2.2⟩⟩
end Go.Proofs.YtekafhogiambaaaGreatDoor
namespace Go.Proofs.YtekafhogiambaaaGreatDoor
open Go.ChangeShapes Go.WideShapes Go.Deep Go.RowKit

structure DIt where
  skip : Int
  ty : Nat
  data : Dv
/-- items that stand from a slice's head on. -/
def DIts (w : World) (hi : Nat) (A : Option Addr) (its : List DIt) : Prop :=
  0 < its.length → ∃ g o, A = some ⟨g, o, none⟩ ∧ g < hi ∧ ∀ j (h : j < its.length), w.cell? ⟨g, o + j * 10, none⟩ = some (.int .i64 its[j].skip) ∧ w.cell? ⟨g, o + j * 10 + 1, none⟩ = some (.int .u16 its[j].ty) ∧ ∀ i, i < 8 → w.cell? ⟨g, o + j * 10 + 2 + i, none⟩ = its[j].data.cells[i]?
theorem DIts.keep {w w' : World} {hi : Nat} {A : Option Addr} {its : List DIt} (h : DIts w hi A its) (hb : Below hi w w') : DIts w' hi A its := fun h0 => by
  obtain ⟨g, o, hA, hg, hc⟩ := h h0
  exact ⟨g, o, hA, hg, fun j hj => ⟨(hb.cell hg).trans (hc j hj).1, (hb.cell hg).trans (hc j hj).2.1, fun i hi => (hb.cell hg).trans ((hc j hj).2.2 i hi)⟩⟩
end Go.Proofs.YtekafhogiambaaaGreatDoor
namespace Go.Proofs.YtekafhogiambaaaGreatDoor
open Go.ChangeShapes Go.WideShapes Go.Deep Go.RowKit

namespace Rv
/-- its numbers are numbers. -/
def fits (r : Rv) : Prop := r.ty ≤ 65535 ∧ r.cl ≤ 65535 ∧ r.ttl ≤ 4294967295 ∧ r.d.fits
end Rv
abbrev rcl (r : Rv) : List Value := r.cells.toList
end Go.Proofs.YtekafhogiambaaaGreatDoor
namespace Go.Proofs.YtekafhogiambaaaGreatDoor
open Go.RowKit

def rvB (a b : Rv) : Bool := (a.nm.toList == b.nm.toList) && (((a.ty : Int) == b.ty) && (((a.cl : Int) == b.cl) && (((a.ttl : Int) == b.ttl) && dvB a.d b.d)))
set_option maxRecDepth 100000 in
theorem rvRun (W : World) (a b : Rv) (d : Nat) : (Op.equalIn (d + 5) 39 (.agg a.cells) (.agg b.cells)).run Tryz.prog W = .ok (rvB a b) W := by
  rw [run_equalIn_agg W (d + 4) _ _ _ (by kernel_rfl) Tryz.stoodInHeld39]
  have hf : (Tryz.prog.fieldsOf 39).toList.map (fun f => (f.name != "_", f.type, f.offset)) = [(true, 22, 0), (true, 34, 1), (true, 34, 2), (true, 24, 3), (true, 37, 4)] := by kernel_rfl
  have hlen : (Tryz.prog.fieldsOf 39).toList.length = 5 := by kernel_rfl
  generalize (Tryz.prog.fieldsOf 39).toList = fs at *
  match fs, hlen, hf with
  | [f0, f1, f2, f3, f4], _, hf =>
    simp only [List.map_cons, List.map_nil, List.cons.injEq, Prod.mk.injEq] at hf
    obtain ⟨⟨n0, t0, o0⟩, ⟨n1, t1, o1⟩, ⟨n2, t2, o2⟩, ⟨n3, t3, o3⟩, ⟨n4, t4, o4⟩, _⟩ := hf
    have p0 : ∀ x : Rv, (part 22 x.cells 0).run Tryz.prog W = .ok (.string x.nm) W := fun _ => rfl
    have p1 : ∀ x : Rv, (part 34 x.cells 1).run Tryz.prog W = .ok (.int .u16 x.ty) W := fun _ => rfl
    have p2 : ∀ x : Rv, (part 34 x.cells 2).run Tryz.prog W = .ok (.int .u16 x.cl) W := fun _ => rfl
    have p3 : ∀ x : Rv, (part 24 x.cells 3).run Tryz.prog W = .ok (.int .u32 x.ttl) W := fun _ => rfl
    have p4 : ∀ x : Rv, (part 37 x.cells 4).run Tryz.prog W = .ok (.agg x.d.cells) W := fun _ => rfl
    have m0 : ¬ (f0.name = "_") := by simpa using n0
    have m1 : ¬ (f1.name = "_") := by simpa using n1
    have m2 : ¬ (f2.name = "_") := by simpa using n2
    have m3 : ¬ (f3.name = "_") := by simpa using n3
    have m4 : ¬ (f4.name = "_") := by simpa using n4
    have st : ∀ (f : Field) (va vb : Value) (x y : Bool) (fs : List Field), ¬ (f.name = "_") → (part f.type a.cells f.offset).run Tryz.prog W = .ok va W → (part f.type b.cells f.offset).run Tryz.prog W = .ok vb W →
        (Op.equalIn (d + 4) f.type va vb).run Tryz.prog W = .ok x W → (Op.eqFields (d + 4) a.cells b.cells fs).run Tryz.prog W = .ok y W → (Op.eqFields (d + 4) a.cells b.cells (f :: fs)).run Tryz.prog W = .ok (x && y) W := fun f va vb x y fs hn ha hb he hr => by
      simp only [Op.eqFields, ne_eq, hn, not_false_eq_true, if_true, Sem.run_bind, ha, hb, he, Result.andThen_ok]
      exact and_run W (fun _ => Op.eqFields (d + 4) a.cells b.cells fs) _ hr
    have h4 := st f4 _ _ _ true [] m4 (by rw [t4, o4]; exact p4 a) (by rw [t4, o4]; exact p4 b) (by rw [t4]; exact dvRun W a.d b.d d) rfl
    rw [Bool.and_true] at h4
    exact st f0 _ _ _ _ _ m0 (by rw [t0, o0]; exact p0 a) (by rw [t0, o0]; exact p0 b) (by rw [t0]; exact run_equalIn_string W _ _ _ _ Tryz.underlying22)
      (st f1 _ _ _ _ _ m1 (by rw [t1, o1]; exact p1 a) (by rw [t1, o1]; exact p1 b) (by rw [t1]; exact run_equalIn_int W _ _ _ _ _ _ Tryz.underlying34)
        (st f2 _ _ _ _ _ m2 (by rw [t2, o2]; exact p2 a) (by rw [t2, o2]; exact p2 b) (by rw [t2]; exact run_equalIn_int W _ _ _ _ _ _ Tryz.underlying34)
          (st f3 _ _ _ _ _ m3 (by rw [t3, o3]; exact p3 a) (by rw [t3, o3]; exact p3 b) (by rw [t3]; exact run_equalIn_int W _ _ _ _ _ _ Tryz.underlying24) h4)))
theorem rvB_iff (a b : Rv) : rvB a b = true ↔ a = b := by
  obtain ⟨nm, ty, cl, ttl, d⟩ := a
  obtain ⟨nm', ty', cl', ttl', d'⟩ := b
  unfold rvB
  rw [strB]
  simp only [Bool.and_eq_true, decide_eq_true_eq, beq_iff_eq, dvB_iff, Rv.mk.injEq, Int.ofNat_inj]
end Go.Proofs.YtekafhogiambaaaGreatDoor
namespace Go.Proofs.YtekafhogiambaaaGreatDoor
open Go.RowKit Go.Sort Go.Shelf

set_option maxHeartbeats 4000000 in
set_option maxRecDepth 100000 in
theorem refEqual_any (xs : List Rv) (A B : Option Addr) (c c2 : Nat) (w : World) (hA : Srow rcl 12 w 0 w.heap.size A xs) (hB : Srow rcl 12 w 0 w.heap.size B xs) (hn : xs.length ≤ 4294967296) :
    Calls Tryz.prog 11 #[.slice A xs.length c, .slice B xs.length c2] w fun e w' => e = .returned (.bool true) ∧ Below w.heap.size w w' := by
  have HA := Lib.hid hA
  have HB := Lib.hid hB
  clear hA hB
  go_enter Tryz.func11, Tryz.ntmps11
  go_wp2
  go_loopw [5] (fun s5 wr => ∃ i q : Nat, s5 = .int .i64 i ∧ i ≤ xs.length ∧ wr = w.drewN q) (fun s5 _ => xs.length - (intOf s5).toNat)
  case atStart => exact ⟨0, 0, rfl, Nat.zero_le _, rfl⟩
  case round =>
    obtain ⟨i, q, rfl, hi, rfl⟩ := hrel
    by_cases hlt : i < xs.length
    · obtain ⟨g, o, rfl, _, _, hc⟩ := HA.out.at_ hlt
      obtain ⟨g2, o2, rfl, _, _, hc2⟩ := HB.out.at_ hlt
      have i0 : (0 : Int) ≤ (i : Int) := by omega
      have i1 : (i : Int) < (xs.length : Int) := by omega
      generalize xs[i] = r at *
      have hpe : ∀ W, (Op.equalIn 10000 39 (.agg r.cells) (.agg r.cells)).run Tryz.prog W = .ok true W := fun W => by
        have h := rvRun W r r 9995
        rw [(rvB_iff r r).2 rfl] at h
        exact h
      have HC : Hid ((w.drewN q).rangeAt g (o + i * 12) (rcl r)) := hc
      have HC2 : Hid ((w.drewN q).rangeAt g2 (o2 + i * 12) (rcl r)) := hc2
      have HQ : Hid (∀ n, (w.drewN q).drewN n = w.drewN (q + n)) := fun n => World.drewN_drewN ..
      clear hc hc2
      obtain ⟨nm, ty, cl, ttl, ⟨ra', ho, ma, n0, n1, n2, n3, n4⟩⟩ := r
      generalize w.drewN q = wq at *
      have e0 := HC.out 0 _ rfl
      have e1 := HC.out 1 _ rfl
      have e2 := HC.out 2 _ rfl
      have e3 := HC.out 3 _ rfl
      have e4 := HC.out 4 _ rfl
      have e5 := HC.out 5 _ rfl
      have e6 := HC.out 6 _ rfl
      have e7 := HC.out 7 _ rfl
      have e8 := HC.out 8 _ rfl
      have e9 := HC.out 9 _ rfl
      have e10 := HC.out 10 _ rfl
      have e11 := HC.out 11 _ rfl
      have f0 := HC2.out 0 _ rfl
      have f1 := HC2.out 1 _ rfl
      have f2 := HC2.out 2 _ rfl
      have f3 := HC2.out 3 _ rfl
      have f4 := HC2.out 4 _ rfl
      have f5 := HC2.out 5 _ rfl
      have f6 := HC2.out 6 _ rfl
      have f7 := HC2.out 7 _ rfl
      have f8 := HC2.out 8 _ rfl
      have f9 := HC2.out 9 _ rfl
      have f10 := HC2.out 10 _ rfl
      have f11 := HC2.out 11 _ rfl
      rw [Nat.add_zero] at e0 f0
      dsimp only [Rv.cells] at hpe
      clear HC HC2
      go_wp2_with fail
      go_quiet (fail)
      go_wp2_with fail
      go_roundw
      case rel => exact ⟨i + 1, q + _, by go_num, by omega, HQ.out _⟩
      case measure => simp [intOf]; omega
    · obtain rfl : i = xs.length := by omega
      go_wp2_with fail
      go_ret
      exact ⟨rfl, below_drewN (Below.refl _ _) q⟩
end Go.Proofs.YtekafhogiambaaaGreatDoor
namespace Go.Proofs.YtekafhogiambaaaGreatDoor
open Go.RowKit

theorem Mh.srow_of {w : World} {lo hi : Nat} {A : Option Addr} {rs : List Ma.Rc} (h : Srow mcl 12 w lo hi A rs) : Srow rcl 12 w lo hi A (rs.map rvOf) := fun h0 => by
  obtain ⟨g, o, e, h1, h2, h3⟩ := h (by simpa using h0)
  exact ⟨g, o, e, h1, h2, fun j hj => by rw [List.getElem_map]; exact h3 j (by simpa using hj)⟩
theorem Mh.srow_own {w : World} {base : Nat} {A : Option Addr} {c : Nat} {rs : List Ma.Rc} (h : Own mcl 12 w base 39 (.slice A rs.length c) rs) : Srow rcl 12 w 0 w.heap.size A (rs.map rvOf) := by
  obtain ⟨A', c', e, _, hs⟩ := Own.srow mcl_len h
  injection e with e _ _
  subst e
  exact (Mh.srow_of hs).more (Nat.zero_le _) (Nat.le_refl _)
theorem Mh.equal_any {w : World} {A B : Option Addr} {c c2 : Nat} {rs : List Ma.Rc} (hA : Srow rcl 12 w 0 w.heap.size A (rs.map rvOf)) (hB : Srow rcl 12 w 0 w.heap.size B (rs.map rvOf)) (hn : rs.length ≤ 4294967296) :
    Calls Tryz.prog 11 #[.slice A rs.length c, .slice B rs.length c2] w fun e w' => e = .returned (.bool true) ∧ Below w.heap.size w w' := by
  have := refEqual_any (rs.map rvOf) A B c c2 w hA hB (by rw [List.length_map]; exact hn)
  rwa [List.length_map] at this
end Go.Proofs.YtekafhogiambaaaGreatDoor
namespace Go.Proofs.YtekafhogiambaaaGreatDoor
open Go.RowKit

def mxT : ByteArray := ⟨#[64, 32, 54, 48, 32, 73, 78, 32, 65, 32, 49, 46, 49, 46, 49, 46, 49, 10, 32, 73, 78, 32, 53, 32, 78, 83, 32, 87, 10]⟩
def mxE : List Tk.En := [⟨false, 1, [⟨[64], false, 1, 1⟩, ⟨[54, 48], false, 1, 3⟩, ⟨[73, 78], false, 1, 6⟩, ⟨[65], false, 1, 9⟩, ⟨[49, 46, 49, 46, 49, 46, 49], false, 1, 11⟩]⟩, ⟨true, 2, [⟨[73, 78], false, 2, 2⟩, ⟨[53], false, 2, 5⟩, ⟨[78, 83], false, 2, 7⟩, ⟨[87], false, 2, 10⟩]⟩]
def mxA : Ma.Rc := ⟨[1, 101, 0], 1, 60, ⟨[1, 1, 1, 1], [], [], 0, 0, 0, 0, 0⟩⟩
def mxB : Ma.Rc := ⟨[1, 101, 0], 2, 5, ⟨[], [1, 119, 1, 101, 0], [], 0, 0, 0, 0, 0⟩⟩
set_option maxRecDepth 100000 in
theorem mxTells : Tk.tells mxT.data.toList = .ok mxE := by kernel_rfl
set_option maxRecDepth 100000 in
theorem mxEntries : Ma.entries ⟨[1, 69, 0], 9, false, []⟩ mxE = .ok ⟨[1, 69, 0], 5, false, [mxA, mxB]⟩ := by kernel_rfl
set_option maxRecDepth 100000 in
theorem mxRow {W : World} {b : Nat} {v : Value} (h : Own mcl 12 W b 39 v [mxA, mxB]) : ∃ q c, v = .slice (some ⟨q, 0, none⟩) 2 c ∧ q < W.heap.size ∧ W.cell? ⟨q, 0, none⟩ = some (.string ⟨#[1, 101, 0]⟩) ∧ W.cell? ⟨q, 1, none⟩ = some (.int .u16 1) ∧ W.cell? ⟨q, 2, none⟩ = some (.int .u16 1) ∧ W.cell? ⟨q, 3, none⟩ = some (.int .u32 60) ∧ W.cell? ⟨q, 4, none⟩ = some (.string ⟨#[1, 1, 1, 1]⟩) ∧ W.cell? ⟨q, 5, none⟩ = some (.string ⟨#[]⟩) ∧ W.cell? ⟨q, 6, none⟩ = some (.string ⟨#[]⟩) ∧ W.cell? ⟨q, 7, none⟩ = some (.int .u32 0) ∧ W.cell? ⟨q, 8, none⟩ = some (.int .u32 0) ∧ W.cell? ⟨q, 9, none⟩ = some (.int .u32 0) ∧ W.cell? ⟨q, 10, none⟩ = some (.int .u32 0) ∧ W.cell? ⟨q, 11, none⟩ = some (.int .u32 0) ∧ W.cell? ⟨q, 12, none⟩ = some (.string ⟨#[1, 101, 0]⟩) ∧ W.cell? ⟨q, 13, none⟩ = some (.int .u16 2) ∧ W.cell? ⟨q, 14, none⟩ = some (.int .u16 1) ∧ W.cell? ⟨q, 15, none⟩ = some (.int .u32 5) ∧ W.cell? ⟨q, 16, none⟩ = some (.string ⟨#[]⟩) ∧ W.cell? ⟨q, 17, none⟩ = some (.string ⟨#[1, 119, 1, 101, 0]⟩) ∧ W.cell? ⟨q, 18, none⟩ = some (.string ⟨#[]⟩) ∧ W.cell? ⟨q, 19, none⟩ = some (.int .u32 0) ∧ W.cell? ⟨q, 20, none⟩ = some (.int .u32 0) ∧ W.cell? ⟨q, 21, none⟩ = some (.int .u32 0) ∧ W.cell? ⟨q, 22, none⟩ = some (.int .u32 0) ∧ W.cell? ⟨q, 23, none⟩ = some (.int .u32 0) := by
  obtain ⟨q, cp, cur, hv, _, _, hlt, hg, ht⟩ := ownK_pos h (by decide)
  refine ⟨q, cp, hv, hlt, ?_, ?_, ?_, ?_, ?_, ?_, ?_, ?_, ?_, ?_, ?_, ?_, ?_, ?_, ?_, ?_, ?_, ?_, ?_, ?_, ?_, ?_, ?_, ?_⟩ <;> (rw [cell_of_row W q _ cur _ (0, 0) hg]; exact take_at ht rfl)
set_option maxHeartbeats 2000000 in
set_option maxRecDepth 100000 in
theorem maReads_any (w : World) (hG : Ga w w.heap.size) : Calls Tryz.prog 10 #[] w fun e w' => e = .returned (.bool true) ∧ Below w.heap.size w w' := by
  have HP := Lib.hid (parse_ok (text := mxT) (origin := ⟨#[1, 69, 0]⟩) (ttl := 9) (es := mxE) (w := w) (by decide) (by kernel_rfl) (by decide) (by decide) hG mxTells (by decide) (by decide) mxEntries)
  have pa : ∀ W, (Op.equalIn 10000 39 (.agg #[.string ⟨#[1, 101, 0]⟩, .int .u16 1, .int .u16 1, .int .u32 60, .string ⟨#[1, 1, 1, 1]⟩, .string ⟨#[]⟩, .string ⟨#[]⟩, .int .u32 0, .int .u32 0, .int .u32 0, .int .u32 0, .int .u32 0]) (.agg #[.string ⟨#[1, 101, 0]⟩, .int .u16 1, .int .u16 1, .int .u32 60, .string ⟨#[1, 1, 1, 1]⟩, .string ⟨#[]⟩, .string ⟨#[]⟩, .int .u32 0, .int .u32 0, .int .u32 0, .int .u32 0, .int .u32 0])).run Tryz.prog W = .ok true W := fun W => by
    have h := rvRun W (rvOf mxA) (rvOf mxA) 9995
    rw [(rvB_iff _ _).2 rfl] at h
    exact h
  have pb : ∀ W, (Op.equalIn 10000 39 (.agg #[.string ⟨#[1, 101, 0]⟩, .int .u16 2, .int .u16 1, .int .u32 5, .string ⟨#[]⟩, .string ⟨#[1, 119, 1, 101, 0]⟩, .string ⟨#[]⟩, .int .u32 0, .int .u32 0, .int .u32 0, .int .u32 0, .int .u32 0]) (.agg #[.string ⟨#[1, 101, 0]⟩, .int .u16 2, .int .u16 1, .int .u32 5, .string ⟨#[]⟩, .string ⟨#[1, 119, 1, 101, 0]⟩, .string ⟨#[]⟩, .int .u32 0, .int .u32 0, .int .u32 0, .int .u32 0, .int .u32 0])).run Tryz.prog W = .ok true W := fun W => by
    have h := rvRun W (rvOf mxB) (rvOf mxB) 9995
    rw [(rvB_iff _ _).2 rfl] at h
    exact h
  clear hG
  unfold mxT at HP
  go_enter Tryz.func10, Tryz.ntmps10
  go_wp2_with (go_at_call 8; refine HP.out.mono ?_; rintro e w1 ⟨v, rfl, hr, hb⟩; have HB := Lib.hid hb; obtain ⟨q, cp, hv, hlt, k0, k1, k2, k3, k4, k5, k6, k7, k8, k9, k10, k11, k12, k13, k14, k15, k16, k17, k18, k19, k20, k21, k22, k23⟩ := mxRow hr; subst hv; clear hr)
  go_ret
  exact ⟨rfl, HB.out.alloc HB.out.size _⟩
end Go.Proofs.YtekafhogiambaaaGreatDoor
