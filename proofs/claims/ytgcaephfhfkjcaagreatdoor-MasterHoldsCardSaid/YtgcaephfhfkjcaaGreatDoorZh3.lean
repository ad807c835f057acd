/- Texts of the proofs, merged. -/
import Derived.Test.YtgcaephfhfkjcaaGreatDoorZh2
namespace Go.Proofs.YtgcaephfhfkjcaaGreatDoor.Mh
open Rd (By)

/-- a word that stands as it is. -/
def Pw (s : By) : Prop := s ≠ [] ∧ ∀ c ∈ s, Tk.stB false c = [c]
theorem st_plain : ∀ {s : By}, (∀ c ∈ s, Tk.stB false c = [c]) → Tk.stW false s = s
  | [], _ => rfl
  | c :: r, h => by
    rw [Tk.stW_cons, h c (by simp), st_plain (fun x hx => h x (by simp [hx]))]
    rfl
theorem Pw.wdq {s : By} (h : Pw s) : Tk.wdq false s = false := by
  cases s with
  | nil => exact absurd rfl h.1
  | cons c r => rfl
theorem Pw.wdT {s : By} (h : Pw s) : Tk.wdT false s = s := by
  unfold Tk.wdT
  rw [h.wdq, st_plain h.2]
  rfl
theorem pw_dig {c : UInt8} (h : Rd.isDig c = true) : Tk.stB false c = [c] := by
  simp only [Rd.isDig, Bool.and_eq_true, decide_eq_true_eq] at h
  have hb : Tk.bareB c = false := by
    simp [Tk.bareB, Tk.blank]
    omega
  unfold Tk.stB
  rw [if_neg (by omega), if_neg (by rw [hb]; simp; omega)]
theorem pw_dec (n : Nat) : Pw (Rd.dec n) := ⟨Rd.dec_ne n, fun _ hc => pw_dig (Rd.dec_mem hc)⟩
section
variable {B : Bool} {k : Nat} {b : By} {ws : List Tk.Wd} {o el : Nat} {es : List Tk.En}
theorem sep (h : Tk.Lv B k b ws o el es) (hk : B = true ∨ 0 < k) {a : By} {o' : Nat} (hm : Tk.Mv a o o') (ha : ∀ t, Tk.hE (a ++ t)) : Tk.Lr B k (b ++ a) ws o' el es := by
  obtain ⟨c, bl, h1, h2, h3⟩ := h.on hk
  exact ⟨h.n, fun t => bl (a ++ t), fun q s t => h2 _, h3.move hm (fun t => h1 _ (ha t))⟩
theorem word (h : Tk.Lr B k b ws o el es) {s : By} (hs : Pw s) : ∃ l c, Tk.Lv B (k + 1) (b ++ s) (ws ++ [⟨s, false, l, c⟩]) o el es := by
  have := h.word false s
  rw [hs.wdT, st_plain hs.2, hs.wdq] at this
  exact ⟨_, _, this⟩
theorem startBlank (h : Tk.Tl b (fun _ => True) Tk.hb 0 el [] es) {x : UInt8} (hx : Tk.blank x = true) : Tk.Lr true 0 (b ++ [x]) [] 0 el es :=
  ⟨rfl, fun t => Tk.hb ([x] ++ t), fun _ _ _ => hx, h.move (Tk.Mv.blank hx 0) (fun _ => trivial)⟩
theorem startBare (h : Tk.Tl b (fun _ => True) Tk.hb 0 el [] es) : Tk.Lr false 0 b [] 0 el es := (Tk.Lv.startBare h).nogap (by simp)
theorem hE_blank {x : UInt8} (hx : Tk.blank x = true) (t : By) : Tk.hE ([x] ++ t) := ⟨x, t, rfl, Tk.blank_ends hx⟩
/-- blanks and words. -/
def itB (l : List (UInt8 × By)) : By := l.flatMap fun x => x.1 :: x.2
def Its (l : List (UInt8 × By)) : Prop := ∀ x ∈ l, Tk.blank x.1 = true ∧ Pw x.2
def itW (l : List (UInt8 × By)) : List (By × Bool) := l.map fun x => (x.2, false)
theorem its_any : ∀ {l : List (UInt8 × By)} {k : Nat} {b : By} {ws : List Tk.Wd}, Its l → Tk.Lv B k b ws 0 el es → (B = true ∨ 0 < k) →
    ∃ ws', Tk.bareW ws' = itW l ∧ Tk.Lv B (k + l.length) (b ++ itB l) (ws ++ ws') 0 el es
  | [], k, b, ws, _, h, _ => ⟨[], rfl, by simpa [itB] using h⟩
  | x :: l, k, b, ws, hl, h, hk => by
    have hx := hl x (by simp)
    obtain ⟨i, c, h2⟩ := word (sep h hk (Tk.Mv.blank hx.1 0) (hE_blank hx.1)) hx.2
    obtain ⟨ws', e, h3⟩ := its_any (l := l) (fun y hy => hl y (by simp [hy])) h2 (.inr (by omega))
    refine ⟨⟨x.2, false, i, c⟩ :: ws', ?_, ?_⟩
    · rw [itW, List.map_cons, ← itW, ← e]
      rfl
    · have e1 : b ++ itB (x :: l) = b ++ [x.1] ++ x.2 ++ itB l := by simp [itB]
      have e2 : ws ++ ⟨x.2, false, i, c⟩ :: ws' = ws ++ [⟨x.2, false, i, c⟩] ++ ws' := by simp
      have e3 : k + (x :: l).length = k + 1 + l.length := by rw [List.length_cons]; omega
      rw [e1, e2, e3]
      exact h3
end
section
variable {B : Bool} {b : By} {c : By → Prop} {bl : By → Bool} {el : Nat} {ws : List Tk.Wd} {es : List Tk.En}
theorem Tl.nl (h : Tk.Tl b c bl 0 el ws es) (hc : ∀ t, c (10 :: t)) (hbl : ∀ t, bl t = B) (hw : ws ≠ []) : ∃ el', Tk.Tl (b ++ [10]) (fun _ => True) Tk.hb 0 el' [] (es ++ [⟨B, el, ws⟩]) := by
  obtain ⟨fl, fc, h⟩ := h
  refine ⟨(Tk.advs (1, 1) (b ++ [10])).1, fl, fc, fun t _ => ?_⟩
  rw [List.append_assoc, List.cons_append, List.nil_append, h _ (hc t), hbl]
  rw [Tk.lx_ch (by decide) (by decide) (by decide), Tk.play, if_pos (by decide)]
  simp only [Tk.St.nl, if_true, Tk.hp_lx, Tk.St.done]
  have e2 : Tk.advs (1, 1) (b ++ [10]) = ((Tk.advs (1, 1) b).1 + 1, 1) := by rw [Tk.advs_append]; rfl
  rw [e2]
  cases ws with
  | nil => exact absurd rfl hw
  | cons a r => rfl
/-- a remark behind the last word: " ; x". -/
theorem Tl.remark (h : Tk.Tl b c bl 0 el ws es) (hc : ∀ t, c (32 :: t)) (hbl : ∀ t, bl t = B) (hw : ws ≠ []) : ∃ el', Tk.Tl (b ++ [32, 59, 32, 120, 10]) (fun _ => True) Tk.hb 0 el' [] (es ++ [⟨B, el, ws⟩]) := by
  obtain ⟨fl, fc, h⟩ := h
  refine ⟨(Tk.advs (1, 1) (b ++ [32, 59, 32, 120, 10])).1, fl, fc, fun t _ => ?_⟩
  have e : [32, 59, 32, 120, 10] ++ t = 32 :: 59 :: ([32, 120] ++ 10 :: t) := rfl
  rw [List.append_assoc, e, h _ (hc _), hbl]
  rw [Tk.lx_ch (by decide) (by decide) (by decide), Tk.play, if_neg (by decide), if_neg (by decide), if_neg (by decide), Tk.lx_rem_to (Tk.noLf_dec (by decide)), Tk.play, Tk.lx_ch (by decide) (by decide) (by decide), Tk.play, if_pos (by decide)]
  simp only [Tk.St.go, Tk.St.nl, if_true, Tk.hp_lx, Tk.St.done]
  have e2 : Tk.advs (1, 1) (b ++ [32, 59, 32, 120, 10]) = ((Tk.advs (1, 1) b).1 + 1, 1) := by rw [Tk.advs_append]; rfl
  rw [e2]
  cases ws with
  | nil => exact absurd rfl hw
  | cons a r => rfl
end
section
variable {B : Bool} {k : Nat} {b : By} {ws : List Tk.Wd} {el : Nat} {es : List Tk.En}
/-- what ends a record's line: the word n in brackets over two lines. -/
def tlB : By := [32, 40, 10, 32, 110, 32, 41, 10]
theorem tail_any (h : Tk.Lv B (k + 1) b ws 0 el es) : ∃ l c el', Tk.Tl (b ++ tlB) (fun _ => True) Tk.hb 0 el' [] (es ++ [⟨B, el, ws ++ [⟨[110], false, l, c⟩]⟩]) := by
  have m1 : Tk.Mv [32, 40, 10, 32] 0 1 := (((Tk.Mv.blank (c := 32) (by decide) 0).app (Tk.Mv.op 0)).app (Tk.Mv.lf 0)).app (Tk.Mv.blank (c := 32) (by decide) 1)
  have m2 : Tk.Mv [32, 41] 1 0 := (Tk.Mv.blank (c := 32) (by decide) 1).app (Tk.Mv.cl 0)
  obtain ⟨l, c, h2⟩ := word (sep h (.inr (Nat.succ_pos _)) m1 (fun t => ⟨32, _, rfl, by decide⟩)) (s := [110]) ⟨by simp, by decide⟩
  obtain ⟨c2, bl, h3, h4, h5⟩ := h2.on (.inr (Nat.succ_pos _))
  obtain ⟨el', h6⟩ := Tl.nl (B := B) (h5.move m2 (fun t => h3 _ ⟨32, _, rfl, by decide⟩)) (fun _ => trivial) (fun t => h4 _) (by simp)
  refine ⟨l, c, el', ?_⟩
  have e : b ++ tlB = b ++ [32, 40, 10, 32] ++ [110] ++ [32, 41] ++ [10] := by simp [tlB]
  rw [e]
  exact h6
end
/-- letters a to e. -/
def Lt (c : UInt8) : Prop := c = 97 ∨ c = 98 ∨ c = 99 ∨ c = 100 ∨ c = 101
/-- an origin that holds. -/
def okO (O : By) : Prop := O = [1, 90, 0] ∨ ∃ c, Lt c ∧ O = [1, c, 0]
theorem nm_abs {c : UInt8} (hc : Lt c) {O : By} (hO : okO O) (l k : Nat) : Ma.name O ⟨[c, 46], false, l, k⟩ = some [1, c, 0] := by
  show Rd.nameR O [c, 46] = some [1, c, 0]
  rcases hO with rfl | ⟨d, hd, rfl⟩
  · rcases hc with rfl | rfl | rfl | rfl | rfl <;> decide
  · rcases hc with rfl | rfl | rfl | rfl | rfl <;> rcases hd with rfl | rfl | rfl | rfl | rfl <;> decide
theorem nm_far {c : UInt8} (hc : Lt c) {O : By} (hO : okO O) (l k : Nat) : Ma.name O ⟨[c, 46, 113, 46], false, l, k⟩ = some [1, c, 1, 113, 0] := by
  show Rd.nameR O [c, 46, 113, 46] = some [1, c, 1, 113, 0]
  rcases hO with rfl | ⟨d, hd, rfl⟩
  · rcases hc with rfl | rfl | rfl | rfl | rfl <;> decide
  · rcases hc with rfl | rfl | rfl | rfl | rfl <;> rcases hd with rfl | rfl | rfl | rfl | rfl <;> decide
theorem nm_rel {c : UInt8} (hc : Lt c) {O : By} (hO : okO O) (l k : Nat) : Ma.name O ⟨[c], false, l, k⟩ = some ([1, c] ++ O) := by
  show Rd.nameR O [c] = some ([1, c] ++ O)
  rcases hO with rfl | ⟨d, hd, rfl⟩
  · rcases hc with rfl | rfl | rfl | rfl | rfl <;> decide
  · rcases hc with rfl | rfl | rfl | rfl | rfl <;> rcases hd with rfl | rfl | rfl | rfl | rfl <;> decide
theorem nm_at (O : By) (l k : Nat) : Ma.name O ⟨[64], false, l, k⟩ = some O := rfl
/-- what a record's data are. -/
def dat (o : By) : Rd.Dt := ⟨[], [1, 110] ++ o, [], 0, 0, 0, 0, 0⟩
theorem tail_data {O : By} (hO : okO O) (f : Tk.Wd) (l c l2 c2 : Nat) : Ma.tail O f [⟨[110, 115], false, l, c⟩, ⟨[110], false, l2, c2⟩] = .ok (2, dat (Nm.fold O)) := by
  have h : Rd.tyOf [110, 115] = some 2 ∧ (Rd.readR O 2 [([110], false)]).map (Rd.foldD 2) = some (dat (Nm.fold O)) := by
    rcases hO with rfl | ⟨d, hd, rfl⟩
    · exact ⟨by decide, by kernel_rfl⟩
    · rcases hd with rfl | rfl | rfl | rfl | rfl <;> exact ⟨by decide, by kernel_rfl⟩
  obtain ⟨h1, h2⟩ := h
  unfold Ma.tail
  simp only [Bool.false_eq_true, if_false, h1]
  have e : List.map Ma.w2 [(⟨[110], false, l2, c2⟩ : Tk.Wd)] = [([110], false)] := rfl
  rw [e]
  cases hr : Rd.readR O 2 [([110], false)] with
  | none => rw [hr] at h2; cases h2
  | some d =>
    rw [hr] at h2
    simp only [Option.map_some, Option.some.injEq] at h2
    simp only [h2]
/-- a record's words: the TTL, and the class ahead of it or behind it. -/
def its (tm cl bh : Bool) (n : Nat) : List (UInt8 × By) :=
  (if cl && !bh then [(32, [73, 110])] else []) ++ ((if tm then [(32, Rd.dec n)] else []) ++ ((if cl && bh then [(9, [73, 78])] else []) ++ [(32, [110, 115])]))
theorem its_its (tm cl bh : Bool) (n : Nat) : Its (its tm cl bh n) := by
  have h1 : Tk.blank 32 = true ∧ Pw [73, 110] := ⟨by decide, by simp, by decide⟩
  have h2 : Tk.blank 32 = true ∧ Pw (Rd.dec n) := ⟨by decide, pw_dec n⟩
  have h3 : Tk.blank 9 = true ∧ Pw [73, 78] := ⟨by decide, by simp, by decide⟩
  have h4 : Tk.blank 32 = true ∧ Pw [110, 115] := ⟨by decide, by simp, by decide⟩
  intro x hx
  unfold its at hx
  simp only [List.mem_append, List.mem_singleton] at hx
  rcases hx with hx | hx | hx | rfl
  · split at hx
    · rw [List.mem_singleton.1 hx]; exact h1
    · cases hx
  · split at hx
    · rw [List.mem_singleton.1 hx]; exact h2
    · cases hx
  · split at hx
    · rw [List.mem_singleton.1 hx]; exact h3
    · cases hx
  · exact h4
theorem its_split (tm cl bh : Bool) (n : Nat) : ∃ x l, its tm cl bh n = x :: l := by
  cases tm <;> cases cl <;> cases bh <;> exact ⟨_, _, rfl⟩
theorem bareW_nil {ws : List Tk.Wd} (h : Tk.bareW ws = []) : ws = [] := List.map_eq_nil_iff.1 h
theorem bareW_cons {ws : List Tk.Wd} {s : By} {q : Bool} {r : List (By × Bool)} (h : Tk.bareW ws = (s, q) :: r) : ∃ l c t, ws = ⟨s, q, l, c⟩ :: t ∧ Tk.bareW t = r := by
  cases ws with
  | nil => cases h
  | cons a t =>
    obtain ⟨x, y, l, c⟩ := a
    simp only [Tk.bareW, List.map_cons, List.cons.injEq, Prod.mk.injEq] at h
    obtain ⟨⟨rfl, rfl⟩, h⟩ := h
    exact ⟨l, c, t, rfl, h⟩
section
variable {l c : Nat}
theorem num_in : Ma.num ⟨[73, 110], false, l, c⟩ = none := show Rd.num [73, 110] 4294967295 = none by decide
theorem num_IN : Ma.num ⟨[73, 78], false, l, c⟩ = none := show Rd.num [73, 78] 4294967295 = none by decide
theorem num_ns : Ma.num ⟨[110, 115], false, l, c⟩ = none := show Rd.num [110, 115] 4294967295 = none by decide
theorem num_dec {n : Nat} (h : n ≤ 65535) : Ma.num ⟨Rd.dec n, false, l, c⟩ = some n := show Rd.num (Rd.dec n) 4294967295 = some n from Rd.num_dec (by omega) (by decide)
theorem kw_in : Ma.kw ⟨[73, 110], false, l, c⟩ = [105, 110] := show Nm.fold [73, 110] = _ by decide
theorem kw_IN : Ma.kw ⟨[73, 78], false, l, c⟩ = [105, 110] := show Nm.fold [73, 78] = _ by decide
theorem kw_ns : Ma.kw ⟨[110, 115], false, l, c⟩ = [110, 115] := show Nm.fold [110, 115] = _ by decide
end
theorem tc_any (fx : Bool) (h n : Nat) (hn : n ≤ 65535) (tm cl bh : Bool) (ws : List Tk.Wd) (hw : Tk.bareW ws = itW (its tm cl bh n) ++ [([110], false)]) :
    ∃ l c l2 c2, Ma.tc fx ws h h false false = .ok (if tm && !fx then n else h, if tm then n else h, [⟨[110, 115], false, l, c⟩, ⟨[110], false, l2, c2⟩]) := by
  have hn2 : n ≤ 2147483647 := by omega
  cases tm <;> cases cl <;> cases bh <;> simp only [its, itW, Bool.and_true, Bool.and_false, Bool.not_true, Bool.not_false, Bool.false_eq_true, if_true, if_false, List.nil_append, List.cons_append, List.map_cons, List.map_nil] at hw
  all_goals
    obtain ⟨l1, c1, t1, rfl, h1⟩ := bareW_cons hw
    obtain ⟨l2, c2, t2, rfl, h2⟩ := bareW_cons h1
    first
      | (obtain rfl := bareW_nil h2
         exact ⟨l1, c1, l2, c2, by simp [Ma.tc, num_ns, Ma.isClass, kw_ns]⟩)
      | (obtain ⟨l3, c3, t3, rfl, h3⟩ := bareW_cons h2
         first
           | (obtain rfl := bareW_nil h3
              exact ⟨l2, c2, l3, c3, by cases fx <;> simp [Ma.tc, num_ns, num_in, num_IN, num_dec hn, Ma.isClass, kw_ns, kw_in, kw_IN, hn2]⟩)
           | (obtain ⟨l4, c4, t4, rfl, h4⟩ := bareW_cons h3
              obtain rfl := bareW_nil h4
              exact ⟨l3, c3, l4, c4, by cases fx <;> simp [Ma.tc, num_ns, num_in, num_IN, num_dec hn, Ma.isClass, kw_ns, kw_in, kw_IN, hn2]⟩))
/-- entries, one more. -/
theorem entries_snoc {e : Tk.En} {x : Tk.Wd} {ws : List Tk.Wd} (hw : e.words = x :: ws) : ∀ {es : List Tk.En} {s s' s2 : Ma.S}, Ma.entries s es = .ok s' → Ma.entry s' e.blank x ws = .ok s2 → Ma.entries s (es ++ [e]) = .ok s2
  | [], s, s', s2, h, h2 => by
    simp only [Ma.entries, Except.ok.injEq] at h
    subst h
    simp only [List.nil_append, Ma.entries, hw, h2]
  | y :: r, s, s', s2, h, h2 => by
    simp only [List.cons_append, Ma.entries] at h ⊢
    split at h
    · cases h
    · split at h
      · cases h
      · exact entries_snoc hw h h2
end Go.Proofs.YtgcaephfhfkjcaaGreatDoor.Mh
namespace Go.Proofs.YtgcaephfhfkjcaaGreatDoor.Mh
open Rd (By)

def orgB (c : UInt8) : By := [36, 79, 114, 105, 103, 105, 110, 32] ++ [c] ++ [46, 10]
def ttlB (n : Nat) : By := [36, 84, 84, 76, 32] ++ Rd.dec n ++ [32, 59, 32, 120, 10]
/-- whose record the next one is, if it has no owner of its own. -/
def lastN (rs : List Ma.Rc) : By := match rs.getLast? with
  | some r => r.nm
  | none => []
/-- what is laid so far, and what holds. -/
structure Hn (ttl : Nat) (b o ow : By) (h : Nat) (fx : Bool) (rs : List Ma.Rc) (i : Nat) : Prop where
  st : ∃ O el es, okO O ∧ o = Nm.fold O ∧ Tk.Tl b (fun _ => True) Tk.hb 0 el [] es ∧ (∀ e ∈ es, e.words ≠ [] ∧ ∀ x ∈ e.words, x.text.length ≤ 20) ∧ es.length ≤ i ∧ Ma.entries ⟨[1, 90, 0], ttl, false, []⟩ es = .ok ⟨O, h, fx, rs⟩
  own : ow = lastN rs
  hb : h ≤ 65535
  few : rs.length ≤ i
  len : b.length ≤ 40 * i
  ol : o.length = 3
  owl : ow.length ≤ 5
theorem Hn.start {ttl : Nat} (h : ttl ≤ 65535) : Hn ttl [] [1, 122, 0] [] ttl false [] 0 :=
  ⟨⟨[1, 90, 0], 1, [], .inl rfl, rfl, Tk.Tl.start, fun _ h => (by cases h), Nat.le_refl _, rfl⟩, rfl, h, Nat.le_refl _, Nat.le_refl _, rfl, by simp⟩
theorem Hn.skip {ttl h i : Nat} {b o ow : By} {fx : Bool} {rs : List Ma.Rc} (H : Hn ttl b o ow h fx rs i) : Hn ttl b o ow h fx rs (i + 1) := by
  obtain ⟨O, el, es, h1, h2, h3, h4, h5, h6⟩ := H.st
  have := H.few
  have := H.len
  exact ⟨⟨O, el, es, h1, h2, h3, h4, by omega, h6⟩, H.own, H.hb, by omega, by omega, H.ol, H.owl⟩
theorem few_snoc {es : List Tk.En} {e : Tk.En} (h : ∀ e ∈ es, e.words ≠ [] ∧ ∀ x ∈ e.words, x.text.length ≤ 20) (h2 : e.words ≠ [] ∧ ∀ x ∈ e.words, x.text.length ≤ 20) : ∀ e' ∈ es ++ [e], e'.words ≠ [] ∧ ∀ x ∈ e'.words, x.text.length ≤ 20 := fun e' he => by
  rcases List.mem_append.1 he with he | he
  · exact h e' he
  · rw [List.mem_singleton.1 he]; exact h2
theorem dec_le {n : Nat} (h : n ≤ 65535) : (Rd.dec n).length ≤ 10 := Rd.dec_few 9 n (by omega)
theorem isDir_no {p : By} {l c : Nat} (h : (match Nm.fold p with
    | x :: _ => x == 36
    | [] => false) = false) : Ma.isDir false ⟨p, false, l, c⟩ = false := h
theorem isDir_yes {p : By} {l c : Nat} (h : (match Nm.fold p with
    | x :: _ => x == 36
    | [] => false) = true) : Ma.isDir false ⟨p, false, l, c⟩ = true := h
theorem kw_of {p : By} {l c : Nat} : Ma.kw ⟨p, false, l, c⟩ = Nm.fold p := rfl
section
variable {ttl h i n : Nat} {b o ow : By} {fx : Bool} {rs : List Ma.Rc} {c : UInt8}
theorem Hn.org (H : Hn ttl b o ow h fx rs i) (hc : Lt c) : Hn ttl (b ++ orgB c) [1, c, 0] ow h fx rs (i + 1) := by
  obtain ⟨O, el, es, hO, ho, hT, hw, hl, he⟩ := H.st
  have hcw : Pw [c, 46] := ⟨by simp, by rcases hc with rfl | rfl | rfl | rfl | rfl <;> decide⟩
  obtain ⟨l1, c1, h1⟩ := word (startBare hT) (s := [36, 79, 114, 105, 103, 105, 110]) ⟨by simp, by decide⟩
  obtain ⟨l2, c2, h2⟩ := word (sep h1 (.inr (by omega)) (Tk.Mv.blank (c := 32) (by decide) 0) (hE_blank (by decide))) hcw
  obtain ⟨k, bl, h3, h4, h5⟩ := h2.on (.inr (by omega))
  obtain ⟨el', h6⟩ := Tl.nl h5 (fun t => h3 _ ⟨10, t, rfl, by decide⟩) h4 (by simp)
  have hf : Nm.fold [1, c, 0] = [1, c, 0] := by rcases hc with rfl | rfl | rfl | rfl | rfl <;> decide
  refine ⟨⟨[1, c, 0], el', es ++ [⟨false, el, [] ++ [⟨[36, 79, 114, 105, 103, 105, 110], false, l1, c1⟩] ++ [⟨[c, 46], false, l2, c2⟩]⟩], .inr ⟨c, hc, rfl⟩, hf.symm, ?_, few_snoc hw ⟨by simp, ?_⟩, by simp; omega, entries_snoc (x := ⟨[36, 79, 114, 105, 103, 105, 110], false, l1, c1⟩) (ws := [⟨[c, 46], false, l2, c2⟩]) rfl he ?_⟩, H.own, H.hb, by have := H.few; omega, ?_, rfl, H.owl⟩
  · have e : b ++ orgB c = b ++ [36, 79, 114, 105, 103, 105, 110] ++ [32] ++ [c, 46] ++ [10] := by simp [orgB]
    rw [e]
    exact h6
  · intro x hx
    simp only [List.nil_append, List.cons_append, List.mem_cons, List.not_mem_nil, or_false] at hx
    rcases hx with rfl | rfl <;> simp
  · have hd : Ma.isDir false (⟨[36, 79, 114, 105, 103, 105, 110], false, l1, c1⟩ : Tk.Wd) = true := isDir_yes (by decide)
    have hk : Ma.kw (⟨[36, 79, 114, 105, 103, 105, 110], false, l1, c1⟩ : Tk.Wd) = [36, 111, 114, 105, 103, 105, 110] := kw_of.trans (by decide)
    simp only [Ma.entry, hd, if_true, Ma.directive, hk, nm_abs hc hO]
  · have := H.len
    simp [orgB]
    omega
theorem Hn.tt (H : Hn ttl b o ow h fx rs i) (hn : n ≤ 65535) : Hn ttl (b ++ ttlB n) o ow n true rs (i + 1) := by
  obtain ⟨O, el, es, hO, ho, hT, hw, hl, he⟩ := H.st
  have hdl := dec_le hn
  obtain ⟨l1, c1, h1⟩ := word (startBare hT) (s := [36, 84, 84, 76]) ⟨by simp, by decide⟩
  obtain ⟨l2, c2, h2⟩ := word (sep h1 (.inr (by omega)) (Tk.Mv.blank (c := 32) (by decide) 0) (hE_blank (by decide))) (pw_dec n)
  obtain ⟨k, bl, h3, h4, h5⟩ := h2.on (.inr (by omega))
  obtain ⟨el', h6⟩ := Tl.remark h5 (fun t => h3 _ ⟨32, t, rfl, by decide⟩) h4 (by simp)
  refine ⟨⟨O, el', es ++ [⟨false, el, [] ++ [⟨[36, 84, 84, 76], false, l1, c1⟩] ++ [⟨Rd.dec n, false, l2, c2⟩]⟩], hO, ho, ?_, few_snoc hw ⟨by simp, ?_⟩, by simp; omega, entries_snoc (x := ⟨[36, 84, 84, 76], false, l1, c1⟩) (ws := [⟨Rd.dec n, false, l2, c2⟩]) rfl he ?_⟩, H.own, hn, by have := H.few; omega, ?_, H.ol, H.owl⟩
  · have e : b ++ ttlB n = b ++ [36, 84, 84, 76] ++ [32] ++ Rd.dec n ++ [32, 59, 32, 120, 10] := by simp [ttlB]
    rw [e]
    exact h6
  · intro x hx
    simp only [List.nil_append, List.cons_append, List.mem_cons, List.not_mem_nil, or_false] at hx
    rcases hx with rfl | rfl
    · simp
    · show (Rd.dec n).length ≤ 20
      omega
  · have hd : Ma.isDir false (⟨[36, 84, 84, 76], false, l1, c1⟩ : Tk.Wd) = true := isDir_yes (by decide)
    have hk : Ma.kw (⟨[36, 84, 84, 76], false, l1, c1⟩ : Tk.Wd) = [36, 116, 116, 108] := kw_of.trans (by decide)
    have hk2 : ([36, 116, 116, 108] : By) ≠ [36, 111, 114, 105, 103, 105, 110] := by decide
    have hn2 : n ≤ 2147483647 := by omega
    simp only [Ma.entry, hd, if_true, Ma.directive, hk, hk2, if_false, num_dec hn, hn2]
  · have := H.len
    simp [ttlB]
    omega
/-- a record's line behind its owner. -/
def recB (tm cl bh : Bool) (n : Nat) : By := itB (its tm cl bh n) ++ tlB
theorem recB_len (tm cl bh : Bool) (hn : n ≤ 65535) : (recB tm cl bh n).length ≤ 28 := by
  have := dec_le hn
  unfold recB itB its
  cases tm <;> cases cl <;> cases bh <;> simp [tlB] <;> omega
theorem its_words {tm cl bh : Bool} {ws : List Tk.Wd} (hn : n ≤ 65535) (hw : Tk.bareW ws = itW (its tm cl bh n) ++ [([110], false)]) : ∀ x ∈ ws, x.text.length ≤ 20 := by
  have hdl := dec_le hn
  intro x hx
  have : (x.text, x.quoted) ∈ itW (its tm cl bh n) ++ [([110], false)] := by
    rw [← hw]
    exact List.mem_map.2 ⟨x, hx, rfl⟩
  generalize x.text = s at this
  generalize x.quoted = q at this
  revert this
  unfold its itW
  cases tm <;> cases cl <;> cases bh <;> simp <;> (try rintro (⟨rfl, _⟩ | ⟨rfl, _⟩ | ⟨rfl, _⟩ | ⟨rfl, _⟩)) <;> (try rintro (⟨rfl, _⟩ | ⟨rfl, _⟩ | ⟨rfl, _⟩)) <;> (try rintro (⟨rfl, _⟩ | ⟨rfl, _⟩)) <;> (try simp) <;> omega
theorem Hn.own_rec (H : Hn ttl b o ow h fx rs i) (hi : i < 4096) (hn : n ≤ 65535) (tm cl bh : Bool) {p ow' : By} (hp : Pw p) (hpl : p.length ≤ 4) (hol : ow'.length ≤ 5)
    (hown : ∀ O, okO O → o = Nm.fold O → ∀ l c, Ma.isDir false ⟨p, false, l, c⟩ = false ∧ ∃ m, Ma.name O ⟨p, false, l, c⟩ = some m ∧ ow' = Nm.fold m) :
    Hn ttl (b ++ (p ++ recB tm cl bh n)) o ow' (if tm && !fx then n else h) fx (rs ++ [⟨ow', 2, if tm then n else h, dat o⟩]) (i + 1) := by
  obtain ⟨O, el, es, hO, ho, hT, hw, hl, he⟩ := H.st
  obtain ⟨l1, c1, h1⟩ := word (startBare hT) hp
  obtain ⟨ws', hb, h2⟩ := its_any (its_its tm cl bh n) h1 (.inr (by omega))
  have hlen : 0 + 1 + (its tm cl bh n).length = (its tm cl bh n).length + 1 := by omega
  rw [hlen] at h2
  obtain ⟨l3, c3, el', h3⟩ := tail_any h2
  have hbw : Tk.bareW (ws' ++ [⟨[110], false, l3, c3⟩]) = itW (its tm cl bh n) ++ [([110], false)] := by rw [← hb]; simp [Tk.bareW]
  obtain ⟨hd, m, hm, e⟩ := hown O hO ho l1 c1
  obtain ⟨l4, c4, l5, c5, htc⟩ := tc_any fx h n hn tm cl bh _ hbw
  refine ⟨⟨O, el', es ++ [⟨false, el, [] ++ [⟨p, false, l1, c1⟩] ++ ws' ++ [⟨[110], false, l3, c3⟩]⟩], hO, ho, ?_, few_snoc hw ⟨by simp, ?_⟩, by simp; omega, entries_snoc (x := ⟨p, false, l1, c1⟩) (ws := ws' ++ [⟨[110], false, l3, c3⟩]) (by simp) he ?_⟩, by simp [lastN], ?_, by have := H.few; rw [List.length_append, List.length_singleton]; omega, ?_, H.ol, hol⟩
  · have e : b ++ (p ++ recB tm cl bh n) = b ++ p ++ itB (its tm cl bh n) ++ tlB := by simp [recB]
    rw [e]
    exact h3
  · intro x hx
    rw [List.nil_append, List.append_assoc, List.mem_append] at hx
    rcases hx with hx | hx
    · rw [List.mem_singleton.1 hx]
      show p.length ≤ 20
      omega
    · exact its_words hn hbw x hx
  · have hk : ¬ rs.length = 4096 := by have := H.few; omega
    simp only [Ma.entry, hd, Bool.false_eq_true, if_false, hk, Ma.record, Ma.owner, hm, htc, tail_data hO, ← e, ← ho]
  · have := H.hb
    split <;> omega
  · have := H.len
    have := recB_len tm cl bh hn
    simp
    omega
theorem Hn.blank_rec (H : Hn ttl b o ow h fx rs i) (hi : i < 4096) (hn : n ≤ 65535) (tm cl bh : Bool) (hne : ow ≠ []) :
    Hn ttl (b ++ recB tm cl bh n) o ow (if tm && !fx then n else h) fx (rs ++ [⟨ow, 2, if tm then n else h, dat o⟩]) (i + 1) := by
  obtain ⟨O, el, es, hO, ho, hT, hw, hl, he⟩ := H.st
  obtain ⟨x, r, hxr⟩ := its_split tm cl bh n
  have hii := its_its tm cl bh n
  rw [hxr] at hii
  obtain ⟨l1, c1, h1⟩ := word (startBlank hT (hii x (by simp)).1) (hii x (by simp)).2
  obtain ⟨ws', hb, h2⟩ := its_any (l := r) (fun y hy => hii y (by simp [hy])) h1 (.inl rfl)
  have hlen : 0 + 1 + r.length = r.length + 1 := by omega
  rw [hlen] at h2
  obtain ⟨l3, c3, el', h3⟩ := tail_any h2
  have hbw : Tk.bareW (⟨x.2, false, l1, c1⟩ :: (ws' ++ [⟨[110], false, l3, c3⟩])) = itW (its tm cl bh n) ++ [([110], false)] := by
    rw [hxr, itW, List.map_cons, ← itW, ← hb]; simp [Tk.bareW]
  obtain ⟨l4, c4, l5, c5, htc⟩ := tc_any fx h n hn tm cl bh _ hbw
  obtain ⟨y, hy, hyn⟩ : ∃ y, rs.getLast? = some y ∧ y.nm = ow := by
    have := H.own
    unfold lastN at this
    cases hg : rs.getLast? with
    | none => rw [hg] at this; exact absurd this hne
    | some y => rw [hg] at this; exact ⟨y, rfl, this.symm⟩
  refine ⟨⟨O, el', es ++ [⟨true, el, [] ++ [⟨x.2, false, l1, c1⟩] ++ ws' ++ [⟨[110], false, l3, c3⟩]⟩], hO, ho, ?_, few_snoc hw ⟨by simp, ?_⟩, by simp; omega, entries_snoc (x := ⟨x.2, false, l1, c1⟩) (ws := ws' ++ [⟨[110], false, l3, c3⟩]) (by simp) he ?_⟩, by simp [lastN], ?_, by have := H.few; rw [List.length_append, List.length_singleton]; omega, ?_, H.ol, H.owl⟩
  · have e : b ++ recB tm cl bh n = b ++ [x.1] ++ x.2 ++ itB r ++ tlB := by simp [recB, hxr, itB]
    rw [e]
    exact h3
  · intro z hz
    rw [List.nil_append, List.append_assoc] at hz
    exact its_words hn hbw z hz
  · have hk : ¬ rs.length = 4096 := by have := H.few; omega
    simp only [Ma.entry, Ma.isDir, Bool.not_true, Bool.false_and, Bool.false_eq_true, if_false, hk, Ma.record, Ma.owner, if_true, hy, hyn, htc, tail_data hO, ← ho]
  · have := H.hb
    split <;> omega
  · have := H.len
    have := recB_len tm cl bh hn
    simp
    omega
theorem Hn.at_ (H : Hn ttl b o ow h fx rs i) (hi : i < 4096) (hn : n ≤ 65535) (tm cl bh : Bool) : Hn ttl (b ++ ([64] ++ recB tm cl bh n)) o o (if tm && !fx then n else h) fx (rs ++ [⟨o, 2, if tm then n else h, dat o⟩]) (i + 1) :=
  H.own_rec hi hn tm cl bh ⟨by simp, by decide⟩ (by simp) (by have := H.ol; omega) fun O _ ho l c => ⟨isDir_no (by decide), O, nm_at O l c, ho⟩
theorem Hn.far (H : Hn ttl b o ow h fx rs i) (hc : Lt c) (hi : i < 4096) (hn : n ≤ 65535) (tm cl bh : Bool) : Hn ttl (b ++ ([c, 46, 113, 46] ++ recB tm cl bh n)) o [1, c, 1, 113, 0] (if tm && !fx then n else h) fx (rs ++ [⟨[1, c, 1, 113, 0], 2, if tm then n else h, dat o⟩]) (i + 1) :=
  H.own_rec hi hn tm cl bh ⟨by simp, by rcases hc with rfl | rfl | rfl | rfl | rfl <;> decide⟩ (by simp) (by simp) fun O hO _ l k => ⟨isDir_no (by rcases hc with rfl | rfl | rfl | rfl | rfl <;> decide), _, nm_far hc hO l k, by rcases hc with rfl | rfl | rfl | rfl | rfl <;> decide⟩
theorem Hn.rel (H : Hn ttl b o ow h fx rs i) (hc : Lt c) (hi : i < 4096) (hn : n ≤ 65535) (tm cl bh : Bool) : Hn ttl (b ++ ([c] ++ recB tm cl bh n)) o ([1, c] ++ o) (if tm && !fx then n else h) fx (rs ++ [⟨[1, c] ++ o, 2, if tm then n else h, dat o⟩]) (i + 1) :=
  H.own_rec hi hn tm cl bh ⟨by simp, by rcases hc with rfl | rfl | rfl | rfl | rfl <;> decide⟩ (by simp) (by have := H.ol; simp; omega) fun O hO ho l k => ⟨isDir_no (by rcases hc with rfl | rfl | rfl | rfl | rfl <;> decide), _, nm_rel hc hO l k, by
    have e : Nm.fold ([1, c] ++ O) = Nm.fold [1, c] ++ Nm.fold O := by simp [Nm.fold]
    have e2 : Nm.fold [1, c] = [1, c] := by rcases hc with rfl | rfl | rfl | rfl | rfl <;> decide
    rw [e, e2, ← ho]⟩
end
end Go.Proofs.YtgcaephfhfkjcaaGreatDoor.Mh
