/- Texts of the proofs, merged. -/
import Derived.Test.YtopcklpmeaghmaaGreatDoorG3
import Derived.Test.YtopcklpmeaghmaaGreatDoorG5
/- The parts of data: what the program's table says, against the document. Nothing of the program. -/
namespace Go.Proofs.YtopcklpmeaghmaaGreatDoor.Rd

/-- the parts of a type: 1 four, 2 eight, 3 texts, 4 any bytes, 5 host, 6 host without pointers, 7 mail, 8 a number of 16 bits, 9 one of 32 bits, 0 none. -/
def parts (t : Nat) : List Nat :=
  if t = 1 then [1, 0, 0, 0, 0, 0, 0] else if t = 2 then [5, 0, 0, 0, 0, 0, 0] else if t = 5 then [5, 0, 0, 0, 0, 0, 0]
  else if t = 6 then [5, 7, 9, 9, 9, 9, 9] else if t = 12 then [5, 0, 0, 0, 0, 0, 0] else if t = 15 then [8, 5, 0, 0, 0, 0, 0]
  else if t = 16 then [3, 0, 0, 0, 0, 0, 0] else if t = 28 then [2, 0, 0, 0, 0, 0, 0] else if t = 33 then [8, 8, 8, 6, 0, 0, 0] else [4, 0, 0, 0, 0, 0, 0]
/-- the table's rows: number, text, parts. -/
def rowTab : List (Nat × By × List Nat) :=
  [(1, [65], [1, 0, 0, 0, 0, 0, 0]), (2, [78, 83], [5, 0, 0, 0, 0, 0, 0]), (5, [67, 78, 65, 77, 69], [5, 0, 0, 0, 0, 0, 0]), (6, [83, 79, 65], [5, 7, 9, 9, 9, 9, 9]), (12, [80, 84, 82], [5, 0, 0, 0, 0, 0, 0]), (15, [77, 88], [8, 5, 0, 0, 0, 0, 0]), (16, [84, 88, 84], [3, 0, 0, 0, 0, 0, 0]), (28, [65, 65, 65, 65], [2, 0, 0, 0, 0, 0, 0]), (33, [83, 82, 86], [8, 8, 8, 6, 0, 0, 0])]
/-- the types of the table, and any other one. -/
theorem by_type {P : Nat → Prop} (h1 : P 1) (h2 : P 2) (h5 : P 5) (h6 : P 6) (h12 : P 12) (h15 : P 15) (h16 : P 16) (h28 : P 28) (h33 : P 33) (ho : ∀ t, t ≠ 1 → t ≠ 2 → t ≠ 5 → t ≠ 6 → t ≠ 12 → t ≠ 15 → t ≠ 16 → t ≠ 28 → t ≠ 33 → P t) (t : Nat) : P t := by
  by_cases a1 : t = 1
  · subst a1; exact h1
  by_cases a2 : t = 2
  · subst a2; exact h2
  by_cases a5 : t = 5
  · subst a5; exact h5
  by_cases a6 : t = 6
  · subst a6; exact h6
  by_cases a12 : t = 12
  · subst a12; exact h12
  by_cases a15 : t = 15
  · subst a15; exact h15
  by_cases a16 : t = 16
  · subst a16; exact h16
  by_cases a28 : t = 28
  · subst a28; exact h28
  by_cases a33 : t = 33
  · subst a33; exact h33
  exact ho t a1 a2 a5 a6 a12 a15 a16 a28 a33
theorem parts_other {t : Nat} (h1 : t ≠ 1) (h2 : t ≠ 2) (h5 : t ≠ 5) (h6 : t ≠ 6) (h12 : t ≠ 12) (h15 : t ≠ 15) (h16 : t ≠ 16) (h28 : t ≠ 28) (h33 : t ≠ 33) : parts t = [4, 0, 0, 0, 0, 0, 0] := by
  unfold parts
  rw [if_neg h1, if_neg h2, if_neg h5, if_neg h6, if_neg h12, if_neg h15, if_neg h16, if_neg h28, if_neg h33]
theorem parts_len (t : Nat) : (parts t).length = 7 := by
  refine by_type (P := fun t => (parts t).length = 7) rfl rfl rfl rfl rfl rfl rfl rfl rfl (fun t a b c d e f g h i => ?_) t
  rw [parts_other a b c d e f g h i]; rfl
theorem parts_lt (t : Nat) : ∀ p ∈ parts t, p ≤ 9 := by
  refine by_type (P := fun t => ∀ p ∈ parts t, p ≤ 9) ?_ ?_ ?_ ?_ ?_ ?_ ?_ ?_ ?_ (fun t a b c d e f g h i => ?_) t
  all_goals first
    | (rw [parts_other a b c d e f g h i]; decide)
    | decide
/-- how many numbers parts have; whether they have Raw, Host, Mail. -/
def nums (l : List Nat) : Nat := (l.filter fun p => p == 8 || p == 9).length
def hasRaw (l : List Nat) : Bool := l.any fun p => p == 1 || p == 2 || p == 3 || p == 4
def hasHost (l : List Nat) : Bool := l.any fun p => p == 5 || p == 6
def hasMail (l : List Nat) : Bool := l.any fun p => p == 7
theorem nums_snoc (l : List Nat) (p : Nat) : nums (l ++ [p]) = nums l + if p = 8 ∨ p = 9 then 1 else 0 := by
  unfold nums
  rw [List.filter_append, List.length_append]
  congr 1
  by_cases h : p = 8 ∨ p = 9
  · rw [if_pos h]; rcases h with rfl | rfl <;> rfl
  · rw [if_neg h, List.filter_cons_of_neg (by simpa using h)]; rfl
theorem nums_le {t k : Nat} : nums ((parts t).take k) ≤ 5 := by
  have h : nums (parts t) ≤ 5 := by
    refine by_type (P := fun t => nums (parts t) ≤ 5) (by decide) (by decide) (by decide) (by decide) (by decide) (by decide) (by decide) (by decide) (by decide) (fun t a b c d e f g h i => ?_) t
    rw [parts_other a b c d e f g h i]; decide
  have e : nums (parts t) = nums ((parts t).take k) + nums ((parts t).drop k) := by
    unfold nums
    rw [← List.length_append, ← List.filter_append, List.take_append_drop]
  omega
def hasN (d : Dt) : Nat → Nat
  | 0 => d.n0
  | 1 => d.n1
  | 2 => d.n2
  | 3 => d.n3
  | _ => d.n4
/-- may this be a part, when so many numbers stand ahead of it? -/
def fit (p : Nat) (d : Dt) (n : Nat) : Bool :=
  if p = 1 then d.raw.length == 4 else if p = 2 then d.raw.length == 16
  else if p = 3 then (match tx d.raw with | some (_ :: _) => decide (d.raw.length ≤ 65535) | _ => false)
  else if p = 4 then decide (d.raw.length ≤ 65535)
  else if p = 5 ∨ p = 6 then nm d.host else if p = 7 then nm d.mail
  else if p = 8 then decide (hasN d n ≤ 65535) else true
/-- all parts fit. -/
def fitAll (d : Dt) : List Nat → Nat → Bool
  | [], _ => true
  | p :: r, n => fit p d n && fitAll d r (n + if p = 8 ∨ p = 9 then 1 else 0)
theorem fitAll_snoc (d : Dt) (l : List Nat) (p n : Nat) : fitAll d (l ++ [p]) n = (fitAll d l n && fit p d (n + nums l)) := by
  induction l generalizing n with
  | nil => simp [fitAll, nums]
  | cons q r ih =>
    have e : nums (q :: r) = (if q = 8 ∨ q = 9 then 1 else 0) + nums r := by
      have : q :: r = [q] ++ r := rfl
      rw [this]
      unfold nums
      rw [List.filter_append, List.length_append]
      congr 1
      by_cases h : q = 8 ∨ q = 9
      · rw [if_pos h]; rcases h with rfl | rfl <;> rfl
      · rw [if_neg h, List.filter_cons_of_neg (by simpa using h)]; rfl
    rw [List.cons_append, fitAll, ih, fitAll, e, Bool.and_assoc, Nat.add_assoc]
theorem fitAll_no {d : Dt} {l : List Nat} {k : Nat} (h : fitAll d (l.take k) 0 = false) : fitAll d l 0 = false := by
  suffices H : ∀ (l : List Nat) (k n : Nat), fitAll d (l.take k) n = false → fitAll d l n = false from H l k 0 h
  intro l
  induction l with
  | nil => intro k n h; simpa using h
  | cons q r ih =>
    intro k n h
    cases k with
    | zero => simp [fitAll] at h
    | succ k =>
      rw [List.take_succ_cons, fitAll] at h
      rw [fitAll]
      cases hf : fit q d n with
      | false => rfl
      | true => rw [hf, Bool.true_and] at h; rw [Bool.true_and]; exact ih _ _ h
/-- nothing is in data but what these parts have. -/
def bare (l : List Nat) (d : Dt) : Bool :=
  (hasRaw l || d.raw == []) && (hasHost l || d.host == []) && (hasMail l || d.mail == []) &&
  (decide (0 < nums l) || d.n0 == 0) && (decide (1 < nums l) || d.n1 == 0) && (decide (2 < nums l) || d.n2 == 0) && (decide (3 < nums l) || d.n3 == 0) && (decide (4 < nums l) || d.n4 == 0)
theorem nm_nil : nm [] = false := rfl
theorem nm_cases (l : By) : (l = [] ∧ nm l = false) ∨ (l ≠ [] ∧ nm l = true) ∨ (l ≠ [] ∧ nm l = false) := by
  by_cases h : l = []
  · exact .inl ⟨h, by rw [h]; rfl⟩
  · cases hn : nm l
    · exact .inr (.inr ⟨h, rfl⟩)
    · exact .inr (.inl ⟨h, rfl⟩)
set_option maxHeartbeats 4000000 in
theorem ok_parts (t : Nat) (d : Dt) : ok t d = (fitAll d (parts t) 0 && bare (parts t) d) := by
  obtain ⟨r, ho, ma, n0, n1, n2, n3, n4⟩ := d
  refine by_type (P := fun t => ok t ⟨r, ho, ma, n0, n1, n2, n3, n4⟩ = (fitAll ⟨r, ho, ma, n0, n1, n2, n3, n4⟩ (parts t) 0 && bare (parts t) ⟨r, ho, ma, n0, n1, n2, n3, n4⟩)) ?_ ?_ ?_ ?_ ?_ ?_ ?_ ?_ ?_ (fun t a b c d e' f g h i => ?_) t
  case refine_10 =>
    have e1 : isHost t = false := by simp [isHost, *]
    have e2 : isMail t = false := by simp [isMail, *]
    have e3 : cnt t = 0 := by unfold cnt; rw [if_neg d, if_neg f, if_neg i]
    have hr : rawOk t r = decide (r.length ≤ 65535) := by
      unfold rawOk
      rw [e1, if_neg (by simp), if_neg a, if_neg h, if_neg g]
    unfold ok
    simp only
    rw [parts_other a b c d e' f g h i, e1, e2, hr]
    clear hr e1 e2 a b c d e' f g h i
    rw [Bool.eq_iff_iff]
    rcases nm_cases ho with ⟨q1, q2⟩ | ⟨q1, q2⟩ | ⟨q1, q2⟩ <;> rcases nm_cases ma with ⟨q3, q4⟩ | ⟨q3, q4⟩ | ⟨q3, q4⟩ <;> simp [nm_nil, q1, q2, q3, q4, numOk, e3, fitAll, fit, bare, hasRaw, hasHost, hasMail, nums, and_assoc]
  all_goals
    rw [Bool.eq_iff_iff]
    rcases nm_cases ho with ⟨q1, q2⟩ | ⟨q1, q2⟩ | ⟨q1, q2⟩ <;> rcases nm_cases ma with ⟨q3, q4⟩ | ⟨q3, q4⟩ | ⟨q3, q4⟩ <;>
      (simp [nm_nil, q1, q2, q3, q4, ok, rawOk, numOk, parts, fitAll, fit, bare, hasRaw, hasHost, hasMail, nums, isHost, isMail, cnt, bits, hasN, and_assoc, and_left_comm, and_comm] <;> (intros; rfl))
end Go.Proofs.YtopcklpmeaghmaaGreatDoor.Rd
/- The words that tell data: as they stand, and cut again. Nothing of the program. -/
namespace Go.Proofs.YtopcklpmeaghmaaGreatDoor.Rd

/-- the j-th number of 16 bits of an address. -/
def grp (s : By) (j : Nat) : Nat := 256 * (s[2 * j]?.getD 0).toNat + (s[2 * j + 1]?.getD 0).toNat
def two (c : UInt8) : By := hex (c.toNat / 16) ++ hex (c.toNat % 16)
/-- the words of one part; ls: the short texts. -/
def pcsQ (d : Dt) (ls : List By) (n p : Nat) : List (By × Bool) :=
  if p = 1 then [(joinB 46 (d.raw.map fun c => dec c.toNat), false)]
  else if p = 2 then [(joinB 58 ((List.range 8).map fun i => hex (grp d.raw i)), false)]
  else if p = 3 then ls.map fun l => (Nm.esc true l, true)
  else if p = 4 then ([92, 35], false) :: (dec d.raw.length, false) :: (if d.raw = [] then [] else [(d.raw.flatMap two, false)])
  else if p = 5 ∨ p = 6 then [(Nm.text d.host, false)] else if p = 7 then [(Nm.text d.mail, false)]
  else if p = 8 ∨ p = 9 then [(dec (hasN d n), false)] else []
def tellQ (d : Dt) (ls : List By) : List Nat → Nat → List (By × Bool)
  | [], _ => []
  | p :: r, n => pcsQ d ls n p ++ tellQ d ls r (n + if p = 8 ∨ p = 9 then 1 else 0)
theorem good_of {p : By} (hw : Whole 32 p) (hp : ∃ c r, p = c :: r ∧ c ≠ 32 ∧ c ≠ 34) : Good (p, false) := ⟨hw, hp⟩
theorem digit_ne {c : UInt8} (h : isDig c = true) : c ≠ 32 ∧ c ≠ 34 ∧ c ≠ 92 ∧ c ≠ 46 ∧ c ≠ 58 := by
  simp only [isDig, Bool.and_eq_true, decide_eq_true_eq] at h
  refine ⟨?_, ?_, ?_, ?_, ?_⟩ <;> (rintro rfl; revert h; decide)
theorem dec_mem {n : Nat} {c : UInt8} (h : c ∈ dec n) : isDig c = true := List.all_eq_true.1 (dec_digs n) c h
theorem hx_ne {k : Nat} (h : k < 16) : hx k ≠ 32 ∧ hx k ≠ 34 ∧ hx k ≠ 92 ∧ hx k ≠ 46 ∧ hx k ≠ 58 := by
  have hn := hx_nat h
  have key : ∀ c : UInt8, (c.toNat < 48 ∨ 57 < c.toNat ∧ c.toNat < 97) → hx k ≠ c := fun c hc e => by
    rw [e] at hn
    split at hn <;> omega
  exact ⟨key 32 (by decide), key 34 (by decide), key 92 (by decide), key 46 (by decide), key 58 (by decide)⟩
theorem hex_mem {n : Nat} {c : UInt8} (h : c ∈ hex n) : c ≠ 32 ∧ c ≠ 34 ∧ c ≠ 92 ∧ c ≠ 46 ∧ c ≠ 58 := by
  induction n using Nat.strongRecOn with
  | ind n ih =>
    by_cases hn : n < 16
    · rw [hex_small hn, List.mem_singleton] at h
      rw [h]
      exact hx_ne hn
    · rw [hex_more hn, List.mem_append, List.mem_singleton] at h
      rcases h with h | h
      · exact ih (n / 16) (by omega) h
      · rw [h]
        exact hx_ne (Nat.mod_lt n (by decide))
theorem joinB_mem {b c : UInt8} : ∀ {ps : List By}, c ∈ joinB b ps → c = b ∨ ∃ p ∈ ps, c ∈ p
  | [], h => by simp [joinB] at h
  | [p], h => .inr ⟨p, by simp, h⟩
  | p :: q :: r, h => by
    rw [joinB, List.mem_append, List.mem_cons] at h
    rcases h with h | h | h
    · exact .inr ⟨p, by simp, h⟩
    · exact .inl h
    · rcases joinB_mem h with h | ⟨x, hx, h⟩
      · exact .inl h
      · exact .inr ⟨x, List.mem_cons_of_mem _ hx, h⟩
theorem joinB_pos {b : UInt8} {p : By} {ps : List By} (h : p ≠ []) : joinB b (p :: ps) ≠ [] := by
  cases ps with
  | nil => exact h
  | cons q r => rw [joinB]; simp
/-- a word of bytes that are no blank, no quote and no backslash. -/
theorem good_plain {p : By} (h0 : p ≠ []) (h : ∀ c ∈ p, c ≠ 32 ∧ c ≠ 34 ∧ c ≠ 92) : Good (p, false) := by
  refine good_of (Whole.all fun c hc => ⟨(h c hc).1, (h c hc).2.2⟩) ?_
  cases p with
  | nil => exact absurd rfl h0
  | cons c r => exact ⟨c, r, rfl, (h c (by simp)).1, (h c (by simp)).2.1⟩
theorem dec_ne (n : Nat) : dec n ≠ [] := fun e => by have := dec_pos n; rw [e] at this; simp at this
theorem hex_ne (n : Nat) : hex n ≠ [] := fun e => by have := hex_pos n; rw [e] at this; simp at this
theorem good_dec (n : Nat) : Good (dec n, false) := good_plain (dec_ne n) fun c hc => by
  have := digit_ne (dec_mem hc)
  exact ⟨this.1, this.2.1, this.2.2.1⟩
theorem good_four {s : By} (h : s ≠ []) : Good (joinB 46 (s.map fun c => dec c.toNat), false) := by
  refine good_plain ?_ fun c hc => ?_
  · cases s with
    | nil => exact absurd rfl h
    | cons a r => exact joinB_pos (dec_ne _)
  · rcases joinB_mem hc with rfl | ⟨p, hp, hc⟩
    · decide
    · obtain ⟨x, _, rfl⟩ := List.mem_map.1 hp
      have := digit_ne (dec_mem hc)
      exact ⟨this.1, this.2.1, this.2.2.1⟩
theorem good_eight (s : By) : Good (joinB 58 ((List.range 8).map fun i => hex (grp s i)), false) := by
  refine good_plain ?_ fun c hc => ?_
  · exact joinB_pos (hex_ne _)
  · rcases joinB_mem hc with rfl | ⟨p, hp, hc⟩
    · decide
    · obtain ⟨x, _, rfl⟩ := List.mem_map.1 hp
      have := hex_mem hc
      exact ⟨this.1, this.2.1, this.2.2.1⟩
theorem good_two {s : By} (h : s ≠ []) : Good (s.flatMap two, false) := by
  refine good_plain ?_ fun c hc => ?_
  · cases s with
    | nil => exact absurd rfl h
    | cons a r =>
      intro e
      rw [List.flatMap_cons, List.append_eq_nil_iff] at e
      have := e.1
      unfold two at this
      rw [List.append_eq_nil_iff] at this
      exact hex_ne _ this.1
  · obtain ⟨x, _, hc⟩ := List.mem_flatMap.1 hc
    unfold two at hc
    rw [List.mem_append] at hc
    rcases hc with hc | hc
    · exact ⟨(hex_mem hc).1, (hex_mem hc).2.1, (hex_mem hc).2.2.1⟩
    · exact ⟨(hex_mem hc).1, (hex_mem hc).2.1, (hex_mem hc).2.2.1⟩
theorem esc1_head (c : UInt8) : ∃ d r, Nm.esc1 false c = d :: r ∧ d ≠ 32 ∧ d ≠ 34 := by
  unfold Nm.esc1
  by_cases hm : Nm.mark false c = true
  · rw [if_pos hm]
    exact ⟨_, _, rfl, by decide, by decide⟩
  · rw [if_neg hm]
    by_cases hc : Nm.clear false c = true
    · rw [if_pos hc]
      refine ⟨_, _, rfl, ?_, ?_⟩
      · rintro rfl
        exact absurd hc (by decide)
      · rintro rfl
        exact absurd (by decide) hm
    · rw [if_neg hc]
      exact ⟨_, _, rfl, by decide, by decide⟩
theorem good_text {n : By} (h : nm n = true) : Good (Nm.text n, false) := by
  unfold nm at h
  unfold Nm.text
  cases hs : Nm.split n with
  | none => rw [hs] at h; cases h
  | some ls =>
    cases ls with
    | nil => exact good_plain (by simp) (by decide)
    | cons l r =>
      refine good_of ?_ ?_
      · show Whole 32 (Nm.textL (l :: r))
        exact Whole.flat fun x _ => (esc_whole false x).app (Whole.one (by decide) (by decide))
      · show ∃ c t, Nm.textL (l :: r) = c :: t ∧ c ≠ 32 ∧ c ≠ 34
        rw [Nm.textL_cons]
        cases l with
        | nil => exact ⟨46, _, rfl, by decide, by decide⟩
        | cons a q =>
          obtain ⟨d, t, e, h1, h2⟩ := esc1_head a
          refine ⟨d, t ++ Nm.esc false q ++ 46 :: Nm.textL r, ?_, h1, h2⟩
          rw [show Nm.esc false (a :: q) = Nm.esc1 false a ++ Nm.esc false q from by simp [Nm.esc], e]
          simp
/-- the words of a part that fits are told as they are. -/
theorem good_pcs {d : Dt} {ls : List By} {n p : Nat} (h : fit p d n = true) : ∀ x ∈ pcsQ d ls n p, Good x := by
  intro x hx
  unfold pcsQ at hx
  unfold fit at h
  by_cases h1 : p = 1
  · rw [if_pos h1] at hx h
    rw [List.mem_singleton.1 hx]
    exact good_four (fun e => by rw [e] at h; cases h)
  rw [if_neg h1] at hx h
  by_cases h2 : p = 2
  · rw [if_pos h2] at hx
    rw [List.mem_singleton.1 hx]
    exact good_eight _
  rw [if_neg h2] at hx h
  by_cases h3 : p = 3
  · rw [if_pos h3] at hx
    obtain ⟨l, _, rfl⟩ := List.mem_map.1 hx
    exact esc_whole true l
  rw [if_neg h3] at hx h
  by_cases h4 : p = 4
  · rw [if_pos h4] at hx
    rw [List.mem_cons, List.mem_cons] at hx
    rcases hx with rfl | rfl | hx
    · exact good_of (Whole.back (by decide)) ⟨_, _, rfl, by decide, by decide⟩
    · exact good_dec _
    · by_cases h0 : d.raw = []
      · rw [if_pos h0] at hx; cases hx
      · rw [if_neg h0] at hx
        rw [List.mem_singleton.1 hx]
        exact good_two h0
  rw [if_neg h4] at hx h
  by_cases h5 : p = 5 ∨ p = 6
  · rw [if_pos h5] at hx h
    rw [List.mem_singleton.1 hx]
    exact good_text h
  rw [if_neg h5] at hx h
  by_cases h7 : p = 7
  · rw [if_pos h7] at hx h
    rw [List.mem_singleton.1 hx]
    exact good_text h
  rw [if_neg h7] at hx
  by_cases h8 : p = 8 ∨ p = 9
  · rw [if_pos h8] at hx
    rw [List.mem_singleton.1 hx]
    exact good_dec _
  · rw [if_neg h8] at hx; cases hx
theorem good_tell {d : Dt} {ls : List By} : ∀ {ps : List Nat} {n : Nat}, fitAll d ps n = true → ∀ x ∈ tellQ d ls ps n, Good x
  | [], _, _, x, hx => by simp [tellQ] at hx
  | p :: r, n, h, x, hx => by
    rw [fitAll, Bool.and_eq_true] at h
    rw [tellQ, List.mem_append] at hx
    rcases hx with hx | hx
    · exact good_pcs h.1 x hx
    · exact good_tell h.2 x hx
/-- what tells data that may be is cut into its words again. -/
theorem cut_tell {t : Nat} {d : Dt} {ls : List By} (h : ok t d = true) : cutW (joinB 32 ((tellQ d ls (parts t) 0).map wdB)) = tellQ d ls (parts t) 0 := by
  rw [ok_parts, Bool.and_eq_true] at h
  exact cutW_words (good_tell h.1)
end Go.Proofs.YtopcklpmeaghmaaGreatDoor.Rd
/- Data, read of words: the program's way, and that the words that tell data tell them again. Nothing of the program. -/
namespace Go.Proofs.YtopcklpmeaghmaaGreatDoor.Rd

abbrev W2 := By × Bool
/-- the next word, if it is not quoted. -/
def plainW : List W2 → Option (By × List W2)
  | [] => none
  | w :: r => if w.2 then none else some (w.1, r)
def allM (f : By → Option Nat) : List By → Option (List Nat)
  | [] => some []
  | p :: r => match f p, allM f r with
    | some v, some vs => some (v :: vs)
    | _, _ => none
theorem allM_map {α : Type} {f : By → Option Nat} {g : α → By} {v : α → Nat} : ∀ {l : List α}, (∀ x ∈ l, f (g x) = some (v x)) → allM f (l.map g) = some (l.map v)
  | [], _ => rfl
  | a :: r, h => by
    rw [List.map_cons, allM, h a (by simp), allM_map (fun x hx => h x (by simp [hx]))]
    rfl
/-- an address of four bytes. -/
def addr4 (s : By) : Option By := if (splitB 46 s).length = 4 then (allM (fun p => num p 255) (splitB 46 s)).map (·.map UInt8.ofNat) else none
theorem addr4_tell {r : By} (h : r.length = 4) : addr4 (joinB 46 (r.map fun c => dec c.toNat)) = some r := by
  have h0 : (r.map fun c => dec c.toNat) ≠ [] := by
    intro e
    have := congrArg List.length e
    rw [List.length_map, h] at this
    cases this
  have hs := split_join (b := 46) h0 (fun p hp c hc => by
    obtain ⟨x, _, rfl⟩ := List.mem_map.1 hp
    exact (digit_ne (dec_mem hc)).2.2.2.1)
  unfold addr4
  rw [hs, if_pos (by rw [List.length_map, h]), allM_map (v := fun c : UInt8 => c.toNat) (fun c _ => num_dec (by have := c.toNat_lt; omega) (by decide))]
  rw [Option.map_some, List.map_map]
  congr 1
  have : (UInt8.ofNat ∘ fun c : UInt8 => c.toNat) = id := by
    funext c
    simp
  rw [this, List.map_id]
/-- one to four digits to the base 16. -/
def hexR (s : By) : Option Nat := if s.length = 0 ∨ 4 < s.length then none else hexV s
theorem hexR_hex {n : Nat} (h : n < 65536) : hexR (hex n) = some n := by
  have h1 := hex_few 3 n (by omega)
  have h2 := hex_pos n
  unfold hexR
  rw [if_neg (by omega), hex_val]
def groupsR (s : By) : Option (List Nat) := if s = [] then some [] else allM hexR (splitB 58 s)
/-- at the first :: -/
def cut2 : By → By × By × Bool
  | [] => ([], [], false)
  | [c] => ([c], [], false)
  | c :: d :: r => if c = 58 ∧ d = 58 then ([], r, true) else (c :: (cut2 (d :: r)).1, (cut2 (d :: r)).2)
def addr16 (s : By) : Option By :=
  match groupsR (cut2 s).1, groupsR (cut2 s).2.1 with
  | some a, some b =>
    if ((cut2 s).2.2 = true ∧ 8 ≤ a.length + b.length) ∨ ((cut2 s).2.2 = false ∧ a.length + b.length ≠ 8) then none
    else some ((a ++ List.replicate (8 - (a.length + b.length)) 0 ++ b).flatMap fun g => [UInt8.ofNat (g / 256), UInt8.ofNat (g % 256)])
  | _, _ => none
theorem cut2_plain {c : UInt8} {r : By} (h : c ≠ 58) : cut2 (c :: r) = (c :: (cut2 r).1, (cut2 r).2) := by
  cases r with
  | nil => rfl
  | cons d r => rw [cut2, if_neg (fun e => h e.1)]
theorem cut2_app {p : By} (h : ∀ c ∈ p, c ≠ 58) (t : By) : cut2 (p ++ t) = (p ++ (cut2 t).1, (cut2 t).2) := by
  induction p with
  | nil => rfl
  | cons c r ih =>
    rw [List.cons_append, cut2_plain (h c (by simp)), ih (fun x hx => h x (by simp [hx]))]
    rfl
theorem cut2_colon {c : UInt8} {r : By} (h : c ≠ 58) : cut2 (58 :: c :: r) = (58 :: (cut2 (c :: r)).1, (cut2 (c :: r)).2) := by rw [cut2, if_neg (fun e => h e.2)]
theorem cut2_join : ∀ {ps : List By}, (∀ p ∈ ps, p ≠ [] ∧ ∀ c ∈ p, c ≠ 58) → cut2 (joinB 58 ps) = (joinB 58 ps, [], false)
  | [], _ => rfl
  | [p], h => by
    have := cut2_app (h p (by simp)).2 []
    rw [List.append_nil] at this
    rw [joinB, this]
    simp [cut2]
  | p :: q :: r, h => by
    have ih := cut2_join (ps := q :: r) (fun x hx => h x (by simp [hx]))
    obtain ⟨hq, hq2⟩ := h q (by simp)
    obtain ⟨c, q', rfl⟩ : ∃ c t, q = c :: t := by cases q with | nil => exact absurd rfl hq | cons c t => exact ⟨c, t, rfl⟩
    obtain ⟨t, ht⟩ : ∃ t, joinB 58 ((c :: q') :: r) = c :: t := by
      cases r with
      | nil => exact ⟨_, rfl⟩
      | cons x y => exact ⟨_, rfl⟩
    rw [joinB, cut2_app (h p (by simp)).2, ht, cut2_colon (hq2 c (by simp)), ← ht, ih]
theorem grp_lt (s : By) (j : Nat) : grp s j < 65536 := by
  unfold grp
  have := (s[2 * j]?.getD 0).toNat_lt
  have := (s[2 * j + 1]?.getD 0).toNat_lt
  omega
theorem grp_bytes (a b : UInt8) : [UInt8.ofNat ((256 * a.toNat + b.toNat) / 256), UInt8.ofNat ((256 * a.toNat + b.toNat) % 256)] = [a, b] := by
  have ha := a.toNat_lt
  have hb := b.toNat_lt
  have e1 : (256 * a.toNat + b.toNat) / 256 = a.toNat := by omega
  have e2 : (256 * a.toNat + b.toNat) % 256 = b.toNat := by omega
  rw [e1, e2]
  simp
theorem grp_all {r : By} (h : r.length = 16) : ((List.range 8).map fun i => grp r i).flatMap (fun g => [UInt8.ofNat (g / 256), UInt8.ofNat (g % 256)]) = r := by
  match r, h with
  | [a0, a1, a2, a3, a4, a5, a6, a7, a8, a9, a10, a11, a12, a13, a14, a15], _ =>
    have e : (List.range 8) = [0, 1, 2, 3, 4, 5, 6, 7] := by decide
    rw [e]
    simp only [List.map_cons, List.map_nil, List.flatMap_cons, List.flatMap_nil, grp]
    show ([UInt8.ofNat ((256 * a0.toNat + a1.toNat) / 256), UInt8.ofNat ((256 * a0.toNat + a1.toNat) % 256)] ++ ([UInt8.ofNat ((256 * a2.toNat + a3.toNat) / 256), UInt8.ofNat ((256 * a2.toNat + a3.toNat) % 256)] ++ ([UInt8.ofNat ((256 * a4.toNat + a5.toNat) / 256), UInt8.ofNat ((256 * a4.toNat + a5.toNat) % 256)] ++ ([UInt8.ofNat ((256 * a6.toNat + a7.toNat) / 256), UInt8.ofNat ((256 * a6.toNat + a7.toNat) % 256)] ++ ([UInt8.ofNat ((256 * a8.toNat + a9.toNat) / 256), UInt8.ofNat ((256 * a8.toNat + a9.toNat) % 256)] ++ ([UInt8.ofNat ((256 * a10.toNat + a11.toNat) / 256), UInt8.ofNat ((256 * a10.toNat + a11.toNat) % 256)] ++ ([UInt8.ofNat ((256 * a12.toNat + a13.toNat) / 256), UInt8.ofNat ((256 * a12.toNat + a13.toNat) % 256)] ++ ([UInt8.ofNat ((256 * a14.toNat + a15.toNat) / 256), UInt8.ofNat ((256 * a14.toNat + a15.toNat) % 256)] ++ [])))))))) = _
    simp only [grp_bytes]
    rfl
theorem addr16_tell {r : By} (h : r.length = 16) : addr16 (joinB 58 ((List.range 8).map fun i => hex (grp r i))) = some r := by
  have hno : ∀ p ∈ (List.range 8).map (fun i => hex (grp r i)), p ≠ [] ∧ ∀ c ∈ p, c ≠ 58 := fun p hp => by
    obtain ⟨i, _, rfl⟩ := List.mem_map.1 hp
    exact ⟨hex_ne _, fun c hc => (hex_mem hc).2.2.2.2⟩
  have hne : (List.range 8).map (fun i => hex (grp r i)) ≠ [] := by
    intro e
    have := congrArg List.length e
    rw [List.length_map] at this
    cases this
  have hj : joinB 58 ((List.range 8).map fun i => hex (grp r i)) ≠ [] := joinB_pos (hex_ne _)
  have hg : groupsR (joinB 58 ((List.range 8).map fun i => hex (grp r i))) = some ((List.range 8).map fun i => grp r i) := by
    unfold groupsR
    rw [if_neg hj, split_join hne (fun p hp => (hno p hp).2), allM_map (v := fun i => grp r i) (fun i _ => hexR_hex (grp_lt r i))]
  have hg0 : groupsR [] = some [] := rfl
  unfold addr16
  rw [cut2_join hno]
  simp only [hg, hg0]
  rw [if_neg]
  · have e8 : ((List.range 8).map fun i => grp r i).length = 8 := by rw [List.length_map, List.length_range]
    rw [e8]
    show some (_ : By) = some r
    congr 1
    rw [show (8 - (8 + ([] : List Nat).length)) = 0 from rfl, List.replicate_zero, List.append_nil, List.append_nil]
    exact grp_all h
  · rintro (⟨h1, _⟩ | ⟨_, h2⟩)
    · cases h1
    · exact h2 (by rw [List.length_map, List.length_range]; rfl)
/-- short texts, one behind the other. -/
def textsR : By → List W2 → Option By
  | raw, [] => some raw
  | raw, w :: r => match Nm.unesc w.1 with
    | none => none
    | some l => if 255 < l.length ∨ 65535 < raw.length + (1 + l.length) then none else textsR (raw ++ UInt8.ofNat l.length :: l) r
theorem textsR_tell : ∀ {ls : List By} {raw : By}, (∀ l ∈ ls, l.length ≤ 255) → (raw ++ ls.flatMap fun l => UInt8.ofNat l.length :: l).length ≤ 65535 → textsR raw (ls.map fun l => (Nm.esc true l, true)) = some (raw ++ ls.flatMap fun l => UInt8.ofNat l.length :: l)
  | [], raw, _, _ => by rw [List.map_nil, textsR, List.flatMap_nil, List.append_nil]
  | l :: r, raw, h, hl => by
    have h1 := h l (by simp)
    have hl2 : raw.length + (1 + l.length) ≤ 65535 := by
      rw [List.flatMap_cons, List.length_append, List.length_append, List.length_cons] at hl
      omega
    rw [List.map_cons, textsR]
    simp only [Nm.unesc_esc]
    rw [if_neg (by omega), textsR_tell (fun x hx => h x (by simp [hx])) (by rw [List.flatMap_cons] at hl; simpa using hl)]
    simp
theorem tx_flat : ∀ (n : Nat) {s : By} {ls : List By}, s.length ≤ n → tx s = some ls → (ls.flatMap fun l => UInt8.ofNat l.length :: l) = s ∧ ∀ l ∈ ls, l.length ≤ 255 := by
  intro n
  induction n with
  | zero =>
    intro s ls hs h
    obtain rfl : s = [] := List.eq_nil_of_length_eq_zero (by omega)
    rw [tx_nil] at h
    cases h
    exact ⟨rfl, by simp⟩
  | succ n ih =>
    intro s ls hs h
    cases s with
    | nil =>
      rw [tx_nil] at h
      cases h
      exact ⟨rfl, by simp⟩
    | cons k t =>
      by_cases hk : t.length < k.toNat
      · rw [tx_bad hk] at h
        cases h
      · rw [tx_cons hk] at h
        obtain ⟨r, hr, rfl⟩ := Option.map_eq_some_iff.1 h
        obtain ⟨e, hl⟩ := ih (by simp at hs ⊢; omega) hr
        have hlen : (t.take k.toNat).length = k.toNat := by rw [List.length_take]; omega
        have hk8 := k.toNat_lt
        refine ⟨?_, fun l hl2 => ?_⟩
        · rw [List.flatMap_cons, e, hlen]
          simp
        · rcases List.mem_cons.1 hl2 with rfl | hl2
          · omega
          · exact hl l hl2
/-- a name in a word. -/
def nameR (o s : By) : Option By := if s = [64] then some o else if (Nm.parse s o).2 = 0 then some (Nm.parse s o).1 else none
theorem text_not_at (n : By) : Nm.text n ≠ [64] := by
  unfold Nm.text
  cases hs : Nm.split n with
  | none => simp
  | some ls =>
    cases ls with
    | nil => decide
    | cons l r =>
      show Nm.textL (l :: r) ≠ [64]
      intro e
      have hl : (46 : UInt8) ∈ Nm.textL (l :: r) := by rw [Nm.textL_cons]; simp
      rw [e] at hl
      revert hl
      decide
theorem nameR_text {n o : By} (hn : nm n = true) (ho : nm o = true) : nameR o (Nm.text n) = some n := by
  obtain ⟨ls, hn⟩ := Option.isSome_iff_exists.1 hn
  obtain ⟨os, ho⟩ := Option.isSome_iff_exists.1 ho
  unfold nameR
  rw [if_neg (text_not_at n), Nm.parse_text hn ho]
  rfl
end Go.Proofs.YtopcklpmeaghmaaGreatDoor.Rd
/- Data, read of words, part by part: the words that tell data tell them again. Nothing of the program. -/
namespace Go.Proofs.YtopcklpmeaghmaaGreatDoor.Rd

def setN (d : Dt) (k v : Nat) : Dt := match k with
  | 0 => { d with n0 := v }
  | 1 => { d with n1 := v }
  | 2 => { d with n2 := v }
  | 3 => { d with n3 := v }
  | _ => { d with n4 := v }
/-- what reading holds: the words that are left, the data so far, how many numbers were read. -/
abbrev RS := List W2 × Dt × Nat
def rdP (o : By) (p : Nat) (s : RS) : Option RS :=
  if p = 0 then some s
  else if p = 1 then (plainW s.1).bind fun x => (addr4 x.1).map fun r => (x.2, { s.2.1 with raw := r }, s.2.2)
  else if p = 2 then (plainW s.1).bind fun x => (addr16 x.1).map fun r => (x.2, { s.2.1 with raw := r }, s.2.2)
  else if p = 3 then if s.1 = [] then none else (textsR [] s.1).map fun r => ([], { s.2.1 with raw := r }, s.2.2)
  else if p = 4 then none
  else if p = 5 ∨ p = 6 then (plainW s.1).bind fun x => (nameR o x.1).map fun r => (x.2, { s.2.1 with host := r }, s.2.2)
  else if p = 7 then (plainW s.1).bind fun x => (nameR o x.1).map fun r => (x.2, { s.2.1 with mail := r }, s.2.2)
  else (plainW s.1).bind fun x => (num x.1 (if p = 8 then 65535 else 4294967295)).map fun v => (x.2, setN s.2.1 s.2.2 v, s.2.2 + 1)
def rdAll (o : By) : List Nat → RS → Option RS
  | [], s => some s
  | p :: r, s => (rdP o p s).bind (rdAll o r)
def dt0 : Dt := ⟨[], [], [], 0, 0, 0, 0, 0⟩
def knownR (o : By) (t : Nat) (ws : List W2) : Option Dt := (rdAll o (parts t) (ws, dt0, 0)).bind fun s => if s.1 = [] then some s.2.1 else none
/-- the digits of any data. -/
def gathR (m : Nat) : By → List W2 → Option (By × List W2)
  | ds, [] => some (ds, [])
  | ds, w :: r => if ds.length ≤ m then (if w.2 then none else gathR m (ds ++ w.1) r) else some (ds, w :: r)
def twoR : By → Option By
  | [] => some []
  | [_] => none
  | a :: b :: r => match hexR [a, b], twoR r with
    | some v, some s => some (UInt8.ofNat v :: s)
    | _, _ => none
/-- any data's bytes, of the words behind the first one. -/
def anyR (ws : List W2) : Option By := (plainW ws).bind fun x => (num x.1 65535).bind fun n => (gathR (2 * n) [] x.2).bind fun y => if y.1.length = 2 * n then twoR y.1 else none

/-- what a part adds. -/
def updP (d : Dt) (p n : Nat) (e : Dt) : Dt :=
  if p = 1 ∨ p = 2 ∨ p = 3 then { e with raw := d.raw } else if p = 5 ∨ p = 6 then { e with host := d.host } else if p = 7 then { e with mail := d.mail }
  else if p = 8 ∨ p = 9 then setN e n (hasN d n) else e
def updAll (d : Dt) : List Nat → Nat → Dt → Dt
  | [], _, e => e
  | p :: r, n, e => updAll d r (n + if p = 8 ∨ p = 9 then 1 else 0) (updP d p n e)
theorem rdP_tell {d e : Dt} {ls : List By} {o : By} {n p : Nat} {r : List W2} (ho : nm o = true) (hN : ∀ i, hasN d i ≤ 4294967295) (h : fit p d n = true) (h3 : p ≠ 3) (h4 : p ≠ 4) (h9 : p ≤ 9) :
    rdP o p (pcsQ d ls n p ++ r, e, n) = some (r, updP d p n e, n + if p = 8 ∨ p = 9 then 1 else 0) := by
  unfold fit at h
  unfold rdP pcsQ updP
  by_cases h0 : p = 0
  · subst h0
    rfl
  by_cases h1 : p = 1
  · subst h1
    have h' : d.raw.length = 4 := by simpa using h
    simp [plainW, addr4_tell h']
  by_cases h2 : p = 2
  · subst h2
    have h' : d.raw.length = 16 := by simpa using h
    have ha := addr16_tell h'
    simp only [show (2 : Nat) ≠ 0 by decide, show (2 : Nat) ≠ 1 by decide, if_false, if_true, plainW, List.cons_append, List.nil_append, Bool.false_eq_true, Option.bind_some, ha, Option.map_some]
    simp
  rw [if_neg h1, if_neg h2, if_neg h3, if_neg h4] at h
  rw [if_neg h0, if_neg h1, if_neg h2, if_neg h3, if_neg h4, if_neg h1, if_neg h2, if_neg h3, if_neg h4, if_neg (by omega : ¬(p = 1 ∨ p = 2 ∨ p = 3))]
  by_cases h5 : p = 5 ∨ p = 6
  · rw [if_pos h5] at h
    rw [if_pos h5, if_pos h5, if_pos h5, if_neg (by omega : ¬(p = 8 ∨ p = 9))]
    simp [plainW, nameR_text h ho]
  rw [if_neg h5] at h
  rw [if_neg h5, if_neg h5, if_neg h5]
  by_cases h7 : p = 7
  · rw [if_pos h7] at h
    rw [if_pos h7, if_pos h7, if_pos h7, if_neg (by omega : ¬(p = 8 ∨ p = 9))]
    simp [plainW, nameR_text h ho]
  rw [if_neg h7] at h
  rw [if_neg h7, if_neg h7, if_neg h7, if_pos (by omega : p = 8 ∨ p = 9), if_pos (by omega : p = 8 ∨ p = 9), if_pos (by omega : p = 8 ∨ p = 9)]
  by_cases h8 : p = 8
  · rw [if_pos h8] at h
    have h' : hasN d n ≤ 65535 := by simpa using h
    rw [if_pos h8]
    simp [plainW, num_dec h' (by decide)]
  · rw [if_neg h8]
    simp [plainW, num_dec (hN n) (by decide)]
theorem rdAll_tell {d : Dt} {ls : List By} {o : By} (ho : nm o = true) (hN : ∀ i, hasN d i ≤ 4294967295) : ∀ {ps : List Nat} {n : Nat} {e : Dt}, (∀ p ∈ ps, p ≠ 3 ∧ p ≠ 4 ∧ p ≤ 9) → fitAll d ps n = true → ∃ m, rdAll o ps (tellQ d ls ps n, e, n) = some ([], updAll d ps n e, m)
  | [], n, e, _, _ => ⟨n, rfl⟩
  | p :: r, n, e, hp, h => by
    rw [fitAll, Bool.and_eq_true] at h
    obtain ⟨h3, h4, h9⟩ := hp p (by simp)
    obtain ⟨m, ih⟩ := rdAll_tell ho hN (ps := r) (n := n + if p = 8 ∨ p = 9 then 1 else 0) (e := updP d p n e) (fun q hq => hp q (by simp [hq])) h.2
    refine ⟨m, ?_⟩
    rw [rdAll, tellQ, rdP_tell ho hN h.1 h3 h4 h9, Option.bind_some, ih]
    rfl
theorem texts_tell {d e : Dt} {ls : List By} {o : By} (h : fit 3 d 0 = true) (hls : tx d.raw = some ls) : rdAll o [3, 0, 0, 0, 0, 0, 0] (tellQ d ls [3, 0, 0, 0, 0, 0, 0] 0, e, 0) = some ([], { e with raw := d.raw }, 0) := by
  have hf : (match tx d.raw with | some (_ :: _) => decide (d.raw.length ≤ 65535) | _ => false) = true := h
  rw [hls] at hf
  obtain ⟨he, hl⟩ := tx_flat d.raw.length (Nat.le_refl _) hls
  cases ls with
  | nil => cases hf
  | cons a r =>
    have hb : d.raw.length ≤ 65535 := by simpa using hf
    have ht := textsR_tell (ls := a :: r) (raw := []) hl (by rw [List.nil_append, he]; exact hb)
    rw [List.nil_append, he] at ht
    have e1 : tellQ d (a :: r) [3, 0, 0, 0, 0, 0, 0] 0 = (a :: r).map fun l => (Nm.esc true l, true) := by simp [tellQ, pcsQ]
    rw [e1]
    simp only [rdAll, rdP, ht]
    simp
/-- THE WORDS THAT TELL DATA OF A KNOWN TYPE TELL THEM AGAIN. -/
theorem known_tell {t : Nat} {d : Dt} {ls : List By} {o : By} (ho : nm o = true) (hN : ∀ i, hasN d i ≤ 4294967295) (hls : tx d.raw = some ls) (h : ok t d = true) (ht : parts t ≠ [4, 0, 0, 0, 0, 0, 0]) : knownR o t (tellQ d ls (parts t) 0) = some d := by
  rw [ok_parts, Bool.and_eq_true] at h
  obtain ⟨hf, hb⟩ := h
  unfold knownR
  revert hf hb ht
  obtain ⟨r, hh, m, n0, n1, n2, n3, n4⟩ := d
  refine by_type (P := fun t => parts t ≠ [4, 0, 0, 0, 0, 0, 0] → fitAll ⟨r, hh, m, n0, n1, n2, n3, n4⟩ (parts t) 0 = true → bare (parts t) ⟨r, hh, m, n0, n1, n2, n3, n4⟩ = true → ((rdAll o (parts t) (tellQ ⟨r, hh, m, n0, n1, n2, n3, n4⟩ ls (parts t) 0, dt0, 0)).bind fun s => if s.1 = [] then some s.2.1 else none) = some ⟨r, hh, m, n0, n1, n2, n3, n4⟩) ?_ ?_ ?_ ?_ ?_ ?_ ?_ ?_ ?_ (fun t a b c d' e f g i j h1 => absurd (parts_other a b c d' e f g i j) h1) t
  case refine_7 =>
    intro _ hf hb
    have hf3 : fit 3 ⟨r, hh, m, n0, n1, n2, n3, n4⟩ 0 = true := by
      have : fitAll ⟨r, hh, m, n0, n1, n2, n3, n4⟩ [3, 0, 0, 0, 0, 0, 0] 0 = true := hf
      rw [fitAll, Bool.and_eq_true] at this
      exact this.1
    rw [show parts 16 = [3, 0, 0, 0, 0, 0, 0] from rfl] at hb ⊢
    rw [texts_tell hf3 hls, Option.bind_some]
    simp [bare, hasRaw, hasHost, hasMail, nums] at hb
    simp [dt0, hb]
  all_goals
    intro _ hf hb
    obtain ⟨m', hm⟩ := rdAll_tell (ls := ls) ho hN (e := dt0) (by decide) hf
    rw [hm, Option.bind_some]
    clear hm hf
    simp [parts, bare, hasRaw, hasHost, hasMail, nums] at hb
    simp [parts, updAll, updP, setN, hasN, dt0, hb]
end Go.Proofs.YtopcklpmeaghmaaGreatDoor.Rd
