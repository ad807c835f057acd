/- The parts of data: what the program's table says, against the document. Nothing of the program. -/
import Derived.Test.YtnhoaceickojeaaRdPure
namespace Go.Proofs.Ytnhoaceickojeaa.Rd

/-- the parts of a type: 1 four, 2 eight, 3 texts, 4 any bytes, 5 host, 6 host without pointers, 7 mail, 8 a number of 16 bits, 9 one of 32 bits, 0 none. -/
def parts (t : Nat) : List Nat :=
  if t = 1 then [1, 0, 0, 0, 0, 0, 0] else if t = 2 then [5, 0, 0, 0, 0, 0, 0] else if t = 5 then [5, 0, 0, 0, 0, 0, 0]
  else if t = 6 then [5, 7, 9, 9, 9, 9, 9] else if t = 12 then [5, 0, 0, 0, 0, 0, 0] else if t = 15 then [8, 5, 0, 0, 0, 0, 0]
  else if t = 16 then [3, 0, 0, 0, 0, 0, 0] else if t = 28 then [2, 0, 0, 0, 0, 0, 0] else if t = 33 then [8, 8, 8, 6, 0, 0, 0] else [4, 0, 0, 0, 0, 0, 0]
/-- the table's rows: number, text, parts. -/
def rowTab : List (Nat × By × List Nat) :=
  [(1, [65], [1, 0, 0, 0, 0, 0, 0]), (2, [78, 83], [5, 0, 0, 0, 0, 0, 0]), (5, [67, 78, 65, 77, 69], [5, 0, 0, 0, 0, 0, 0]), (6, [83, 79, 65], [5, 7, 9, 9, 9, 9, 9]), (12, [80, 84, 82], [5, 0, 0, 0, 0, 0, 0]), (15, [77, 88], [8, 5, 0, 0, 0, 0, 0]), (16, [84, 88, 84], [3, 0, 0, 0, 0, 0, 0]), (28, [65, 65, 65, 65], [2, 0, 0, 0, 0, 0, 0]), (33, [83, 82, 86], [8, 8, 8, 6, 0, 0, 0])]
/-- the types of the table, and any other one. -/
theorem by_type {P : Nat → Prop} (h1 : P 1) (h2 : P 2) (h5 : P 5) (h6 : P 6) (h12 : P 12) (h15 : P 15) (h16 : P 16) (h28 : P 28) (h33 : P 33) (ho : ∀ t, t ≠ 1 → t ≠ 2 → t ≠ 5 → t ≠ 6 → t ≠ 12 → t ≠ 15 → t ≠ 16 → t ≠ 28 → t ≠ 33 → P t) (t : Nat) : P t := by
  by_cases a1 : t = 1
  · subst a1; exact h1
  by_cases a2 : t = 2
  · subst a2; exact h2
  by_cases a5 : t = 5
  · subst a5; exact h5
  by_cases a6 : t = 6
  · subst a6; exact h6
  by_cases a12 : t = 12
  · subst a12; exact h12
  by_cases a15 : t = 15
  · subst a15; exact h15
  by_cases a16 : t = 16
  · subst a16; exact h16
  by_cases a28 : t = 28
  · subst a28; exact h28
  by_cases a33 : t = 33
  · subst a33; exact h33
  exact ho t a1 a2 a5 a6 a12 a15 a16 a28 a33
theorem parts_other {t : Nat} (h1 : t ≠ 1) (h2 : t ≠ 2) (h5 : t ≠ 5) (h6 : t ≠ 6) (h12 : t ≠ 12) (h15 : t ≠ 15) (h16 : t ≠ 16) (h28 : t ≠ 28) (h33 : t ≠ 33) : parts t = [4, 0, 0, 0, 0, 0, 0] := by
  unfold parts
  rw [if_neg h1, if_neg h2, if_neg h5, if_neg h6, if_neg h12, if_neg h15, if_neg h16, if_neg h28, if_neg h33]
theorem parts_len (t : Nat) : (parts t).length = 7 := by
  refine by_type (P := fun t => (parts t).length = 7) rfl rfl rfl rfl rfl rfl rfl rfl rfl (fun t a b c d e f g h i => ?_) t
  rw [parts_other a b c d e f g h i]; rfl
theorem parts_lt (t : Nat) : ∀ p ∈ parts t, p ≤ 9 := by
  refine by_type (P := fun t => ∀ p ∈ parts t, p ≤ 9) ?_ ?_ ?_ ?_ ?_ ?_ ?_ ?_ ?_ (fun t a b c d e f g h i => ?_) t
  all_goals first
    | (rw [parts_other a b c d e f g h i]; decide)
    | decide
/-- how many numbers parts have; whether they have Raw, Host, Mail. -/
def nums (l : List Nat) : Nat := (l.filter fun p => p == 8 || p == 9).length
def hasRaw (l : List Nat) : Bool := l.any fun p => p == 1 || p == 2 || p == 3 || p == 4
def hasHost (l : List Nat) : Bool := l.any fun p => p == 5 || p == 6
def hasMail (l : List Nat) : Bool := l.any fun p => p == 7
theorem nums_snoc (l : List Nat) (p : Nat) : nums (l ++ [p]) = nums l + if p = 8 ∨ p = 9 then 1 else 0 := by
  unfold nums
  rw [List.filter_append, List.length_append]
  congr 1
  by_cases h : p = 8 ∨ p = 9
  · rw [if_pos h]; rcases h with rfl | rfl <;> rfl
  · rw [if_neg h, List.filter_cons_of_neg (by simpa using h)]; rfl
theorem nums_le {t k : Nat} : nums ((parts t).take k) ≤ 5 := by
  have h : nums (parts t) ≤ 5 := by
    refine by_type (P := fun t => nums (parts t) ≤ 5) (by decide) (by decide) (by decide) (by decide) (by decide) (by decide) (by decide) (by decide) (by decide) (fun t a b c d e f g h i => ?_) t
    rw [parts_other a b c d e f g h i]; decide
  have e : nums (parts t) = nums ((parts t).take k) + nums ((parts t).drop k) := by
    unfold nums
    rw [← List.length_append, ← List.filter_append, List.take_append_drop]
  omega
def hasN (d : Dt) : Nat → Nat
  | 0 => d.n0
  | 1 => d.n1
  | 2 => d.n2
  | 3 => d.n3
  | _ => d.n4
/-- may this be a part, when so many numbers stand ahead of it? -/
def fit (p : Nat) (d : Dt) (n : Nat) : Bool :=
  if p = 1 then d.raw.length == 4 else if p = 2 then d.raw.length == 16
  else if p = 3 then (match tx d.raw with | some (_ :: _) => decide (d.raw.length ≤ 65535) | _ => false)
  else if p = 4 then decide (d.raw.length ≤ 65535)
  else if p = 5 ∨ p = 6 then nm d.host else if p = 7 then nm d.mail
  else if p = 8 then decide (hasN d n ≤ 65535) else true
/-- all parts fit. -/
def fitAll (d : Dt) : List Nat → Nat → Bool
  | [], _ => true
  | p :: r, n => fit p d n && fitAll d r (n + if p = 8 ∨ p = 9 then 1 else 0)
theorem fitAll_snoc (d : Dt) (l : List Nat) (p n : Nat) : fitAll d (l ++ [p]) n = (fitAll d l n && fit p d (n + nums l)) := by
  induction l generalizing n with
  | nil => simp [fitAll, nums]
  | cons q r ih =>
    have e : nums (q :: r) = (if q = 8 ∨ q = 9 then 1 else 0) + nums r := by
      have : q :: r = [q] ++ r := rfl
      rw [this]
      unfold nums
      rw [List.filter_append, List.length_append]
      congr 1
      by_cases h : q = 8 ∨ q = 9
      · rw [if_pos h]; rcases h with rfl | rfl <;> rfl
      · rw [if_neg h, List.filter_cons_of_neg (by simpa using h)]; rfl
    rw [List.cons_append, fitAll, ih, fitAll, e, Bool.and_assoc, Nat.add_assoc]
theorem fitAll_no {d : Dt} {l : List Nat} {k : Nat} (h : fitAll d (l.take k) 0 = false) : fitAll d l 0 = false := by
  suffices H : ∀ (l : List Nat) (k n : Nat), fitAll d (l.take k) n = false → fitAll d l n = false from H l k 0 h
  intro l
  induction l with
  | nil => intro k n h; simpa using h
  | cons q r ih =>
    intro k n h
    cases k with
    | zero => simp [fitAll] at h
    | succ k =>
      rw [List.take_succ_cons, fitAll] at h
      rw [fitAll]
      cases hf : fit q d n with
      | false => rfl
      | true => rw [hf, Bool.true_and] at h; rw [Bool.true_and]; exact ih _ _ h
/-- nothing is in data but what these parts have. -/
def bare (l : List Nat) (d : Dt) : Bool :=
  (hasRaw l || d.raw == []) && (hasHost l || d.host == []) && (hasMail l || d.mail == []) &&
  (decide (0 < nums l) || d.n0 == 0) && (decide (1 < nums l) || d.n1 == 0) && (decide (2 < nums l) || d.n2 == 0) && (decide (3 < nums l) || d.n3 == 0) && (decide (4 < nums l) || d.n4 == 0)
theorem nm_nil : nm [] = false := rfl
theorem nm_cases (l : By) : (l = [] ∧ nm l = false) ∨ (l ≠ [] ∧ nm l = true) ∨ (l ≠ [] ∧ nm l = false) := by
  by_cases h : l = []
  · exact .inl ⟨h, by rw [h]; rfl⟩
  · cases hn : nm l
    · exact .inr (.inr ⟨h, rfl⟩)
    · exact .inr (.inl ⟨h, rfl⟩)
set_option maxHeartbeats 4000000 in
theorem ok_parts (t : Nat) (d : Dt) : ok t d = (fitAll d (parts t) 0 && bare (parts t) d) := by
  obtain ⟨r, ho, ma, n0, n1, n2, n3, n4⟩ := d
  refine by_type (P := fun t => ok t ⟨r, ho, ma, n0, n1, n2, n3, n4⟩ = (fitAll ⟨r, ho, ma, n0, n1, n2, n3, n4⟩ (parts t) 0 && bare (parts t) ⟨r, ho, ma, n0, n1, n2, n3, n4⟩)) ?_ ?_ ?_ ?_ ?_ ?_ ?_ ?_ ?_ (fun t a b c d e' f g h i => ?_) t
  case refine_10 =>
    have e1 : isHost t = false := by simp [isHost, *]
    have e2 : isMail t = false := by simp [isMail, *]
    have e3 : cnt t = 0 := by unfold cnt; rw [if_neg d, if_neg f, if_neg i]
    have hr : rawOk t r = decide (r.length ≤ 65535) := by
      unfold rawOk
      rw [e1, if_neg (by simp), if_neg a, if_neg h, if_neg g]
    unfold ok
    simp only
    rw [parts_other a b c d e' f g h i, e1, e2, hr]
    clear hr e1 e2 a b c d e' f g h i
    rw [Bool.eq_iff_iff]
    rcases nm_cases ho with ⟨q1, q2⟩ | ⟨q1, q2⟩ | ⟨q1, q2⟩ <;> rcases nm_cases ma with ⟨q3, q4⟩ | ⟨q3, q4⟩ | ⟨q3, q4⟩ <;> simp [nm_nil, q1, q2, q3, q4, numOk, e3, fitAll, fit, bare, hasRaw, hasHost, hasMail, nums, and_assoc]
  all_goals
    rw [Bool.eq_iff_iff]
    rcases nm_cases ho with ⟨q1, q2⟩ | ⟨q1, q2⟩ | ⟨q1, q2⟩ <;> rcases nm_cases ma with ⟨q3, q4⟩ | ⟨q3, q4⟩ | ⟨q3, q4⟩ <;>
      (simp [nm_nil, q1, q2, q3, q4, ok, rawOk, numOk, parts, fitAll, fit, bare, hasRaw, hasHost, hasMail, nums, isHost, isMail, cnt, bits, hasN, and_assoc, and_left_comm, and_comm] <;> (intros; rfl))
end Go.Proofs.Ytnhoaceickojeaa.Rd
