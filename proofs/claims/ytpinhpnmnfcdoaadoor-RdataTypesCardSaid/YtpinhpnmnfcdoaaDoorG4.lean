/- Texts of the proofs, merged. -/
import Derived.Test.YtpinhpnmnfcdoaaDoorG1
import Derived.Test.YtpinhpnmnfcdoaaDoorG2
import Derived.WalkKit
import Derived.Test.YtpinhpnmnfcdoaaDoorG3
import Derived.Laws.StructEq
import Derived.MapKept
import Derived.ChangeKeysEq
/- The parts of data: what the program's table says, against the document. Nothing of the program. -/
namespace Go.Proofs.YtpinhpnmnfcdoaaDoor.Rd

/-- the parts of a type: 1 four, 2 eight, 3 texts, 4 any bytes, 5 host, 6 host without pointers, 7 mail, 8 a number of 16 bits, 9 one of 32 bits, 0 none. -/
def parts (t : Nat) : List Nat :=
  if t = 1 then [1, 0, 0, 0, 0, 0, 0] else if t = 2 then [5, 0, 0, 0, 0, 0, 0] else if t = 5 then [5, 0, 0, 0, 0, 0, 0]
  else if t = 6 then [5, 7, 9, 9, 9, 9, 9] else if t = 12 then [5, 0, 0, 0, 0, 0, 0] else if t = 15 then [8, 5, 0, 0, 0, 0, 0]
  else if t = 16 then [3, 0, 0, 0, 0, 0, 0] else if t = 28 then [2, 0, 0, 0, 0, 0, 0] else if t = 33 then [8, 8, 8, 6, 0, 0, 0] else [4, 0, 0, 0, 0, 0, 0]
/-- the table's rows: number, text, parts. -/
def rowTab : List (Nat × By × List Nat) :=
  [(1, [65], [1, 0, 0, 0, 0, 0, 0]), (2, [78, 83], [5, 0, 0, 0, 0, 0, 0]), (5, [67, 78, 65, 77, 69], [5, 0, 0, 0, 0, 0, 0]), (6, [83, 79, 65], [5, 7, 9, 9, 9, 9, 9]), (12, [80, 84, 82], [5, 0, 0, 0, 0, 0, 0]), (15, [77, 88], [8, 5, 0, 0, 0, 0, 0]), (16, [84, 88, 84], [3, 0, 0, 0, 0, 0, 0]), (28, [65, 65, 65, 65], [2, 0, 0, 0, 0, 0, 0]), (33, [83, 82, 86], [8, 8, 8, 6, 0, 0, 0])]
/-- the types of the table, and any other one. -/
theorem by_type {P : Nat → Prop} (h1 : P 1) (h2 : P 2) (h5 : P 5) (h6 : P 6) (h12 : P 12) (h15 : P 15) (h16 : P 16) (h28 : P 28) (h33 : P 33) (ho : ∀ t, t ≠ 1 → t ≠ 2 → t ≠ 5 → t ≠ 6 → t ≠ 12 → t ≠ 15 → t ≠ 16 → t ≠ 28 → t ≠ 33 → P t) (t : Nat) : P t := by
  by_cases a1 : t = 1
  · subst a1; exact h1
  by_cases a2 : t = 2
  · subst a2; exact h2
  by_cases a5 : t = 5
  · subst a5; exact h5
  by_cases a6 : t = 6
  · subst a6; exact h6
  by_cases a12 : t = 12
  · subst a12; exact h12
  by_cases a15 : t = 15
  · subst a15; exact h15
  by_cases a16 : t = 16
  · subst a16; exact h16
  by_cases a28 : t = 28
  · subst a28; exact h28
  by_cases a33 : t = 33
  · subst a33; exact h33
  exact ho t a1 a2 a5 a6 a12 a15 a16 a28 a33
theorem parts_other {t : Nat} (h1 : t ≠ 1) (h2 : t ≠ 2) (h5 : t ≠ 5) (h6 : t ≠ 6) (h12 : t ≠ 12) (h15 : t ≠ 15) (h16 : t ≠ 16) (h28 : t ≠ 28) (h33 : t ≠ 33) : parts t = [4, 0, 0, 0, 0, 0, 0] := by
  unfold parts
  rw [if_neg h1, if_neg h2, if_neg h5, if_neg h6, if_neg h12, if_neg h15, if_neg h16, if_neg h28, if_neg h33]
theorem parts_len (t : Nat) : (parts t).length = 7 := by
  refine by_type (P := fun t => (parts t).length = 7) rfl rfl rfl rfl rfl rfl rfl rfl rfl (fun t a b c d e f g h i => ?_) t
  rw [parts_other a b c d e f g h i]; rfl
theorem parts_lt (t : Nat) : ∀ p ∈ parts t, p ≤ 9 := by
  refine by_type (P := fun t => ∀ p ∈ parts t, p ≤ 9) ?_ ?_ ?_ ?_ ?_ ?_ ?_ ?_ ?_ (fun t a b c d e f g h i => ?_) t
  all_goals first
    | (rw [parts_other a b c d e f g h i]; decide)
    | decide
/-- how many numbers parts have; whether they have Raw, Host, Mail. -/
def nums (l : List Nat) : Nat := (l.filter fun p => p == 8 || p == 9).length
def hasRaw (l : List Nat) : Bool := l.any fun p => p == 1 || p == 2 || p == 3 || p == 4
def hasHost (l : List Nat) : Bool := l.any fun p => p == 5 || p == 6
def hasMail (l : List Nat) : Bool := l.any fun p => p == 7
theorem nums_snoc (l : List Nat) (p : Nat) : nums (l ++ [p]) = nums l + if p = 8 ∨ p = 9 then 1 else 0 := by
  unfold nums
  rw [List.filter_append, List.length_append]
  congr 1
  by_cases h : p = 8 ∨ p = 9
  · rw [if_pos h]; rcases h with rfl | rfl <;> rfl
  · rw [if_neg h, List.filter_cons_of_neg (by simpa using h)]; rfl
theorem nums_le {t k : Nat} : nums ((parts t).take k) ≤ 5 := by
  have h : nums (parts t) ≤ 5 := by
    refine by_type (P := fun t => nums (parts t) ≤ 5) (by decide) (by decide) (by decide) (by decide) (by decide) (by decide) (by decide) (by decide) (by decide) (fun t a b c d e f g h i => ?_) t
    rw [parts_other a b c d e f g h i]; decide
  have e : nums (parts t) = nums ((parts t).take k) + nums ((parts t).drop k) := by
    unfold nums
    rw [← List.length_append, ← List.filter_append, List.take_append_drop]
  omega
def hasN (d : Dt) : Nat → Nat
  | 0 => d.n0
  | 1 => d.n1
  | 2 => d.n2
  | 3 => d.n3
  | _ => d.n4
/-- may this be a part, when so many numbers stand ahead of it? -/
def fit (p : Nat) (d : Dt) (n : Nat) : Bool :=
  if p = 1 then d.raw.length == 4 else if p = 2 then d.raw.length == 16
  else if p = 3 then (match tx d.raw with | some (_ :: _) => decide (d.raw.length ≤ 65535) | _ => false)
  else if p = 4 then decide (d.raw.length ≤ 65535)
  else if p = 5 ∨ p = 6 then nm d.host else if p = 7 then nm d.mail
  else if p = 8 then decide (hasN d n ≤ 65535) else true
/-- all parts fit. -/
def fitAll (d : Dt) : List Nat → Nat → Bool
  | [], _ => true
  | p :: r, n => fit p d n && fitAll d r (n + if p = 8 ∨ p = 9 then 1 else 0)
theorem fitAll_snoc (d : Dt) (l : List Nat) (p n : Nat) : fitAll d (l ++ [p]) n = (fitAll d l n && fit p d (n + nums l)) := by
  induction l generalizing n with
  | nil => simp [fitAll, nums]
  | cons q r ih =>
    have e : nums (q :: r) = (if q = 8 ∨ q = 9 then 1 else 0) + nums r := by
      have : q :: r = [q] ++ r := rfl
      rw [this]
      unfold nums
      rw [List.filter_append, List.length_append]
      congr 1
      by_cases h : q = 8 ∨ q = 9
      · rw [if_pos h]; rcases h with rfl | rfl <;> rfl
      · rw [if_neg h, List.filter_cons_of_neg (by simpa using h)]; rfl
    rw [List.cons_append, fitAll, ih, fitAll, e, Bool.and_assoc, Nat.add_assoc]
theorem fitAll_no {d : Dt} {l : List Nat} {k : Nat} (h : fitAll d (l.take k) 0 = false) : fitAll d l 0 = false := by
  suffices H : ∀ (l : List Nat) (k n : Nat), fitAll d (l.take k) n = false → fitAll d l n = false from H l k 0 h
  intro l
  induction l with
  | nil => intro k n h; simpa using h
  | cons q r ih =>
    intro k n h
    cases k with
    | zero => simp [fitAll] at h
    | succ k =>
      rw [List.take_succ_cons, fitAll] at h
      rw [fitAll]
      cases hf : fit q d n with
      | false => rfl
      | true => rw [hf, Bool.true_and] at h; rw [Bool.true_and]; exact ih _ _ h
/-- nothing is in data but what these parts have. -/
def bare (l : List Nat) (d : Dt) : Bool :=
  (hasRaw l || d.raw == []) && (hasHost l || d.host == []) && (hasMail l || d.mail == []) &&
  (decide (0 < nums l) || d.n0 == 0) && (decide (1 < nums l) || d.n1 == 0) && (decide (2 < nums l) || d.n2 == 0) && (decide (3 < nums l) || d.n3 == 0) && (decide (4 < nums l) || d.n4 == 0)
theorem nm_nil : nm [] = false := rfl
theorem nm_cases (l : By) : (l = [] ∧ nm l = false) ∨ (l ≠ [] ∧ nm l = true) ∨ (l ≠ [] ∧ nm l = false) := by
  by_cases h : l = []
  · exact .inl ⟨h, by rw [h]; rfl⟩
  · cases hn : nm l
    · exact .inr (.inr ⟨h, rfl⟩)
    · exact .inr (.inl ⟨h, rfl⟩)
set_option maxHeartbeats 4000000 in
theorem ok_parts (t : Nat) (d : Dt) : ok t d = (fitAll d (parts t) 0 && bare (parts t) d) := by
  obtain ⟨r, ho, ma, n0, n1, n2, n3, n4⟩ := d
  refine by_type (P := fun t => ok t ⟨r, ho, ma, n0, n1, n2, n3, n4⟩ = (fitAll ⟨r, ho, ma, n0, n1, n2, n3, n4⟩ (parts t) 0 && bare (parts t) ⟨r, ho, ma, n0, n1, n2, n3, n4⟩)) ?_ ?_ ?_ ?_ ?_ ?_ ?_ ?_ ?_ (fun t a b c d e' f g h i => ?_) t
  case refine_10 =>
    have e1 : isHost t = false := by simp [isHost, *]
    have e2 : isMail t = false := by simp [isMail, *]
    have e3 : cnt t = 0 := by unfold cnt; rw [if_neg d, if_neg f, if_neg i]
    have hr : rawOk t r = decide (r.length ≤ 65535) := by
      unfold rawOk
      rw [e1, if_neg (by simp), if_neg a, if_neg h, if_neg g]
    unfold ok
    simp only
    rw [parts_other a b c d e' f g h i, e1, e2, hr]
    clear hr e1 e2 a b c d e' f g h i
    rw [Bool.eq_iff_iff]
    rcases nm_cases ho with ⟨q1, q2⟩ | ⟨q1, q2⟩ | ⟨q1, q2⟩ <;> rcases nm_cases ma with ⟨q3, q4⟩ | ⟨q3, q4⟩ | ⟨q3, q4⟩ <;> simp [nm_nil, q1, q2, q3, q4, numOk, e3, fitAll, fit, bare, hasRaw, hasHost, hasMail, nums, and_assoc]
  all_goals
    rw [Bool.eq_iff_iff]
    rcases nm_cases ho with ⟨q1, q2⟩ | ⟨q1, q2⟩ | ⟨q1, q2⟩ <;> rcases nm_cases ma with ⟨q3, q4⟩ | ⟨q3, q4⟩ | ⟨q3, q4⟩ <;>
      (simp [nm_nil, q1, q2, q3, q4, ok, rawOk, numOk, parts, fitAll, fit, bare, hasRaw, hasHost, hasMail, nums, isHost, isMail, cnt, bits, hasN, and_assoc, and_left_comm, and_comm] <;> (intros; rfl))
end Go.Proofs.YtpinhpnmnfcdoaaDoor.Rd
/- The table of parts: what is laid, and what is read of it. -/
namespace Go.Proofs.YtpinhpnmnfcdoaaDoor
open Go.RowKit

/-- the table's cells. -/
def rowsCells : Array Value := #[.int .u16 1, .string ⟨#[65]⟩, .int .u8 1, .int .u8 0, .int .u8 0, .int .u8 0, .int .u8 0, .int .u8 0, .int .u8 0, .int .u16 2, .string ⟨#[78, 83]⟩, .int .u8 5, .int .u8 0, .int .u8 0, .int .u8 0, .int .u8 0, .int .u8 0, .int .u8 0, .int .u16 5, .string ⟨#[67, 78, 65, 77, 69]⟩, .int .u8 5, .int .u8 0, .int .u8 0, .int .u8 0, .int .u8 0, .int .u8 0, .int .u8 0, .int .u16 6, .string ⟨#[83, 79, 65]⟩, .int .u8 5, .int .u8 7, .int .u8 9, .int .u8 9, .int .u8 9, .int .u8 9, .int .u8 9, .int .u16 12, .string ⟨#[80, 84, 82]⟩, .int .u8 5, .int .u8 0, .int .u8 0, .int .u8 0, .int .u8 0, .int .u8 0, .int .u8 0, .int .u16 15, .string ⟨#[77, 88]⟩, .int .u8 8, .int .u8 5, .int .u8 0, .int .u8 0, .int .u8 0, .int .u8 0, .int .u8 0, .int .u16 16, .string ⟨#[84, 88, 84]⟩, .int .u8 3, .int .u8 0, .int .u8 0, .int .u8 0, .int .u8 0, .int .u8 0, .int .u8 0, .int .u16 28, .string ⟨#[65, 65, 65, 65]⟩, .int .u8 2, .int .u8 0, .int .u8 0, .int .u8 0, .int .u8 0, .int .u8 0, .int .u8 0, .int .u16 33, .string ⟨#[83, 82, 86]⟩, .int .u8 8, .int .u8 8, .int .u8 8, .int .u8 6, .int .u8 0, .int .u8 0, .int .u8 0]
/-- the table is as its initialiser lays it. -/
def LayR (w : World) : Prop := ∃ t, Has w 0 t rowsCells
theorem LayR.lt {w : World} (h : LayR w) : 0 < w.heap.size := h.elim fun _ h => Has.lt h
theorem LayR.below {w w' : World} {B : Nat} (h : LayR w) (hb : Below B w w') (hB : w.heap.size ≤ B) : LayR w' := h.elim fun t h => ⟨t, h.below hb (Nat.lt_of_lt_of_le h.lt hB)⟩
theorem LayR.cell {w : World} (h : LayR w) (i : Nat) : w.cell? ⟨0, i, none⟩ = rowsCells[i]? := h.elim fun _ h => Has.cell h i
def partC (t : Nat) : Array Value := ((Rd.parts t).map fun (p : Nat) => Value.int .u8 ((p : Nat) : Int)).toArray
def partsV (t : Nat) : Value := .agg (partC t)

set_option maxHeartbeats 4000000 in
set_option maxRecDepth 100000 in
theorem partsOf_any (t : Nat) (w : World) (ht : t ≤ 65535) (hL : LayR w) :
    Calls Tryd.prog 25 #[.int .u16 t] w fun e w' => e = .returned (partsV t) ∧ Below w.heap.size w w' := by
  have HL := Lib.hid hL
  have hlt := hL.lt
  have HL2 : Hid (LayR (w.alloc (.cells #[.int .u8 0, .int .u8 0, .int .u8 0, .int .u8 0, .int .u8 0, .int .u8 0, .int .u8 0] 30))) := hL.below ((Below.refl _ _).alloc (Nat.le_refl _) _) (Nat.le_refl _)
  have HN : Hid (Has (w.alloc (.cells #[.int .u8 0, .int .u8 0, .int .u8 0, .int .u8 0, .int .u8 0, .int .u8 0, .int .u8 0] 30)) w.heap.size 30 #[.int .u8 0, .int .u8 0, .int .u8 0, .int .u8 0, .int .u8 0, .int .u8 0, .int .u8 0]) := Has.fresh w _ _
  have HB : Hid (Below w.heap.size w (w.alloc (.cells #[.int .u8 0, .int .u8 0, .int .u8 0, .int .u8 0, .int .u8 0, .int .u8 0, .int .u8 0] 30))) := (Below.refl _ _).alloc (Nat.le_refl _) _
  clear hL
  go_enter Tryd.func25, Tryd.ntmps25
  go_wp2
  generalize hwr : w.alloc (.cells #[.int .u8 0, .int .u8 0, .int .u8 0, .int .u8 0, .int .u8 0, .int .u8 0, .int .u8 0] 30) = wr at HL2 HN HB ⊢
  clear hwr
  refine wp_loop_rounds 10 ?_
  rw [rounds_succ]
  have d0 : wr.cell? ⟨0, 0, none⟩ = some (.int .u16 1) := HL2.out.cell 0
  by_cases h0 : t = 1
  · subst h0
    have c0 : wr.cell? ⟨0, 2, none⟩ = some (.int .u8 1) := HL2.out.cell 2
    have c1 : wr.cell? ⟨0, 3, none⟩ = some (.int .u8 0) := HL2.out.cell 3
    have c2 : wr.cell? ⟨0, 4, none⟩ = some (.int .u8 0) := HL2.out.cell 4
    have c3 : wr.cell? ⟨0, 5, none⟩ = some (.int .u8 0) := HL2.out.cell 5
    have c4 : wr.cell? ⟨0, 6, none⟩ = some (.int .u8 0) := HL2.out.cell 6
    have c5 : wr.cell? ⟨0, 7, none⟩ = some (.int .u8 0) := HL2.out.cell 7
    have c6 : wr.cell? ⟨0, 8, none⟩ = some (.int .u8 0) := HL2.out.cell 8
    go_wp2_with (refine wpList_store_row rfl 30 (.tmp 2) (.tmp 16) rfl w.heap.size #[.int .u8 1, .int .u8 0, .int .u8 0, .int .u8 0, .int .u8 0, .int .u8 0, .int .u8 0] rfl rfl 30 #[.int .u8 0, .int .u8 0, .int .u8 0, .int .u8 0, .int .u8 0, .int .u8 0, .int .u8 0] HN.out (by kernel_rfl) rfl (by simp [Value.oneCell']) ?_)
    exact bodyPost_ret (v := .agg #[.int .u8 1, .int .u8 0, .int .u8 0, .int .u8 0, .int .u8 0, .int .u8 0, .int .u8 0]) (results_cell_row rfl _ _ w.heap.size 30 #[.int .u8 1, .int .u8 0, .int .u8 0, .int .u8 0, .int .u8 0, .int .u8 0, .int .u8 0] (0, 0) _ rfl (HN.out.row _) Tryd.underlying30 rfl (by kernel_rfl)) rfl ⟨rfl, below_setRow HB.out (Nat.le_refl _) _⟩
  have e0 : ((1 : Int) == (t : Int)) = false := beq_eq_false_iff_ne.2 (by omega)
  go_wp2
  clear d0 e0
  rw [rounds_succ]
  have d1 : wr.cell? ⟨0, 9, none⟩ = some (.int .u16 2) := HL2.out.cell 9
  by_cases h1 : t = 2
  · subst h1
    have c0 : wr.cell? ⟨0, 11, none⟩ = some (.int .u8 5) := HL2.out.cell 11
    have c1 : wr.cell? ⟨0, 12, none⟩ = some (.int .u8 0) := HL2.out.cell 12
    have c2 : wr.cell? ⟨0, 13, none⟩ = some (.int .u8 0) := HL2.out.cell 13
    have c3 : wr.cell? ⟨0, 14, none⟩ = some (.int .u8 0) := HL2.out.cell 14
    have c4 : wr.cell? ⟨0, 15, none⟩ = some (.int .u8 0) := HL2.out.cell 15
    have c5 : wr.cell? ⟨0, 16, none⟩ = some (.int .u8 0) := HL2.out.cell 16
    have c6 : wr.cell? ⟨0, 17, none⟩ = some (.int .u8 0) := HL2.out.cell 17
    go_wp2_with (refine wpList_store_row rfl 30 (.tmp 2) (.tmp 16) rfl w.heap.size #[.int .u8 5, .int .u8 0, .int .u8 0, .int .u8 0, .int .u8 0, .int .u8 0, .int .u8 0] rfl rfl 30 #[.int .u8 0, .int .u8 0, .int .u8 0, .int .u8 0, .int .u8 0, .int .u8 0, .int .u8 0] HN.out (by kernel_rfl) rfl (by simp [Value.oneCell']) ?_)
    exact bodyPost_ret (v := .agg #[.int .u8 5, .int .u8 0, .int .u8 0, .int .u8 0, .int .u8 0, .int .u8 0, .int .u8 0]) (results_cell_row rfl _ _ w.heap.size 30 #[.int .u8 5, .int .u8 0, .int .u8 0, .int .u8 0, .int .u8 0, .int .u8 0, .int .u8 0] (0, 0) _ rfl (HN.out.row _) Tryd.underlying30 rfl (by kernel_rfl)) rfl ⟨rfl, below_setRow HB.out (Nat.le_refl _) _⟩
  have e1 : ((2 : Int) == (t : Int)) = false := beq_eq_false_iff_ne.2 (by omega)
  go_wp2
  clear d1 e1
  rw [rounds_succ]
  have d2 : wr.cell? ⟨0, 18, none⟩ = some (.int .u16 5) := HL2.out.cell 18
  by_cases h2 : t = 5
  · subst h2
    have c0 : wr.cell? ⟨0, 20, none⟩ = some (.int .u8 5) := HL2.out.cell 20
    have c1 : wr.cell? ⟨0, 21, none⟩ = some (.int .u8 0) := HL2.out.cell 21
    have c2 : wr.cell? ⟨0, 22, none⟩ = some (.int .u8 0) := HL2.out.cell 22
    have c3 : wr.cell? ⟨0, 23, none⟩ = some (.int .u8 0) := HL2.out.cell 23
    have c4 : wr.cell? ⟨0, 24, none⟩ = some (.int .u8 0) := HL2.out.cell 24
    have c5 : wr.cell? ⟨0, 25, none⟩ = some (.int .u8 0) := HL2.out.cell 25
    have c6 : wr.cell? ⟨0, 26, none⟩ = some (.int .u8 0) := HL2.out.cell 26
    go_wp2_with (refine wpList_store_row rfl 30 (.tmp 2) (.tmp 16) rfl w.heap.size #[.int .u8 5, .int .u8 0, .int .u8 0, .int .u8 0, .int .u8 0, .int .u8 0, .int .u8 0] rfl rfl 30 #[.int .u8 0, .int .u8 0, .int .u8 0, .int .u8 0, .int .u8 0, .int .u8 0, .int .u8 0] HN.out (by kernel_rfl) rfl (by simp [Value.oneCell']) ?_)
    exact bodyPost_ret (v := .agg #[.int .u8 5, .int .u8 0, .int .u8 0, .int .u8 0, .int .u8 0, .int .u8 0, .int .u8 0]) (results_cell_row rfl _ _ w.heap.size 30 #[.int .u8 5, .int .u8 0, .int .u8 0, .int .u8 0, .int .u8 0, .int .u8 0, .int .u8 0] (0, 0) _ rfl (HN.out.row _) Tryd.underlying30 rfl (by kernel_rfl)) rfl ⟨rfl, below_setRow HB.out (Nat.le_refl _) _⟩
  have e2 : ((5 : Int) == (t : Int)) = false := beq_eq_false_iff_ne.2 (by omega)
  go_wp2
  clear d2 e2
  rw [rounds_succ]
  have d3 : wr.cell? ⟨0, 27, none⟩ = some (.int .u16 6) := HL2.out.cell 27
  by_cases h3 : t = 6
  · subst h3
    have c0 : wr.cell? ⟨0, 29, none⟩ = some (.int .u8 5) := HL2.out.cell 29
    have c1 : wr.cell? ⟨0, 30, none⟩ = some (.int .u8 7) := HL2.out.cell 30
    have c2 : wr.cell? ⟨0, 31, none⟩ = some (.int .u8 9) := HL2.out.cell 31
    have c3 : wr.cell? ⟨0, 32, none⟩ = some (.int .u8 9) := HL2.out.cell 32
    have c4 : wr.cell? ⟨0, 33, none⟩ = some (.int .u8 9) := HL2.out.cell 33
    have c5 : wr.cell? ⟨0, 34, none⟩ = some (.int .u8 9) := HL2.out.cell 34
    have c6 : wr.cell? ⟨0, 35, none⟩ = some (.int .u8 9) := HL2.out.cell 35
    go_wp2_with (refine wpList_store_row rfl 30 (.tmp 2) (.tmp 16) rfl w.heap.size #[.int .u8 5, .int .u8 7, .int .u8 9, .int .u8 9, .int .u8 9, .int .u8 9, .int .u8 9] rfl rfl 30 #[.int .u8 0, .int .u8 0, .int .u8 0, .int .u8 0, .int .u8 0, .int .u8 0, .int .u8 0] HN.out (by kernel_rfl) rfl (by simp [Value.oneCell']) ?_)
    exact bodyPost_ret (v := .agg #[.int .u8 5, .int .u8 7, .int .u8 9, .int .u8 9, .int .u8 9, .int .u8 9, .int .u8 9]) (results_cell_row rfl _ _ w.heap.size 30 #[.int .u8 5, .int .u8 7, .int .u8 9, .int .u8 9, .int .u8 9, .int .u8 9, .int .u8 9] (0, 0) _ rfl (HN.out.row _) Tryd.underlying30 rfl (by kernel_rfl)) rfl ⟨rfl, below_setRow HB.out (Nat.le_refl _) _⟩
  have e3 : ((6 : Int) == (t : Int)) = false := beq_eq_false_iff_ne.2 (by omega)
  go_wp2
  clear d3 e3
  rw [rounds_succ]
  have d4 : wr.cell? ⟨0, 36, none⟩ = some (.int .u16 12) := HL2.out.cell 36
  by_cases h4 : t = 12
  · subst h4
    have c0 : wr.cell? ⟨0, 38, none⟩ = some (.int .u8 5) := HL2.out.cell 38
    have c1 : wr.cell? ⟨0, 39, none⟩ = some (.int .u8 0) := HL2.out.cell 39
    have c2 : wr.cell? ⟨0, 40, none⟩ = some (.int .u8 0) := HL2.out.cell 40
    have c3 : wr.cell? ⟨0, 41, none⟩ = some (.int .u8 0) := HL2.out.cell 41
    have c4 : wr.cell? ⟨0, 42, none⟩ = some (.int .u8 0) := HL2.out.cell 42
    have c5 : wr.cell? ⟨0, 43, none⟩ = some (.int .u8 0) := HL2.out.cell 43
    have c6 : wr.cell? ⟨0, 44, none⟩ = some (.int .u8 0) := HL2.out.cell 44
    go_wp2_with (refine wpList_store_row rfl 30 (.tmp 2) (.tmp 16) rfl w.heap.size #[.int .u8 5, .int .u8 0, .int .u8 0, .int .u8 0, .int .u8 0, .int .u8 0, .int .u8 0] rfl rfl 30 #[.int .u8 0, .int .u8 0, .int .u8 0, .int .u8 0, .int .u8 0, .int .u8 0, .int .u8 0] HN.out (by kernel_rfl) rfl (by simp [Value.oneCell']) ?_)
    exact bodyPost_ret (v := .agg #[.int .u8 5, .int .u8 0, .int .u8 0, .int .u8 0, .int .u8 0, .int .u8 0, .int .u8 0]) (results_cell_row rfl _ _ w.heap.size 30 #[.int .u8 5, .int .u8 0, .int .u8 0, .int .u8 0, .int .u8 0, .int .u8 0, .int .u8 0] (0, 0) _ rfl (HN.out.row _) Tryd.underlying30 rfl (by kernel_rfl)) rfl ⟨rfl, below_setRow HB.out (Nat.le_refl _) _⟩
  have e4 : ((12 : Int) == (t : Int)) = false := beq_eq_false_iff_ne.2 (by omega)
  go_wp2
  clear d4 e4
  rw [rounds_succ]
  have d5 : wr.cell? ⟨0, 45, none⟩ = some (.int .u16 15) := HL2.out.cell 45
  by_cases h5 : t = 15
  · subst h5
    have c0 : wr.cell? ⟨0, 47, none⟩ = some (.int .u8 8) := HL2.out.cell 47
    have c1 : wr.cell? ⟨0, 48, none⟩ = some (.int .u8 5) := HL2.out.cell 48
    have c2 : wr.cell? ⟨0, 49, none⟩ = some (.int .u8 0) := HL2.out.cell 49
    have c3 : wr.cell? ⟨0, 50, none⟩ = some (.int .u8 0) := HL2.out.cell 50
    have c4 : wr.cell? ⟨0, 51, none⟩ = some (.int .u8 0) := HL2.out.cell 51
    have c5 : wr.cell? ⟨0, 52, none⟩ = some (.int .u8 0) := HL2.out.cell 52
    have c6 : wr.cell? ⟨0, 53, none⟩ = some (.int .u8 0) := HL2.out.cell 53
    go_wp2_with (refine wpList_store_row rfl 30 (.tmp 2) (.tmp 16) rfl w.heap.size #[.int .u8 8, .int .u8 5, .int .u8 0, .int .u8 0, .int .u8 0, .int .u8 0, .int .u8 0] rfl rfl 30 #[.int .u8 0, .int .u8 0, .int .u8 0, .int .u8 0, .int .u8 0, .int .u8 0, .int .u8 0] HN.out (by kernel_rfl) rfl (by simp [Value.oneCell']) ?_)
    exact bodyPost_ret (v := .agg #[.int .u8 8, .int .u8 5, .int .u8 0, .int .u8 0, .int .u8 0, .int .u8 0, .int .u8 0]) (results_cell_row rfl _ _ w.heap.size 30 #[.int .u8 8, .int .u8 5, .int .u8 0, .int .u8 0, .int .u8 0, .int .u8 0, .int .u8 0] (0, 0) _ rfl (HN.out.row _) Tryd.underlying30 rfl (by kernel_rfl)) rfl ⟨rfl, below_setRow HB.out (Nat.le_refl _) _⟩
  have e5 : ((15 : Int) == (t : Int)) = false := beq_eq_false_iff_ne.2 (by omega)
  go_wp2
  clear d5 e5
  rw [rounds_succ]
  have d6 : wr.cell? ⟨0, 54, none⟩ = some (.int .u16 16) := HL2.out.cell 54
  by_cases h6 : t = 16
  · subst h6
    have c0 : wr.cell? ⟨0, 56, none⟩ = some (.int .u8 3) := HL2.out.cell 56
    have c1 : wr.cell? ⟨0, 57, none⟩ = some (.int .u8 0) := HL2.out.cell 57
    have c2 : wr.cell? ⟨0, 58, none⟩ = some (.int .u8 0) := HL2.out.cell 58
    have c3 : wr.cell? ⟨0, 59, none⟩ = some (.int .u8 0) := HL2.out.cell 59
    have c4 : wr.cell? ⟨0, 60, none⟩ = some (.int .u8 0) := HL2.out.cell 60
    have c5 : wr.cell? ⟨0, 61, none⟩ = some (.int .u8 0) := HL2.out.cell 61
    have c6 : wr.cell? ⟨0, 62, none⟩ = some (.int .u8 0) := HL2.out.cell 62
    go_wp2_with (refine wpList_store_row rfl 30 (.tmp 2) (.tmp 16) rfl w.heap.size #[.int .u8 3, .int .u8 0, .int .u8 0, .int .u8 0, .int .u8 0, .int .u8 0, .int .u8 0] rfl rfl 30 #[.int .u8 0, .int .u8 0, .int .u8 0, .int .u8 0, .int .u8 0, .int .u8 0, .int .u8 0] HN.out (by kernel_rfl) rfl (by simp [Value.oneCell']) ?_)
    exact bodyPost_ret (v := .agg #[.int .u8 3, .int .u8 0, .int .u8 0, .int .u8 0, .int .u8 0, .int .u8 0, .int .u8 0]) (results_cell_row rfl _ _ w.heap.size 30 #[.int .u8 3, .int .u8 0, .int .u8 0, .int .u8 0, .int .u8 0, .int .u8 0, .int .u8 0] (0, 0) _ rfl (HN.out.row _) Tryd.underlying30 rfl (by kernel_rfl)) rfl ⟨rfl, below_setRow HB.out (Nat.le_refl _) _⟩
  have e6 : ((16 : Int) == (t : Int)) = false := beq_eq_false_iff_ne.2 (by omega)
  go_wp2
  clear d6 e6
  rw [rounds_succ]
  have d7 : wr.cell? ⟨0, 63, none⟩ = some (.int .u16 28) := HL2.out.cell 63
  by_cases h7 : t = 28
  · subst h7
    have c0 : wr.cell? ⟨0, 65, none⟩ = some (.int .u8 2) := HL2.out.cell 65
    have c1 : wr.cell? ⟨0, 66, none⟩ = some (.int .u8 0) := HL2.out.cell 66
    have c2 : wr.cell? ⟨0, 67, none⟩ = some (.int .u8 0) := HL2.out.cell 67
    have c3 : wr.cell? ⟨0, 68, none⟩ = some (.int .u8 0) := HL2.out.cell 68
    have c4 : wr.cell? ⟨0, 69, none⟩ = some (.int .u8 0) := HL2.out.cell 69
    have c5 : wr.cell? ⟨0, 70, none⟩ = some (.int .u8 0) := HL2.out.cell 70
    have c6 : wr.cell? ⟨0, 71, none⟩ = some (.int .u8 0) := HL2.out.cell 71
    go_wp2_with (refine wpList_store_row rfl 30 (.tmp 2) (.tmp 16) rfl w.heap.size #[.int .u8 2, .int .u8 0, .int .u8 0, .int .u8 0, .int .u8 0, .int .u8 0, .int .u8 0] rfl rfl 30 #[.int .u8 0, .int .u8 0, .int .u8 0, .int .u8 0, .int .u8 0, .int .u8 0, .int .u8 0] HN.out (by kernel_rfl) rfl (by simp [Value.oneCell']) ?_)
    exact bodyPost_ret (v := .agg #[.int .u8 2, .int .u8 0, .int .u8 0, .int .u8 0, .int .u8 0, .int .u8 0, .int .u8 0]) (results_cell_row rfl _ _ w.heap.size 30 #[.int .u8 2, .int .u8 0, .int .u8 0, .int .u8 0, .int .u8 0, .int .u8 0, .int .u8 0] (0, 0) _ rfl (HN.out.row _) Tryd.underlying30 rfl (by kernel_rfl)) rfl ⟨rfl, below_setRow HB.out (Nat.le_refl _) _⟩
  have e7 : ((28 : Int) == (t : Int)) = false := beq_eq_false_iff_ne.2 (by omega)
  go_wp2
  clear d7 e7
  rw [rounds_succ]
  have d8 : wr.cell? ⟨0, 72, none⟩ = some (.int .u16 33) := HL2.out.cell 72
  by_cases h8 : t = 33
  · subst h8
    have c0 : wr.cell? ⟨0, 74, none⟩ = some (.int .u8 8) := HL2.out.cell 74
    have c1 : wr.cell? ⟨0, 75, none⟩ = some (.int .u8 8) := HL2.out.cell 75
    have c2 : wr.cell? ⟨0, 76, none⟩ = some (.int .u8 8) := HL2.out.cell 76
    have c3 : wr.cell? ⟨0, 77, none⟩ = some (.int .u8 6) := HL2.out.cell 77
    have c4 : wr.cell? ⟨0, 78, none⟩ = some (.int .u8 0) := HL2.out.cell 78
    have c5 : wr.cell? ⟨0, 79, none⟩ = some (.int .u8 0) := HL2.out.cell 79
    have c6 : wr.cell? ⟨0, 80, none⟩ = some (.int .u8 0) := HL2.out.cell 80
    go_wp2_with (refine wpList_store_row rfl 30 (.tmp 2) (.tmp 16) rfl w.heap.size #[.int .u8 8, .int .u8 8, .int .u8 8, .int .u8 6, .int .u8 0, .int .u8 0, .int .u8 0] rfl rfl 30 #[.int .u8 0, .int .u8 0, .int .u8 0, .int .u8 0, .int .u8 0, .int .u8 0, .int .u8 0] HN.out (by kernel_rfl) rfl (by simp [Value.oneCell']) ?_)
    exact bodyPost_ret (v := .agg #[.int .u8 8, .int .u8 8, .int .u8 8, .int .u8 6, .int .u8 0, .int .u8 0, .int .u8 0]) (results_cell_row rfl _ _ w.heap.size 30 #[.int .u8 8, .int .u8 8, .int .u8 8, .int .u8 6, .int .u8 0, .int .u8 0, .int .u8 0] (0, 0) _ rfl (HN.out.row _) Tryd.underlying30 rfl (by kernel_rfl)) rfl ⟨rfl, below_setRow HB.out (Nat.le_refl _) _⟩
  have e8 : ((33 : Int) == (t : Int)) = false := beq_eq_false_iff_ne.2 (by omega)
  go_wp2
  clear d8 e8
  rw [rounds_succ]
  have HR : Hid (partsV t = .agg #[.int .u8 4, .int .u8 0, .int .u8 0, .int .u8 0, .int .u8 0, .int .u8 0, .int .u8 0]) := by unfold partsV partC; rw [Rd.parts_other h0 h1 h2 h3 h4 h5 h6 h7 h8]; rfl
  go_wp2_with (refine wpList_store_row rfl 30 (.tmp 2) (.tmp 18) rfl w.heap.size #[.int .u8 4, .int .u8 0, .int .u8 0, .int .u8 0, .int .u8 0, .int .u8 0, .int .u8 0] rfl rfl 30 #[.int .u8 0, .int .u8 0, .int .u8 0, .int .u8 0, .int .u8 0, .int .u8 0, .int .u8 0] HN.out (by kernel_rfl) rfl (by simp [Value.oneCell']) ?_)
  rw [HR.out]
  exact bodyPost_ret (v := .agg #[.int .u8 4, .int .u8 0, .int .u8 0, .int .u8 0, .int .u8 0, .int .u8 0, .int .u8 0]) (results_cell_row rfl _ _ w.heap.size 30 #[.int .u8 4, .int .u8 0, .int .u8 0, .int .u8 0, .int .u8 0, .int .u8 0, .int .u8 0] (0, 0) _ rfl (HN.out.row _) Tryd.underlying30 rfl (by kernel_rfl)) rfl ⟨rfl, below_setRow HB.out (Nat.le_refl _) _⟩
end Go.Proofs.YtpinhpnmnfcdoaaDoor
/- fits, width: may these bytes be a part? -/
namespace Go.Proofs.YtpinhpnmnfcdoaaDoor
open Go.RowKit

/-- what fits says. -/
def fitR (p : Nat) (l : List UInt8) : Bool :=
  if p = 1 then l.length == 4 else if p = 2 then l.length == 16
  else if p = 3 then (match Rd.tx l with | some (_ :: _) => decide (l.length ≤ 65535) | _ => false)
  else decide (l.length ≤ 65535)
theorem fitR_fit {p : Nat} {d : Rd.Dt} {n : Nat} (h1 : 1 ≤ p) (h4 : p ≤ 4) : fitR p d.raw = Rd.fit p d n := by
  unfold fitR Rd.fit
  rcases (by omega : p = 1 ∨ p = 2 ∨ p = 3 ∨ p = 4) with rfl | rfl | rfl | rfl <;> rfl
set_option maxHeartbeats 1000000 in
set_option maxRecDepth 100000 in
theorem fits_3 (s : ByteArray) (w : World) (hs : s.size ≤ 8796093022208) :
    Calls Tryd.prog 38 #[.int .u8 3, .string s] w fun e w' => e = .returned (.bool (fitR 3 s.data.toList)) ∧ Below w.heap.size w w' := by
  have hl : s.data.toList.length = s.size := by simp
  have hres : fitR 3 s.data.toList = match Rd.tx s.data.toList with | some (_ :: _) => decide (s.size ≤ 65535) | _ => false := by rw [← hl]; rfl
  obtain ⟨R, hR⟩ : ∃ R, fitR 3 s.data.toList = R := ⟨_, rfl⟩
  rw [hR] at hres ⊢
  have key : ∃ d : Bool, (∀ W : World, Calls Tryd.prog 56 #[.string s] W fun e w' => ∃ v, e = .returned (.tuple #[v, .bool d]) ∧ Below W.heap.size W w') ∧ R = (d && decide (s.size ≤ 65535)) := by
    have HT := fun W : World => textsOf_any s W hs
    rcases htx : Rd.tx s.data.toList with _ | ls
    · rw [htx] at HT hres
      exact ⟨false, fun W => (HT W).mono fun e w' ⟨v, hb, he⟩ => ⟨v, he, hb⟩, by rw [hres]; rfl⟩
    · rw [htx] at HT hres
      cases ls with
      | nil => exact ⟨false, fun W => (HT W).mono fun e w' ⟨v, hb, he, _⟩ => ⟨v, he, hb⟩, by rw [hres]; rfl⟩
      | cons x r => exact ⟨true, fun W => (HT W).mono fun e w' ⟨v, hb, he, _⟩ => ⟨v, by rw [he]; simp, hb⟩, by rw [hres]; rfl⟩
  obtain ⟨d, hT, hd⟩ := key
  have HT := Lib.hid hT
  have HD := Lib.hid hd
  clear hT hd hres hR hl
  cases d with
  | true =>
    go_enter Tryd.func38, Tryd.ntmps38
    go_wp2_with (go_at_call 56; refine (HT.out _).mono ?_; rintro e' w2 ⟨v, rfl, hb⟩)
    go_ret
    refine ⟨ret_bool ?_, hb⟩
    rw [HD.out, Bool.eq_iff_iff]; simp; omega
  | false =>
    go_enter Tryd.func38, Tryd.ntmps38
    go_wp2_with (go_at_call 56; refine (HT.out _).mono ?_; rintro e' w2 ⟨v, rfl, hb⟩)
    go_ret
    refine ⟨ret_bool ?_, hb⟩
    rw [HD.out]; rfl
set_option maxHeartbeats 1000000 in
set_option maxRecDepth 100000 in
theorem fits_any (p : Nat) (s : ByteArray) (w : World) (h1 : 1 ≤ p) (h4 : p ≤ 4) (hs : s.size ≤ 8796093022208) :
    Calls Tryd.prog 38 #[.int .u8 p, .string s] w fun e w' => e = .returned (.bool (fitR p s.data.toList)) ∧ Below w.heap.size w w' := by
  have hl : s.data.toList.length = s.size := by simp
  rcases (by omega : p = 1 ∨ p = 2 ∨ p = 3 ∨ p = 4) with rfl | rfl | rfl | rfl
  · go_enter Tryd.func38, Tryd.ntmps38
    go_wp2
    go_ret
    refine ⟨ret_bool ?_, Below.refl _ _⟩
    show _ = (s.data.toList.length == 4)
    rw [hl, Bool.eq_iff_iff, beq_iff_eq, beq_iff_eq]; omega
  · go_enter Tryd.func38, Tryd.ntmps38
    go_wp2
    go_ret
    refine ⟨ret_bool ?_, Below.refl _ _⟩
    show _ = (s.data.toList.length == 16)
    rw [hl, Bool.eq_iff_iff, beq_iff_eq, beq_iff_eq]; omega
  · exact fits_3 s w hs
  · go_enter Tryd.func38, Tryd.ntmps38
    go_wp2
    go_ret
    refine ⟨ret_bool ?_, Below.refl _ _⟩
    show _ = decide (s.data.toList.length ≤ 65535)
    rw [hl, Bool.eq_iff_iff]; simp; omega
theorem width_8 (w : World) : Calls Tryd.prog 40 #[.int .u8 8] w fun e w' => e = .returned (.int .i64 16) ∧ w = w' := by
  go_enter Tryd.func40, Tryd.ntmps40
  go_wp2
  go_ret
  exact ⟨rfl, rfl⟩
theorem width_9 (w : World) : Calls Tryd.prog 40 #[.int .u8 9] w fun e w' => e = .returned (.int .i64 32) ∧ w = w' := by
  go_enter Tryd.func40, Tryd.ntmps40
  go_wp2
  go_ret
  exact ⟨rfl, rfl⟩
end Go.Proofs.YtpinhpnmnfcdoaaDoor
/- The document's answer on data: may they be? -/
namespace Go.Proofs.YtpinhpnmnfcdoaaDoor
open Go.RowKit

theorem rd_strEmpty (s : ByteArray) : (s.toList == []) = (s.data.toList == []) := by
  have e0 : (⟨#[]⟩ : ByteArray).toList = [] := by kernel_rfl
  by_cases h : s.data.toList = []
  · obtain rfl : s = ⟨#[]⟩ := string_eq h
    rw [e0]
  · have h1 : (s.toList == (⟨#[]⟩ : ByteArray).toList) = false := by
      rw [← beq_toListBytes, Bool.eq_false_iff]
      intro hb
      have := (MapKept.bytes_beq _ _).1 hb
      subst this
      exact h rfl
    rw [e0] at h1
    rw [h1]
    cases hb : (s.data.toList == []) with
    | false => rfl
    | true => exact absurd (beq_iff_eq.1 hb) h

theorem raw16 (l : List UInt8) : Rd.rawOk 16 l = match Rd.tx l with | some (_ :: _) => decide (l.length ≤ 65535) | _ => false := rfl
end Go.Proofs.YtpinhpnmnfcdoaaDoor
/- The document's answer on data: Check and Fold. -/
namespace Go.Proofs.YtpinhpnmnfcdoaaDoor
open Go.RowKit

/-- data, as they come. -/
structure Dv where
  raw : ByteArray
  host : ByteArray
  mail : ByteArray
  n0 : Nat
  n1 : Nat
  n2 : Nat
  n3 : Nat
  n4 : Nat
namespace Dv
def val (d : Dv) : Value := .agg #[.string d.raw, .string d.host, .string d.mail, .int .u32 d.n0, .int .u32 d.n1, .int .u32 d.n2, .int .u32 d.n3, .int .u32 d.n4]
def cells (d : Dv) : Array Value := #[.string d.raw, .string d.host, .string d.mail, .int .u32 d.n0, .int .u32 d.n1, .int .u32 d.n2, .int .u32 d.n3, .int .u32 d.n4]
def dt (d : Dv) : Rd.Dt := ⟨d.raw.data.toList, d.host.data.toList, d.mail.data.toList, d.n0, d.n1, d.n2, d.n3, d.n4⟩
def n (d : Dv) : Nat → Nat
  | 0 => d.n0
  | 1 => d.n1
  | 2 => d.n2
  | 3 => d.n3
  | _ => d.n4
/-- its numbers are numbers. -/
def fits (d : Dv) : Prop := ∀ k, d.n k ≤ 4294967295
theorem cell_n (d : Dv) {k : Nat} (hk : k < 5) : d.cells[3 + k]? = some (.int .u32 (d.n k)) := by
  match k, hk with
  | 0, _ => rfl
  | 1, _ => rfl
  | 2, _ => rfl
  | 3, _ => rfl
  | 4, _ => rfl
end Dv
theorem dv_raw {W : World} {g : Nat} {d : Dv} {t : TypeId} (h : Has W g t d.cells) : W.cell? ⟨g, 0, none⟩ = some (.string d.raw) := by rw [h.cell]; rfl
theorem dv_host {W : World} {g : Nat} {d : Dv} {t : TypeId} (h : Has W g t d.cells) : W.cell? ⟨g, 1, none⟩ = some (.string d.host) := by rw [h.cell]; rfl
theorem dv_mail {W : World} {g : Nat} {d : Dv} {t : TypeId} (h : Has W g t d.cells) : W.cell? ⟨g, 2, none⟩ = some (.string d.mail) := by rw [h.cell]; rfl
theorem dv_n {W : World} {g k : Nat} {d : Dv} {t : TypeId} (h : Has W g t d.cells) (hk : k < 5) : W.cell? ⟨g, 3 + k, none⟩ = some (.int .u32 (d.n k : Nat)) := by rw [h.cell]; exact d.cell_n hk
namespace Rd
def head (t : Nat) (d : Dt) : Bool := rawOk t d.raw && (isHost t == nm d.host) && (isHost t || d.host == []) && (isMail t == nm d.mail) && (isMail t || d.mail == [])
theorem ok_eq (t : Nat) (d : Dt) : ok t d = (head t d && numOk t 0 d.n0 && numOk t 1 d.n1 && numOk t 2 d.n2 && numOk t 3 d.n3 && numOk t 4 d.n4) := rfl
theorem ok_head {t : Nat} {d : Dt} (h : head t d = false) : ok t d = false := by rw [ok_eq, h]; rfl
theorem ok_num {t : Nat} {d : Dv} {k : Nat} (hk : k < 5) (h : numOk t k (d.n k) = false) : ok t d.dt = false := by
  rw [ok_eq]
  match k, hk with
  | 0, _ => have h' : numOk t 0 d.n0 = false := h
            simp [Dv.dt, h']
  | 1, _ => have h' : numOk t 1 d.n1 = false := h
            simp [Dv.dt, h']
  | 2, _ => have h' : numOk t 2 d.n2 = false := h
            simp [Dv.dt, h']
  | 3, _ => have h' : numOk t 3 d.n3 = false := h
            simp [Dv.dt, h']
  | 4, _ => have h' : numOk t 4 d.n4 = false := h
            simp [Dv.dt, h']
theorem ok_all {t : Nat} {d : Dv} (h : head t d.dt = true) (hn : ∀ k, k < 5 → numOk t k (d.n k) = true) : ok t d.dt = true := by
  have h0 : numOk t 0 d.n0 = true := hn 0 (by omega)
  have h1 : numOk t 1 d.n1 = true := hn 1 (by omega)
  have h2 : numOk t 2 d.n2 = true := hn 2 (by omega)
  have h3 : numOk t 3 d.n3 = true := hn 3 (by omega)
  have h4 : numOk t 4 d.n4 = true := hn 4 (by omega)
  rw [ok_eq, h]
  simp [Dv.dt, h0, h1, h2, h3, h4]
theorem cnt_le (t : Nat) : cnt t ≤ 5 := by unfold cnt; split <;> (try split) <;> (try split) <;> omega
theorem bits_le (t : Nat) : bits t ≤ 32 := by unfold bits; split <;> (try split) <;> (try split) <;> omega
theorem num_in {t i x : Nat} (h : i < cnt t) : numOk t i x = !(bits t == 16 && decide (65535 < x)) := by unfold numOk; rw [if_pos h]
theorem num_out {t i x : Nat} (h : ¬ i < cnt t) : numOk t i x = (x == 0) := by unfold numOk; rw [if_neg h]
end Rd
end Go.Proofs.YtpinhpnmnfcdoaaDoor
/- Two data compared. -/
namespace Go.Proofs.YtpinhpnmnfcdoaaDoor
open Go.RowKit

def dvB (a b : Dv) : Bool := (a.raw.toList == b.raw.toList) && ((a.host.toList == b.host.toList) && ((a.mail.toList == b.mail.toList) && (((a.n0 : Int) == b.n0) && (((a.n1 : Int) == b.n1) && (((a.n2 : Int) == b.n2) && (((a.n3 : Int) == b.n3) && ((a.n4 : Int) == b.n4)))))))
def numC (a0 a1 a2 a3 a4 : Int) : Array Value := #[.int .u32 a0, .int .u32 a1, .int .u32 a2, .int .u32 a3, .int .u32 a4]
section
variable (W : World)
set_option maxRecDepth 100000 in
theorem numPart (a0 a1 a2 a3 a4 : Int) (k : Nat) (hk : k < 5) : (part 36 (numC a0 a1 a2 a3 a4) k).run Tryd.prog W = .ok (.int .u32 ([a0, a1, a2, a3, a4][k])) W := by
  rcases (by omega : k = 0 ∨ k = 1 ∨ k = 2 ∨ k = 3 ∨ k = 4) with rfl | rfl | rfl | rfl | rfl <;> rfl
theorem and_run {x y : Bool} (f : Unit → Sem Bool) (P : Program) (h : (f ()).run P W = .ok y W) : (if (!x) = true then (pure false : Sem Bool) else f ()).run P W = .ok (x && y) W := by
  cases x
  · simp
  · simpa using h
theorem numsRun (a0 a1 a2 a3 a4 b0 b1 b2 b3 b4 : Int) (d : Nat) : (Op.equalIn (d + 2) 49 (.agg (numC a0 a1 a2 a3 a4)) (.agg (numC b0 b1 b2 b3 b4))).run Tryd.prog W = .ok ((a0 == b0) && ((a1 == b1) && ((a2 == b2) && ((a3 == b3) && (a4 == b4))))) W := by
  obtain ⟨i, hi⟩ : ∃ i, Tryd.prog.info? 36 = some i := by
    have : (Tryd.prog.info? 36).isSome = true := by kernel_rfl
    exact Option.isSome_iff_exists.1 this
  rw [run_equalIn_array W (d + 1) _ _ Tryd.underlying49 hi]
  have hc : Tryd.prog.cellsOf 36 = 1 := by kernel_rfl
  have hr : List.range 5 = [0, 1, 2, 3, 4] := rfl
  rw [hc, hr]
  have st : ∀ (k : Nat) (hk : k < 5) (is : List Nat) (y : Bool), (Op.eqItems (d + 1) 36 1 (numC a0 a1 a2 a3 a4) (numC b0 b1 b2 b3 b4) is).run Tryd.prog W = .ok y W →
      (Op.eqItems (d + 1) 36 1 (numC a0 a1 a2 a3 a4) (numC b0 b1 b2 b3 b4) (k :: is)).run Tryd.prog W = .ok (([a0, a1, a2, a3, a4][k] == [b0, b1, b2, b3, b4][k]) && y) W := fun k hk is y h => by
    rw [Op.eqItems, Nat.mul_one]
    simp only [Sem.run_bind, numPart W _ _ _ _ _ k hk, Result.andThen_ok, run_equalIn_int W d _ _ _ _ _ Tryd.underlying36]
    exact and_run W (fun _ => Op.eqItems (d + 1) 36 1 (numC a0 a1 a2 a3 a4) (numC b0 b1 b2 b3 b4) is) _ h
  have h5 := st 4 (by omega) [] true rfl
  rw [Bool.and_true] at h5
  exact st 0 (by omega) _ _ (st 1 (by omega) _ _ (st 2 (by omega) _ _ (st 3 (by omega) _ _ h5)))
set_option maxRecDepth 100000 in
theorem dvRun (a b : Dv) (d : Nat) : (Op.equalIn (d + 4) 51 (.agg a.cells) (.agg b.cells)).run Tryd.prog W = .ok (dvB a b) W := by
  rw [run_equalIn_agg W (d + 3) _ _ _ (by kernel_rfl) Tryd.stoodInHeld51]
  have hf : (Tryd.prog.fieldsOf 51).toList.map (fun f => (f.name != "_", f.type, f.offset)) = [(true, 9, 0), (true, 48, 1), (true, 48, 2), (true, 49, 3)] := by kernel_rfl
  have hlen : (Tryd.prog.fieldsOf 51).toList.length = 4 := by kernel_rfl
  generalize (Tryd.prog.fieldsOf 51).toList = fs at *
  match fs, hlen, hf with
  | [f0, f1, f2, f3], _, hf =>
    simp only [List.map_cons, List.map_nil, List.cons.injEq, Prod.mk.injEq] at hf
    obtain ⟨⟨n0, t0, o0⟩, ⟨n1, t1, o1⟩, ⟨n2, t2, o2⟩, ⟨n3, t3, o3⟩, _⟩ := hf
    have p0 : ∀ x : Dv, (part 9 x.cells 0).run Tryd.prog W = .ok (.string x.raw) W := fun _ => rfl
    have p1 : ∀ x : Dv, (part 48 x.cells 1).run Tryd.prog W = .ok (.string x.host) W := fun _ => rfl
    have p2 : ∀ x : Dv, (part 48 x.cells 2).run Tryd.prog W = .ok (.string x.mail) W := fun _ => rfl
    have p3 : ∀ x : Dv, (part 49 x.cells 3).run Tryd.prog W = .ok (.agg (numC x.n0 x.n1 x.n2 x.n3 x.n4)) W := fun _ => rfl
    have u1 := Tryd.underlying48
    have u0 := Tryd.underlying9
    have m0 : ¬ (f0.name = "_") := by simpa using n0
    have m1 : ¬ (f1.name = "_") := by simpa using n1
    have m2 : ¬ (f2.name = "_") := by simpa using n2
    have m3 : ¬ (f3.name = "_") := by simpa using n3
    have st : ∀ (f : Field) (va vb : Value) (x y : Bool) (fs : List Field), ¬ (f.name = "_") → (part f.type a.cells f.offset).run Tryd.prog W = .ok va W → (part f.type b.cells f.offset).run Tryd.prog W = .ok vb W →
        (Op.equalIn (d + 3) f.type va vb).run Tryd.prog W = .ok x W → (Op.eqFields (d + 3) a.cells b.cells fs).run Tryd.prog W = .ok y W → (Op.eqFields (d + 3) a.cells b.cells (f :: fs)).run Tryd.prog W = .ok (x && y) W := fun f va vb x y fs hn ha hb he hr => by
      simp only [Op.eqFields, ne_eq, hn, not_false_eq_true, if_true, Sem.run_bind, ha, hb, he, Result.andThen_ok]
      exact and_run W (fun _ => Op.eqFields (d + 3) a.cells b.cells fs) _ hr
    have h4 := st f3 _ _ _ true [] m3 (by rw [t3, o3]; exact p3 a) (by rw [t3, o3]; exact p3 b) (by rw [t3]; exact numsRun W _ _ _ _ _ _ _ _ _ _ _) rfl
    rw [Bool.and_true] at h4
    exact st f0 _ _ _ _ _ m0 (by rw [t0, o0]; exact p0 a) (by rw [t0, o0]; exact p0 b) (by rw [t0]; exact run_equalIn_string W _ _ _ _ u0)
      (st f1 _ _ _ _ _ m1 (by rw [t1, o1]; exact p1 a) (by rw [t1, o1]; exact p1 b) (by rw [t1]; exact run_equalIn_string W _ _ _ _ u1)
        (st f2 _ _ _ _ _ m2 (by rw [t2, o2]; exact p2 a) (by rw [t2, o2]; exact p2 b) (by rw [t2]; exact run_equalIn_string W _ _ _ _ u1) h4))
theorem eqlRun (a b : Dv) : (binOp .eql 51 (.agg a.cells) (.agg b.cells)).run Tryd.prog W = .ok (.bool (dvB a b)) W := by
  rw [run_eql_struct, dvRun W a b 9996]; rfl
theorem neqRun (a b : Dv) : (binOp .neq 51 (.agg a.cells) (.agg b.cells)).run Tryd.prog W = .ok (.bool (!dvB a b)) W := by
  rw [run_neq_struct, dvRun W a b 9996]; rfl
end
theorem strB (a b : ByteArray) : (a.toList == b.toList) = decide (a = b) := by
  rw [← beq_toListBytes, Bool.eq_iff_iff, decide_eq_true_eq]; exact MapKept.bytes_beq a b
theorem dvB_iff (a b : Dv) : dvB a b = true ↔ a = b := by
  obtain ⟨r, h, m, n0, n1, n2, n3, n4⟩ := a
  obtain ⟨r', h', m', k0, k1, k2, k3, k4⟩ := b
  unfold dvB
  rw [strB, strB, strB]
  simp
  omega
section
variable {w : World} {ops : Array Oper} {rest : List Oper} {o : Oper} {a : Act} {Q : Exit → Act → World → Prop}
theorem wpList_neq_data (hgd : o.guard = none) (x y : Operand) (ho : o.op = .binOp .neq 51 x y 51) (A B : Dv) (hx : a.eval x = .agg A.cells) (hy : a.eval y = .agg B.cells) (b : Bool) (hb : dvB A B = b)
    (h : wpList Tryd.prog ops Q rest (a.put o.dst (.bool (!b))) w) : wpList Tryd.prog ops Q (o :: rest) a w := by
  subst hb
  refine wpList_plain hgd fun _ hK => ?_
  unfold Oper.wp execOp
  simp only [ho, hx, hy, Sem.run_bind, Sem.run_pure, Result.andThen_ok, run_eqGuard_agg w .neq _ _ _ _ _ Tryd.eqGuardType51, neqRun]
  exact hK _ _ h
theorem wpList_eql_data (hgd : o.guard = none) (x y : Operand) (ho : o.op = .binOp .eql 51 x y 51) (A B : Dv) (hx : a.eval x = .agg A.cells) (hy : a.eval y = .agg B.cells) (b : Bool) (hb : dvB A B = b)
    (h : wpList Tryd.prog ops Q rest (a.put o.dst (.bool b)) w) : wpList Tryd.prog ops Q (o :: rest) a w := by
  subst hb
  refine wpList_plain hgd fun _ hK => ?_
  unfold Oper.wp execOp
  simp only [ho, hx, hy, Sem.run_bind, Sem.run_pure, Result.andThen_ok, run_eqGuard_agg w .eql _ _ _ _ _ Tryd.eqGuardType51, eqlRun]
  exact hK _ _ h
end
end Go.Proofs.YtpinhpnmnfcdoaaDoor
/- A part at its place in the table's row. -/
namespace Go.Proofs.YtpinhpnmnfcdoaaDoor
open Go.RowKit

set_option maxRecDepth 100000 in
theorem part_run (a b c d e f g : Int) (k : Nat) (hk : k < 7) (W : World) : (Instr.index 30 (.agg #[.int .u8 a, .int .u8 b, .int .u8 c, .int .u8 d, .int .u8 e, .int .u8 f, .int .u8 g]) (.int .i64 (k : Nat))).run Tryd.prog W = .ok (([.int .u8 a, .int .u8 b, .int .u8 c, .int .u8 d, .int .u8 e, .int .u8 f, .int .u8 g] : List Value)[k]) W := by
  rcases (by omega : k = 0 ∨ k = 1 ∨ k = 2 ∨ k = 3 ∨ k = 4 ∨ k = 5 ∨ k = 6) with rfl | rfl | rfl | rfl | rfl | rfl | rfl <;> rfl
theorem part_at {t k : Nat} (h : k < (Rd.parts t).length) (W : World) : (Instr.index 30 (.agg (partC t)) (.int .i64 (k : Nat))).run Tryd.prog W = .ok (.int .u8 ((Rd.parts t)[k] : Nat)) W := by
  have h7 := Rd.parts_len t
  unfold partC
  generalize Rd.parts t = l at *
  match l, h7, h with
  | [a, b, c, d, e, f, g], _, h =>
    refine (part_run a b c d e f g k h W).trans ?_
    have h' : k < 7 := h
    rcases (by omega : k = 0 ∨ k = 1 ∨ k = 2 ∨ k = 3 ∨ k = 4 ∨ k = 5 ∨ k = 6) with rfl | rfl | rfl | rfl | rfl | rfl | rfl <;> rfl
end Go.Proofs.YtpinhpnmnfcdoaaDoor
