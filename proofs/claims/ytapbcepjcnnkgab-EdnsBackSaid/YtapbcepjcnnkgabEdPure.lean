/- Options, one behind the other: pure. -/
import Derived.Test.YtapbcepjcnnkgabRows
namespace Go.Proofs.Ytapbcepjcnnkgab
namespace Ed
/-- an option: its number, its bytes, what stands behind it. -/
abbrev Op := Nat × List UInt8 × List UInt8
def b (l : List UInt8) (i : Nat) : Nat := (l.getD i 0).toNat
theorem b_lt (l : List UInt8) (i : Nat) : b l i < 256 := UInt8.toNat_lt _
def num (l : List UInt8) : Nat := 256 * b l 0 + b l 1
def siz (l : List UInt8) : Nat := 256 * b l 2 + b l 3
theorem num_lt (l : List UInt8) : num l ≤ 65535 := by have := b_lt l 0; have := b_lt l 1; unfold num; omega
theorem siz_lt (l : List UInt8) : siz l ≤ 65535 := by have := b_lt l 2; have := b_lt l 3; unfold siz; omega
/-- the option with which these bytes begin. -/
def fst (l : List UInt8) : Option Op := if l.length < 4 then none else if l.length - 4 < siz l then none else some (num l, (l.drop 4).take (siz l), (l.drop 4).drop (siz l))
theorem fst_few {l : List UInt8} (h : l.length < 4) : fst l = none := by unfold fst; rw [if_pos h]
theorem fst_short {l : List UInt8} (h : l.length - 4 < siz l) : fst l = none := by simp [fst, h]
theorem fst_some {l : List UInt8} (h : 4 ≤ l.length) (h2 : siz l ≤ l.length - 4) : fst l = some (num l, (l.drop 4).take (siz l), (l.drop 4).drop (siz l)) := by
  unfold fst; rw [if_neg (by omega), if_neg (by omega)]
theorem fst_shorter {l : List UInt8} {x : Op} (h : fst l = some x) : x.2.2.length + 4 ≤ l.length ∧ x.1 ≤ 65535 ∧ x.2.1.length ≤ l.length := by
  unfold fst at h
  split at h
  · cases h
  split at h
  · cases h
  cases h
  refine ⟨?_, num_lt l, ?_⟩
  · simp only [List.length_drop]; omega
  · simp only [List.length_take, List.length_drop]; omega
def os : Nat → List UInt8 → List Op
  | 0, _ => []
  | f + 1, l => match fst l with
    | none => []
    | some x => x :: os f x.2.2
/-- the options that there are, from the front on. -/
def all (l : List UInt8) : List Op := os l.length l
/-- what stands behind the first i. -/
def rs (l : List UInt8) (i : Nat) : List UInt8 := (l :: (all l).map (·.2.2)).getD i []
theorem os_at : ∀ (f : Nat) (l : List UInt8), l.length ≤ f → (∀ i (h : i < (os f l).length), fst ((l :: (os f l).map (·.2.2)).getD i []) = some ((os f l)[i]'h)) ∧ fst ((l :: (os f l).map (·.2.2)).getD (os f l).length []) = none
  | 0, l, hl => by
    refine ⟨fun i h => (by cases h), ?_⟩
    show fst l = none
    exact fst_few (by omega)
  | f + 1, l, hl => by
    cases hx : fst l with
    | none =>
      have e : os (f + 1) l = [] := by unfold os; rw [hx]
      rw [e]
      exact ⟨fun i h => (by cases h), hx⟩
    | some x =>
      have e : os (f + 1) l = x :: os f x.2.2 := by show (match fst l with | none => [] | some x => x :: os f x.2.2) = _; rw [hx]
      have h1 := fst_shorter hx
      obtain ⟨h2, h3⟩ := os_at f x.2.2 (by omega)
      simp only [e]
      refine ⟨fun i h => ?_, ?_⟩
      · cases i with
        | zero => exact hx
        | succ i => exact h2 i (by simpa using h)
      · exact h3
theorem at_ {l : List UInt8} {i : Nat} (h : i < (all l).length) : fst (rs l i) = some ((all l)[i]'h) := (os_at l.length l (Nat.le_refl _)).1 i h
theorem at_end (l : List UInt8) : fst (rs l (all l).length) = none := (os_at l.length l (Nat.le_refl _)).2
theorem rs_zero (l : List UInt8) : rs l 0 = l := rfl
theorem rs_succ {l : List UInt8} {i : Nat} (h : i < (all l).length) : rs l (i + 1) = ((all l)[i]'h).2.2 := by
  unfold rs
  simp [h]
theorem rs_len (l : List UInt8) : ∀ i, i ≤ (all l).length → (rs l i).length + 4 * i ≤ l.length
  | 0, _ => by rw [rs_zero]; omega
  | i + 1, h => by
    have h1 := rs_len l i (by omega)
    have h2 := fst_shorter (at_ (l := l) (i := i) (by omega))
    rw [rs_succ (by omega)]
    omega
theorem all_len (l : List UInt8) : 4 * (all l).length ≤ l.length := by have := rs_len l _ (Nat.le_refl _); omega
/-- is nothing left over? -/
def may (l : List UInt8) : Bool := (rs l (all l).length).isEmpty
theorem may_nil {l : List UInt8} {i : Nat} (hi : i ≤ (all l).length) (h : rs l i = []) : i = (all l).length ∧ may l = true := by
  have e : i = (all l).length := by
    rcases Nat.lt_or_ge i (all l).length with h1 | h1
    · have := at_ h1
      rw [h, fst_few (by decide)] at this
      cases this
    · omega
  refine ⟨e, ?_⟩
  unfold may
  rw [← e, h]
  rfl
theorem may_no {l : List UInt8} {i : Nat} (hi : i ≤ (all l).length) (h : fst (rs l i) = none) (h0 : rs l i ≠ []) : may l = false := by
  have e : i = (all l).length := by
    rcases Nat.lt_or_ge i (all l).length with h1 | h1
    · have := at_ h1
      rw [h] at this
      cases this
    · omega
  unfold may
  rw [← e]
  cases h1 : rs l i with
  | nil => exact absurd h1 h0
  | cons a r => rfl
theorem more {l : List UInt8} {i : Nat} (hi : i ≤ (all l).length) {x : Op} (h : fst (rs l i) = some x) : ∃ h1 : i < (all l).length, (all l)[i]'h1 = x := by
  rcases Nat.lt_or_ge i (all l).length with h1 | h1
  · have := at_ h1
    rw [h] at this
    cases this
    exact ⟨h1, rfl⟩
  · have e : i = (all l).length := by omega
    rw [e, at_end] at h
    cases h
/-- the options' numbers, and their bytes. -/
def nums (l : List UInt8) : List Nat := (all l).map (·.1)
def txts (l : List UInt8) : List (List UInt8) := (all l).map (·.2.1)
end Ed
end Go.Proofs.Ytapbcepjcnnkgab
