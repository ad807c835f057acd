/- The order of texts and of names, over plain lists. -/
import Derived.Test.YtnhoaceickojeaaTextPure
namespace Go.Proofs.Ytnhoaceickojeaa.Nm

def sgn (a b : Nat) : Int := if a < b then -1 else if b < a then 1 else 0
def cmpB : By → By → Int
  | [], [] => 0
  | [], _ :: _ => -1
  | _ :: _, [] => 1
  | a :: s, b :: t => if a = b then cmpB s t else sgn a.toNat b.toNat
/-- labels from the back, small letters. -/
def cmpL : List By → List By → Int
  | [], [] => 0
  | [], _ :: _ => -1
  | _ :: _, [] => 1
  | x :: s, y :: t => if cmpB (fold x) (fold y) = 0 then cmpL s t else cmpB (fold x) (fold y)
def cmpN (a b : By) : Int := match split a, split b with
  | none, none => cmpB a b
  | none, some _ => 1
  | some _, none => -1
  | some x, some y => cmpL x.reverse y.reverse

theorem sgn_self (a : Nat) : sgn a a = 0 := by unfold sgn; rw [if_neg (by omega), if_neg (by omega)]
theorem sgn_lt {a b : Nat} (h : a < b) : sgn a b = -1 := if_pos h
theorem sgn_gt {a b : Nat} (h : b < a) : sgn a b = 1 := by unfold sgn; rw [if_neg (by omega), if_pos h]
theorem cmpB_nil_right (a : By) : cmpB a [] = sgn a.length 0 := by cases a <;> simp [cmpB, sgn]
theorem cmpB_nil_left (a : By) : cmpB [] a = sgn 0 a.length := by cases a <;> simp [cmpB, sgn]
/-- the first k bytes are alike. -/
theorem cmpB_at {a b : By} {k : Nat} (h : a.take k = b.take k) (ha : k ≤ a.length) (hb : k ≤ b.length) : cmpB a b = cmpB (a.drop k) (b.drop k) := by
  induction k generalizing a b with
  | zero => simp
  | succ k ih =>
    cases a with
    | nil => simp at ha
    | cons x a =>
      cases b with
      | nil => simp at hb
      | cons y b =>
        simp at h ha hb
        obtain ⟨rfl, h⟩ := h
        simp only [cmpB, if_true, List.drop_succ_cons]
        exact ih h ha hb
theorem cmpB_differ {a b : By} {k : Nat} (h : a.take k = b.take k) (ha : k < a.length) (hb : k < b.length) (hne : a[k] ≠ b[k]) : cmpB a b = sgn a[k].toNat b[k].toNat := by
  rw [cmpB_at h (by omega) (by omega), drop_cons ha, drop_cons hb, cmpB, if_neg hne]
theorem cmpB_over {a b : By} {k : Nat} (h : a.take k = b.take k) (ha : k ≤ a.length) (hb : k ≤ b.length) (he : a.length ≤ k ∨ b.length ≤ k) : cmpB a b = sgn a.length b.length := by
  rw [cmpB_at h ha hb]
  rcases he with he | he
  · rw [List.drop_eq_nil_of_le he, cmpB_nil_left, List.length_drop]
    unfold sgn; repeat' split
    all_goals omega
  · rw [List.drop_eq_nil_of_le he, cmpB_nil_right, List.length_drop]
    unfold sgn; repeat' split
    all_goals omega
theorem take_succ_alike {a b : By} {k : Nat} (h : a.take k = b.take k) (ha : k < a.length) (hb : k < b.length) (he : a[k] = b[k]) : a.take (k + 1) = b.take (k + 1) := by
  rw [List.take_succ_eq_append_getElem ha, List.take_succ_eq_append_getElem hb, h, he]
theorem fold_length (l : By) : (fold l).length = l.length := by simp [fold]
theorem cmpL_nil_right (a : List By) : cmpL a [] = sgn a.length 0 := by cases a <;> simp [cmpL, sgn]
theorem cmpL_nil_left (a : List By) : cmpL [] a = sgn 0 a.length := by cases a <;> simp [cmpL, sgn]

/-- the last k labels of both are alike. -/
def Back (x y : List By) (k : Nat) : Prop := k ≤ x.length ∧ k ≤ y.length ∧ cmpL x.reverse y.reverse = cmpL (x.reverse.drop k) (y.reverse.drop k)
theorem Back.zero (x y : List By) : Back x y 0 := ⟨Nat.zero_le _, Nat.zero_le _, rfl⟩
theorem rev_drop {x : List By} {k : Nat} (h : k < x.length) : x.reverse.drop k = x[x.length - 1 - k] :: x.reverse.drop (k + 1) := by
  have h' : k < x.reverse.length := by simpa using h
  rw [List.drop_eq_getElem_cons h', List.getElem_reverse]
theorem Back.step {x y : List By} {k : Nat} (h : Back x y k) (hx : k < x.length) (hy : k < y.length) (he : cmpB (fold x[x.length - 1 - k]) (fold y[y.length - 1 - k]) = 0) : Back x y (k + 1) := by
  refine ⟨hx, hy, ?_⟩
  rw [h.2.2, rev_drop hx, rev_drop hy, cmpL, if_pos he]
theorem Back.differ {x y : List By} {k : Nat} (h : Back x y k) (hx : k < x.length) (hy : k < y.length) (he : cmpB (fold x[x.length - 1 - k]) (fold y[y.length - 1 - k]) ≠ 0) : cmpL x.reverse y.reverse = cmpB (fold x[x.length - 1 - k]) (fold y[y.length - 1 - k]) := by
  rw [h.2.2, rev_drop hx, rev_drop hy, cmpL, if_neg he]
theorem Back.over {x y : List By} {k : Nat} (h : Back x y k) (he : x.length ≤ k ∨ y.length ≤ k) : cmpL x.reverse y.reverse = sgn x.length y.length := by
  have hx := h.1
  have hy := h.2.1
  rw [h.2.2]
  rcases he with he | he
  · rw [List.drop_eq_nil_of_le (by simpa using he), cmpL_nil_left, List.length_drop, List.length_reverse]
    unfold sgn; repeat' split
    all_goals omega
  · rw [@List.drop_eq_nil_of_le _ y.reverse _ (by simpa using he), cmpL_nil_right, List.length_drop, List.length_reverse]
    unfold sgn; repeat' split
    all_goals omega
theorem cmpB_zero {a b : By} : cmpB a b = 0 ↔ a = b := by
  induction a generalizing b with
  | nil => cases b <;> simp [cmpB]
  | cons x a ih =>
    cases b with
    | nil => simp [cmpB]
    | cons y b =>
      rw [cmpB]
      by_cases h : x = y
      · subst h; rw [if_pos rfl, ih]; simp
      · rw [if_neg h]
        have hn : x.toNat ≠ y.toNat := fun e => h (UInt8.toNat_inj.1 e)
        constructor
        · intro hs; unfold sgn at hs; split at hs
          · cases hs
          · split at hs
            · cases hs
            · omega
        · intro e; injection e with e _; exact absurd e h
theorem sgn_range (a b : Nat) : -1 ≤ sgn a b ∧ sgn a b ≤ 1 := by unfold sgn; split <;> (try split) <;> omega
theorem cmpB_range (a b : By) : -1 ≤ cmpB a b ∧ cmpB a b ≤ 1 := by
  induction a generalizing b with
  | nil => cases b <;> simp [cmpB]
  | cons x a ih =>
    cases b with
    | nil => simp [cmpB]
    | cons y b => rw [cmpB]; split
                  · exact ih b
                  · exact sgn_range _ _
end Go.Proofs.Ytnhoaceickojeaa.Nm
