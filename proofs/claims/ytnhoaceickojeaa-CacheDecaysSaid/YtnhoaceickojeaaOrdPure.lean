/- The order of names is one; what lies under what: over plain lists. -/
import Derived.Test.YtnhoaceickojeaaCmpPure
namespace Go.Proofs.Ytnhoaceickojeaa.Nm

theorem sgn_neg (a b : Nat) : sgn a b = - sgn b a := by
  unfold sgn
  rcases Nat.lt_trichotomy a b with h | h | h
  · rw [if_pos h, if_neg (by omega), if_pos h]
  · subst h; rw [if_neg (by omega), if_neg (by omega)]; rfl
  · rw [if_neg (by omega), if_pos h, if_pos h]; rfl
theorem cmpB_neg (a b : By) : cmpB a b = - cmpB b a := by
  induction a generalizing b with
  | nil => cases b <;> simp [cmpB]
  | cons x a ih =>
    cases b with
    | nil => simp [cmpB]
    | cons y b =>
      rw [cmpB, cmpB]
      by_cases h : x = y
      · rw [if_pos h, if_pos h.symm]; exact ih b
      · rw [if_neg h, if_neg (fun e => h e.symm)]; exact sgn_neg _ _
theorem sgn_le {a b : Nat} : sgn a b ≤ 0 ↔ a ≤ b := by
  unfold sgn
  rcases Nat.lt_trichotomy a b with h | h | h
  · rw [if_pos h]; omega
  · subst h; rw [if_neg (by omega), if_neg (by omega)]; omega
  · rw [if_neg (by omega), if_pos h]; omega
theorem cmpB_trans {a b c : By} (h1 : cmpB a b ≤ 0) (h2 : cmpB b c ≤ 0) : cmpB a c ≤ 0 := by
  induction a generalizing b c with
  | nil => cases c <;> simp [cmpB]
  | cons x a ih =>
    cases b with
    | nil => simp [cmpB] at h1
    | cons y b =>
      cases c with
      | nil => simp [cmpB] at h2
      | cons z c =>
        rw [cmpB] at h1 h2 ⊢
        by_cases h : x = y
        · subst h
          rw [if_pos rfl] at h1
          by_cases h' : x = z
          · subst h'; rw [if_pos rfl] at h2 ⊢; exact ih h1 h2
          · rw [if_neg h'] at h2 ⊢; exact h2
        · rw [if_neg h, sgn_le] at h1
          have hn : x.toNat ≠ y.toNat := fun e => h (UInt8.toNat_inj.1 e)
          have h2' : y.toNat ≤ z.toNat := by
            by_cases h' : y = z
            · subst h'; omega
            · rw [if_neg h', sgn_le] at h2; exact h2
          have hxz : x ≠ z := fun e => by subst e; omega
          rw [if_neg hxz, sgn_le]; omega
theorem cmpL_zero {a b : List By} : cmpL a b = 0 ↔ a.map fold = b.map fold := by
  induction a generalizing b with
  | nil => cases b <;> simp [cmpL]
  | cons x a ih =>
    cases b with
    | nil => simp [cmpL]
    | cons y b =>
      rw [cmpL]
      by_cases h : cmpB (fold x) (fold y) = 0
      · rw [if_pos h, ih, List.map_cons, List.map_cons, cmpB_zero.1 h]; simp
      · rw [if_neg h]
        have : fold x ≠ fold y := fun e => h (cmpB_zero.2 e)
        simp [h, this]
theorem cmpL_neg (a b : List By) : cmpL a b = - cmpL b a := by
  induction a generalizing b with
  | nil => cases b <;> simp [cmpL]
  | cons x a ih =>
    cases b with
    | nil => simp [cmpL]
    | cons y b =>
      rw [cmpL, cmpL, cmpB_neg (fold y) (fold x)]
      by_cases h : cmpB (fold x) (fold y) = 0
      · rw [if_pos h, if_pos (by omega)]; exact ih b
      · rw [if_neg h, if_neg (by omega)]; omega
theorem cmpL_range (a b : List By) : -1 ≤ cmpL a b ∧ cmpL a b ≤ 1 := by
  induction a generalizing b with
  | nil => cases b <;> simp [cmpL]
  | cons x a ih =>
    cases b with
    | nil => simp [cmpL]
    | cons y b => rw [cmpL]; split
                  · exact ih b
                  · exact cmpB_range _ _
theorem cmpL_trans {a b c : List By} (h1 : cmpL a b ≤ 0) (h2 : cmpL b c ≤ 0) : cmpL a c ≤ 0 := by
  induction a generalizing b c with
  | nil => cases c <;> simp [cmpL]
  | cons x a ih =>
    cases b with
    | nil => simp [cmpL] at h1
    | cons y b =>
      cases c with
      | nil => simp [cmpL] at h2
      | cons z c =>
        rw [cmpL] at h1 h2 ⊢
        by_cases e1 : cmpB (fold x) (fold y) = 0
        · rw [if_pos e1] at h1
          rw [cmpB_zero.1 e1]
          by_cases e2 : cmpB (fold y) (fold z) = 0
          · rw [if_pos e2] at h2 ⊢; exact ih h1 h2
          · rw [if_neg e2] at h2 ⊢; exact h2
        · rw [if_neg e1] at h1
          have h3 : cmpB (fold y) (fold z) ≤ 0 := by
            by_cases e2 : cmpB (fold y) (fold z) = 0
            · omega
            · rw [if_neg e2] at h2; exact h2
          have h4 := cmpB_trans h1 h3
          by_cases e3 : cmpB (fold x) (fold z) = 0
          · exfalso
            rw [cmpB_zero.1 e3] at h1 e1
            have := cmpB_neg (fold y) (fold z)
            omega
          · rw [if_neg e3]; exact h4
theorem cmpN_neg (a b : By) : cmpN a b = - cmpN b a := by
  unfold cmpN
  rcases split a with _ | x <;> rcases split b with _ | y <;> simp only []
  · exact cmpB_neg a b
  · rfl
  · exact cmpL_neg _ _
theorem cmpN_self (a : By) : cmpN a a = 0 := by
  unfold cmpN
  rcases split a with _ | x
  · exact cmpB_zero.2 rfl
  · exact cmpL_zero.2 rfl
theorem cmpN_range (a b : By) : -1 ≤ cmpN a b ∧ cmpN a b ≤ 1 := by
  unfold cmpN
  rcases split a with _ | x <;> rcases split b with _ | y <;> simp only []
  · exact cmpB_range a b
  · omega
  · omega
  · exact cmpL_range _ _
theorem cmpN_trans {a b c : By} (h1 : cmpN a b ≤ 0) (h2 : cmpN b c ≤ 0) : cmpN a c ≤ 0 := by
  unfold cmpN at *
  generalize split a = sa at *
  generalize split b = sb at *
  generalize split c = sc at *
  rcases sa with _ | x <;> rcases sb with _ | y <;> rcases sc with _ | z <;> simp only [] at *
  all_goals first | exact cmpB_trans h1 h2 | exact cmpL_trans h1 h2 | omega
theorem small_len {n : Nat} (h : n ≤ 63) : small (UInt8.ofNat n) = UInt8.ofNat n := by
  apply UInt8.toNat_inj.1
  rw [small_val]
  have : (UInt8.ofNat n).toNat = n := by simp; omega
  rw [this, if_neg (by omega)]
theorem fold_append (a b : By) : fold (a ++ b) = fold a ++ fold b := by simp [fold]
theorem fold_body {ls : List By} (h : Good ls) : fold (body ls) = body (ls.map fold) := by
  induction ls with
  | nil => rfl
  | cons l ls ih =>
    have hl := h l (by simp)
    rw [body_cons, List.map_cons, body_cons, fold_append, ih (fun x hx => h x (by simp [hx]))]
    congr 1
    show small (UInt8.ofNat l.length) :: fold l = UInt8.ofNat (fold l).length :: fold l
    rw [small_len hl.2, fold_length]
theorem fold_glue {ls : List By} (h : Good ls) : fold (glue ls) = glue (ls.map fold) := by
  unfold glue; rw [fold_append, fold_body h]; rfl
theorem good_fold {ls : List By} (h : Good ls) : Good (ls.map fold) := fun l hl => by
  obtain ⟨m, hm, rfl⟩ := List.mem_map.1 hl
  rw [fold_length]; exact h m hm
theorem glue_inj {x y : List By} (hx : Good x) (hy : Good y) (h : glue x = glue y) : x = y := by
  have h1 := sp_glue x hx
  rw [h, sp_glue y hy] at h1
  injection h1 with h1
  exact h1.symm
theorem fold_glue_iff {x y : List By} (hx : Good x) (hy : Good y) : fold (glue x) = fold (glue y) ↔ x.map fold = y.map fold := by
  rw [fold_glue hx, fold_glue hy]
  exact ⟨fun h => glue_inj (good_fold hx) (good_fold hy) h, fun h => by rw [h]⟩
/-- of names the order is 0 just if they are alike. -/
theorem cmpN_zero {a b : By} {x y : List By} (ha : split a = some x) (hb : split b = some y) : cmpN a b = 0 ↔ fold a = fold b := by
  obtain ⟨rfl, gx, _⟩ := split_some.1 ha
  obtain ⟨rfl, gy, _⟩ := split_some.1 hb
  unfold cmpN
  rw [ha, hb]
  simp only []
  rw [cmpL_zero, fold_glue_iff gx gy, List.map_reverse, List.map_reverse]
  constructor
  · intro h; exact List.reverse_inj.1 h
  · intro h; rw [h]
theorem cmpL_under {x y r : List By} (h : x.map fold = y.map fold) : 0 ≤ cmpL (x ++ r) y := by
  induction x generalizing y with
  | nil =>
    have : y = [] := by simpa using h.symm
    subst this
    cases r <;> simp [cmpL]
  | cons a x ih =>
    cases y with
    | nil => simp at h
    | cons b y =>
      simp at h
      rw [List.cons_append, cmpL, if_pos (cmpB_zero.2 h.1)]
      exact ih (by simpa using h.2)

def underB (n z : By) : Bool := match split n, split z with
  | some a, some b => decide (b.length ≤ a.length) && (fold (glue (a.drop (a.length - b.length))) == fold z)
  | _, _ => false
theorem good_drop {x : List By} (h : Good x) (k : Nat) : Good (x.drop k) := fun l hl => h l (List.mem_of_mem_drop hl)
theorem under_cmp {n z : By} (h : underB n z = true) : 0 ≤ cmpN n z := by
  unfold underB at h
  unfold cmpN
  rcases hn : split n with _ | a
  · rw [hn] at h; simp at h
  · rcases hz : split z with _ | b
    · rw [hn, hz] at h; simp at h
    · rw [hn, hz] at h
      simp only [Bool.and_eq_true, decide_eq_true_eq, beq_iff_eq] at h
      obtain ⟨hl, hf⟩ := h
      obtain ⟨rfl, ga, _⟩ := split_some.1 hn
      obtain ⟨rfl, gb, _⟩ := split_some.1 hz
      simp only []
      rw [fold_glue_iff (good_drop ga _) gb] at hf
      have e : a.reverse = (a.drop (a.length - b.length)).reverse ++ (a.take (a.length - b.length)).reverse := by
        rw [← List.reverse_append, List.take_append_drop]
      rw [e]
      exact cmpL_under (by rw [List.map_reverse, List.map_reverse, hf])
end Go.Proofs.Ytnhoaceickojeaa.Nm
