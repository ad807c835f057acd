/- A text of bytes tells the bytes, a name's text the name: over plain lists. -/
import Derived.Test.YtjcdhmpcjpjnmaaDoorTextPure
namespace Go.Proofs.YtjcdhmpcjpjnmaaDoor.Nm

theorem dig_of {n : Nat} (h : n ≤ 9) : (UInt8.ofNat (48 + n)).toNat = 48 + n := by simp; omega
theorem esc1_split (q : Bool) (c : UInt8) (P : By → Prop) (h1 : ¬ dg c → P [92, c]) (h2 : c.toNat ≠ 92 → (q = false → c.toNat ≠ 46) → P [c])
    (h3 : ∀ d0 d1 d2, dg d0 → dg d1 → dg d2 → val3 d0 d1 d2 = c.toNat → P [92, d0, d1, d2]) : P (esc1 q c) := by
  have h8 := c.toNat_lt
  unfold esc1
  by_cases hm : mark q c = true
  · rw [if_pos hm]
    apply h1
    unfold dg
    simp [mark] at hm
    omega
  · rw [if_neg hm]
    by_cases hc : clear q c = true
    · rw [if_pos hc]
      simp [mark] at hm
      exact h2 (by omega) (fun hq => by subst hq; simp at hm; omega)
    · rw [if_neg hc]
      have a0 : (UInt8.ofNat (48 + c.toNat / 100)).toNat = 48 + c.toNat / 100 := dig_of (by omega)
      have a1 : (UInt8.ofNat (48 + c.toNat / 10 % 10)).toNat = 48 + c.toNat / 10 % 10 := dig_of (by omega)
      have a2 : (UInt8.ofNat (48 + c.toNat % 10)).toNat = 48 + c.toNat % 10 := dig_of (by omega)
      refine h3 _ _ _ ?_ ?_ ?_ ?_
      · unfold dg; omega
      · unfold dg; omega
      · unfold dg; omega
      · unfold val3; rw [a0, a1, a2]; omega
theorem unesc_esc1 (q : Bool) (c : UInt8) (r : By) : unesc (esc1 q c ++ r) = (unesc r).map (c :: ·) := by
  apply esc1_split q c (fun l => unesc (l ++ r) = (unesc r).map (c :: ·))
  · intro h
    show unesc (92 :: c :: r) = _
    rw [unesc_yes rfl (escd_plain h)]; rfl
  · intro h _
    show unesc (c :: r) = _
    rw [unesc_plain h]
  · intro d0 d1 d2 h0 h1 h2 hv
    have h8 := c.toNat_lt
    show unesc (92 :: d0 :: d1 :: d2 :: r) = _
    have he : escd (d0 :: d1 :: d2 :: r) = some (c, 3) := by
      rw [escd_three h0, if_pos ⟨h1, h2, by omega⟩, hv]
      simp
    rw [unesc_yes rfl he]; rfl
theorem unesc_esc_append (q : Bool) (l r : By) : unesc (esc q l ++ r) = (unesc r).map (l ++ ·) := by
  induction l with
  | nil => show unesc r = _; rcases unesc r <;> rfl
  | cons c l ih =>
    have e : esc q (c :: l) = esc1 q c ++ esc q l := rfl
    rw [e, List.append_assoc, unesc_esc1, ih]
    rcases unesc r <;> rfl
theorem unesc_esc (q : Bool) (l : By) : unesc (esc q l) = some l := by
  have := unesc_esc_append q l []
  rw [List.append_nil, unesc_nil] at this
  simpa using this
theorem dg_ne {d : UInt8} (h : dg d) : d.toNat ≠ 46 ∧ d.toNat ≠ 92 := by unfold dg at h; omega
theorem cutP_esc1 (c : UInt8) (t : By) : cutP (esc1 false c ++ t) = (esc1 false c ++ (cutP t).1, (cutP t).2) := by
  apply esc1_split false c (fun l => cutP (l ++ t) = (l ++ (cutP t).1, (cutP t).2))
  · intro _
    show cutP (92 :: c :: t) = _
    rw [cutP_back rfl]; rfl
  · intro h h2
    show cutP (c :: t) = _
    rw [cutP_plain (h2 rfl) h]; rfl
  · intro d0 d1 d2 h0 h1 h2 _
    show cutP (92 :: d0 :: d1 :: d2 :: t) = _
    rw [cutP_back rfl, cutP_plain (dg_ne h1).1 (dg_ne h1).2, cutP_plain (dg_ne h2).1 (dg_ne h2).2]; rfl
theorem cutP_esc (l t : By) : cutP (esc false l ++ 46 :: t) = (esc false l, t, true) := by
  induction l with
  | nil => show cutP (46 :: t) = _; rw [cutP_dot rfl]; rfl
  | cons c l ih =>
    have e : esc false (c :: l) = esc1 false c ++ esc false l := rfl
    rw [e, List.append_assoc, cutP_esc1, ih]
theorem textL_cons (l : By) (ls : List By) : textL (l :: ls) = esc false l ++ 46 :: textL ls := by simp [textL]
theorem textL_len0 {ls : List By} : (textL ls).length = 0 ↔ ls = [] := by
  cases ls with
  | nil => simp [textL]
  | cons l ls => rw [textL_cons]; simp
theorem pieces_text : ∀ ls : List By, ls ≠ [] → pieces (textL ls) = (ls.map (esc false), true)
  | [], h => absurd rfl h
  | [l], _ => by
    have hc : cutP (textL [l]) = (esc false l, [], true) := by rw [textL_cons]; exact cutP_esc l _
    rw [pieces_whole (by rw [hc]) (by rw [hc]; rfl), hc]; rfl
  | l :: m :: ls, _ => by
    have hc : cutP (textL (l :: m :: ls)) = (esc false l, textL (m :: ls), true) := by rw [textL_cons]; exact cutP_esc l _
    rw [pieces_more (by rw [hc]) (by rw [hc]; exact fun h => by have := textL_len0.1 h; cases this), hc]
    simp only [pieces_text (m :: ls) (by simp)]; rfl
theorem labelsP_esc_ok {ls : List By} (h : Good ls) : labelsP (ls.map (esc false)) = .ok ls := by
  induction ls with
  | nil => rfl
  | cons l ls ih =>
    have hl := h l (by simp)
    rw [List.map_cons]
    unfold labelsP
    rw [unesc_esc]
    simp only [if_pos hl, ih (fun x hx => h x (by simp [hx]))]
/-- a name's text tells the name. -/
theorem parse_text {n o : By} {ls os : List By} (hn : split n = some ls) (ho : split o = some os) : parse (text n) o = (n, 0) := by
  obtain ⟨hg, gl, hl⟩ := split_some.1 hn
  unfold parse text
  rw [hn, ho]
  cases ls with
  | nil => simp only []; rw [if_pos trivial, hg]; rfl
  | cons l ls =>
    have hne : textL (l :: ls) ≠ [46] := fun h => by
      have h1 := congrArg List.length h
      rw [textL_cons] at h1
      have hl1 := (gl l (by simp)).1
      cases l with
      | nil => simp at hl1
      | cons c l =>
        have e : esc false (c :: l) = esc1 false c ++ esc false l := rfl
        have := (esc1_len false c).1
        rw [e] at h1; simp at h1; omega
    simp only []
    rw [if_neg hne, pieces_text _ (by simp)]
    simp only [labelsP_esc_ok gl, if_true]
    rw [glueR, if_neg (by rw [hg, glue_length] at hl; omega), hg]
end Go.Proofs.YtjcdhmpcjpjnmaaDoor.Nm
