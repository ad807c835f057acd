/- Plain lists of bytes: names, labels, texts. Nothing of the program. -/
namespace Go.Proofs.Ytnhoaceickojeaa.Nm

abbrev By := List UInt8

def small (c : UInt8) : UInt8 := if 65 ≤ c ∧ c ≤ 90 then c + 32 else c
def fold (l : By) : By := l.map small

/-- the labels of what stands here, up to its byte 0; f bounds how many. -/
def splitF : Nat → By → Option (List By)
  | 0, _ => none
  | _ + 1, [] => none
  | f + 1, k :: t =>
    if k.toNat = 0 then (if t.length = 0 then some [] else none)
    else if 63 < k.toNat ∨ t.length < k.toNat then none
    else (splitF f (t.drop k.toNat)).map (t.take k.toNat :: ·)
def split (l : By) : Option (List By) := if 255 < l.length then none else splitF (l.length + 1) l

theorem splitF_more : ∀ (f : Nat) (l : By), l.length < f → splitF (f + 1) l = splitF f l := by
  intro f
  induction f with
  | zero => intro l h; omega
  | succ f ih =>
    intro l h
    cases l with
    | nil => rfl
    | cons k t =>
      rw [splitF, splitF]
      have hd : (t.drop k.toNat).length < f := by simp at h ⊢; omega
      rw [ih _ hd]
theorem splitF_eq : ∀ (d f : Nat) (l : By), l.length < f → splitF (f + d) l = splitF f l := by
  intro d
  induction d with
  | zero => intro f l _; rfl
  | succ d ih => intro f l h; rw [← Nat.add_assoc, splitF_more _ _ (by omega)]; exact ih f l h
theorem splitF_len (f : Nat) (l : By) (h : l.length < f) : splitF f l = splitF (l.length + 1) l := by
  have := splitF_eq (f - (l.length + 1)) (l.length + 1) l (by omega)
  rw [show l.length + 1 + (f - (l.length + 1)) = f from by omega] at this
  exact this

/-- what stands at one's place: the same with no bound to carry. -/
def sp (l : By) : Option (List By) := splitF (l.length + 1) l
theorem sp_nil : sp [] = none := rfl
theorem sp_zero {k : UInt8} {t : By} (h : k.toNat = 0) : sp (k :: t) = if t.length = 0 then some [] else none := by simp [sp, splitF, h]
theorem sp_bad {k : UInt8} {t : By} (h : k.toNat ≠ 0) (h2 : 63 < k.toNat ∨ t.length < k.toNat) : sp (k :: t) = none := by simp [sp, splitF, h, h2]
theorem sp_cons {k : UInt8} {t : By} (h : k.toNat ≠ 0) (h2 : k.toNat ≤ 63) (h3 : k.toNat ≤ t.length) :
    sp (k :: t) = (sp (t.drop k.toNat)).map (t.take k.toNat :: ·) := by
  have e : splitF (t.length + 1) (t.drop k.toNat) = sp (t.drop k.toNat) := splitF_len _ _ (by simp; omega)
  unfold sp at e ⊢
  rw [List.length_cons, splitF, if_neg h, if_neg (by omega), e]

def lab (l : By) : By := UInt8.ofNat l.length :: l
def body (ls : List By) : By := ls.flatMap lab
def glue (ls : List By) : By := body ls ++ [0]
def good (l : By) : Bool := decide (1 ≤ l.length) && decide (l.length ≤ 63)
def Good (ls : List By) : Prop := ∀ l ∈ ls, 1 ≤ l.length ∧ l.length ≤ 63

theorem body_nil : body [] = [] := rfl
theorem body_cons (l : By) (ls : List By) : body (l :: ls) = lab l ++ body ls := rfl
theorem body_append (a b : List By) : body (a ++ b) = body a ++ body b := by simp [body]
theorem lab_length (l : By) : (lab l).length = l.length + 1 := by simp [lab]
theorem glue_length (ls : List By) : (glue ls).length = (body ls).length + 1 := by simp [glue]
theorem body_snoc_length (a : List By) (l : By) : (body (a ++ [l])).length = (body a).length + 1 + l.length := by
  rw [body_append]; simp [body, lab]; omega

theorem sp_glue : ∀ (ls : List By), Good ls → sp (glue ls) = some ls := by
  intro ls
  induction ls with
  | nil => intro _; rfl
  | cons l ls ih =>
    intro h
    have hl := h l (by simp)
    have hb : (UInt8.ofNat l.length).toNat = l.length := by simp; omega
    have e : glue (l :: ls) = UInt8.ofNat l.length :: (l ++ glue ls) := by simp [glue, body, lab]
    rw [e, sp_cons (by omega) (by omega) (by simp; omega), hb, List.drop_left, List.take_left, ih (fun x hx => h x (by simp [hx]))]
    rfl
theorem sp_some : ∀ (n : Nat) (l : By) (ls : List By), l.length ≤ n → sp l = some ls → l = glue ls ∧ Good ls := by
  intro n
  induction n with
  | zero =>
    intro l ls hn h
    have : l = [] := List.eq_nil_of_length_eq_zero (by omega)
    subst this; simp [sp_nil] at h
  | succ n ih =>
    intro l ls hn h
    cases l with
    | nil => simp [sp_nil] at h
    | cons k t =>
      by_cases h0 : k.toNat = 0
      · rw [sp_zero h0] at h
        split at h
        · rename_i ht
          have : t = [] := List.eq_nil_of_length_eq_zero ht
          subst this
          injection h with h
          subst h
          have hk : k = 0 := UInt8.toNat_inj.1 (by simpa using h0)
          subst hk
          exact ⟨rfl, by intro x hx; simp at hx⟩
        · simp at h
      · by_cases hb : 63 < k.toNat ∨ t.length < k.toNat
        · rw [sp_bad h0 hb] at h; simp at h
        · rw [sp_cons h0 (by omega) (by omega)] at h
          rcases hs : sp (t.drop k.toNat) with _ | ls'
          · simp [hs] at h
          · simp [hs] at h
            subst h
            obtain ⟨e, g⟩ := ih (t.drop k.toNat) ls' (by simp at hn ⊢; omega) hs
            refine ⟨?_, ?_⟩
            · have hlen : (t.take k.toNat).length = k.toNat := by simp; omega
              have : glue (t.take k.toNat :: ls') = k :: (t.take k.toNat ++ glue ls') := by simp [glue, body, lab, Nat.min_eq_left (show k.toNat ≤ t.length by omega)]
              rw [this, ← e, List.take_append_drop]
            · intro x hx
              rcases List.mem_cons.1 hx with rfl | hx
              · simp; omega
              · exact g x hx
theorem split_some {l : By} {ls : List By} : split l = some ls ↔ l = glue ls ∧ Good ls ∧ l.length ≤ 255 := by
  unfold split
  constructor
  · intro h
    split at h
    · simp at h
    · obtain ⟨a, b⟩ := sp_some l.length l ls (Nat.le_refl _) h
      exact ⟨a, b, by omega⟩
  · rintro ⟨rfl, g, h⟩
    rw [if_neg (by omega)]
    exact sp_glue ls g
theorem split_glue {ls : List By} (g : Good ls) (h : (glue ls).length ≤ 255) : split (glue ls) = some ls := split_some.2 ⟨rfl, g, h⟩
theorem good_count {ls : List By} (g : Good ls) : 2 * ls.length ≤ (body ls).length := by
  induction ls with
  | nil => simp
  | cons l ls ih =>
    have := ih (fun x hx => g x (by simp [hx]))
    have hl := g l (by simp)
    rw [body_cons, List.length_append, lab_length, List.length_cons]; omega

/-- where each label begins. -/
def starts (ls : List By) : List Nat := (List.range ls.length).map fun i => (body (ls.take i)).length
theorem starts_length (ls : List By) : (starts ls).length = ls.length := by simp [starts]
theorem starts_snoc (ls : List By) (l : By) : starts (ls ++ [l]) = starts ls ++ [(body ls).length] := by
  unfold starts
  rw [List.length_append, List.length_singleton, List.range_succ, List.map_append]
  congr 1
  · apply List.map_congr_left
    intro i hi
    rw [List.take_append_of_le_length (by have := List.mem_range.1 hi; omega)]
  · simp
/-- and behind them where the byte 0 stands. -/
def offs (ls : List By) : List Nat := starts ls ++ [(body ls).length]
theorem offs_length (ls : List By) : (offs ls).length = ls.length + 1 := by simp [offs, starts_length]
theorem offs_get (ls : List By) (i : Nat) (h : i ≤ ls.length) : (offs ls)[i]? = some (body (ls.take i)).length := by
  unfold offs
  by_cases hi : i < ls.length
  · rw [List.getElem?_append_left (by simpa [starts_length] using hi)]; simp [starts, hi]
  · have : i = ls.length := by omega
    subst this
    rw [List.getElem?_append_right (by simp [starts_length])]; simp [starts_length]

theorem small_val (c : UInt8) : (small c).toNat = if 65 ≤ c.toNat ∧ c.toNat ≤ 90 then c.toNat + 32 else c.toNat := by
  have := c.toNat_lt
  unfold small
  by_cases h : 65 ≤ c.toNat ∧ c.toNat ≤ 90
  · rw [if_pos (by simpa [UInt8.le_iff_toNat_le] using h), if_pos h]; simp; omega
  · rw [if_neg (by simpa [UInt8.le_iff_toNat_le] using h), if_neg h]
theorem getD_lt {l : By} {j : Nat} (h : j < l.length) : l.getD j 0 = l[j] := by simp [List.getD, h]
theorem fold_get {l : By} {j : Nat} (h : j < (fold l).length) : (fold l)[j] = small (l.getD j 0) := by
  rw [getD_lt (by simpa [fold] using h)]; simp [fold]
theorem take_succ_body {ls : List By} {i : Nat} (h : i < ls.length) : (body (ls.take (i + 1))).length = (body (ls.take i)).length + 1 + (ls[i]).length := by
  rw [List.take_succ_eq_append_getElem h, body_snoc_length]
theorem glue_split {ls : List By} {i : Nat} (h : i < ls.length) : glue ls = body (ls.take i) ++ (lab ls[i] ++ glue (ls.drop (i + 1))) := by
  have e : ls = ls.take i ++ (ls[i] :: ls.drop (i + 1)) := by rw [← List.drop_eq_getElem_cons h]; simp
  conv => lhs; rw [e]
  unfold glue
  rw [body_append, body_cons]; simp
theorem label_cut {ls : List By} {i : Nat} (h : i < ls.length) :
    ((glue ls).drop ((body (ls.take i)).length + 1)).take ((body (ls.take (i + 1))).length - ((body (ls.take i)).length + 1)) = ls[i] := by
  rw [take_succ_body h, glue_split h, ← List.drop_drop, List.drop_left]
  simp [lab]
theorem body_take_le {ls : List By} {i : Nat} : (body (ls.take i)).length ≤ (body ls).length := by
  conv => rhs; rw [← List.take_append_drop i ls, body_append]
  simp
theorem drop_cons {l : By} {k : Nat} (h : k < l.length) : l.drop k = l[k] :: l.drop (k + 1) := List.drop_eq_getElem_cons h


/-- what is so far, when a label is read: f is how far. -/
theorem sp_step {l pre : By} {c : UInt8} {t : By} {ps : List By} (hl : l = pre ++ c :: t) (hs : sp l = (sp (c :: t)).map (ps ++ ·)) (h0 : c.toNat ≠ 0) (h2 : c.toNat ≤ 63) (h3 : c.toNat ≤ t.length) :
    l = (pre ++ c :: t.take c.toNat) ++ t.drop c.toNat ∧ sp l = (sp (t.drop c.toNat)).map (ps ++ [t.take c.toNat] ++ ·) := by
  refine ⟨by rw [hl]; simp, ?_⟩
  rw [hs, sp_cons h0 h2 h3]
  rcases sp (t.drop c.toNat) with _ | x <;> simp
theorem lab_take {t : By} {c : UInt8} (h3 : c.toNat ≤ t.length) : lab (t.take c.toNat) = c :: t.take c.toNat := by
  unfold lab; rw [List.length_take, Nat.min_eq_left h3]; simp
theorem split_of_sp {l : By} (h : l.length ≤ 255) : split l = sp l := by unfold split; rw [if_neg (by omega)]; rfl
theorem split_long {l : By} (h : 255 < l.length) : split l = none := by unfold split; rw [if_pos h]

end Go.Proofs.Ytnhoaceickojeaa.Nm
