/- Texts of the proofs, merged. -/

namespace Go.Proofs.YtgcaephfhfkjcaaGreatDoor.Nm

abbrev By := List UInt8

def small (c : UInt8) : UInt8 := if 65 ≤ c ∧ c ≤ 90 then c + 32 else c
def fold (l : By) : By := l.map small

/-- the labels of what stands here, up to its byte 0; f bounds how many. -/
def splitF : Nat → By → Option (List By)
  | 0, _ => none
  | _ + 1, [] => none
  | f + 1, k :: t =>
    if k.toNat = 0 then (if t.length = 0 then some [] else none)
    else if 63 < k.toNat ∨ t.length < k.toNat then none
    else (splitF f (t.drop k.toNat)).map (t.take k.toNat :: ·)
def split (l : By) : Option (List By) := if 255 < l.length then none else splitF (l.length + 1) l

theorem splitF_more : ∀ (f : Nat) (l : By), l.length < f → splitF (f + 1) l = splitF f l := by
  intro f
  induction f with
  | zero => intro l h; omega
  | succ f ih =>
    intro l h
    cases l with
    | nil => rfl
    | cons k t =>
      rw [splitF, splitF]
      have hd : (t.drop k.toNat).length < f := by simp at h ⊢; omega
      rw [ih _ hd]
theorem splitF_eq : ∀ (d f : Nat) (l : By), l.length < f → splitF (f + d) l = splitF f l := by
  intro d
  induction d with
  | zero => intro f l _; rfl
  | succ d ih => intro f l h; rw [← Nat.add_assoc, splitF_more _ _ (by omega)]; exact ih f l h
theorem splitF_len (f : Nat) (l : By) (h : l.length < f) : splitF f l = splitF (l.length + 1) l := by
  have := splitF_eq (f - (l.length + 1)) (l.length + 1) l (by omega)
  rw [show l.length + 1 + (f - (l.length + 1)) = f from by omega] at this
  exact this

/-- what stands at one's place: the same with no bound to carry. -/
def sp (l : By) : Option (List By) := splitF (l.length + 1) l
theorem sp_nil : sp [] = none := rfl
theorem sp_zero {k : UInt8} {t : By} (h : k.toNat = 0) : sp (k :: t) = if t.length = 0 then some [] else none := by simp [sp, splitF, h]
theorem sp_bad {k : UInt8} {t : By} (h : k.toNat ≠ 0) (h2 : 63 < k.toNat ∨ t.length < k.toNat) : sp (k :: t) = none := by simp [sp, splitF, h, h2]
theorem sp_cons {k : UInt8} {t : By} (h : k.toNat ≠ 0) (h2 : k.toNat ≤ 63) (h3 : k.toNat ≤ t.length) :
    sp (k :: t) = (sp (t.drop k.toNat)).map (t.take k.toNat :: ·) := by
  have e : splitF (t.length + 1) (t.drop k.toNat) = sp (t.drop k.toNat) := splitF_len _ _ (by simp; omega)
  unfold sp at e ⊢
  rw [List.length_cons, splitF, if_neg h, if_neg (by omega), e]

def lab (l : By) : By := UInt8.ofNat l.length :: l
def body (ls : List By) : By := ls.flatMap lab
def glue (ls : List By) : By := body ls ++ [0]
def Good (ls : List By) : Prop := ∀ l ∈ ls, 1 ≤ l.length ∧ l.length ≤ 63

theorem body_nil : body [] = [] := rfl
theorem body_cons (l : By) (ls : List By) : body (l :: ls) = lab l ++ body ls := rfl
theorem body_append (a b : List By) : body (a ++ b) = body a ++ body b := by simp [body]
theorem lab_length (l : By) : (lab l).length = l.length + 1 := by simp [lab]
theorem glue_length (ls : List By) : (glue ls).length = (body ls).length + 1 := by simp [glue]
theorem body_snoc_length (a : List By) (l : By) : (body (a ++ [l])).length = (body a).length + 1 + l.length := by
  rw [body_append]; simp [body, lab]; omega

theorem sp_glue : ∀ (ls : List By), Good ls → sp (glue ls) = some ls := by
  intro ls
  induction ls with
  | nil => intro _; rfl
  | cons l ls ih =>
    intro h
    have hl := h l (by simp)
    have hb : (UInt8.ofNat l.length).toNat = l.length := by simp; omega
    have e : glue (l :: ls) = UInt8.ofNat l.length :: (l ++ glue ls) := by simp [glue, body, lab]
    rw [e, sp_cons (by omega) (by omega) (by simp; omega), hb, List.drop_left, List.take_left, ih (fun x hx => h x (by simp [hx]))]
    rfl
theorem sp_some : ∀ (n : Nat) (l : By) (ls : List By), l.length ≤ n → sp l = some ls → l = glue ls ∧ Good ls := by
  intro n
  induction n with
  | zero =>
    intro l ls hn h
    have : l = [] := List.eq_nil_of_length_eq_zero (by omega)
    subst this; simp [sp_nil] at h
  | succ n ih =>
    intro l ls hn h
    cases l with
    | nil => simp [sp_nil] at h
    | cons k t =>
      by_cases h0 : k.toNat = 0
      · rw [sp_zero h0] at h
        split at h
        · rename_i ht
          have : t = [] := List.eq_nil_of_length_eq_zero ht
          subst this
          injection h with h
          subst h
          have hk : k = 0 := UInt8.toNat_inj.1 (by simpa using h0)
          subst hk
          exact ⟨rfl, by intro x hx; simp at hx⟩
        · simp at h
      · by_cases hb : 63 < k.toNat ∨ t.length < k.toNat
        · rw [sp_bad h0 hb] at h; simp at h
        · rw [sp_cons h0 (by omega) (by omega)] at h
          rcases hs : sp (t.drop k.toNat) with _ | ls'
          · simp [hs] at h
          · simp [hs] at h
            subst h
            obtain ⟨e, g⟩ := ih (t.drop k.toNat) ls' (by simp at hn ⊢; omega) hs
            refine ⟨?_, ?_⟩
            · have hlen : (t.take k.toNat).length = k.toNat := by simp; omega
              have : glue (t.take k.toNat :: ls') = k :: (t.take k.toNat ++ glue ls') := by simp [glue, body, lab, Nat.min_eq_left (show k.toNat ≤ t.length by omega)]
              rw [this, ← e, List.take_append_drop]
            · intro x hx
              rcases List.mem_cons.1 hx with rfl | hx
              · simp; omega
              · exact g x hx
theorem split_some {l : By} {ls : List By} : split l = some ls ↔ l = glue ls ∧ Good ls ∧ l.length ≤ 255 := by
  unfold split
  constructor
  · intro h
    split at h
    · simp at h
    · obtain ⟨a, b⟩ := sp_some l.length l ls (Nat.le_refl _) h
      exact ⟨a, b, by omega⟩
  · rintro ⟨rfl, g, h⟩
    rw [if_neg (by omega)]
    exact sp_glue ls g
theorem split_glue {ls : List By} (g : Good ls) (h : (glue ls).length ≤ 255) : split (glue ls) = some ls := split_some.2 ⟨rfl, g, h⟩
theorem good_count {ls : List By} (g : Good ls) : 2 * ls.length ≤ (body ls).length := by
  induction ls with
  | nil => simp
  | cons l ls ih =>
    have := ih (fun x hx => g x (by simp [hx]))
    have hl := g l (by simp)
    rw [body_cons, List.length_append, lab_length, List.length_cons]; omega

/-- where each label begins. -/
def starts (ls : List By) : List Nat := (List.range ls.length).map fun i => (body (ls.take i)).length
theorem starts_length (ls : List By) : (starts ls).length = ls.length := by simp [starts]
theorem starts_snoc (ls : List By) (l : By) : starts (ls ++ [l]) = starts ls ++ [(body ls).length] := by
  unfold starts
  rw [List.length_append, List.length_singleton, List.range_succ, List.map_append]
  congr 1
  · apply List.map_congr_left
    intro i hi
    rw [List.take_append_of_le_length (by have := List.mem_range.1 hi; omega)]
  · simp
/-- and behind them where the byte 0 stands. -/
def offs (ls : List By) : List Nat := starts ls ++ [(body ls).length]
theorem offs_length (ls : List By) : (offs ls).length = ls.length + 1 := by simp [offs, starts_length]
theorem offs_get (ls : List By) (i : Nat) (h : i ≤ ls.length) : (offs ls)[i]? = some (body (ls.take i)).length := by
  unfold offs
  by_cases hi : i < ls.length
  · rw [List.getElem?_append_left (by simpa [starts_length] using hi)]; simp [starts, hi]
  · have : i = ls.length := by omega
    subst this
    rw [List.getElem?_append_right (by simp [starts_length])]; simp [starts_length]

theorem small_val (c : UInt8) : (small c).toNat = if 65 ≤ c.toNat ∧ c.toNat ≤ 90 then c.toNat + 32 else c.toNat := by
  have := c.toNat_lt
  unfold small
  by_cases h : 65 ≤ c.toNat ∧ c.toNat ≤ 90
  · rw [if_pos (by simpa [UInt8.le_iff_toNat_le] using h), if_pos h]; simp; omega
  · rw [if_neg (by simpa [UInt8.le_iff_toNat_le] using h), if_neg h]
theorem getD_lt {l : By} {j : Nat} (h : j < l.length) : l.getD j 0 = l[j] := by simp [List.getD, h]
theorem fold_get {l : By} {j : Nat} (h : j < (fold l).length) : (fold l)[j] = small (l.getD j 0) := by
  rw [getD_lt (by simpa [fold] using h)]; simp [fold]
theorem take_succ_body {ls : List By} {i : Nat} (h : i < ls.length) : (body (ls.take (i + 1))).length = (body (ls.take i)).length + 1 + (ls[i]).length := by
  rw [List.take_succ_eq_append_getElem h, body_snoc_length]
theorem glue_split {ls : List By} {i : Nat} (h : i < ls.length) : glue ls = body (ls.take i) ++ (lab ls[i] ++ glue (ls.drop (i + 1))) := by
  have e : ls = ls.take i ++ (ls[i] :: ls.drop (i + 1)) := by rw [← List.drop_eq_getElem_cons h]; simp
  conv => lhs; rw [e]
  unfold glue
  rw [body_append, body_cons]; simp
theorem label_cut {ls : List By} {i : Nat} (h : i < ls.length) :
    ((glue ls).drop ((body (ls.take i)).length + 1)).take ((body (ls.take (i + 1))).length - ((body (ls.take i)).length + 1)) = ls[i] := by
  rw [take_succ_body h, glue_split h, ← List.drop_drop, List.drop_left]
  simp [lab]
theorem body_take_le {ls : List By} {i : Nat} : (body (ls.take i)).length ≤ (body ls).length := by
  conv => rhs; rw [← List.take_append_drop i ls, body_append]
  simp
theorem drop_cons {l : By} {k : Nat} (h : k < l.length) : l.drop k = l[k] :: l.drop (k + 1) := List.drop_eq_getElem_cons h


/-- what is so far, when a label is read: f is how far. -/
theorem sp_step {l pre : By} {c : UInt8} {t : By} {ps : List By} (hl : l = pre ++ c :: t) (hs : sp l = (sp (c :: t)).map (ps ++ ·)) (h0 : c.toNat ≠ 0) (h2 : c.toNat ≤ 63) (h3 : c.toNat ≤ t.length) :
    l = (pre ++ c :: t.take c.toNat) ++ t.drop c.toNat ∧ sp l = (sp (t.drop c.toNat)).map (ps ++ [t.take c.toNat] ++ ·) := by
  refine ⟨by rw [hl]; simp, ?_⟩
  rw [hs, sp_cons h0 h2 h3]
  rcases sp (t.drop c.toNat) with _ | x <;> simp
theorem lab_take {t : By} {c : UInt8} (h3 : c.toNat ≤ t.length) : lab (t.take c.toNat) = c :: t.take c.toNat := by
  unfold lab; rw [List.length_take, Nat.min_eq_left h3]; simp
theorem split_of_sp {l : By} (h : l.length ≤ 255) : split l = sp l := by unfold split; rw [if_neg (by omega)]; rfl
theorem split_long {l : By} (h : 255 < l.length) : split l = none := by unfold split; rw [if_pos h]

end Go.Proofs.YtgcaephfhfkjcaaGreatDoor.Nm
namespace Go.Proofs.YtgcaephfhfkjcaaGreatDoor.Nm

def dg (c : UInt8) : Prop := 48 ≤ c.toNat ∧ c.toNat ≤ 57
instance (c : UInt8) : Decidable (dg c) := inferInstanceAs (Decidable (_ ∧ _))
def val3 (a b c : UInt8) : Nat := 100 * (a.toNat - 48) + 10 * (b.toNat - 48) + (c.toNat - 48)
/-- what is told behind a backslash, and by how many bytes. -/
def escd : By → Option (UInt8 × Nat)
  | [] => none
  | c :: t => if ¬ dg c then some (c, 1) else
    match t with
    | d :: e :: _ => if dg d ∧ dg e ∧ val3 c d e ≤ 255 then some (UInt8.ofNat (val3 c d e), 3) else none
    | _ => none
theorem escd_plain {c : UInt8} {t : By} (h : ¬ dg c) : escd (c :: t) = some (c, 1) := by show (if ¬ dg c then _ else _) = _; rw [if_pos h]
theorem escd_few {c : UInt8} {t : By} (h : dg c) (ht : t.length < 2) : escd (c :: t) = none := by
  show (if ¬ dg c then _ else _) = _
  rw [if_neg (fun x => x h)]
  match t, ht with
  | [], _ => rfl
  | [d], _ => rfl
  | d :: e :: r, ht => simp at ht; omega
theorem escd_three {c d e : UInt8} {r : By} (h : dg c) : escd (c :: d :: e :: r) = if dg d ∧ dg e ∧ val3 c d e ≤ 255 then some (UInt8.ofNat (val3 c d e), 3) else none := by
  show (if ¬ dg c then _ else _) = _
  rw [if_neg (fun x => x h)]
theorem escd_pos {l : By} {b : UInt8} {k : Nat} (h : escd l = some (b, k)) : 1 ≤ k ∧ k ≤ l.length := by
  unfold escd at h
  split at h
  · simp at h
  · split at h
    · injection h with h; injection h with _ h; subst h; simp
    · split at h
      · split at h
        · injection h with h; injection h with _ h; subst h; simp
        · simp at h
      · simp at h

/-- a text's bytes. -/
def unescF : Nat → By → Option By
  | 0, _ => none
  | _ + 1, [] => some []
  | f + 1, c :: t =>
    if c.toNat = 92 then
      match escd t with
      | none => none
      | some (b, k) => (unescF f (t.drop k)).map (b :: ·)
    else (unescF f t).map (c :: ·)
theorem unescF_more : ∀ (f : Nat) (l : By), l.length < f → unescF (f + 1) l = unescF f l := by
  intro f
  induction f with
  | zero => intro l h; omega
  | succ f ih =>
    intro l h
    cases l with
    | nil => rfl
    | cons c t =>
      rw [unescF, unescF]
      have ht : t.length < f := by simpa using h
      rcases he : escd t with _ | ⟨b, k⟩
      · simp only [ih t ht]
      · simp only [ih t ht, ih (t.drop k) (by simp; omega)]
theorem unescF_eq (d f : Nat) (l : By) (h : l.length < f) : unescF (f + d) l = unescF f l := by
  induction d with
  | zero => rfl
  | succ d ih => rw [← Nat.add_assoc, unescF_more _ _ (by omega)]; exact ih
def unesc (l : By) : Option By := unescF (l.length + 1) l
theorem unescF_len (f : Nat) (l : By) (h : l.length < f) : unescF f l = unesc l := by
  have := unescF_eq (f - (l.length + 1)) (l.length + 1) l (by omega)
  rw [show l.length + 1 + (f - (l.length + 1)) = f from by omega] at this
  exact this
theorem unesc_nil : unesc [] = some [] := rfl
theorem unesc_plain {c : UInt8} {t : By} (h : c.toNat ≠ 92) : unesc (c :: t) = (unesc t).map (c :: ·) := by
  rw [unesc, unescF, if_neg h, unescF_len _ t (by simp)]
theorem unesc_no {c : UInt8} {t : By} (h : c.toNat = 92) (he : escd t = none) : unesc (c :: t) = none := by
  rw [unesc, unescF, if_pos h, he]
theorem unesc_yes {c b : UInt8} {k : Nat} {t : By} (h : c.toNat = 92) (he : escd t = some (b, k)) : unesc (c :: t) = (unesc (t.drop k)).map (b :: ·) := by
  rw [unesc, unescF, if_pos h, he]
  simp only []
  rw [unescF_len _ _ (by simp; omega)]
theorem unesc_len : ∀ (n : Nat) (l r : By), l.length ≤ n → unesc l = some r → r.length ≤ l.length := by
  intro n
  induction n with
  | zero =>
    intro l r h he
    have : l = [] := List.eq_nil_of_length_eq_zero (by omega)
    subst this; rw [unesc_nil] at he; injection he with he; subst he; simp
  | succ n ih =>
    intro l r h he
    cases l with
    | nil => rw [unesc_nil] at he; injection he with he; subst he; simp
    | cons c t =>
      by_cases h92 : c.toNat = 92
      · rcases hd : escd t with _ | ⟨b, k⟩
        · rw [unesc_no h92 hd] at he; simp at he
        · rw [unesc_yes h92 hd] at he
          rcases hr : unesc (t.drop k) with _ | r'
          · rw [hr] at he; simp at he
          · rw [hr] at he; simp at he; subst he
            have := ih _ _ (by simp at h ⊢; omega) hr
            have := (escd_pos hd).1
            simp at *; omega
      · rw [unesc_plain h92] at he
        rcases hr : unesc t with _ | r'
        · rw [hr] at he; simp at he
        · rw [hr] at he; simp at he; subst he
          have := ih _ _ (by simpa using h) hr
          simp; omega

/-- up to the first dot that is not behind a backslash; what is left; whether there is one. -/
def cutP : By → By × By × Bool
  | [] => ([], [], false)
  | [c] => if c.toNat = 46 then ([], [], true) else ([c], [], false)
  | c :: d :: t =>
    if c.toNat = 46 then ([], d :: t, true)
    else if c.toNat = 92 then let r := cutP t; (c :: d :: r.1, r.2)
    else let r := cutP (d :: t); (c :: r.1, r.2)
theorem cutP_dot {c : UInt8} {t : By} (h : c.toNat = 46) : cutP (c :: t) = ([], t, true) := by
  cases t <;> simp [cutP, h]
theorem cutP_back {c d : UInt8} {t : By} (h : c.toNat = 92) : cutP (c :: d :: t) = (c :: d :: (cutP t).1, (cutP t).2) := by
  simp [cutP, h]
theorem cutP_last {c : UInt8} (h : c.toNat ≠ 46) : cutP [c] = ([c], [], false) := by simp [cutP, h]
theorem cutP_plain {c : UInt8} {t : By} (h : c.toNat ≠ 46) (h2 : c.toNat ≠ 92) : cutP (c :: t) = (c :: (cutP t).1, (cutP t).2) := by
  cases t <;> simp [cutP, h, h2]
theorem cutP_less : ∀ (n : Nat) (l : By), l.length ≤ n → (cutP l).2.2 = true → (cutP l).2.1.length < l.length := by
  intro n
  induction n with
  | zero => intro l h; have : l = [] := List.eq_nil_of_length_eq_zero (by omega); subst this; simp [cutP]
  | succ n ih =>
    intro l h hd
    match l with
    | [] => simp [cutP] at hd
    | [c] =>
      by_cases h46 : c.toNat = 46
      · rw [cutP_dot h46]; simp
      · rw [cutP_last h46] at hd; simp at hd
    | c :: d :: t =>
      by_cases h46 : c.toNat = 46
      · rw [cutP_dot h46]; simp
      · by_cases h92 : c.toNat = 92
        · rw [cutP_back h92] at hd ⊢
          have := ih t (by simp at h; omega) hd
          simp at *; omega
        · rw [cutP_plain h46 h92] at hd ⊢
          have := ih (d :: t) (by simpa using h) hd
          simp at *; omega

/-- the pieces of a text, and whether it is whole. -/
def piecesF : Nat → By → List By × Bool
  | 0, _ => ([], false)
  | f + 1, l =>
    if (cutP l).2.2 then
      if (cutP l).2.1.length = 0 then ([(cutP l).1], true) else ((cutP l).1 :: (piecesF f (cutP l).2.1).1, (piecesF f (cutP l).2.1).2)
    else ([(cutP l).1], false)
theorem piecesF_succ (f : Nat) (l : By) : piecesF (f + 1) l = if (cutP l).2.2 then
      if (cutP l).2.1.length = 0 then ([(cutP l).1], true) else ((cutP l).1 :: (piecesF f (cutP l).2.1).1, (piecesF f (cutP l).2.1).2)
    else ([(cutP l).1], false) := rfl
theorem piecesF_more : ∀ (f : Nat) (l : By), l.length < f → piecesF (f + 1) l = piecesF f l := by
  intro f
  induction f with
  | zero => intro l h; omega
  | succ f ih =>
    intro l h
    rw [piecesF_succ (f + 1) l, piecesF_succ f l]
    by_cases hd : (cutP l).2.2 = true
    · have := cutP_less _ l (Nat.le_refl _) hd
      rw [ih _ (by omega)]
    · rw [if_neg hd, if_neg hd]
def pieces (l : By) : List By × Bool := piecesF (l.length + 1) l
theorem piecesF_len (f : Nat) (l : By) (h : l.length < f) : piecesF f l = pieces l := by
  obtain ⟨d, rfl⟩ : ∃ d, f = l.length + 1 + d := ⟨f - (l.length + 1), by omega⟩
  induction d with
  | zero => rfl
  | succ d ih => rw [← Nat.add_assoc, piecesF_more _ _ (by omega)]; exact ih (by omega)
theorem pieces_end {l : By} (h : (cutP l).2.2 = false) : pieces l = ([(cutP l).1], false) := by
  rw [pieces, piecesF_succ, if_neg (by rw [h]; simp)]
theorem pieces_whole {l : By} (h : (cutP l).2.2 = true) (h2 : (cutP l).2.1.length = 0) : pieces l = ([(cutP l).1], true) := by
  rw [pieces, piecesF_succ, if_pos h, if_pos h2]
theorem pieces_more {l : By} (h : (cutP l).2.2 = true) (h2 : (cutP l).2.1.length ≠ 0) : pieces l = ((cutP l).1 :: (pieces (cutP l).2.1).1, (pieces (cutP l).2.1).2) := by
  rw [pieces, piecesF_succ, if_pos h, if_neg h2, piecesF_len _ _ (cutP_less _ l (Nat.le_refl _) h)]

/-- the labels of pieces, or the first error: 12 or 10. -/
def labelsP : List By → Except Nat (List By)
  | [] => .ok []
  | p :: ps =>
    match unesc p with
    | none => .error 12
    | some b => if 1 ≤ b.length ∧ b.length ≤ 63 then
        match labelsP ps with
        | .error e => .error e
        | .ok ls => .ok (b :: ls)
      else .error 10

def glueR (ls : List By) : By × Nat := if 255 < (body ls).length + 1 then ([], 2) else (glue ls, 0)
/-- the name that a text tells, and an error's number. -/
def parse (l origin : By) : By × Nat :=
  match split origin with
  | none => ([], 11)
  | some os =>
    if l = [46] then ([0], 0) else
    match labelsP (pieces l).1 with
    | .error e => ([], e)
    | .ok ls => glueR (if (pieces l).2 then ls else ls ++ os)

/-- a byte in a text. -/
def mark (q : Bool) (c : UInt8) : Bool := c.toNat = 34 || c.toNat = 92 || (!q && (c.toNat = 46 || c.toNat = 59 || c.toNat = 40 || c.toNat = 41 || c.toNat = 64 || c.toNat = 36))
def clear (q : Bool) (c : UInt8) : Bool := (32 < c.toNat && c.toNat < 127) || (c.toNat = 32 && q)
def dig3 (c : UInt8) : By := [UInt8.ofNat (48 + c.toNat / 100), UInt8.ofNat (48 + c.toNat / 10 % 10), UInt8.ofNat (48 + c.toNat % 10)]
def esc1 (q : Bool) (c : UInt8) : By := if mark q c then [92, c] else if clear q c then [c] else 92 :: dig3 c
def esc (q : Bool) (l : By) : By := l.flatMap (esc1 q)
theorem esc_snoc (q : Bool) (l : By) (c : UInt8) : esc q (l ++ [c]) = esc q l ++ esc1 q c := by simp [esc]
theorem esc1_len (q : Bool) (c : UInt8) : 1 ≤ (esc1 q c).length ∧ (esc1 q c).length ≤ 4 := by
  unfold esc1; split
  · simp
  · split <;> simp [dig3]
theorem esc_len (q : Bool) (l : By) : (esc q l).length ≤ 4 * l.length := by
  induction l with
  | nil => simp [esc]
  | cons c l ih =>
    have := (esc1_len q c).2
    have e : esc q (c :: l) = esc1 q c ++ esc q l := rfl
    rw [e]; simp; omega
/-- a name's text. -/
def textL (ls : List By) : By := ls.flatMap fun l => esc false l ++ [46]
def text (n : By) : By := match split n with
  | none => []
  | some [] => [46]
  | some ls => textL ls
end Go.Proofs.YtgcaephfhfkjcaaGreatDoor.Nm
namespace Go.Proofs.YtgcaephfhfkjcaaGreatDoor.Rd

abbrev By := List UInt8

/-- short texts, one behind the other; f bounds how many. -/
def txF : Nat → By → Option (List By)
  | 0, _ => none
  | _ + 1, [] => some []
  | f + 1, k :: t => if t.length < k.toNat then none else (txF f (t.drop k.toNat)).map (t.take k.toNat :: ·)
def tx (l : By) : Option (List By) := txF (l.length + 1) l
theorem txF_more : ∀ (f : Nat) (l : By), l.length < f → txF (f + 1) l = txF f l := by
  intro f
  induction f with
  | zero => intro l h; omega
  | succ f ih =>
    intro l h
    cases l with
    | nil => rfl
    | cons k t =>
      rw [txF, txF]
      have hd : (t.drop k.toNat).length < f := by simp at h ⊢; omega
      rw [ih _ hd]
theorem txF_eq : ∀ (d f : Nat) (l : By), l.length < f → txF (f + d) l = txF f l := by
  intro d
  induction d with
  | zero => intro f l _; rfl
  | succ d ih => intro f l h; rw [← Nat.add_assoc, txF_more _ _ (by omega)]; exact ih f l h
theorem tx_nil : tx [] = some [] := rfl
theorem tx_bad {k : UInt8} {t : By} (h : t.length < k.toNat) : tx (k :: t) = none := by unfold tx; rw [List.length_cons, txF, if_pos h]
theorem tx_cons {k : UInt8} {t : By} (h : ¬ t.length < k.toNat) : tx (k :: t) = (tx (t.drop k.toNat)).map (t.take k.toNat :: ·) := by
  have e : txF (t.length + 1) (t.drop k.toNat) = tx (t.drop k.toNat) := by
    have := txF_eq (k.toNat) ((t.drop k.toNat).length + 1) (t.drop k.toNat) (by omega)
    rw [show (t.drop k.toNat).length + 1 + k.toNat = t.length + 1 from by rw [List.length_drop]; omega] at this
    exact this
  unfold tx at e ⊢
  rw [List.length_cons, txF, if_neg h, e]
/-- a text is never of more pieces than it has bytes. -/
theorem tx_len {l : By} {ls : List By} : tx l = some ls → ls.length ≤ l.length := by
  suffices H : ∀ n (l : By) (ls : List By), l.length ≤ n → tx l = some ls → ls.length ≤ l.length from H l.length l ls (Nat.le_refl _)
  intro n
  induction n with
  | zero =>
    intro l ls hl h
    obtain rfl : l = [] := List.eq_nil_of_length_eq_zero (by omega)
    rw [tx_nil] at h; cases h; simp
  | succ n ih =>
    intro l ls hl h
    cases l with
    | nil => rw [tx_nil] at h; cases h; simp
    | cons k t =>
      by_cases hk : t.length < k.toNat
      · rw [tx_bad hk] at h; cases h
      · rw [tx_cons hk] at h
        obtain ⟨r, hr, rfl⟩ := Option.map_eq_some_iff.1 h
        have := ih _ _ (by simp at hl ⊢; omega) hr
        simp at this ⊢
        omega

/-- data. -/
structure Dt where
  raw : By
  host : By
  mail : By
  n0 : Nat
  n1 : Nat
  n2 : Nat
  n3 : Nat
  n4 : Nat
def isHost (t : Nat) : Bool := t == 2 || t == 5 || t == 12 || t == 6 || t == 15 || t == 33
def isMail (t : Nat) : Bool := t == 6
def cnt (t : Nat) : Nat := if t = 6 then 5 else if t = 15 then 1 else if t = 33 then 3 else 0
def bits (t : Nat) : Nat := if t = 6 then 32 else if t = 15 then 16 else if t = 33 then 16 else 0
def rawOk (t : Nat) (s : By) : Bool :=
  if isHost t then s == [] else if t = 1 then s.length == 4 else if t = 28 then s.length == 16
  else if t = 16 then (match tx s with | some (_ :: _) => decide (s.length ≤ 65535) | _ => false) else decide (s.length ≤ 65535)
def nm (s : By) : Bool := (Nm.split s).isSome
def numOk (t i x : Nat) : Bool := if i < cnt t then !(bits t == 16 && decide (65535 < x)) else x == 0
def ok (t : Nat) (d : Dt) : Bool :=
  rawOk t d.raw && (isHost t == nm d.host) && (isHost t || d.host == []) && (isMail t == nm d.mail) && (isMail t || d.mail == []) &&
  numOk t 0 d.n0 && numOk t 1 d.n1 && numOk t 2 d.n2 && numOk t 3 d.n3 && numOk t 4 d.n4

/-- a number to the base 10, and to the base 16. -/
def dec (n : Nat) : By := if n < 10 then [UInt8.ofNat (48 + n)] else dec (n / 10) ++ [UInt8.ofNat (48 + n % 10)]
def hx (n : Nat) : UInt8 := if n < 10 then UInt8.ofNat (48 + n) else UInt8.ofNat (87 + n)
def hex (n : Nat) : By := if n < 16 then [hx n] else hex (n / 16) ++ [hx (n % 16)]
theorem dec_small {n : Nat} (h : n < 10) : dec n = [UInt8.ofNat (48 + n)] := by rw [dec, if_pos h]
theorem dec_more {n : Nat} (h : ¬ n < 10) : dec n = dec (n / 10) ++ [UInt8.ofNat (48 + n % 10)] := by rw [dec, if_neg h]
theorem hex_small {n : Nat} (h : n < 16) : hex n = [hx n] := by rw [hex, if_pos h]
theorem hex_more {n : Nat} (h : ¬ n < 16) : hex n = hex (n / 16) ++ [hx (n % 16)] := by rw [hex, if_neg h]
theorem dec_len (n : Nat) : (dec n).length ≤ n + 1 := by
  induction n using Nat.strongRecOn with
  | ind n ih =>
    by_cases h : n < 10
    · rw [dec_small h]; simp
    · rw [dec_more h]
      have := ih (n / 10) (by omega)
      simp
      omega
theorem hex_len (n : Nat) : (hex n).length ≤ n + 1 := by
  induction n using Nat.strongRecOn with
  | ind n ih =>
    by_cases h : n < 16
    · rw [hex_small h]; simp
    · rw [hex_more h]
      have := ih (n / 16) (by omega)
      simp
      omega
/-- the types that have a text. -/
def tyTab : List (Nat × By) := [(1, [65]), (2, [78, 83]), (5, [67, 78, 65, 77, 69]), (6, [83, 79, 65]), (12, [80, 84, 82]), (15, [77, 88]), (16, [84, 88, 84]), (28, [65, 65, 65, 65]), (33, [83, 82, 86])]
def tyText (t : Nat) : By := match tyTab.find? (fun x => x.1 == t) with
  | some x => x.2
  | none => [84, 89, 80, 69] ++ dec t
/-- a number that a text tells, of at most so much. -/
def num (s : By) (most : Nat) : Option Nat :=
  if s.length = 0 ∨ (1 < s.length ∧ s.head? = some 48) ∨ 12 < s.length then none
  else if s.all (fun c => decide (48 ≤ c.toNat) && decide (c.toNat ≤ 57)) then
    (let v := s.foldl (fun v c => 10 * v + (c.toNat - 48)) 0
     if most < v then none else some v)
  else none
def tyOf (s : By) : Option Nat := match tyTab.find? (fun x => Nm.fold x.2 == Nm.fold s) with
  | some x => some x.1
  | none => if (Nm.fold s).take 4 = [116, 121, 112, 101] then num (s.drop 4) 65535 else none
end Go.Proofs.YtgcaephfhfkjcaaGreatDoor.Rd
