/- Texts of the proofs, merged. -/
import Derived.Lib.Hide
import Derived.Test.YtekafhogiambaaaGreatDoorZt1
namespace Go.Proofs.YtekafhogiambaaaGreatDoor.Pr

abbrev By := List UInt8
inductive TR where
  | err (e : Int)
  | ok (ls : List By) (behind : Nat)

theorem meas {p row L a : Nat} (h : p < row) : p * (L + 2) + (L + 1 - p) < row * (L + 2) + (L + 1 - a) := by
  have h1 : (p + 1) * (L + 2) ≤ row * (L + 2) := Nat.mul_le_mul_right _ h
  rw [Nat.add_mul] at h1
  omega

/-- the name at a place in a row that begins at 'row': its labels from there on, and the place behind the row's end. -/
def tk (b : By) (row at_ size : Nat) : TR :=
  if h : at_ < b.length then
    if (b[at_]'h).toNat = 0 then .ok [] (at_ + 1)
    else if 192 ≤ (b[at_]'h).toNat then
      if h2 : at_ + 1 < b.length then
        if _hp : ((b[at_]'h).toNat - 192) * 256 + (b[at_ + 1]'h2).toNat < row then
          match tk b (((b[at_]'h).toNat - 192) * 256 + (b[at_ + 1]'h2).toNat) (((b[at_]'h).toNat - 192) * 256 + (b[at_ + 1]'h2).toNat) size with
          | .err e => .err e
          | .ok ls _ => .ok ls (at_ + 2)
        else .err 30
      else .err 6
    else if 64 ≤ (b[at_]'h).toNat then .err 31
    else if b.length < at_ + 1 + (b[at_]'h).toNat then .err 6
    else if 255 < size + 1 + (b[at_]'h).toNat then .err 2
    else match tk b row (at_ + 1 + (b[at_]'h).toNat) (size + 1 + (b[at_]'h).toNat) with
      | .err e => .err e
      | .ok ls bh => .ok ((b.drop (at_ + 1)).take (b[at_]'h).toNat :: ls) bh
  else .err 6
termination_by row * (b.length + 2) + (b.length + 1 - at_)
decreasing_by
  · exact meas (by assumption)
  · omega

/-- what is told in the end, some labels and the place being known already. -/
def fin (acc : List By) (o : Option Nat) : TR → TR
  | .err e => .err e
  | .ok ls bh => .ok (acc ++ ls) (o.getD bh)
theorem fin_nil (r : TR) : fin [] none r = r := by cases r <;> rfl

section
variable {b : By} {row at_ size : Nat}
theorem tk_out (h : ¬ at_ < b.length) : tk b row at_ size = .err 6 := by rw [tk, dif_neg h]
theorem tk_end (h : at_ < b.length) (h0 : (b[at_]'h).toNat = 0) : tk b row at_ size = .ok [] (at_ + 1) := by rw [tk, dif_pos h, if_pos h0]
theorem tk_short (h : at_ < b.length) (h1 : 192 ≤ (b[at_]'h).toNat) (h2 : ¬ at_ + 1 < b.length) : tk b row at_ size = .err 6 := by
  rw [tk, dif_pos h, if_neg (by omega), if_pos h1, dif_neg h2]
theorem tk_back (h : at_ < b.length) (h1 : 192 ≤ (b[at_]'h).toNat) (h2 : at_ + 1 < b.length) (hp : ¬ ((b[at_]'h).toNat - 192) * 256 + (b[at_ + 1]'h2).toNat < row) : tk b row at_ size = .err 30 := by
  rw [tk, dif_pos h, if_neg (by omega), if_pos h1, dif_pos h2, dif_neg hp]
theorem tk_kind (h : at_ < b.length) (h1 : 64 ≤ (b[at_]'h).toNat) (h2 : ¬ 192 ≤ (b[at_]'h).toNat) : tk b row at_ size = .err 31 := by
  rw [tk, dif_pos h, if_neg (by omega), if_neg h2, if_pos h1]
theorem tk_few (h : at_ < b.length) (h0 : (b[at_]'h).toNat ≠ 0) (h1 : ¬ 64 ≤ (b[at_]'h).toNat) (h2 : b.length < at_ + 1 + (b[at_]'h).toNat) : tk b row at_ size = .err 6 := by
  rw [tk, dif_pos h, if_neg h0, if_neg (by omega), if_neg h1, if_pos h2]
theorem tk_long (h : at_ < b.length) (h0 : (b[at_]'h).toNat ≠ 0) (h1 : ¬ 64 ≤ (b[at_]'h).toNat) (h2 : ¬ b.length < at_ + 1 + (b[at_]'h).toNat) (h3 : 255 < size + 1 + (b[at_]'h).toNat) : tk b row at_ size = .err 2 := by
  rw [tk, dif_pos h, if_neg h0, if_neg (by omega), if_neg h1, if_neg h2, if_pos h3]
theorem tk_jump (acc : List By) (o : Option Nat) (h : at_ < b.length) (h1 : 192 ≤ (b[at_]'h).toNat) (h2 : at_ + 1 < b.length) (hp : ((b[at_]'h).toNat - 192) * 256 + (b[at_ + 1]'h2).toNat < row) :
    fin acc o (tk b row at_ size) = fin acc (some (o.getD (at_ + 2))) (tk b (((b[at_]'h).toNat - 192) * 256 + (b[at_ + 1]'h2).toNat) (((b[at_]'h).toNat - 192) * 256 + (b[at_ + 1]'h2).toNat) size) := by
  rw [tk, dif_pos h, if_neg (by omega), if_pos h1, dif_pos h2, dif_pos hp]
  cases tk b (((b[at_]'h).toNat - 192) * 256 + (b[at_ + 1]'h2).toNat) (((b[at_]'h).toNat - 192) * 256 + (b[at_ + 1]'h2).toNat) size <;> rfl
theorem tk_label (acc : List By) (o : Option Nat) (h : at_ < b.length) (h0 : (b[at_]'h).toNat ≠ 0) (h1 : ¬ 64 ≤ (b[at_]'h).toNat) (h2 : ¬ b.length < at_ + 1 + (b[at_]'h).toNat) (h3 : ¬ 255 < size + 1 + (b[at_]'h).toNat) :
    fin acc o (tk b row at_ size) = fin (acc ++ [(b.drop (at_ + 1)).take (b[at_]'h).toNat]) o (tk b row (at_ + 1 + (b[at_]'h).toNat) (size + 1 + (b[at_]'h).toNat)) := by
  rw [tk, dif_pos h, if_neg h0, if_neg (by omega), if_neg h1, if_neg h2, if_neg h3]
  cases tk b row (at_ + 1 + (b[at_]'h).toNat) (size + 1 + (b[at_]'h).toNat) <;> simp [fin]
end
/-- all labels' bytes, each with its length ahead. -/
def tot : List By → Nat
  | [] => 0
  | l :: r => l.length + 1 + tot r
theorem fin_ok {acc ls : List By} {o : Option Nat} {bh : Nat} {r : TR} (h : fin acc o r = .ok ls bh) : ∃ ls' bh', r = .ok ls' bh' ∧ ls = acc ++ ls' ∧ bh = o.getD bh' := by
  cases r with
  | err e => cases h
  | ok a c =>
    injection h with h1 h2
    exact ⟨a, c, rfl, h1.symm, h2.symm⟩
/-- what is read is sound: the place behind, the labels, how much they are together. -/
theorem tk_sound (b : By) : ∀ (m row at_ size : Nat) (ls : List By) (bh : Nat), row * (b.length + 2) + (b.length + 1 - at_) ≤ m → size ≤ 255 → tk b row at_ size = .ok ls bh →
    at_ < bh ∧ bh ≤ b.length ∧ (∀ l ∈ ls, 1 ≤ l.length ∧ l.length ≤ 63) ∧ size + tot ls ≤ 255 := by
  intro m
  induction m with
  | zero =>
    intro row at_ size ls bh hm _ h
    by_cases hlt : at_ < b.length
    · omega
    · rw [tk_out hlt] at h; cases h
  | succ m ih =>
    intro row at_ size ls bh hm hs h
    by_cases hlt : at_ < b.length
    · by_cases h0 : (b[at_]'hlt).toNat = 0
      · rw [tk_end hlt h0] at h
        injection h with h1 h2
        subst h1 h2
        exact ⟨by omega, by omega, (fun l hl => by cases hl), by simpa [tot] using hs⟩
      · by_cases h1 : 192 ≤ (b[at_]'hlt).toNat
        · by_cases h2 : at_ + 1 < b.length
          · by_cases hp : ((b[at_]'hlt).toNat - 192) * 256 + (b[at_ + 1]'h2).toNat < row
            · have hj := tk_jump (size := size) [] none hlt h1 h2 hp
              rw [fin_nil] at hj
              rw [hj] at h
              obtain ⟨ls', bh', hr, e1, e2⟩ := fin_ok h
              have hme := meas (L := b.length) (a := at_) hp
              obtain ⟨_, _, hg, ht⟩ := ih _ _ _ _ _ (by omega) hs hr
              simp at e1 e2
              subst e1 e2
              exact ⟨by omega, by omega, hg, ht⟩
            · rw [tk_back hlt h1 h2 hp] at h; cases h
          · rw [tk_short hlt h1 h2] at h; cases h
        · by_cases h3 : 64 ≤ (b[at_]'hlt).toNat
          · rw [tk_kind hlt h3 h1] at h; cases h
          · by_cases h4 : b.length < at_ + 1 + (b[at_]'hlt).toNat
            · rw [tk_few hlt h0 h3 h4] at h; cases h
            · by_cases h5 : 255 < size + 1 + (b[at_]'hlt).toNat
              · rw [tk_long hlt h0 h3 h4 h5] at h; cases h
              · have hj := tk_label (row := row) [] none hlt h0 h3 h4 h5
                rw [fin_nil] at hj
                rw [hj] at h
                obtain ⟨ls', bh', hr, e1, e2⟩ := fin_ok h
                obtain ⟨p1, p2, hg, ht⟩ := ih _ _ _ _ _ (by omega) (by omega) hr
                have hl : ((b.drop (at_ + 1)).take (b[at_]'hlt).toNat).length = (b[at_]'hlt).toNat := by rw [List.length_take, List.length_drop]; omega
                simp at e1 e2
                subst e1 e2
                refine ⟨by omega, p2, fun l hl2 => ?_, ?_⟩
                · rcases List.mem_cons.1 hl2 with rfl | hl3
                  · omega
                  · exact hg l hl3
                · rw [tot, hl]; omega
    · rw [tk_out hlt] at h; cases h
end Go.Proofs.YtekafhogiambaaaGreatDoor.Pr
namespace Go.Proofs.YtekafhogiambaaaGreatDoor.Oc

abbrev By := List UInt8

/-- the bytes of a number, k of them. -/
def beb : Nat → Nat → By
  | 0, _ => []
  | k + 1, v => UInt8.ofNat (v / 256 ^ k) :: beb k v
/-- the number of some bytes. -/
def num (l : By) : Nat := l.foldl (fun a c => a * 256 + c.toNat) 0

theorem num_snoc (l : By) (c : UInt8) : num (l ++ [c]) = num l * 256 + c.toNat := by simp [num]
theorem fold_lin (l : By) : ∀ a : Nat, l.foldl (fun a c => a * 256 + c.toNat) a = a * 256 ^ l.length + num l := by
  induction l with
  | nil => intro a; simp [num]
  | cons c t ih =>
    intro a
    have h0 := ih c.toNat
    have h1 : num (c :: t) = t.foldl (fun a c => a * 256 + c.toNat) c.toNat := by simp [num]
    rw [List.foldl_cons, ih, h1, h0, List.length_cons, Nat.pow_succ]
    rw [Nat.add_mul, Nat.mul_assoc, Nat.mul_comm 256 (256 ^ t.length)]
    omega
theorem num_cons (c : UInt8) (l : By) : num (c :: l) = c.toNat * 256 ^ l.length + num l := by
  have := fold_lin l c.toNat
  simpa [num] using this
theorem num_lt (l : By) : num l < 256 ^ l.length := by
  induction l with
  | nil => simp [num]
  | cons c t ih =>
    rw [num_cons, List.length_cons, Nat.pow_succ]
    have hc := c.toNat_lt
    have h1 : c.toNat * 256 ^ t.length ≤ 255 * 256 ^ t.length := Nat.mul_le_mul_right _ (by omega)
    omega
theorem num_take_succ (l : By) (k : Nat) (h : k < l.length) : num (l.take (k + 1)) = num (l.take k) * 256 + l[k].toNat := by
  rw [List.take_succ_eq_append_getElem h, num_snoc]
theorem num_take_lt (l : By) (k : Nat) : num (l.take k) < 256 ^ k := by
  have := num_lt (l.take k)
  have h2 : (l.take k).length ≤ k := List.length_take_le _ _
  exact Nat.lt_of_lt_of_le this (Nat.pow_le_pow_right (by omega) h2)
end Go.Proofs.YtekafhogiambaaaGreatDoor.Oc
namespace Go.Proofs.YtekafhogiambaaaGreatDoor

/-- what is remembered: a name's bytes, and its place. -/
abbrev Tab := List (List UInt8 × Nat)
def findI : Tab → List UInt8 → Int
  | [], _ => -1
  | (m, p) :: r, n => if m = n then p else findI r n
theorem findI_neg {t : Tab} {n : List UInt8} (h : ¬ 0 ≤ findI t n) : findI t n = -1 := by
  induction t with
  | nil => rfl
  | cons x r ih =>
    obtain ⟨m, p⟩ := x
    unfold findI at h ⊢
    split
    · rename_i he; rw [if_pos he] at h; omega
    · rename_i he; rw [if_neg he] at h; exact ih h
theorem findI_snoc (t : Tab) (k n : List UInt8) (p : Nat) : findI (t ++ [(k, p)]) n = if 0 ≤ findI t n then findI t n else if k = n then (p : Int) else -1 := by
  induction t with
  | nil => simp [findI]
  | cons x r ih =>
    obtain ⟨m, q⟩ := x
    rw [List.cons_append, findI, findI]
    by_cases he : m = n
    · rw [if_pos he, if_pos he, if_pos (by omega)]
    · rw [if_neg he, if_neg he]; exact ih
namespace Pr
/-- what is remembered, when a name is told to stand at a place. -/
def rem (t : Tab) (k : By) (p : Nat) : Tab := if 0 ≤ findI t k then t else if 16383 < p then t else t ++ [(k, p)]
theorem rem_find_ne {t : Tab} {k n : By} {p : Nat} (h : k ≠ n) : findI (rem t k p) n = findI t n := by
  unfold rem
  split
  · rfl
  · split
    · rfl
    · rw [findI_snoc, if_neg h]
      split
      · rfl
      · rename_i h3; rw [findI_neg h3]
/-- what is written of labels at a place, and what is remembered then. -/
def pw (plain : Bool) : Tab → Nat → List By → Tab × By
  | t, _, [] => (t, [0])
  | t, at_, l :: ls =>
    if 0 ≤ findI t (Nm.glue (l :: ls)) ∧ plain = false then (t, Oc.beb 2 (49152 + (findI t (Nm.glue (l :: ls))).toNat))
    else ((pw plain (rem t (Nm.glue (l :: ls)) at_) (at_ + 1 + l.length) ls).1, Nm.lab l ++ (pw plain (rem t (Nm.glue (l :: ls)) at_) (at_ + 1 + l.length) ls).2)
theorem pw_nil (plain : Bool) (t : Tab) (a : Nat) : pw plain t a [] = (t, [0]) := rfl
theorem pw_lab {plain : Bool} {t : Tab} {a : Nat} {l : By} {ls : List By} (h : ¬ (0 ≤ findI t (Nm.glue (l :: ls)) ∧ plain = false)) :
    pw plain t a (l :: ls) = ((pw plain (rem t (Nm.glue (l :: ls)) a) (a + 1 + l.length) ls).1, Nm.lab l ++ (pw plain (rem t (Nm.glue (l :: ls)) a) (a + 1 + l.length) ls).2) := by rw [pw, if_neg h]

theorem tot_body (ls : List By) : tot ls = (Nm.body ls).length := by
  induction ls with
  | nil => rfl
  | cons l r ih => rw [tot, Nm.body_cons, List.length_append, Nm.lab_length, ih]
theorem tot_glue (ls : List By) : (Nm.glue ls).length = tot ls + 1 := by rw [Nm.glue_length, tot_body]
/-- how far a writing has come: i labels are behind, T is remembered. -/
def Cont (plain : Bool) (t : Tab) (a : Nat) (ls : List By) (i : Nat) (T : Tab) : Prop :=
  pw plain t a ls = ((pw plain T (a + (Nm.body (ls.take i)).length) (ls.drop i)).1, Nm.body (ls.take i) ++ (pw plain T (a + (Nm.body (ls.take i)).length) (ls.drop i)).2)
theorem Cont.zero (plain : Bool) (t : Tab) (a : Nat) (ls : List By) : Cont plain t a ls 0 t := by simp [Cont, Nm.body]
theorem Cont.step {plain : Bool} {t T : Tab} {a i : Nat} {ls : List By} (h : Cont plain t a ls i T) (hi : i < ls.length) (hn : ¬ (0 ≤ findI T (Nm.glue (ls.drop i)) ∧ plain = false)) :
    Cont plain t a ls (i + 1) (rem T (Nm.glue (ls.drop i)) (a + (Nm.body (ls.take i)).length)) := by
  unfold Cont at h ⊢
  have e := List.drop_eq_getElem_cons hi
  have eb := Nm.take_succ_body hi
  have et : Nm.body (ls.take (i + 1)) = Nm.body (ls.take i) ++ Nm.lab ls[i] := by rw [List.take_succ_eq_append_getElem hi, Nm.body_append]; simp [Nm.body]
  rw [e] at h hn ⊢
  rw [pw_lab hn] at h
  rw [h, eb, et]
  simp only [List.append_assoc]
  have e2 : a + (Nm.body (ls.take i)).length + 1 + (ls[i]).length = a + ((Nm.body (ls.take i)).length + 1 + (ls[i]).length) := by omega
  rw [e2]
theorem Cont.done {plain : Bool} {t T : Tab} {a : Nat} {ls : List By} (h : Cont plain t a ls ls.length T) : pw plain t a ls = (T, Nm.glue ls) := by
  unfold Cont at h
  rw [h, List.drop_length, List.take_length, pw_nil]
  rfl
theorem glue_drop_lt {ls : List By} {i j : Nat} (hij : i < j) (hi : i < ls.length) : (Nm.glue (ls.drop j)).length < (Nm.glue (ls.drop i)).length := by
  have e : ls.drop i = (ls.drop i).take (j - i) ++ ls.drop j := by
    have := (List.take_append_drop (j - i) (ls.drop i)).symm
    rw [List.drop_drop] at this
    rwa [show i + (j - i) = j from by omega] at this
  rw [Nm.glue_length, Nm.glue_length]
  conv => rhs; rw [e, Nm.body_append, List.length_append]
  obtain ⟨x, hx⟩ : ∃ x, (ls.drop i).take (j - i) = x := ⟨_, rfl⟩
  have hl : 1 ≤ x.length := by rw [← hx]; simp; omega
  rw [hx]
  cases x with
  | nil => simp at hl
  | cons y r => rw [Nm.body_cons, List.length_append, Nm.lab_length]; omega
/-- what is remembered of this name is not asked for again within it. -/
def Ahead (t T : Tab) (ls : List By) (i : Nat) : Prop := ∀ j, i ≤ j → j < ls.length → findI T (Nm.glue (ls.drop j)) = findI t (Nm.glue (ls.drop j))
theorem Ahead.zero (t : Tab) (ls : List By) : Ahead t t ls 0 := fun _ _ _ => rfl
theorem Ahead.step {t T : Tab} {ls : List By} {i p : Nat} (h : Ahead t T ls i) (hi : i < ls.length) : Ahead t (rem T (Nm.glue (ls.drop i)) p) ls (i + 1) := fun j hj hl => by
  rw [rem_find_ne, h j (by omega) hl]
  intro e
  have := glue_drop_lt (ls := ls) (i := i) (j := j) (by omega) hi
  rw [e] at this
  omega

/-! ### reading again -/
/-- from a place on these labels are read, in a row that begins at 'row' or behind it. -/
def Rdb (b : By) (p : Nat) (ls : List By) (row bh : Nat) : Prop := ∀ rest row' size, row ≤ row' → size + tot ls ≤ 255 → tk (b ++ rest) row' p size = .ok ls bh
theorem Rdb.more {b : By} {p : Nat} {ls : List By} {row bh : Nat} (h : Rdb b p ls row bh) (c : By) : Rdb (b ++ c) p ls row bh := fun rest row' size h1 h2 => by
  rw [List.append_assoc]; exact h _ _ _ h1 h2
theorem Rdb.row {b : By} {p : Nat} {ls : List By} {row row2 bh : Nat} (h : Rdb b p ls row bh) (hr : row ≤ row2) : Rdb b p ls row2 bh := fun rest row' size h1 h2 => h rest row' size (by omega) h2
/-- what is found is a name that is read there. -/
def Fnd (b : By) (k : By) (p : Nat) : Prop := ∃ ls bh, k = Nm.glue ls ∧ Nm.Good ls ∧ p < b.length ∧ p ≤ 16383 ∧ Rdb b p ls p bh
def Snd (b : By) (t : Tab) : Prop := ∀ k (p : Nat), findI t k = p → Fnd b k p
theorem Snd.nil (b : By) : Snd b [] := fun k p h => by rw [findI] at h; omega
theorem Fnd.more {b k : By} {p : Nat} (h : Fnd b k p) (c : By) : Fnd (b ++ c) k p := by
  obtain ⟨ls, bh, h1, h2, h3, h4, h5⟩ := h
  exact ⟨ls, bh, h1, h2, by simp; omega, h4, h5.more c⟩

end Pr
end Go.Proofs.YtekafhogiambaaaGreatDoor
namespace Go.Proofs.YtekafhogiambaaaGreatDoor

theorem tk_err (b : List UInt8) : ∀ (m row at_ size : Nat) (e : Int), row * (b.length + 2) + (b.length + 1 - at_) ≤ m → Pr.tk b row at_ size = .err e → e ≠ 0 := by
  intro m
  induction m with
  | zero =>
    intro row at_ size e hm h
    by_cases hlt : at_ < b.length
    · omega
    · rw [Pr.tk_out hlt] at h; cases h; decide
  | succ m ih =>
    intro row at_ size e hm h
    by_cases hlt : at_ < b.length
    · by_cases h0 : (b[at_]'hlt).toNat = 0
      · rw [Pr.tk_end hlt h0] at h; cases h
      · by_cases h1 : 192 ≤ (b[at_]'hlt).toNat
        · by_cases h2 : at_ + 1 < b.length
          · by_cases hp : ((b[at_]'hlt).toNat - 192) * 256 + (b[at_ + 1]'h2).toNat < row
            · have hj := Pr.tk_jump (size := size) [] none hlt h1 h2 hp
              rw [Pr.fin_nil] at hj
              rw [hj] at h
              have hme := Pr.meas (L := b.length) (a := at_) hp
              refine ih _ _ size e (by omega) (?_ : Pr.tk b (((b[at_]'hlt).toNat - 192) * 256 + (b[at_ + 1]'h2).toNat) (((b[at_]'hlt).toNat - 192) * 256 + (b[at_ + 1]'h2).toNat) size = .err e)
              revert h
              generalize Pr.tk b (((b[at_]'hlt).toNat - 192) * 256 + (b[at_ + 1]'h2).toNat) (((b[at_]'hlt).toNat - 192) * 256 + (b[at_ + 1]'h2).toNat) size = r
              intro h
              cases r with
              | err e2 => exact h
              | ok _ _ => cases h
            · rw [Pr.tk_back hlt h1 h2 hp] at h; cases h; decide
          · rw [Pr.tk_short hlt h1 h2] at h; cases h; decide
        · by_cases h3 : 64 ≤ (b[at_]'hlt).toNat
          · rw [Pr.tk_kind hlt h3 h1] at h; cases h; decide
          · by_cases h4 : b.length < at_ + 1 + (b[at_]'hlt).toNat
            · rw [Pr.tk_few hlt h0 h3 h4] at h; cases h; decide
            · by_cases h5 : 255 < size + 1 + (b[at_]'hlt).toNat
              · rw [Pr.tk_long hlt h0 h3 h4 h5] at h; cases h; decide
              · have hj := Pr.tk_label (row := row) [] none hlt h0 h3 h4 h5
                rw [Pr.fin_nil] at hj
                rw [hj] at h
                refine ih row (at_ + 1 + (b[at_]'hlt).toNat) (size + 1 + (b[at_]'hlt).toNat) e (by omega) ?_
                revert h
                generalize Pr.tk b row (at_ + 1 + (b[at_]'hlt).toNat) (size + 1 + (b[at_]'hlt).toNat) = r
                intro h
                cases r with
                | err e2 => exact h
                | ok _ _ => cases h
    · rw [Pr.tk_out hlt] at h; cases h; decide
end Go.Proofs.YtekafhogiambaaaGreatDoor
namespace Go.Proofs.YtekafhogiambaaaGreatDoor.Rd

/-- a name at a place, and the place behind it. -/
def tkN (L : By) (i : Nat) : Option (By × Nat) := match Pr.tk L i i 1 with
  | .ok ls bh => some (Nm.glue ls, bh)
  | .err _ => none
/-- a place, the data so far, how many numbers. -/
abbrev TS := Nat × Dt × Nat
def tkP (L : By) (E p : Nat) (s : TS) : Option TS :=
  if p = 0 then some s
  else if p ≤ 4 then (if E - s.1 ≤ 65535 then some (E, { s.2.1 with raw := (L.drop s.1).take (E - s.1) }, s.2.2) else none)
  else if p ≤ 6 then (tkN L s.1).bind fun x => if x.2 ≤ E then some (x.2, { s.2.1 with host := x.1 }, s.2.2) else none
  else if p = 7 then (tkN L s.1).bind fun x => if x.2 ≤ E then some (x.2, { s.2.1 with mail := x.1 }, s.2.2) else none
  else if p = 8 then (if s.1 + 2 ≤ E then some (s.1 + 2, setN s.2.1 s.2.2 (Oc.num ((L.drop s.1).take 2)), s.2.2 + 1) else none)
  else (if s.1 + 4 ≤ E then some (s.1 + 4, setN s.2.1 s.2.2 (Oc.num ((L.drop s.1).take 4)), s.2.2 + 1) else none)
def tkAll (L : By) (E : Nat) : List Nat → TS → Option TS
  | [], s => some s
  | p :: r, s => (tkP L E p s).bind (tkAll L E r)
/-- what is told of a part that is none. -/
def tkE (L : By) (p : Nat) (s : TS) : Int := if p = 5 ∨ p = 6 ∨ p = 7 then (match Pr.tk L s.1 s.1 1 with
  | .err e => e
  | .ok _ _ => 40) else 40
def tkEs (L : By) (E : Nat) : List Nat → TS → Int
  | [], _ => 40
  | p :: r, s => match tkP L E p s with
    | some s1 => tkEs L E r s1
    | none => tkE L p s
/-- WHAT BYTES TELL AS DATA OF A TYPE, n of them from i on. -/
def takeR (t : Nat) (L : By) (i n : Nat) : Option Dt := (tkAll L (i + n) (parts t) (i, dt0, 0)).bind fun s => if s.1 = i + n ∧ ok t s.2.1 = true then some s.2.1 else none

theorem tkAll_app (L : By) (E : Nat) : ∀ (a b : List Nat) (s : TS), tkAll L E (a ++ b) s = (tkAll L E a s).bind (tkAll L E b)
  | [], b, s => rfl
  | p :: a, b, s => by
    rw [List.cons_append, tkAll, tkAll]
    cases tkP L E p s with
    | none => rfl
    | some s1 => exact tkAll_app L E a b s1
/-- what is told where there are none. -/
def takeE (t : Nat) (L : By) (i n : Nat) : Int := tkEs L (i + n) (parts t) (i, dt0, 0)
theorem tkEs_app (L : By) (E : Nat) : ∀ (a b : List Nat) (s s1 : TS), tkAll L E a s = some s1 → tkEs L E (a ++ b) s = tkEs L E b s1
  | [], b, s, s1, h => by
    rw [tkAll] at h
    injection h with h
    rw [h]
    rfl
  | p :: a, b, s, s1, h => by
    rw [tkAll] at h
    rw [List.cons_append, tkEs]
    cases hp : tkP L E p s with
    | none => rw [hp] at h; cases h
    | some s2 =>
      rw [hp, Option.bind_some] at h
      exact tkEs_app L E a b s2 s1 h
theorem tkE_pos (L : By) (p : Nat) (s : TS) : tkE L p s ≠ 0 := by
  unfold tkE
  split
  · split
    · rename_i e he
      exact tk_err L _ _ _ _ e (Nat.le_refl _) he
    · decide
  · decide
theorem tkEs_pos (L : By) (E : Nat) : ∀ (ps : List Nat) (s : TS), tkEs L E ps s ≠ 0
  | [], s => by rw [tkEs]; decide
  | p :: ps, s => by
    rw [tkEs]
    split
    · exact tkEs_pos L E ps _
    · exact tkE_pos L p s
theorem takeE_pos (t : Nat) (L : By) (i n : Nat) : takeE t L i n ≠ 0 := tkEs_pos _ _ _ _
/-- what is held so far. -/
structure Fine (L : By) (E n : Nat) (s : TS) : Prop where
  le : s.1 ≤ E
  nums : s.2.2 = n
  raw : s.2.1.raw.length ≤ 65535
  host : s.2.1.host.length ≤ 255
  mail : s.2.1.mail.length ≤ 255
  n0 : s.2.1.n0 ≤ 4294967295
  n1 : s.2.1.n1 ≤ 4294967295
  n2 : s.2.1.n2 ≤ 4294967295
  n3 : s.2.1.n3 ≤ 4294967295
  n4 : s.2.1.n4 ≤ 4294967295
theorem tkN_len {L : By} {i : Nat} {x : By × Nat} (h : tkN L i = some x) : x.1.length ≤ 255 ∧ i < x.2 ∧ x.2 ≤ L.length := by
  unfold tkN at h
  split at h
  · rename_i ls bh hk
    injection h with h
    subst h
    obtain ⟨a, b, c, d⟩ := Pr.tk_sound L _ _ _ _ ls bh (Nat.le_refl _) (by omega) hk
    have hg := Pr.tot_glue ls
    exact ⟨by show (Nm.glue ls).length ≤ 255; omega, a, b⟩
  · cases h
theorem setN_fine (d : Dt) (k v : Nat) (hv : v ≤ 4294967295) (h : d.n0 ≤ 4294967295 ∧ d.n1 ≤ 4294967295 ∧ d.n2 ≤ 4294967295 ∧ d.n3 ≤ 4294967295 ∧ d.n4 ≤ 4294967295) :
    (setN d k v).n0 ≤ 4294967295 ∧ (setN d k v).n1 ≤ 4294967295 ∧ (setN d k v).n2 ≤ 4294967295 ∧ (setN d k v).n3 ≤ 4294967295 ∧ (setN d k v).n4 ≤ 4294967295 := by
  unfold setN
  split <;> simp_all
theorem setN_rest (d : Dt) (k v : Nat) : (setN d k v).raw = d.raw ∧ (setN d k v).host = d.host ∧ (setN d k v).mail = d.mail := by
  unfold setN
  split <;> exact ⟨rfl, rfl, rfl⟩
theorem num_le2 (l : By) : Oc.num (l.take 2) ≤ 65535 := by
  have := Oc.num_take_lt l 2
  omega
theorem num_le4 (l : By) : Oc.num (l.take 4) ≤ 4294967295 := by
  have := Oc.num_take_lt l 4
  omega
theorem tkP_fine {L : By} {E n p : Nat} {s s' : TS} (h : Fine L E n s) (hs : tkP L E p s = some s') : Fine L E (if p = 8 ∨ 9 ≤ p then n + 1 else n) s' := by
  obtain ⟨h1, h2, h3, h4, h5, h6, h7, h8, h9, h10⟩ := h
  unfold tkP at hs
  split at hs
  · injection hs with hs
    subst hs
    rw [if_neg (by omega)]
    exact ⟨h1, h2, h3, h4, h5, h6, h7, h8, h9, h10⟩
  split at hs
  · split at hs
    · injection hs with hs
      subst hs
      rw [if_neg (by omega)]
      exact ⟨Nat.le_refl _, h2, by show ((L.drop s.1).take (E - s.1)).length ≤ 65535; rw [List.length_take]; omega, h4, h5, h6, h7, h8, h9, h10⟩
    · cases hs
  split at hs
  · rw [Option.bind_eq_some_iff] at hs
    obtain ⟨x, hx, hs⟩ := hs
    have hl := tkN_len hx
    split at hs
    · injection hs with hs
      subst hs
      rw [if_neg (by omega)]
      exact ⟨by assumption, h2, h3, hl.1, h5, h6, h7, h8, h9, h10⟩
    · cases hs
  split at hs
  · rw [Option.bind_eq_some_iff] at hs
    obtain ⟨x, hx, hs⟩ := hs
    have hl := tkN_len hx
    split at hs
    · injection hs with hs
      subst hs
      rw [if_neg (by omega)]
      exact ⟨by assumption, h2, h3, h4, hl.1, h6, h7, h8, h9, h10⟩
    · cases hs
  split at hs
  · split at hs
    · injection hs with hs
      subst hs
      obtain ⟨e1, e2, e3⟩ := setN_rest s.2.1 s.2.2 (Oc.num ((L.drop s.1).take 2))
      obtain ⟨q0, q1, q2, q3, q4⟩ := setN_fine s.2.1 s.2.2 (Oc.num ((L.drop s.1).take 2)) (by have := num_le2 (L.drop s.1); omega) ⟨h6, h7, h8, h9, h10⟩
      rw [if_pos (by omega)]
      exact ⟨by assumption, by rw [← h2], by rw [e1]; exact h3, by rw [e2]; exact h4, by rw [e3]; exact h5, q0, q1, q2, q3, q4⟩
    · cases hs
  · split at hs
    · injection hs with hs
      subst hs
      obtain ⟨e1, e2, e3⟩ := setN_rest s.2.1 s.2.2 (Oc.num ((L.drop s.1).take 4))
      obtain ⟨q0, q1, q2, q3, q4⟩ := setN_fine s.2.1 s.2.2 (Oc.num ((L.drop s.1).take 4)) (num_le4 _) ⟨h6, h7, h8, h9, h10⟩
      rw [if_pos (by omega)]
      exact ⟨by assumption, by rw [← h2], by rw [e1]; exact h3, by rw [e2]; exact h4, by rw [e3]; exact h5, q0, q1, q2, q3, q4⟩
    · cases hs
theorem fine0 {L : By} {E i : Nat} (h : i ≤ E) : Fine L E 0 (i, dt0, 0) := ⟨h, rfl, by simp [dt0], by simp [dt0], by simp [dt0], by simp [dt0], by simp [dt0], by simp [dt0], by simp [dt0], by simp [dt0]⟩
theorem tkAll_fine {L : By} {E : Nat} : ∀ (ps : List Nat) (n : Nat) (s s' : TS), (∀ p ∈ ps, p ≤ 9) → Fine L E n s → tkAll L E ps s = some s' → Fine L E (n + nums ps) s'
  | [], n, s, s', _, h, hs => by
    rw [tkAll] at hs
    injection hs with hs
    subst hs
    exact h
  | p :: ps, n, s, s', h9, h, hs => by
    rw [tkAll, Option.bind_eq_some_iff] at hs
    obtain ⟨s1, h1, h2⟩ := hs
    have a := tkP_fine h h1
    have b := tkAll_fine ps _ s1 s' (fun q hq => h9 q (by simp [hq])) a h2
    have hp := h9 p (by simp)
    have e : nums (p :: ps) = (if p = 8 ∨ 9 ≤ p then 1 else 0) + nums ps := by
      unfold nums
      rw [List.filter_cons]
      rcases (by omega : p = 8 ∨ p = 9 ∨ p < 8) with rfl | rfl | hlt
      · simp; omega
      · simp; omega
      · have q1 : (p == 8) = false := beq_eq_false_iff_ne.2 (by omega)
        have q2 : (p == 9) = false := beq_eq_false_iff_ne.2 (by omega)
        rw [if_neg (show ¬ (p = 8 ∨ 9 ≤ p) by omega), q1, q2]
        simp
    rw [e]
    have : (if p = 8 ∨ 9 ≤ p then n + 1 else n) + nums ps = n + ((if p = 8 ∨ 9 ≤ p then 1 else 0) + nums ps) := by split <;> omega
    rw [← this]
    exact b
/-- data that bytes tell may be. -/
theorem takeR_ok {t : Nat} {L : By} {i n : Nat} {d : Dt} (h : takeR t L i n = some d) : ok t d = true ∧ Fine L (i + n) (nums (parts t)) (i + n, d, nums (parts t)) := by
  unfold takeR at h
  rw [Option.bind_eq_some_iff] at h
  obtain ⟨s, hs, h⟩ := h
  split at h
  · rename_i hc
    injection h with h
    subst h
    have f := tkAll_fine (parts t) 0 _ s (fun p hp => parts_lt t p hp) (fine0 (Nat.le_add_right i n)) hs
    rw [Nat.zero_add] at f
    exact ⟨hc.2, Nat.le_refl _, rfl, f.raw, f.host, f.mail, f.n0, f.n1, f.n2, f.n3, f.n4⟩
  · cases h
end Go.Proofs.YtekafhogiambaaaGreatDoor.Rd
namespace Go.Proofs.YtekafhogiambaaaGreatDoor.Rd

/-- the words that tell data. -/
def readR (o : By) (t : Nat) (ws : List W2) : Option Dt := match ws with
  | [] => knownR o t []
  | x :: r => if x.1 = [92, 35] ∧ x.2 = false then ((anyR r).bind fun raw => takeR t raw 0 raw.length) else knownR o t (x :: r)
/-- data with names in small letters. -/
def foldD (t : Nat) (d : Dt) : Dt := { d with host := if isHost t then Nm.fold d.host else d.host, mail := if isMail t then Nm.fold d.mail else d.mail }

end Go.Proofs.YtekafhogiambaaaGreatDoor.Rd
namespace Go.Proofs.YtekafhogiambaaaGreatDoor.Ma
open Rd (By Dt)

/-- what is wrong, and where. -/
structure Er where
  e : Nat
  line : Nat
  col : Nat
abbrev Ans (α : Type) := Except Er α
def at_ (x : Tk.Wd) (e : Nat) : Er := ⟨e, x.line, x.col⟩
/-- a word in small letters. -/
def kw (x : Tk.Wd) : By := if x.quoted then [] else Nm.fold x.text
/-- the number in a word. -/
def num (x : Tk.Wd) : Option Nat := if x.quoted then none else Rd.num x.text 4294967295
def isClass (x : Tk.Wd) : Bool := kw x == [105, 110] || (kw x == [99, 104] || (kw x == [99, 115] || kw x == [104, 115]))
/-- the name in a word. -/
def name (o : By) (x : Tk.Wd) : Option By := if x.quoted then none else Rd.nameR o x.text
/-- a TTL and a class: what holds behind them, the record's own, what is left. -/
def tc (fx : Bool) : List Tk.Wd → Nat → Nat → Bool → Bool → Ans (Nat × Nat × List Tk.Wd)
  | [], h, t, _, _ => .ok (h, t, [])
  | w :: r, h, t, bt, bc =>
    if (num w).isSome ∧ bt = false then (if (num w).getD 0 ≤ 2147483647 then tc fx r (if fx then h else (num w).getD 0) ((num w).getD 0) true bc else .error (at_ w 91))
    else if isClass w ∧ bc = false then (if kw w = [105, 110] then tc fx r h t bt true else .error (at_ w 92))
    else .ok (h, t, w :: r)
/-- a record. -/
structure Rc where
  nm : By
  ty : Nat
  ttl : Nat
  d : Dt
/-- what holds. -/
structure S where
  o : By
  ttl : Nat
  fx : Bool
  recs : List Rc
def w2 (x : Tk.Wd) : Rd.W2 := (x.text, x.quoted)
/-- the owner, and the words behind it. -/
def owner (s : S) (f : Tk.Wd) (bl : Bool) (ws : List Tk.Wd) : Ans (By × List Tk.Wd) :=
  if bl then (match s.recs.getLast? with
    | some r => .ok (r.nm, ws)
    | none => .error (at_ f 90))
  else match ws with
    | [] => .error (at_ f 90)
    | x :: r => match name s.o x with
      | some n => .ok (Nm.fold n, r)
      | none => .error (at_ f 90)
/-- a record's type and data. -/
def tail (o : By) (f : Tk.Wd) : List Tk.Wd → Ans (Nat × Dt)
  | [] => .error (at_ f 93)
  | k :: r => if k.quoted then .error (at_ k 93) else match Rd.tyOf k.text with
    | none => .error (at_ k 93)
    | some t => match Rd.readR o t (r.map w2) with
      | none => .error (at_ k 41)
      | some d => .ok (t, Rd.foldD t d)
def record (s : S) (f : Tk.Wd) (bl : Bool) (ws : List Tk.Wd) : Ans (Nat × Rc) := match owner s f bl ws with
  | .error x => .error x
  | .ok (n, ws) => match tc s.fx ws s.ttl s.ttl false false with
    | .error x => .error x
    | .ok (h, t, ws) => match tail s.o f ws with
      | .error x => .error x
      | .ok (ty, d) => .ok (h, ⟨n, ty, t, d⟩)
/-- is an entry a directive? -/
def isDir (bl : Bool) (x : Tk.Wd) : Bool := !bl && (match kw x with
  | c :: _ => c == 36
  | [] => false)
def directive (s : S) (k : Tk.Wd) : List Tk.Wd → Ans S
  | [x] => if kw k = [36, 111, 114, 105, 103, 105, 110] then (match name s.o x with
      | some n => .ok { s with o := n }
      | none => .error (at_ k 94))
    else if kw k = [36, 116, 116, 108] then (match num x with
      | some v => if v ≤ 2147483647 then .ok { s with ttl := v, fx := true } else .error (at_ k 94)
      | none => .error (at_ k 94))
    else .error (at_ k 94)
  | _ => .error (at_ k 94)
def entry (s : S) (bl : Bool) (x : Tk.Wd) (r : List Tk.Wd) : Ans S :=
  if isDir bl x then directive s x r
  else if s.recs.length = 4096 then .error (at_ x 2)
  else match record s x bl (x :: r) with
    | .error e => .error e
    | .ok (h, c) => .ok { s with ttl := h, recs := s.recs ++ [c] }
def entries : S → List Tk.En → Ans S
  | s, [] => .ok s
  | s, e :: r => match e.words with
    | [] => .error ⟨0, 0, 0⟩
    | x :: ws => match entry s e.blank x ws with
      | .error e => .error e
      | .ok s => entries s r
end Go.Proofs.YtekafhogiambaaaGreatDoor.Ma
