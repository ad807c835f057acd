/- Texts of the proofs, merged. -/
import Derived.Lib.Hide
import Derived.Test.YtgcaephfhfkjcaaGreatDoorZh1
import Derived.Test.YtgcaephfhfkjcaaGreatDoorZh8
import Derived.Test.YtgcaephfhfkjcaaGreatDoorZh2
import Derived.Test.YtgcaephfhfkjcaaGreatDoorZh4
import Derived.RangeFuncNested
import Derived.RangeFuncBound
import Derived.RangeFuncCalls
import Derived.RangeFuncLeaves
import Derived.Shelf.Abstract
import Derived.Shelf.RegionOpen
import Derived.OwnWalkIn
import Derived.TacticsInMore
import Derived.LoopNIn
import Derived.LoopIn
import Derived.Test.YtgcaephfhfkjcaaGreatDoorZh5
import Derived.Maps.OwnSet
import Derived.Maps.Views
import Derived.Lib.AppendZeros
namespace Go.Proofs.YtgcaephfhfkjcaaGreatDoor.Pr

abbrev By := List UInt8
inductive TR where
  | err (e : Int)
  | ok (ls : List By) (behind : Nat)

theorem meas {p row L a : Nat} (h : p < row) : p * (L + 2) + (L + 1 - p) < row * (L + 2) + (L + 1 - a) := by
  have h1 : (p + 1) * (L + 2) ≤ row * (L + 2) := Nat.mul_le_mul_right _ h
  rw [Nat.add_mul] at h1
  omega

/-- the name at a place in a row that begins at 'row': its labels from there on, and the place behind the row's end. -/
def tk (b : By) (row at_ size : Nat) : TR :=
  if h : at_ < b.length then
    if (b[at_]'h).toNat = 0 then .ok [] (at_ + 1)
    else if 192 ≤ (b[at_]'h).toNat then
      if h2 : at_ + 1 < b.length then
        if _hp : ((b[at_]'h).toNat - 192) * 256 + (b[at_ + 1]'h2).toNat < row then
          match tk b (((b[at_]'h).toNat - 192) * 256 + (b[at_ + 1]'h2).toNat) (((b[at_]'h).toNat - 192) * 256 + (b[at_ + 1]'h2).toNat) size with
          | .err e => .err e
          | .ok ls _ => .ok ls (at_ + 2)
        else .err 30
      else .err 6
    else if 64 ≤ (b[at_]'h).toNat then .err 31
    else if b.length < at_ + 1 + (b[at_]'h).toNat then .err 6
    else if 255 < size + 1 + (b[at_]'h).toNat then .err 2
    else match tk b row (at_ + 1 + (b[at_]'h).toNat) (size + 1 + (b[at_]'h).toNat) with
      | .err e => .err e
      | .ok ls bh => .ok ((b.drop (at_ + 1)).take (b[at_]'h).toNat :: ls) bh
  else .err 6
termination_by row * (b.length + 2) + (b.length + 1 - at_)
decreasing_by
  · exact meas (by assumption)
  · omega

/-- what is told in the end, some labels and the place being known already. -/
def fin (acc : List By) (o : Option Nat) : TR → TR
  | .err e => .err e
  | .ok ls bh => .ok (acc ++ ls) (o.getD bh)
theorem fin_nil (r : TR) : fin [] none r = r := by cases r <;> rfl

section
variable {b : By} {row at_ size : Nat}
theorem tk_out (h : ¬ at_ < b.length) : tk b row at_ size = .err 6 := by rw [tk, dif_neg h]
theorem tk_end (h : at_ < b.length) (h0 : (b[at_]'h).toNat = 0) : tk b row at_ size = .ok [] (at_ + 1) := by rw [tk, dif_pos h, if_pos h0]
theorem tk_short (h : at_ < b.length) (h1 : 192 ≤ (b[at_]'h).toNat) (h2 : ¬ at_ + 1 < b.length) : tk b row at_ size = .err 6 := by
  rw [tk, dif_pos h, if_neg (by omega), if_pos h1, dif_neg h2]
theorem tk_back (h : at_ < b.length) (h1 : 192 ≤ (b[at_]'h).toNat) (h2 : at_ + 1 < b.length) (hp : ¬ ((b[at_]'h).toNat - 192) * 256 + (b[at_ + 1]'h2).toNat < row) : tk b row at_ size = .err 30 := by
  rw [tk, dif_pos h, if_neg (by omega), if_pos h1, dif_pos h2, dif_neg hp]
theorem tk_kind (h : at_ < b.length) (h1 : 64 ≤ (b[at_]'h).toNat) (h2 : ¬ 192 ≤ (b[at_]'h).toNat) : tk b row at_ size = .err 31 := by
  rw [tk, dif_pos h, if_neg (by omega), if_neg h2, if_pos h1]
theorem tk_few (h : at_ < b.length) (h0 : (b[at_]'h).toNat ≠ 0) (h1 : ¬ 64 ≤ (b[at_]'h).toNat) (h2 : b.length < at_ + 1 + (b[at_]'h).toNat) : tk b row at_ size = .err 6 := by
  rw [tk, dif_pos h, if_neg h0, if_neg (by omega), if_neg h1, if_pos h2]
theorem tk_long (h : at_ < b.length) (h0 : (b[at_]'h).toNat ≠ 0) (h1 : ¬ 64 ≤ (b[at_]'h).toNat) (h2 : ¬ b.length < at_ + 1 + (b[at_]'h).toNat) (h3 : 255 < size + 1 + (b[at_]'h).toNat) : tk b row at_ size = .err 2 := by
  rw [tk, dif_pos h, if_neg h0, if_neg (by omega), if_neg h1, if_neg h2, if_pos h3]
theorem tk_jump (acc : List By) (o : Option Nat) (h : at_ < b.length) (h1 : 192 ≤ (b[at_]'h).toNat) (h2 : at_ + 1 < b.length) (hp : ((b[at_]'h).toNat - 192) * 256 + (b[at_ + 1]'h2).toNat < row) :
    fin acc o (tk b row at_ size) = fin acc (some (o.getD (at_ + 2))) (tk b (((b[at_]'h).toNat - 192) * 256 + (b[at_ + 1]'h2).toNat) (((b[at_]'h).toNat - 192) * 256 + (b[at_ + 1]'h2).toNat) size) := by
  rw [tk, dif_pos h, if_neg (by omega), if_pos h1, dif_pos h2, dif_pos hp]
  cases tk b (((b[at_]'h).toNat - 192) * 256 + (b[at_ + 1]'h2).toNat) (((b[at_]'h).toNat - 192) * 256 + (b[at_ + 1]'h2).toNat) size <;> rfl
theorem tk_label (acc : List By) (o : Option Nat) (h : at_ < b.length) (h0 : (b[at_]'h).toNat ≠ 0) (h1 : ¬ 64 ≤ (b[at_]'h).toNat) (h2 : ¬ b.length < at_ + 1 + (b[at_]'h).toNat) (h3 : ¬ 255 < size + 1 + (b[at_]'h).toNat) :
    fin acc o (tk b row at_ size) = fin (acc ++ [(b.drop (at_ + 1)).take (b[at_]'h).toNat]) o (tk b row (at_ + 1 + (b[at_]'h).toNat) (size + 1 + (b[at_]'h).toNat)) := by
  rw [tk, dif_pos h, if_neg h0, if_neg (by omega), if_neg h1, if_neg h2, if_neg h3]
  cases tk b row (at_ + 1 + (b[at_]'h).toNat) (size + 1 + (b[at_]'h).toNat) <;> simp [fin]
end
/-- all labels' bytes, each with its length ahead. -/
def tot : List By → Nat
  | [] => 0
  | l :: r => l.length + 1 + tot r
end Go.Proofs.YtgcaephfhfkjcaaGreatDoor.Pr
namespace Go.Proofs.YtgcaephfhfkjcaaGreatDoor

/-- what is remembered: a name's bytes, and its place. -/
abbrev Tab := List (List UInt8 × Nat)
def findI : Tab → List UInt8 → Int
  | [], _ => -1
  | (m, p) :: r, n => if m = n then p else findI r n
theorem findI_neg {t : Tab} {n : List UInt8} (h : ¬ 0 ≤ findI t n) : findI t n = -1 := by
  induction t with
  | nil => rfl
  | cons x r ih =>
    obtain ⟨m, p⟩ := x
    unfold findI at h ⊢
    split
    · rename_i he; rw [if_pos he] at h; omega
    · rename_i he; rw [if_neg he] at h; exact ih h
theorem findI_snoc (t : Tab) (k n : List UInt8) (p : Nat) : findI (t ++ [(k, p)]) n = if 0 ≤ findI t n then findI t n else if k = n then (p : Int) else -1 := by
  induction t with
  | nil => simp [findI]
  | cons x r ih =>
    obtain ⟨m, q⟩ := x
    rw [List.cons_append, findI, findI]
    by_cases he : m = n
    · rw [if_pos he, if_pos he, if_pos (by omega)]
    · rw [if_neg he, if_neg he]; exact ih
namespace Pr
/-- what is remembered, when a name is told to stand at a place. -/
def rem (t : Tab) (k : By) (p : Nat) : Tab := if 0 ≤ findI t k then t else if 16383 < p then t else t ++ [(k, p)]
theorem rem_there {t : Tab} {k : By} {p : Nat} (h : 0 ≤ findI t k) : rem t k p = t := by unfold rem; rw [if_pos h]
theorem rem_far {t : Tab} {k : By} {p : Nat} (h : 16383 < p) : rem t k p = t := by unfold rem; split <;> rfl
theorem rem_new {t : Tab} {k : By} {p : Nat} (h : ¬ 0 ≤ findI t k) (h2 : p ≤ 16383) : rem t k p = t ++ [(k, p)] := by unfold rem; rw [if_neg h, if_neg (by omega)]
theorem rem_find_ne {t : Tab} {k n : By} {p : Nat} (h : k ≠ n) : findI (rem t k p) n = findI t n := by
  unfold rem
  split
  · rfl
  · split
    · rfl
    · rw [findI_snoc, if_neg h]
      split
      · rfl
      · rename_i h3; rw [findI_neg h3]
theorem rem_len (t : Tab) (k : By) (p : Nat) : (rem t k p).length ≤ t.length + 1 := by
  unfold rem; split
  · omega
  · split
    · omega
    · simp
/-- what is written of labels at a place, and what is remembered then. -/
def pw (plain : Bool) : Tab → Nat → List By → Tab × By
  | t, _, [] => (t, [0])
  | t, at_, l :: ls =>
    if 0 ≤ findI t (Nm.glue (l :: ls)) ∧ plain = false then (t, Oc.beb 2 (49152 + (findI t (Nm.glue (l :: ls))).toNat))
    else ((pw plain (rem t (Nm.glue (l :: ls)) at_) (at_ + 1 + l.length) ls).1, Nm.lab l ++ (pw plain (rem t (Nm.glue (l :: ls)) at_) (at_ + 1 + l.length) ls).2)
theorem pw_nil (plain : Bool) (t : Tab) (a : Nat) : pw plain t a [] = (t, [0]) := rfl
theorem pw_ptr {plain : Bool} {t : Tab} {a : Nat} {l : By} {ls : List By} (h : 0 ≤ findI t (Nm.glue (l :: ls))) (hp : plain = false) :
    pw plain t a (l :: ls) = (t, Oc.beb 2 (49152 + (findI t (Nm.glue (l :: ls))).toNat)) := by rw [pw, if_pos ⟨h, hp⟩]
theorem pw_lab {plain : Bool} {t : Tab} {a : Nat} {l : By} {ls : List By} (h : ¬ (0 ≤ findI t (Nm.glue (l :: ls)) ∧ plain = false)) :
    pw plain t a (l :: ls) = ((pw plain (rem t (Nm.glue (l :: ls)) a) (a + 1 + l.length) ls).1, Nm.lab l ++ (pw plain (rem t (Nm.glue (l :: ls)) a) (a + 1 + l.length) ls).2) := by rw [pw, if_neg h]

theorem glue_cons (l : By) (ls : List By) : Nm.glue (l :: ls) = Nm.lab l ++ Nm.glue ls := by simp [Nm.glue, Nm.body]
theorem tot_body (ls : List By) : tot ls = (Nm.body ls).length := by
  induction ls with
  | nil => rfl
  | cons l r ih => rw [tot, Nm.body_cons, List.length_append, Nm.lab_length, ih]
theorem tot_glue (ls : List By) : (Nm.glue ls).length = tot ls + 1 := by rw [Nm.glue_length, tot_body]
theorem glue_inj {a b : List By} (ga : Nm.Good a) (gb : Nm.Good b) (h : Nm.glue a = Nm.glue b) : a = b := by
  have h1 := Nm.sp_glue a ga
  have h2 := Nm.sp_glue b gb
  rw [h, h2] at h1
  exact (Option.some.inj h1).symm

theorem pw_len (plain : Bool) : ∀ (ls : List By) (t : Tab) (a : Nat), 1 ≤ (pw plain t a ls).2.length ∧ (pw plain t a ls).2.length ≤ (Nm.glue ls).length + 1 ∧ (Nm.Good ls → (pw plain t a ls).2.length ≤ (Nm.glue ls).length) ∧ (plain = true → (pw plain t a ls).2 = Nm.glue ls) := by
  intro ls
  induction ls with
  | nil => intro t a; rw [pw_nil]; simp [Nm.glue, Nm.body]
  | cons l r ih =>
    intro t a
    by_cases h : 0 ≤ findI t (Nm.glue (l :: r)) ∧ plain = false
    · rw [pw_ptr h.1 h.2]
      have := tot_glue (l :: r)
      rw [tot] at this
      refine ⟨by simp [Oc.beb], by simp [Oc.beb]; omega, fun g => ?_, fun hp => by rw [h.2] at hp; cases hp⟩
      have := g l (by simp)
      simp [Oc.beb]; omega
    · rw [pw_lab h]
      obtain ⟨h1, h2, h3, h4⟩ := ih (rem t (Nm.glue (l :: r)) a) (a + 1 + l.length)
      obtain ⟨R, hR⟩ : ∃ R, pw plain (rem t (Nm.glue (l :: r)) a) (a + 1 + l.length) r = R := ⟨_, rfl⟩
      rw [hR] at h1 h2 h3 h4 ⊢
      rw [glue_cons]
      simp only [List.length_append, Nm.lab_length]
      refine ⟨by omega, by omega, fun g => ?_, fun hp => by rw [h4 hp]⟩
      have := h3 (fun x hx => g x (by simp [hx]))
      omega
theorem pw_tab (plain : Bool) : ∀ (ls : List By) (t : Tab) (a : Nat), (pw plain t a ls).1.length ≤ t.length + ls.length := by
  intro ls
  induction ls with
  | nil => intro t a; simp [pw_nil]
  | cons l r ih =>
    intro t a
    by_cases hc : 0 ≤ findI t (Nm.glue (l :: r)) ∧ plain = false
    · rw [pw_ptr hc.1 hc.2]; simp
    · rw [pw_lab hc]
      have := ih (rem t (Nm.glue (l :: r)) a) (a + 1 + l.length)
      have := rem_len t (Nm.glue (l :: r)) a
      simp only [List.length_cons]; omega

/-- how far a writing has come: i labels are behind, T is remembered. -/
def Cont (plain : Bool) (t : Tab) (a : Nat) (ls : List By) (i : Nat) (T : Tab) : Prop :=
  pw plain t a ls = ((pw plain T (a + (Nm.body (ls.take i)).length) (ls.drop i)).1, Nm.body (ls.take i) ++ (pw plain T (a + (Nm.body (ls.take i)).length) (ls.drop i)).2)
theorem Cont.zero (plain : Bool) (t : Tab) (a : Nat) (ls : List By) : Cont plain t a ls 0 t := by simp [Cont, Nm.body]
theorem Cont.step {plain : Bool} {t T : Tab} {a i : Nat} {ls : List By} (h : Cont plain t a ls i T) (hi : i < ls.length) (hn : ¬ (0 ≤ findI T (Nm.glue (ls.drop i)) ∧ plain = false)) :
    Cont plain t a ls (i + 1) (rem T (Nm.glue (ls.drop i)) (a + (Nm.body (ls.take i)).length)) := by
  unfold Cont at h ⊢
  have e := List.drop_eq_getElem_cons hi
  have eb := Nm.take_succ_body hi
  have et : Nm.body (ls.take (i + 1)) = Nm.body (ls.take i) ++ Nm.lab ls[i] := by rw [List.take_succ_eq_append_getElem hi, Nm.body_append]; simp [Nm.body]
  rw [e] at h hn ⊢
  rw [pw_lab hn] at h
  rw [h, eb, et]
  simp only [List.append_assoc]
  have e2 : a + (Nm.body (ls.take i)).length + 1 + (ls[i]).length = a + ((Nm.body (ls.take i)).length + 1 + (ls[i]).length) := by omega
  rw [e2]
theorem Cont.ptr {t T : Tab} {a i : Nat} {ls : List By} (h : Cont false t a ls i T) (hi : i < ls.length) (hn : 0 ≤ findI T (Nm.glue (ls.drop i))) :
    pw false t a ls = (T, Nm.body (ls.take i) ++ Oc.beb 2 (49152 + (findI T (Nm.glue (ls.drop i))).toNat)) := by
  unfold Cont at h
  have e := List.drop_eq_getElem_cons hi
  rw [e] at h hn ⊢
  rw [h, pw_ptr hn rfl]
theorem Cont.done {plain : Bool} {t T : Tab} {a : Nat} {ls : List By} (h : Cont plain t a ls ls.length T) : pw plain t a ls = (T, Nm.glue ls) := by
  unfold Cont at h
  rw [h, List.drop_length, List.take_length, pw_nil]
  rfl
theorem glue_drop_lt {ls : List By} {i j : Nat} (hij : i < j) (hi : i < ls.length) : (Nm.glue (ls.drop j)).length < (Nm.glue (ls.drop i)).length := by
  have e : ls.drop i = (ls.drop i).take (j - i) ++ ls.drop j := by
    have := (List.take_append_drop (j - i) (ls.drop i)).symm
    rw [List.drop_drop] at this
    rwa [show i + (j - i) = j from by omega] at this
  rw [Nm.glue_length, Nm.glue_length]
  conv => rhs; rw [e, Nm.body_append, List.length_append]
  obtain ⟨x, hx⟩ : ∃ x, (ls.drop i).take (j - i) = x := ⟨_, rfl⟩
  have hl : 1 ≤ x.length := by rw [← hx]; simp; omega
  rw [hx]
  cases x with
  | nil => simp at hl
  | cons y r => rw [Nm.body_cons, List.length_append, Nm.lab_length]; omega
/-- what is remembered of this name is not asked for again within it. -/
def Ahead (t T : Tab) (ls : List By) (i : Nat) : Prop := ∀ j, i ≤ j → j < ls.length → findI T (Nm.glue (ls.drop j)) = findI t (Nm.glue (ls.drop j))
theorem Ahead.zero (t : Tab) (ls : List By) : Ahead t t ls 0 := fun _ _ _ => rfl
theorem Ahead.step {t T : Tab} {ls : List By} {i p : Nat} (h : Ahead t T ls i) (hi : i < ls.length) : Ahead t (rem T (Nm.glue (ls.drop i)) p) ls (i + 1) := fun j hj hl => by
  rw [rem_find_ne, h j (by omega) hl]
  intro e
  have := glue_drop_lt (ls := ls) (i := i) (j := j) (by omega) hi
  rw [e] at this
  omega

/-! ### reading again -/
/-- from a place on these labels are read, in a row that begins at 'row' or behind it. -/
def Rdb (b : By) (p : Nat) (ls : List By) (row bh : Nat) : Prop := ∀ rest row' size, row ≤ row' → size + tot ls ≤ 255 → tk (b ++ rest) row' p size = .ok ls bh
theorem Rdb.more {b : By} {p : Nat} {ls : List By} {row bh : Nat} (h : Rdb b p ls row bh) (c : By) : Rdb (b ++ c) p ls row bh := fun rest row' size h1 h2 => by
  rw [List.append_assoc]; exact h _ _ _ h1 h2
theorem Rdb.row {b : By} {p : Nat} {ls : List By} {row row2 bh : Nat} (h : Rdb b p ls row bh) (hr : row ≤ row2) : Rdb b p ls row2 bh := fun rest row' size h1 h2 => h rest row' size (by omega) h2
/-- what is found is a name that is read there. -/
def Fnd (b : By) (k : By) (p : Nat) : Prop := ∃ ls bh, k = Nm.glue ls ∧ Nm.Good ls ∧ p < b.length ∧ p ≤ 16383 ∧ Rdb b p ls p bh
def Snd (b : By) (t : Tab) : Prop := ∀ k (p : Nat), findI t k = p → Fnd b k p
theorem Snd.nil (b : By) : Snd b [] := fun k p h => by rw [findI] at h; omega
theorem Fnd.more {b k : By} {p : Nat} (h : Fnd b k p) (c : By) : Fnd (b ++ c) k p := by
  obtain ⟨ls, bh, h1, h2, h3, h4, h5⟩ := h
  exact ⟨ls, bh, h1, h2, by simp; omega, h4, h5.more c⟩

theorem fin_some {acc ls : List By} {o : Option Nat} {r : TR} {bh : Nat} (h : r = .ok ls bh) : fin acc o r = .ok (acc ++ ls) (o.getD bh) := by rw [h]; rfl
theorem get_at {o x y : By} {c : UInt8} (h : x = c :: y) : ∃ hl : o.length < (o ++ x).length, (o ++ x)[o.length]'hl = c := by
  subst h
  exact ⟨by simp, by simp⟩
theorem beb_two (q : Nat) : Oc.beb 2 (49152 + q) = [UInt8.ofNat ((49152 + q) / 256), UInt8.ofNat (49152 + q)] := by simp [Oc.beb]

theorem pw_read : ∀ (ls : List By) (plain : Bool) (t : Tab) (out : By) (at0 : Nat), at0 ≤ out.length → Nm.Good ls → tot ls ≤ 254 →
    (∀ k (p : Nat), findI t k = p → k.length ≤ (Nm.glue ls).length → p < at0 ∧ Fnd out k p) →
    Rdb (out ++ (pw plain t out.length ls).2) out.length ls at0 (out ++ (pw plain t out.length ls).2).length ∧
    ∀ k (p : Nat), findI (pw plain t out.length ls).1 k = p → findI t k = p ∨ (at0 ≤ p ∧ Fnd (out ++ (pw plain t out.length ls).2) k p) := by
  intro ls
  induction ls with
  | nil =>
    intro plain t out at0 h0 g ht H
    rw [pw_nil]
    refine ⟨fun rest row' size h1 h2 => ?_, fun k p h => .inl h⟩
    obtain ⟨hl, hc⟩ := get_at (o := out) (x := [0] ++ rest) (c := 0) (y := rest) rfl
    rw [List.append_assoc]
    rw [tk_end hl (by rw [hc]; rfl)]
    simp
  | cons l r ih =>
    intro plain t out at0 h0 g ht H
    have hl1 := g l (by simp)
    have gr : Nm.Good r := fun x hx => g x (by simp [hx])
    rw [tot] at ht
    by_cases hp : 0 ≤ findI t (Nm.glue (l :: r)) ∧ plain = false
    · rw [pw_ptr hp.1 hp.2]
      obtain ⟨q, hq⟩ : ∃ q : Nat, findI t (Nm.glue (l :: r)) = q := ⟨(findI t (Nm.glue (l :: r))).toNat, by omega⟩
      obtain ⟨hq0, ls', bh, hg1, hg2, hlt, hmx, hrd⟩ := H _ q hq (Nat.le_refl _)
      obtain rfl := glue_inj g hg2 hg1
      refine ⟨fun rest row' size h1 h2 => ?_, fun k p h => .inl h⟩
      rw [hq, show ((q : Int).toNat) = q from rfl, beb_two]
      simp only [List.append_assoc, List.cons_append, List.nil_append]
      obtain ⟨B, hB⟩ : ∃ B, out ++ UInt8.ofNat ((49152 + q) / 256) :: UInt8.ofNat (49152 + q) :: rest = B := ⟨_, rfl⟩
      have e0 : B[out.length]? = some (UInt8.ofNat ((49152 + q) / 256)) := by rw [← hB]; simp
      have e1 : B[out.length + 1]? = some (UInt8.ofNat (49152 + q)) := by rw [← hB]; simp
      obtain ⟨hl, hc⟩ := List.getElem?_eq_some_iff.1 e0
      obtain ⟨hl2, hc2⟩ := List.getElem?_eq_some_iff.1 e1
      have hd : q / 256 ≤ 63 := by omega
      have v0 : (B[out.length]'hl).toNat = 192 + q / 256 := by rw [hc]; simp; omega
      have v1 : (B[out.length + 1]'hl2).toNat = q % 256 := by rw [hc2]; simp <;> omega
      have hpl : ((B[out.length]'hl).toNat - 192) * 256 + (B[out.length + 1]'hl2).toNat = q := by rw [v0, v1]; omega
      have hj := tk_jump (row := row') (size := size) [] none hl (by rw [v0]; omega) hl2 (by rw [hpl]; omega)
      rw [fin_nil, hpl] at hj
      rw [hB, hj]
      have hr2 : tk B q q size = .ok (l :: r) bh := by
        have := hrd ([UInt8.ofNat ((49152 + q) / 256), UInt8.ofNat (49152 + q)] ++ rest) q size (Nat.le_refl _) h2
        rw [← hB]
        simpa using this
      rw [fin_some hr2]
      simp
    · rw [pw_lab hp]
      have hnext : (out ++ Nm.lab l).length = out.length + 1 + l.length := by simp [Nm.lab]; omega
      obtain ⟨T, hT⟩ : ∃ T, rem t (Nm.glue (l :: r)) out.length = T := ⟨_, rfl⟩
      have hlt : (Nm.glue r).length < (Nm.glue (l :: r)).length := by rw [glue_cons, List.length_append, Nm.lab_length]; omega
      have HT : ∀ k, k.length ≤ (Nm.glue r).length → findI T k = findI t k := fun k hk => by
        rw [← hT, rem_find_ne]
        intro e; rw [← e] at hk; omega
      obtain ⟨ih1, ih2⟩ := ih plain T (out ++ Nm.lab l) at0 (by rw [hnext]; omega) gr (by omega) (fun k p hf hk => by
        rw [HT k hk] at hf
        obtain ⟨h1, h2⟩ := H k p hf (by omega)
        exact ⟨h1, h2.more _⟩)
      rw [hnext] at ih1 ih2
      rw [hT]
      obtain ⟨R, hR⟩ : ∃ R, pw plain T (out.length + 1 + l.length) r = R := ⟨_, rfl⟩
      rw [hR] at ih1 ih2 ⊢
      simp only
      have hRd : Rdb (out ++ (Nm.lab l ++ R.2)) out.length (l :: r) at0 (out ++ (Nm.lab l ++ R.2)).length := by
        intro rest row' size h1 h2
        rw [tot] at h2
        rw [show out ++ (Nm.lab l ++ R.2) ++ rest = out ++ Nm.lab l ++ R.2 ++ rest from by simp]
        have hih := ih1 rest row' (size + 1 + l.length) h1 (by omega)
        obtain ⟨B, hB⟩ : ∃ B, out ++ Nm.lab l ++ R.2 ++ rest = B := ⟨_, rfl⟩
        rw [hB] at hih ⊢
        have e0 : B[out.length]? = some (UInt8.ofNat l.length) := by rw [← hB]; simp [Nm.lab]
        obtain ⟨hl, hc⟩ := List.getElem?_eq_some_iff.1 e0
        have v0 : (B[out.length]'hl).toNat = l.length := by rw [hc]; simp; omega
        have hBl : B.length = out.length + 1 + l.length + R.2.length + rest.length := by rw [← hB]; simp [Nm.lab]; omega
        have hlab : (B.drop (out.length + 1)).take l.length = l := by
          rw [← hB]
          have e : out ++ Nm.lab l ++ R.2 ++ rest = (out ++ [UInt8.ofNat l.length]) ++ (l ++ (R.2 ++ rest)) := by simp [Nm.lab]
          rw [e, show out.length + 1 = (out ++ [UInt8.ofNat l.length]).length from by simp, List.drop_left, List.take_left]
        have hj := tk_label (row := row') (size := size) [] none hl (by rw [v0]; omega) (by rw [v0]; omega) (by rw [v0]; omega) (by rw [v0]; omega)
        rw [fin_nil, v0, hlab] at hj
        rw [hj, fin_some hih]
        simp
      refine ⟨hRd, fun k p h => ?_⟩
      rcases ih2 k p h with h | ⟨h, hf⟩
      · by_cases hk : Nm.glue (l :: r) = k
        · by_cases h9 : 0 ≤ findI t (Nm.glue (l :: r))
          · rw [← hT, rem_there h9] at h; exact .inl h
          · by_cases h8 : 16383 < out.length
            · rw [← hT, rem_far h8] at h; exact .inl h
            · have h7 := h
              rw [← hT, rem_new h9 (by omega), findI_snoc, ← hk, if_neg h9, if_pos rfl] at h7
              have h6 : p = out.length := by omega
              subst h6
              right
              refine ⟨h0, l :: r, _, hk.symm, g, ?_, by omega, hRd.row h0⟩
              rw [List.length_append, List.length_append, Nm.lab_length]; omega
        · rw [← hT, rem_find_ne hk] at h; exact .inl h
      · right
        rw [show out ++ (Nm.lab l ++ R.2) = out ++ Nm.lab l ++ R.2 from by simp]
        exact ⟨h, hf⟩
/-- a name that is put behind sound bytes: it is read there, and all is sound again. -/
theorem pw_sound {ls : List By} {t : Tab} {b : By} (plain : Bool) (g : Nm.Good ls) (h255 : (Nm.glue ls).length ≤ 255) (hs : Snd b t) :
    Rdb (b ++ (pw plain t b.length ls).2) b.length ls b.length (b ++ (pw plain t b.length ls).2).length ∧ Snd (b ++ (pw plain t b.length ls).2) (pw plain t b.length ls).1 := by
  have hl := tot_glue ls
  obtain ⟨h1, h2⟩ := pw_read ls plain t b b.length (Nat.le_refl _) g (by omega) (fun k p hf _ => by
    have := hs k p hf
    obtain ⟨ls, bh, e1, e2, e3, e4⟩ := this
    exact ⟨e3, ls, bh, e1, e2, e3, e4⟩)
  refine ⟨h1, fun k p hf => ?_⟩
  rcases h2 k p hf with h | h
  · exact (hs k p h).more _
  · exact h.2
end Pr
end Go.Proofs.YtgcaephfhfkjcaaGreatDoor
namespace Go.Proofs.YtgcaephfhfkjcaaGreatDoor.Rd

/-- one part more: the table, the bytes. -/
def wr1 (d : Dt) (hl ml : List By) (n p : Nat) (T : Tab) (l : By) : Tab × By :=
  if 1 ≤ p ∧ p ≤ 4 then (T, l ++ d.raw)
  else if p = 5 then ((Pr.pw false T l.length hl).1, l ++ (Pr.pw false T l.length hl).2)
  else if p = 6 then ((Pr.pw true T l.length hl).1, l ++ (Pr.pw true T l.length hl).2)
  else if p = 7 then ((Pr.pw false T l.length ml).1, l ++ (Pr.pw false T l.length ml).2)
  else if p = 8 then (T, l ++ Oc.beb 2 (hasN d n))
  else if p = 9 then (T, l ++ Oc.beb 4 (hasN d n))
  else (T, l)
/-- all parts of a list. -/
def wrs (T : Tab) (l : By) (d : Dt) (hl ml : List By) (ps : List Nat) : Tab × By × Nat :=
  ps.foldl (fun s p => ((wr1 d hl ml s.2.2 p s.1 s.2.1).1, (wr1 d hl ml s.2.2 p s.1 s.2.1).2, s.2.2 + if p = 8 ∨ p = 9 then 1 else 0)) (T, l, 0)
theorem wrs_nil (T : Tab) (l : By) (d : Dt) (hl ml : List By) : wrs T l d hl ml [] = (T, l, 0) := rfl
theorem wrs_n (T : Tab) (l : By) (d : Dt) (hl ml : List By) (ps : List Nat) : (wrs T l d hl ml ps).2.2 = nums ps := by
  unfold wrs
  suffices H : ∀ (ps : List Nat) (s : Tab × By × Nat), (ps.foldl (fun s p => ((wr1 d hl ml s.2.2 p s.1 s.2.1).1, (wr1 d hl ml s.2.2 p s.1 s.2.1).2, s.2.2 + if p = 8 ∨ p = 9 then 1 else 0)) s).2.2 = s.2.2 + nums ps from by rw [H]; simp
  intro ps
  induction ps with
  | nil => intro s; rfl
  | cons p r ih =>
    intro s
    rw [List.foldl_cons, ih]
    have e : nums (p :: r) = (if p = 8 ∨ p = 9 then 1 else 0) + nums r := by
      unfold nums
      by_cases h : p = 8 ∨ p = 9
      · rw [if_pos h, List.filter_cons_of_pos (by simpa using h), List.length_cons]; omega
      · rw [if_neg h, List.filter_cons_of_neg (by simpa using h)]; omega
    rw [e]; simp only; omega
theorem wrs_snoc (T : Tab) (l : By) (d : Dt) (hl ml : List By) (ps : List Nat) (p : Nat) :
    (wrs T l d hl ml (ps ++ [p])).1 = (wr1 d hl ml (nums ps) p (wrs T l d hl ml ps).1 (wrs T l d hl ml ps).2.1).1 ∧ (wrs T l d hl ml (ps ++ [p])).2.1 = (wr1 d hl ml (nums ps) p (wrs T l d hl ml ps).1 (wrs T l d hl ml ps).2.1).2 := by
  have e := wrs_n T l d hl ml ps
  unfold wrs at e ⊢
  rw [List.foldl_append, List.foldl_cons, List.foldl_nil, e]
  exact ⟨rfl, rfl⟩
theorem wr1_raw {d : Dt} {hl ml : List By} {n p : Nat} {T : Tab} {l : By} (h1 : 1 ≤ p) (h4 : p ≤ 4) : wr1 d hl ml n p T l = (T, l ++ d.raw) := by unfold wr1; rw [if_pos ⟨h1, h4⟩]
end Go.Proofs.YtgcaephfhfkjcaaGreatDoor.Rd
namespace Go.Proofs.YtgcaephfhfkjcaaGreatDoor.Rd

/-- a part that stands at a place, and where it ends. -/
structure One (b : By) (d : Dt) (hl ml : List By) (n p i j : Nat) : Prop where
  le : i ≤ j
  top : j ≤ b.length
  none : p = 0 → j = i
  raw : 1 ≤ p → p ≤ 4 → j = i + d.raw.length ∧ (b.drop i).take d.raw.length = d.raw
  host : p = 5 ∨ p = 6 → Pr.Rdb b i hl i j
  mail : p = 7 → Pr.Rdb b i ml i j
  n16 : p = 8 → j = i + 2 ∧ Oc.num ((b.drop i).take 2) = hasN d n
  n32 : p = 9 → j = i + 4 ∧ Oc.num ((b.drop i).take 4) = hasN d n
theorem cut_more {b c : By} {i k : Nat} (h : i + k ≤ b.length) : ((b ++ c).drop i).take k = (b.drop i).take k := by
  rw [List.drop_append_of_le_length (by omega), List.take_append_of_le_length (by rw [List.length_drop]; omega)]
theorem One.more {b : By} {d : Dt} {hl ml : List By} {n p i j : Nat} (h : One b d hl ml n p i j) (c : By) : One (b ++ c) d hl ml n p i j := by
  obtain ⟨h1, h2, h3, h4, h5, h6, h7, h8⟩ := h
  refine ⟨h1, by rw [List.length_append]; omega, h3, fun a a' => ?_, fun a => (h5 a).more c, fun a => (h6 a).more c, fun a => ?_, fun a => ?_⟩
  · obtain ⟨e1, e2⟩ := h4 a a'
    exact ⟨e1, by rw [cut_more (by omega)]; exact e2⟩
  · obtain ⟨e1, e2⟩ := h7 a
    exact ⟨e1, by rw [cut_more (by omega)]; exact e2⟩
  · obtain ⟨e1, e2⟩ := h8 a
    exact ⟨e1, by rw [cut_more (by omega)]; exact e2⟩
/-- what a part asks of the data. -/
def Cond (d : Dt) (hl ml : List By) (n p : Nat) : Prop :=
  (p = 5 ∨ p = 6 → Nm.Good hl ∧ (Nm.glue hl).length ≤ 255) ∧ (p = 7 → Nm.Good ml ∧ (Nm.glue ml).length ≤ 255) ∧ (p = 8 → hasN d n < 65536) ∧ (p = 9 → hasN d n < 4294967296)
theorem cut_end (b x : By) : ((b ++ x).drop b.length).take x.length = x := by
  rw [List.drop_left]; exact List.take_length
theorem snd_more {b : By} {T : Tab} (h : Pr.Snd b T) (c : By) : Pr.Snd (b ++ c) T := fun k p hf => (h k p hf).more c
theorem wr1_step {d : Dt} {hl ml : List By} {n p : Nat} {T : Tab} {b : By} (hp : p ≤ 9) (hc : Cond d hl ml n p) (hs : Pr.Snd b T) :
    Pr.Snd (wr1 d hl ml n p T b).2 (wr1 d hl ml n p T b).1 ∧ One (wr1 d hl ml n p T b).2 d hl ml n p b.length (wr1 d hl ml n p T b).2.length ∧ ∃ R, (wr1 d hl ml n p T b).2 = b ++ R := by
  obtain ⟨c5, c7, c8, c9⟩ := hc
  by_cases h4 : 1 ≤ p ∧ p ≤ 4
  · rw [wr1_raw h4.1 h4.2]
    exact ⟨snd_more hs _, ⟨by simp, Nat.le_refl _, fun e => by omega, fun _ _ => ⟨List.length_append, cut_end _ _⟩, fun e => by omega, fun e => by omega, fun e => by omega, fun e => by omega⟩, _, rfl⟩
  by_cases h5 : p = 5
  · subst h5
    obtain ⟨g, h255⟩ := c5 (.inl rfl)
    obtain ⟨r1, r2⟩ := Pr.pw_sound (ls := hl) (t := T) (b := b) false g h255 hs
    exact ⟨r2, ⟨by show b.length ≤ (b ++ _).length; simp, Nat.le_refl _, fun e => by omega, fun _ e => by omega, fun _ => r1, fun e => by omega, fun e => by omega, fun e => by omega⟩, _, rfl⟩
  by_cases h6 : p = 6
  · subst h6
    obtain ⟨g, h255⟩ := c5 (.inr rfl)
    obtain ⟨r1, r2⟩ := Pr.pw_sound (ls := hl) (t := T) (b := b) true g h255 hs
    exact ⟨r2, ⟨by show b.length ≤ (b ++ _).length; simp, Nat.le_refl _, fun e => by omega, fun _ e => by omega, fun _ => r1, fun e => by omega, fun e => by omega, fun e => by omega⟩, _, rfl⟩
  by_cases h7 : p = 7
  · subst h7
    obtain ⟨g, h255⟩ := c7 rfl
    obtain ⟨r1, r2⟩ := Pr.pw_sound (ls := ml) (t := T) (b := b) false g h255 hs
    exact ⟨r2, ⟨by show b.length ≤ (b ++ _).length; simp, Nat.le_refl _, fun e => by omega, fun _ e => by omega, fun e => by omega, fun _ => r1, fun e => by omega, fun e => by omega⟩, _, rfl⟩
  by_cases h8 : p = 8
  · subst h8
    have e : wr1 d hl ml n 8 T b = (T, b ++ Oc.beb 2 (hasN d n)) := rfl
    rw [e]
    have h := cut_end b (Oc.beb 2 (hasN d n))
    rw [Oc.beb_length] at h
    exact ⟨snd_more hs _, ⟨by simp, Nat.le_refl _, fun e => by omega, fun _ e => by omega, fun e => by omega, fun e => by omega, fun _ => ⟨by rw [List.length_append, Oc.beb_length], by show Oc.num (((b ++ _).drop _).take 2) = _; rw [h]; rw [Oc.num_beb]; exact Nat.mod_eq_of_lt (c8 rfl)⟩, fun e => by omega⟩, _, rfl⟩
  by_cases h9 : p = 9
  · subst h9
    have e : wr1 d hl ml n 9 T b = (T, b ++ Oc.beb 4 (hasN d n)) := rfl
    rw [e]
    have h := cut_end b (Oc.beb 4 (hasN d n))
    rw [Oc.beb_length] at h
    exact ⟨snd_more hs _, ⟨by simp, Nat.le_refl _, fun e => by omega, fun _ e => by omega, fun e => by omega, fun e => by omega, fun e => by omega, fun _ => ⟨by rw [List.length_append, Oc.beb_length], by show Oc.num (((b ++ _).drop _).take 4) = _; rw [h]; rw [Oc.num_beb]; exact Nat.mod_eq_of_lt (c9 rfl)⟩⟩, _, rfl⟩
  obtain rfl : p = 0 := by omega
  have e : wr1 d hl ml n 0 T b = (T, b) := rfl
  rw [e]
  exact ⟨hs, ⟨Nat.le_refl _, Nat.le_refl _, fun _ => rfl, fun e => by omega, fun e => by omega, fun e => by omega, fun e => by omega, fun e => by omega⟩, [], by simp⟩
/-- all parts stand at their places. -/
def All (b : By) (d : Dt) (hl ml : List By) (ps : List Nat) (pos : Nat → Nat) : Prop := ∀ j (h : j < ps.length), One b d hl ml (nums (ps.take j)) (ps[j]'h) (pos j) (pos (j + 1))
theorem All.more {b : By} {d : Dt} {hl ml : List By} {ps : List Nat} {pos : Nat → Nat} (h : All b d hl ml ps pos) (c : By) : All (b ++ c) d hl ml ps pos := fun j hj => (h j hj).more c
/-- where the parts end. -/
def pos (T : Tab) (l : By) (d : Dt) (hl ml : List By) (ps : List Nat) (j : Nat) : Nat := (wrs T l d hl ml (ps.take j)).2.1.length
theorem wrs_all {T : Tab} {l : By} {d : Dt} {hl ml : List By} {ps : List Nat} (h9 : ∀ p ∈ ps, p ≤ 9) (hc : ∀ j (h : j < ps.length), Cond d hl ml (nums (ps.take j)) (ps[j]'h)) (hs : Pr.Snd l T) :
    Pr.Snd (wrs T l d hl ml ps).2.1 (wrs T l d hl ml ps).1 ∧ (∃ R, (wrs T l d hl ml ps).2.1 = l ++ R) ∧ All (wrs T l d hl ml ps).2.1 d hl ml ps (pos T l d hl ml ps) := by
  suffices H : ∀ k, k ≤ ps.length → Pr.Snd (wrs T l d hl ml (ps.take k)).2.1 (wrs T l d hl ml (ps.take k)).1 ∧ (∃ R, (wrs T l d hl ml (ps.take k)).2.1 = l ++ R) ∧
      ∀ j (h : j < ps.length), j < k → One (wrs T l d hl ml (ps.take k)).2.1 d hl ml (nums (ps.take j)) (ps[j]'h) (pos T l d hl ml ps j) (pos T l d hl ml ps (j + 1)) by
    obtain ⟨h1, h2, h3⟩ := H ps.length (Nat.le_refl _)
    rw [List.take_length] at h1 h2 h3
    exact ⟨h1, h2, fun j hj => h3 j hj hj⟩
  intro k
  induction k with
  | zero => intro _; exact ⟨by rw [List.take_zero, wrs_nil]; exact hs, ⟨[], by rw [List.take_zero, wrs_nil]; simp⟩, fun j _ h => by omega⟩
  | succ k ih =>
    intro hk
    obtain ⟨h1, ⟨R, h2⟩, h3⟩ := ih (by omega)
    have hkl : k < ps.length := by omega
    have e : ps.take (k + 1) = ps.take k ++ [ps[k]] := List.take_succ_eq_append_getElem hkl
    have hw := wrs_snoc T l d hl ml (ps.take k) ps[k]
    obtain ⟨s1, s2, R2, s3⟩ := wr1_step (h9 _ (List.getElem_mem hkl)) (hc k hkl) h1
    rw [e, hw.1, hw.2]
    refine ⟨s1, ⟨R ++ R2, by rw [s3, h2, List.append_assoc]⟩, fun j hj hjk => ?_⟩
    by_cases hlt : j < k
    · rw [s3]; exact (h3 j hj hlt).more R2
    · obtain rfl : j = k := by omega
      have hp : pos T l d hl ml ps (j + 1) = (wr1 d hl ml (nums (ps.take j)) ps[j] (wrs T l d hl ml (ps.take j)).1 (wrs T l d hl ml (ps.take j)).2.1).2.length := by
        unfold pos
        rw [e, hw.2]
      rw [hp]
      exact s2
/-- behind a part of Raw there is none. -/
theorem raw_only {t k : Nat} (hk : k < (parts t).length) (h1 : 1 ≤ (parts t)[k]) (h4 : (parts t)[k] ≤ 4) : k = 0 ∧ ∀ j (h : j < (parts t).length), 0 < j → (parts t)[j] = 0 := by
  have hx : ∀ l : List Nat, parts t = l → (∃ p, l = [p, 0, 0, 0, 0, 0, 0]) ∨ (∀ p ∈ l, ¬ (1 ≤ p ∧ p ≤ 4)) := by
    rintro l rfl
    refine by_type (P := fun t => (∃ p, parts t = [p, 0, 0, 0, 0, 0, 0]) ∨ (∀ p ∈ parts t, ¬ (1 ≤ p ∧ p ≤ 4))) (.inl ⟨_, rfl⟩) (.inl ⟨_, rfl⟩) (.inl ⟨_, rfl⟩) (.inr (by decide)) (.inl ⟨_, rfl⟩) (.inr (by decide)) (.inl ⟨_, rfl⟩) (.inl ⟨_, rfl⟩) (.inr (by decide)) (fun t a b c d e f g h i => .inl ⟨4, parts_other a b c d e f g h i⟩) t
  rcases hx _ rfl with ⟨p, e⟩ | e
  · have hz : ∀ j (h : j < (parts t).length), 0 < j → (parts t)[j] = 0 := by
      intro j h hj
      simp only [e] at h ⊢
      rcases (by simp at h; omega : j = 1 ∨ j = 2 ∨ j = 3 ∨ j = 4 ∨ j = 5 ∨ j = 6) with rfl | rfl | rfl | rfl | rfl | rfl <;> rfl
    refine ⟨?_, hz⟩
    by_cases h0 : k = 0
    · exact h0
    · have := hz k hk (by omega)
      omega
  · exact absurd ⟨h1, h4⟩ (e _ (List.getElem_mem hk))
theorem All.raw_end {b : By} {d : Dt} {hl ml : List By} {t : Nat} {q : Nat → Nat} (h : All b d hl ml (parts t) q) {k : Nat} (hk : k < (parts t).length) (h1 : 1 ≤ (parts t)[k]) (h4 : (parts t)[k] ≤ 4) : q (k + 1) = q 7 := by
  obtain ⟨rfl, hz⟩ := raw_only hk h1 h4
  have e : ∀ j, 1 ≤ j → j ≤ 7 → q j = q 1 := by
    intro j
    induction j with
    | zero => intro h; omega
    | succ j ih =>
      intro h0 h7
      by_cases hj : j = 0
      · subst hj; rfl
      · have hl : j < (parts t).length := by rw [parts_len]; omega
        rw [(h j hl).none (hz j hl (by omega)), ih (by omega) (by omega)]
  exact (e 7 (by omega) (by omega)).symm
theorem All.up {b : By} {d : Dt} {hl ml : List By} {t : Nat} {q : Nat → Nat} (h : All b d hl ml (parts t) q) : ∀ i j, i ≤ j → j ≤ 7 → q i ≤ q j := by
  intro i j hij
  induction j with
  | zero =>
    intro _
    rw [Nat.le_zero.1 hij]
    exact Nat.le_refl _
  | succ j ih =>
    intro h7
    by_cases he : i = j + 1
    · subst he; exact Nat.le_refl _
    · exact Nat.le_trans (ih (by omega) (by omega)) (h j (by rw [parts_len]; omega)).le
theorem All.top {b : By} {d : Dt} {hl ml : List By} {t : Nat} {q : Nat → Nat} (h : All b d hl ml (parts t) q) {j : Nat} (hj : j ≤ 7) : q j ≤ b.length :=
  Nat.le_trans (h.up j 7 hj (Nat.le_refl _)) ((h 6 (by rw [parts_len]; omega)).top)
end Go.Proofs.YtgcaephfhfkjcaaGreatDoor.Rd
namespace Go.Proofs.YtgcaephfhfkjcaaGreatDoor
open Go.RowKit Go.Shelf

def isBook : Obj → Bool
  | .loop _ => true
  | .deferred _ => true
  | _ => false
def isMapO : Obj → Bool
  | .map .. => true
  | _ => false
/-- whatever is no map, and lies at lo or beyond, lies as it lay. -/
structure Keeps (lo : Nat) (W W' : World) : Prop where
  size : W.heap.size ≤ W'.heap.size
  same : ∀ (k : Nat) (o : Obj), lo ≤ k → W.heap[k]? = some o → isMapO o = false → W'.heap[k]? = some o
theorem Keeps.refl (lo : Nat) (W : World) : Keeps lo W W := ⟨Nat.le_refl _, fun _ _ _ h _ => h⟩
theorem Keeps.trans {lo : Nat} {A B C : World} (h : Keeps lo A B) (k : Keeps lo B C) : Keeps lo A C := ⟨Nat.le_trans h.size k.size, fun i o hl hi ho => k.same i o hl (h.same i o hl hi ho) ho⟩
theorem Keeps.of_below {lo B : Nat} {W W' : World} (h : Below B W W') (hB : W.heap.size ≤ B) : Keeps lo W W' :=
  ⟨h.size, fun k o _ hk _ => (h.block k (by have := (Array.getElem?_eq_some_iff.1 hk).1; omega)).trans hk⟩
theorem Keeps.setCell {lo : Nat} {W : World} {p : Addr} (u : Value) (h : p.block < lo) : Keeps lo W (W.setCell p u) :=
  ⟨by simp, fun k o hl hk _ => (heap_setCell_other W p k u (by omega)).trans hk⟩
theorem Keeps.cell {lo : Nat} {W W' : World} {p : Addr} {v : Value} (h : Keeps lo W W') (hl : lo ≤ p.block) (hc : W.cell? p = some v) : W'.cell? p = some v := by
  obtain ⟨o, ho, hcs⟩ := cells_of_cell hc
  have : W'.heap[p.block]? = some o := h.same _ _ hl ho (by cases o <;> simp_all [isMapO, Obj.isCells])
  exact (World.cell?_of_block (this.trans ho.symm)).trans hc
theorem Keeps.has {lo : Nat} {W W' : World} {g : Nat} {t : TypeId} {cs : Array Value} (h : Keeps lo W W') (hl : lo ≤ g) (hc : Has W g t cs) : Has W' g t cs := h.same _ _ hl hc rfl

/-- what is said abides the book-keeping of a loop, and new blocks. -/
def Book (B : Nat) (I : Nat → World → Prop) : Prop :=
  ∀ i W W' row, I i W → W.grownBy W' row → (∀ r, row = some r → B ≤ r ∧ ∃ o : Obj, W.heap[r]? = some o ∧ isBook o = true) → I i W'
theorem grown_of_below {W W' : World} (h : Below W.heap.size W W') : W.grownBy W' none := ⟨h.os, h.tape, h.output, h.size, fun k hk _ => h.block k hk⟩
theorem Book.alloc {B : Nat} {I : Nat → World → Prop} (h : Book B I) {i : Nat} {W : World} (o : Obj) (hi : I i W) : I i (W.alloc o) := h i W _ none hi (World.grownBy_alloc W o none) (fun r e => by cases e)
variable {F : Fence} {n : Nat} {P : Program}

end Go.Proofs.YtgcaephfhfkjcaaGreatDoor
namespace Go.Proofs.YtgcaephfhfkjcaaGreatDoor
open Go.RowKit Go.Maps

theorem lit_key (l : List UInt8) : WideAt.IsKeyLit (.string l) := trivial
/-- what a map's datum holds is what a table finds. -/
def Hold (D : DataW Unit) (t : Tab) : Prop :=
  IsMap D ∧ ∀ k : List UInt8, Maps.has D (.string k) = decide (0 ≤ findI t k) ∧ (0 ≤ findI t k → ∀ z, D.atKey (.string k) z = .lit (.int .u16 (findI t k)))
set_option maxRecDepth 100000 in
theorem Hold.nil : Hold (.map []) [] := ⟨isMap_empty, fun k => ⟨rfl, fun h => absurd h (by simp [findI])⟩⟩
theorem Hold.put {D : DataW Unit} {t : Tab} (h : Hold D t) (k : List UInt8) (p : Nat) (hn : ¬ 0 ≤ findI t k) : Hold (D.put (.string k) (.lit (.int .u16 p))) (t ++ [(k, p)]) := by
  refine ⟨h.1.put _ _, fun x => ?_⟩
  rw [findI_snoc]
  by_cases hx : k = x
  · subst hx
    rw [has_put_same h.1 (lit_key k), if_neg hn, if_pos rfl]
    exact ⟨by simp, fun _ z => atKey_put_same h.1 (lit_key k) _ _⟩
  · have hne : Lit.string x ≠ Lit.string k := fun e => hx (by injection e with e; exact e.symm)
    rw [has_put_other hne, (h.2 x).1, if_neg hx]
    by_cases h9 : 0 ≤ findI t x
    · rw [if_pos h9]
      exact ⟨rfl, fun _ z => by rw [atKey_put_other hne]; exact (h.2 x).2 h9 z⟩
    · rw [if_neg h9]
      exact ⟨by simp [h9], fun h8 => absurd h8 (by omega)⟩
def MapIs (w : World) (m : Nat) (t : Tab) : Prop := ∃ D : DataW Unit, w.ownsMap Tryz.prog 22 (plainElem Tryz.prog 30) m t.length D ∧ Hold D t
/-- whatever is no map lies as it lay, but for block g; and all that lies below base. -/
structure Rg (g base : Nat) (w w' : World) : Prop where
  below : Below base w w'
  same : ∀ (k : Nat) (o : Obj), k ≠ g → w.heap[k]? = some o → isMapO o = false → w'.heap[k]? = some o
section
variable {g base : Nat} {w w' w2 : World}
set_option maxRecDepth 100000 in
theorem Rg.refl (g base : Nat) (w : World) : Rg g base w w := ⟨Below.refl _ _, fun _ _ _ h _ => h⟩
theorem Rg.trans (h : Rg g base w w') (k : Rg g base w' w2) : Rg g base w w2 := ⟨h.below.trans k.below, fun i o hi ho hn => k.same i o hi (h.same i o hi ho hn) hn⟩
set_option maxRecDepth 100000 in
theorem Rg.of_below (h : Below w.heap.size w w') (hb : base ≤ w.heap.size) : Rg g base w w' := ⟨⟨h.os, h.tape, h.output, h.size, fun k hk => h.block k (by omega)⟩, fun k o _ hk _ => (h.block k (Array.getElem?_eq_some_iff.1 hk).1).trans hk⟩
theorem Rg.has (h : Rg g base w w') {k : Nat} {t : TypeId} {cs : Array Value} (hk : Has w k t cs) (hn : k ≠ g) : Has w' k t cs := h.same k _ hn hk rfl
end
set_option maxRecDepth 100000 in
theorem MapIs.grown {w w' : World} {m : Nat} {t : Tab} {row : Option Nat} (h : MapIs w m t) (hg : w.grownBy w' row) (hne : some m ≠ row) : MapIs w' m t := by
  obtain ⟨D, h1, h2⟩ := h
  exact ⟨D, h1.kept hg hne, h2⟩
end Go.Proofs.YtgcaephfhfkjcaaGreatDoor
