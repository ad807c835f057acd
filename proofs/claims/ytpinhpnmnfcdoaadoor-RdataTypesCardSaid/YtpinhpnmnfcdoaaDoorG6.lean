/- Texts of the proofs, merged. -/
import Derived.Lib.Hide
import Derived.Test.YtpinhpnmnfcdoaaDoorG1
import Derived.Test.YtpinhpnmnfcdoaaDoorG3
import Derived.Test.YtpinhpnmnfcdoaaDoorG4
import Derived.Test.YtpinhpnmnfcdoaaDoorG2
import Derived.RangeFuncNested
import Derived.RangeFuncBound
import Derived.RangeFuncCalls
import Derived.RangeFuncLeaves
import Derived.Shelf.Abstract
import Derived.Shelf.RegionOpen
import Derived.OwnWalkIn
import Derived.TacticsInMore
import Derived.LoopNIn
import Derived.LoopIn
import Derived.Maps.OwnSet
import Derived.Maps.Views
/- Names in packets, as plain lists: what is read at a place, through pointers. Nothing of the program. -/
namespace Go.Proofs.YtpinhpnmnfcdoaaDoor.Pr

abbrev By := List UInt8
inductive TR where
  | err (e : Int)
  | ok (ls : List By) (behind : Nat)

theorem meas {p row L a : Nat} (h : p < row) : p * (L + 2) + (L + 1 - p) < row * (L + 2) + (L + 1 - a) := by
  have h1 : (p + 1) * (L + 2) ≤ row * (L + 2) := Nat.mul_le_mul_right _ h
  rw [Nat.add_mul] at h1
  omega

/-- the name at a place in a row that begins at 'row': its labels from there on, and the place behind the row's end. -/
def tk (b : By) (row at_ size : Nat) : TR :=
  if h : at_ < b.length then
    if (b[at_]'h).toNat = 0 then .ok [] (at_ + 1)
    else if 192 ≤ (b[at_]'h).toNat then
      if h2 : at_ + 1 < b.length then
        if _hp : ((b[at_]'h).toNat - 192) * 256 + (b[at_ + 1]'h2).toNat < row then
          match tk b (((b[at_]'h).toNat - 192) * 256 + (b[at_ + 1]'h2).toNat) (((b[at_]'h).toNat - 192) * 256 + (b[at_ + 1]'h2).toNat) size with
          | .err e => .err e
          | .ok ls _ => .ok ls (at_ + 2)
        else .err 30
      else .err 6
    else if 64 ≤ (b[at_]'h).toNat then .err 31
    else if b.length < at_ + 1 + (b[at_]'h).toNat then .err 6
    else if 255 < size + 1 + (b[at_]'h).toNat then .err 2
    else match tk b row (at_ + 1 + (b[at_]'h).toNat) (size + 1 + (b[at_]'h).toNat) with
      | .err e => .err e
      | .ok ls bh => .ok ((b.drop (at_ + 1)).take (b[at_]'h).toNat :: ls) bh
  else .err 6
termination_by row * (b.length + 2) + (b.length + 1 - at_)
decreasing_by
  · exact meas (by assumption)
  · omega

/-- what is told in the end, some labels and the place being known already. -/
def fin (acc : List By) (o : Option Nat) : TR → TR
  | .err e => .err e
  | .ok ls bh => .ok (acc ++ ls) (o.getD bh)
theorem fin_nil (r : TR) : fin [] none r = r := by cases r <;> rfl

section
variable {b : By} {row at_ size : Nat}
theorem tk_out (h : ¬ at_ < b.length) : tk b row at_ size = .err 6 := by rw [tk, dif_neg h]
theorem tk_end (h : at_ < b.length) (h0 : (b[at_]'h).toNat = 0) : tk b row at_ size = .ok [] (at_ + 1) := by rw [tk, dif_pos h, if_pos h0]
theorem tk_short (h : at_ < b.length) (h1 : 192 ≤ (b[at_]'h).toNat) (h2 : ¬ at_ + 1 < b.length) : tk b row at_ size = .err 6 := by
  rw [tk, dif_pos h, if_neg (by omega), if_pos h1, dif_neg h2]
theorem tk_back (h : at_ < b.length) (h1 : 192 ≤ (b[at_]'h).toNat) (h2 : at_ + 1 < b.length) (hp : ¬ ((b[at_]'h).toNat - 192) * 256 + (b[at_ + 1]'h2).toNat < row) : tk b row at_ size = .err 30 := by
  rw [tk, dif_pos h, if_neg (by omega), if_pos h1, dif_pos h2, dif_neg hp]
theorem tk_kind (h : at_ < b.length) (h1 : 64 ≤ (b[at_]'h).toNat) (h2 : ¬ 192 ≤ (b[at_]'h).toNat) : tk b row at_ size = .err 31 := by
  rw [tk, dif_pos h, if_neg (by omega), if_neg h2, if_pos h1]
theorem tk_few (h : at_ < b.length) (h0 : (b[at_]'h).toNat ≠ 0) (h1 : ¬ 64 ≤ (b[at_]'h).toNat) (h2 : b.length < at_ + 1 + (b[at_]'h).toNat) : tk b row at_ size = .err 6 := by
  rw [tk, dif_pos h, if_neg h0, if_neg (by omega), if_neg h1, if_pos h2]
theorem tk_long (h : at_ < b.length) (h0 : (b[at_]'h).toNat ≠ 0) (h1 : ¬ 64 ≤ (b[at_]'h).toNat) (h2 : ¬ b.length < at_ + 1 + (b[at_]'h).toNat) (h3 : 255 < size + 1 + (b[at_]'h).toNat) : tk b row at_ size = .err 2 := by
  rw [tk, dif_pos h, if_neg h0, if_neg (by omega), if_neg h1, if_neg h2, if_pos h3]
theorem tk_jump (acc : List By) (o : Option Nat) (h : at_ < b.length) (h1 : 192 ≤ (b[at_]'h).toNat) (h2 : at_ + 1 < b.length) (hp : ((b[at_]'h).toNat - 192) * 256 + (b[at_ + 1]'h2).toNat < row) :
    fin acc o (tk b row at_ size) = fin acc (some (o.getD (at_ + 2))) (tk b (((b[at_]'h).toNat - 192) * 256 + (b[at_ + 1]'h2).toNat) (((b[at_]'h).toNat - 192) * 256 + (b[at_ + 1]'h2).toNat) size) := by
  rw [tk, dif_pos h, if_neg (by omega), if_pos h1, dif_pos h2, dif_pos hp]
  cases tk b (((b[at_]'h).toNat - 192) * 256 + (b[at_ + 1]'h2).toNat) (((b[at_]'h).toNat - 192) * 256 + (b[at_ + 1]'h2).toNat) size <;> rfl
theorem tk_label (acc : List By) (o : Option Nat) (h : at_ < b.length) (h0 : (b[at_]'h).toNat ≠ 0) (h1 : ¬ 64 ≤ (b[at_]'h).toNat) (h2 : ¬ b.length < at_ + 1 + (b[at_]'h).toNat) (h3 : ¬ 255 < size + 1 + (b[at_]'h).toNat) :
    fin acc o (tk b row at_ size) = fin (acc ++ [(b.drop (at_ + 1)).take (b[at_]'h).toNat]) o (tk b row (at_ + 1 + (b[at_]'h).toNat) (size + 1 + (b[at_]'h).toNat)) := by
  rw [tk, dif_pos h, if_neg h0, if_neg (by omega), if_neg h1, if_neg h2, if_neg h3]
  cases tk b row (at_ + 1 + (b[at_]'h).toNat) (size + 1 + (b[at_]'h).toNat) <;> simp [fin]
end
/-- all labels' bytes, each with its length ahead. -/
def tot : List By → Nat
  | [] => 0
  | l :: r => l.length + 1 + tot r
theorem fin_ok {acc ls : List By} {o : Option Nat} {bh : Nat} {r : TR} (h : fin acc o r = .ok ls bh) : ∃ ls' bh', r = .ok ls' bh' ∧ ls = acc ++ ls' ∧ bh = o.getD bh' := by
  cases r with
  | err e => cases h
  | ok a c =>
    injection h with h1 h2
    exact ⟨a, c, rfl, h1.symm, h2.symm⟩
/-- what is read is sound: the place behind, the labels, how much they are together. -/
theorem tk_sound (b : By) : ∀ (m row at_ size : Nat) (ls : List By) (bh : Nat), row * (b.length + 2) + (b.length + 1 - at_) ≤ m → size ≤ 255 → tk b row at_ size = .ok ls bh →
    at_ < bh ∧ bh ≤ b.length ∧ (∀ l ∈ ls, 1 ≤ l.length ∧ l.length ≤ 63) ∧ size + tot ls ≤ 255 := by
  intro m
  induction m with
  | zero =>
    intro row at_ size ls bh hm _ h
    by_cases hlt : at_ < b.length
    · omega
    · rw [tk_out hlt] at h; cases h
  | succ m ih =>
    intro row at_ size ls bh hm hs h
    by_cases hlt : at_ < b.length
    · by_cases h0 : (b[at_]'hlt).toNat = 0
      · rw [tk_end hlt h0] at h
        injection h with h1 h2
        subst h1 h2
        exact ⟨by omega, by omega, (fun l hl => by cases hl), by simpa [tot] using hs⟩
      · by_cases h1 : 192 ≤ (b[at_]'hlt).toNat
        · by_cases h2 : at_ + 1 < b.length
          · by_cases hp : ((b[at_]'hlt).toNat - 192) * 256 + (b[at_ + 1]'h2).toNat < row
            · have hj := tk_jump (size := size) [] none hlt h1 h2 hp
              rw [fin_nil] at hj
              rw [hj] at h
              obtain ⟨ls', bh', hr, e1, e2⟩ := fin_ok h
              have hme := meas (L := b.length) (a := at_) hp
              obtain ⟨_, _, hg, ht⟩ := ih _ _ _ _ _ (by omega) hs hr
              simp at e1 e2
              subst e1 e2
              exact ⟨by omega, by omega, hg, ht⟩
            · rw [tk_back hlt h1 h2 hp] at h; cases h
          · rw [tk_short hlt h1 h2] at h; cases h
        · by_cases h3 : 64 ≤ (b[at_]'hlt).toNat
          · rw [tk_kind hlt h3 h1] at h; cases h
          · by_cases h4 : b.length < at_ + 1 + (b[at_]'hlt).toNat
            · rw [tk_few hlt h0 h3 h4] at h; cases h
            · by_cases h5 : 255 < size + 1 + (b[at_]'hlt).toNat
              · rw [tk_long hlt h0 h3 h4 h5] at h; cases h
              · have hj := tk_label (row := row) [] none hlt h0 h3 h4 h5
                rw [fin_nil] at hj
                rw [hj] at h
                obtain ⟨ls', bh', hr, e1, e2⟩ := fin_ok h
                obtain ⟨p1, p2, hg, ht⟩ := ih _ _ _ _ _ (by omega) (by omega) hr
                have hl : ((b.drop (at_ + 1)).take (b[at_]'hlt).toNat).length = (b[at_]'hlt).toNat := by rw [List.length_take, List.length_drop]; omega
                simp at e1 e2
                subst e1 e2
                refine ⟨by omega, p2, fun l hl2 => ?_, ?_⟩
                · rcases List.mem_cons.1 hl2 with rfl | hl3
                  · omega
                  · exact hg l hl3
                · rw [tot, hl]; omega
    · rw [tk_out hlt] at h; cases h
end Go.Proofs.YtpinhpnmnfcdoaaDoor.Pr
/- Names put into a packet one behind the other, and read again: plain lists. Nothing of the program. -/
namespace Go.Proofs.YtpinhpnmnfcdoaaDoor

/-- what is remembered: a name's bytes, and its place. -/
abbrev Tab := List (List UInt8 × Nat)
def findI : Tab → List UInt8 → Int
  | [], _ => -1
  | (m, p) :: r, n => if m = n then p else findI r n
theorem findI_at {t : Tab} {n : List UInt8} {k : Nat} (hk : k < t.length) : findI (t.drop k) n = if (t[k]'hk).1 = n then ((t[k]'hk).2 : Int) else findI (t.drop (k + 1)) n := by
  rw [List.drop_eq_getElem_cons hk, findI]
theorem findI_end {t : Tab} {n : List UInt8} : findI (t.drop t.length) n = -1 := by rw [List.drop_length]; rfl
theorem findI_neg {t : Tab} {n : List UInt8} (h : ¬ 0 ≤ findI t n) : findI t n = -1 := by
  induction t with
  | nil => rfl
  | cons x r ih =>
    obtain ⟨m, p⟩ := x
    unfold findI at h ⊢
    split
    · rename_i he; rw [if_pos he] at h; omega
    · rename_i he; rw [if_neg he] at h; exact ih h
theorem findI_snoc (t : Tab) (k n : List UInt8) (p : Nat) : findI (t ++ [(k, p)]) n = if 0 ≤ findI t n then findI t n else if k = n then (p : Int) else -1 := by
  induction t with
  | nil => simp [findI]
  | cons x r ih =>
    obtain ⟨m, q⟩ := x
    rw [List.cons_append, findI, findI]
    by_cases he : m = n
    · rw [if_pos he, if_pos he, if_pos (by omega)]
    · rw [if_neg he, if_neg he]; exact ih
theorem findI_max {t : Tab} {n : List UInt8} (h : ∀ x ∈ t, x.2 ≤ 16383) : findI t n ≤ 16383 := by
  induction t with
  | nil => simp [findI]
  | cons x r ih =>
    obtain ⟨m, q⟩ := x
    rw [findI]
    split
    · have := h (m, q) (by simp); simp at this; omega
    · exact ih (fun y hy => h y (by simp [hy]))

namespace Pr
/-- what is remembered, when a name is told to stand at a place. -/
def rem (t : Tab) (k : By) (p : Nat) : Tab := if 0 ≤ findI t k then t else if 16383 < p then t else t ++ [(k, p)]
theorem rem_there {t : Tab} {k : By} {p : Nat} (h : 0 ≤ findI t k) : rem t k p = t := by unfold rem; rw [if_pos h]
theorem rem_far {t : Tab} {k : By} {p : Nat} (h : 16383 < p) : rem t k p = t := by unfold rem; split <;> rfl
theorem rem_new {t : Tab} {k : By} {p : Nat} (h : ¬ 0 ≤ findI t k) (h2 : p ≤ 16383) : rem t k p = t ++ [(k, p)] := by unfold rem; rw [if_neg h, if_neg (by omega)]
theorem rem_find_ne {t : Tab} {k n : By} {p : Nat} (h : k ≠ n) : findI (rem t k p) n = findI t n := by
  unfold rem
  split
  · rfl
  · split
    · rfl
    · rw [findI_snoc, if_neg h]
      split
      · rfl
      · rename_i h3; rw [findI_neg h3]
theorem rem_len (t : Tab) (k : By) (p : Nat) : (rem t k p).length ≤ t.length + 1 := by
  unfold rem; split
  · omega
  · split
    · omega
    · simp
theorem rem_max {t : Tab} {k : By} {p : Nat} (h : ∀ x ∈ t, x.2 ≤ 16383) : ∀ x ∈ rem t k p, x.2 ≤ 16383 := by
  unfold rem; split
  · exact h
  · split
    · exact h
    · intro x hx
      rcases List.mem_append.1 hx with h1 | h1
      · exact h x h1
      · simp at h1; subst h1; simp; omega

/-- what is written of labels at a place, and what is remembered then. -/
def pw (plain : Bool) : Tab → Nat → List By → Tab × By
  | t, _, [] => (t, [0])
  | t, at_, l :: ls =>
    if 0 ≤ findI t (Nm.glue (l :: ls)) ∧ plain = false then (t, Oc.beb 2 (49152 + (findI t (Nm.glue (l :: ls))).toNat))
    else ((pw plain (rem t (Nm.glue (l :: ls)) at_) (at_ + 1 + l.length) ls).1, Nm.lab l ++ (pw plain (rem t (Nm.glue (l :: ls)) at_) (at_ + 1 + l.length) ls).2)
theorem pw_nil (plain : Bool) (t : Tab) (a : Nat) : pw plain t a [] = (t, [0]) := rfl
theorem pw_ptr {plain : Bool} {t : Tab} {a : Nat} {l : By} {ls : List By} (h : 0 ≤ findI t (Nm.glue (l :: ls))) (hp : plain = false) :
    pw plain t a (l :: ls) = (t, Oc.beb 2 (49152 + (findI t (Nm.glue (l :: ls))).toNat)) := by rw [pw, if_pos ⟨h, hp⟩]
theorem pw_lab {plain : Bool} {t : Tab} {a : Nat} {l : By} {ls : List By} (h : ¬ (0 ≤ findI t (Nm.glue (l :: ls)) ∧ plain = false)) :
    pw plain t a (l :: ls) = ((pw plain (rem t (Nm.glue (l :: ls)) a) (a + 1 + l.length) ls).1, Nm.lab l ++ (pw plain (rem t (Nm.glue (l :: ls)) a) (a + 1 + l.length) ls).2) := by rw [pw, if_neg h]

theorem glue_cons (l : By) (ls : List By) : Nm.glue (l :: ls) = Nm.lab l ++ Nm.glue ls := by simp [Nm.glue, Nm.body]
theorem tot_body (ls : List By) : tot ls = (Nm.body ls).length := by
  induction ls with
  | nil => rfl
  | cons l r ih => rw [tot, Nm.body_cons, List.length_append, Nm.lab_length, ih]
theorem tot_glue (ls : List By) : (Nm.glue ls).length = tot ls + 1 := by rw [Nm.glue_length, tot_body]
theorem glue_inj {a b : List By} (ga : Nm.Good a) (gb : Nm.Good b) (h : Nm.glue a = Nm.glue b) : a = b := by
  have h1 := Nm.sp_glue a ga
  have h2 := Nm.sp_glue b gb
  rw [h, h2] at h1
  exact (Option.some.inj h1).symm

theorem pw_len (plain : Bool) : ∀ (ls : List By) (t : Tab) (a : Nat), 1 ≤ (pw plain t a ls).2.length ∧ (pw plain t a ls).2.length ≤ (Nm.glue ls).length + 1 ∧ (Nm.Good ls → (pw plain t a ls).2.length ≤ (Nm.glue ls).length) ∧ (plain = true → (pw plain t a ls).2 = Nm.glue ls) := by
  intro ls
  induction ls with
  | nil => intro t a; rw [pw_nil]; simp [Nm.glue, Nm.body]
  | cons l r ih =>
    intro t a
    by_cases h : 0 ≤ findI t (Nm.glue (l :: r)) ∧ plain = false
    · rw [pw_ptr h.1 h.2]
      have := tot_glue (l :: r)
      rw [tot] at this
      refine ⟨by simp [Oc.beb], by simp [Oc.beb]; omega, fun g => ?_, fun hp => by rw [h.2] at hp; cases hp⟩
      have := g l (by simp)
      simp [Oc.beb]; omega
    · rw [pw_lab h]
      obtain ⟨h1, h2, h3, h4⟩ := ih (rem t (Nm.glue (l :: r)) a) (a + 1 + l.length)
      obtain ⟨R, hR⟩ : ∃ R, pw plain (rem t (Nm.glue (l :: r)) a) (a + 1 + l.length) r = R := ⟨_, rfl⟩
      rw [hR] at h1 h2 h3 h4 ⊢
      rw [glue_cons]
      simp only [List.length_append, Nm.lab_length]
      refine ⟨by omega, by omega, fun g => ?_, fun hp => by rw [h4 hp]⟩
      have := h3 (fun x hx => g x (by simp [hx]))
      omega
theorem pw_max (plain : Bool) : ∀ (ls : List By) (t : Tab) (a : Nat), (∀ x ∈ t, x.2 ≤ 16383) → ∀ x ∈ (pw plain t a ls).1, x.2 ≤ 16383 := by
  intro ls
  induction ls with
  | nil => intro t a h; exact h
  | cons l r ih =>
    intro t a h
    by_cases hc : 0 ≤ findI t (Nm.glue (l :: r)) ∧ plain = false
    · rw [pw_ptr hc.1 hc.2]; exact h
    · rw [pw_lab hc]; exact ih _ _ (rem_max h)
theorem pw_tab (plain : Bool) : ∀ (ls : List By) (t : Tab) (a : Nat), (pw plain t a ls).1.length ≤ t.length + ls.length := by
  intro ls
  induction ls with
  | nil => intro t a; simp [pw_nil]
  | cons l r ih =>
    intro t a
    by_cases hc : 0 ≤ findI t (Nm.glue (l :: r)) ∧ plain = false
    · rw [pw_ptr hc.1 hc.2]; simp
    · rw [pw_lab hc]
      have := ih (rem t (Nm.glue (l :: r)) a) (a + 1 + l.length)
      have := rem_len t (Nm.glue (l :: r)) a
      simp only [List.length_cons]; omega

/-- how far a writing has come: i labels are behind, T is remembered. -/
def Cont (plain : Bool) (t : Tab) (a : Nat) (ls : List By) (i : Nat) (T : Tab) : Prop :=
  pw plain t a ls = ((pw plain T (a + (Nm.body (ls.take i)).length) (ls.drop i)).1, Nm.body (ls.take i) ++ (pw plain T (a + (Nm.body (ls.take i)).length) (ls.drop i)).2)
theorem Cont.zero (plain : Bool) (t : Tab) (a : Nat) (ls : List By) : Cont plain t a ls 0 t := by simp [Cont, Nm.body]
theorem Cont.step {plain : Bool} {t T : Tab} {a i : Nat} {ls : List By} (h : Cont plain t a ls i T) (hi : i < ls.length) (hn : ¬ (0 ≤ findI T (Nm.glue (ls.drop i)) ∧ plain = false)) :
    Cont plain t a ls (i + 1) (rem T (Nm.glue (ls.drop i)) (a + (Nm.body (ls.take i)).length)) := by
  unfold Cont at h ⊢
  have e := List.drop_eq_getElem_cons hi
  have eb := Nm.take_succ_body hi
  have et : Nm.body (ls.take (i + 1)) = Nm.body (ls.take i) ++ Nm.lab ls[i] := by rw [List.take_succ_eq_append_getElem hi, Nm.body_append]; simp [Nm.body]
  rw [e] at h hn ⊢
  rw [pw_lab hn] at h
  rw [h, eb, et]
  simp only [List.append_assoc]
  have e2 : a + (Nm.body (ls.take i)).length + 1 + (ls[i]).length = a + ((Nm.body (ls.take i)).length + 1 + (ls[i]).length) := by omega
  rw [e2]
theorem Cont.ptr {t T : Tab} {a i : Nat} {ls : List By} (h : Cont false t a ls i T) (hi : i < ls.length) (hn : 0 ≤ findI T (Nm.glue (ls.drop i))) :
    pw false t a ls = (T, Nm.body (ls.take i) ++ Oc.beb 2 (49152 + (findI T (Nm.glue (ls.drop i))).toNat)) := by
  unfold Cont at h
  have e := List.drop_eq_getElem_cons hi
  rw [e] at h hn ⊢
  rw [h, pw_ptr hn rfl]
theorem Cont.done {plain : Bool} {t T : Tab} {a : Nat} {ls : List By} (h : Cont plain t a ls ls.length T) : pw plain t a ls = (T, Nm.glue ls) := by
  unfold Cont at h
  rw [h, List.drop_length, List.take_length, pw_nil]
  rfl
theorem glue_drop_lt {ls : List By} {i j : Nat} (hij : i < j) (hi : i < ls.length) : (Nm.glue (ls.drop j)).length < (Nm.glue (ls.drop i)).length := by
  have e : ls.drop i = (ls.drop i).take (j - i) ++ ls.drop j := by
    have := (List.take_append_drop (j - i) (ls.drop i)).symm
    rw [List.drop_drop] at this
    rwa [show i + (j - i) = j from by omega] at this
  rw [Nm.glue_length, Nm.glue_length]
  conv => rhs; rw [e, Nm.body_append, List.length_append]
  obtain ⟨x, hx⟩ : ∃ x, (ls.drop i).take (j - i) = x := ⟨_, rfl⟩
  have hl : 1 ≤ x.length := by rw [← hx]; simp; omega
  rw [hx]
  cases x with
  | nil => simp at hl
  | cons y r => rw [Nm.body_cons, List.length_append, Nm.lab_length]; omega
/-- what is remembered of this name is not asked for again within it. -/
def Ahead (t T : Tab) (ls : List By) (i : Nat) : Prop := ∀ j, i ≤ j → j < ls.length → findI T (Nm.glue (ls.drop j)) = findI t (Nm.glue (ls.drop j))
theorem Ahead.zero (t : Tab) (ls : List By) : Ahead t t ls 0 := fun _ _ _ => rfl
theorem Ahead.step {t T : Tab} {ls : List By} {i p : Nat} (h : Ahead t T ls i) (hi : i < ls.length) : Ahead t (rem T (Nm.glue (ls.drop i)) p) ls (i + 1) := fun j hj hl => by
  rw [rem_find_ne, h j (by omega) hl]
  intro e
  have := glue_drop_lt (ls := ls) (i := i) (j := j) (by omega) hi
  rw [e] at this
  omega

/-! ### reading again -/
/-- from a place on these labels are read, in a row that begins at 'row' or behind it. -/
def Rdb (b : By) (p : Nat) (ls : List By) (row bh : Nat) : Prop := ∀ rest row' size, row ≤ row' → size + tot ls ≤ 255 → tk (b ++ rest) row' p size = .ok ls bh
theorem Rdb.more {b : By} {p : Nat} {ls : List By} {row bh : Nat} (h : Rdb b p ls row bh) (c : By) : Rdb (b ++ c) p ls row bh := fun rest row' size h1 h2 => by
  rw [List.append_assoc]; exact h _ _ _ h1 h2
theorem Rdb.row {b : By} {p : Nat} {ls : List By} {row row2 bh : Nat} (h : Rdb b p ls row bh) (hr : row ≤ row2) : Rdb b p ls row2 bh := fun rest row' size h1 h2 => h rest row' size (by omega) h2
/-- what is found is a name that is read there. -/
def Fnd (b : By) (k : By) (p : Nat) : Prop := ∃ ls bh, k = Nm.glue ls ∧ Nm.Good ls ∧ p < b.length ∧ p ≤ 16383 ∧ Rdb b p ls p bh
def Snd (b : By) (t : Tab) : Prop := ∀ k (p : Nat), findI t k = p → Fnd b k p
theorem Snd.nil (b : By) : Snd b [] := fun k p h => by rw [findI] at h; omega
theorem Fnd.more {b k : By} {p : Nat} (h : Fnd b k p) (c : By) : Fnd (b ++ c) k p := by
  obtain ⟨ls, bh, h1, h2, h3, h4, h5⟩ := h
  exact ⟨ls, bh, h1, h2, by simp; omega, h4, h5.more c⟩

theorem fin_some {acc ls : List By} {o : Option Nat} {r : TR} {bh : Nat} (h : r = .ok ls bh) : fin acc o r = .ok (acc ++ ls) (o.getD bh) := by rw [h]; rfl
theorem get_at {o x y : By} {c : UInt8} (h : x = c :: y) : ∃ hl : o.length < (o ++ x).length, (o ++ x)[o.length]'hl = c := by
  subst h
  exact ⟨by simp, by simp⟩
theorem beb_two (q : Nat) : Oc.beb 2 (49152 + q) = [UInt8.ofNat ((49152 + q) / 256), UInt8.ofNat (49152 + q)] := by simp [Oc.beb]

theorem pw_read : ∀ (ls : List By) (plain : Bool) (t : Tab) (out : By) (at0 : Nat), at0 ≤ out.length → Nm.Good ls → tot ls ≤ 254 →
    (∀ k (p : Nat), findI t k = p → k.length ≤ (Nm.glue ls).length → p < at0 ∧ Fnd out k p) →
    Rdb (out ++ (pw plain t out.length ls).2) out.length ls at0 (out ++ (pw plain t out.length ls).2).length ∧
    ∀ k (p : Nat), findI (pw plain t out.length ls).1 k = p → findI t k = p ∨ (at0 ≤ p ∧ Fnd (out ++ (pw plain t out.length ls).2) k p) := by
  intro ls
  induction ls with
  | nil =>
    intro plain t out at0 h0 g ht H
    rw [pw_nil]
    refine ⟨fun rest row' size h1 h2 => ?_, fun k p h => .inl h⟩
    obtain ⟨hl, hc⟩ := get_at (o := out) (x := [0] ++ rest) (c := 0) (y := rest) rfl
    rw [List.append_assoc]
    rw [tk_end hl (by rw [hc]; rfl)]
    simp
  | cons l r ih =>
    intro plain t out at0 h0 g ht H
    have hl1 := g l (by simp)
    have gr : Nm.Good r := fun x hx => g x (by simp [hx])
    rw [tot] at ht
    by_cases hp : 0 ≤ findI t (Nm.glue (l :: r)) ∧ plain = false
    · rw [pw_ptr hp.1 hp.2]
      obtain ⟨q, hq⟩ : ∃ q : Nat, findI t (Nm.glue (l :: r)) = q := ⟨(findI t (Nm.glue (l :: r))).toNat, by omega⟩
      obtain ⟨hq0, ls', bh, hg1, hg2, hlt, hmx, hrd⟩ := H _ q hq (Nat.le_refl _)
      obtain rfl := glue_inj g hg2 hg1
      refine ⟨fun rest row' size h1 h2 => ?_, fun k p h => .inl h⟩
      rw [hq, show ((q : Int).toNat) = q from rfl, beb_two]
      simp only [List.append_assoc, List.cons_append, List.nil_append]
      obtain ⟨B, hB⟩ : ∃ B, out ++ UInt8.ofNat ((49152 + q) / 256) :: UInt8.ofNat (49152 + q) :: rest = B := ⟨_, rfl⟩
      have e0 : B[out.length]? = some (UInt8.ofNat ((49152 + q) / 256)) := by rw [← hB]; simp
      have e1 : B[out.length + 1]? = some (UInt8.ofNat (49152 + q)) := by rw [← hB]; simp
      obtain ⟨hl, hc⟩ := List.getElem?_eq_some_iff.1 e0
      obtain ⟨hl2, hc2⟩ := List.getElem?_eq_some_iff.1 e1
      have hd : q / 256 ≤ 63 := by omega
      have v0 : (B[out.length]'hl).toNat = 192 + q / 256 := by rw [hc]; simp; omega
      have v1 : (B[out.length + 1]'hl2).toNat = q % 256 := by rw [hc2]; simp <;> omega
      have hpl : ((B[out.length]'hl).toNat - 192) * 256 + (B[out.length + 1]'hl2).toNat = q := by rw [v0, v1]; omega
      have hj := tk_jump (row := row') (size := size) [] none hl (by rw [v0]; omega) hl2 (by rw [hpl]; omega)
      rw [fin_nil, hpl] at hj
      rw [hB, hj]
      have hr2 : tk B q q size = .ok (l :: r) bh := by
        have := hrd ([UInt8.ofNat ((49152 + q) / 256), UInt8.ofNat (49152 + q)] ++ rest) q size (Nat.le_refl _) h2
        rw [← hB]
        simpa using this
      rw [fin_some hr2]
      simp
    · rw [pw_lab hp]
      have hnext : (out ++ Nm.lab l).length = out.length + 1 + l.length := by simp [Nm.lab]; omega
      obtain ⟨T, hT⟩ : ∃ T, rem t (Nm.glue (l :: r)) out.length = T := ⟨_, rfl⟩
      have hlt : (Nm.glue r).length < (Nm.glue (l :: r)).length := by rw [glue_cons, List.length_append, Nm.lab_length]; omega
      have HT : ∀ k, k.length ≤ (Nm.glue r).length → findI T k = findI t k := fun k hk => by
        rw [← hT, rem_find_ne]
        intro e; rw [← e] at hk; omega
      obtain ⟨ih1, ih2⟩ := ih plain T (out ++ Nm.lab l) at0 (by rw [hnext]; omega) gr (by omega) (fun k p hf hk => by
        rw [HT k hk] at hf
        obtain ⟨h1, h2⟩ := H k p hf (by omega)
        exact ⟨h1, h2.more _⟩)
      rw [hnext] at ih1 ih2
      rw [hT]
      obtain ⟨R, hR⟩ : ∃ R, pw plain T (out.length + 1 + l.length) r = R := ⟨_, rfl⟩
      rw [hR] at ih1 ih2 ⊢
      simp only
      have hRd : Rdb (out ++ (Nm.lab l ++ R.2)) out.length (l :: r) at0 (out ++ (Nm.lab l ++ R.2)).length := by
        intro rest row' size h1 h2
        rw [tot] at h2
        rw [show out ++ (Nm.lab l ++ R.2) ++ rest = out ++ Nm.lab l ++ R.2 ++ rest from by simp]
        have hih := ih1 rest row' (size + 1 + l.length) h1 (by omega)
        obtain ⟨B, hB⟩ : ∃ B, out ++ Nm.lab l ++ R.2 ++ rest = B := ⟨_, rfl⟩
        rw [hB] at hih ⊢
        have e0 : B[out.length]? = some (UInt8.ofNat l.length) := by rw [← hB]; simp [Nm.lab]
        obtain ⟨hl, hc⟩ := List.getElem?_eq_some_iff.1 e0
        have v0 : (B[out.length]'hl).toNat = l.length := by rw [hc]; simp; omega
        have hBl : B.length = out.length + 1 + l.length + R.2.length + rest.length := by rw [← hB]; simp [Nm.lab]; omega
        have hlab : (B.drop (out.length + 1)).take l.length = l := by
          rw [← hB]
          have e : out ++ Nm.lab l ++ R.2 ++ rest = (out ++ [UInt8.ofNat l.length]) ++ (l ++ (R.2 ++ rest)) := by simp [Nm.lab]
          rw [e, show out.length + 1 = (out ++ [UInt8.ofNat l.length]).length from by simp, List.drop_left, List.take_left]
        have hj := tk_label (row := row') (size := size) [] none hl (by rw [v0]; omega) (by rw [v0]; omega) (by rw [v0]; omega) (by rw [v0]; omega)
        rw [fin_nil, v0, hlab] at hj
        rw [hj, fin_some hih]
        simp
      refine ⟨hRd, fun k p h => ?_⟩
      rcases ih2 k p h with h | ⟨h, hf⟩
      · by_cases hk : Nm.glue (l :: r) = k
        · by_cases h9 : 0 ≤ findI t (Nm.glue (l :: r))
          · rw [← hT, rem_there h9] at h; exact .inl h
          · by_cases h8 : 16383 < out.length
            · rw [← hT, rem_far h8] at h; exact .inl h
            · have h7 := h
              rw [← hT, rem_new h9 (by omega), findI_snoc, ← hk, if_neg h9, if_pos rfl] at h7
              have h6 : p = out.length := by omega
              subst h6
              right
              refine ⟨h0, l :: r, _, hk.symm, g, ?_, by omega, hRd.row h0⟩
              rw [List.length_append, List.length_append, Nm.lab_length]; omega
        · rw [← hT, rem_find_ne hk] at h; exact .inl h
      · right
        rw [show out ++ (Nm.lab l ++ R.2) = out ++ Nm.lab l ++ R.2 from by simp]
        exact ⟨h, hf⟩
/-- a name that is put behind sound bytes: it is read there, and all is sound again. -/
theorem pw_sound {ls : List By} {t : Tab} {b : By} (plain : Bool) (g : Nm.Good ls) (h255 : (Nm.glue ls).length ≤ 255) (hs : Snd b t) :
    Rdb (b ++ (pw plain t b.length ls).2) b.length ls b.length (b ++ (pw plain t b.length ls).2).length ∧ Snd (b ++ (pw plain t b.length ls).2) (pw plain t b.length ls).1 := by
  have hl := tot_glue ls
  obtain ⟨h1, h2⟩ := pw_read ls plain t b b.length (Nat.le_refl _) g (by omega) (fun k p hf _ => by
    have := hs k p hf
    obtain ⟨ls, bh, e1, e2, e3, e4⟩ := this
    exact ⟨e3, ls, bh, e1, e2, e3, e4⟩)
  refine ⟨h1, fun k p hf => ?_⟩
  rcases h2 k p hf with h | h
  · exact (hs k p h).more _
  · exact h.2
/-- of a table that remembers nothing all is written. -/
theorem pw_empty : ∀ (ls : List By) (t : Tab) (a : Nat), (∀ k (p : Nat), findI t k = p → (Nm.glue ls).length < k.length) → (pw false t a ls).2 = Nm.glue ls ∧ (ls ≠ [] → a ≤ 16383 → findI (pw false t a ls).1 (Nm.glue ls) = a) ∧
    (∀ k, (Nm.glue ls).length < k.length → findI (pw false t a ls).1 k = findI t k) := by
  intro ls
  induction ls with
  | nil => intro t a h; exact ⟨rfl, fun h => absurd rfl h, fun k _ => rfl⟩
  | cons l r ih =>
    intro t a h
    have hlt : (Nm.glue r).length < (Nm.glue (l :: r)).length := by rw [glue_cons, List.length_append, Nm.lab_length]; omega
    have hn : ¬ 0 ≤ findI t (Nm.glue (l :: r)) := fun h0 => by
      have := h (Nm.glue (l :: r)) (findI t (Nm.glue (l :: r))).toNat (by omega)
      omega
    rw [pw_lab (fun h0 => hn h0.1)]
    obtain ⟨h1, h2, h3⟩ := ih (rem t (Nm.glue (l :: r)) a) (a + 1 + l.length) (fun k p hf => by
      by_cases hk : Nm.glue (l :: r) = k
      · rw [← hk]; exact hlt
      · rw [rem_find_ne hk] at hf
        have := h k p hf
        omega)
    refine ⟨by rw [h1, ← glue_cons], fun _ ha => ?_, fun k hk => ?_⟩
    · rw [h3 _ hlt, rem_new hn ha, findI_snoc, if_neg hn, if_pos rfl]
    · rw [h3 _ (by omega), rem_find_ne (fun e => by rw [e] at hk; omega)]
end Pr
end Go.Proofs.YtpinhpnmnfcdoaaDoor
/- What the parts of data come to as bytes: the program's order of writing against the document's. Nothing of the program. -/
namespace Go.Proofs.YtpinhpnmnfcdoaaDoor.Rd

/-- one part more: the table, the bytes. -/
def wr1 (d : Dt) (hl ml : List By) (n p : Nat) (T : Tab) (l : By) : Tab × By :=
  if 1 ≤ p ∧ p ≤ 4 then (T, l ++ d.raw)
  else if p = 5 then ((Pr.pw false T l.length hl).1, l ++ (Pr.pw false T l.length hl).2)
  else if p = 6 then ((Pr.pw true T l.length hl).1, l ++ (Pr.pw true T l.length hl).2)
  else if p = 7 then ((Pr.pw false T l.length ml).1, l ++ (Pr.pw false T l.length ml).2)
  else if p = 8 then (T, l ++ Oc.beb 2 (hasN d n))
  else if p = 9 then (T, l ++ Oc.beb 4 (hasN d n))
  else (T, l)
/-- all parts of a list. -/
def wrs (T : Tab) (l : By) (d : Dt) (hl ml : List By) (ps : List Nat) : Tab × By × Nat :=
  ps.foldl (fun s p => ((wr1 d hl ml s.2.2 p s.1 s.2.1).1, (wr1 d hl ml s.2.2 p s.1 s.2.1).2, s.2.2 + if p = 8 ∨ p = 9 then 1 else 0)) (T, l, 0)
theorem wrs_nil (T : Tab) (l : By) (d : Dt) (hl ml : List By) : wrs T l d hl ml [] = (T, l, 0) := rfl
theorem wrs_n (T : Tab) (l : By) (d : Dt) (hl ml : List By) (ps : List Nat) : (wrs T l d hl ml ps).2.2 = nums ps := by
  unfold wrs
  suffices H : ∀ (ps : List Nat) (s : Tab × By × Nat), (ps.foldl (fun s p => ((wr1 d hl ml s.2.2 p s.1 s.2.1).1, (wr1 d hl ml s.2.2 p s.1 s.2.1).2, s.2.2 + if p = 8 ∨ p = 9 then 1 else 0)) s).2.2 = s.2.2 + nums ps from by rw [H]; simp
  intro ps
  induction ps with
  | nil => intro s; rfl
  | cons p r ih =>
    intro s
    rw [List.foldl_cons, ih]
    have e : nums (p :: r) = (if p = 8 ∨ p = 9 then 1 else 0) + nums r := by
      unfold nums
      by_cases h : p = 8 ∨ p = 9
      · rw [if_pos h, List.filter_cons_of_pos (by simpa using h), List.length_cons]; omega
      · rw [if_neg h, List.filter_cons_of_neg (by simpa using h)]; omega
    rw [e]; simp only; omega
theorem wrs_snoc (T : Tab) (l : By) (d : Dt) (hl ml : List By) (ps : List Nat) (p : Nat) :
    (wrs T l d hl ml (ps ++ [p])).1 = (wr1 d hl ml (nums ps) p (wrs T l d hl ml ps).1 (wrs T l d hl ml ps).2.1).1 ∧ (wrs T l d hl ml (ps ++ [p])).2.1 = (wr1 d hl ml (nums ps) p (wrs T l d hl ml ps).1 (wrs T l d hl ml ps).2.1).2 := by
  have e := wrs_n T l d hl ml ps
  unfold wrs at e ⊢
  rw [List.foldl_append, List.foldl_cons, List.foldl_nil, e]
  exact ⟨rfl, rfl⟩
theorem wr1_raw {d : Dt} {hl ml : List By} {n p : Nat} {T : Tab} {l : By} (h1 : 1 ≤ p) (h4 : p ≤ 4) : wr1 d hl ml n p T l = (T, l ++ d.raw) := by unfold wr1; rw [if_pos ⟨h1, h4⟩]
end Go.Proofs.YtpinhpnmnfcdoaaDoor.Rd
/- A range over a function whose rounds may make a map, and write it: one law for the caller. Nothing of the program. -/
namespace Go.Proofs.YtpinhpnmnfcdoaaDoor
open Go.RowKit Go.Shelf

def isBook : Obj → Bool
  | .loop _ => true
  | .deferred _ => true
  | _ => false
def isMapO : Obj → Bool
  | .map .. => true
  | _ => false
/-- whatever is no map, and lies at lo or beyond, lies as it lay. -/
structure Keeps (lo : Nat) (W W' : World) : Prop where
  size : W.heap.size ≤ W'.heap.size
  same : ∀ (k : Nat) (o : Obj), lo ≤ k → W.heap[k]? = some o → isMapO o = false → W'.heap[k]? = some o
theorem Keeps.refl (lo : Nat) (W : World) : Keeps lo W W := ⟨Nat.le_refl _, fun _ _ _ h _ => h⟩
theorem Keeps.trans {lo : Nat} {A B C : World} (h : Keeps lo A B) (k : Keeps lo B C) : Keeps lo A C := ⟨Nat.le_trans h.size k.size, fun i o hl hi ho => k.same i o hl (h.same i o hl hi ho) ho⟩
theorem Keeps.of_grown {lo : Nat} {W W' : World} {row : Option Nat} (hg : W.grownBy W' row) (hr : ∀ r, row = some r → r < lo ∨ ∃ o, W.heap[r]? = some o ∧ isMapO o = true) : Keeps lo W W' :=
  ⟨hg.size, fun k o hl hk ho => (hg.block k (Array.getElem?_eq_some_iff.1 hk).1 (fun e => by
    rcases hr k e.symm with h | ⟨o', h, h2⟩
    · omega
    · rw [hk] at h; cases h; rw [ho] at h2; cases h2)).trans hk⟩
theorem Keeps.of_below {lo B : Nat} {W W' : World} (h : Below B W W') (hB : W.heap.size ≤ B) : Keeps lo W W' :=
  ⟨h.size, fun k o _ hk _ => (h.block k (by have := (Array.getElem?_eq_some_iff.1 hk).1; omega)).trans hk⟩
theorem Keeps.setCell {lo : Nat} {W : World} {p : Addr} (u : Value) (h : p.block < lo) : Keeps lo W (W.setCell p u) :=
  ⟨by simp, fun k o hl hk _ => (heap_setCell_other W p k u (by omega)).trans hk⟩
theorem Keeps.cell {lo : Nat} {W W' : World} {p : Addr} {v : Value} (h : Keeps lo W W') (hl : lo ≤ p.block) (hc : W.cell? p = some v) : W'.cell? p = some v := by
  obtain ⟨o, ho, hcs⟩ := cells_of_cell hc
  have : W'.heap[p.block]? = some o := h.same _ _ hl ho (by cases o <;> simp_all [isMapO, Obj.isCells])
  exact (World.cell?_of_block (this.trans ho.symm)).trans hc
theorem Keeps.has {lo : Nat} {W W' : World} {g : Nat} {t : TypeId} {cs : Array Value} (h : Keeps lo W W') (hl : lo ≤ g) (hc : Has W g t cs) : Has W' g t cs := h.same _ _ hl hc rfl

/-- what is said abides the book-keeping of a loop, and new blocks. -/
def Book (B : Nat) (I : Nat → World → Prop) : Prop :=
  ∀ i W W' row, I i W → W.grownBy W' row → (∀ r, row = some r → B ≤ r ∧ ∃ o : Obj, W.heap[r]? = some o ∧ isBook o = true) → I i W'
theorem grown_of_below {W W' : World} (h : Below W.heap.size W W') : W.grownBy W' none := ⟨h.os, h.tape, h.output, h.size, fun k hk _ => h.block k hk⟩
theorem Book.grows {B : Nat} {I : Nat → World → Prop} (h : Book B I) {i : Nat} {W W' : World} (hi : I i W) (hb : Below W.heap.size W W') : I i W' := h i W W' none hi (grown_of_below hb) (fun r e => by cases e)
theorem Book.alloc {B : Nat} {I : Nat → World → Prop} (h : Book B I) {i : Nat} {W : World} (o : Obj) (hi : I i W) : I i (W.alloc o) := h i W _ none hi (World.grownBy_alloc W o none) (fun r e => by cases e)
theorem Book.putObj {B : Nat} {I : Nat → World → Prop} (h : Book B I) {i : Nat} {W : World} {l : Nat} {o : Obj} (o' : Obj) (hi : I i W) (hB : B ≤ l) (hl : W.heap[l]? = some o) (ho : isBook o = true) : I i (W.putObj l o') :=
  h i W _ (some l) hi (grownBy_putObj' W l o') (fun r e => by cases e; exact ⟨hB, o, hl, ho⟩)

/-- the contract of what is ranged over: N rounds, the i-th with these values. -/
def SeqN (F : Fence) (n : Nat) (P : Program) (g : Nat) (lb : Array Value) (enc : Nat → Array Value) (lo N : Nat) (w : World) : Prop :=
  ∀ (l : Nat) (J Jx : Nat → World → Prop) (W : World), Below w.heap.size w W →
    (∀ i A B, J i A → Below A.heap.size A B → J i B) →
    (∀ i W1, J i W1 → i < N → YieldAt F (n - 1) P l (enc i) W1 fun e W' =>
      (e = .returned (.bool true) ∧ J (i + 1) W' ∧ Keeps lo W1 W') ∨ (e = .returned (.bool false) ∧ Jx (i + 1) W')) →
    J 0 W →
    CallsIn F n P g (#[.func (.yield l) #[] #[]] ++ lb) W fun e W' => (∃ v, e = .returned v) ∧ (J N W' ∨ ∃ i, Jx i W')

/-- how a round may be left. -/
def postN (lo : Nat) (I : Nat → World → Prop) (Ix : Code → Nat → World → Prop) (i : Nat) (W : World) : Exit → Act → World → Prop
  | .normal, _, W' => Keeps lo W W' ∧ I i W'
  | .ret, _, W' => Keeps lo W W' ∧ Ix .ret i W'
  | .exit id, _, W' => Keeps lo W W' ∧ Ix (.exit id) i W'
  | .goto t, _, W' => Keeps lo W W' ∧ Ix (.goto t) i W'
  | .panic _, _, _ => False
  | .outgrown, _, _ => False

variable {F : Fence} {n : Nat} {P : Program}

theorem wpIn_rangeFunc_N {g : Operand} {ps : Array Tmp} {assign body : Code} {Q : Exit → Act → World → Prop} {a : Act} {w : World}
    (hro : F.round = none) (h1 : 1 ≤ n) {gf : Nat} {lb : Array Value} (hg : a.eval g = .func (.func gf) #[] lb) (hFg : F.fn gf) (eg : ∀ args w, (callFunc gf args).run P w = .ok (.enter gf args) w)
    {enc : Nat → Array Value} {lo N : Nat} (hlo : lo ≤ w.heap.size) (hseq : SeqN F (n - 1) P gf lb enc lo N w) (hps : ∀ i, (enc i).size = ps.size)
    (I : Nat → World → Prop) (Ix : Code → Nat → World → Prop) (hI : Book w.heap.size I) (hIx : ∀ c, Book w.heap.size (Ix c)) (h0 : I 0 w) (a₁ : Nat → Act)
    (hassign : ∀ (l i : Nat) (W : World) (K : Act → World → Prop), K (a₁ i) W →
      assign.wpIn (F.inRound l) (n - 1 - 1) P (Exit.then K (fun _ _ _ => False)) { tmps := (ps.zip (enc i)).foldl (fun t (p, v) => t.setIfInBounds p v) a.tmps, defers := [] } W)
    (hbody : ∀ (l i : Nat) (W : World), I i W → i < N → body.wpIn (F.inRound l) (n - 1 - 1) P (postN lo I Ix (i + 1) W) (a₁ i) W)
    (hdone : ∀ (D : Nat) (W : World), w.heap.size ≤ D → I N W → W.heap[D]? = some (.deferred (some [])) → Q .normal { a with defers := { target := .collected D, args := #[] } :: a.defers } W)
    (hstop : ∀ (D : Nat) (c : Code) (i : Nat) (W : World), w.heap.size ≤ D → Ix c i W → W.heap[D]? = some (.deferred (some [])) → c.wpIn F n P Q { a with defers := { target := .collected D, args := #[] } :: a.defers } W) :
    (Code.rangeFunc g ps assign body).wpIn F n P Q a w := by
  refine wpIn_rangeFunc ?_
  intro fn hfn
  rw [hro]
  obtain ⟨rec, hrec⟩ : ∃ rec : LoopState → Option Code → Loop, rec = fun st pe => { state := st, pending := pe, fn, tmps := a.tmps, params := ps, assign, body, defers := w.heap.size } := ⟨_, rfl⟩
  obtain ⟨W1, hW1⟩ : ∃ W1, (w.alloc (.deferred (some []))).alloc (.loop (rec .ready none)) = W1 := ⟨_, rfl⟩
  have hL1 : W1.heap[w.heap.size + 1]? = some (.loop (rec .ready none)) := by
    rw [← hW1]; have := World.alloc_heap_new (w.alloc (.deferred (some []))) (.loop (rec .ready none)); rwa [World.size_alloc] at this
  have hK1 : W1.heap[w.heap.size]? = some (.deferred (some [])) := by
    rw [← hW1]; exact (Below.heap_alloc _ _ _ (by simp)).trans (World.alloc_heap_new w _)
  have hI1 : I 0 W1 := by rw [← hW1]; exact hI.alloc _ (hI.alloc _ h0)
  have hb1 : Below w.heap.size w W1 := by
    rw [← hW1]; exact ((Below.refl _ w).alloc (Nat.le_refl _) _).alloc (by simp) _
  refine ⟨w.heap.size + 1, [{ target := .collected w.heap.size, args := #[] }], W1, { target := .fn (.func gf) lb, args := #[.func (.yield (w.heap.size + 1)) #[] #[]] }, W1, gf,
    #[.func (.yield (w.heap.size + 1)) #[] #[]] ++ lb, W1, ?_, ?_, ?_, ?_, fun _ => h1, ?_⟩
  · rw [← hW1, hrec]; exact run_enterLoop_outer _ _ _ _ _
  · simp only [resolve, hg]
    simp [go_sem]
  · intro f' hf'; simp [Target.leads] at hf'; subst hf'; exact hFg
  · simp [invoke, go_sem, eg]
  · refine (hseq (w.heap.size + 1)
      (fun i W => I i W ∧ W.heap[w.heap.size + 1]? = some (.loop (rec .ready none)) ∧ W.heap[w.heap.size]? = some (.deferred (some [])))
      (fun i W => ∃ c, Ix c i W ∧ W.heap[w.heap.size + 1]? = some (.loop (rec .done (some c))) ∧ W.heap[w.heap.size]? = some (.deferred (some [])))
      W1 hb1
      (fun i A B hs hb => ⟨hI.grows hs.1 hb, (hb.block _ (Array.getElem?_eq_some_iff.1 hs.2.1).1).trans hs.2.1, (hb.block _ (Array.getElem?_eq_some_iff.1 hs.2.2).1).trans hs.2.2⟩)
      ?_ ⟨hI1, hL1, hK1⟩).mono ?_
    · rintro i W ⟨hi, hl, hk⟩ hlen
      have hlt : w.heap.size + 1 < W.heap.size := (Array.getElem?_eq_some_iff.1 hl).1
      have hy := run_yield (P := P) (args := enc i) hl (by rw [hrec]; exact hps i)
      rw [hrec] at hy
      refine ⟨fn, _, assign, body, hy, roundIn_of_wpIn hfn (hassign _ i W _ ⟨_, run_beginRound hl (by rw [hrec]), ?_⟩)⟩
      have hl2 : (W.putObj (w.heap.size + 1) (.loop { rec .ready none with state := .busy })).heap[w.heap.size + 1]? = some (.loop { rec .ready none with state := .busy }) := World.putObj_heap_same hlt
      have hk2 : (W.putObj (w.heap.size + 1) (.loop { rec .ready none with state := .busy })).heap[w.heap.size]? = some (.deferred (some [])) := (World.putObj_heap_other (by omega)).trans hk
      have hput : ∀ (X : World) (o o' : Obj), X.heap[w.heap.size + 1]? = some o → ∀ k, k ≠ w.heap.size + 1 → (X.putObj (w.heap.size + 1) o').heap[k]? = X.heap[k]? := fun X o o' _ k hk => World.putObj_heap_other hk
      refine wpIn_mono (hbody _ i _ (hI.putObj _ hi (by omega) hl rfl) hlen) ?_
      have fin : ∀ (jump : Option Code) (W3 : World), Keeps lo (W.putObj (w.heap.size + 1) (.loop { rec .ready none with state := .busy })) W3 →
          (Instr.endRound (w.heap.size + 1) jump).run P W3 = .ok (.bool jump.isNone) (W3.putObj (w.heap.size + 1) (.loop (rec (if jump.isNone then .ready else .done) jump))) ∧
          W3.heap[w.heap.size + 1]? = some (.loop { rec .ready none with state := .busy }) ∧
          (W3.putObj (w.heap.size + 1) (.loop (rec (if jump.isNone then .ready else .done) jump))).heap[w.heap.size + 1]? = some (.loop (rec (if jump.isNone then .ready else .done) jump)) ∧
          (W3.putObj (w.heap.size + 1) (.loop (rec (if jump.isNone then .ready else .done) jump))).heap[w.heap.size]? = some (.deferred (some [])) := fun jump W3 hk3 => by
        have hl3 := hk3.same _ _ (by omega) hl2 rfl
        have := run_endRound (P := P) jump hl3
        rw [hrec] at this ⊢
        exact ⟨this, by rw [hrec] at hl3; exact hl3, World.putObj_heap_same (Array.getElem?_eq_some_iff.1 hl3).1, (World.putObj_heap_other (by omega)).trans (hk3.same _ _ hlo hk2 rfl)⟩
      rintro e a3 W3 hp
      cases e with
      | normal =>
        obtain ⟨hk3, hi3⟩ := hp
        obtain ⟨hr, hl3, hl4, hk4⟩ := fin none W3 hk3
        refine ⟨_, _, hr, .inl ⟨rfl, ⟨hI.putObj _ hi3 (by omega) hl3 rfl, hl4, hk4⟩, ?_⟩⟩
        refine ⟨by have := hk3.size; simp at this ⊢; exact this, fun k o hkl hko hno => ?_⟩
        by_cases e : k = w.heap.size + 1
        · subst e
          rw [hl] at hko
          cases hko
          exact hl4
        · rw [hput W3 _ _ hl3 k e]
          exact hk3.same k o hkl ((hput W _ _ hl k e).trans hko) hno
      | ret =>
        obtain ⟨hk3, hi3⟩ := hp
        obtain ⟨hr, hl3, hl4, hk4⟩ := fin (some .ret) W3 hk3
        exact ⟨_, _, hr, .inr ⟨rfl, .ret, (hIx _).putObj _ hi3 (by omega) hl3 rfl, hl4, hk4⟩⟩
      | exit id =>
        obtain ⟨hk3, hi3⟩ := hp
        obtain ⟨hr, hl3, hl4, hk4⟩ := fin (some (.exit id)) W3 hk3
        exact ⟨_, _, hr, .inr ⟨rfl, .exit id, (hIx _).putObj _ hi3 (by omega) hl3 rfl, hl4, hk4⟩⟩
      | goto t =>
        obtain ⟨hk3, hi3⟩ := hp
        obtain ⟨hr, hl3, hl4, hk4⟩ := fin (some (.goto t)) W3 hk3
        exact ⟨_, _, hr, .inr ⟨rfl, .goto t, (hIx _).putObj _ hi3 (by omega) hl3 rfl, hl4, hk4⟩⟩
      | panic ch => exact hp.elim
      | outgrown => exact hp.elim
    · rintro e W2 ⟨⟨v, rfl⟩, (⟨hi, hl, hk⟩ | ⟨i, c, hi, hl, hk⟩)⟩
      · exact ⟨none, _, by have := run_endLoop (P := P) hl (by rw [hrec]; simp); rw [hrec] at this; exact this, hdone _ _ (Nat.le_refl _) (hI.putObj _ hi (by omega) hl rfl) ((World.putObj_heap_other (by omega)).trans hk)⟩
      · exact ⟨some c, _, by have := run_endLoop (P := P) hl (by rw [hrec]; simp); rw [hrec] at this; exact this, hstop _ c i _ (Nat.le_refl _) ((hIx c).putObj _ hi (by omega) hl rfl) ((World.putObj_heap_other (by omega)).trans hk)⟩
end Go.Proofs.YtpinhpnmnfcdoaaDoor
/- The program's table of names: a map in a field. -/
namespace Go.Proofs.YtpinhpnmnfcdoaaDoor
open Go.RowKit Go.Maps

set_option maxRecDepth 100000 in
theorem nameKey : Keyed Tryd.prog 48 := string_keyed Tryd.underlying48
theorem zero16 (w : World) : (zeroValue 22).run Tryd.prog w = .ok (.int .u16 0) w := by kernel_rfl
set_option maxRecDepth 100000 in
theorem key_name {s : ByteArray} (hs : s.size ≤ 140737488355328) : keyOf Tryd.prog 48 (.string s) = some (.string s.data.toList) := WideMaps.keyOf_string_mk Tryd.underlying48 (by unfold maxLen; omega)
theorem lit_key (l : List UInt8) : WideAt.IsKeyLit (.string l) := trivial
set_option maxRecDepth 100000 in
theorem lit16 {p : Int} (h0 : 0 ≤ p) (h : p ≤ 16383) : (Lit.int .u16 p).wf = true := by
  have h1 : IntKind.u16.min = 0 := rfl
  have h2 : IntKind.u16.max = 65535 := rfl
  simp [Lit.wf, h1, h2]; omega

/-- what a map's datum holds is what a table finds. -/
def Hold (D : DataW Unit) (t : Tab) : Prop :=
  IsMap D ∧ ∀ k : List UInt8, Maps.has D (.string k) = decide (0 ≤ findI t k) ∧ (0 ≤ findI t k → ∀ z, D.atKey (.string k) z = .lit (.int .u16 (findI t k)))
set_option maxRecDepth 100000 in
theorem Hold.nil : Hold (.map []) [] := ⟨isMap_empty, fun k => ⟨rfl, fun h => absurd h (by simp [findI])⟩⟩
theorem Hold.put {D : DataW Unit} {t : Tab} (h : Hold D t) (k : List UInt8) (p : Nat) (hn : ¬ 0 ≤ findI t k) : Hold (D.put (.string k) (.lit (.int .u16 p))) (t ++ [(k, p)]) := by
  refine ⟨h.1.put _ _, fun x => ?_⟩
  rw [findI_snoc]
  by_cases hx : k = x
  · subst hx
    rw [has_put_same h.1 (lit_key k), if_neg hn, if_pos rfl]
    exact ⟨by simp, fun _ z => atKey_put_same h.1 (lit_key k) _ _⟩
  · have hne : Lit.string x ≠ Lit.string k := fun e => hx (by injection e with e; exact e.symm)
    rw [has_put_other hne, (h.2 x).1, if_neg hx]
    by_cases h9 : 0 ≤ findI t x
    · rw [if_pos h9]
      exact ⟨rfl, fun _ z => by rw [atKey_put_other hne]; exact (h.2 x).2 h9 z⟩
    · rw [if_neg h9]
      exact ⟨by simp [h9], fun h8 => absurd h8 (by omega)⟩
def MapIs (w : World) (m : Nat) (t : Tab) : Prop := ∃ D : DataW Unit, w.ownsMap Tryd.prog 48 (plainElem Tryd.prog 22) m t.length D ∧ Hold D t
/-- the table in memory. -/
def Tb (w : World) (g base : Nat) (mp : Option Nat) (t : Tab) : Prop :=
  base ≤ g ∧ Has w g 73 #[.map mp] ∧ (∀ x ∈ t, x.2 ≤ 16383) ∧ (mp = none → t = []) ∧ (∀ m, mp = some m → base ≤ m ∧ MapIs w m t)
set_option maxRecDepth 100000 in
theorem Tb.cell {w : World} {g base : Nat} {mp : Option Nat} {t : Tab} (h : Tb w g base mp t) : w.cell? ⟨g, 0, none⟩ = some (.map mp) := by rw [h.2.1.cell]; rfl

/-- whatever is no map lies as it lay, but for block g; and all that lies below base. -/
structure Rg (g base : Nat) (w w' : World) : Prop where
  below : Below base w w'
  same : ∀ (k : Nat) (o : Obj), k ≠ g → w.heap[k]? = some o → isMapO o = false → w'.heap[k]? = some o
section
variable {g base : Nat} {w w' w2 : World}
set_option maxRecDepth 100000 in
theorem Rg.refl (g base : Nat) (w : World) : Rg g base w w := ⟨Below.refl _ _, fun _ _ _ h _ => h⟩
theorem Rg.trans (h : Rg g base w w') (k : Rg g base w' w2) : Rg g base w w2 := ⟨h.below.trans k.below, fun i o hi ho hn => k.same i o hi (h.same i o hi ho hn) hn⟩
set_option maxRecDepth 100000 in
theorem Rg.of_below (h : Below w.heap.size w w') (hb : base ≤ w.heap.size) : Rg g base w w' := ⟨⟨h.os, h.tape, h.output, h.size, fun k hk => h.block k (by omega)⟩, fun k o _ hk _ => (h.block k (Array.getElem?_eq_some_iff.1 hk).1).trans hk⟩
theorem Rg.of_grown {row : Option Nat} (h : w.grownBy w' row) (hr : ∀ r, row = some r → base ≤ r ∧ (r = g ∨ ∃ o, w.heap[r]? = some o ∧ isMapO o = true)) (hb : base ≤ w.heap.size) : Rg g base w w' :=
  ⟨⟨h.os, h.tape, h.output, h.size, fun k hk => h.block k (by omega) (fun e => by have := (hr k e.symm).1; omega)⟩, fun k o hg hk hn => (h.block k (Array.getElem?_eq_some_iff.1 hk).1 (fun e => by
    rcases (hr k e.symm).2 with h1 | ⟨o', h1, h2⟩
    · exact hg h1
    · rw [hk] at h1; cases h1; rw [hn] at h2; cases h2)).trans hk⟩
set_option maxRecDepth 100000 in
theorem Rg.keeps (h : Rg g base w w') {lo : Nat} (hl : g < lo) : Keeps lo w w' := ⟨h.below.size, fun k o hk ho hn => h.same k o (by omega) ho hn⟩
theorem Rg.has (h : Rg g base w w') {k : Nat} {t : TypeId} {cs : Array Value} (hk : Has w k t cs) (hn : k ≠ g) : Has w' k t cs := h.same k _ hn hk rfl
end
set_option maxRecDepth 100000 in
theorem ownsMap_obj {w : World} {m n : Nat} {D : DataW Unit} {R : Value → Option (DataW Unit × List MemPlace)} {k : TypeId} (h : w.ownsMap Tryd.prog k R m n D) : ∃ o, w.heap[m]? = some o ∧ isMapO o = true := by
  obtain ⟨es, c, hb, _⟩ := h
  exact ⟨_, hb, rfl⟩
set_option maxRecDepth 100000 in
theorem map_obj {w : World} {m : Nat} {t : Tab} (h : MapIs w m t) : ∃ o, w.heap[m]? = some o ∧ isMapO o = true := by
  obtain ⟨D, h1, _⟩ := h
  exact ownsMap_obj h1
set_option maxRecDepth 100000 in
theorem MapIs.grown {w w' : World} {m : Nat} {t : Tab} {row : Option Nat} (h : MapIs w m t) (hg : w.grownBy w' row) (hne : some m ≠ row) : MapIs w' m t := by
  obtain ⟨D, h1, h2⟩ := h
  exact ⟨D, h1.kept hg hne, h2⟩
set_option maxRecDepth 100000 in
/-- the table lies as it lay, where its two blocks do. -/
theorem Tb.grown {w w' : World} {g base : Nat} {mp : Option Nat} {t : Tab} {row : Option Nat} (h : Tb w g base mp t) (hg : w.grownBy w' row) (h1 : some g ≠ row) (h2 : ∀ r, row = some r → ∀ o, w.heap[r]? = some o → isMapO o = false) : Tb w' g base mp t := by
  obtain ⟨a, b, c, d, e⟩ := h
  refine ⟨a, b.grown hg h1, c, d, fun m hm => ⟨(e m hm).1, (e m hm).2.grown hg (fun e2 => ?_)⟩⟩
  obtain ⟨o, ho, ho2⟩ := map_obj (e m hm).2
  rw [h2 m e2.symm o ho] at ho2
  cases ho2
set_option maxRecDepth 100000 in
theorem Tb.below {w w' : World} {g base : Nat} {mp : Option Nat} {t : Tab} (h : Tb w g base mp t) (hb : Below w.heap.size w w') : Tb w' g base mp t := h.grown (row := none) ⟨hb.os, hb.tape, hb.output, hb.size, fun k hk _ => hb.block k hk⟩ (by simp) (fun r e => by cases e)
theorem Tb.set {w : World} {g base k i : Nat} {mp : Option Nat} {t : Tab} {u : Value} {e : TypeId} {cs : Array Value} (h : Tb w g base mp t) (hk : k ≠ g) (hc : Has w k e cs) : Tb (w.setCell ⟨k, i, none⟩ u) g base mp t :=
  h.grown (row := some k) ⟨rfl, rfl, rfl, by simp, fun j _ hj => heap_setCell_other w ⟨k, i, none⟩ j u (fun e => hj (by rw [e]))⟩ (fun e => hk (by cases e; rfl)) (fun r e o ho => by cases e; rw [show w.heap[k]? = _ from hc] at ho; cases ho; rfl)

set_option maxRecDepth 100000 in
/-- what the map answers. -/
theorem look_tb {w : World} {g base : Nat} {mp : Option Nat} {t : Tab} (h : Tb w g base mp t) {s : ByteArray} (hs : s.size ≤ 140737488355328) :
    (Instr.lookup 71 (.map mp) (.string s) true).run Tryd.prog w = .ok (.tuple #[.int .u16 (if 0 ≤ findI t s.data.toList then findI t s.data.toList else 0), .bool (decide (0 ≤ findI t s.data.toList))]) w := by
  obtain ⟨_, _, _, d, e⟩ := h
  rcases mp with _ | m
  · have := look_nil (w := w) true nameKey Tryd.underlying71 (zero16 w) (key_name hs)
    rw [this, d rfl]
    rfl
  · obtain ⟨_, D, h1, h2, h3⟩ := e m rfl
    obtain ⟨v, ps, hrun, hv⟩ := h1.look_ok nameKey Tryd.underlying71 (zero16 w) (plainElem_int Tryd.underlying22 (by decide)) (key_name hs)
    obtain ⟨c, rfl, hc, hwc⟩ := plainElem_int_inv Tryd.underlying22 hv
    rw [hrun, (h3 _).1]
    have hc1 := congrArg Prod.fst hc
    simp only at hc1
    by_cases h9 : 0 ≤ findI t s.data.toList
    · rw [(h3 _).2 h9] at hc1
      rw [if_pos h9]
      injection hc1 with hc1
      injection hc1 with _ hc1
      rw [hc1]
    · rw [atKey_of_not_has (by rw [(h3 _).1]; simp [h9])] at hc1
      rw [if_neg h9]
      injection hc1 with hc1
      injection hc1 with _ hc1
      rw [hc1]
set_option maxRecDepth 100000 in
/-- a store into the map. -/
theorem store_tb {w : World} {m : Nat} {t : Tab} (h : MapIs w m t) {s : ByteArray} (hs : s.size ≤ 140737488355328) (hn : ¬ 0 ≤ findI t s.data.toList) (hl : t.length ≤ 140737488355000) {p : Nat} (hp : p ≤ 16383) :
    ∃ w', (Instr.mapUpdate 71 (.map (some m)) (.string s) (.int .u16 p)).run Tryd.prog w = .ok () w' ∧ MapIs w' m (t ++ [(s.data.toList, p)]) ∧ w.grownBy w' (some m) := by
  obtain ⟨D, h1, h2⟩ := h
  obtain ⟨w', hr, a, b⟩ := h1.update nameKey Tryd.underlying71 (by unfold maxLen; omega) (key_name hs) (plainElem_int (H := Unit) Tryd.underlying22 (lit16 (p := p) (by omega) (by omega)))
  exact ⟨w', hr, ⟨_, by rw [List.length_append]; exact a, h2.put _ _ hn⟩, b⟩

set_option maxRecDepth 100000 in
theorem pcheck_any (g : Nat) (s : ByteArray) (w : World) (hs : s.size ≤ 140737488355328) :
    Calls Tryd.prog 49 #[.pointer (some ⟨g, 0, none⟩), .string s] w fun e w' => e = .returned (.int .i64 (if (Nm.split s.data.toList).isSome then 0 else 11)) ∧ Below w.heap.size w w' := by
  have HC := Lib.hid (Check_any s w hs)
  go_enter Tryd.func49, Tryd.ntmps49
  generalize (if (Nm.split s.data.toList).isSome then (0 : Int) else 11) = r at *
  go_wp2_with (go_at_call 39; refine HC.out.mono ?_; rintro e w1 ⟨rfl, hb1⟩)
  go_ret
  exact ⟨rfl, hb1⟩
set_option maxRecDepth 100000 in
theorem pcheck_nil (s : ByteArray) (w : World) :
    Calls Tryd.prog 49 #[.pointer none, .string s] w fun e w' => e = .returned (.int .i64 8) ∧ w = w' := by
  go_enter Tryd.func49, Tryd.ntmps49
  go_wp2
  go_ret
  exact ⟨rfl, rfl⟩

set_option maxHeartbeats 800000 in
set_option maxRecDepth 100000 in
theorem remember_any (g base : Nat) (mp : Option Nat) (t : Tab) (s : ByteArray) (p : Nat) (w : World) (h : Tb w g base mp t) (hb : base ≤ w.heap.size) (hs : s.size ≤ 140737488355328) (hl : t.length ≤ 140737488355000) (hp : p ≤ 281474976710656) :
    Calls Tryd.prog 51 #[.pointer (some ⟨g, 0, none⟩), .string s, .int .i64 p] w fun e w' => e = .returned (.tuple #[]) ∧ ∃ mp', Tb w' g base mp' (Pr.rem t s.data.toList p) ∧ Rg g base w w' := by
  have c0 := h.cell
  have f0 := h.2.1.free 0
  have hlk := look_tb h hs
  have HT := Lib.hid h
  have hq := fun (w : World) (r : Option Nat) => run_eql_map_nil (P := Tryd.prog) w 71 48 22 r Tryd.underlying71
  clear h
  by_cases hf : 0 ≤ findI t s.data.toList
  · have HR := Lib.hid (Pr.rem_there (p := p) hf)
    rw [if_pos hf, decide_eq_true hf] at hlk
    clear hf
    go_enter Tryd.func51, Tryd.ntmps51
    go_wp2
    refine bodyPost_ret (results_none rfl _ _ _) rfl ?_
    exact ⟨rfl, mp, by rw [HR.out]; exact HT.out, Rg.refl _ _ _⟩
  · rw [if_neg hf, decide_eq_false hf] at hlk
    by_cases hfar : 16383 < p
    · have HR := Lib.hid (Pr.rem_far (t := t) (k := s.data.toList) hfar)
      clear hf
      go_enter Tryd.func51, Tryd.ntmps51
      go_wp2
      refine bodyPost_ret (results_none rfl _ _ _) rfl ?_
      exact ⟨rfl, mp, by rw [HR.out]; exact HT.out, Rg.refl _ _ _⟩
    · have HR := Lib.hid (Pr.rem_new hf (by omega : p ≤ 16383))
      have HF := Lib.hid hf
      have hw16 : IntKind.u16.wrap (p : Int) = p := by rw [IntKind.wrap_u16]; omega
      clear hf
      rcases mp with _ | m
      · have hnil := HT.out.2.2.2.1 rfl
        have hmk := @run_makeMap Tryd.prog
        have hM : MapIs ((w.alloc (.map #[] 0)).setCell ⟨g, 0, none⟩ (.map (some w.heap.size))) w.heap.size [] := by
          refine MapIs.grown (w := w.alloc (.map #[] 0)) (row := some g) ⟨_, World.ownsMap_made _ _ _ _, Hold.nil⟩ ⟨rfl, rfl, rfl, by simp, fun j _ hj => heap_setCell_other _ ⟨g, 0, none⟩ j _ (fun e => hj (by rw [e]))⟩ (fun e => by have := HT.out.2.1.lt; injection e with e; omega)
        obtain ⟨w2, hr2, hM2, hg2⟩ := store_tb hM hs (by simp [findI]) (by simp) (p := p) (by omega)
        have hH1 := HT.out.2.1.alloc (.map #[] 0)
        have c1 : (w.alloc (.map #[] 0)).cell? ⟨g, 0, none⟩ = some (.map none) := by rw [hH1.cell]; rfl
        have f1 : (w.alloc (.map #[] 0)).frozen? ⟨g, 0, none⟩ = false := hH1.free 0
        have c2 : ((w.alloc (.map #[] 0)).setCell ⟨g, 0, none⟩ (.map (some w.heap.size))).cell? ⟨g, 0, none⟩ = some (.map (some w.heap.size)) := by rw [(hH1.set 0 _).cell]; rfl
        clear hH1
        have HM := Lib.hid hM
        have HM2 := Lib.hid hM2
        have HG2 := Lib.hid hg2
        have HN := Lib.hid hnil
        clear hM hM2 hg2 hnil
        go_enter Tryd.func51, Tryd.ntmps51
        go_wp2
        go_end0
        have hlt := HT.out.2.1.lt
        have hH : Has ((w.alloc (.map #[] 0)).setCell ⟨g, 0, none⟩ (.map (some w.heap.size))) g 73 #[.map (some w.heap.size)] := (HT.out.2.1.alloc _).set 0 _
        refine ⟨rfl, ⟨some w.heap.size, HT.out.1, hH.grown HG2.out (fun e => by injection e with e; omega), ?_, (fun e => by cases e), fun m' e => ?_⟩, ?_⟩
        · exact Pr.rem_max HT.out.2.2.1
        · cases e
          exact ⟨hb, by rw [HR.out, HN.out]; exact HM2.out⟩
        · refine Rg.trans (w' := (w.alloc (.map #[] 0)).setCell ⟨g, 0, none⟩ (.map (some w.heap.size))) ?_ (Rg.of_grown HG2.out (fun r e => by cases e; exact ⟨hb, .inr (map_obj HM.out)⟩) (by simp; omega))
          refine Rg.trans (w' := w.alloc (.map #[] 0)) (Rg.of_below ((Below.refl _ _).alloc (Nat.le_refl _) _) hb) (Rg.of_grown (row := some g) ⟨rfl, rfl, rfl, by simp, fun j _ hj => heap_setCell_other _ ⟨g, 0, none⟩ j _ (fun e => hj (by rw [e]))⟩ (fun r e => by cases e; exact ⟨HT.out.1, .inl rfl⟩) (by simp; omega))
      · obtain ⟨hbm, hMI⟩ := HT.out.2.2.2.2 m rfl
        obtain ⟨w2, hr2, hM2, hg2⟩ := store_tb hMI hs HF.out hl (p := p) (by omega)
        have HMI := Lib.hid hMI
        have HM2 := Lib.hid hM2
        have HG2 := Lib.hid hg2
        clear hM2 hg2 hMI
        go_enter Tryd.func51, Tryd.ntmps51
        go_wp2
        go_end0
        obtain ⟨om, hom, hom2⟩ := map_obj HMI.out
        refine ⟨rfl, ⟨some m, HT.out.1, HT.out.2.1.grown HG2.out (fun e => ?_), Pr.rem_max HT.out.2.2.1, (fun e => by cases e), fun m' e => ?_⟩, Rg.of_grown HG2.out (fun r e => by cases e; exact ⟨hbm, .inr ⟨om, hom, hom2⟩⟩) hb⟩
        · injection e with e
          subst e
          rw [show w.heap[g]? = _ from HT.out.2.1] at hom
          cases hom
          cases hom2
        · cases e
          exact ⟨hbm, by rw [HR.out]; exact HM2.out⟩
end Go.Proofs.YtpinhpnmnfcdoaaDoor
