/- Names put into a packet one behind the other, and read again: plain lists. Nothing of the program. -/
import Derived.Test.YtfekmolgiohegaaPrPure
import Derived.Test.YtfekmolgiohegaaPure
import Derived.Test.YtfekmolgiohegaaOctPure
namespace Go.Proofs.Ytfekmolgiohegaa

/-- what is remembered: a name's bytes, and its place. -/
abbrev Tab := List (List UInt8 × Nat)
def findI : Tab → List UInt8 → Int
  | [], _ => -1
  | (m, p) :: r, n => if m = n then p else findI r n
theorem findI_at {t : Tab} {n : List UInt8} {k : Nat} (hk : k < t.length) : findI (t.drop k) n = if (t[k]'hk).1 = n then ((t[k]'hk).2 : Int) else findI (t.drop (k + 1)) n := by
  rw [List.drop_eq_getElem_cons hk, findI]
theorem findI_end {t : Tab} {n : List UInt8} : findI (t.drop t.length) n = -1 := by rw [List.drop_length]; rfl
theorem findI_neg {t : Tab} {n : List UInt8} (h : ¬ 0 ≤ findI t n) : findI t n = -1 := by
  induction t with
  | nil => rfl
  | cons x r ih =>
    obtain ⟨m, p⟩ := x
    unfold findI at h ⊢
    split
    · rename_i he; rw [if_pos he] at h; omega
    · rename_i he; rw [if_neg he] at h; exact ih h
theorem findI_snoc (t : Tab) (k n : List UInt8) (p : Nat) : findI (t ++ [(k, p)]) n = if 0 ≤ findI t n then findI t n else if k = n then (p : Int) else -1 := by
  induction t with
  | nil => simp [findI]
  | cons x r ih =>
    obtain ⟨m, q⟩ := x
    rw [List.cons_append, findI, findI]
    by_cases he : m = n
    · rw [if_pos he, if_pos he, if_pos (by omega)]
    · rw [if_neg he, if_neg he]; exact ih
theorem findI_max {t : Tab} {n : List UInt8} (h : ∀ x ∈ t, x.2 ≤ 16383) : findI t n ≤ 16383 := by
  induction t with
  | nil => simp [findI]
  | cons x r ih =>
    obtain ⟨m, q⟩ := x
    rw [findI]
    split
    · have := h (m, q) (by simp); simp at this; omega
    · exact ih (fun y hy => h y (by simp [hy]))

namespace Pr
/-- what is remembered, when a name is told to stand at a place. -/
def rem (t : Tab) (k : By) (p : Nat) : Tab := if 0 ≤ findI t k then t else if 16383 < p then t else t ++ [(k, p)]
theorem rem_there {t : Tab} {k : By} {p : Nat} (h : 0 ≤ findI t k) : rem t k p = t := by unfold rem; rw [if_pos h]
theorem rem_far {t : Tab} {k : By} {p : Nat} (h : 16383 < p) : rem t k p = t := by unfold rem; split <;> rfl
theorem rem_new {t : Tab} {k : By} {p : Nat} (h : ¬ 0 ≤ findI t k) (h2 : p ≤ 16383) : rem t k p = t ++ [(k, p)] := by unfold rem; rw [if_neg h, if_neg (by omega)]
theorem rem_find_ne {t : Tab} {k n : By} {p : Nat} (h : k ≠ n) : findI (rem t k p) n = findI t n := by
  unfold rem
  split
  · rfl
  · split
    · rfl
    · rw [findI_snoc, if_neg h]
      split
      · rfl
      · rename_i h3; rw [findI_neg h3]
theorem rem_len (t : Tab) (k : By) (p : Nat) : (rem t k p).length ≤ t.length + 1 := by
  unfold rem; split
  · omega
  · split
    · omega
    · simp
theorem rem_max {t : Tab} {k : By} {p : Nat} (h : ∀ x ∈ t, x.2 ≤ 16383) : ∀ x ∈ rem t k p, x.2 ≤ 16383 := by
  unfold rem; split
  · exact h
  · split
    · exact h
    · intro x hx
      rcases List.mem_append.1 hx with h1 | h1
      · exact h x h1
      · simp at h1; subst h1; simp; omega

/-- what is written of labels at a place, and what is remembered then. -/
def pw (plain : Bool) : Tab → Nat → List By → Tab × By
  | t, _, [] => (t, [0])
  | t, at_, l :: ls =>
    if 0 ≤ findI t (Nm.glue (l :: ls)) ∧ plain = false then (t, Oc.beb 2 (49152 + (findI t (Nm.glue (l :: ls))).toNat))
    else ((pw plain (rem t (Nm.glue (l :: ls)) at_) (at_ + 1 + l.length) ls).1, Nm.lab l ++ (pw plain (rem t (Nm.glue (l :: ls)) at_) (at_ + 1 + l.length) ls).2)
theorem pw_nil (plain : Bool) (t : Tab) (a : Nat) : pw plain t a [] = (t, [0]) := rfl
theorem pw_ptr {plain : Bool} {t : Tab} {a : Nat} {l : By} {ls : List By} (h : 0 ≤ findI t (Nm.glue (l :: ls))) (hp : plain = false) :
    pw plain t a (l :: ls) = (t, Oc.beb 2 (49152 + (findI t (Nm.glue (l :: ls))).toNat)) := by rw [pw, if_pos ⟨h, hp⟩]
theorem pw_lab {plain : Bool} {t : Tab} {a : Nat} {l : By} {ls : List By} (h : ¬ (0 ≤ findI t (Nm.glue (l :: ls)) ∧ plain = false)) :
    pw plain t a (l :: ls) = ((pw plain (rem t (Nm.glue (l :: ls)) a) (a + 1 + l.length) ls).1, Nm.lab l ++ (pw plain (rem t (Nm.glue (l :: ls)) a) (a + 1 + l.length) ls).2) := by rw [pw, if_neg h]

theorem glue_cons (l : By) (ls : List By) : Nm.glue (l :: ls) = Nm.lab l ++ Nm.glue ls := by simp [Nm.glue, Nm.body]
theorem tot_body (ls : List By) : tot ls = (Nm.body ls).length := by
  induction ls with
  | nil => rfl
  | cons l r ih => rw [tot, Nm.body_cons, List.length_append, Nm.lab_length, ih]
theorem tot_glue (ls : List By) : (Nm.glue ls).length = tot ls + 1 := by rw [Nm.glue_length, tot_body]
theorem glue_inj {a b : List By} (ga : Nm.Good a) (gb : Nm.Good b) (h : Nm.glue a = Nm.glue b) : a = b := by
  have h1 := Nm.sp_glue a ga
  have h2 := Nm.sp_glue b gb
  rw [h, h2] at h1
  exact (Option.some.inj h1).symm

theorem pw_len (plain : Bool) : ∀ (ls : List By) (t : Tab) (a : Nat), 1 ≤ (pw plain t a ls).2.length ∧ (pw plain t a ls).2.length ≤ (Nm.glue ls).length + 1 ∧ (Nm.Good ls → (pw plain t a ls).2.length ≤ (Nm.glue ls).length) ∧ (plain = true → (pw plain t a ls).2 = Nm.glue ls) := by
  intro ls
  induction ls with
  | nil => intro t a; rw [pw_nil]; simp [Nm.glue, Nm.body]
  | cons l r ih =>
    intro t a
    by_cases h : 0 ≤ findI t (Nm.glue (l :: r)) ∧ plain = false
    · rw [pw_ptr h.1 h.2]
      have := tot_glue (l :: r)
      rw [tot] at this
      refine ⟨by simp [Oc.beb], by simp [Oc.beb]; omega, fun g => ?_, fun hp => by rw [h.2] at hp; cases hp⟩
      have := g l (by simp)
      simp [Oc.beb]; omega
    · rw [pw_lab h]
      obtain ⟨h1, h2, h3, h4⟩ := ih (rem t (Nm.glue (l :: r)) a) (a + 1 + l.length)
      obtain ⟨R, hR⟩ : ∃ R, pw plain (rem t (Nm.glue (l :: r)) a) (a + 1 + l.length) r = R := ⟨_, rfl⟩
      rw [hR] at h1 h2 h3 h4 ⊢
      rw [glue_cons]
      simp only [List.length_append, Nm.lab_length]
      refine ⟨by omega, by omega, fun g => ?_, fun hp => by rw [h4 hp]⟩
      have := h3 (fun x hx => g x (by simp [hx]))
      omega
theorem pw_max (plain : Bool) : ∀ (ls : List By) (t : Tab) (a : Nat), (∀ x ∈ t, x.2 ≤ 16383) → ∀ x ∈ (pw plain t a ls).1, x.2 ≤ 16383 := by
  intro ls
  induction ls with
  | nil => intro t a h; exact h
  | cons l r ih =>
    intro t a h
    by_cases hc : 0 ≤ findI t (Nm.glue (l :: r)) ∧ plain = false
    · rw [pw_ptr hc.1 hc.2]; exact h
    · rw [pw_lab hc]; exact ih _ _ (rem_max h)
theorem pw_tab (plain : Bool) : ∀ (ls : List By) (t : Tab) (a : Nat), (pw plain t a ls).1.length ≤ t.length + ls.length := by
  intro ls
  induction ls with
  | nil => intro t a; simp [pw_nil]
  | cons l r ih =>
    intro t a
    by_cases hc : 0 ≤ findI t (Nm.glue (l :: r)) ∧ plain = false
    · rw [pw_ptr hc.1 hc.2]; simp
    · rw [pw_lab hc]
      have := ih (rem t (Nm.glue (l :: r)) a) (a + 1 + l.length)
      have := rem_len t (Nm.glue (l :: r)) a
      simp only [List.length_cons]; omega

/-- how far a writing has come: i labels are behind, T is remembered. -/
def Cont (plain : Bool) (t : Tab) (a : Nat) (ls : List By) (i : Nat) (T : Tab) : Prop :=
  pw plain t a ls = ((pw plain T (a + (Nm.body (ls.take i)).length) (ls.drop i)).1, Nm.body (ls.take i) ++ (pw plain T (a + (Nm.body (ls.take i)).length) (ls.drop i)).2)
theorem Cont.zero (plain : Bool) (t : Tab) (a : Nat) (ls : List By) : Cont plain t a ls 0 t := by simp [Cont, Nm.body]
theorem Cont.step {plain : Bool} {t T : Tab} {a i : Nat} {ls : List By} (h : Cont plain t a ls i T) (hi : i < ls.length) (hn : ¬ (0 ≤ findI T (Nm.glue (ls.drop i)) ∧ plain = false)) :
    Cont plain t a ls (i + 1) (rem T (Nm.glue (ls.drop i)) (a + (Nm.body (ls.take i)).length)) := by
  unfold Cont at h ⊢
  have e := List.drop_eq_getElem_cons hi
  have eb := Nm.take_succ_body hi
  have et : Nm.body (ls.take (i + 1)) = Nm.body (ls.take i) ++ Nm.lab ls[i] := by rw [List.take_succ_eq_append_getElem hi, Nm.body_append]; simp [Nm.body]
  rw [e] at h hn ⊢
  rw [pw_lab hn] at h
  rw [h, eb, et]
  simp only [List.append_assoc]
  have e2 : a + (Nm.body (ls.take i)).length + 1 + (ls[i]).length = a + ((Nm.body (ls.take i)).length + 1 + (ls[i]).length) := by omega
  rw [e2]
theorem Cont.ptr {t T : Tab} {a i : Nat} {ls : List By} (h : Cont false t a ls i T) (hi : i < ls.length) (hn : 0 ≤ findI T (Nm.glue (ls.drop i))) :
    pw false t a ls = (T, Nm.body (ls.take i) ++ Oc.beb 2 (49152 + (findI T (Nm.glue (ls.drop i))).toNat)) := by
  unfold Cont at h
  have e := List.drop_eq_getElem_cons hi
  rw [e] at h hn ⊢
  rw [h, pw_ptr hn rfl]
theorem Cont.done {plain : Bool} {t T : Tab} {a : Nat} {ls : List By} (h : Cont plain t a ls ls.length T) : pw plain t a ls = (T, Nm.glue ls) := by
  unfold Cont at h
  rw [h, List.drop_length, List.take_length, pw_nil]
  rfl
theorem glue_drop_lt {ls : List By} {i j : Nat} (hij : i < j) (hi : i < ls.length) : (Nm.glue (ls.drop j)).length < (Nm.glue (ls.drop i)).length := by
  have e : ls.drop i = (ls.drop i).take (j - i) ++ ls.drop j := by
    have := (List.take_append_drop (j - i) (ls.drop i)).symm
    rw [List.drop_drop] at this
    rwa [show i + (j - i) = j from by omega] at this
  rw [Nm.glue_length, Nm.glue_length]
  conv => rhs; rw [e, Nm.body_append, List.length_append]
  obtain ⟨x, hx⟩ : ∃ x, (ls.drop i).take (j - i) = x := ⟨_, rfl⟩
  have hl : 1 ≤ x.length := by rw [← hx]; simp; omega
  rw [hx]
  cases x with
  | nil => simp at hl
  | cons y r => rw [Nm.body_cons, List.length_append, Nm.lab_length]; omega
/-- what is remembered of this name is not asked for again within it. -/
def Ahead (t T : Tab) (ls : List By) (i : Nat) : Prop := ∀ j, i ≤ j → j < ls.length → findI T (Nm.glue (ls.drop j)) = findI t (Nm.glue (ls.drop j))
theorem Ahead.zero (t : Tab) (ls : List By) : Ahead t t ls 0 := fun _ _ _ => rfl
theorem Ahead.step {t T : Tab} {ls : List By} {i p : Nat} (h : Ahead t T ls i) (hi : i < ls.length) : Ahead t (rem T (Nm.glue (ls.drop i)) p) ls (i + 1) := fun j hj hl => by
  rw [rem_find_ne, h j (by omega) hl]
  intro e
  have := glue_drop_lt (ls := ls) (i := i) (j := j) (by omega) hi
  rw [e] at this
  omega

/-! ### reading again -/
/-- from a place on these labels are read, in a row that begins at 'row' or behind it. -/
def Rdb (b : By) (p : Nat) (ls : List By) (row bh : Nat) : Prop := ∀ rest row' size, row ≤ row' → size + tot ls ≤ 255 → tk (b ++ rest) row' p size = .ok ls bh
theorem Rdb.more {b : By} {p : Nat} {ls : List By} {row bh : Nat} (h : Rdb b p ls row bh) (c : By) : Rdb (b ++ c) p ls row bh := fun rest row' size h1 h2 => by
  rw [List.append_assoc]; exact h _ _ _ h1 h2
theorem Rdb.row {b : By} {p : Nat} {ls : List By} {row row2 bh : Nat} (h : Rdb b p ls row bh) (hr : row ≤ row2) : Rdb b p ls row2 bh := fun rest row' size h1 h2 => h rest row' size (by omega) h2
/-- what is found is a name that is read there. -/
def Fnd (b : By) (k : By) (p : Nat) : Prop := ∃ ls bh, k = Nm.glue ls ∧ Nm.Good ls ∧ p < b.length ∧ p ≤ 16383 ∧ Rdb b p ls p bh
def Snd (b : By) (t : Tab) : Prop := ∀ k (p : Nat), findI t k = p → Fnd b k p
theorem Snd.nil (b : By) : Snd b [] := fun k p h => by rw [findI] at h; omega
theorem Fnd.more {b k : By} {p : Nat} (h : Fnd b k p) (c : By) : Fnd (b ++ c) k p := by
  obtain ⟨ls, bh, h1, h2, h3, h4, h5⟩ := h
  exact ⟨ls, bh, h1, h2, by simp; omega, h4, h5.more c⟩

theorem fin_some {acc ls : List By} {o : Option Nat} {r : TR} {bh : Nat} (h : r = .ok ls bh) : fin acc o r = .ok (acc ++ ls) (o.getD bh) := by rw [h]; rfl
theorem get_at {o x y : By} {c : UInt8} (h : x = c :: y) : ∃ hl : o.length < (o ++ x).length, (o ++ x)[o.length]'hl = c := by
  subst h
  exact ⟨by simp, by simp⟩
theorem beb_two (q : Nat) : Oc.beb 2 (49152 + q) = [UInt8.ofNat ((49152 + q) / 256), UInt8.ofNat (49152 + q)] := by simp [Oc.beb]

theorem pw_read : ∀ (ls : List By) (plain : Bool) (t : Tab) (out : By) (at0 : Nat), at0 ≤ out.length → Nm.Good ls → tot ls ≤ 254 →
    (∀ k (p : Nat), findI t k = p → k.length ≤ (Nm.glue ls).length → p < at0 ∧ Fnd out k p) →
    Rdb (out ++ (pw plain t out.length ls).2) out.length ls at0 (out ++ (pw plain t out.length ls).2).length ∧
    ∀ k (p : Nat), findI (pw plain t out.length ls).1 k = p → findI t k = p ∨ (at0 ≤ p ∧ Fnd (out ++ (pw plain t out.length ls).2) k p) := by
  intro ls
  induction ls with
  | nil =>
    intro plain t out at0 h0 g ht H
    rw [pw_nil]
    refine ⟨fun rest row' size h1 h2 => ?_, fun k p h => .inl h⟩
    obtain ⟨hl, hc⟩ := get_at (o := out) (x := [0] ++ rest) (c := 0) (y := rest) rfl
    rw [List.append_assoc]
    rw [tk_end hl (by rw [hc]; rfl)]
    simp
  | cons l r ih =>
    intro plain t out at0 h0 g ht H
    have hl1 := g l (by simp)
    have gr : Nm.Good r := fun x hx => g x (by simp [hx])
    rw [tot] at ht
    by_cases hp : 0 ≤ findI t (Nm.glue (l :: r)) ∧ plain = false
    · rw [pw_ptr hp.1 hp.2]
      obtain ⟨q, hq⟩ : ∃ q : Nat, findI t (Nm.glue (l :: r)) = q := ⟨(findI t (Nm.glue (l :: r))).toNat, by omega⟩
      obtain ⟨hq0, ls', bh, hg1, hg2, hlt, hmx, hrd⟩ := H _ q hq (Nat.le_refl _)
      obtain rfl := glue_inj g hg2 hg1
      refine ⟨fun rest row' size h1 h2 => ?_, fun k p h => .inl h⟩
      rw [hq, show ((q : Int).toNat) = q from rfl, beb_two]
      simp only [List.append_assoc, List.cons_append, List.nil_append]
      obtain ⟨B, hB⟩ : ∃ B, out ++ UInt8.ofNat ((49152 + q) / 256) :: UInt8.ofNat (49152 + q) :: rest = B := ⟨_, rfl⟩
      have e0 : B[out.length]? = some (UInt8.ofNat ((49152 + q) / 256)) := by rw [← hB]; simp
      have e1 : B[out.length + 1]? = some (UInt8.ofNat (49152 + q)) := by rw [← hB]; simp
      obtain ⟨hl, hc⟩ := List.getElem?_eq_some_iff.1 e0
      obtain ⟨hl2, hc2⟩ := List.getElem?_eq_some_iff.1 e1
      have hd : q / 256 ≤ 63 := by omega
      have v0 : (B[out.length]'hl).toNat = 192 + q / 256 := by rw [hc]; simp; omega
      have v1 : (B[out.length + 1]'hl2).toNat = q % 256 := by rw [hc2]; simp <;> omega
      have hpl : ((B[out.length]'hl).toNat - 192) * 256 + (B[out.length + 1]'hl2).toNat = q := by rw [v0, v1]; omega
      have hj := tk_jump (row := row') (size := size) [] none hl (by rw [v0]; omega) hl2 (by rw [hpl]; omega)
      rw [fin_nil, hpl] at hj
      rw [hB, hj]
      have hr2 : tk B q q size = .ok (l :: r) bh := by
        have := hrd ([UInt8.ofNat ((49152 + q) / 256), UInt8.ofNat (49152 + q)] ++ rest) q size (Nat.le_refl _) h2
        rw [← hB]
        simpa using this
      rw [fin_some hr2]
      simp
    · rw [pw_lab hp]
      have hnext : (out ++ Nm.lab l).length = out.length + 1 + l.length := by simp [Nm.lab]; omega
      obtain ⟨T, hT⟩ : ∃ T, rem t (Nm.glue (l :: r)) out.length = T := ⟨_, rfl⟩
      have hlt : (Nm.glue r).length < (Nm.glue (l :: r)).length := by rw [glue_cons, List.length_append, Nm.lab_length]; omega
      have HT : ∀ k, k.length ≤ (Nm.glue r).length → findI T k = findI t k := fun k hk => by
        rw [← hT, rem_find_ne]
        intro e; rw [← e] at hk; omega
      obtain ⟨ih1, ih2⟩ := ih plain T (out ++ Nm.lab l) at0 (by rw [hnext]; omega) gr (by omega) (fun k p hf hk => by
        rw [HT k hk] at hf
        obtain ⟨h1, h2⟩ := H k p hf (by omega)
        exact ⟨h1, h2.more _⟩)
      rw [hnext] at ih1 ih2
      rw [hT]
      obtain ⟨R, hR⟩ : ∃ R, pw plain T (out.length + 1 + l.length) r = R := ⟨_, rfl⟩
      rw [hR] at ih1 ih2 ⊢
      simp only
      have hRd : Rdb (out ++ (Nm.lab l ++ R.2)) out.length (l :: r) at0 (out ++ (Nm.lab l ++ R.2)).length := by
        intro rest row' size h1 h2
        rw [tot] at h2
        rw [show out ++ (Nm.lab l ++ R.2) ++ rest = out ++ Nm.lab l ++ R.2 ++ rest from by simp]
        have hih := ih1 rest row' (size + 1 + l.length) h1 (by omega)
        obtain ⟨B, hB⟩ : ∃ B, out ++ Nm.lab l ++ R.2 ++ rest = B := ⟨_, rfl⟩
        rw [hB] at hih ⊢
        have e0 : B[out.length]? = some (UInt8.ofNat l.length) := by rw [← hB]; simp [Nm.lab]
        obtain ⟨hl, hc⟩ := List.getElem?_eq_some_iff.1 e0
        have v0 : (B[out.length]'hl).toNat = l.length := by rw [hc]; simp; omega
        have hBl : B.length = out.length + 1 + l.length + R.2.length + rest.length := by rw [← hB]; simp [Nm.lab]; omega
        have hlab : (B.drop (out.length + 1)).take l.length = l := by
          rw [← hB]
          have e : out ++ Nm.lab l ++ R.2 ++ rest = (out ++ [UInt8.ofNat l.length]) ++ (l ++ (R.2 ++ rest)) := by simp [Nm.lab]
          rw [e, show out.length + 1 = (out ++ [UInt8.ofNat l.length]).length from by simp, List.drop_left, List.take_left]
        have hj := tk_label (row := row') (size := size) [] none hl (by rw [v0]; omega) (by rw [v0]; omega) (by rw [v0]; omega) (by rw [v0]; omega)
        rw [fin_nil, v0, hlab] at hj
        rw [hj, fin_some hih]
        simp
      refine ⟨hRd, fun k p h => ?_⟩
      rcases ih2 k p h with h | ⟨h, hf⟩
      · by_cases hk : Nm.glue (l :: r) = k
        · by_cases h9 : 0 ≤ findI t (Nm.glue (l :: r))
          · rw [← hT, rem_there h9] at h; exact .inl h
          · by_cases h8 : 16383 < out.length
            · rw [← hT, rem_far h8] at h; exact .inl h
            · have h7 := h
              rw [← hT, rem_new h9 (by omega), findI_snoc, ← hk, if_neg h9, if_pos rfl] at h7
              have h6 : p = out.length := by omega
              subst h6
              right
              refine ⟨h0, l :: r, _, hk.symm, g, ?_, by omega, hRd.row h0⟩
              rw [List.length_append, List.length_append, Nm.lab_length]; omega
        · rw [← hT, rem_find_ne hk] at h; exact .inl h
      · right
        rw [show out ++ (Nm.lab l ++ R.2) = out ++ Nm.lab l ++ R.2 from by simp]
        exact ⟨h, hf⟩
/-- a name that is put behind sound bytes: it is read there, and all is sound again. -/
theorem pw_sound {ls : List By} {t : Tab} {b : By} (plain : Bool) (g : Nm.Good ls) (h255 : (Nm.glue ls).length ≤ 255) (hs : Snd b t) :
    Rdb (b ++ (pw plain t b.length ls).2) b.length ls b.length (b ++ (pw plain t b.length ls).2).length ∧ Snd (b ++ (pw plain t b.length ls).2) (pw plain t b.length ls).1 := by
  have hl := tot_glue ls
  obtain ⟨h1, h2⟩ := pw_read ls plain t b b.length (Nat.le_refl _) g (by omega) (fun k p hf _ => by
    have := hs k p hf
    obtain ⟨ls, bh, e1, e2, e3, e4⟩ := this
    exact ⟨e3, ls, bh, e1, e2, e3, e4⟩)
  refine ⟨h1, fun k p hf => ?_⟩
  rcases h2 k p hf with h | h
  · exact (hs k p h).more _
  · exact h.2
/-- of a table that remembers nothing all is written. -/
theorem pw_empty : ∀ (ls : List By) (t : Tab) (a : Nat), (∀ k (p : Nat), findI t k = p → (Nm.glue ls).length < k.length) → (pw false t a ls).2 = Nm.glue ls ∧ (ls ≠ [] → a ≤ 16383 → findI (pw false t a ls).1 (Nm.glue ls) = a) ∧
    (∀ k, (Nm.glue ls).length < k.length → findI (pw false t a ls).1 k = findI t k) := by
  intro ls
  induction ls with
  | nil => intro t a h; exact ⟨rfl, fun h => absurd rfl h, fun k _ => rfl⟩
  | cons l r ih =>
    intro t a h
    have hlt : (Nm.glue r).length < (Nm.glue (l :: r)).length := by rw [glue_cons, List.length_append, Nm.lab_length]; omega
    have hn : ¬ 0 ≤ findI t (Nm.glue (l :: r)) := fun h0 => by
      have := h (Nm.glue (l :: r)) (findI t (Nm.glue (l :: r))).toNat (by omega)
      omega
    rw [pw_lab (fun h0 => hn h0.1)]
    obtain ⟨h1, h2, h3⟩ := ih (rem t (Nm.glue (l :: r)) a) (a + 1 + l.length) (fun k p hf => by
      by_cases hk : Nm.glue (l :: r) = k
      · rw [← hk]; exact hlt
      · rw [rem_find_ne hk] at hf
        have := h k p hf
        omega)
    refine ⟨by rw [h1, ← glue_cons], fun _ ha => ?_, fun k hk => ?_⟩
    · rw [h3 _ hlt, rem_new hn ha, findI_snoc, if_neg hn, if_pos rfl]
    · rw [h3 _ (by omega), rem_find_ne (fun e => by rw [e] at hk; omega)]
end Pr
end Go.Proofs.Ytfekmolgiohegaa
