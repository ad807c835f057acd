/- Texts of the proofs, merged. -/
import Derived.Test.YtpnfkgjcnofjnaaOrdPure
/- Things by paths of labels: forests, and their entries in order. Nothing of the program. -/
namespace Go.Proofs.Ytpnfkgjcnofjnaa.Tr
open Nm (cmpB cmpB_zero cmpB_neg cmpB_trans)

abbrev By := List UInt8
/-- what a node bears besides its kids. -/
structure Nd (V : Type) where
  lab : By
  key : By
  val : V
  held : Bool
inductive Fo (V : Type) where
  | nl : Fo V
  | cons (r : Nd V) (sub next : Fo V) : Fo V
/-- an entry: its path, its key, its value. -/
structure En (V : Type) where
  p : List By
  k : By
  v : V
variable {V : Type}
def En.up (x : By) (e : En V) : En V := ⟨x :: e.p, e.k, e.v⟩
def own (r : Nd V) : List (En V) := if r.held then [⟨[], r.key, r.val⟩] else []
def Fo.ents : Fo V → List (En V)
  | .nl => []
  | .cons r sub next => (own r ++ sub.ents).map (En.up r.lab) ++ next.ents
abbrev No (V : Type) := Nd V × Fo V
def nents (n : No V) : List (En V) := own n.1 ++ n.2.ents
def Fo.kids : Fo V → List (No V)
  | .nl => []
  | .cons r sub next => (r, sub) :: next.kids
def Fo.idx (x : By) : Fo V → Nat
  | .nl => 0
  | .cons r _ next => if cmpB r.lab x < 0 then next.idx x + 1 else 0
def Fo.sel (x : By) : Fo V → Option (No V)
  | .nl => none
  | .cons r sub next => if r.lab = x then some (r, sub) else next.sel x
/-- the kid of label x is put, in its place. -/
def Fo.put1 (x : By) (k : No V) : Fo V → Fo V
  | .nl => .cons k.1 k.2 .nl
  | .cons r s n => if cmpB r.lab x < 0 then .cons r s (n.put1 x k) else if r.lab = x then .cons k.1 k.2 n else .cons k.1 k.2 (.cons r s n)
def Fo.del1 (x : By) : Fo V → Fo V
  | .nl => .nl
  | .cons r s n => if r.lab = x then n else .cons r s (n.del1 x)
def fresh [Inhabited V] (x : By) : No V := (⟨x, [], default, false⟩, .nl)
def Fo.kid [Inhabited V] (x : By) (f : Fo V) : No V := (f.sel x).getD (fresh x)
/-- what stands at a path is changed; nodes are made where there are none. -/
def upd [Inhabited V] : List By → (No V → No V) → No V → No V
  | [], g, n => g n
  | x :: q, g, n => (n.1, n.2.put1 x (upd q g (n.2.kid x)))
def atq [Inhabited V] : List By → No V → No V
  | [], n => n
  | x :: q, n => atq q (n.2.kid x)
def getN : List By → No V → Option (No V)
  | [], n => some n
  | x :: q, n => (n.2.sel x).bind (getN q)
def dep : List By → No V → Nat
  | [], _ => 0
  | x :: q, n => match n.2.sel x with
    | none => 0
    | some m => dep q m + 1
def setN (k : By) (v : V) (n : No V) : No V := (⟨n.1.lab, k, v, true⟩, n.2)
def unsetN [Inhabited V] (n : No V) : No V := (⟨n.1.lab, [], default, false⟩, n.2)
def bare (n : No V) : Bool := !n.1.held && n.2.kids.isEmpty
def drop [Inhabited V] : List By → No V → No V × Bool
  | [], n => (unsetN n, n.1.held)
  | x :: q, n => match n.2.sel x with
    | none => (n, false)
    | some m => if (drop q m).2 then ((n.1, if bare (drop q m).1 then n.2.del1 x else n.2.put1 x (drop q m).1), true) else ((n.1, n.2.put1 x (drop q m).1), false)
/-- the order of paths. -/
def cmpP : List By → List By → Int
  | [], [] => 0
  | [], _ :: _ => -1
  | _ :: _, [] => 1
  | x :: s, y :: t => if x = y then cmpP s t else cmpB x y
def Fo.ok [Inhabited V] : Fo V → Prop
  | .nl => True
  | .cons r sub next => sub.ok ∧ next.ok ∧ (r.held = false → r.key = [] ∧ r.val = default) ∧ bare (r, sub) = false ∧ ∀ m ∈ next.kids, cmpB r.lab m.1.lab < 0
def ok [Inhabited V] (n : No V) : Prop := n.2.ok ∧ (n.1.held = false → n.1.key = [] ∧ n.1.val = default)

/-! the order of paths -/
theorem cmpB_self (a : By) : cmpB a a = 0 := cmpB_zero.2 rfl
theorem cmpB_lt_trans {a b c : By} (h1 : cmpB a b < 0) (h2 : cmpB b c < 0) : cmpB a c < 0 := by
  have h := cmpB_trans (Int.le_of_lt h1) (Int.le_of_lt h2)
  rcases Int.lt_or_eq_of_le h with h | h
  · exact h
  · rw [cmpB_zero.1 h, cmpB_neg] at h1; omega
theorem cmpB_ne {a b : By} (h : cmpB a b < 0) : a ≠ b := fun e => by rw [e, cmpB_self] at h; omega
theorem cmpB_gt {a b : By} (h : ¬ cmpB a b < 0) (h2 : a ≠ b) : cmpB b a < 0 := by
  have := cmpB_neg a b
  have h3 : cmpB a b ≠ 0 := fun e => h2 (cmpB_zero.1 e)
  omega
theorem cmpP_zero {a b : List By} : cmpP a b = 0 ↔ a = b := by
  induction a generalizing b with
  | nil => cases b <;> simp [cmpP]
  | cons x a ih =>
    cases b with
    | nil => simp [cmpP]
    | cons y b =>
      rw [cmpP]
      by_cases h : x = y
      · rw [if_pos h, ih]; simp [h]
      · rw [if_neg h]
        exact ⟨fun e => absurd (cmpB_zero.1 e) h, fun e => by injection e with e _; exact absurd e h⟩
theorem cmpP_neg (a b : List By) : cmpP a b = - cmpP b a := by
  induction a generalizing b with
  | nil => cases b <;> simp [cmpP]
  | cons x a ih =>
    cases b with
    | nil => simp [cmpP]
    | cons y b =>
      rw [cmpP, cmpP]
      by_cases h : x = y
      · rw [if_pos h, if_pos h.symm]; exact ih b
      · rw [if_neg h, if_neg (fun e => h e.symm)]; exact cmpB_neg x y
theorem cmpP_lt_cons {x y : By} {s t : List By} : cmpP (x :: s) (y :: t) < 0 ↔ cmpB x y < 0 ∨ (x = y ∧ cmpP s t < 0) := by
  rw [cmpP]
  by_cases h : x = y
  · subst h; rw [if_pos rfl, cmpB_self]; simp
  · rw [if_neg h]; simp [h]
theorem cmpP_lt_trans {a b c : List By} (h1 : cmpP a b < 0) (h2 : cmpP b c < 0) : cmpP a c < 0 := by
  induction a generalizing b c with
  | nil =>
    cases c with
    | nil => cases b <;> simp [cmpP] at h2
    | cons z c => simp [cmpP]
  | cons x a ih =>
    cases b with
    | nil => simp [cmpP] at h1
    | cons y b =>
      cases c with
      | nil => simp [cmpP] at h2
      | cons z c =>
        rw [cmpP_lt_cons] at *
        rcases h1 with h1 | ⟨rfl, h1⟩
        · rcases h2 with h2 | ⟨rfl, h2⟩
          · exact .inl (cmpB_lt_trans h1 h2)
          · exact .inl h1
        · rcases h2 with h2 | ⟨rfl, h2⟩
          · exact .inl h2
          · exact .inr ⟨rfl, ih h1 h2⟩
theorem cmpP_ne {a b : List By} (h : cmpP a b < 0) : a ≠ b := fun e => by rw [cmpP_zero.2 e] at h; omega
theorem cmpP_gt {a b : List By} (h : ¬ cmpP a b < 0) (h2 : a ≠ b) : cmpP b a < 0 := by
  have := cmpP_neg a b
  have h3 : cmpP a b ≠ 0 := fun e => h2 (cmpP_zero.1 e)
  omega
theorem cmpP_self (a : List By) : cmpP a a = 0 := cmpP_zero.2 rfl
theorem cmpP_nil_lt {a : List By} : cmpP [] a < 0 ↔ a ≠ [] := by cases a <;> simp [cmpP]

/-! forests in order -/
theorem mem_ents_head {f : Fo V} {e : En V} (h : e ∈ f.ents) : ∃ m ∈ f.kids, ∃ e' ∈ nents m, e = e'.up m.1.lab := by
  induction f with
  | nl => simp [Fo.ents] at h
  | cons r s n _ ih =>
    rw [Fo.ents, List.mem_append] at h
    rcases h with h | h
    · obtain ⟨e', h1, rfl⟩ := List.mem_map.1 h
      exact ⟨(r, s), by simp [Fo.kids], e', h1, rfl⟩
    · obtain ⟨m, h1, e', h2, h3⟩ := ih h
      exact ⟨m, by simp [Fo.kids, h1], e', h2, h3⟩
theorem mem_ents_of {f : Fo V} {m : No V} {e : En V} (hm : m ∈ f.kids) (he : e ∈ nents m) : e.up m.1.lab ∈ f.ents := by
  induction f with
  | nl => simp [Fo.kids] at hm
  | cons r s n _ ih =>
    rw [Fo.ents, List.mem_append]
    rcases List.mem_cons.1 hm with rfl | hm
    · exact .inl (List.mem_map.2 ⟨e, he, rfl⟩)
    · exact .inr (ih hm)
theorem ents_ne {f : Fo V} {e : En V} (h : e ∈ f.ents) : e.p ≠ [] := by
  obtain ⟨m, _, e', _, rfl⟩ := mem_ents_head h
  simp [En.up]
theorem own_p {r : Nd V} {e : En V} (h : e ∈ own r) : e.p = [] := by
  unfold own at h
  split at h
  · simp at h; rw [h]
  · simp at h
theorem ents_gt [Inhabited V] {r : Nd V} {s n : Fo V} (h : (Fo.cons r s n).ok) {e e' : En V} (he : e ∈ n.ents) (hp : ∃ q, e'.p = r.lab :: q) : cmpP e'.p e.p < 0 := by
  obtain ⟨m, hm, e1, _, rfl⟩ := mem_ents_head he
  obtain ⟨q, hq⟩ := hp
  rw [hq, En.up, cmpP_lt_cons]
  exact .inl (h.2.2.2.2 m hm)
def Asc (l : List (En V)) : Prop := l.Pairwise fun a b => cmpP a.p b.p < 0
theorem asc_map {l : List (En V)} (x : By) (h : Asc l) : Asc (l.map (En.up x)) := by
  unfold Asc at *
  rw [List.pairwise_map]
  exact h.imp fun {a b} h => by simp only [En.up]; rw [cmpP_lt_cons]; exact .inr ⟨rfl, h⟩
theorem asc_own {r : Nd V} {l : List (En V)} (h : Asc l) (hl : ∀ e ∈ l, e.p ≠ []) : Asc (own r ++ l) := by
  unfold Asc at *
  rw [List.pairwise_append]
  refine ⟨?_, h, fun a ha b hb => by rw [own_p ha, cmpP_nil_lt]; exact hl b hb⟩
  unfold own
  split <;> simp
theorem asc_ents [Inhabited V] {f : Fo V} (h : f.ok) : Asc f.ents := by
  induction f with
  | nl => simp [Fo.ents, Asc]
  | cons r s n ihs ihn =>
    have h1 := asc_map r.lab (asc_own (r := r) (ihs h.1) (fun e he => ents_ne he))
    have h2 := ihn h.2.1
    unfold Asc at *
    rw [Fo.ents, List.pairwise_append]
    refine ⟨h1, h2, fun a ha b hb => ?_⟩
    obtain ⟨a', _, rfl⟩ := List.mem_map.1 ha
    exact ents_gt h hb ⟨_, rfl⟩
theorem asc_nents [Inhabited V] {n : No V} (h : ok n) : Asc (nents n) := asc_own (asc_ents h.1) fun _ he => ents_ne he

/-! kids by their labels -/
theorem sel_mem {f : Fo V} {x : By} {m : No V} (h : f.sel x = some m) : m ∈ f.kids ∧ m.1.lab = x := by
  induction f with
  | nl => simp [Fo.sel] at h
  | cons r s n _ ih =>
    rw [Fo.sel] at h
    by_cases e : r.lab = x
    · rw [if_pos e] at h; injection h with h; subst h; exact ⟨by simp [Fo.kids], e⟩
    · rw [if_neg e] at h; exact ⟨by simp [Fo.kids, (ih h).1], (ih h).2⟩
theorem sel_none {f : Fo V} {x : By} (h : ∀ m ∈ f.kids, m.1.lab ≠ x) : f.sel x = none := by
  induction f with
  | nl => rfl
  | cons r s n _ ih =>
    rw [Fo.sel, if_neg (h (r, s) (by simp [Fo.kids]))]
    exact ih fun m hm => h m (by simp [Fo.kids, hm])
theorem sel_none' {f : Fo V} {x : By} (h : f.sel x = none) : ∀ m ∈ f.kids, m.1.lab ≠ x := by
  induction f with
  | nl => intro m hm; simp [Fo.kids] at hm
  | cons r s n _ ih =>
    rw [Fo.sel] at h
    split at h
    · cases h
    · rename_i e
      intro m hm
      rcases List.mem_cons.1 hm with rfl | hm
      · exact e
      · exact ih h m hm
theorem ok_kid [Inhabited V] {f : Fo V} (h : f.ok) : ∀ m ∈ f.kids, ok m ∧ bare m = false := by
  induction f with
  | nl => intro m hm; simp [Fo.kids] at hm
  | cons r s n _ ih =>
    intro m hm
    rcases List.mem_cons.1 hm with rfl | hm
    · exact ⟨⟨h.1, h.2.2.1⟩, h.2.2.2.1⟩
    · exact ih h.2.1 m hm
theorem ok_sel [Inhabited V] {f : Fo V} (h : f.ok) {x : By} {m : No V} (hs : f.sel x = some m) : ok m ∧ bare m = false := ok_kid h m (sel_mem hs).1
theorem ok_fresh [Inhabited V] (x : By) : ok (fresh x : No V) := ⟨trivial, fun _ => ⟨rfl, rfl⟩⟩
theorem ok_kid' [Inhabited V] {f : Fo V} (h : f.ok) (x : By) : ok (f.kid x) := by
  unfold Fo.kid
  cases hs : f.sel x with
  | none => exact ok_fresh x
  | some m => exact (ok_sel h hs).1
theorem kid_lab [Inhabited V] (f : Fo V) (x : By) : (f.kid x).1.lab = x := by
  unfold Fo.kid
  cases hs : f.sel x with
  | none => rfl
  | some m => exact (sel_mem hs).2
/-- where a label stands. -/
theorem idx_le (f : Fo V) (x : By) : f.idx x ≤ f.kids.length := by
  induction f with
  | nl => simp [Fo.idx, Fo.kids]
  | cons r s n _ ih => rw [Fo.idx]; simp [Fo.kids]; split <;> omega
theorem idx_lt {f : Fo V} {x : By} {i : Nat} (h : i < f.idx x) : ∃ m, f.kids[i]? = some m ∧ cmpB m.1.lab x < 0 := by
  induction f generalizing i with
  | nl => simp [Fo.idx] at h
  | cons r s n _ ih =>
    rw [Fo.idx] at h
    split at h
    · rename_i hl
      cases i with
      | zero => exact ⟨(r, s), by simp [Fo.kids], hl⟩
      | succ i =>
        obtain ⟨m, h1, h2⟩ := ih (i := i) (by omega)
        exact ⟨m, by simpa [Fo.kids] using h1, h2⟩
    · omega
theorem idx_ge [Inhabited V] {f : Fo V} (hok : f.ok) {x : By} {i : Nat} {m : No V} (h : f.idx x ≤ i) (hm : f.kids[i]? = some m) : ¬ cmpB m.1.lab x < 0 := by
  induction f generalizing i with
  | nl => simp [Fo.kids] at hm
  | cons r s n _ ih =>
    rw [Fo.idx] at h
    split at h
    · cases i with
      | zero => omega
      | succ i => exact ih hok.2.1 (i := i) (by omega) (by simpa [Fo.kids] using hm)
    · rename_i hl
      cases i with
      | zero => simp [Fo.kids] at hm; subst hm; exact hl
      | succ i =>
        have hmm : m ∈ n.kids := List.mem_of_getElem? (by simpa [Fo.kids] using hm)
        have := hok.2.2.2.2 m hmm
        intro h2
        exact hl (cmpB_lt_trans this h2)
theorem idx_sel [Inhabited V] {f : Fo V} (hok : f.ok) (x : By) : (∃ m, f.sel x = some m ∧ f.kids[f.idx x]? = some m) ∨ (f.sel x = none ∧ ∀ m, f.kids[f.idx x]? = some m → m.1.lab ≠ x) := by
  induction f with
  | nl => exact .inr ⟨rfl, fun m hm => by simp [Fo.kids] at hm⟩
  | cons r s n _ ih =>
    rw [Fo.sel, Fo.idx]
    by_cases h : r.lab = x
    · rw [if_pos h, if_neg (by rw [h, cmpB_self]; omega)]
      exact .inl ⟨_, rfl, by simp [Fo.kids]⟩
    · rw [if_neg h]
      by_cases hl : cmpB r.lab x < 0
      · rw [if_pos hl]
        simpa [Fo.kids] using ih hok.2.1
      · rw [if_neg hl]
        refine .inr ⟨sel_none fun m hm e => ?_, fun m hm => ?_⟩
        · have := hok.2.2.2.2 m hm
          rw [e] at this
          exact hl this
        · simp [Fo.kids] at hm; subst hm; exact h
theorem kids_put_some [Inhabited V] {f : Fo V} (hok : f.ok) {x : By} {m : No V} (hs : f.sel x = some m) (k : No V) : (f.put1 x k).kids = f.kids.set (f.idx x) k := by
  induction f with
  | nl => simp [Fo.sel] at hs
  | cons r s n _ ih =>
    rw [Fo.sel] at hs
    rw [Fo.put1, Fo.idx]
    by_cases h : r.lab = x
    · rw [if_neg (by rw [h, cmpB_self]; omega), if_pos h, if_neg (by rw [h, cmpB_self]; omega)]; simp [Fo.kids]
    · rw [if_neg h] at hs
      have hl : cmpB r.lab x < 0 := by
        have h1 := hok.2.2.2.2 m (sel_mem hs).1
        rw [(sel_mem hs).2] at h1
        exact h1
      rw [if_pos hl, if_pos hl]; simp [Fo.kids, ih hok.2.1 hs]
theorem kids_put_none {f : Fo V} {x : By} (hs : f.sel x = none) (k : No V) : (f.put1 x k).kids = f.kids.take (f.idx x) ++ k :: f.kids.drop (f.idx x) := by
  induction f with
  | nl => simp [Fo.put1, Fo.kids, Fo.idx]
  | cons r s n _ ih =>
    rw [Fo.sel] at hs
    split at hs
    · cases hs
    · rename_i h
      rw [Fo.put1, Fo.idx]
      by_cases hl : cmpB r.lab x < 0
      · rw [if_pos hl, if_pos hl]; simp [Fo.kids, ih hs]
      · rw [if_neg hl, if_neg h, if_neg hl]; simp [Fo.kids]
theorem kids_del [Inhabited V] {f : Fo V} (hok : f.ok) {x : By} {m : No V} (hs : f.sel x = some m) : (f.del1 x).kids = f.kids.take (f.idx x) ++ f.kids.drop (f.idx x + 1) := by
  induction f with
  | nl => simp [Fo.sel] at hs
  | cons r s n _ ih =>
    rw [Fo.sel] at hs
    rw [Fo.del1, Fo.idx]
    by_cases h : r.lab = x
    · rw [if_pos h, if_neg (by rw [h, cmpB_self]; omega)]; simp [Fo.kids]
    · rw [if_neg h] at hs
      have hl : cmpB r.lab x < 0 := by
        have h1 := hok.2.2.2.2 m (sel_mem hs).1
        rw [(sel_mem hs).2] at h1
        exact h1
      rw [if_neg h, if_pos hl]; simp [Fo.kids, ih hok.2.1 hs]

/-! changing what stands at a path -/
theorem put1_put1 {f : Fo V} {x : By} {a b : No V} (ha : a.1.lab = x) : (f.put1 x a).put1 x b = f.put1 x b := by
  induction f with
  | nl => simp [Fo.put1, ha, cmpB_self]
  | cons r s n _ ih =>
    rw [Fo.put1]
    by_cases hl : cmpB r.lab x < 0
    · simp only [if_pos hl, Fo.put1, ih]
    · rw [if_neg hl]
      by_cases h : r.lab = x
      · simp only [if_pos h, Fo.put1, ha, cmpB_self]; simp [h, cmpB_self]
      · simp only [if_neg h, Fo.put1, ha, cmpB_self]; simp [hl]
theorem sel_put1 [Inhabited V] {f : Fo V} (hok : f.ok) {x : By} {a : No V} (ha : a.1.lab = x) : (f.put1 x a).sel x = some a := by
  induction f with
  | nl => simp [Fo.put1, Fo.sel, ha]
  | cons r s n _ ih =>
    rw [Fo.put1]
    by_cases hl : cmpB r.lab x < 0
    · rw [if_pos hl, Fo.sel, if_neg (cmpB_ne hl)]; exact ih hok.2.1
    · rw [if_neg hl]; split <;> simp [Fo.sel, ha]
theorem upd_lab [Inhabited V] (q : List By) (g : No V → No V) (hg : ∀ m, (g m).1.lab = m.1.lab) (n : No V) : (upd q g n).1.lab = n.1.lab := by
  cases q with
  | nil => exact hg n
  | cons x q => rfl
theorem upd_const [Inhabited V] (q : List By) (g : No V → No V) (n : No V) : upd q g n = upd q (fun _ => g (atq q n)) n := by
  induction q generalizing n with
  | nil => rfl
  | cons x q ih => rw [upd, upd, atq, ← ih]
theorem upd_snoc [Inhabited V] (q : List By) (x : By) (g : No V → No V) (n : No V) : upd (q ++ [x]) g n = upd q (fun m => (m.1, m.2.put1 x (g (m.2.kid x)))) n := by
  induction q generalizing n with
  | nil => rfl
  | cons y q ih => simp only [List.cons_append, upd, ih]
theorem atq_snoc [Inhabited V] (q : List By) (x : By) (n : No V) : atq (q ++ [x]) n = (atq q n).2.kid x := by
  induction q generalizing n with
  | nil => rfl
  | cons y q ih => simp only [List.cons_append, atq, ih]
theorem ok_atq [Inhabited V] (q : List By) {n : No V} (h : ok n) : ok (atq q n) := by
  induction q generalizing n with
  | nil => exact h
  | cons x q ih => exact ih (ok_kid' h.1 x)
theorem atq_getN [Inhabited V] {q : List By} {n m : No V} (h : getN q n = some m) : atq q n = m := by
  induction q generalizing n with
  | nil => injection h
  | cons x q ih =>
    rw [getN] at h
    cases hs : n.2.sel x with
    | none => rw [hs] at h; cases h
    | some k => rw [hs] at h; rw [atq, Fo.kid, hs]; exact ih h
theorem dep_le [Inhabited V] (q : List By) (n : No V) : dep q n ≤ q.length := by
  induction q generalizing n with
  | nil => simp [dep]
  | cons x q ih =>
    rw [dep]
    split
    · simp
    · rename_i m _; have := ih m; simp; omega
theorem getN_take [Inhabited V] (q : List By) (n : No V) (k : Nat) (h : k ≤ dep q n) : getN (q.take k) n = some (atq (q.take k) n) := by
  induction q generalizing n k with
  | nil => simp [getN, atq]
  | cons x q ih =>
    cases k with
    | zero => rfl
    | succ k =>
      rw [dep] at h
      cases hs : n.2.sel x with
      | none => rw [hs] at h; simp at h
      | some m =>
        rw [hs] at h
        simp only [List.take_succ_cons, getN, atq, Fo.kid, hs]
        exact ih m k (by simpa using h)
theorem getN_none [Inhabited V] (q : List By) (n : No V) (k : Nat) (hk : k ≤ q.length) (h : dep q n < k) : getN (q.take k) n = none := by
  induction q generalizing n k with
  | nil => simp at hk; omega
  | cons x q ih =>
    cases k with
    | zero => omega
    | succ k =>
      rw [dep] at h
      cases hs : n.2.sel x with
      | none => simp only [List.take_succ_cons, getN, hs]; rfl
      | some m =>
        rw [hs] at h
        simp only [List.take_succ_cons, getN, hs]
        exact ih m k (by simpa using hk) (by simpa using h)
end Go.Proofs.Ytpnfkgjcnofjnaa.Tr
/- What forests' entries become by what is done. Nothing of the program. -/
namespace Go.Proofs.Ytpnfkgjcnofjnaa.Tr
open Nm (cmpB)
variable {V : Type}

/-- an entry is put in its place. -/
def insE (e : En V) : List (En V) → List (En V)
  | [] => [e]
  | a :: l => if cmpP a.p e.p < 0 then a :: insE e l else if a.p = e.p then e :: l else e :: a :: l
theorem insE_pass {e : En V} {A L : List (En V)} (h : ∀ a ∈ A, cmpP a.p e.p < 0) : insE e (A ++ L) = A ++ insE e L := by
  induction A with
  | nil => rfl
  | cons a A ih => rw [List.cons_append, insE, if_pos (h a (by simp)), ih (fun b hb => h b (by simp [hb]))]; rfl
theorem lt_not {a b : List By} (h : cmpP a b < 0) : ¬ cmpP b a < 0 := fun h2 => by
  have := cmpP_lt_trans h h2
  rw [cmpP_self] at this; omega
theorem insE_front {e : En V} {L : List (En V)} (h : ∀ a ∈ L, cmpP e.p a.p < 0) : insE e L = e :: L := by
  cases L with
  | nil => rfl
  | cons a L =>
    have := h a (by simp)
    rw [insE, if_neg (lt_not this), if_neg (fun e => cmpP_ne this e.symm)]
theorem up_p (x : By) (e : En V) : (e.up x).p = x :: e.p := rfl
theorem cmpP_same (x : By) (s t : List By) : cmpP (x :: s) (x :: t) = cmpP s t := by rw [cmpP, if_pos rfl]
theorem insE_map {q : List By} {k : By} {v : V} {x : By} {L R : List (En V)} (hR : ∀ a ∈ R, cmpP (x :: q) a.p < 0) :
    insE ⟨x :: q, k, v⟩ (L.map (En.up x) ++ R) = (insE ⟨q, k, v⟩ L).map (En.up x) ++ R := by
  induction L with
  | nil => rw [List.map_nil, List.nil_append, insE_front hR]; rfl
  | cons a L ih =>
    rw [List.map_cons, List.cons_append, insE, insE, up_p, cmpP_same]
    simp only [List.cons.injEq, true_and]
    split
    · rw [ih]; rfl
    · split <;> rfl
theorem kid_cons (r : Nd V) (s n : Fo V) (x : By) [Inhabited V] : (Fo.cons r s n).kid x = if r.lab = x then (r, s) else n.kid x := by
  unfold Fo.kid
  rw [Fo.sel]
  split <;> rfl
theorem nents_fresh [Inhabited V] (x : By) : nents (fresh x : No V) = [] := rfl
theorem ents_cons (r : Nd V) (s n : Fo V) : (Fo.cons r s n).ents = (nents (r, s)).map (En.up r.lab) ++ n.ents := rfl
theorem kid_none [Inhabited V] {f : Fo V} {x : By} (h : ∀ m ∈ f.kids, m.1.lab ≠ x) : f.kid x = fresh x := by
  unfold Fo.kid; rw [sel_none h]; rfl
theorem ents_put1 [Inhabited V] {f : Fo V} (hok : f.ok) {x : By} {q : List By} {k : By} {v : V} {K : No V} (hK : nents K = insE ⟨q, k, v⟩ (nents (f.kid x))) (hl : K.1.lab = x) :
    (f.put1 x K).ents = insE ⟨x :: q, k, v⟩ f.ents := by
  induction f with
  | nl =>
    have : nents (Fo.kid x (Fo.nl : Fo V)) = [] := rfl
    rw [this] at hK
    rw [Fo.put1, ents_cons, hK, hl]; rfl
  | cons r s n _ ih =>
    have hgt : ∀ (a : En V), a ∈ n.ents → ∀ q', cmpP (r.lab :: q') a.p < 0 := fun a ha q' => ents_gt hok (e' := ⟨r.lab :: q', [], v⟩) ha ⟨q', rfl⟩
    rw [Fo.put1]
    rw [kid_cons] at hK
    by_cases h1 : cmpB r.lab x < 0
    · rw [if_pos h1]
      rw [if_neg (cmpB_ne h1)] at hK
      rw [ents_cons, ents_cons, ih hok.2.1 hK, insE_pass]
      intro a ha
      obtain ⟨a', _, rfl⟩ := List.mem_map.1 ha
      rw [up_p, cmpP_lt_cons]; exact .inl h1
    · rw [if_neg h1]
      by_cases h2 : r.lab = x
      · rw [if_pos h2]
        rw [if_pos h2] at hK
        subst h2
        rw [ents_cons, ents_cons, hl, insE_map (fun a ha => hgt a ha q), ← hK]
      · rw [if_neg h2]
        rw [if_neg h2] at hK
        have h3 := cmpB_gt h1 h2
        rw [kid_none (fun m hm e => by have := hok.2.2.2.2 m hm; rw [e] at this; exact h1 this), nents_fresh] at hK
        have e0 : insE ⟨x :: q, k, v⟩ (Fo.cons r s n).ents = ⟨x :: q, k, v⟩ :: (Fo.cons r s n).ents := insE_front fun a ha => by
          obtain ⟨m, hm, e1, _, rfl⟩ := mem_ents_head ha
          rw [up_p, cmpP_lt_cons]
          rcases List.mem_cons.1 hm with rfl | hm
          · exact .inl h3
          · exact .inl (cmpB_lt_trans h3 (hok.2.2.2.2 m hm))
        rw [e0, ents_cons, hK, hl]; rfl
theorem put_lab [Inhabited V] (q : List By) (k : By) (v : V) (n : No V) : (upd q (setN k v) n).1.lab = n.1.lab := upd_lab q (setN k v) (fun _ => rfl) n
theorem put_ents [Inhabited V] {q : List By} {k : By} {v : V} {n : No V} (h : ok n) : nents (upd q (setN k v) n) = insE ⟨q, k, v⟩ (nents n) := by
  induction q generalizing n with
  | nil =>
    obtain ⟨r, s⟩ := n
    show own ⟨r.lab, k, v, true⟩ ++ s.ents = insE ⟨[], k, v⟩ (own r ++ s.ents)
    have hs : ∀ a ∈ s.ents, cmpP [] a.p < 0 := fun a ha => cmpP_nil_lt.2 (ents_ne ha)
    unfold own
    cases r.held with
    | true => simp [insE, cmpP]
    | false => simp [insE_front (e := ⟨[], k, v⟩) hs]
  | cons x q ih =>
    have h1 := ents_put1 (x := x) (q := q) (k := k) (v := v) h.1 (ih (ok_kid' h.1 x)) ((put_lab q k v _).trans (kid_lab _ _))
    show own n.1 ++ (n.2.put1 x _).ents = insE _ (own n.1 ++ n.2.ents)
    rw [h1, insE_pass]
    intro a ha
    rw [own_p ha, cmpP_nil_lt]; simp
theorem mem_put1 {f : Fo V} {x : By} {k m : No V} (h : m ∈ (f.put1 x k).kids) : m = k ∨ m ∈ f.kids := by
  induction f with
  | nl => simpa [Fo.put1, Fo.kids] using h
  | cons r s n _ ih =>
    rw [Fo.put1] at h
    split at h
    · rcases List.mem_cons.1 h with rfl | h
      · exact .inr (by simp [Fo.kids])
      · rcases ih h with h | h
        · exact .inl h
        · exact .inr (by simp [Fo.kids, h])
    · split at h
      · rcases List.mem_cons.1 h with rfl | h
        · exact .inl rfl
        · exact .inr (by simp [Fo.kids, h])
      · rcases List.mem_cons.1 h with rfl | h
        · exact .inl rfl
        · exact .inr h
theorem ok_put1 [Inhabited V] {f : Fo V} (hok : f.ok) {x : By} {K : No V} (hK : ok K) (hb : bare K = false) (hl : K.1.lab = x) : (f.put1 x K).ok := by
  induction f with
  | nl => exact ⟨hK.1, trivial, hK.2, hb, fun m hm => by simp [Fo.kids] at hm⟩
  | cons r s n _ ih =>
    obtain ⟨o1, o2, o3, o4, o5⟩ := hok
    rw [Fo.put1]
    by_cases h1 : cmpB r.lab x < 0
    · rw [if_pos h1]
      refine ⟨o1, ih o2, o3, o4, fun m hm => ?_⟩
      rcases mem_put1 hm with rfl | hm
      · rw [hl]; exact h1
      · exact o5 m hm
    · rw [if_neg h1]
      by_cases h2 : r.lab = x
      · rw [if_pos h2]
        exact ⟨hK.1, o2, hK.2, hb, fun m hm => by rw [hl, ← h2]; exact o5 m hm⟩
      · rw [if_neg h2]
        have h3 := cmpB_gt h1 h2
        refine ⟨hK.1, ⟨o1, o2, o3, o4, o5⟩, hK.2, hb, fun m hm => ?_⟩
        rw [hl]
        rcases List.mem_cons.1 hm with rfl | hm
        · exact h3
        · exact cmpB_lt_trans h3 (o5 m hm)
theorem put1_cons {f : Fo V} {x : By} {k : No V} : (f.put1 x k).kids.isEmpty = false := by
  cases f with
  | nl => rfl
  | cons r s n => rw [Fo.put1]; split <;> (try split) <;> rfl
theorem put_bare [Inhabited V] (q : List By) (k : By) (v : V) (n : No V) : bare (upd q (setN k v) n) = false := by
  cases q with
  | nil => rfl
  | cons x q => unfold bare; simp [upd, put1_cons]
theorem put_ok [Inhabited V] {q : List By} {k : By} {v : V} {n : No V} (h : ok n) : ok (upd q (setN k v) n) := by
  induction q generalizing n with
  | nil => exact ⟨h.1, fun e => by cases e⟩
  | cons x q ih => exact ⟨ok_put1 h.1 (ih (ok_kid' h.1 x)) (put_bare _ _ _ _) ((put_lab q k v _).trans (kid_lab _ _)), h.2⟩

/-! what stands at a path, and below it -/
def En.pre (q : List By) (e : En V) : En V := ⟨q ++ e.p, e.k, e.v⟩
theorem pre_nil (l : List (En V)) : l.map (En.pre []) = l := by
  conv => rhs; rw [← List.map_id l]
  rfl
theorem filter_own {r : Nd V} {x : By} {q : List By} : (own r).filter (fun e => (x :: q).isPrefixOf e.p) = [] := by
  rw [List.filter_eq_nil_iff]
  intro a ha
  rw [own_p ha]; simp
theorem filter_up {x y : By} {q : List By} (l : List (En V)) : (l.map (En.up y)).filter (fun e => (x :: q).isPrefixOf e.p) = if y = x then (l.filter (fun e => q.isPrefixOf e.p)).map (En.up y) else [] := by
  rw [List.filter_map]
  by_cases h : y = x
  · subst h
    rw [if_pos rfl]
    congr 1
    apply List.filter_congr
    intro a _
    simp [Function.comp, up_p]
  · rw [if_neg h]
    have : ((fun e : En V => (x :: q).isPrefixOf e.p) ∘ En.up y) = fun _ => false := by
      funext a
      simp [Function.comp, up_p, List.isPrefixOf]
      intro e; exact absurd e.symm h
    rw [this]; simp
theorem below_none {f : Fo V} {x : By} {q : List By} (h : ∀ m ∈ f.kids, m.1.lab ≠ x) : f.ents.filter (fun e => (x :: q).isPrefixOf e.p) = [] := by
  induction f with
  | nl => rfl
  | cons r s n _ ih =>
    rw [ents_cons, List.filter_append, filter_up, if_neg (h (r, s) (by simp [Fo.kids])), ih (fun m hm => h m (by simp [Fo.kids, hm]))]; rfl
theorem below_sel [Inhabited V] {f : Fo V} (hok : f.ok) {x : By} {q : List By} : f.ents.filter (fun e => (x :: q).isPrefixOf e.p) = match f.sel x with
    | some m => ((nents m).filter (fun e => q.isPrefixOf e.p)).map (En.up x)
    | none => [] := by
  induction f with
  | nl => rfl
  | cons r s n _ ih =>
    rw [ents_cons, List.filter_append, filter_up, Fo.sel]
    by_cases h : r.lab = x
    · subst h
      rw [if_pos rfl, if_pos rfl, below_none (fun m hm e => cmpB_ne (hok.2.2.2.2 m hm) e.symm), List.append_nil]
    · rw [if_neg h, if_neg h, List.nil_append]; exact ih hok.2.1
theorem below_ents [Inhabited V] {q : List By} {n : No V} (h : ok n) : (nents n).filter (fun e => q.isPrefixOf e.p) = match getN q n with
    | some m => (nents m).map (En.pre q)
    | none => [] := by
  induction q generalizing n with
  | nil =>
    show _ = (nents n).map (En.pre [])
    rw [pre_nil, List.filter_eq_self]
    intro a _
    cases a.p <;> rfl
  | cons x q ih =>
    unfold nents
    rw [List.filter_append, filter_own, List.nil_append, below_sel h.1, getN]
    cases hs : n.2.sel x with
    | none => rfl
    | some m =>
      simp only [Option.bind_some]
      rw [ih (ok_sel h.1 hs).1]
      cases getN q m with
      | none => rfl
      | some k => simp only [List.map_map]; rfl
theorem ents_nil [Inhabited V] {f : Fo V} (hok : f.ok) : f.ents = [] ↔ f.kids.isEmpty = true := by
  induction f with
  | nl => simp [Fo.ents, Fo.kids]
  | cons r s n ihs _ =>
    simp only [ents_cons, Fo.kids, List.isEmpty_cons, Bool.false_eq_true, iff_false]
    intro e
    have h1 : nents (r, s) = [] := by simpa using (List.append_eq_nil_iff.1 e).1
    have h2 := hok.2.2.2.1
    unfold nents at h1
    obtain ⟨h3, h4⟩ := List.append_eq_nil_iff.1 h1
    have h5 := (ihs hok.1).1 h4
    unfold bare at h2
    simp only [Bool.and_eq_false_iff, Bool.not_eq_false'] at h2
    rcases h2 with h2 | h2
    · unfold own at h3; dsimp only at h2 h3; rw [h2] at h3; simp at h3
    · rw [h5] at h2; cases h2
theorem nents_nil [Inhabited V] {n : No V} (h : ok n) : nents n = [] ↔ bare n = true := by
  unfold nents bare
  rw [List.append_eq_nil_iff, ents_nil h.1]
  unfold own
  cases n.1.held <;> simp
theorem getN_ok [Inhabited V] {q : List By} {n m : No V} (h : ok n) (hg : getN q n = some m) : ok m ∧ (q ≠ [] → bare m = false) := by
  induction q generalizing n with
  | nil => injection hg with hg; subst hg; exact ⟨h, fun e => absurd rfl e⟩
  | cons x q ih =>
    rw [getN] at hg
    cases hs : n.2.sel x with
    | none => rw [hs] at hg; cases hg
    | some k =>
      rw [hs] at hg
      have hk := ok_sel h.1 hs
      have := ih hk.1 hg
      refine ⟨this.1, fun _ => ?_⟩
      cases q with
      | nil => injection hg with hg; subst hg; exact hk.2
      | cons y q => exact this.2 (by simp)
/-- whether there is something at or under a path. -/
def exE (q : List By) (l : List (En V)) : Bool := l.any fun e => q.isPrefixOf e.p
theorem ex_ents [Inhabited V] {q : List By} {n : No V} (h : ok n) : exE q (nents n) = match getN q n with
    | some m => !bare m
    | none => false := by
  have hb := below_ents (q := q) h
  unfold exE
  cases hg : getN q n with
  | none =>
    rw [hg] at hb
    dsimp only at hb ⊢
    rw [List.any_eq_false]
    intro a ha
    have := List.filter_eq_nil_iff.1 hb a ha
    simpa using this
  | some m =>
    rw [hg] at hb
    dsimp only at hb ⊢
    have hm := (getN_ok h hg).1
    cases hbm : bare m with
    | true =>
      rw [(nents_nil hm).2 hbm] at hb
      rw [Bool.not_true, List.any_eq_false]
      intro a ha
      have := List.filter_eq_nil_iff.1 hb a ha
      simpa using this
    | false =>
      rw [Bool.not_false, List.any_eq_true]
      have hne : nents m ≠ [] := fun e => by rw [(nents_nil hm).1 e] at hbm; cases hbm
      obtain ⟨a, l, hl⟩ := List.exists_cons_of_ne_nil hne
      have : En.pre q a ∈ (nents n).filter (fun e => q.isPrefixOf e.p) := by rw [hb, hl]; simp
      exact ⟨_, (List.mem_filter.1 this).1, (List.mem_filter.1 this).2⟩
theorem ex_take [Inhabited V] {q : List By} {n : No V} (h : ok n) (hb : bare n = false) {k : Nat} (hk : k ≤ q.length) : exE (q.take k) (nents n) = decide (k ≤ dep q n) := by
  rw [ex_ents h]
  by_cases hd : k ≤ dep q n
  · rw [getN_take q n k hd, decide_eq_true hd]
    dsimp only
    by_cases h0 : q.take k = []
    · rw [h0]; simp [atq, hb]
    · rw [(getN_ok h (getN_take q n k hd)).2 h0]; rfl
  · rw [getN_none q n k hk (by omega), decide_eq_false hd]
/-- what stands at a path. -/
def getE (q : List By) (l : List (En V)) : Option (En V) := l.find? fun e => e.p == q
theorem get_ents [Inhabited V] {q : List By} {n : No V} (h : ok n) : getE q (nents n) = match getN q n with
    | some m => if m.1.held then some ⟨q, m.1.key, m.1.val⟩ else none
    | none => none := by
  have hb := below_ents (q := q) h
  have h1 : getE q (nents n) = ((nents n).filter (fun e => q.isPrefixOf e.p)).find? (fun e => e.p == q) := by
    unfold getE
    rw [List.find?_filter]
    congr 1
    funext a
    cases h2 : a.p == q with
    | false => simp
    | true => rw [beq_iff_eq.1 h2]; simp
  rw [h1, hb]
  cases hg : getN q n with
  | none => rfl
  | some m =>
    dsimp only
    obtain ⟨⟨lab, key, val, held⟩, s⟩ := m
    have hs : (s.ents.map (En.pre q)).find? (fun e => e.p == q) = none := by
      rw [List.find?_eq_none]
      intro a ha
      obtain ⟨b, hb, rfl⟩ := List.mem_map.1 ha
      have := ents_ne hb
      simpa [En.pre] using this
    unfold nents own
    cases held with
    | true => simp [En.pre]
    | false => simpa using hs
end Go.Proofs.Ytpnfkgjcnofjnaa.Tr
/- What forests' entries become where something is taken away; the first entry behind a path. Nothing of the program. -/
namespace Go.Proofs.Ytpnfkgjcnofjnaa.Tr
open Nm (cmpB)
variable {V : Type}

theorem ents_split [Inhabited V] {f : Fo V} (hok : f.ok) {x : By} {m : No V} (hs : f.sel x = some m) :
    ∃ A B : List (En V), f.ents = A ++ ((nents m).map (En.up x) ++ B) ∧ (∀ K : No V, K.1.lab = x → (f.put1 x K).ents = A ++ ((nents K).map (En.up x) ++ B)) ∧ (f.del1 x).ents = A ++ B ∧ ∀ e, e ∈ A ∨ e ∈ B → ∀ q, e.p ≠ x :: q := by
  induction f with
  | nl => simp [Fo.sel] at hs
  | cons r s n _ ih =>
    rw [Fo.sel] at hs
    by_cases h : r.lab = x
    · rw [if_pos h] at hs
      injection hs with hs
      subst hs h
      refine ⟨[], n.ents, by rw [ents_cons]; rfl, fun K hK => ?_, by rw [Fo.del1, if_pos rfl]; rfl, fun e he q hq => ?_⟩
      · rw [Fo.put1, cmpB_self, if_neg (by omega), if_pos rfl, ents_cons, hK]; rfl
      · rcases he with he | he
        · simp at he
        · obtain ⟨m, hm, e', _, rfl⟩ := mem_ents_head he
          injection hq with hq _
          exact cmpB_ne (hok.2.2.2.2 m hm) hq.symm
    · rw [if_neg h] at hs
      have hl : cmpB r.lab x < 0 := by
        have h1 := hok.2.2.2.2 m (sel_mem hs).1
        rw [(sel_mem hs).2] at h1
        exact h1
      obtain ⟨A, B, h1, h2, h3, h4⟩ := ih hok.2.1 hs
      refine ⟨(nents (r, s)).map (En.up r.lab) ++ A, B, by rw [ents_cons, h1, List.append_assoc], fun K hK => by rw [Fo.put1, if_pos hl, ents_cons, h2 K hK, List.append_assoc], by rw [Fo.del1, if_neg h, ents_cons, h3, List.append_assoc], fun e he q hq => ?_⟩
      rcases he with he | he
      · rcases List.mem_append.1 he with he | he
        · obtain ⟨e', _, rfl⟩ := List.mem_map.1 he
          injection hq with hq _
          exact h hq
        · exact h4 e (.inl he) q hq
      · exact h4 e (.inr he) q hq
theorem none_at {f : Fo V} {x : By} (hs : f.sel x = none) : ∀ e ∈ f.ents, ∀ q, e.p ≠ x :: q := by
  intro e he q hq
  obtain ⟨m, hm, e', _, rfl⟩ := mem_ents_head he
  injection hq with hq _
  exact sel_none' hs m hm hq
theorem mem_del1 {f : Fo V} {x : By} {m : No V} (h : m ∈ (f.del1 x).kids) : m ∈ f.kids := by
  induction f with
  | nl => exact h
  | cons r s n _ ih =>
    rw [Fo.del1] at h
    split at h
    · simp [Fo.kids, h]
    · rcases List.mem_cons.1 h with rfl | h
      · simp [Fo.kids]
      · simp [Fo.kids, ih h]
theorem ok_del1 [Inhabited V] {f : Fo V} (hok : f.ok) (x : By) : (f.del1 x).ok := by
  induction f with
  | nl => exact hok
  | cons r s n _ ih =>
    rw [Fo.del1]
    split
    · exact hok.2.1
    · exact ⟨hok.1, ih hok.2.1, hok.2.2.1, hok.2.2.2.1, fun m hm => hok.2.2.2.2 m (mem_del1 hm)⟩
theorem filter_all {l : List (En V)} {q : List By} (h : ∀ e ∈ l, e.p ≠ q) : l.filter (fun e => !(e.p == q)) = l := by
  rw [List.filter_eq_self]
  intro a ha
  simpa using h a ha
theorem any_no {l : List (En V)} {q : List By} (h : ∀ e ∈ l, e.p ≠ q) : l.any (fun e => e.p == q) = false := by
  rw [List.any_eq_false]
  intro a ha
  simpa using h a ha
theorem filter_upd {l : List (En V)} {x : By} {q : List By} : (l.map (En.up x)).filter (fun e => !(e.p == x :: q)) = (l.filter (fun e => !(e.p == q))).map (En.up x) := by
  rw [List.filter_map]
  congr 1
  apply List.filter_congr
  intro a _
  simp [Function.comp, up_p]
theorem any_upd {l : List (En V)} {x : By} {q : List By} : (l.map (En.up x)).any (fun e => e.p == x :: q) = l.any (fun e => e.p == q) := by
  rw [List.any_map]
  congr 1
  funext a
  simp [Function.comp, up_p]
theorem own_ne {r : Nd V} {x : By} {q : List By} : ∀ e ∈ own r, e.p ≠ x :: q := fun e he => by rw [own_p he]; simp
theorem drop_lab [Inhabited V] (q : List By) (n : No V) : (drop q n).1.1.lab = n.1.lab := by
  cases q with
  | nil => rfl
  | cons x q =>
    rw [drop]
    split
    · rfl
    · split <;> rfl
theorem drop_ents [Inhabited V] {q : List By} {n : No V} (h : ok n) :
    nents (drop q n).1 = (nents n).filter (fun e => !(e.p == q)) ∧ (drop q n).2 = (nents n).any (fun e => e.p == q) ∧ ok (drop q n).1 := by
  induction q generalizing n with
  | nil =>
    obtain ⟨⟨lab, key, val, held⟩, s⟩ := n
    have hs : ∀ e ∈ s.ents, e.p ≠ [] := fun e he => ents_ne he
    refine ⟨?_, ?_, h.1, fun _ => ⟨rfl, rfl⟩⟩
    · show [] ++ s.ents = _
      unfold nents
      rw [List.filter_append, filter_all (l := s.ents) hs]
      unfold own
      cases held <;> rfl
    · show held = _
      unfold nents
      rw [List.any_append, any_no hs]
      unfold own
      cases held <;> rfl
  | cons x q ih =>
    rw [drop]
    cases hs : n.2.sel x with
    | none =>
      dsimp only
      have hn : ∀ e ∈ nents n, e.p ≠ x :: q := fun e he => by
        rcases List.mem_append.1 he with he | he
        · exact own_ne e he
        · exact none_at hs e he q
      exact ⟨(filter_all hn).symm, (any_no hn).symm, h⟩
    | some m =>
      dsimp only
      obtain ⟨A, B, h1, h2, h3, h4⟩ := ents_split h.1 hs
      obtain ⟨i1, i2, i3⟩ := ih (ok_sel h.1 hs).1
      have hl : (drop q m).1.1.lab = x := (drop_lab q m).trans (sel_mem hs).2
      have hA : ∀ e ∈ A, e.p ≠ x :: q := fun e he => h4 e (.inl he) q
      have hB : ∀ e ∈ B, e.p ≠ x :: q := fun e he => h4 e (.inr he) q
      have hf : (nents n).filter (fun e => !(e.p == x :: q)) = own n.1 ++ (A ++ ((nents (drop q m).1).map (En.up x) ++ B)) := by
        show (own n.1 ++ n.2.ents).filter _ = _
        rw [h1, List.filter_append, List.filter_append, List.filter_append, filter_all own_ne, filter_all hA, filter_all hB, filter_upd, i1]
      have ha : (nents n).any (fun e => e.p == x :: q) = (drop q m).2 := by
        unfold nents
        rw [h1, List.any_append, List.any_append, List.any_append, any_no own_ne, any_no hA, any_no hB, any_upd, i2]
        simp [nents]
      cases hd : (drop q m).2 with
      | true =>
        rw [if_pos rfl]
        rw [hd] at ha
        cases hb : bare (drop q m).1 with
        | true =>
          rw [if_pos rfl]
          rw [(nents_nil i3).2 hb] at hf
          refine ⟨?_, ha.symm, ok_del1 h.1 x, h.2⟩
          rw [hf]
          show own n.1 ++ (n.2.del1 x).ents = _
          rw [h3]; rfl
        | false =>
          rw [if_neg (by simp)]
          refine ⟨?_, ha.symm, ok_put1 h.1 i3 hb hl, h.2⟩
          rw [hf]
          show own n.1 ++ (n.2.put1 x _).ents = _
          rw [h2 _ hl]
      | false =>
        rw [if_neg (by simp)]
        rw [hd] at ha i2
        have hb : bare (drop q m).1 = false := by
          have hm := ok_sel h.1 hs
          have : nents (drop q m).1 = nents m := by
            rw [i1, filter_all]
            intro e he
            have := List.any_eq_false.1 i2.symm e he
            simpa using this
          cases hbb : bare (drop q m).1 with
          | false => rfl
          | true =>
            have := (nents_nil i3).2 hbb
            rw [‹nents (drop q m).1 = nents m›] at this
            rw [(nents_nil hm.1).1 this] at hm
            exact absurd hm.2 (by simp)
        refine ⟨?_, ha.symm, ok_put1 h.1 i3 hb hl, h.2⟩
        rw [hf]
        show own n.1 ++ (n.2.put1 x _).ents = _
        rw [h2 _ hl]

/-! the first entry behind a path -/
def fstK (l : List (No V)) : Option By := l.findSome? fun m => (nents m).head?.map (·.k)
theorem fstK_ents (f : Fo V) : fstK f.kids = f.ents.head?.map (·.k) := by
  induction f with
  | nl => rfl
  | cons r s n _ ih =>
    unfold fstK at *
    rw [Fo.kids, List.findSome?_cons, ents_cons, ih]
    cases nents (r, s) <;> simp [En.up]
def aft : List By → No V → Option By
  | [], n => fstK n.2.kids
  | x :: q, n => match n.2.sel x with
    | some m => (aft q m).or (fstK (n.2.kids.drop (n.2.idx x + 1)))
    | none => fstK (n.2.kids.drop (n.2.idx x))
def gtE (q : List By) (l : List (En V)) : Option (En V) := l.find? fun e => decide (cmpP q e.p < 0)
theorem gt_all {l : List (En V)} {q : List By} (h : ∀ e ∈ l, cmpP q e.p < 0) : gtE q l = l.head? := by
  cases l with
  | nil => rfl
  | cons a l => unfold gtE; rw [List.find?_cons, decide_eq_true (h a (by simp))]; rfl
theorem gt_none {l : List (En V)} {q : List By} (h : ∀ e ∈ l, ¬ cmpP q e.p < 0) : gtE q l = none := by
  unfold gtE
  rw [List.find?_eq_none]
  intro a ha
  simpa using h a ha
theorem gt_app {a b : List (En V)} {q : List By} : gtE q (a ++ b) = (gtE q a).or (gtE q b) := by unfold gtE; rw [List.find?_append]
theorem gt_up {l : List (En V)} {x : By} {q : List By} : gtE (x :: q) (l.map (En.up x)) = (gtE q l).map (En.up x) := by
  unfold gtE
  rw [List.find?_map]
  congr 2
  funext a
  simp [Function.comp, up_p, cmpP_same]
theorem aft_fo [Inhabited V] {f : Fo V} (hok : f.ok) {x : By} {q : List By} (g : No V → Option By) (hg : ∀ m, f.sel x = some m → g m = (gtE q (nents m)).map (·.k)) :
    (match f.sel x with
    | some m => (g m).or (fstK (f.kids.drop (f.idx x + 1)))
    | none => fstK (f.kids.drop (f.idx x))) = (gtE (x :: q) f.ents).map (·.k) := by
  induction f with
  | nl => rfl
  | cons r s n _ ih =>
    have hgt : ∀ a ∈ n.ents, cmpB x r.lab < 0 ∨ x = r.lab → cmpP (x :: q) a.p < 0 := fun a ha hx => by
      obtain ⟨m, hm, e1, _, rfl⟩ := mem_ents_head ha
      rw [up_p, cmpP_lt_cons]
      rcases hx with hx | rfl
      · exact .inl (cmpB_lt_trans hx (hok.2.2.2.2 m hm))
      · exact .inl (hok.2.2.2.2 m hm)
    rw [Fo.sel, Fo.idx, ents_cons, gt_app]
    by_cases h1 : cmpB r.lab x < 0
    · rw [if_neg (cmpB_ne h1), if_pos h1, gt_none]
      · rw [Fo.sel, if_neg (cmpB_ne h1)] at hg
        simpa [Fo.kids] using ih hok.2.1 hg
      · intro e he
        obtain ⟨e', _, rfl⟩ := List.mem_map.1 he
        rw [up_p, cmpP_lt_cons]
        rintro (h | ⟨rfl, _⟩)
        · exact lt_not (a := [r.lab]) (b := [x]) (by rw [cmpP_lt_cons]; exact .inl h1) (by rw [cmpP_lt_cons]; exact .inl h)
        · rw [cmpB_self] at h1; omega
    · rw [if_neg h1]
      by_cases h2 : r.lab = x
      · rw [Fo.sel, if_pos h2] at hg
        rw [if_pos h2]
        subst h2
        dsimp only
        rw [hg _ rfl, gt_up, gt_all (fun a ha => hgt a ha (.inr rfl))]
        simp only [Fo.kids, Nat.zero_add, List.drop_succ_cons, List.drop_zero]
        rw [fstK_ents]
        cases gtE q (nents (r, s)) <;> rfl
      · rw [if_neg h2]
        have h3 := cmpB_gt h1 h2
        have hn : n.sel x = none := sel_none fun m hm e => h1 (by rw [← e]; exact hok.2.2.2.2 m hm)
        rw [hn]
        simp only [List.drop_zero]
        rw [fstK_ents, ← gt_app, ← ents_cons, gt_all]
        intro a ha
        obtain ⟨m, hm, e1, _, rfl⟩ := mem_ents_head ha
        rw [up_p, cmpP_lt_cons]
        rcases List.mem_cons.1 hm with rfl | hm
        · exact .inl h3
        · exact .inl (cmpB_lt_trans h3 (hok.2.2.2.2 m hm))
theorem aft_ents [Inhabited V] {q : List By} {n : No V} (h : ok n) : aft q n = (gtE q (nents n)).map (·.k) := by
  have ho : ∀ q : List By, gtE q (own n.1) = none := fun q => gt_none fun e he => by rw [own_p he]; cases q <;> simp [cmpP]
  induction q generalizing n with
  | nil =>
    unfold nents
    rw [aft, fstK_ents, gt_app, ho, gt_all (l := n.2.ents) (fun e he => cmpP_nil_lt.2 (ents_ne he))]; rfl
  | cons x q ih =>
    unfold nents
    rw [aft, gt_app, ho]
    simp only [Option.none_or]
    refine aft_fo h.1 (aft q) fun m hm => ih (ok_sel h.1 hm).1 fun q => gt_none fun e he => by rw [own_p he]; cases q <;> simp [cmpP]

/-! how many -/
theorem insE_length {e : En V} {l : List (En V)} (h : Asc l) : (insE e l).length = if l.any (fun a => a.p == e.p) then l.length else l.length + 1 := by
  induction l with
  | nil => rfl
  | cons a l ih =>
    unfold Asc at *
    obtain ⟨h1, h2⟩ := List.pairwise_cons.1 h
    rw [insE, List.any_cons]
    by_cases hl : cmpP a.p e.p < 0
    · rw [if_pos hl, List.length_cons, ih h2]
      have : (a.p == e.p) = false := beq_eq_false_iff_ne.2 (cmpP_ne hl)
      rw [this, Bool.false_or]
      split <;> simp
    · rw [if_neg hl]
      by_cases he : a.p = e.p
      · rw [if_pos he, he]; simp
      · rw [if_neg he]
        have : (a.p == e.p) = false := beq_eq_false_iff_ne.2 he
        have hn : l.any (fun a => a.p == e.p) = false := any_no fun b hb eb => by
          have := h1 b hb
          rw [eb] at this
          exact hl this
        rw [this, hn]; simp
theorem drop_length {q : List By} {l : List (En V)} (h : Asc l) : (l.filter (fun e => !(e.p == q))).length = if l.any (fun a => a.p == q) then l.length - 1 else l.length := by
  induction l with
  | nil => rfl
  | cons a l ih =>
    unfold Asc at *
    obtain ⟨h1, h2⟩ := List.pairwise_cons.1 h
    rw [List.filter_cons, List.any_cons]
    by_cases he : a.p = q
    · have hn : ∀ b ∈ l, b.p ≠ q := fun b hb eb => by
        have := h1 b hb
        rw [eb, he] at this
        exact cmpP_ne this rfl
      rw [he, beq_self_eq_true, filter_all hn]; simp
    · have : (a.p == q) = false := beq_eq_false_iff_ne.2 he
      rw [this, Bool.not_false, if_pos rfl, List.length_cons, ih h2, Bool.false_or]
      split
      · rename_i hx
        obtain ⟨b, hb, _⟩ := List.any_eq_true.1 hx
        have := List.length_pos_of_mem hb
        simp; omega
      · simp
theorem getE_any {q : List By} {l : List (En V)} : (getE q l).isSome = l.any (fun e => e.p == q) := by unfold getE; rw [Bool.eq_iff_iff, List.find?_isSome, List.any_eq_true]
/-- there are no more kids than entries. -/
theorem kids_le [Inhabited V] {f : Fo V} (h : f.ok) : f.kids.length ≤ f.ents.length := by
  induction f with
  | nl => simp [Fo.kids]
  | cons r s n _ ih =>
    have h1 := ih h.2.1
    have h2 : nents (r, s) ≠ [] := fun e => by
      have := (nents_nil (n := (r, s)) ⟨h.1, h.2.2.1⟩).1 e
      rw [h.2.2.2.1] at this; cases this
    have h3 := List.length_pos_iff.2 h2
    rw [ents_cons, Fo.kids]; simp; omega
end Go.Proofs.Ytpnfkgjcnofjnaa.Tr
