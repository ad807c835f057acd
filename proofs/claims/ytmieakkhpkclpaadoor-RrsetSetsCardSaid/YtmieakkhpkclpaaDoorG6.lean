/- Texts of the proofs, merged. -/
import Derived.Test.YtmieakkhpkclpaaDoorG5
import Derived.Test.YtmieakkhpkclpaaDoorG1
/- The order of names is one; what lies under what: over plain lists. -/
namespace Go.Proofs.YtmieakkhpkclpaaDoor.Nm

theorem sgn_neg (a b : Nat) : sgn a b = - sgn b a := by
  unfold sgn
  rcases Nat.lt_trichotomy a b with h | h | h
  · rw [if_pos h, if_neg (by omega), if_pos h]
  · subst h; rw [if_neg (by omega), if_neg (by omega)]; rfl
  · rw [if_neg (by omega), if_pos h, if_pos h]; rfl
theorem cmpB_neg (a b : By) : cmpB a b = - cmpB b a := by
  induction a generalizing b with
  | nil => cases b <;> simp [cmpB]
  | cons x a ih =>
    cases b with
    | nil => simp [cmpB]
    | cons y b =>
      rw [cmpB, cmpB]
      by_cases h : x = y
      · rw [if_pos h, if_pos h.symm]; exact ih b
      · rw [if_neg h, if_neg (fun e => h e.symm)]; exact sgn_neg _ _
theorem sgn_le {a b : Nat} : sgn a b ≤ 0 ↔ a ≤ b := by
  unfold sgn
  rcases Nat.lt_trichotomy a b with h | h | h
  · rw [if_pos h]; omega
  · subst h; rw [if_neg (by omega), if_neg (by omega)]; omega
  · rw [if_neg (by omega), if_pos h]; omega
theorem cmpB_trans {a b c : By} (h1 : cmpB a b ≤ 0) (h2 : cmpB b c ≤ 0) : cmpB a c ≤ 0 := by
  induction a generalizing b c with
  | nil => cases c <;> simp [cmpB]
  | cons x a ih =>
    cases b with
    | nil => simp [cmpB] at h1
    | cons y b =>
      cases c with
      | nil => simp [cmpB] at h2
      | cons z c =>
        rw [cmpB] at h1 h2 ⊢
        by_cases h : x = y
        · subst h
          rw [if_pos rfl] at h1
          by_cases h' : x = z
          · subst h'; rw [if_pos rfl] at h2 ⊢; exact ih h1 h2
          · rw [if_neg h'] at h2 ⊢; exact h2
        · rw [if_neg h, sgn_le] at h1
          have hn : x.toNat ≠ y.toNat := fun e => h (UInt8.toNat_inj.1 e)
          have h2' : y.toNat ≤ z.toNat := by
            by_cases h' : y = z
            · subst h'; omega
            · rw [if_neg h', sgn_le] at h2; exact h2
          have hxz : x ≠ z := fun e => by subst e; omega
          rw [if_neg hxz, sgn_le]; omega
theorem cmpL_zero {a b : List By} : cmpL a b = 0 ↔ a.map fold = b.map fold := by
  induction a generalizing b with
  | nil => cases b <;> simp [cmpL]
  | cons x a ih =>
    cases b with
    | nil => simp [cmpL]
    | cons y b =>
      rw [cmpL]
      by_cases h : cmpB (fold x) (fold y) = 0
      · rw [if_pos h, ih, List.map_cons, List.map_cons, cmpB_zero.1 h]; simp
      · rw [if_neg h]
        have : fold x ≠ fold y := fun e => h (cmpB_zero.2 e)
        simp [h, this]
theorem cmpL_neg (a b : List By) : cmpL a b = - cmpL b a := by
  induction a generalizing b with
  | nil => cases b <;> simp [cmpL]
  | cons x a ih =>
    cases b with
    | nil => simp [cmpL]
    | cons y b =>
      rw [cmpL, cmpL, cmpB_neg (fold y) (fold x)]
      by_cases h : cmpB (fold x) (fold y) = 0
      · rw [if_pos h, if_pos (by omega)]; exact ih b
      · rw [if_neg h, if_neg (by omega)]; omega
theorem cmpL_range (a b : List By) : -1 ≤ cmpL a b ∧ cmpL a b ≤ 1 := by
  induction a generalizing b with
  | nil => cases b <;> simp [cmpL]
  | cons x a ih =>
    cases b with
    | nil => simp [cmpL]
    | cons y b => rw [cmpL]; split
                  · exact ih b
                  · exact cmpB_range _ _
theorem cmpL_trans {a b c : List By} (h1 : cmpL a b ≤ 0) (h2 : cmpL b c ≤ 0) : cmpL a c ≤ 0 := by
  induction a generalizing b c with
  | nil => cases c <;> simp [cmpL]
  | cons x a ih =>
    cases b with
    | nil => simp [cmpL] at h1
    | cons y b =>
      cases c with
      | nil => simp [cmpL] at h2
      | cons z c =>
        rw [cmpL] at h1 h2 ⊢
        by_cases e1 : cmpB (fold x) (fold y) = 0
        · rw [if_pos e1] at h1
          rw [cmpB_zero.1 e1]
          by_cases e2 : cmpB (fold y) (fold z) = 0
          · rw [if_pos e2] at h2 ⊢; exact ih h1 h2
          · rw [if_neg e2] at h2 ⊢; exact h2
        · rw [if_neg e1] at h1
          have h3 : cmpB (fold y) (fold z) ≤ 0 := by
            by_cases e2 : cmpB (fold y) (fold z) = 0
            · omega
            · rw [if_neg e2] at h2; exact h2
          have h4 := cmpB_trans h1 h3
          by_cases e3 : cmpB (fold x) (fold z) = 0
          · exfalso
            rw [cmpB_zero.1 e3] at h1 e1
            have := cmpB_neg (fold y) (fold z)
            omega
          · rw [if_neg e3]; exact h4
theorem cmpN_neg (a b : By) : cmpN a b = - cmpN b a := by
  unfold cmpN
  rcases split a with _ | x <;> rcases split b with _ | y <;> simp only []
  · exact cmpB_neg a b
  · rfl
  · exact cmpL_neg _ _
theorem cmpN_self (a : By) : cmpN a a = 0 := by
  unfold cmpN
  rcases split a with _ | x
  · exact cmpB_zero.2 rfl
  · exact cmpL_zero.2 rfl
theorem cmpN_range (a b : By) : -1 ≤ cmpN a b ∧ cmpN a b ≤ 1 := by
  unfold cmpN
  rcases split a with _ | x <;> rcases split b with _ | y <;> simp only []
  · exact cmpB_range a b
  · omega
  · omega
  · exact cmpL_range _ _
theorem cmpN_trans {a b c : By} (h1 : cmpN a b ≤ 0) (h2 : cmpN b c ≤ 0) : cmpN a c ≤ 0 := by
  unfold cmpN at *
  generalize split a = sa at *
  generalize split b = sb at *
  generalize split c = sc at *
  rcases sa with _ | x <;> rcases sb with _ | y <;> rcases sc with _ | z <;> simp only [] at *
  all_goals first | exact cmpB_trans h1 h2 | exact cmpL_trans h1 h2 | omega
theorem small_len {n : Nat} (h : n ≤ 63) : small (UInt8.ofNat n) = UInt8.ofNat n := by
  apply UInt8.toNat_inj.1
  rw [small_val]
  have : (UInt8.ofNat n).toNat = n := by simp; omega
  rw [this, if_neg (by omega)]
theorem fold_append (a b : By) : fold (a ++ b) = fold a ++ fold b := by simp [fold]
theorem fold_body {ls : List By} (h : Good ls) : fold (body ls) = body (ls.map fold) := by
  induction ls with
  | nil => rfl
  | cons l ls ih =>
    have hl := h l (by simp)
    rw [body_cons, List.map_cons, body_cons, fold_append, ih (fun x hx => h x (by simp [hx]))]
    congr 1
    show small (UInt8.ofNat l.length) :: fold l = UInt8.ofNat (fold l).length :: fold l
    rw [small_len hl.2, fold_length]
theorem fold_glue {ls : List By} (h : Good ls) : fold (glue ls) = glue (ls.map fold) := by
  unfold glue; rw [fold_append, fold_body h]; rfl
theorem good_fold {ls : List By} (h : Good ls) : Good (ls.map fold) := fun l hl => by
  obtain ⟨m, hm, rfl⟩ := List.mem_map.1 hl
  rw [fold_length]; exact h m hm
theorem glue_inj {x y : List By} (hx : Good x) (hy : Good y) (h : glue x = glue y) : x = y := by
  have h1 := sp_glue x hx
  rw [h, sp_glue y hy] at h1
  injection h1 with h1
  exact h1.symm
theorem fold_glue_iff {x y : List By} (hx : Good x) (hy : Good y) : fold (glue x) = fold (glue y) ↔ x.map fold = y.map fold := by
  rw [fold_glue hx, fold_glue hy]
  exact ⟨fun h => glue_inj (good_fold hx) (good_fold hy) h, fun h => by rw [h]⟩
/-- of names the order is 0 just if they are alike. -/
theorem cmpN_zero {a b : By} {x y : List By} (ha : split a = some x) (hb : split b = some y) : cmpN a b = 0 ↔ fold a = fold b := by
  obtain ⟨rfl, gx, _⟩ := split_some.1 ha
  obtain ⟨rfl, gy, _⟩ := split_some.1 hb
  unfold cmpN
  rw [ha, hb]
  simp only []
  rw [cmpL_zero, fold_glue_iff gx gy, List.map_reverse, List.map_reverse]
  constructor
  · intro h; exact List.reverse_inj.1 h
  · intro h; rw [h]
theorem cmpL_under {x y r : List By} (h : x.map fold = y.map fold) : 0 ≤ cmpL (x ++ r) y := by
  induction x generalizing y with
  | nil =>
    have : y = [] := by simpa using h.symm
    subst this
    cases r <;> simp [cmpL]
  | cons a x ih =>
    cases y with
    | nil => simp at h
    | cons b y =>
      simp at h
      rw [List.cons_append, cmpL, if_pos (cmpB_zero.2 h.1)]
      exact ih (by simpa using h.2)

def underB (n z : By) : Bool := match split n, split z with
  | some a, some b => decide (b.length ≤ a.length) && (fold (glue (a.drop (a.length - b.length))) == fold z)
  | _, _ => false
theorem good_drop {x : List By} (h : Good x) (k : Nat) : Good (x.drop k) := fun l hl => h l (List.mem_of_mem_drop hl)
theorem under_cmp {n z : By} (h : underB n z = true) : 0 ≤ cmpN n z := by
  unfold underB at h
  unfold cmpN
  rcases hn : split n with _ | a
  · rw [hn] at h; simp at h
  · rcases hz : split z with _ | b
    · rw [hn, hz] at h; simp at h
    · rw [hn, hz] at h
      simp only [Bool.and_eq_true, decide_eq_true_eq, beq_iff_eq] at h
      obtain ⟨hl, hf⟩ := h
      obtain ⟨rfl, ga, _⟩ := split_some.1 hn
      obtain ⟨rfl, gb, _⟩ := split_some.1 hz
      simp only []
      rw [fold_glue_iff (good_drop ga _) gb] at hf
      have e : a.reverse = (a.drop (a.length - b.length)).reverse ++ (a.take (a.length - b.length)).reverse := by
        rw [← List.reverse_append, List.take_append_drop]
      rw [e]
      exact cmpL_under (by rw [List.map_reverse, List.map_reverse, hf])
end Go.Proofs.YtmieakkhpkclpaaDoor.Nm
/- Records, keys and data as plain values, and their orders. Nothing of the program. -/
namespace Go.Proofs.YtmieakkhpkclpaaDoor.Rr
open Nm (sgn cmpB cmpN)

abbrev By := List UInt8
/-- the first one that is not 0. -/
def lx (x y : Int) : Int := if x = 0 then y else x
theorem lx_neg (x y : Int) : lx (-x) (-y) = - lx x y := by unfold lx; split <;> split <;> omega
theorem lx_zero {x y : Int} : lx x y = 0 ↔ x = 0 ∧ y = 0 := by unfold lx; split <;> omega
theorem lx_assoc (x y z : Int) : lx (lx x y) z = lx x (lx y z) := by
  unfold lx
  by_cases h : x = 0
  · simp [h]
  · simp [h]
/-- an order that tells -1, 0 or 1. -/
structure Od {α : Type} (c : α → α → Int) : Prop where
  neg : ∀ a b, c a b = - c b a
  range : ∀ a b, -1 ≤ c a b ∧ c a b ≤ 1
  trans : ∀ a b d, c a b ≤ 0 → c b d ≤ 0 → c a d ≤ 0
theorem Od.lex {α : Type} {c d : α → α → Int} (hc : Od c) (hd : Od d) : Od (fun a b => lx (c a b) (d a b)) where
  neg a b := by rw [hc.neg a b, hd.neg a b, lx_neg]
  range a b := by
    have := hc.range a b
    have := hd.range a b
    unfold lx
    split <;> omega
  trans a b e h1 h2 := by
    have n1 := hc.neg a b
    have n2 := hc.neg b e
    have n3 := hc.neg a e
    have t1 := hc.trans a b e
    have t2 := hc.trans e a b
    have t3 := hc.trans b e a
    have t4 := hd.trans a b e
    unfold lx at h1 h2 ⊢
    split at h1 <;> split at h2 <;> split <;> omega
theorem Od.on {α β : Type} {c : α → α → Int} (hc : Od c) (f : β → α) : Od (fun a b => c (f a) (f b)) :=
  ⟨fun _ _ => hc.neg _ _, fun _ _ => hc.range _ _, fun _ _ _ => hc.trans _ _ _⟩
theorem od_sgn : Od sgn where
  neg := Nm.sgn_neg
  range := Nm.sgn_range
  trans a b c h1 h2 := by rw [Nm.sgn_le] at *; omega
theorem sgn_zero {a b : Nat} : sgn a b = 0 ↔ a = b := by unfold sgn; split <;> (try split) <;> omega
theorem od_cmpB : Od cmpB := ⟨Nm.cmpB_neg, Nm.cmpB_range, fun _ _ _ => Nm.cmpB_trans⟩
theorem od_cmpN : Od cmpN := ⟨Nm.cmpN_neg, Nm.cmpN_range, fun _ _ _ => Nm.cmpN_trans⟩
/-- names, and of those that are alike their bytes. -/
def cmpA (a b : By) : Int := lx (cmpN a b) (cmpB a b)
theorem od_cmpA : Od cmpA := od_cmpN.lex od_cmpB
theorem cmpA_zero {a b : By} : cmpA a b = 0 ↔ a = b := by
  unfold cmpA
  rw [lx_zero, Nm.cmpB_zero]
  exact ⟨fun h => h.2, fun h => ⟨by rw [h]; exact Nm.cmpN_self b, h⟩⟩
/-- five numbers. -/
def cmpI (a b : Rd.Dt) : Int := lx (sgn a.n0 b.n0) (lx (sgn a.n1 b.n1) (lx (sgn a.n2 b.n2) (lx (sgn a.n3 b.n3) (sgn a.n4 b.n4))))
theorem od_cmpI : Od cmpI := (od_sgn.on Rd.Dt.n0).lex ((od_sgn.on Rd.Dt.n1).lex ((od_sgn.on Rd.Dt.n2).lex ((od_sgn.on Rd.Dt.n3).lex (od_sgn.on Rd.Dt.n4))))
/-- data. -/
def cmpD (a b : Rd.Dt) : Int := lx (cmpB a.raw b.raw) (lx (cmpA a.host b.host) (lx (cmpA a.mail b.mail) (cmpI a b)))
theorem od_cmpD : Od cmpD := (od_cmpB.on Rd.Dt.raw).lex ((od_cmpA.on Rd.Dt.host).lex ((od_cmpA.on Rd.Dt.mail).lex od_cmpI))
theorem cmpD_zero {a b : Rd.Dt} : cmpD a b = 0 ↔ a = b := by
  obtain ⟨r, h, m, a0, a1, a2, a3, a4⟩ := a
  obtain ⟨r', h', m', b0, b1, b2, b3, b4⟩ := b
  simp only [cmpD, cmpI, lx_zero, Nm.cmpB_zero, cmpA_zero, sgn_zero, Rd.Dt.mk.injEq]
/-- a key. -/
structure Ky where
  nm : By
  ty : Nat
  cl : Nat
def cmpK (a b : Ky) : Int := lx (cmpA a.nm b.nm) (lx (sgn a.ty b.ty) (sgn a.cl b.cl))
theorem od_cmpK : Od cmpK := (od_cmpA.on Ky.nm).lex ((od_sgn.on Ky.ty).lex (od_sgn.on Ky.cl))
theorem cmpK_zero {a b : Ky} : cmpK a b = 0 ↔ a = b := by
  obtain ⟨n, t, c⟩ := a
  obtain ⟨n', t', c'⟩ := b
  simp only [cmpK, lx_zero, cmpA_zero, sgn_zero, Ky.mk.injEq]
/-- a record. -/
structure Rc where
  ky : Ky
  ttl : Nat
  d : Rd.Dt
def cmpR (a b : Rc) : Int := lx (cmpK a.ky b.ky) (lx (cmpD a.d b.d) (sgn a.ttl b.ttl))
theorem od_cmpR : Od cmpR := (od_cmpK.on Rc.ky).lex ((od_cmpD.on Rc.d).lex (od_sgn.on Rc.ttl))
theorem cmpR_zero {a b : Rc} : cmpR a b = 0 ↔ a = b := by
  obtain ⟨k, t, d⟩ := a
  obtain ⟨k', t', d'⟩ := b
  simp only [cmpR, lx_zero, cmpK_zero, cmpD_zero, sgn_zero, Rc.mk.injEq]
  exact ⟨fun ⟨x, y, z⟩ => ⟨x, z, y⟩, fun ⟨x, y, z⟩ => ⟨x, z, y⟩⟩
end Go.Proofs.YtmieakkhpkclpaaDoor.Rr
/- Records as sets: key by key, and by going through the records in order. Nothing of the program. -/
namespace Go.Proofs.YtmieakkhpkclpaaDoor.Rr

instance : DecidableEq Ky := fun _ _ => decidable_of_iff _ cmpK_zero
instance : DecidableEq Rd.Dt := fun _ _ => decidable_of_iff _ cmpD_zero
section
variable {α : Type} {c : α → α → Int}
/-- in order. -/
def Up (c : α → α → Int) (l : List α) : Prop := l.Pairwise fun a b => c a b ≤ 0
def sort (c : α → α → Int) (l : List α) : List α := l.mergeSort fun a b => decide (c a b ≤ 0)
theorem sort_perm (l : List α) : (sort c l).Perm l := List.mergeSort_perm _ _
theorem sort_up (hc : Od c) (l : List α) : Up c (sort c l) := by
  have h := List.pairwise_mergeSort (le := fun a b => decide (c a b ≤ 0)) (fun a b d h1 h2 => by
    simp only [decide_eq_true_eq] at *
    exact hc.trans _ _ _ h1 h2) (fun a b => by
    simp only [Bool.or_eq_true, decide_eq_true_eq]
    have := hc.neg a b
    omega) l
  exact h.imp fun h => by simpa using h
theorem up_one (hc : Od c) (hz : ∀ {a b}, c a b = 0 ↔ a = b) {l m : List α} (hp : l.Perm m) (hl : Up c l) (hm : Up c m) : l = m :=
  List.Perm.eq_of_pairwise (le := fun a b => c a b ≤ 0) (fun a b _ _ h1 h2 => hz.1 (by have := hc.neg a b; omega)) hl hm hp
theorem sort_of (hc : Od c) (hz : ∀ {a b}, c a b = 0 ↔ a = b) {l m : List α} (hp : m.Perm l) (hm : Up c m) : sort c l = m :=
  up_one hc hz ((sort_perm l).trans hp.symm) (sort_up hc l) hm
theorem sort_perm_eq (hc : Od c) (hz : ∀ {a b}, c a b = 0 ↔ a = b) {l m : List α} (hp : l.Perm m) : sort c l = sort c m :=
  sort_of hc hz ((sort_perm m).trans hp.symm) (sort_up hc m)
theorem snoc_ind {P : List α → Prop} (h0 : P []) (h1 : ∀ l x, P l → P (l ++ [x])) (l : List α) : P l := by
  have : ∀ n (l : List α), l.length = n → P l := by
    intro n
    induction n with
    | zero => intro l h; rw [List.eq_nil_of_length_eq_zero h]; exact h0
    | succ n ih =>
      intro l h
      have hne : l ≠ [] := fun e => by rw [e] at h; simp at h
      rw [← List.dropLast_concat_getLast hne]
      exact h1 _ _ (ih _ (by rw [List.length_dropLast]; omega))
  exact this _ l rfl
theorem last_le {l : List α} {x y : α} (h : Up c (l ++ [x])) (hl : l.getLast? = some y) : c y x ≤ 0 := by
  have := (List.pairwise_append.1 h).2.2 y (List.mem_of_getLast? hl) x (by simp)
  exact this
theorem up_front {l : List α} {x : α} (h : Up c (l ++ [x])) : Up c l := (List.pairwise_append.1 h).1
theorem up_last (hc : Od c) {l : List α} {y : α} (h : Up c l) (hl : l.getLast? = some y) : ∀ a ∈ l, c a y ≤ 0 := by
  intro a ha
  have hne : l ≠ [] := fun e => by rw [e] at ha; cases ha
  have e := List.dropLast_concat_getLast hne
  have hy : l.getLast hne = y := by rw [List.getLast?_eq_some_getLast hne] at hl; exact Option.some.inj hl
  rw [← e, hy] at h ha
  rcases List.mem_append.1 ha with h1 | h1
  · exact (List.pairwise_append.1 h).2.2 a h1 y (by simp)
  · rw [List.mem_singleton.1 h1]; have := hc.neg y y; omega
/-- what comes next in order and is not the last one is none of those that were. -/
theorem next_new (hc : Od c) (hz : ∀ {a b}, c a b = 0 ↔ a = b) {l : List α} {x : α} (h : Up c (l ++ [x])) (hl : l.getLast? ≠ some x) : ∀ a ∈ l, c a x < 0 := by
  intro a ha
  have h1 := (List.pairwise_append.1 h).2.2 a ha x (by simp)
  by_cases h0 : c a x = 0
  · have e := hz.1 h0
    subst e
    have hne : l ≠ [] := fun e => by rw [e] at ha; cases ha
    have hy := List.getLast?_eq_some_getLast hne
    have h2 := up_last hc (up_front h) hy a ha
    have h3 := last_le h hy
    have := hc.neg a (l.getLast hne)
    exact absurd (hy.trans (by rw [hz.1 (show c (l.getLast hne) a = 0 by have := hc.neg a (l.getLast hne); omega)])) hl
  · omega
/-- strictly in order. -/
def Lt (c : α → α → Int) (l : List α) : Prop := l.Pairwise fun a b => c a b < 0
theorem Lt.up {l : List α} (h : Lt c l) : Up c l := h.imp fun h => by omega
theorem Lt.nodup (hc : Od c) {l : List α} (h : Lt c l) : l.Nodup := h.imp fun {a b} h e => by subst e; have := hc.neg a a; omega
/-- two that are strictly in order and have the same are one. -/
theorem lt_one (hc : Od c) (hz : ∀ {a b}, c a b = 0 ↔ a = b) {l m : List α} (hl : Lt c l) (hm : Lt c m) (h : ∀ a, a ∈ l ↔ a ∈ m) : l = m :=
  up_one hc hz ((List.perm_ext_iff_of_nodup (hl.nodup hc) (hm.nodup hc)).2 h) hl.up hm.up
/-- of those that stand one behind the other and are alike the first one. -/
def cp1 [DecidableEq α] (l : List α) (x : α) : List α := if l.getLast? = some x then l else l ++ [x]
def cpt [DecidableEq α] (l : List α) : List α := l.foldl cp1 []
variable [DecidableEq α]
theorem cpt_snoc (l : List α) (x : α) : cpt (l ++ [x]) = cp1 (cpt l) x := by unfold cpt; rw [List.foldl_append]; rfl
theorem cpt_last (l : List α) : (cpt l).getLast? = l.getLast? := by
  refine snoc_ind (P := fun l => (cpt l).getLast? = l.getLast?) rfl (fun l x ih => ?_) l
  rw [cpt_snoc]
  unfold cp1
  split
  · rename_i h; rw [h]; simp
  · simp
theorem cpt_mem (l : List α) (a : α) : a ∈ cpt l ↔ a ∈ l := by
  refine snoc_ind (P := fun l => a ∈ cpt l ↔ a ∈ l) Iff.rfl (fun l x ih => ?_) l
  rw [cpt_snoc]
  unfold cp1
  split
  · rename_i h
    rw [ih, List.mem_append, List.mem_singleton]
    rw [cpt_last] at h
    exact ⟨.inl, fun h' => h'.elim id fun e => by rw [e]; exact List.mem_of_getLast? h⟩
  · rw [List.mem_append, List.mem_append, ih]
theorem cpt_lt (hc : Od c) (hz : ∀ {a b}, c a b = 0 ↔ a = b) {l : List α} (h : Up c l) : Lt c (cpt l) := by
  revert h
  refine snoc_ind (P := fun l => Up c l → Lt c (cpt l)) (fun _ => List.Pairwise.nil) (fun l x ih h => ?_) l
  have hi := ih (up_front h)
  rw [cpt_snoc]
  unfold cp1
  split
  · exact hi
  · rename_i hne
    rw [cpt_last] at hne
    refine List.pairwise_append.2 ⟨hi, List.pairwise_singleton _ _, fun a ha b hb => ?_⟩
    rw [List.mem_singleton.1 hb]
    exact next_new hc hz h hne a ((cpt_mem l a).1 ha)
theorem cpt_of_lt (hc : Od c) {l : List α} (h : Lt c l) : cpt l = l := by
  revert h
  refine snoc_ind (P := fun l => Lt c l → cpt l = l) (fun _ => rfl) (fun l x ih h => ?_) l
  have hf : Lt c l := (List.pairwise_append.1 h).1
  rw [cpt_snoc, ih hf]
  unfold cp1
  rw [if_neg]
  intro e
  have := (List.pairwise_append.1 h).2.2 x (List.mem_of_getLast? e) x (by simp)
  have := hc.neg x x
  omega
end
/-- the least number; 0 of none. -/
def least : List Nat → Nat
  | [] => 0
  | x :: r => r.foldl min x
theorem least_snoc (l : List Nat) (x : Nat) : least (l ++ [x]) = if l = [] then x else min (least l) x := by
  cases l with
  | nil => rfl
  | cons a r => simp [least, List.foldl_append]
theorem least_is (l : List Nat) : l ≠ [] → least l ∈ l ∧ ∀ x ∈ l, least l ≤ x := by
  refine snoc_ind (P := fun l => l ≠ [] → least l ∈ l ∧ ∀ x ∈ l, least l ≤ x) (fun h => absurd rfl h) (fun l x ih _ => ?_) l
  rw [least_snoc]
  split
  · rename_i h; subst h; exact ⟨by simp, by simp⟩
  · rename_i h
    obtain ⟨h1, h2⟩ := ih h
    refine ⟨?_, fun y hy => ?_⟩
    · rw [List.mem_append, List.mem_singleton]
      by_cases hx : least l ≤ x
      · left; rw [Nat.min_eq_left hx]; exact h1
      · right; rw [Nat.min_eq_right (by omega)]
    · rcases List.mem_append.1 hy with hy | hy
      · exact Nat.le_trans (Nat.min_le_left _ _) (h2 y hy)
      · rw [List.mem_singleton.1 hy]; exact Nat.min_le_right _ _
theorem least_perm {l m : List Nat} (h : l.Perm m) : least l = least m := by
  by_cases h0 : l = []
  · subst h0; rw [h.nil_eq]
  · have h1 : m ≠ [] := fun e => h0 (by subst e; exact h.eq_nil)
    obtain ⟨a1, a2⟩ := least_is l h0
    obtain ⟨b1, b2⟩ := least_is m h1
    exact Nat.le_antisymm (a2 _ (h.mem_iff.2 b1)) (b2 _ (h.mem_iff.1 a1))
/-- a set. -/
structure St where
  ky : Ky
  ttl : Nat
  ds : List Rd.Dt
def ofKey (F : List Rc) (k : Ky) : List Rc := F.filter fun r => decide (r.ky = k)
def grp (k : Ky) (own : List Rc) : St := ⟨k, least (own.map Rc.ttl), cpt (sort cmpD (own.map Rc.d))⟩
def keys (F : List Rc) : List Ky := cpt (sort cmpK (F.map Rc.ky))
/-- records as sets. -/
def sets (F : List Rc) : List St := (keys F).map fun k => grp k (ofKey F k)
theorem keys_lt (F : List Rc) : Lt cmpK (keys F) := cpt_lt od_cmpK cmpK_zero (sort_up od_cmpK _)
theorem keys_mem {F : List Rc} {k : Ky} : k ∈ keys F ↔ ∃ r ∈ F, r.ky = k := by
  unfold keys
  rw [cpt_mem, (sort_perm _).mem_iff, List.mem_map]
theorem grp_perm {k : Ky} {l m : List Rc} (h : l.Perm m) : grp k l = grp k m := by
  unfold grp
  rw [least_perm (h.map _), sort_perm_eq od_cmpD cmpD_zero (h.map _)]
theorem sets_perm {F G : List Rc} (h : F.Perm G) : sets F = sets G := by
  unfold sets
  have e : keys F = keys G := by unfold keys; rw [sort_perm_eq od_cmpK cmpK_zero (h.map _)]
  rw [e]
  exact List.map_congr_left fun k _ => grp_perm (h.filter _)
/-- however the sets were gathered, in the order of keys they are these. -/
theorem sets_of {F : List Rc} {L : List St} (hl : ∀ x ∈ L, x = grp x.ky (ofKey F x.ky)) (hk : ∀ k, k ∈ L.map St.ky ↔ ∃ r ∈ F, r.ky = k) (hn : (L.map St.ky).Nodup) (hu : Up cmpK (L.map St.ky)) : L = sets F := by
  have hkeys : L.map St.ky = keys F := by
    refine up_one od_cmpK cmpK_zero ((List.perm_ext_iff_of_nodup hn ((keys_lt F).nodup od_cmpK)).2 fun k => ?_) hu (keys_lt F).up
    rw [hk, keys_mem]
  unfold sets
  rw [← hkeys, List.map_map]
  exact (List.map_id L).symm.trans (List.map_congr_left hl)
theorem up_keys {s : List Rc} (h : Up cmpR s) : Up cmpK (s.map Rc.ky) := List.pairwise_map.2 (h.imp fun {a b} h => by
  unfold cmpR lx at h
  split at h <;> omega)
theorem up_data {s : List Rc} (h : Up cmpR s) (k : Ky) : Up cmpD ((ofKey s k).map Rc.d) := by
  refine List.pairwise_map.2 ?_
  have h1 := h.filter fun r => decide (r.ky = k)
  refine List.Pairwise.imp_of_mem ?_ h1
  intro a b ha hb hab
  have ea : a.ky = k := by simpa using (List.mem_filter.1 ha).2
  have eb : b.ky = k := by simpa using (List.mem_filter.1 hb).2
  have h0 : cmpK a.ky b.ky = 0 := cmpK_zero.2 (by rw [ea, eb])
  unfold cmpR at hab
  rw [h0] at hab
  unfold lx at hab
  rw [if_pos rfl] at hab
  split at hab <;> omega
/-- of records in order. -/
def grpU (k : Ky) (own : List Rc) : St := ⟨k, least (own.map Rc.ttl), cpt (own.map Rc.d)⟩
theorem sets_up {s : List Rc} (h : Up cmpR s) : sets s = (cpt (s.map Rc.ky)).map fun k => grpU k (ofKey s k) := by
  unfold sets keys
  rw [sort_of od_cmpK cmpK_zero (List.Perm.refl _) (up_keys h)]
  refine List.map_congr_left fun k _ => ?_
  unfold grp grpU
  rw [sort_of od_cmpD cmpD_zero (List.Perm.refl _) (up_data h k)]
/-- a record more, of records that come in order. -/
def put1 (out : List St) (r : Rc) : List St := match out.getLast? with
  | some x => if x.ky = r.ky then out.dropLast ++ [⟨x.ky, min x.ttl r.ttl, cp1 x.ds r.d⟩] else out ++ [⟨r.ky, r.ttl, [r.d]⟩]
  | none => [⟨r.ky, r.ttl, [r.d]⟩]
theorem ofKey_snoc (s : List Rc) (r : Rc) (k : Ky) : ofKey (s ++ [r]) k = if r.ky = k then ofKey s k ++ [r] else ofKey s k := by
  unfold ofKey
  rw [List.filter_append]
  split
  · rename_i h; simp [h]
  · rename_i h; simp [h]
theorem put_all {s : List Rc} (h : Up cmpR s) : s.foldl put1 [] = sets s := by
  rw [sets_up h]
  revert h
  refine snoc_ind (P := fun s => Up cmpR s → s.foldl put1 [] = (cpt (s.map Rc.ky)).map fun k => grpU k (ofKey s k)) (fun _ => rfl) (fun s r ih h => ?_) s
  have hf := up_front h
  rw [List.foldl_append, List.foldl_cons, List.foldl_nil, ih hf, List.map_append, List.map_cons, List.map_nil, cpt_snoc]
  have hk := up_keys h
  rw [List.map_append, List.map_cons, List.map_nil] at hk
  have hlt := cpt_lt od_cmpK cmpK_zero (up_keys hf)
  unfold cp1
  by_cases hl : (cpt (s.map Rc.ky)).getLast? = some r.ky
  · rw [if_pos hl]
    have hne : cpt (s.map Rc.ky) ≠ [] := fun e => by rw [e] at hl; cases hl
    have e := List.dropLast_concat_getLast hne
    rw [List.getLast?_eq_some_getLast hne] at hl
    rw [Option.some.inj hl] at e
    obtain ⟨ks, hks⟩ : ∃ ks, (cpt (s.map Rc.ky)).dropLast = ks := ⟨_, rfl⟩
    rw [hks] at e
    rw [← e] at hlt ⊢
    have hnot : ∀ k ∈ ks, r.ky ≠ k := fun k hk' e' => by
      have := (List.pairwise_append.1 hlt).2.2 k hk' r.ky (by simp)
      rw [e'] at this
      have := od_cmpK.neg k k
      omega
    have hin : ofKey s r.ky ≠ [] := by
      have hm : r.ky ∈ cpt (s.map Rc.ky) := by rw [← e]; simp
      rw [cpt_mem, List.mem_map] at hm
      obtain ⟨q, hq, hqk⟩ := hm
      exact fun e' => by
        have : q ∈ ofKey s r.ky := List.mem_filter.2 ⟨hq, by simp [hqk]⟩
        rw [e'] at this; cases this
    rw [List.map_append, List.map_append, List.map_cons, List.map_nil, List.map_cons, List.map_nil, put1, List.getLast?_append, List.getLast?_singleton, Option.some_or]
    simp only
    rw [if_pos (show (grpU r.ky (ofKey s r.ky)).ky = r.ky from rfl), List.dropLast_concat]
    congr 1
    · exact List.map_congr_left fun k hk' => by rw [ofKey_snoc, if_neg (hnot k hk')]
    · rw [ofKey_snoc, if_pos rfl]
      unfold grpU
      simp only [List.map_append, List.map_cons, List.map_nil, cpt_snoc, least_snoc]
      rw [if_neg (by simpa using hin)]
  · rw [if_neg hl]
    rw [cpt_last] at hl
    have hnew := next_new od_cmpK cmpK_zero hk hl
    have hnot : ∀ q ∈ s, r.ky ≠ q.ky := fun q hq e' => by
      have := hnew q.ky (List.mem_map_of_mem hq)
      rw [e'] at this
      have := od_cmpK.neg q.ky q.ky
      omega
    have hemp : ofKey s r.ky = [] := by
      unfold ofKey
      rw [List.filter_eq_nil_iff]
      intro q hq
      simpa using fun e => hnot q hq e.symm
    rw [List.map_append, List.map_cons, List.map_nil, ofKey_snoc, if_pos rfl, hemp]
    have hold : (cpt (s.map Rc.ky)).map (fun k => grpU k (ofKey (s ++ [r]) k)) = (cpt (s.map Rc.ky)).map (fun k => grpU k (ofKey s k)) :=
      List.map_congr_left fun k hk' => by
        rw [cpt_mem, List.mem_map] at hk'
        obtain ⟨q, hq, rfl⟩ := hk'
        rw [ofKey_snoc, if_neg (hnot q hq)]
    rw [hold]
    have hone : grpU r.ky ([] ++ [r]) = ⟨r.ky, r.ttl, [r.d]⟩ := rfl
    rw [hone]
    unfold put1
    cases hx : ((cpt (s.map Rc.ky)).map fun k => grpU k (ofKey s k)).getLast? with
    | none =>
      rw [List.getLast?_eq_none_iff] at hx
      rw [hx]; rfl
    | some x =>
      simp only
      rw [List.getLast?_map, Option.map_eq_some_iff] at hx
      obtain ⟨k, hk1, rfl⟩ := hx
      rw [cpt_last] at hk1
      rw [if_neg (fun e => hl (by rw [hk1]; exact congrArg some e))]
end Go.Proofs.YtmieakkhpkclpaaDoor.Rr
/- Which lists have the same records; the records of all sets. Nothing of the program. -/
namespace Go.Proofs.YtmieakkhpkclpaaDoor.Rr

theorem ofKey_mem {F : List Rc} {k : Ky} {r : Rc} : r ∈ ofKey F k ↔ r ∈ F ∧ r.ky = k := by
  unfold ofKey
  rw [List.mem_filter]
  simp
theorem grp_lt (k : Ky) (own : List Rc) : Lt cmpD (grp k own).ds := cpt_lt od_cmpD cmpD_zero (sort_up od_cmpD _)
theorem grp_mem {k : Ky} {own : List Rc} {d : Rd.Dt} : d ∈ (grp k own).ds ↔ ∃ r ∈ own, r.d = d := by
  show d ∈ cpt _ ↔ _
  rw [cpt_mem, (sort_perm _).mem_iff, List.mem_map]
theorem keys_eq {F G : List Rc} (h : ∀ k, (∃ r ∈ F, r.ky = k) ↔ ∃ r ∈ G, r.ky = k) : keys F = keys G :=
  lt_one od_cmpK cmpK_zero (keys_lt F) (keys_lt G) fun k => by rw [keys_mem, keys_mem]; exact h k
theorem ds_eq {k : Ky} {l m : List Rc} (h : ∀ d, (∃ r ∈ l, r.d = d) ↔ ∃ r ∈ m, r.d = d) : (grp k l).ds = (grp k m).ds :=
  lt_one od_cmpD cmpD_zero (grp_lt k l) (grp_lt k m) fun d => by rw [grp_mem, grp_mem]; exact h d
def hd (x : St) : Ky × List Rd.Dt := (x.ky, x.ds)
def In (F G : List Rc) : Prop := ∀ r ∈ F, ∃ q ∈ G, r.ky = q.ky ∧ r.d = q.d
theorem same_iff {F G : List Rc} : (sets F).map hd = (sets G).map hd ↔ In F G ∧ In G F := by
  have H : ∀ {F G : List Rc}, (sets F).map hd = (sets G).map hd → In F G := by
    intro F G h r hr
    have hk : r.ky ∈ keys F := keys_mem.2 ⟨r, hr, rfl⟩
    have hx : hd (grp r.ky (ofKey F r.ky)) ∈ (sets G).map hd := by
      rw [← h]
      exact List.mem_map_of_mem (List.mem_map_of_mem hk)
    obtain ⟨y, hy, he⟩ := List.mem_map.1 hx
    obtain ⟨k, hk2, rfl⟩ := List.mem_map.1 hy
    have e1 : k = r.ky := congrArg Prod.fst he
    have e2 : (grp k (ofKey G k)).ds = (grp r.ky (ofKey F r.ky)).ds := congrArg Prod.snd he
    have hd1 : r.d ∈ (grp k (ofKey G k)).ds := by rw [e2]; exact grp_mem.2 ⟨r, ofKey_mem.2 ⟨hr, rfl⟩, rfl⟩
    obtain ⟨q, hq, hqd⟩ := grp_mem.1 hd1
    obtain ⟨hq1, hq2⟩ := ofKey_mem.1 hq
    exact ⟨q, hq1, by rw [hq2, e1], hqd.symm⟩
  refine ⟨fun h => ⟨H h, H h.symm⟩, fun ⟨h1, h2⟩ => ?_⟩
  have hk : keys F = keys G := keys_eq fun k => ⟨fun ⟨r, hr, e⟩ => by
    obtain ⟨q, hq, e1, _⟩ := h1 r hr
    exact ⟨q, hq, by rw [← e1, e]⟩, fun ⟨r, hr, e⟩ => by
    obtain ⟨q, hq, e1, _⟩ := h2 r hr
    exact ⟨q, hq, by rw [← e1, e]⟩⟩
  unfold sets
  rw [List.map_map, List.map_map, hk]
  refine List.map_congr_left fun k _ => ?_
  show (k, _) = (k, _)
  refine congrArg (k, ·) (ds_eq fun d => ?_)
  constructor
  · rintro ⟨r, hr, rfl⟩
    obtain ⟨hr1, rfl⟩ := ofKey_mem.1 hr
    obtain ⟨q, hq, e1, e2⟩ := h1 r hr1
    exact ⟨q, ofKey_mem.2 ⟨hq, e1.symm⟩, e2.symm⟩
  · rintro ⟨r, hr, rfl⟩
    obtain ⟨hr1, rfl⟩ := ofKey_mem.1 hr
    obtain ⟨q, hq, e1, e2⟩ := h2 r hr1
    exact ⟨q, ofKey_mem.2 ⟨hq, e1.symm⟩, e2.symm⟩
/-- a set's records. -/
def recs (x : St) : List Rc := x.ds.map fun d => ⟨x.ky, x.ttl, d⟩
def all (F : List Rc) : List Rc := (sets F).flatMap recs
theorem all_mem {F : List Rc} {r : Rc} : r ∈ all F ↔ r.ky ∈ keys F ∧ r.ttl = (grp r.ky (ofKey F r.ky)).ttl ∧ r.d ∈ (grp r.ky (ofKey F r.ky)).ds := by
  unfold all sets recs
  rw [List.mem_flatMap]
  constructor
  · rintro ⟨x, hx, hr⟩
    obtain ⟨k, hk, rfl⟩ := List.mem_map.1 hx
    obtain ⟨d, hd', rfl⟩ := List.mem_map.1 hr
    exact ⟨hk, rfl, hd'⟩
  · rintro ⟨h1, h2, h3⟩
    refine ⟨_, List.mem_map_of_mem h1, List.mem_map.2 ⟨r.d, h3, ?_⟩⟩
    obtain ⟨k, t, d⟩ := r
    exact Rc.mk.injEq .. ▸ ⟨rfl, h2.symm, rfl⟩
theorem key_some {F : List Rc} {k : Ky} (h : k ∈ keys F) : ∃ r ∈ F, r.ky = k ∧ ⟨k, (grp k (ofKey F k)).ttl, r.d⟩ ∈ all F := by
  obtain ⟨r, hr, e⟩ := keys_mem.1 h
  exact ⟨r, hr, e, all_mem.2 ⟨h, rfl, grp_mem.2 ⟨r, ofKey_mem.2 ⟨hr, e⟩, rfl⟩⟩⟩
theorem all_keys (F : List Rc) : keys (all F) = keys F := keys_eq fun k => by
  constructor
  · rintro ⟨r, hr, rfl⟩
    exact keys_mem.1 (all_mem.1 hr).1
  · intro h
    obtain ⟨r, _, _, h3⟩ := key_some (keys_mem.2 h)
    exact ⟨_, h3, rfl⟩
/-- the records of all sets make these sets. -/
theorem all_sets (F : List Rc) : sets (all F) = sets F := by
  unfold sets
  rw [all_keys]
  refine List.map_congr_left fun k hk => ?_
  obtain ⟨r0, hr0, e0, h0⟩ := key_some hk
  have hds : (grp k (ofKey (all F) k)).ds = (grp k (ofKey F k)).ds := ds_eq fun d => by
    constructor
    · rintro ⟨r, hr, rfl⟩
      obtain ⟨hr1, rfl⟩ := ofKey_mem.1 hr
      exact grp_mem.1 (all_mem.1 hr1).2.2
    · intro h
      exact ⟨⟨k, (grp k (ofKey F k)).ttl, d⟩, ofKey_mem.2 ⟨all_mem.2 ⟨hk, rfl, grp_mem.2 h⟩, rfl⟩, rfl⟩
  have httl : (grp k (ofKey (all F) k)).ttl = (grp k (ofKey F k)).ttl := by
    have hm : (⟨k, (grp k (ofKey F k)).ttl, r0.d⟩ : Rc) ∈ ofKey (all F) k := ofKey_mem.2 ⟨h0, rfl⟩
    have hne : (ofKey (all F) k).map Rc.ttl ≠ [] := fun e => by
      have := List.mem_map_of_mem (f := Rc.ttl) hm
      rw [e] at this
      cases this
    obtain ⟨q, hq, hqe⟩ := List.mem_map.1 (least_is _ hne).1
    obtain ⟨hq1, hq2⟩ := ofKey_mem.1 hq
    show least _ = _
    rw [← hqe, (all_mem.1 hq1).2.1, hq2]
  show (⟨k, (grp k (ofKey (all F) k)).ttl, (grp k (ofKey (all F) k)).ds⟩ : St) = ⟨k, (grp k (ofKey F k)).ttl, (grp k (ofKey F k)).ds⟩
  rw [hds, httl]
theorem all_same (F : List Rc) : (sets (all F)).map hd = (sets F).map hd := by rw [all_sets]
/-- sets stand in order, each once; none is empty. -/
theorem sets_lt (F : List Rc) : Lt cmpK ((sets F).map St.ky) := by
  have : (sets F).map St.ky = keys F := by unfold sets; rw [List.map_map]; exact List.map_id _
  rw [this]
  exact keys_lt F
theorem sets_some {F : List Rc} {x : St} (h : x ∈ sets F) : x.ds ≠ [] ∧ Lt cmpD x.ds := by
  obtain ⟨k, hk, rfl⟩ := List.mem_map.1 h
  refine ⟨fun e => ?_, grp_lt _ _⟩
  obtain ⟨r, hr, e1⟩ := keys_mem.1 hk
  have : r.d ∈ (grp k (ofKey F k)).ds := grp_mem.2 ⟨r, ofKey_mem.2 ⟨hr, e1⟩, rfl⟩
  rw [e] at this
  cases this
end Go.Proofs.YtmieakkhpkclpaaDoor.Rr
/- Sorting by putting each ahead of the first one that is behind it. Nothing of the program. -/
namespace Go.Proofs.YtmieakkhpkclpaaDoor.Rr

section
variable {α : Type} {c : α → α → Int}
theorem ins_up (hc : Od c) {a b : List α} {x : α} (h : Up c (a ++ b)) (ha : ∀ y ∈ a, c y x ≤ 0) (hb : ∀ y, b.head? = some y → 0 < c y x) : Up c (a ++ x :: b) := by
  obtain ⟨h1, h2, h3⟩ := List.pairwise_append.1 h
  refine List.pairwise_append.2 ⟨h1, List.pairwise_cons.2 ⟨fun y hy => ?_, h2⟩, fun y hy z hz => ?_⟩
  · cases b with
    | nil => cases hy
    | cons z r =>
      have hz := hb z rfl
      have hn := hc.neg z x
      rcases List.mem_cons.1 hy with rfl | hy
      · omega
      · exact hc.trans _ _ _ (by omega) ((List.pairwise_cons.1 h2).1 y hy)
  · rcases List.mem_cons.1 hz with rfl | hz
    · exact ha y hy
    · exact h3 y hy z hz
theorem ins_perm {a b l : List α} {x : α} (h : (a ++ b).Perm l) : (a ++ x :: b).Perm (l ++ [x]) :=
  (List.perm_middle).trans (((List.Perm.cons x h)).trans (List.perm_append_singleton x l).symm)
/-- one more, put in its place. -/
theorem sort_ins (hc : Od c) (hz : ∀ {a b}, c a b = 0 ↔ a = b) {l : List α} {x : α} {k : Nat} (hk : k ≤ (sort c l).length) (ha : ∀ j (h : j < (sort c l).length), j < k → c ((sort c l)[j]) x ≤ 0) (hb : ∀ h : k < (sort c l).length, 0 < c ((sort c l)[k]) x) :
    sort c (l ++ [x]) = (sort c l).take k ++ x :: (sort c l).drop k := by
  have he : (sort c l).take k ++ (sort c l).drop k = sort c l := List.take_append_drop _ _
  refine sort_of hc hz (ins_perm (by rw [he]; exact sort_perm l)) (ins_up hc (by rw [he]; exact sort_up hc l) (fun y hy => ?_) (fun y hy => ?_))
  · obtain ⟨j, hj, rfl⟩ := List.mem_iff_getElem.1 hy
    rw [List.length_take] at hj
    rw [List.getElem_take]
    exact ha j (by omega) (by omega)
  · rw [List.head?_drop] at hy
    obtain ⟨h, rfl⟩ := List.getElem?_eq_some_iff.1 hy
    exact hb h
theorem sort_length (l : List α) : (sort c l).length = l.length := (sort_perm l).length_eq
end
end Go.Proofs.YtmieakkhpkclpaaDoor.Rr
