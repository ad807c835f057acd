/- Texts of the proofs, merged. -/
import Derived.Test.YtgcaephfhfkjcaaGreatDoorZm19
import Derived.Test.YtgcaephfhfkjcaaGreatDoorZm2
import Derived.RangeFuncNested
import Derived.RangeFuncBound
import Derived.RangeFuncCalls
import Derived.RangeFuncLeaves
import Derived.Shelf.Abstract
import Derived.Shelf.RegionOpen
import Derived.OwnWalkIn
import Derived.TacticsInMore
import Derived.LoopNIn
import Derived.LoopIn
import Derived.Test.YtgcaephfhfkjcaaGreatDoorZm3
import Derived.Maps.OwnSet
import Derived.Maps.Views
import Derived.Lib.AppendZeros
import Derived.OrdersIn
import Derived.OrdersHeld
import Derived.Test.YtgcaephfhfkjcaaGreatDoorZm7
import Derived.Laws.Bits64b
import Derived.Test.YtgcaephfhfkjcaaGreatDoorZm4
import Derived.Test.YtgcaephfhfkjcaaGreatDoorZm8
import Derived.Deep.CutBlock
import Derived.MapKept
import Derived.Laws.StructEq
import Derived.Test.YtgcaephfhfkjcaaGreatDoorZm10
import Derived.Laws.AppendOwnNone
import Derived.Lib.AppendStr
import Derived.Test.YtgcaephfhfkjcaaGreatDoorZm18
namespace Go.Proofs.YtgcaephfhfkjcaaGreatDoor.Rd

/-- a part that stands at a place, and where it ends. -/
structure One (b : By) (d : Dt) (hl ml : List By) (n p i j : Nat) : Prop where
  le : i ≤ j
  top : j ≤ b.length
  none : p = 0 → j = i
  raw : 1 ≤ p → p ≤ 4 → j = i + d.raw.length ∧ (b.drop i).take d.raw.length = d.raw
  host : p = 5 ∨ p = 6 → Pr.Rdb b i hl i j
  mail : p = 7 → Pr.Rdb b i ml i j
  n16 : p = 8 → j = i + 2 ∧ Oc.num ((b.drop i).take 2) = hasN d n
  n32 : p = 9 → j = i + 4 ∧ Oc.num ((b.drop i).take 4) = hasN d n
theorem cut_more {b c : By} {i k : Nat} (h : i + k ≤ b.length) : ((b ++ c).drop i).take k = (b.drop i).take k := by
  rw [List.drop_append_of_le_length (by omega), List.take_append_of_le_length (by rw [List.length_drop]; omega)]
theorem One.more {b : By} {d : Dt} {hl ml : List By} {n p i j : Nat} (h : One b d hl ml n p i j) (c : By) : One (b ++ c) d hl ml n p i j := by
  obtain ⟨h1, h2, h3, h4, h5, h6, h7, h8⟩ := h
  refine ⟨h1, by rw [List.length_append]; omega, h3, fun a a' => ?_, fun a => (h5 a).more c, fun a => (h6 a).more c, fun a => ?_, fun a => ?_⟩
  · obtain ⟨e1, e2⟩ := h4 a a'
    exact ⟨e1, by rw [cut_more (by omega)]; exact e2⟩
  · obtain ⟨e1, e2⟩ := h7 a
    exact ⟨e1, by rw [cut_more (by omega)]; exact e2⟩
  · obtain ⟨e1, e2⟩ := h8 a
    exact ⟨e1, by rw [cut_more (by omega)]; exact e2⟩
/-- what a part asks of the data. -/
def Cond (d : Dt) (hl ml : List By) (n p : Nat) : Prop :=
  (p = 5 ∨ p = 6 → Nm.Good hl ∧ (Nm.glue hl).length ≤ 255) ∧ (p = 7 → Nm.Good ml ∧ (Nm.glue ml).length ≤ 255) ∧ (p = 8 → hasN d n < 65536) ∧ (p = 9 → hasN d n < 4294967296)
theorem cut_end (b x : By) : ((b ++ x).drop b.length).take x.length = x := by
  rw [List.drop_left]; exact List.take_length
theorem snd_more {b : By} {T : Tab} (h : Pr.Snd b T) (c : By) : Pr.Snd (b ++ c) T := fun k p hf => (h k p hf).more c
theorem wr1_step {d : Dt} {hl ml : List By} {n p : Nat} {T : Tab} {b : By} (hp : p ≤ 9) (hc : Cond d hl ml n p) (hs : Pr.Snd b T) :
    Pr.Snd (wr1 d hl ml n p T b).2 (wr1 d hl ml n p T b).1 ∧ One (wr1 d hl ml n p T b).2 d hl ml n p b.length (wr1 d hl ml n p T b).2.length ∧ ∃ R, (wr1 d hl ml n p T b).2 = b ++ R := by
  obtain ⟨c5, c7, c8, c9⟩ := hc
  by_cases h4 : 1 ≤ p ∧ p ≤ 4
  · rw [wr1_raw h4.1 h4.2]
    exact ⟨snd_more hs _, ⟨by simp, Nat.le_refl _, fun e => by omega, fun _ _ => ⟨List.length_append, cut_end _ _⟩, fun e => by omega, fun e => by omega, fun e => by omega, fun e => by omega⟩, _, rfl⟩
  by_cases h5 : p = 5
  · subst h5
    obtain ⟨g, h255⟩ := c5 (.inl rfl)
    obtain ⟨r1, r2⟩ := Pr.pw_sound (ls := hl) (t := T) (b := b) false g h255 hs
    exact ⟨r2, ⟨by show b.length ≤ (b ++ _).length; simp, Nat.le_refl _, fun e => by omega, fun _ e => by omega, fun _ => r1, fun e => by omega, fun e => by omega, fun e => by omega⟩, _, rfl⟩
  by_cases h6 : p = 6
  · subst h6
    obtain ⟨g, h255⟩ := c5 (.inr rfl)
    obtain ⟨r1, r2⟩ := Pr.pw_sound (ls := hl) (t := T) (b := b) true g h255 hs
    exact ⟨r2, ⟨by show b.length ≤ (b ++ _).length; simp, Nat.le_refl _, fun e => by omega, fun _ e => by omega, fun _ => r1, fun e => by omega, fun e => by omega, fun e => by omega⟩, _, rfl⟩
  by_cases h7 : p = 7
  · subst h7
    obtain ⟨g, h255⟩ := c7 rfl
    obtain ⟨r1, r2⟩ := Pr.pw_sound (ls := ml) (t := T) (b := b) false g h255 hs
    exact ⟨r2, ⟨by show b.length ≤ (b ++ _).length; simp, Nat.le_refl _, fun e => by omega, fun _ e => by omega, fun e => by omega, fun _ => r1, fun e => by omega, fun e => by omega⟩, _, rfl⟩
  by_cases h8 : p = 8
  · subst h8
    have e : wr1 d hl ml n 8 T b = (T, b ++ Oc.beb 2 (hasN d n)) := rfl
    rw [e]
    have h := cut_end b (Oc.beb 2 (hasN d n))
    rw [Oc.beb_length] at h
    exact ⟨snd_more hs _, ⟨by simp, Nat.le_refl _, fun e => by omega, fun _ e => by omega, fun e => by omega, fun e => by omega, fun _ => ⟨by rw [List.length_append, Oc.beb_length], by show Oc.num (((b ++ _).drop _).take 2) = _; rw [h]; rw [Oc.num_beb]; exact Nat.mod_eq_of_lt (c8 rfl)⟩, fun e => by omega⟩, _, rfl⟩
  by_cases h9 : p = 9
  · subst h9
    have e : wr1 d hl ml n 9 T b = (T, b ++ Oc.beb 4 (hasN d n)) := rfl
    rw [e]
    have h := cut_end b (Oc.beb 4 (hasN d n))
    rw [Oc.beb_length] at h
    exact ⟨snd_more hs _, ⟨by simp, Nat.le_refl _, fun e => by omega, fun _ e => by omega, fun e => by omega, fun e => by omega, fun e => by omega, fun _ => ⟨by rw [List.length_append, Oc.beb_length], by show Oc.num (((b ++ _).drop _).take 4) = _; rw [h]; rw [Oc.num_beb]; exact Nat.mod_eq_of_lt (c9 rfl)⟩⟩, _, rfl⟩
  obtain rfl : p = 0 := by omega
  have e : wr1 d hl ml n 0 T b = (T, b) := rfl
  rw [e]
  exact ⟨hs, ⟨Nat.le_refl _, Nat.le_refl _, fun _ => rfl, fun e => by omega, fun e => by omega, fun e => by omega, fun e => by omega, fun e => by omega⟩, [], by simp⟩
/-- all parts stand at their places. -/
def All (b : By) (d : Dt) (hl ml : List By) (ps : List Nat) (pos : Nat → Nat) : Prop := ∀ j (h : j < ps.length), One b d hl ml (nums (ps.take j)) (ps[j]'h) (pos j) (pos (j + 1))
theorem All.more {b : By} {d : Dt} {hl ml : List By} {ps : List Nat} {pos : Nat → Nat} (h : All b d hl ml ps pos) (c : By) : All (b ++ c) d hl ml ps pos := fun j hj => (h j hj).more c
/-- where the parts end. -/
def pos (T : Tab) (l : By) (d : Dt) (hl ml : List By) (ps : List Nat) (j : Nat) : Nat := (wrs T l d hl ml (ps.take j)).2.1.length
theorem wrs_all {T : Tab} {l : By} {d : Dt} {hl ml : List By} {ps : List Nat} (h9 : ∀ p ∈ ps, p ≤ 9) (hc : ∀ j (h : j < ps.length), Cond d hl ml (nums (ps.take j)) (ps[j]'h)) (hs : Pr.Snd l T) :
    Pr.Snd (wrs T l d hl ml ps).2.1 (wrs T l d hl ml ps).1 ∧ (∃ R, (wrs T l d hl ml ps).2.1 = l ++ R) ∧ All (wrs T l d hl ml ps).2.1 d hl ml ps (pos T l d hl ml ps) := by
  suffices H : ∀ k, k ≤ ps.length → Pr.Snd (wrs T l d hl ml (ps.take k)).2.1 (wrs T l d hl ml (ps.take k)).1 ∧ (∃ R, (wrs T l d hl ml (ps.take k)).2.1 = l ++ R) ∧
      ∀ j (h : j < ps.length), j < k → One (wrs T l d hl ml (ps.take k)).2.1 d hl ml (nums (ps.take j)) (ps[j]'h) (pos T l d hl ml ps j) (pos T l d hl ml ps (j + 1)) by
    obtain ⟨h1, h2, h3⟩ := H ps.length (Nat.le_refl _)
    rw [List.take_length] at h1 h2 h3
    exact ⟨h1, h2, fun j hj => h3 j hj hj⟩
  intro k
  induction k with
  | zero => intro _; exact ⟨by rw [List.take_zero, wrs_nil]; exact hs, ⟨[], by rw [List.take_zero, wrs_nil]; simp⟩, fun j _ h => by omega⟩
  | succ k ih =>
    intro hk
    obtain ⟨h1, ⟨R, h2⟩, h3⟩ := ih (by omega)
    have hkl : k < ps.length := by omega
    have e : ps.take (k + 1) = ps.take k ++ [ps[k]] := List.take_succ_eq_append_getElem hkl
    have hw := wrs_snoc T l d hl ml (ps.take k) ps[k]
    obtain ⟨s1, s2, R2, s3⟩ := wr1_step (h9 _ (List.getElem_mem hkl)) (hc k hkl) h1
    rw [e, hw.1, hw.2]
    refine ⟨s1, ⟨R ++ R2, by rw [s3, h2, List.append_assoc]⟩, fun j hj hjk => ?_⟩
    by_cases hlt : j < k
    · rw [s3]; exact (h3 j hj hlt).more R2
    · obtain rfl : j = k := by omega
      have hp : pos T l d hl ml ps (j + 1) = (wr1 d hl ml (nums (ps.take j)) ps[j] (wrs T l d hl ml (ps.take j)).1 (wrs T l d hl ml (ps.take j)).2.1).2.length := by
        unfold pos
        rw [e, hw.2]
      rw [hp]
      exact s2
/-- behind a part of Raw there is none. -/
theorem raw_only {t k : Nat} (hk : k < (parts t).length) (h1 : 1 ≤ (parts t)[k]) (h4 : (parts t)[k] ≤ 4) : k = 0 ∧ ∀ j (h : j < (parts t).length), 0 < j → (parts t)[j] = 0 := by
  have hx : ∀ l : List Nat, parts t = l → (∃ p, l = [p, 0, 0, 0, 0, 0, 0]) ∨ (∀ p ∈ l, ¬ (1 ≤ p ∧ p ≤ 4)) := by
    rintro l rfl
    refine by_type (P := fun t => (∃ p, parts t = [p, 0, 0, 0, 0, 0, 0]) ∨ (∀ p ∈ parts t, ¬ (1 ≤ p ∧ p ≤ 4))) (.inl ⟨_, rfl⟩) (.inl ⟨_, rfl⟩) (.inl ⟨_, rfl⟩) (.inr (by decide)) (.inl ⟨_, rfl⟩) (.inr (by decide)) (.inl ⟨_, rfl⟩) (.inl ⟨_, rfl⟩) (.inr (by decide)) (fun t a b c d e f g h i => .inl ⟨4, parts_other a b c d e f g h i⟩) t
  rcases hx _ rfl with ⟨p, e⟩ | e
  · have hz : ∀ j (h : j < (parts t).length), 0 < j → (parts t)[j] = 0 := by
      intro j h hj
      simp only [e] at h ⊢
      rcases (by simp at h; omega : j = 1 ∨ j = 2 ∨ j = 3 ∨ j = 4 ∨ j = 5 ∨ j = 6) with rfl | rfl | rfl | rfl | rfl | rfl <;> rfl
    refine ⟨?_, hz⟩
    by_cases h0 : k = 0
    · exact h0
    · have := hz k hk (by omega)
      omega
  · exact absurd ⟨h1, h4⟩ (e _ (List.getElem_mem hk))
theorem All.raw_end {b : By} {d : Dt} {hl ml : List By} {t : Nat} {q : Nat → Nat} (h : All b d hl ml (parts t) q) {k : Nat} (hk : k < (parts t).length) (h1 : 1 ≤ (parts t)[k]) (h4 : (parts t)[k] ≤ 4) : q (k + 1) = q 7 := by
  obtain ⟨rfl, hz⟩ := raw_only hk h1 h4
  have e : ∀ j, 1 ≤ j → j ≤ 7 → q j = q 1 := by
    intro j
    induction j with
    | zero => intro h; omega
    | succ j ih =>
      intro h0 h7
      by_cases hj : j = 0
      · subst hj; rfl
      · have hl : j < (parts t).length := by rw [parts_len]; omega
        rw [(h j hl).none (hz j hl (by omega)), ih (by omega) (by omega)]
  exact (e 7 (by omega) (by omega)).symm
theorem All.up {b : By} {d : Dt} {hl ml : List By} {t : Nat} {q : Nat → Nat} (h : All b d hl ml (parts t) q) : ∀ i j, i ≤ j → j ≤ 7 → q i ≤ q j := by
  intro i j hij
  induction j with
  | zero =>
    intro _
    rw [Nat.le_zero.1 hij]
    exact Nat.le_refl _
  | succ j ih =>
    intro h7
    by_cases he : i = j + 1
    · subst he; exact Nat.le_refl _
    · exact Nat.le_trans (ih (by omega) (by omega)) (h j (by rw [parts_len]; omega)).le
theorem All.top {b : By} {d : Dt} {hl ml : List By} {t : Nat} {q : Nat → Nat} (h : All b d hl ml (parts t) q) {j : Nat} (hj : j ≤ 7) : q j ≤ b.length :=
  Nat.le_trans (h.up j 7 hj (Nat.le_refl _)) ((h 6 (by rw [parts_len]; omega)).top)
end Go.Proofs.YtgcaephfhfkjcaaGreatDoor.Rd
namespace Go.Proofs.YtgcaephfhfkjcaaGreatDoor
open Go.RowKit Go.Shelf

def isBook : Obj → Bool
  | .loop _ => true
  | .deferred _ => true
  | _ => false
def isMapO : Obj → Bool
  | .map .. => true
  | _ => false
/-- whatever is no map, and lies at lo or beyond, lies as it lay. -/
structure Keeps (lo : Nat) (W W' : World) : Prop where
  size : W.heap.size ≤ W'.heap.size
  same : ∀ (k : Nat) (o : Obj), lo ≤ k → W.heap[k]? = some o → isMapO o = false → W'.heap[k]? = some o
theorem Keeps.refl (lo : Nat) (W : World) : Keeps lo W W := ⟨Nat.le_refl _, fun _ _ _ h _ => h⟩
theorem Keeps.trans {lo : Nat} {A B C : World} (h : Keeps lo A B) (k : Keeps lo B C) : Keeps lo A C := ⟨Nat.le_trans h.size k.size, fun i o hl hi ho => k.same i o hl (h.same i o hl hi ho) ho⟩
theorem Keeps.of_below {lo B : Nat} {W W' : World} (h : Below B W W') (hB : W.heap.size ≤ B) : Keeps lo W W' :=
  ⟨h.size, fun k o _ hk _ => (h.block k (by have := (Array.getElem?_eq_some_iff.1 hk).1; omega)).trans hk⟩
theorem Keeps.setCell {lo : Nat} {W : World} {p : Addr} (u : Value) (h : p.block < lo) : Keeps lo W (W.setCell p u) :=
  ⟨by simp, fun k o hl hk _ => (heap_setCell_other W p k u (by omega)).trans hk⟩
theorem Keeps.cell {lo : Nat} {W W' : World} {p : Addr} {v : Value} (h : Keeps lo W W') (hl : lo ≤ p.block) (hc : W.cell? p = some v) : W'.cell? p = some v := by
  obtain ⟨o, ho, hcs⟩ := cells_of_cell hc
  have : W'.heap[p.block]? = some o := h.same _ _ hl ho (by cases o <;> simp_all [isMapO, Obj.isCells])
  exact (World.cell?_of_block (this.trans ho.symm)).trans hc
theorem Keeps.has {lo : Nat} {W W' : World} {g : Nat} {t : TypeId} {cs : Array Value} (h : Keeps lo W W') (hl : lo ≤ g) (hc : Has W g t cs) : Has W' g t cs := h.same _ _ hl hc rfl

/-- what is said abides the book-keeping of a loop, and new blocks. -/
def Book (B : Nat) (I : Nat → World → Prop) : Prop :=
  ∀ i W W' row, I i W → W.grownBy W' row → (∀ r, row = some r → B ≤ r ∧ ∃ o : Obj, W.heap[r]? = some o ∧ isBook o = true) → I i W'
theorem grown_of_below {W W' : World} (h : Below W.heap.size W W') : W.grownBy W' none := ⟨h.os, h.tape, h.output, h.size, fun k hk _ => h.block k hk⟩
theorem Book.alloc {B : Nat} {I : Nat → World → Prop} (h : Book B I) {i : Nat} {W : World} (o : Obj) (hi : I i W) : I i (W.alloc o) := h i W _ none hi (World.grownBy_alloc W o none) (fun r e => by cases e)
variable {F : Fence} {n : Nat} {P : Program}

end Go.Proofs.YtgcaephfhfkjcaaGreatDoor
namespace Go.Proofs.YtgcaephfhfkjcaaGreatDoor
open Go.RowKit Go.Maps

theorem lit_key (l : List UInt8) : WideAt.IsKeyLit (.string l) := trivial
/-- what a map's datum holds is what a table finds. -/
def Hold (D : DataW Unit) (t : Tab) : Prop :=
  IsMap D ∧ ∀ k : List UInt8, Maps.has D (.string k) = decide (0 ≤ findI t k) ∧ (0 ≤ findI t k → ∀ z, D.atKey (.string k) z = .lit (.int .u16 (findI t k)))
set_option maxRecDepth 100000 in
theorem Hold.nil : Hold (.map []) [] := ⟨isMap_empty, fun k => ⟨rfl, fun h => absurd h (by simp [findI])⟩⟩
theorem Hold.put {D : DataW Unit} {t : Tab} (h : Hold D t) (k : List UInt8) (p : Nat) (hn : ¬ 0 ≤ findI t k) : Hold (D.put (.string k) (.lit (.int .u16 p))) (t ++ [(k, p)]) := by
  refine ⟨h.1.put _ _, fun x => ?_⟩
  rw [findI_snoc]
  by_cases hx : k = x
  · subst hx
    rw [has_put_same h.1 (lit_key k), if_neg hn, if_pos rfl]
    exact ⟨by simp, fun _ z => atKey_put_same h.1 (lit_key k) _ _⟩
  · have hne : Lit.string x ≠ Lit.string k := fun e => hx (by injection e with e; exact e.symm)
    rw [has_put_other hne, (h.2 x).1, if_neg hx]
    by_cases h9 : 0 ≤ findI t x
    · rw [if_pos h9]
      exact ⟨rfl, fun _ z => by rw [atKey_put_other hne]; exact (h.2 x).2 h9 z⟩
    · rw [if_neg h9]
      exact ⟨by simp [h9], fun h8 => absurd h8 (by omega)⟩
def MapIs (w : World) (m : Nat) (t : Tab) : Prop := ∃ D : DataW Unit, w.ownsMap Tryz.prog 22 (plainElem Tryz.prog 30) m t.length D ∧ Hold D t
/-- whatever is no map lies as it lay, but for block g; and all that lies below base. -/
structure Rg (g base : Nat) (w w' : World) : Prop where
  below : Below base w w'
  same : ∀ (k : Nat) (o : Obj), k ≠ g → w.heap[k]? = some o → isMapO o = false → w'.heap[k]? = some o
section
variable {g base : Nat} {w w' w2 : World}
set_option maxRecDepth 100000 in
theorem Rg.refl (g base : Nat) (w : World) : Rg g base w w := ⟨Below.refl _ _, fun _ _ _ h _ => h⟩
theorem Rg.trans (h : Rg g base w w') (k : Rg g base w' w2) : Rg g base w w2 := ⟨h.below.trans k.below, fun i o hi ho hn => k.same i o hi (h.same i o hi ho hn) hn⟩
set_option maxRecDepth 100000 in
theorem Rg.of_below (h : Below w.heap.size w w') (hb : base ≤ w.heap.size) : Rg g base w w' := ⟨⟨h.os, h.tape, h.output, h.size, fun k hk => h.block k (by omega)⟩, fun k o _ hk _ => (h.block k (Array.getElem?_eq_some_iff.1 hk).1).trans hk⟩
theorem Rg.has (h : Rg g base w w') {k : Nat} {t : TypeId} {cs : Array Value} (hk : Has w k t cs) (hn : k ≠ g) : Has w' k t cs := h.same k _ hn hk rfl
end
set_option maxRecDepth 100000 in
theorem MapIs.grown {w w' : World} {m : Nat} {t : Tab} {row : Option Nat} (h : MapIs w m t) (hg : w.grownBy w' row) (hne : some m ≠ row) : MapIs w' m t := by
  obtain ⟨D, h1, h2⟩ := h
  exact ⟨D, h1.kept hg hne, h2⟩
end Go.Proofs.YtgcaephfhfkjcaaGreatDoor
namespace Go.Proofs.YtgcaephfhfkjcaaGreatDoor
open Go.RowKit Go.Shelf
attribute [local go_sem] Oper.semAt_some

section
variable {P : Program}
end

section
variable {g base : Nat} {w w' : World} {mp : Option Nat} {t : Tab}
theorem Rg.grown_new (h : Rg g base w w') {w2 : World} {row : Option Nat} (hg : w'.grownBy w2 row) (hr : ∀ r, row = some r → w.heap.size ≤ r) (hb : base ≤ w.heap.size) : Rg g base w w2 := by
  refine ⟨h.below.grown hg (by have := h.below.size; omega) (fun k hk => by have := hr k hk; omega), fun k o hk ho hn => ?_⟩
  have h1 := h.same k o hk ho hn
  have hlt := (Array.getElem?_eq_some_iff.1 ho).1
  exact (hg.block k (Array.getElem?_eq_some_iff.1 h1).1 (fun e => by have := hr k e.symm; omega)).trans h1
theorem Rg.more (h : Rg g base w w') {w2 : World} (hb : Below w'.heap.size w' w2) (hbs : base ≤ w.heap.size) : Rg g base w w2 := h.grown_new (grown_of_below hb) (fun r e => by cases e) hbs
end

end Go.Proofs.YtgcaephfhfkjcaaGreatDoor
namespace Go.Proofs.YtgcaephfhfkjcaaGreatDoor
open Go.RowKit

section
variable {F : Fence} {n : Nat} {P : Program} {ops : Array Oper} {Q : Exit → Act → World → Prop} {md : Region.Mode} {S : World → Prop}

def isDefer (o : Oper) : Bool := match o.op with | .defer _ => true | _ => false
theorem plain_of {o : Oper} (h : isDefer o = false) : ∀ c, o.op ≠ .defer c := fun c e => by simp [isDefer, e] at h

/-- in every world that meets S it leaves v, and nothing else; and it is about to make no call. -/
def YieldsS (P : Program) (ops : Array Oper) (S : World → Prop) (o : Oper) (v : Value) (a : Act) : Prop := YieldsIf P ops S o v a ∧ (isDefer o = false) ∧ ∀ w, o.about P w a.eval = none

theorem YieldsS.wpOpIn {i : Nat} {o : Oper} {v : Value} {a : Act} (hi : ops[i]? = some o) (hy : YieldsS P ops S o v a)
    {K : Act → World → Prop} {w : World} (hS : S w) (h : K (a.put o.dst v) w) : wpOpIn F n P ops Q i K a w := by
  unfold Go.wpOpIn
  simp only [hi]
  have hab : ∀ f, o.about P w a.eval = some f → F.fn f := fun f hf => by rw [hy.2.2 w] at hf; cases hf
  rcases hy.1 with ⟨hw, hv⟩ | ⟨hw, rfl⟩
  · simp only [hw, if_true, Oper.wpIn, Oper.semAt_plain F _ _ (plain_of hy.2.1), hv w hS, Oper.uponIn]; exact ⟨hab, h⟩
  · simp only [hw, Bool.false_eq_true, if_false]; exact ⟨hab, h⟩

/-- whatever order is picked from here on, and S holds behind every operation that is carried out. -/
def wpAnyS (F : Fence) (n : Nat) (P : Program) (md : Region.Mode) (ops : Array Oper) (Q : Exit → Act → World → Prop) (S : World → Prop) : Nat → Array Bool → Act → World → Prop
  | 0, listed, a, w => Region.ready md ops listed = [] ∧ Q .normal a w
  | fuel + 1, listed, a, w =>
    (Region.ready md ops listed = [] → Q .normal a w) ∧
    ∀ i ∈ Region.ready md ops listed, wpOpIn F n P ops Q i (fun a' w' => S w' ∧ wpAnyS F n P md ops Q S fuel (listed.setIfInBounds i true) a' w') a w
/-- each of these comes up next; behind it S holds, and the rest goes in whatever order. -/
def AllS (F : Fence) (n : Nat) (P : Program) (md : Region.Mode) (ops : Array Oper) (Q : Exit → Act → World → Prop) (S : World → Prop) (fuel : Nat) (listed : Array Bool) (a : Act) (w : World) (rs : List Nat) : Prop :=
  ∀ i ∈ rs, wpOpIn F n P ops Q i (fun a' w' => S w' ∧ wpAnyS F n P md ops Q S fuel (listed.setIfInBounds i true) a' w') a w
theorem AllS.nil {fuel : Nat} {listed : Array Bool} {a : Act} {w : World} : AllS F n P md ops Q S fuel listed a w [] := fun _ h => by cases h
theorem AllS.cons {fuel : Nat} {listed : Array Bool} {a : Act} {w : World} {i : Nat} {o : Oper} {rs : List Nat} (ho : ops[i]? = some o) (hg : o.guard = none)
    (h : ∀ K' : Act → World → Prop, (∀ a w, S w → wpAnyS F n P md ops Q S fuel (listed.setIfInBounds i true) a w → K' a w) → Oper.wpIn F n P o a w K' Q)
    (hs : AllS F n P md ops Q S fuel listed a w rs) : AllS F n P md ops Q S fuel listed a w (i :: rs) := fun j hj => by
  rcases List.mem_cons.1 hj with rfl | hj
  · exact wpOpIn_step ho (fun K' hK => by simp only [Region.wanted, hg, if_true]; exact h K' (fun a w hS hW => hK a w ⟨hS, hW⟩))
  · exact hs j hj
end
end Go.Proofs.YtgcaephfhfkjcaaGreatDoor
namespace Go.Proofs.YtgcaephfhfkjcaaGreatDoor
open Go.RowKit

/-- a row of the call's own, perhaps cut at its end. -/
def RowO (W : World) (b : Nat) (v : Value) (l : List UInt8) : Prop :=
  W.ownsRow b 5 1 v l.length (bv l) ∨ ∃ g cp, v = .slice (some ⟨g, 0, none⟩) l.length l.length ∧ W.ownsRow b 5 1 (.slice (some ⟨g, 0, none⟩) l.length cp) l.length (bv l)
theorem RowO.mono {W : World} {b b' : Nat} {v : Value} {l : List UInt8} (h : RowO W b v l) (hb : b' ≤ b) : RowO W b' v l := by
  rcases h with h | ⟨g, cp, rfl, h⟩
  · exact .inl (own_mono h hb)
  · exact .inr ⟨g, cp, rfl, own_mono h hb⟩
theorem RowO.below {W W' : World} {b : Nat} {v : Value} {l : List UInt8} (h : RowO W b v l) (hb : Below W.heap.size W W') : RowO W' b v l := by
  rcases h with h | ⟨g, cp, rfl, h⟩
  · exact .inl (own_below h hb (Nat.le_refl _))
  · exact .inr ⟨g, cp, rfl, own_below h hb (Nat.le_refl _)⟩
section
variable {w1 W W' : World} {g base gd : Nat} {T : Tab} {l : List UInt8} {d : Dv} {hl ml : List (List UInt8)} {ps : List Nat} {v v' : Value}
end
end Go.Proofs.YtgcaephfhfkjcaaGreatDoor
namespace Go.Proofs.YtgcaephfhfkjcaaGreatDoor
open Go.RowKit

theorem rd_hasN2 (d : Dv) {n : Nat} (h : n < 5) : Rd.hasN d.dt n = d.n n := by
  rcases (by omega : n = 0 ∨ n = 1 ∨ n = 2 ∨ n = 3 ∨ n = 4) with rfl | rfl | rfl | rfl | rfl <;> rfl
end Go.Proofs.YtgcaephfhfkjcaaGreatDoor
namespace Go.Proofs.YtgcaephfhfkjcaaGreatDoor
open Go.RowKit

def ints (t : List Nat) : List Value := t.map fun (p : Nat) => Value.int .i64 p
end Go.Proofs.YtgcaephfhfkjcaaGreatDoor
namespace Go.Proofs.YtgcaephfhfkjcaaGreatDoor
open Go.RowKit

section
variable {w w' : World} {b b2 n n2 : Nat} {e e2 : TypeId} {v v2 : Value} {xs ys : List Value}
end
/-- values that are built into a new slice are put behind a row of the call's own. -/
theorem wpList_append_new {P : Program} {w : World} {ops : Array Oper} {rest : List Oper} {o : Oper} {a : Act} {Q : Exit → Act → World → Prop} (hgd : o.guard = none) (s x : Operand) (t : TypeId)
    (ho : o.op = .call { callee := .builtin .append, args := #[s, x], argTypes := #[t, t] })
    (e : TypeId) (i : TypeInfo) (z : Value) (bytes : Nat) (ht : P.underlying t = some (.slice e)) (hi : P.info? e = some i) (hz : i.zero = some z)
    (hsize : i.size = 1) (hby : i.bytes = bytes) (hzs : z.cells.size = 1)
    (base : Nat) (w0 : World) (v : Value) (n : Nat) (xs : List Value) (hs : a.eval s = v) (hown : w.ownsRow base e 1 v n xs) (hb : Below base w0 w) (hbase : base ≤ w0.heap.size)
    (us : List Value) (hu : ∀ u ∈ us, u.oneCell' = true) (et : TypeId) (m : Nat) (hm : us.length = m) (hx : a.eval x = .slice (some ⟨w.heap.size, 0, none⟩) m m)
    (h63 : n + m ≤ 140737488355328) (hbytes : (n + m) * bytes ≤ 140737488355328)
    (h : ∀ v' w', w'.ownsRow base e 1 v' (n + m) (xs ++ us) → Below base w0 w' → (w.alloc (.cells us.toArray et)).grownBy w' v.ownBlock → wpList P ops Q rest (a.put o.dst v') w') : wpList P ops Q (o :: rest) a (w.alloc (.cells us.toArray et)) := by
  have hbs := hb.size
  subst hm
  refine wpList_append_own _ hgd s x t ho base e i z 1 bytes ht hi hz hsize hby hzs (by decide) v n xs hs (hown.alloc _) ⟨w.heap.size, 0, none⟩ us.length us.length us hx (by omega) ?_ hu (by unfold maxLen; omega) hbytes (by simp; omega) (fun v' w' h1 h2 _ => h v' w' h1 ?_ h2)
  · intro j u hj
    have hH := Has.fresh w et us.toArray
    rw [addr_add, Nat.zero_add, hH.cell]
    simpa using hj
  · exact (hb.alloc (by omega) _).grown h2 (by simp; omega) (fun k hk => (hown.lt k hk).1)
section
variable {base : Nat} {w w' w2 : World}
end
theorem has_not_own {w : World} {g b n : Nat} {t e : TypeId} {cs : Array Value} {v : Value} {xs : List Value} (h : Has w g t cs) (ho : w.ownsRow b e 1 v n xs) (hte : t ≠ e) : some g ≠ v.ownBlock := by
  rcases ho.2 with ⟨rfl, _⟩ | ⟨g', cap, cur, rfl, _, hgb, _⟩
  · simp [Value.ownBlock]
  · intro e'
    obtain rfl : g = g' := by simpa [Value.ownBlock] using e'
    rw [show w.heap[g]? = _ from h] at hgb
    cases hgb
    exact hte rfl
end Go.Proofs.YtgcaephfhfkjcaaGreatDoor
namespace Go.Proofs.YtgcaephfhfkjcaaGreatDoor
open Go.RowKit

namespace Rd
/-- the bytes that data of a type come to, at a place; hl and ml: the labels of its names. -/
def put (T : Tab) (a t : Nat) (d : Dt) (hl ml : List By) : Tab × By :=
  if t = 2 ∨ t = 5 ∨ t = 12 then Pr.pw false T a hl
  else if t = 15 then ((Pr.pw false T (a + 2) hl).1, Oc.beb 2 d.n0 ++ (Pr.pw false T (a + 2) hl).2)
  else if t = 33 then ((Pr.pw true T (a + 6) hl).1, Oc.beb 2 d.n0 ++ (Oc.beb 2 d.n1 ++ (Oc.beb 2 d.n2 ++ (Pr.pw true T (a + 6) hl).2)))
  else if t = 6 then ((Pr.pw false (Pr.pw false T a hl).1 (a + (Pr.pw false T a hl).2.length) ml).1, (Pr.pw false T a hl).2 ++ ((Pr.pw false (Pr.pw false T a hl).1 (a + (Pr.pw false T a hl).2.length) ml).2 ++ (Oc.beb 4 d.n0 ++ (Oc.beb 4 d.n1 ++ (Oc.beb 4 d.n2 ++ (Oc.beb 4 d.n3 ++ Oc.beb 4 d.n4))))))
  else (T, d.raw)
end Rd
section
variable {w W : World} {g base : Nat} {T : Tab} {d : Dv} {l : List UInt8} {n c : Nat} {A : Option Addr}
end
end Go.Proofs.YtgcaephfhfkjcaaGreatDoor
namespace Go.Proofs.YtgcaephfhfkjcaaGreatDoor
open Go.RowKit

/-- what is told of a reading. -/
def trV : Pr.TR → Value
  | .err e => .tuple #[.string ⟨#[]⟩, .int .i64 0, .int .i64 e]
  | .ok ls bh => .tuple #[sv (Nm.glue ls), .int .i64 bh, .int .i64 0]
/-- what Take answers. -/
def prTakeV (l : List UInt8) (z : Int) : Value :=
  if z < 0 ∨ (l.length : Int) < z then .tuple #[.string ⟨#[]⟩, .int .i64 0, .int .i64 1] else trV (Pr.tk l z.toNat z.toNat 1)
end Go.Proofs.YtgcaephfhfkjcaaGreatDoor
