/- Texts of the proofs, merged. -/
import Derived.Test.YtpnfkgjcnofjnaaMem
import Derived.RangeFuncNested
import Derived.RangeFuncBound
import Derived.RangeFuncCalls
import Derived.RangeFuncLeaves
import Derived.Shelf.Abstract
import Derived.Shelf.RegionOpen
import Derived.OwnWalkIn
import Derived.TacticsInMore
import Derived.LoopNIn
import Derived.LoopIn
/- A range over a function whose rounds may make a map, and write it: one law for the caller. Nothing of the program. -/
namespace Go.Proofs.Ytpnfkgjcnofjnaa
open Go.RowKit Go.Shelf

def isBook : Obj → Bool
  | .loop _ => true
  | .deferred _ => true
  | _ => false
def isMapO : Obj → Bool
  | .map .. => true
  | _ => false
/-- whatever is no map, and lies at lo or beyond, lies as it lay. -/
structure Keeps (lo : Nat) (W W' : World) : Prop where
  size : W.heap.size ≤ W'.heap.size
  same : ∀ (k : Nat) (o : Obj), lo ≤ k → W.heap[k]? = some o → isMapO o = false → W'.heap[k]? = some o
theorem Keeps.refl (lo : Nat) (W : World) : Keeps lo W W := ⟨Nat.le_refl _, fun _ _ _ h _ => h⟩
theorem Keeps.trans {lo : Nat} {A B C : World} (h : Keeps lo A B) (k : Keeps lo B C) : Keeps lo A C := ⟨Nat.le_trans h.size k.size, fun i o hl hi ho => k.same i o hl (h.same i o hl hi ho) ho⟩
theorem Keeps.of_grown {lo : Nat} {W W' : World} {row : Option Nat} (hg : W.grownBy W' row) (hr : ∀ r, row = some r → r < lo ∨ ∃ o, W.heap[r]? = some o ∧ isMapO o = true) : Keeps lo W W' :=
  ⟨hg.size, fun k o hl hk ho => (hg.block k (Array.getElem?_eq_some_iff.1 hk).1 (fun e => by
    rcases hr k e.symm with h | ⟨o', h, h2⟩
    · omega
    · rw [hk] at h; cases h; rw [ho] at h2; cases h2)).trans hk⟩
theorem Keeps.of_below {lo B : Nat} {W W' : World} (h : Below B W W') (hB : W.heap.size ≤ B) : Keeps lo W W' :=
  ⟨h.size, fun k o _ hk _ => (h.block k (by have := (Array.getElem?_eq_some_iff.1 hk).1; omega)).trans hk⟩
theorem Keeps.setCell {lo : Nat} {W : World} {p : Addr} (u : Value) (h : p.block < lo) : Keeps lo W (W.setCell p u) :=
  ⟨by simp, fun k o hl hk _ => (heap_setCell_other W p k u (by omega)).trans hk⟩
theorem Keeps.cell {lo : Nat} {W W' : World} {p : Addr} {v : Value} (h : Keeps lo W W') (hl : lo ≤ p.block) (hc : W.cell? p = some v) : W'.cell? p = some v := by
  obtain ⟨o, ho, hcs⟩ := cells_of_cell hc
  have : W'.heap[p.block]? = some o := h.same _ _ hl ho (by cases o <;> simp_all [isMapO, Obj.isCells])
  exact (World.cell?_of_block (this.trans ho.symm)).trans hc
theorem Keeps.has {lo : Nat} {W W' : World} {g : Nat} {t : TypeId} {cs : Array Value} (h : Keeps lo W W') (hl : lo ≤ g) (hc : Has W g t cs) : Has W' g t cs := h.same _ _ hl hc rfl

/-- what is said abides the book-keeping of a loop, and new blocks. -/
def Book (B : Nat) (I : Nat → World → Prop) : Prop :=
  ∀ i W W' row, I i W → W.grownBy W' row → (∀ r, row = some r → B ≤ r ∧ ∃ o : Obj, W.heap[r]? = some o ∧ isBook o = true) → I i W'
theorem grown_of_below {W W' : World} (h : Below W.heap.size W W') : W.grownBy W' none := ⟨h.os, h.tape, h.output, h.size, fun k hk _ => h.block k hk⟩
theorem Book.grows {B : Nat} {I : Nat → World → Prop} (h : Book B I) {i : Nat} {W W' : World} (hi : I i W) (hb : Below W.heap.size W W') : I i W' := h i W W' none hi (grown_of_below hb) (fun r e => by cases e)
theorem Book.alloc {B : Nat} {I : Nat → World → Prop} (h : Book B I) {i : Nat} {W : World} (o : Obj) (hi : I i W) : I i (W.alloc o) := h i W _ none hi (World.grownBy_alloc W o none) (fun r e => by cases e)
theorem Book.putObj {B : Nat} {I : Nat → World → Prop} (h : Book B I) {i : Nat} {W : World} {l : Nat} {o : Obj} (o' : Obj) (hi : I i W) (hB : B ≤ l) (hl : W.heap[l]? = some o) (ho : isBook o = true) : I i (W.putObj l o') :=
  h i W _ (some l) hi (grownBy_putObj' W l o') (fun r e => by cases e; exact ⟨hB, o, hl, ho⟩)

/-- the contract of what is ranged over: N rounds, the i-th with these values. -/
def SeqN (F : Fence) (n : Nat) (P : Program) (g : Nat) (lb : Array Value) (enc : Nat → Array Value) (lo N : Nat) (w : World) : Prop :=
  ∀ (l : Nat) (J Jx : Nat → World → Prop) (W : World), Below w.heap.size w W →
    (∀ i A B, J i A → Below A.heap.size A B → J i B) →
    (∀ i W1, J i W1 → i < N → YieldAt F (n - 1) P l (enc i) W1 fun e W' =>
      (e = .returned (.bool true) ∧ J (i + 1) W' ∧ Keeps lo W1 W') ∨ (e = .returned (.bool false) ∧ Jx (i + 1) W')) →
    J 0 W →
    CallsIn F n P g (#[.func (.yield l) #[] #[]] ++ lb) W fun e W' => (∃ v, e = .returned v) ∧ (J N W' ∨ ∃ i, Jx i W')

/-- how a round may be left. -/
def postN (lo : Nat) (I : Nat → World → Prop) (Ix : Code → Nat → World → Prop) (i : Nat) (W : World) : Exit → Act → World → Prop
  | .normal, _, W' => Keeps lo W W' ∧ I i W'
  | .ret, _, W' => Keeps lo W W' ∧ Ix .ret i W'
  | .exit id, _, W' => Keeps lo W W' ∧ Ix (.exit id) i W'
  | .goto t, _, W' => Keeps lo W W' ∧ Ix (.goto t) i W'
  | .panic _, _, _ => False
  | .outgrown, _, _ => False

variable {F : Fence} {n : Nat} {P : Program}

theorem wpIn_rangeFunc_N {g : Operand} {ps : Array Tmp} {assign body : Code} {Q : Exit → Act → World → Prop} {a : Act} {w : World}
    (hro : F.round = none) (h1 : 1 ≤ n) {gf : Nat} {lb : Array Value} (hg : a.eval g = .func (.func gf) #[] lb) (hFg : F.fn gf) (eg : ∀ args w, (callFunc gf args).run P w = .ok (.enter gf args) w)
    {enc : Nat → Array Value} {lo N : Nat} (hlo : lo ≤ w.heap.size) (hseq : SeqN F (n - 1) P gf lb enc lo N w) (hps : ∀ i, (enc i).size = ps.size)
    (I : Nat → World → Prop) (Ix : Code → Nat → World → Prop) (hI : Book w.heap.size I) (hIx : ∀ c, Book w.heap.size (Ix c)) (h0 : I 0 w) (a₁ : Nat → Act)
    (hassign : ∀ (l i : Nat) (W : World) (K : Act → World → Prop), K (a₁ i) W →
      assign.wpIn (F.inRound l) (n - 1 - 1) P (Exit.then K (fun _ _ _ => False)) { tmps := (ps.zip (enc i)).foldl (fun t (p, v) => t.setIfInBounds p v) a.tmps, defers := [] } W)
    (hbody : ∀ (l i : Nat) (W : World), I i W → i < N → body.wpIn (F.inRound l) (n - 1 - 1) P (postN lo I Ix (i + 1) W) (a₁ i) W)
    (hdone : ∀ (D : Nat) (W : World), w.heap.size ≤ D → I N W → W.heap[D]? = some (.deferred (some [])) → Q .normal { a with defers := { target := .collected D, args := #[] } :: a.defers } W)
    (hstop : ∀ (D : Nat) (c : Code) (i : Nat) (W : World), w.heap.size ≤ D → Ix c i W → W.heap[D]? = some (.deferred (some [])) → c.wpIn F n P Q { a with defers := { target := .collected D, args := #[] } :: a.defers } W) :
    (Code.rangeFunc g ps assign body).wpIn F n P Q a w := by
  refine wpIn_rangeFunc ?_
  intro fn hfn
  rw [hro]
  obtain ⟨rec, hrec⟩ : ∃ rec : LoopState → Option Code → Loop, rec = fun st pe => { state := st, pending := pe, fn, tmps := a.tmps, params := ps, assign, body, defers := w.heap.size } := ⟨_, rfl⟩
  obtain ⟨W1, hW1⟩ : ∃ W1, (w.alloc (.deferred (some []))).alloc (.loop (rec .ready none)) = W1 := ⟨_, rfl⟩
  have hL1 : W1.heap[w.heap.size + 1]? = some (.loop (rec .ready none)) := by
    rw [← hW1]; have := World.alloc_heap_new (w.alloc (.deferred (some []))) (.loop (rec .ready none)); rwa [World.size_alloc] at this
  have hK1 : W1.heap[w.heap.size]? = some (.deferred (some [])) := by
    rw [← hW1]; exact (Below.heap_alloc _ _ _ (by simp)).trans (World.alloc_heap_new w _)
  have hI1 : I 0 W1 := by rw [← hW1]; exact hI.alloc _ (hI.alloc _ h0)
  have hb1 : Below w.heap.size w W1 := by
    rw [← hW1]; exact ((Below.refl _ w).alloc (Nat.le_refl _) _).alloc (by simp) _
  refine ⟨w.heap.size + 1, [{ target := .collected w.heap.size, args := #[] }], W1, { target := .fn (.func gf) lb, args := #[.func (.yield (w.heap.size + 1)) #[] #[]] }, W1, gf,
    #[.func (.yield (w.heap.size + 1)) #[] #[]] ++ lb, W1, ?_, ?_, ?_, ?_, fun _ => h1, ?_⟩
  · rw [← hW1, hrec]; exact run_enterLoop_outer _ _ _ _ _
  · simp only [resolve, hg]
    simp [go_sem]
  · intro f' hf'; simp [Target.leads] at hf'; subst hf'; exact hFg
  · simp [invoke, go_sem, eg]
  · refine (hseq (w.heap.size + 1)
      (fun i W => I i W ∧ W.heap[w.heap.size + 1]? = some (.loop (rec .ready none)) ∧ W.heap[w.heap.size]? = some (.deferred (some [])))
      (fun i W => ∃ c, Ix c i W ∧ W.heap[w.heap.size + 1]? = some (.loop (rec .done (some c))) ∧ W.heap[w.heap.size]? = some (.deferred (some [])))
      W1 hb1
      (fun i A B hs hb => ⟨hI.grows hs.1 hb, (hb.block _ (Array.getElem?_eq_some_iff.1 hs.2.1).1).trans hs.2.1, (hb.block _ (Array.getElem?_eq_some_iff.1 hs.2.2).1).trans hs.2.2⟩)
      ?_ ⟨hI1, hL1, hK1⟩).mono ?_
    · rintro i W ⟨hi, hl, hk⟩ hlen
      have hlt : w.heap.size + 1 < W.heap.size := (Array.getElem?_eq_some_iff.1 hl).1
      have hy := run_yield (P := P) (args := enc i) hl (by rw [hrec]; exact hps i)
      rw [hrec] at hy
      refine ⟨fn, _, assign, body, hy, roundIn_of_wpIn hfn (hassign _ i W _ ⟨_, run_beginRound hl (by rw [hrec]), ?_⟩)⟩
      have hl2 : (W.putObj (w.heap.size + 1) (.loop { rec .ready none with state := .busy })).heap[w.heap.size + 1]? = some (.loop { rec .ready none with state := .busy }) := World.putObj_heap_same hlt
      have hk2 : (W.putObj (w.heap.size + 1) (.loop { rec .ready none with state := .busy })).heap[w.heap.size]? = some (.deferred (some [])) := (World.putObj_heap_other (by omega)).trans hk
      have hput : ∀ (X : World) (o o' : Obj), X.heap[w.heap.size + 1]? = some o → ∀ k, k ≠ w.heap.size + 1 → (X.putObj (w.heap.size + 1) o').heap[k]? = X.heap[k]? := fun X o o' _ k hk => World.putObj_heap_other hk
      refine wpIn_mono (hbody _ i _ (hI.putObj _ hi (by omega) hl rfl) hlen) ?_
      have fin : ∀ (jump : Option Code) (W3 : World), Keeps lo (W.putObj (w.heap.size + 1) (.loop { rec .ready none with state := .busy })) W3 →
          (Instr.endRound (w.heap.size + 1) jump).run P W3 = .ok (.bool jump.isNone) (W3.putObj (w.heap.size + 1) (.loop (rec (if jump.isNone then .ready else .done) jump))) ∧
          W3.heap[w.heap.size + 1]? = some (.loop { rec .ready none with state := .busy }) ∧
          (W3.putObj (w.heap.size + 1) (.loop (rec (if jump.isNone then .ready else .done) jump))).heap[w.heap.size + 1]? = some (.loop (rec (if jump.isNone then .ready else .done) jump)) ∧
          (W3.putObj (w.heap.size + 1) (.loop (rec (if jump.isNone then .ready else .done) jump))).heap[w.heap.size]? = some (.deferred (some [])) := fun jump W3 hk3 => by
        have hl3 := hk3.same _ _ (by omega) hl2 rfl
        have := run_endRound (P := P) jump hl3
        rw [hrec] at this ⊢
        exact ⟨this, by rw [hrec] at hl3; exact hl3, World.putObj_heap_same (Array.getElem?_eq_some_iff.1 hl3).1, (World.putObj_heap_other (by omega)).trans (hk3.same _ _ hlo hk2 rfl)⟩
      rintro e a3 W3 hp
      cases e with
      | normal =>
        obtain ⟨hk3, hi3⟩ := hp
        obtain ⟨hr, hl3, hl4, hk4⟩ := fin none W3 hk3
        refine ⟨_, _, hr, .inl ⟨rfl, ⟨hI.putObj _ hi3 (by omega) hl3 rfl, hl4, hk4⟩, ?_⟩⟩
        refine ⟨by have := hk3.size; simp at this ⊢; exact this, fun k o hkl hko hno => ?_⟩
        by_cases e : k = w.heap.size + 1
        · subst e
          rw [hl] at hko
          cases hko
          exact hl4
        · rw [hput W3 _ _ hl3 k e]
          exact hk3.same k o hkl ((hput W _ _ hl k e).trans hko) hno
      | ret =>
        obtain ⟨hk3, hi3⟩ := hp
        obtain ⟨hr, hl3, hl4, hk4⟩ := fin (some .ret) W3 hk3
        exact ⟨_, _, hr, .inr ⟨rfl, .ret, (hIx _).putObj _ hi3 (by omega) hl3 rfl, hl4, hk4⟩⟩
      | exit id =>
        obtain ⟨hk3, hi3⟩ := hp
        obtain ⟨hr, hl3, hl4, hk4⟩ := fin (some (.exit id)) W3 hk3
        exact ⟨_, _, hr, .inr ⟨rfl, .exit id, (hIx _).putObj _ hi3 (by omega) hl3 rfl, hl4, hk4⟩⟩
      | goto t =>
        obtain ⟨hk3, hi3⟩ := hp
        obtain ⟨hr, hl3, hl4, hk4⟩ := fin (some (.goto t)) W3 hk3
        exact ⟨_, _, hr, .inr ⟨rfl, .goto t, (hIx _).putObj _ hi3 (by omega) hl3 rfl, hl4, hk4⟩⟩
      | panic ch => exact hp.elim
      | outgrown => exact hp.elim
    · rintro e W2 ⟨⟨v, rfl⟩, (⟨hi, hl, hk⟩ | ⟨i, c, hi, hl, hk⟩)⟩
      · exact ⟨none, _, by have := run_endLoop (P := P) hl (by rw [hrec]; simp); rw [hrec] at this; exact this, hdone _ _ (Nat.le_refl _) (hI.putObj _ hi (by omega) hl rfl) ((World.putObj_heap_other (by omega)).trans hk)⟩
      · exact ⟨some c, _, by have := run_endLoop (P := P) hl (by rw [hrec]; simp); rw [hrec] at this; exact this, hstop _ c i _ (Nat.le_refl _) ((hIx c).putObj _ hi (by omega) hl rfl) ((World.putObj_heap_other (by omega)).trans hk)⟩
end Go.Proofs.Ytpnfkgjcnofjnaa
/- A range over a function that reads memory between two rounds, and may stand in another's: one law for the caller. Nothing of the program. -/
namespace Go.Proofs.Ytpnfkgjcnofjnaa
open Go.RowKit Go.Shelf

/-- the books of loops at lo or beyond lie as they lay. -/
structure KeepsR (lo : Nat) (W W' : World) : Prop where
  size : W.heap.size ≤ W'.heap.size
  same : ∀ (k : Nat) (o : Obj), lo ≤ k → W.heap[k]? = some o → isBook o = true → W'.heap[k]? = some o
section
variable {lo lo' : Nat} {W W' A B C : World}
theorem KeepsR.refl (lo : Nat) (W : World) : KeepsR lo W W := ⟨Nat.le_refl _, fun _ _ _ h _ => h⟩
theorem KeepsR.trans (h : KeepsR lo A B) (k : KeepsR lo B C) : KeepsR lo A C := ⟨Nat.le_trans h.size k.size, fun i o hl hi ho => k.same i o hl (h.same i o hl hi ho) ho⟩
theorem KeepsR.drew (h : KeepsR lo A B) : KeepsR lo A B.drew := ⟨h.size, h.same⟩
theorem KeepsR.mono (h : KeepsR lo A B) (hl : lo ≤ lo') : KeepsR lo' A B := ⟨h.size, fun k o hk => h.same k o (Nat.le_trans hl hk)⟩
theorem KeepsR.of_grown {row : Option Nat} (hg : W.grownBy W' row) (hr : ∀ r, row = some r → ∃ o, W.heap[r]? = some o ∧ isBook o = false) : KeepsR lo W W' :=
  ⟨hg.size, fun k o _ hk ho => (hg.block k (Array.getElem?_eq_some_iff.1 hk).1 (fun e => by
    obtain ⟨o', h, h2⟩ := hr k e.symm
    rw [hk] at h
    cases h
    rw [ho] at h2
    cases h2)).trans hk⟩
theorem KeepsR.of_below {B : Nat} (h : Below B W W') (hB : W.heap.size ≤ B) : KeepsR lo W W' :=
  ⟨h.size, fun k o _ hk _ => (h.block k (by have := (Array.getElem?_eq_some_iff.1 hk).1; omega)).trans hk⟩
theorem KeepsR.has {g i : Nat} {t : TypeId} {cs : Array Value} (h : Has W g t cs) (u : Value) : KeepsR lo W (W.setCell ⟨g, i, none⟩ u) :=
  KeepsR.of_grown (row := some g) ⟨rfl, rfl, rfl, by simp, fun j _ hj => heap_setCell_other W ⟨g, i, none⟩ j u (fun e => hj (by rw [e]))⟩ (fun r e => by cases e; exact ⟨_, h, rfl⟩)
/-- where blocks of cells alone are written. -/
theorem KeepsR.of_cells {S : List Nat} (hs : W.heap.size ≤ W'.heap.size) (hb : ∀ k, k < W.heap.size → k ∉ S → W'.heap[k]? = W.heap[k]?) (hc : ∀ k ∈ S, ∀ o, W.heap[k]? = some o → isBook o = false) : KeepsR lo W W' :=
  ⟨hs, fun k o _ hk ho => (hb k (Array.getElem?_eq_some_iff.1 hk).1 (fun hS => by rw [hc k hS o hk] at ho; cases ho)).trans hk⟩
end

/-- the contract of what is ranged over: N rounds, the i-th with these values; D: what it reads. -/
def SeqR (F : Fence) (n : Nat) (P : Program) (g : Nat) (lb : Array Value) (enc : Nat → Array Value) (D : World → Prop) (N : Nat) (w : World) : Prop :=
  ∀ (l : Nat) (J Jx : Nat → World → Prop) (W : World), Below w.heap.size w W → l < W.heap.size → Book W.heap.size J → Book W.heap.size Jx → (∀ i A, J i A → D A) →
    (∀ i W1, J i W1 → i < N → YieldAt F (n - 1) P l (enc i) W1 fun e W' =>
      (e = .returned (.bool true) ∧ J (i + 1) W' ∧ KeepsR (l + 1) W1 W') ∨ (e = .returned (.bool false) ∧ Jx (i + 1) W' ∧ KeepsR (l + 1) W1 W')) →
    J 0 W →
    CallsIn F n P g (#[.func (.yield l) #[] #[]] ++ lb) W fun e W' => (∃ v, e = .returned v) ∧ (J N W' ∨ ∃ i, Jx i W')

/-- how a round may be left. -/
def postR (lo : Nat) (I : Nat → World → Prop) (Ix : Code → Nat → World → Prop) (i : Nat) (W : World) : Exit → Act → World → Prop
  | .normal, _, W' => KeepsR lo W W' ∧ I i W'
  | .ret, _, W' => KeepsR lo W W' ∧ Ix .ret i W'
  | .exit id, _, W' => KeepsR lo W W' ∧ Ix (.exit id) i W'
  | .goto t, _, W' => KeepsR lo W W' ∧ Ix (.goto t) i W'
  | .panic _, _, _ => False
  | .outgrown, _, _ => False

variable {F : Fence} {n : Nat} {P : Program}

theorem wpIn_rangeFunc_R {g : Operand} {ps : Array Tmp} {assign body : Code} {Q : Exit → Act → World → Prop} {a : Act} {w : World}
    (hro : F.round = none) (h1 : 1 ≤ n) {gf : Nat} {lb : Array Value} (hg : a.eval g = .func (.func gf) #[] lb) (hFg : F.fn gf) (eg : ∀ args w, (callFunc gf args).run P w = .ok (.enter gf args) w)
    {enc : Nat → Array Value} {D : World → Prop} {N : Nat} (hseq : SeqR F (n - 1) P gf lb enc D N w) (hps : ∀ i, (enc i).size = ps.size)
    (I : Nat → World → Prop) (Ix : Code → Nat → World → Prop) (hI : Book w.heap.size I) (hIx : ∀ c, Book w.heap.size (Ix c)) (hD : ∀ i W, I i W → D W) (h0 : I 0 w) (a₁ : Nat → Act)
    (hassign : ∀ (l i : Nat) (W : World) (K : Act → World → Prop), K (a₁ i) W →
      assign.wpIn (F.inRound l) (n - 1 - 1) P (Exit.then K (fun _ _ _ => False)) { tmps := (ps.zip (enc i)).foldl (fun t (p, v) => t.setIfInBounds p v) a.tmps, defers := [] } W)
    (hbody : ∀ (l i : Nat) (W : World), I i W → i < N → body.wpIn (F.inRound l) (n - 1 - 1) P (postR w.heap.size I Ix (i + 1) W) (a₁ i) W)
    (hdone : ∀ (D : Nat) (W : World), w.heap.size ≤ D → I N W → W.heap[D]? = some (.deferred (some [])) → Q .normal { a with defers := { target := .collected D, args := #[] } :: a.defers } W)
    (hstop : ∀ (D : Nat) (c : Code) (i : Nat) (W : World), w.heap.size ≤ D → Ix c i W → W.heap[D]? = some (.deferred (some [])) → c.wpIn F n P Q { a with defers := { target := .collected D, args := #[] } :: a.defers } W) :
    (Code.rangeFunc g ps assign body).wpIn F n P Q a w := by
  refine wpIn_rangeFunc ?_
  intro fn hfn
  rw [hro]
  obtain ⟨rec, hrec⟩ : ∃ rec : LoopState → Option Code → Loop, rec = fun st pe => { state := st, pending := pe, fn, tmps := a.tmps, params := ps, assign, body, defers := w.heap.size } := ⟨_, rfl⟩
  obtain ⟨W1, hW1⟩ : ∃ W1, (w.alloc (.deferred (some []))).alloc (.loop (rec .ready none)) = W1 := ⟨_, rfl⟩
  have hL1 : W1.heap[w.heap.size + 1]? = some (.loop (rec .ready none)) := by
    rw [← hW1]; have := World.alloc_heap_new (w.alloc (.deferred (some []))) (.loop (rec .ready none)); rwa [World.size_alloc] at this
  have hK1 : W1.heap[w.heap.size]? = some (.deferred (some [])) := by
    rw [← hW1]; exact (Below.heap_alloc _ _ _ (by simp)).trans (World.alloc_heap_new w _)
  have hI1 : I 0 W1 := by rw [← hW1]; exact hI.alloc _ (hI.alloc _ h0)
  have hb1 : Below w.heap.size w W1 := by
    rw [← hW1]; exact ((Below.refl _ w).alloc (Nat.le_refl _) _).alloc (by simp) _
  have hz1 : W1.heap.size = w.heap.size + 1 + 1 := by rw [← hW1]; simp
  refine ⟨w.heap.size + 1, [{ target := .collected w.heap.size, args := #[] }], W1, { target := .fn (.func gf) lb, args := #[.func (.yield (w.heap.size + 1)) #[] #[]] }, W1, gf,
    #[.func (.yield (w.heap.size + 1)) #[] #[]] ++ lb, W1, ?_, ?_, ?_, ?_, fun _ => h1, ?_⟩
  · rw [← hW1, hrec]; exact run_enterLoop_outer _ _ _ _ _
  · simp only [resolve, hg]
    simp [go_sem]
  · intro f' hf'; simp [Target.leads] at hf'; subst hf'; exact hFg
  · simp [invoke, go_sem, eg]
  · have hkeep : ∀ {k : Nat} {o : Obj} {A B : World} {row : Option Nat}, k < W1.heap.size → A.heap[k]? = some o → A.grownBy B row → (∀ r, row = some r → W1.heap.size ≤ r ∧ ∃ o : Obj, A.heap[r]? = some o ∧ isBook o = true) → B.heap[k]? = some o := fun hk ha hg' hr =>
      (hg'.block _ (Array.getElem?_eq_some_iff.1 ha).1 (fun e => by have := (hr _ e.symm).1; omega)).trans ha
    refine (hseq (w.heap.size + 1)
      (fun i W => I i W ∧ W.heap[w.heap.size + 1]? = some (.loop (rec .ready none)) ∧ W.heap[w.heap.size]? = some (.deferred (some [])))
      (fun i W => ∃ c, Ix c i W ∧ W.heap[w.heap.size + 1]? = some (.loop (rec .done (some c))) ∧ W.heap[w.heap.size]? = some (.deferred (some [])))
      W1 hb1 (by omega)
      (fun i A B row hs hg' hr => ⟨hI i A B row hs.1 hg' (fun r e => ⟨by have := (hr r e).1; omega, (hr r e).2⟩), hkeep (by omega) hs.2.1 hg' hr, hkeep (by omega) hs.2.2 hg' hr⟩)
      (fun i A B row ⟨c, hc, hl, hk⟩ hg' hr => ⟨c, hIx c i A B row hc hg' (fun r e => ⟨by have := (hr r e).1; omega, (hr r e).2⟩), hkeep (by omega) hl hg' hr, hkeep (by omega) hk hg' hr⟩)
      (fun i A hs => hD i A hs.1)
      ?_ ⟨hI1, hL1, hK1⟩).mono ?_
    · rintro i W ⟨hi, hl, hk⟩ hlen
      have hlt : w.heap.size + 1 < W.heap.size := (Array.getElem?_eq_some_iff.1 hl).1
      have hy := run_yield (P := P) (args := enc i) hl (by rw [hrec]; exact hps i)
      rw [hrec] at hy
      refine ⟨fn, _, assign, body, hy, roundIn_of_wpIn hfn (hassign _ i W _ ⟨_, run_beginRound hl (by rw [hrec]), ?_⟩)⟩
      have hl2 : (W.putObj (w.heap.size + 1) (.loop { rec .ready none with state := .busy })).heap[w.heap.size + 1]? = some (.loop { rec .ready none with state := .busy }) := World.putObj_heap_same hlt
      have hk2 : (W.putObj (w.heap.size + 1) (.loop { rec .ready none with state := .busy })).heap[w.heap.size]? = some (.deferred (some [])) := (World.putObj_heap_other (by omega)).trans hk
      refine wpIn_mono (hbody _ i _ (hI.putObj _ hi (by omega) hl rfl) hlen) ?_
      have fin : ∀ (jump : Option Code) (W3 : World), KeepsR w.heap.size (W.putObj (w.heap.size + 1) (.loop { rec .ready none with state := .busy })) W3 →
          (Instr.endRound (w.heap.size + 1) jump).run P W3 = .ok (.bool jump.isNone) (W3.putObj (w.heap.size + 1) (.loop (rec (if jump.isNone then .ready else .done) jump))) ∧
          W3.heap[w.heap.size + 1]? = some (.loop { rec .ready none with state := .busy }) ∧
          (W3.putObj (w.heap.size + 1) (.loop (rec (if jump.isNone then .ready else .done) jump))).heap[w.heap.size + 1]? = some (.loop (rec (if jump.isNone then .ready else .done) jump)) ∧
          (W3.putObj (w.heap.size + 1) (.loop (rec (if jump.isNone then .ready else .done) jump))).heap[w.heap.size]? = some (.deferred (some [])) ∧
          KeepsR (w.heap.size + 1 + 1) W (W3.putObj (w.heap.size + 1) (.loop (rec (if jump.isNone then .ready else .done) jump))) := fun jump W3 hk3 => by
        have hl3 := hk3.same _ _ (by omega) hl2 rfl
        have := run_endRound (P := P) jump hl3
        rw [hrec] at this ⊢
        refine ⟨this, by rw [hrec] at hl3; exact hl3, World.putObj_heap_same (Array.getElem?_eq_some_iff.1 hl3).1, (World.putObj_heap_other (by omega)).trans (hk3.same _ _ (Nat.le_refl _) hk2 rfl), by have := hk3.size; simp at this ⊢; exact this, fun k o hkl hko hno => ?_⟩
        rw [World.putObj_heap_other (by omega)]
        exact hk3.same k o (by omega) ((World.putObj_heap_other (by omega)).trans hko) hno
      rintro e a3 W3 hp
      cases e with
      | normal =>
        obtain ⟨hk3, hi3⟩ := hp
        obtain ⟨hr, hl3, hl4, hk4, hkr⟩ := fin none W3 hk3
        exact ⟨_, _, hr, .inl ⟨rfl, ⟨hI.putObj _ hi3 (by omega) hl3 rfl, hl4, hk4⟩, hkr⟩⟩
      | ret =>
        obtain ⟨hk3, hi3⟩ := hp
        obtain ⟨hr, hl3, hl4, hk4, hkr⟩ := fin (some .ret) W3 hk3
        exact ⟨_, _, hr, .inr ⟨rfl, ⟨.ret, (hIx _).putObj _ hi3 (by omega) hl3 rfl, hl4, hk4⟩, hkr⟩⟩
      | exit id =>
        obtain ⟨hk3, hi3⟩ := hp
        obtain ⟨hr, hl3, hl4, hk4, hkr⟩ := fin (some (.exit id)) W3 hk3
        exact ⟨_, _, hr, .inr ⟨rfl, ⟨.exit id, (hIx _).putObj _ hi3 (by omega) hl3 rfl, hl4, hk4⟩, hkr⟩⟩
      | goto t =>
        obtain ⟨hk3, hi3⟩ := hp
        obtain ⟨hr, hl3, hl4, hk4, hkr⟩ := fin (some (.goto t)) W3 hk3
        exact ⟨_, _, hr, .inr ⟨rfl, ⟨.goto t, (hIx _).putObj _ hi3 (by omega) hl3 rfl, hl4, hk4⟩, hkr⟩⟩
      | panic ch => exact hp.elim
      | outgrown => exact hp.elim
    · rintro e W2 ⟨⟨v, rfl⟩, (⟨hi, hl, hk⟩ | ⟨i, c, hi, hl, hk⟩)⟩
      · exact ⟨none, _, by have := run_endLoop (P := P) hl (by rw [hrec]; simp); rw [hrec] at this; exact this, hdone _ _ (Nat.le_refl _) (hI.putObj _ hi (by omega) hl rfl) ((World.putObj_heap_other (by omega)).trans hk)⟩
      · exact ⟨some c, _, by have := run_endLoop (P := P) hl (by rw [hrec]; simp); rw [hrec] at this; exact this, hstop _ c i _ (Nat.le_refl _) ((hIx c).putObj _ hi (by omega) hl rfl) ((World.putObj_heap_other (by omega)).trans hk)⟩

theorem yieldAt_mono {l m : Nat} {args : Array Value} {W : World} {R R' : Ending → World → Prop} (h : YieldAt F m P l args W R) (hr : ∀ e w, R e w → R' e w) : YieldAt F m P l args W R' := by
  obtain ⟨fn, tmps, assign, body, hy, hR⟩ := h
  exact ⟨fn, tmps, assign, body, hy, hR.mono hr⟩
/-- where no depth is asked the figures are all one. -/
theorem yieldAt_wide {l m : Nat} (m' : Nat) {args : Array Value} {W : World} {R : Ending → World → Prop} (h : YieldAt Fence.wide m P l args W R) : YieldAt Fence.wide m' P l args W R := by
  obtain ⟨fn, tmps, assign, body, hy, hR⟩ := h
  exact ⟨fn, tmps, assign, body, hy, hR.1, fun c cs _ => hR.2 c cs (room_wide _)⟩
/-- .. and of a round within another loop's. -/
theorem yieldAt_in {l l' m : Nat} {args : Array Value} {W : World} {R : Ending → World → Prop} (h : YieldAt F m P l args W R) : YieldAt (F.inRound l') m P l args W R := h
theorem callsIn_any {f : Nat} {n' : Nat} {args : Array Value} {W : World} {R : Ending → World → Prop} (h : CallsIn Fence.wide n P f args W R) : CallsIn Fence.wide n' P f args W R := callsIn_wide.2 (callsIn_wide.1 h)
end Go.Proofs.Ytpnfkgjcnofjnaa
/- A range over a function that keeps variables of its own in memory, and may range over another: one law for the caller, whose rounds name the blocks that they write. Nothing of the program. -/
namespace Go.Proofs.Ytpnfkgjcnofjnaa
open Go.RowKit Go.Shelf

abbrev Bl := Nat → Prop
/-- what lay, but in S, lies as it lay. -/
structure FrS (S : Bl) (W W' : World) : Prop where
  os : W'.os = W.os
  tape : W'.tape = W.tape
  output : W'.output = W.output
  size : W.heap.size ≤ W'.heap.size
  block : ∀ k, k < W.heap.size → ¬ S k → W'.heap[k]? = W.heap[k]?
/-- what lay below n, and in S, lies as it lay. -/
structure Chg (n : Nat) (S : Bl) (W W' : World) : Prop where
  os : W'.os = W.os
  tape : W'.tape = W.tape
  output : W'.output = W.output
  size : W.heap.size ≤ W'.heap.size
  block : ∀ k, k < W.heap.size → (k < n ∨ S k) → W'.heap[k]? = W.heap[k]?
section
variable {S S' T : Bl} {n m : Nat} {A B C : World}
theorem FrS.refl (S : Bl) (W : World) : FrS S W W := ⟨rfl, rfl, rfl, Nat.le_refl _, fun _ _ _ => rfl⟩
theorem FrS.trans (h : FrS S A B) (k : FrS S' B C) (hs : ∀ i, S' i → S i ∨ A.heap.size ≤ i) : FrS S A C :=
  ⟨k.os.trans h.os, k.tape.trans h.tape, k.output.trans h.output, Nat.le_trans h.size k.size, fun i hi hS => (k.block i (Nat.lt_of_lt_of_le hi h.size) (fun h' => by rcases hs i h' with h1 | h1; exact hS h1; omega)).trans (h.block i hi hS)⟩
theorem FrS.mono (h : FrS S A B) (hs : ∀ i, S i → S' i) : FrS S' A B := ⟨h.os, h.tape, h.output, h.size, fun i hi hS => h.block i hi fun h' => hS (hs i h')⟩
theorem FrS.of_below (h : Below m A B) (hm : A.heap.size ≤ m) (S : Bl) : FrS S A B := ⟨h.os, h.tape, h.output, h.size, fun i hi _ => h.block i (by omega)⟩
theorem FrS.setCell {p : Addr} (h : FrS S A B) (hp : S p.block ∨ A.heap.size ≤ p.block) (u : Value) : FrS S A (B.setCell p u) :=
  ⟨h.os, h.tape, h.output, by simpa using h.size, fun k hk hS => (heap_setCell_other B p k u (fun e => by rcases hp with hp | hp; exact hS (e ▸ hp); omega)).trans (h.block k hk hS)⟩
theorem FrS.has {g : Nat} {t : TypeId} {cs : Array Value} (h : FrS S A B) (hg : ¬ S g) (hh : Has A g t cs) : Has B g t cs := (h.block g hh.lt hg).trans hh
theorem FrS.drew (h : FrS S A B) : FrS S A B.drew := ⟨h.os, h.tape, h.output, h.size, h.block⟩
theorem Chg.of_below (h : Below m A B) (hm : A.heap.size ≤ m) : Chg n S A B := ⟨h.os, h.tape, h.output, h.size, fun i hi _ => h.block i (by omega)⟩
theorem Chg.refl (n : Nat) (S : Bl) (A : World) : Chg n S A A := ⟨rfl, rfl, rfl, Nat.le_refl _, fun _ _ _ => rfl⟩
theorem Chg.trans (h : Chg n S A B) (k : Chg n S B C) : Chg n S A C := ⟨k.os.trans h.os, k.tape.trans h.tape, k.output.trans h.output, Nat.le_trans h.size k.size, fun i hi hS => (k.block i (Nat.lt_of_lt_of_le hi h.size) hS).trans (h.block i hi hS)⟩
theorem Chg.mono (h : Chg n S A B) (hn : m ≤ n) (hs : ∀ i, T i → S i) : Chg m T A B := ⟨h.os, h.tape, h.output, h.size, fun i hi hS => h.block i hi (hS.elim (fun h => .inl (by omega)) (fun h => .inr (hs i h)))⟩
theorem Chg.putObj {l : Nat} (o : Obj) (hn : n ≤ l) (hs : ¬ S l) : Chg n S A (A.putObj l o) := ⟨rfl, rfl, rfl, by simp, fun k _ hk => World.putObj_heap_other (fun e => by subst e; rcases hk with hk | hk; omega; exact hs hk)⟩
theorem Chg.setCell {p : Addr} (u : Value) (hn : n ≤ p.block) (hs : ¬ S p.block) : Chg n S A (A.setCell p u) := ⟨rfl, rfl, rfl, by simp, fun k _ hk => heap_setCell_other A p k u (fun e => by subst e; rcases hk with hk | hk; omega; exact hs hk)⟩
theorem Chg.alloc (o : Obj) : Chg n S A (A.alloc o) := ⟨rfl, rfl, rfl, by simp, fun k hk _ => Below.heap_alloc A o k hk⟩
theorem Chg.drew : Chg n S A A.drew := ⟨rfl, rfl, rfl, Nat.le_refl _, fun _ _ _ => rfl⟩
end
/-- what is said abides what an iterator does: it lays, and writes what it has laid. -/
def Abides (n : Nat) (I : Nat → Bl → World → Prop) : Prop := ∀ i S A B, I i S A → Chg n S A B → I i S B

/-- the contract of what is ranged over: N rounds, the i-th with these values; D: what it reads. -/
def SeqS (F : Fence) (n : Nat) (P : Program) (g : Nat) (lb : Array Value) (enc : Nat → Array Value) (D : World → Prop) (N : Nat) (w : World) : Prop :=
  ∀ (l : Nat) (J Jx : Nat → Bl → World → Prop) (W : World) (S : Bl), Below w.heap.size w W → l < W.heap.size → Abides W.heap.size J → Abides W.heap.size Jx → (∀ i S A, J i S A → D A) → (∀ i S A, Jx i S A → D A) → (∀ i S A, J i S A → ∀ k, S k → k < A.heap.size) →
    (∀ i S W1, J i S W1 → i < N → YieldAt F (n - 1) P l (enc i) W1 fun e W' =>
      (e = .returned (.bool true) ∧ ∃ S', J (i + 1) S' W' ∧ FrS (fun k => S k ∨ k = l) W1 W' ∧ ∀ k, S' k → S k ∨ W1.heap.size ≤ k) ∨
      (e = .returned (.bool false) ∧ ∃ S', Jx (i + 1) S' W' ∧ FrS (fun k => S k ∨ k = l) W1 W' ∧ ∀ k, S' k → S k ∨ W1.heap.size ≤ k)) →
    J 0 S W →
    CallsIn F n P g (#[.func (.yield l) #[] #[]] ++ lb) W fun e W' => (∃ v, e = .returned v) ∧ ((∃ S', J N S' W' ∧ FrS (fun k => S k ∨ k = l) W W' ∧ ∀ k, S' k → S k ∨ W.heap.size ≤ k) ∨ ∃ i S', Jx i S' W' ∧ FrS (fun k => S k ∨ k = l) W W' ∧ ∀ k, S' k → S k ∨ W.heap.size ≤ k)

/-- how a round may be left. -/
def postS (I : Nat → Bl → World → Prop) (Ix : Code → Nat → Bl → World → Prop) (i : Nat) (S : Bl) (W : World) : Exit → Act → World → Prop
  | .normal, _, W' => ∃ S', I i S' W' ∧ FrS S W W' ∧ ∀ k, S' k → S k ∨ W.heap.size ≤ k
  | .ret, _, W' => ∃ S', Ix .ret i S' W' ∧ FrS S W W' ∧ ∀ k, S' k → S k ∨ W.heap.size ≤ k
  | .exit id, _, W' => ∃ S', Ix (.exit id) i S' W' ∧ FrS S W W' ∧ ∀ k, S' k → S k ∨ W.heap.size ≤ k
  | .goto t, _, W' => ∃ S', Ix (.goto t) i S' W' ∧ FrS S W W' ∧ ∀ k, S' k → S k ∨ W.heap.size ≤ k
  | .panic _, _, _ => False
  | .outgrown, _, _ => False

variable {F : Fence} {n : Nat} {P : Program}

theorem wpIn_rangeFunc_S {g : Operand} {ps : Array Tmp} {assign body : Code} {Q : Exit → Act → World → Prop} {a : Act} {w : World}
    (hro : F.round = none) (h1 : 1 ≤ n) {gf : Nat} {lb : Array Value} (hg : a.eval g = .func (.func gf) #[] lb) (hFg : F.fn gf) (eg : ∀ args w, (callFunc gf args).run P w = .ok (.enter gf args) w)
    {enc : Nat → Array Value} {D : World → Prop} {N : Nat} (hseq : SeqS F (n - 1) P gf lb enc D N w) (hps : ∀ i, (enc i).size = ps.size)
    (I : Nat → Bl → World → Prop) (Ix : Code → Nat → Bl → World → Prop) (S0 : Bl) (hI : Abides w.heap.size I) (hIx : ∀ c, Abides w.heap.size (Ix c)) (hD : ∀ i S W, I i S W → D W) (hDx : ∀ c i S W, Ix c i S W → D W) (hB : ∀ i S W, I i S W → ∀ k, S k → k < W.heap.size) (h0 : I 0 S0 w) (a₁ : Nat → Act)
    (hassign : ∀ (l i : Nat) (W : World) (K : Act → World → Prop), K (a₁ i) W →
      assign.wpIn (F.inRound l) (n - 1 - 1) P (Exit.then K (fun _ _ _ => False)) { tmps := (ps.zip (enc i)).foldl (fun t (p, v) => t.setIfInBounds p v) a.tmps, defers := [] } W)
    (hbody : ∀ (l i : Nat) (S : Bl) (W : World), I i S W → i < N → w.heap.size < l → body.wpIn (F.inRound l) (n - 1 - 1) P (postS I Ix (i + 1) S W) (a₁ i) W)
    (hdone : ∀ (D : Nat) (S : Bl) (W : World), w.heap.size ≤ D → I N S W → FrS S0 w W → (∀ k, S k → S0 k ∨ w.heap.size ≤ k) → ¬ S D → W.heap[D]? = some (.deferred (some [])) → Q .normal { a with defers := { target := .collected D, args := #[] } :: a.defers } W)
    (hstop : ∀ (D : Nat) (c : Code) (i : Nat) (S : Bl) (W : World), w.heap.size ≤ D → Ix c i S W → FrS S0 w W → (∀ k, S k → S0 k ∨ w.heap.size ≤ k) → ¬ S D → W.heap[D]? = some (.deferred (some [])) → c.wpIn F n P Q { a with defers := { target := .collected D, args := #[] } :: a.defers } W) :
    (Code.rangeFunc g ps assign body).wpIn F n P Q a w := by
  have hS0 := hB 0 S0 w h0
  refine wpIn_rangeFunc ?_
  intro fn hfn
  rw [hro]
  obtain ⟨rec, hrec⟩ : ∃ rec : LoopState → Option Code → Loop, rec = fun st pe => { state := st, pending := pe, fn, tmps := a.tmps, params := ps, assign, body, defers := w.heap.size } := ⟨_, rfl⟩
  obtain ⟨W1, hW1⟩ : ∃ W1, (w.alloc (.deferred (some []))).alloc (.loop (rec .ready none)) = W1 := ⟨_, rfl⟩
  have hL1 : W1.heap[w.heap.size + 1]? = some (.loop (rec .ready none)) := by
    rw [← hW1]; have := World.alloc_heap_new (w.alloc (.deferred (some []))) (.loop (rec .ready none)); rwa [World.size_alloc] at this
  have hK1 : W1.heap[w.heap.size]? = some (.deferred (some [])) := by
    rw [← hW1]; exact (Below.heap_alloc _ _ _ (by simp)).trans (World.alloc_heap_new w _)
  have hb1 : Below w.heap.size w W1 := by
    rw [← hW1]; exact ((Below.refl _ w).alloc (Nat.le_refl _) _).alloc (by simp) _
  have hI1 : I 0 S0 W1 := hI _ _ _ _ h0 (Chg.of_below hb1 (Nat.le_refl _))
  have hz1 : W1.heap.size = w.heap.size + 1 + 1 := by rw [← hW1]; simp
  obtain ⟨l, hl0⟩ : ∃ l, l = w.heap.size + 1 := ⟨_, rfl⟩
  refine ⟨w.heap.size + 1, [{ target := .collected w.heap.size, args := #[] }], W1, { target := .fn (.func gf) lb, args := #[.func (.yield (w.heap.size + 1)) #[] #[]] }, W1, gf,
    #[.func (.yield (w.heap.size + 1)) #[] #[]] ++ lb, W1, ?_, ?_, ?_, ?_, fun _ => h1, ?_⟩
  · rw [← hW1, hrec]; exact run_enterLoop_outer _ _ _ _ _
  · simp only [resolve, hg]
    simp [go_sem]
  · intro f' hf'; simp [Target.leads] at hf'; subst hf'; exact hFg
  · simp [invoke, go_sem, eg]
  · rw [← hl0]
    have hL1' : W1.heap[l]? = some (.loop (rec .ready none)) := by rw [hl0]; exact hL1
    have hchg : ∀ {k : Nat} {o : Obj} {S : Bl} {A B : World}, k < W1.heap.size → A.heap[k]? = some o → Chg W1.heap.size S A B → B.heap[k]? = some o := fun hk ha hc => (hc.block _ (Array.getElem?_eq_some_iff.1 ha).1 (.inl hk)).trans ha
    refine (hseq l
      (fun i S W => I i S W ∧ W.heap[l]? = some (.loop (rec .ready none)) ∧ W.heap[w.heap.size]? = some (.deferred (some [])) ∧ (∀ k, S k → S0 k ∨ w.heap.size ≤ k) ∧ ¬ S w.heap.size ∧ ¬ S l)
      (fun i S W => ∃ c, Ix c i S W ∧ W.heap[l]? = some (.loop (rec .done (some c))) ∧ W.heap[w.heap.size]? = some (.deferred (some [])) ∧ (∀ k, S k → S0 k ∨ w.heap.size ≤ k) ∧ ¬ S w.heap.size ∧ ¬ S l)
      W1 S0 hb1 (by omega)
      (fun i S A B hs hc => ⟨hI i S A B hs.1 (hc.mono (by omega) fun _ h => h), hchg (by omega) hs.2.1 hc, hchg (by omega) hs.2.2.1 hc, hs.2.2.2⟩)
      (fun i S A B ⟨c, hi, hl, hk, hs⟩ hc => ⟨c, hIx c i S A B hi (hc.mono (by omega) fun _ h => h), hchg (by omega) hl hc, hchg (by omega) hk hc, hs⟩)
      (fun i S A hs => hD i S A hs.1) (fun i S A ⟨c, hi, _⟩ => hDx c i S A hi) (fun i S A hs => hB i S A hs.1)
      ?_ ⟨hI1, hL1', hK1, fun k hk => .inl hk, fun h => by have := hS0 _ h; omega, fun h => by have := hS0 _ h; omega⟩).mono ?_
    · rintro i S W ⟨hi, hl, hk, hSS, hSd, hSl⟩ hlen
      have hlt : l < W.heap.size := (Array.getElem?_eq_some_iff.1 hl).1
      have hy := run_yield (P := P) (args := enc i) hl (by rw [hrec]; exact hps i)
      rw [hrec] at hy
      refine ⟨fn, _, assign, body, hy, roundIn_of_wpIn hfn (hassign _ i W _ ⟨_, run_beginRound hl (by rw [hrec]), ?_⟩)⟩
      have hl2 : (W.putObj l (.loop { rec .ready none with state := .busy })).heap[l]? = some (.loop { rec .ready none with state := .busy }) := World.putObj_heap_same hlt
      have hk2 : (W.putObj l (.loop { rec .ready none with state := .busy })).heap[w.heap.size]? = some (.deferred (some [])) := (World.putObj_heap_other (by omega)).trans hk
      have hi2 : I i S (W.putObj l (.loop { rec .ready none with state := .busy })) := hI _ _ _ _ hi (Chg.putObj _ (by omega) hSl)
      refine wpIn_mono (hbody _ i S _ hi2 hlen (by omega)) ?_
      have fin : ∀ (jump : Option Code) (W3 : World) (S' : Bl), FrS S (W.putObj l (.loop { rec .ready none with state := .busy })) W3 → (∀ k, S' k → S k ∨ (W.putObj l (.loop { rec .ready none with state := .busy })).heap.size ≤ k) →
          (Instr.endRound l jump).run P W3 = .ok (.bool jump.isNone) (W3.putObj l (.loop (rec (if jump.isNone then .ready else .done) jump))) ∧
          (W3.putObj l (.loop (rec (if jump.isNone then .ready else .done) jump))).heap[l]? = some (.loop (rec (if jump.isNone then .ready else .done) jump)) ∧
          (W3.putObj l (.loop (rec (if jump.isNone then .ready else .done) jump))).heap[w.heap.size]? = some (.deferred (some [])) ∧
          ((∀ k, S' k → S0 k ∨ w.heap.size ≤ k) ∧ ¬ S' w.heap.size ∧ ¬ S' l) ∧
          FrS (fun k => S k ∨ k = l) W (W3.putObj l (.loop (rec (if jump.isNone then .ready else .done) jump))) ∧
          (∀ k, S' k → S k ∨ W.heap.size ≤ k) := fun jump W3 S' hk3 hS' => by
        have hsz : (W.putObj l (.loop { rec .ready none with state := .busy })).heap.size = W.heap.size := by simp
        have hl3 := (hk3.block l (by omega) hSl).trans hl2
        have hd3 := (hk3.block w.heap.size (by omega) hSd).trans hk2
        have := run_endRound (P := P) jump hl3
        rw [hrec] at this ⊢
        refine ⟨this, World.putObj_heap_same (Array.getElem?_eq_some_iff.1 hl3).1, (World.putObj_heap_other (by omega)).trans hd3, ⟨fun k h => ?_, fun h => ?_, fun h => ?_⟩, ⟨hk3.os, hk3.tape, hk3.output, by have := hk3.size; simp at this ⊢; exact this, fun k hkl hno => ?_⟩, fun k h => ?_⟩
        · rcases hS' k h with h | h
          · exact hSS k h
          · exact .inr (by omega)
        · rcases hS' w.heap.size h with h | h
          · exact hSd h
          · omega
        · rcases hS' l h with h | h
          · exact hSl h
          · omega
        · have hne : k ≠ l := fun e => hno (.inr e)
          rw [World.putObj_heap_other hne, hk3.block k (by omega) (fun h => hno (.inl h)), World.putObj_heap_other hne]
        · rcases hS' k h with h | h
          · exact .inl h
          · exact .inr (by omega)
      rintro e a3 W3 hp
      cases e with
      | normal =>
        obtain ⟨S', hi3, hk3, hS'⟩ := hp
        obtain ⟨hr, hl4, hk4, hSS', hkr, hS2⟩ := fin none W3 S' hk3 hS'
        exact ⟨_, _, hr, .inl ⟨rfl, S', ⟨hI _ _ _ _ hi3 (Chg.putObj _ (by omega) hSS'.2.2), hl4, hk4, hSS'⟩, hkr, hS2⟩⟩
      | ret =>
        obtain ⟨S', hi3, hk3, hS'⟩ := hp
        obtain ⟨hr, hl4, hk4, hSS', hkr, hS2⟩ := fin (some .ret) W3 S' hk3 hS'
        exact ⟨_, _, hr, .inr ⟨rfl, S', ⟨.ret, hIx _ _ _ _ _ hi3 (Chg.putObj _ (by omega) hSS'.2.2), hl4, hk4, hSS'⟩, hkr, hS2⟩⟩
      | exit id =>
        obtain ⟨S', hi3, hk3, hS'⟩ := hp
        obtain ⟨hr, hl4, hk4, hSS', hkr, hS2⟩ := fin (some (.exit id)) W3 S' hk3 hS'
        exact ⟨_, _, hr, .inr ⟨rfl, S', ⟨.exit id, hIx _ _ _ _ _ hi3 (Chg.putObj _ (by omega) hSS'.2.2), hl4, hk4, hSS'⟩, hkr, hS2⟩⟩
      | goto t =>
        obtain ⟨S', hi3, hk3, hS'⟩ := hp
        obtain ⟨hr, hl4, hk4, hSS', hkr, hS2⟩ := fin (some (.goto t)) W3 S' hk3 hS'
        exact ⟨_, _, hr, .inr ⟨rfl, S', ⟨.goto t, hIx _ _ _ _ _ hi3 (Chg.putObj _ (by omega) hSS'.2.2), hl4, hk4, hSS'⟩, hkr, hS2⟩⟩
      | panic ch => exact hp.elim
      | outgrown => exact hp.elim
    · have hfr : ∀ {W2 : World} (o : Obj), FrS (fun k => S0 k ∨ k = l) W1 W2 → FrS S0 w (W2.putObj l o) := fun o h =>
        ⟨h.os.trans hb1.os, h.tape.trans hb1.tape, h.output.trans hb1.output, by have := h.size; have := hb1.size; simp; omega, fun k hk hS => by
          rw [World.putObj_heap_other (by omega), h.block k (by omega) (fun h' => h'.elim hS (by omega))]
          exact hb1.block k (by omega)⟩
      rintro e W2 ⟨⟨v, rfl⟩, (⟨S', ⟨hi, hl, hk, hS, hSd, hSl⟩, hf, _⟩ | ⟨i, S', ⟨c, hi, hl, hk, hS, hSd, hSl⟩, hf, _⟩)⟩
      · exact ⟨none, _, by have := run_endLoop (P := P) hl (by rw [hrec]; simp); rw [hrec] at this; exact this, hdone _ S' _ (Nat.le_refl _) (hI _ _ _ _ hi (Chg.putObj _ (by omega) hSl)) (hfr _ hf) hS hSd ((World.putObj_heap_other (by omega)).trans hk)⟩
      · exact ⟨some c, _, by have := run_endLoop (P := P) hl (by rw [hrec]; simp); rw [hrec] at this; exact this, hstop _ c i S' _ (Nat.le_refl _) (hIx c _ _ _ _ hi (Chg.putObj _ (by omega) hSl)) (hfr _ hf) hS hSd ((World.putObj_heap_other (by omega)).trans hk)⟩
end Go.Proofs.Ytpnfkgjcnofjnaa
