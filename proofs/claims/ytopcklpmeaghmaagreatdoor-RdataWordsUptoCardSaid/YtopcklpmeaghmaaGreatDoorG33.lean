/- Texts of the proofs, merged. -/
import Derived.Test.YtopcklpmeaghmaaGreatDoorG31
import Derived.Test.YtopcklpmeaghmaaGreatDoorG32
import Derived.Test.YtopcklpmeaghmaaGreatDoorG1
import Derived.RangeFuncNested
import Derived.RangeFuncBound
import Derived.RangeFuncCalls
import Derived.RangeFuncLeaves
import Derived.Shelf.Abstract
import Derived.Shelf.RegionOpen
import Derived.OwnWalkIn
import Derived.TacticsInMore
import Derived.LoopNIn
import Derived.LoopIn
import Derived.Test.YtopcklpmeaghmaaGreatDoorG21
import Derived.Test.YtopcklpmeaghmaaGreatDoorG5
import Derived.Maps.OwnSet
import Derived.Maps.Views
/- The document's answer on data: Show, where no name and no text is told. -/
namespace Go.Proofs.YtopcklpmeaghmaaGreatDoor
open Go.RowKit

theorem sv_eq {s : ByteArray} {l : List UInt8} (h : s.data.toList = l) : Value.string s = sv l := congrArg Value.string (string_eq h)
theorem ext_tail (r : List UInt8) : ((⟨r.toArray⟩ : ByteArray).extract 1 r.length).data.toList = r.drop 1 := by
  rw [extract_list]
  exact List.take_of_length_le (by simp)
namespace Rd
theorem flat_pos {s : By} {f : UInt8 → By} (hs : 0 < s.length) (hf : ∀ c, 0 < (f c).length) : 0 < (s.flatMap f).length := by
  cases s with
  | nil => simp at hs
  | cons c r => have := hf c; simp; omega
def showA (s : By) : By := (s.flatMap fun c => 46 :: dec c.toNat).drop 1
def hex2 (c : UInt8) : By := hex (c.toNat / 16) ++ hex (c.toNat % 16)
def showHex (s : By) : By := [92, 35, 32] ++ dec s.length ++ (if s = [] then [] else 32 :: s.flatMap hex2)
theorem dec_byte (c : UInt8) : (dec c.toNat).length ≤ 256 := by
  have := dec_len c.toNat
  have := c.toNat_lt
  omega
theorem flat_take {s : By} {k : Nat} (hk : k < s.length) (f : UInt8 → By) : (s.take (k + 1)).flatMap f = (s.take k).flatMap f ++ f (s[k]'hk) := by
  rw [List.take_add_one, List.getElem?_eq_getElem hk, List.flatMap_append]
  simp
end Rd
theorem Rd.hex_small2 {n : Nat} (h : n < 16) : (hex n).length = 1 := by rw [hex_small h]; rfl
end Go.Proofs.YtopcklpmeaghmaaGreatDoor
/- A range over a function whose rounds may make a map, and write it: one law for the caller. Nothing of the program. -/
namespace Go.Proofs.YtopcklpmeaghmaaGreatDoor
open Go.RowKit Go.Shelf

def isBook : Obj → Bool
  | .loop _ => true
  | .deferred _ => true
  | _ => false
def isMapO : Obj → Bool
  | .map .. => true
  | _ => false
/-- whatever is no map, and lies at lo or beyond, lies as it lay. -/
structure Keeps (lo : Nat) (W W' : World) : Prop where
  size : W.heap.size ≤ W'.heap.size
  same : ∀ (k : Nat) (o : Obj), lo ≤ k → W.heap[k]? = some o → isMapO o = false → W'.heap[k]? = some o
theorem Keeps.refl (lo : Nat) (W : World) : Keeps lo W W := ⟨Nat.le_refl _, fun _ _ _ h _ => h⟩
theorem Keeps.trans {lo : Nat} {A B C : World} (h : Keeps lo A B) (k : Keeps lo B C) : Keeps lo A C := ⟨Nat.le_trans h.size k.size, fun i o hl hi ho => k.same i o hl (h.same i o hl hi ho) ho⟩
theorem Keeps.of_grown {lo : Nat} {W W' : World} {row : Option Nat} (hg : W.grownBy W' row) (hr : ∀ r, row = some r → r < lo ∨ ∃ o, W.heap[r]? = some o ∧ isMapO o = true) : Keeps lo W W' :=
  ⟨hg.size, fun k o hl hk ho => (hg.block k (Array.getElem?_eq_some_iff.1 hk).1 (fun e => by
    rcases hr k e.symm with h | ⟨o', h, h2⟩
    · omega
    · rw [hk] at h; cases h; rw [ho] at h2; cases h2)).trans hk⟩
theorem Keeps.of_below {lo B : Nat} {W W' : World} (h : Below B W W') (hB : W.heap.size ≤ B) : Keeps lo W W' :=
  ⟨h.size, fun k o _ hk _ => (h.block k (by have := (Array.getElem?_eq_some_iff.1 hk).1; omega)).trans hk⟩
theorem Keeps.setCell {lo : Nat} {W : World} {p : Addr} (u : Value) (h : p.block < lo) : Keeps lo W (W.setCell p u) :=
  ⟨by simp, fun k o hl hk _ => (heap_setCell_other W p k u (by omega)).trans hk⟩
theorem Keeps.cell {lo : Nat} {W W' : World} {p : Addr} {v : Value} (h : Keeps lo W W') (hl : lo ≤ p.block) (hc : W.cell? p = some v) : W'.cell? p = some v := by
  obtain ⟨o, ho, hcs⟩ := cells_of_cell hc
  have : W'.heap[p.block]? = some o := h.same _ _ hl ho (by cases o <;> simp_all [isMapO, Obj.isCells])
  exact (World.cell?_of_block (this.trans ho.symm)).trans hc
theorem Keeps.has {lo : Nat} {W W' : World} {g : Nat} {t : TypeId} {cs : Array Value} (h : Keeps lo W W') (hl : lo ≤ g) (hc : Has W g t cs) : Has W' g t cs := h.same _ _ hl hc rfl

/-- what is said abides the book-keeping of a loop, and new blocks. -/
def Book (B : Nat) (I : Nat → World → Prop) : Prop :=
  ∀ i W W' row, I i W → W.grownBy W' row → (∀ r, row = some r → B ≤ r ∧ ∃ o : Obj, W.heap[r]? = some o ∧ isBook o = true) → I i W'
theorem grown_of_below {W W' : World} (h : Below W.heap.size W W') : W.grownBy W' none := ⟨h.os, h.tape, h.output, h.size, fun k hk _ => h.block k hk⟩
theorem Book.grows {B : Nat} {I : Nat → World → Prop} (h : Book B I) {i : Nat} {W W' : World} (hi : I i W) (hb : Below W.heap.size W W') : I i W' := h i W W' none hi (grown_of_below hb) (fun r e => by cases e)
theorem Book.alloc {B : Nat} {I : Nat → World → Prop} (h : Book B I) {i : Nat} {W : World} (o : Obj) (hi : I i W) : I i (W.alloc o) := h i W _ none hi (World.grownBy_alloc W o none) (fun r e => by cases e)
theorem Book.putObj {B : Nat} {I : Nat → World → Prop} (h : Book B I) {i : Nat} {W : World} {l : Nat} {o : Obj} (o' : Obj) (hi : I i W) (hB : B ≤ l) (hl : W.heap[l]? = some o) (ho : isBook o = true) : I i (W.putObj l o') :=
  h i W _ (some l) hi (grownBy_putObj' W l o') (fun r e => by cases e; exact ⟨hB, o, hl, ho⟩)

/-- the contract of what is ranged over: N rounds, the i-th with these values. -/
def SeqN (F : Fence) (n : Nat) (P : Program) (g : Nat) (lb : Array Value) (enc : Nat → Array Value) (lo N : Nat) (w : World) : Prop :=
  ∀ (l : Nat) (J Jx : Nat → World → Prop) (W : World), Below w.heap.size w W →
    (∀ i A B, J i A → Below A.heap.size A B → J i B) →
    (∀ i W1, J i W1 → i < N → YieldAt F (n - 1) P l (enc i) W1 fun e W' =>
      (e = .returned (.bool true) ∧ J (i + 1) W' ∧ Keeps lo W1 W') ∨ (e = .returned (.bool false) ∧ Jx (i + 1) W')) →
    J 0 W →
    CallsIn F n P g (#[.func (.yield l) #[] #[]] ++ lb) W fun e W' => (∃ v, e = .returned v) ∧ (J N W' ∨ ∃ i, Jx i W')

/-- how a round may be left. -/
def postN (lo : Nat) (I : Nat → World → Prop) (Ix : Code → Nat → World → Prop) (i : Nat) (W : World) : Exit → Act → World → Prop
  | .normal, _, W' => Keeps lo W W' ∧ I i W'
  | .ret, _, W' => Keeps lo W W' ∧ Ix .ret i W'
  | .exit id, _, W' => Keeps lo W W' ∧ Ix (.exit id) i W'
  | .goto t, _, W' => Keeps lo W W' ∧ Ix (.goto t) i W'
  | .panic _, _, _ => False
  | .outgrown, _, _ => False

variable {F : Fence} {n : Nat} {P : Program}

theorem wpIn_rangeFunc_N {g : Operand} {ps : Array Tmp} {assign body : Code} {Q : Exit → Act → World → Prop} {a : Act} {w : World}
    (hro : F.round = none) (h1 : 1 ≤ n) {gf : Nat} {lb : Array Value} (hg : a.eval g = .func (.func gf) #[] lb) (hFg : F.fn gf) (eg : ∀ args w, (callFunc gf args).run P w = .ok (.enter gf args) w)
    {enc : Nat → Array Value} {lo N : Nat} (hlo : lo ≤ w.heap.size) (hseq : SeqN F (n - 1) P gf lb enc lo N w) (hps : ∀ i, (enc i).size = ps.size)
    (I : Nat → World → Prop) (Ix : Code → Nat → World → Prop) (hI : Book w.heap.size I) (hIx : ∀ c, Book w.heap.size (Ix c)) (h0 : I 0 w) (a₁ : Nat → Act)
    (hassign : ∀ (l i : Nat) (W : World) (K : Act → World → Prop), K (a₁ i) W →
      assign.wpIn (F.inRound l) (n - 1 - 1) P (Exit.then K (fun _ _ _ => False)) { tmps := (ps.zip (enc i)).foldl (fun t (p, v) => t.setIfInBounds p v) a.tmps, defers := [] } W)
    (hbody : ∀ (l i : Nat) (W : World), I i W → i < N → body.wpIn (F.inRound l) (n - 1 - 1) P (postN lo I Ix (i + 1) W) (a₁ i) W)
    (hdone : ∀ (D : Nat) (W : World), w.heap.size ≤ D → I N W → W.heap[D]? = some (.deferred (some [])) → Q .normal { a with defers := { target := .collected D, args := #[] } :: a.defers } W)
    (hstop : ∀ (D : Nat) (c : Code) (i : Nat) (W : World), w.heap.size ≤ D → Ix c i W → W.heap[D]? = some (.deferred (some [])) → c.wpIn F n P Q { a with defers := { target := .collected D, args := #[] } :: a.defers } W) :
    (Code.rangeFunc g ps assign body).wpIn F n P Q a w := by
  refine wpIn_rangeFunc ?_
  intro fn hfn
  rw [hro]
  obtain ⟨rec, hrec⟩ : ∃ rec : LoopState → Option Code → Loop, rec = fun st pe => { state := st, pending := pe, fn, tmps := a.tmps, params := ps, assign, body, defers := w.heap.size } := ⟨_, rfl⟩
  obtain ⟨W1, hW1⟩ : ∃ W1, (w.alloc (.deferred (some []))).alloc (.loop (rec .ready none)) = W1 := ⟨_, rfl⟩
  have hL1 : W1.heap[w.heap.size + 1]? = some (.loop (rec .ready none)) := by
    rw [← hW1]; have := World.alloc_heap_new (w.alloc (.deferred (some []))) (.loop (rec .ready none)); rwa [World.size_alloc] at this
  have hK1 : W1.heap[w.heap.size]? = some (.deferred (some [])) := by
    rw [← hW1]; exact (Below.heap_alloc _ _ _ (by simp)).trans (World.alloc_heap_new w _)
  have hI1 : I 0 W1 := by rw [← hW1]; exact hI.alloc _ (hI.alloc _ h0)
  have hb1 : Below w.heap.size w W1 := by
    rw [← hW1]; exact ((Below.refl _ w).alloc (Nat.le_refl _) _).alloc (by simp) _
  refine ⟨w.heap.size + 1, [{ target := .collected w.heap.size, args := #[] }], W1, { target := .fn (.func gf) lb, args := #[.func (.yield (w.heap.size + 1)) #[] #[]] }, W1, gf,
    #[.func (.yield (w.heap.size + 1)) #[] #[]] ++ lb, W1, ?_, ?_, ?_, ?_, fun _ => h1, ?_⟩
  · rw [← hW1, hrec]; exact run_enterLoop_outer _ _ _ _ _
  · simp only [resolve, hg]
    simp [go_sem]
  · intro f' hf'; simp [Target.leads] at hf'; subst hf'; exact hFg
  · simp [invoke, go_sem, eg]
  · refine (hseq (w.heap.size + 1)
      (fun i W => I i W ∧ W.heap[w.heap.size + 1]? = some (.loop (rec .ready none)) ∧ W.heap[w.heap.size]? = some (.deferred (some [])))
      (fun i W => ∃ c, Ix c i W ∧ W.heap[w.heap.size + 1]? = some (.loop (rec .done (some c))) ∧ W.heap[w.heap.size]? = some (.deferred (some [])))
      W1 hb1
      (fun i A B hs hb => ⟨hI.grows hs.1 hb, (hb.block _ (Array.getElem?_eq_some_iff.1 hs.2.1).1).trans hs.2.1, (hb.block _ (Array.getElem?_eq_some_iff.1 hs.2.2).1).trans hs.2.2⟩)
      ?_ ⟨hI1, hL1, hK1⟩).mono ?_
    · rintro i W ⟨hi, hl, hk⟩ hlen
      have hlt : w.heap.size + 1 < W.heap.size := (Array.getElem?_eq_some_iff.1 hl).1
      have hy := run_yield (P := P) (args := enc i) hl (by rw [hrec]; exact hps i)
      rw [hrec] at hy
      refine ⟨fn, _, assign, body, hy, roundIn_of_wpIn hfn (hassign _ i W _ ⟨_, run_beginRound hl (by rw [hrec]), ?_⟩)⟩
      have hl2 : (W.putObj (w.heap.size + 1) (.loop { rec .ready none with state := .busy })).heap[w.heap.size + 1]? = some (.loop { rec .ready none with state := .busy }) := World.putObj_heap_same hlt
      have hk2 : (W.putObj (w.heap.size + 1) (.loop { rec .ready none with state := .busy })).heap[w.heap.size]? = some (.deferred (some [])) := (World.putObj_heap_other (by omega)).trans hk
      have hput : ∀ (X : World) (o o' : Obj), X.heap[w.heap.size + 1]? = some o → ∀ k, k ≠ w.heap.size + 1 → (X.putObj (w.heap.size + 1) o').heap[k]? = X.heap[k]? := fun X o o' _ k hk => World.putObj_heap_other hk
      refine wpIn_mono (hbody _ i _ (hI.putObj _ hi (by omega) hl rfl) hlen) ?_
      have fin : ∀ (jump : Option Code) (W3 : World), Keeps lo (W.putObj (w.heap.size + 1) (.loop { rec .ready none with state := .busy })) W3 →
          (Instr.endRound (w.heap.size + 1) jump).run P W3 = .ok (.bool jump.isNone) (W3.putObj (w.heap.size + 1) (.loop (rec (if jump.isNone then .ready else .done) jump))) ∧
          W3.heap[w.heap.size + 1]? = some (.loop { rec .ready none with state := .busy }) ∧
          (W3.putObj (w.heap.size + 1) (.loop (rec (if jump.isNone then .ready else .done) jump))).heap[w.heap.size + 1]? = some (.loop (rec (if jump.isNone then .ready else .done) jump)) ∧
          (W3.putObj (w.heap.size + 1) (.loop (rec (if jump.isNone then .ready else .done) jump))).heap[w.heap.size]? = some (.deferred (some [])) := fun jump W3 hk3 => by
        have hl3 := hk3.same _ _ (by omega) hl2 rfl
        have := run_endRound (P := P) jump hl3
        rw [hrec] at this ⊢
        exact ⟨this, by rw [hrec] at hl3; exact hl3, World.putObj_heap_same (Array.getElem?_eq_some_iff.1 hl3).1, (World.putObj_heap_other (by omega)).trans (hk3.same _ _ hlo hk2 rfl)⟩
      rintro e a3 W3 hp
      cases e with
      | normal =>
        obtain ⟨hk3, hi3⟩ := hp
        obtain ⟨hr, hl3, hl4, hk4⟩ := fin none W3 hk3
        refine ⟨_, _, hr, .inl ⟨rfl, ⟨hI.putObj _ hi3 (by omega) hl3 rfl, hl4, hk4⟩, ?_⟩⟩
        refine ⟨by have := hk3.size; simp at this ⊢; exact this, fun k o hkl hko hno => ?_⟩
        by_cases e : k = w.heap.size + 1
        · subst e
          rw [hl] at hko
          cases hko
          exact hl4
        · rw [hput W3 _ _ hl3 k e]
          exact hk3.same k o hkl ((hput W _ _ hl k e).trans hko) hno
      | ret =>
        obtain ⟨hk3, hi3⟩ := hp
        obtain ⟨hr, hl3, hl4, hk4⟩ := fin (some .ret) W3 hk3
        exact ⟨_, _, hr, .inr ⟨rfl, .ret, (hIx _).putObj _ hi3 (by omega) hl3 rfl, hl4, hk4⟩⟩
      | exit id =>
        obtain ⟨hk3, hi3⟩ := hp
        obtain ⟨hr, hl3, hl4, hk4⟩ := fin (some (.exit id)) W3 hk3
        exact ⟨_, _, hr, .inr ⟨rfl, .exit id, (hIx _).putObj _ hi3 (by omega) hl3 rfl, hl4, hk4⟩⟩
      | goto t =>
        obtain ⟨hk3, hi3⟩ := hp
        obtain ⟨hr, hl3, hl4, hk4⟩ := fin (some (.goto t)) W3 hk3
        exact ⟨_, _, hr, .inr ⟨rfl, .goto t, (hIx _).putObj _ hi3 (by omega) hl3 rfl, hl4, hk4⟩⟩
      | panic ch => exact hp.elim
      | outgrown => exact hp.elim
    · rintro e W2 ⟨⟨v, rfl⟩, (⟨hi, hl, hk⟩ | ⟨i, c, hi, hl, hk⟩)⟩
      · exact ⟨none, _, by have := run_endLoop (P := P) hl (by rw [hrec]; simp); rw [hrec] at this; exact this, hdone _ _ (Nat.le_refl _) (hI.putObj _ hi (by omega) hl rfl) ((World.putObj_heap_other (by omega)).trans hk)⟩
      · exact ⟨some c, _, by have := run_endLoop (P := P) hl (by rw [hrec]; simp); rw [hrec] at this; exact this, hstop _ c i _ (Nat.le_refl _) ((hIx c).putObj _ hi (by omega) hl rfl) ((World.putObj_heap_other (by omega)).trans hk)⟩
end Go.Proofs.YtopcklpmeaghmaaGreatDoor
/- The program's table of names: a map in a field. -/
namespace Go.Proofs.YtopcklpmeaghmaaGreatDoor
open Go.RowKit Go.Maps

set_option maxRecDepth 100000 in
theorem nameKey : Keyed Tryz.prog 23 := string_keyed Tryz.underlying23
theorem zero16 (w : World) : (zeroValue 22).run Tryz.prog w = .ok (.int .u16 0) w := by kernel_rfl
set_option maxRecDepth 100000 in
theorem key_name {s : ByteArray} (hs : s.size ≤ 140737488355328) : keyOf Tryz.prog 23 (.string s) = some (.string s.data.toList) := WideMaps.keyOf_string_mk Tryz.underlying23 (by unfold maxLen; omega)
theorem lit_key (l : List UInt8) : WideAt.IsKeyLit (.string l) := trivial
set_option maxRecDepth 100000 in
theorem lit16 {p : Int} (h0 : 0 ≤ p) (h : p ≤ 16383) : (Lit.int .u16 p).wf = true := by
  have h1 : IntKind.u16.min = 0 := rfl
  have h2 : IntKind.u16.max = 65535 := rfl
  simp [Lit.wf, h1, h2]; omega

/-- what a map's datum holds is what a table finds. -/
def Hold (D : DataW Unit) (t : Tab) : Prop :=
  IsMap D ∧ ∀ k : List UInt8, Maps.has D (.string k) = decide (0 ≤ findI t k) ∧ (0 ≤ findI t k → ∀ z, D.atKey (.string k) z = .lit (.int .u16 (findI t k)))
set_option maxRecDepth 100000 in
theorem Hold.nil : Hold (.map []) [] := ⟨isMap_empty, fun k => ⟨rfl, fun h => absurd h (by simp [findI])⟩⟩
theorem Hold.put {D : DataW Unit} {t : Tab} (h : Hold D t) (k : List UInt8) (p : Nat) (hn : ¬ 0 ≤ findI t k) : Hold (D.put (.string k) (.lit (.int .u16 p))) (t ++ [(k, p)]) := by
  refine ⟨h.1.put _ _, fun x => ?_⟩
  rw [findI_snoc]
  by_cases hx : k = x
  · subst hx
    rw [has_put_same h.1 (lit_key k), if_neg hn, if_pos rfl]
    exact ⟨by simp, fun _ z => atKey_put_same h.1 (lit_key k) _ _⟩
  · have hne : Lit.string x ≠ Lit.string k := fun e => hx (by injection e with e; exact e.symm)
    rw [has_put_other hne, (h.2 x).1, if_neg hx]
    by_cases h9 : 0 ≤ findI t x
    · rw [if_pos h9]
      exact ⟨rfl, fun _ z => by rw [atKey_put_other hne]; exact (h.2 x).2 h9 z⟩
    · rw [if_neg h9]
      exact ⟨by simp [h9], fun h8 => absurd h8 (by omega)⟩
def MapIs (w : World) (m : Nat) (t : Tab) : Prop := ∃ D : DataW Unit, w.ownsMap Tryz.prog 23 (plainElem Tryz.prog 22) m t.length D ∧ Hold D t
/-- the table in memory. -/
def Tb (w : World) (g base : Nat) (mp : Option Nat) (t : Tab) : Prop :=
  base ≤ g ∧ Has w g 87 #[.map mp] ∧ (∀ x ∈ t, x.2 ≤ 16383) ∧ (mp = none → t = []) ∧ (∀ m, mp = some m → base ≤ m ∧ MapIs w m t)
set_option maxRecDepth 100000 in
theorem Tb.cell {w : World} {g base : Nat} {mp : Option Nat} {t : Tab} (h : Tb w g base mp t) : w.cell? ⟨g, 0, none⟩ = some (.map mp) := by rw [h.2.1.cell]; rfl

/-- whatever is no map lies as it lay, but for block g; and all that lies below base. -/
structure Rg (g base : Nat) (w w' : World) : Prop where
  below : Below base w w'
  same : ∀ (k : Nat) (o : Obj), k ≠ g → w.heap[k]? = some o → isMapO o = false → w'.heap[k]? = some o
section
variable {g base : Nat} {w w' w2 : World}
set_option maxRecDepth 100000 in
theorem Rg.refl (g base : Nat) (w : World) : Rg g base w w := ⟨Below.refl _ _, fun _ _ _ h _ => h⟩
theorem Rg.trans (h : Rg g base w w') (k : Rg g base w' w2) : Rg g base w w2 := ⟨h.below.trans k.below, fun i o hi ho hn => k.same i o hi (h.same i o hi ho hn) hn⟩
set_option maxRecDepth 100000 in
theorem Rg.of_below (h : Below w.heap.size w w') (hb : base ≤ w.heap.size) : Rg g base w w' := ⟨⟨h.os, h.tape, h.output, h.size, fun k hk => h.block k (by omega)⟩, fun k o _ hk _ => (h.block k (Array.getElem?_eq_some_iff.1 hk).1).trans hk⟩
theorem Rg.of_grown {row : Option Nat} (h : w.grownBy w' row) (hr : ∀ r, row = some r → base ≤ r ∧ (r = g ∨ ∃ o, w.heap[r]? = some o ∧ isMapO o = true)) (hb : base ≤ w.heap.size) : Rg g base w w' :=
  ⟨⟨h.os, h.tape, h.output, h.size, fun k hk => h.block k (by omega) (fun e => by have := (hr k e.symm).1; omega)⟩, fun k o hg hk hn => (h.block k (Array.getElem?_eq_some_iff.1 hk).1 (fun e => by
    rcases (hr k e.symm).2 with h1 | ⟨o', h1, h2⟩
    · exact hg h1
    · rw [hk] at h1; cases h1; rw [hn] at h2; cases h2)).trans hk⟩
set_option maxRecDepth 100000 in
theorem Rg.keeps (h : Rg g base w w') {lo : Nat} (hl : g < lo) : Keeps lo w w' := ⟨h.below.size, fun k o hk ho hn => h.same k o (by omega) ho hn⟩
theorem Rg.has (h : Rg g base w w') {k : Nat} {t : TypeId} {cs : Array Value} (hk : Has w k t cs) (hn : k ≠ g) : Has w' k t cs := h.same k _ hn hk rfl
end
set_option maxRecDepth 100000 in
theorem ownsMap_obj {w : World} {m n : Nat} {D : DataW Unit} {R : Value → Option (DataW Unit × List MemPlace)} {k : TypeId} (h : w.ownsMap Tryz.prog k R m n D) : ∃ o, w.heap[m]? = some o ∧ isMapO o = true := by
  obtain ⟨es, c, hb, _⟩ := h
  exact ⟨_, hb, rfl⟩
set_option maxRecDepth 100000 in
theorem map_obj {w : World} {m : Nat} {t : Tab} (h : MapIs w m t) : ∃ o, w.heap[m]? = some o ∧ isMapO o = true := by
  obtain ⟨D, h1, _⟩ := h
  exact ownsMap_obj h1
set_option maxRecDepth 100000 in
theorem MapIs.grown {w w' : World} {m : Nat} {t : Tab} {row : Option Nat} (h : MapIs w m t) (hg : w.grownBy w' row) (hne : some m ≠ row) : MapIs w' m t := by
  obtain ⟨D, h1, h2⟩ := h
  exact ⟨D, h1.kept hg hne, h2⟩
set_option maxRecDepth 100000 in
/-- the table lies as it lay, where its two blocks do. -/
theorem Tb.grown {w w' : World} {g base : Nat} {mp : Option Nat} {t : Tab} {row : Option Nat} (h : Tb w g base mp t) (hg : w.grownBy w' row) (h1 : some g ≠ row) (h2 : ∀ r, row = some r → ∀ o, w.heap[r]? = some o → isMapO o = false) : Tb w' g base mp t := by
  obtain ⟨a, b, c, d, e⟩ := h
  refine ⟨a, b.grown hg h1, c, d, fun m hm => ⟨(e m hm).1, (e m hm).2.grown hg (fun e2 => ?_)⟩⟩
  obtain ⟨o, ho, ho2⟩ := map_obj (e m hm).2
  rw [h2 m e2.symm o ho] at ho2
  cases ho2
set_option maxRecDepth 100000 in
theorem Tb.below {w w' : World} {g base : Nat} {mp : Option Nat} {t : Tab} (h : Tb w g base mp t) (hb : Below w.heap.size w w') : Tb w' g base mp t := h.grown (row := none) ⟨hb.os, hb.tape, hb.output, hb.size, fun k hk _ => hb.block k hk⟩ (by simp) (fun r e => by cases e)
theorem Tb.set {w : World} {g base k i : Nat} {mp : Option Nat} {t : Tab} {u : Value} {e : TypeId} {cs : Array Value} (h : Tb w g base mp t) (hk : k ≠ g) (hc : Has w k e cs) : Tb (w.setCell ⟨k, i, none⟩ u) g base mp t :=
  h.grown (row := some k) ⟨rfl, rfl, rfl, by simp, fun j _ hj => heap_setCell_other w ⟨k, i, none⟩ j u (fun e => hj (by rw [e]))⟩ (fun e => hk (by cases e; rfl)) (fun r e o ho => by cases e; rw [show w.heap[k]? = _ from hc] at ho; cases ho; rfl)

set_option maxRecDepth 100000 in
/-- what the map answers. -/
theorem look_tb {w : World} {g base : Nat} {mp : Option Nat} {t : Tab} (h : Tb w g base mp t) {s : ByteArray} (hs : s.size ≤ 140737488355328) :
    (Instr.lookup 85 (.map mp) (.string s) true).run Tryz.prog w = .ok (.tuple #[.int .u16 (if 0 ≤ findI t s.data.toList then findI t s.data.toList else 0), .bool (decide (0 ≤ findI t s.data.toList))]) w := by
  obtain ⟨_, _, _, d, e⟩ := h
  rcases mp with _ | m
  · have := look_nil (w := w) true nameKey Tryz.underlying85 (zero16 w) (key_name hs)
    rw [this, d rfl]
    rfl
  · obtain ⟨_, D, h1, h2, h3⟩ := e m rfl
    obtain ⟨v, ps, hrun, hv⟩ := h1.look_ok nameKey Tryz.underlying85 (zero16 w) (plainElem_int Tryz.underlying22 (by decide)) (key_name hs)
    obtain ⟨c, rfl, hc, hwc⟩ := plainElem_int_inv Tryz.underlying22 hv
    rw [hrun, (h3 _).1]
    have hc1 := congrArg Prod.fst hc
    simp only at hc1
    by_cases h9 : 0 ≤ findI t s.data.toList
    · rw [(h3 _).2 h9] at hc1
      rw [if_pos h9]
      injection hc1 with hc1
      injection hc1 with _ hc1
      rw [hc1]
    · rw [atKey_of_not_has (by rw [(h3 _).1]; simp [h9])] at hc1
      rw [if_neg h9]
      injection hc1 with hc1
      injection hc1 with _ hc1
      rw [hc1]
set_option maxRecDepth 100000 in
/-- a store into the map. -/
theorem store_tb {w : World} {m : Nat} {t : Tab} (h : MapIs w m t) {s : ByteArray} (hs : s.size ≤ 140737488355328) (hn : ¬ 0 ≤ findI t s.data.toList) (hl : t.length ≤ 140737488355000) {p : Nat} (hp : p ≤ 16383) :
    ∃ w', (Instr.mapUpdate 85 (.map (some m)) (.string s) (.int .u16 p)).run Tryz.prog w = .ok () w' ∧ MapIs w' m (t ++ [(s.data.toList, p)]) ∧ w.grownBy w' (some m) := by
  obtain ⟨D, h1, h2⟩ := h
  obtain ⟨w', hr, a, b⟩ := h1.update nameKey Tryz.underlying85 (by unfold maxLen; omega) (key_name hs) (plainElem_int (H := Unit) Tryz.underlying22 (lit16 (p := p) (by omega) (by omega)))
  exact ⟨w', hr, ⟨_, by rw [List.length_append]; exact a, h2.put _ _ hn⟩, b⟩

set_option maxRecDepth 100000 in
theorem pcheck_any (g : Nat) (s : ByteArray) (w : World) (hs : s.size ≤ 140737488355328) :
    Calls Tryz.prog 67 #[.pointer (some ⟨g, 0, none⟩), .string s] w fun e w' => e = .returned (.int .i64 (if (Nm.split s.data.toList).isSome then 0 else 11)) ∧ Below w.heap.size w w' := by
  have HC := Lib.hid (Check_any s w hs)
  go_enter Tryz.func67, Tryz.ntmps67
  generalize (if (Nm.split s.data.toList).isSome then (0 : Int) else 11) = r at *
  go_wp2_with (go_at_call 19; refine HC.out.mono ?_; rintro e w1 ⟨rfl, hb1⟩)
  go_ret
  exact ⟨rfl, hb1⟩
set_option maxRecDepth 100000 in
theorem pcheck_nil (s : ByteArray) (w : World) :
    Calls Tryz.prog 67 #[.pointer none, .string s] w fun e w' => e = .returned (.int .i64 8) ∧ w = w' := by
  go_enter Tryz.func67, Tryz.ntmps67
  go_wp2
  go_ret
  exact ⟨rfl, rfl⟩

set_option maxHeartbeats 800000 in
set_option maxRecDepth 100000 in
theorem remember_any (g base : Nat) (mp : Option Nat) (t : Tab) (s : ByteArray) (p : Nat) (w : World) (h : Tb w g base mp t) (hb : base ≤ w.heap.size) (hs : s.size ≤ 140737488355328) (hl : t.length ≤ 140737488355000) (hp : p ≤ 281474976710656) :
    Calls Tryz.prog 69 #[.pointer (some ⟨g, 0, none⟩), .string s, .int .i64 p] w fun e w' => e = .returned (.tuple #[]) ∧ ∃ mp', Tb w' g base mp' (Pr.rem t s.data.toList p) ∧ Rg g base w w' := by
  have c0 := h.cell
  have f0 := h.2.1.free 0
  have hlk := look_tb h hs
  have HT := Lib.hid h
  have hq := fun (w : World) (r : Option Nat) => run_eql_map_nil (P := Tryz.prog) w 85 23 22 r Tryz.underlying85
  clear h
  by_cases hf : 0 ≤ findI t s.data.toList
  · have HR := Lib.hid (Pr.rem_there (p := p) hf)
    rw [if_pos hf, decide_eq_true hf] at hlk
    clear hf
    go_enter Tryz.func69, Tryz.ntmps69
    go_wp2
    refine bodyPost_ret (results_none rfl _ _ _) rfl ?_
    exact ⟨rfl, mp, by rw [HR.out]; exact HT.out, Rg.refl _ _ _⟩
  · rw [if_neg hf, decide_eq_false hf] at hlk
    by_cases hfar : 16383 < p
    · have HR := Lib.hid (Pr.rem_far (t := t) (k := s.data.toList) hfar)
      clear hf
      go_enter Tryz.func69, Tryz.ntmps69
      go_wp2
      refine bodyPost_ret (results_none rfl _ _ _) rfl ?_
      exact ⟨rfl, mp, by rw [HR.out]; exact HT.out, Rg.refl _ _ _⟩
    · have HR := Lib.hid (Pr.rem_new hf (by omega : p ≤ 16383))
      have HF := Lib.hid hf
      have hw16 : IntKind.u16.wrap (p : Int) = p := by rw [IntKind.wrap_u16]; omega
      clear hf
      rcases mp with _ | m
      · have hnil := HT.out.2.2.2.1 rfl
        have hmk := @run_makeMap Tryz.prog
        have hM : MapIs ((w.alloc (.map #[] 0)).setCell ⟨g, 0, none⟩ (.map (some w.heap.size))) w.heap.size [] := by
          refine MapIs.grown (w := w.alloc (.map #[] 0)) (row := some g) ⟨_, World.ownsMap_made _ _ _ _, Hold.nil⟩ ⟨rfl, rfl, rfl, by simp, fun j _ hj => heap_setCell_other _ ⟨g, 0, none⟩ j _ (fun e => hj (by rw [e]))⟩ (fun e => by have := HT.out.2.1.lt; injection e with e; omega)
        obtain ⟨w2, hr2, hM2, hg2⟩ := store_tb hM hs (by simp [findI]) (by simp) (p := p) (by omega)
        have hH1 := HT.out.2.1.alloc (.map #[] 0)
        have c1 : (w.alloc (.map #[] 0)).cell? ⟨g, 0, none⟩ = some (.map none) := by rw [hH1.cell]; rfl
        have f1 : (w.alloc (.map #[] 0)).frozen? ⟨g, 0, none⟩ = false := hH1.free 0
        have c2 : ((w.alloc (.map #[] 0)).setCell ⟨g, 0, none⟩ (.map (some w.heap.size))).cell? ⟨g, 0, none⟩ = some (.map (some w.heap.size)) := by rw [(hH1.set 0 _).cell]; rfl
        clear hH1
        have HM := Lib.hid hM
        have HM2 := Lib.hid hM2
        have HG2 := Lib.hid hg2
        have HN := Lib.hid hnil
        clear hM hM2 hg2 hnil
        go_enter Tryz.func69, Tryz.ntmps69
        go_wp2
        go_end0
        have hlt := HT.out.2.1.lt
        have hH : Has ((w.alloc (.map #[] 0)).setCell ⟨g, 0, none⟩ (.map (some w.heap.size))) g 87 #[.map (some w.heap.size)] := (HT.out.2.1.alloc _).set 0 _
        refine ⟨rfl, ⟨some w.heap.size, HT.out.1, hH.grown HG2.out (fun e => by injection e with e; omega), ?_, (fun e => by cases e), fun m' e => ?_⟩, ?_⟩
        · exact Pr.rem_max HT.out.2.2.1
        · cases e
          exact ⟨hb, by rw [HR.out, HN.out]; exact HM2.out⟩
        · refine Rg.trans (w' := (w.alloc (.map #[] 0)).setCell ⟨g, 0, none⟩ (.map (some w.heap.size))) ?_ (Rg.of_grown HG2.out (fun r e => by cases e; exact ⟨hb, .inr (map_obj HM.out)⟩) (by simp; omega))
          refine Rg.trans (w' := w.alloc (.map #[] 0)) (Rg.of_below ((Below.refl _ _).alloc (Nat.le_refl _) _) hb) (Rg.of_grown (row := some g) ⟨rfl, rfl, rfl, by simp, fun j _ hj => heap_setCell_other _ ⟨g, 0, none⟩ j _ (fun e => hj (by rw [e]))⟩ (fun r e => by cases e; exact ⟨HT.out.1, .inl rfl⟩) (by simp; omega))
      · obtain ⟨hbm, hMI⟩ := HT.out.2.2.2.2 m rfl
        obtain ⟨w2, hr2, hM2, hg2⟩ := store_tb hMI hs HF.out hl (p := p) (by omega)
        have HMI := Lib.hid hMI
        have HM2 := Lib.hid hM2
        have HG2 := Lib.hid hg2
        clear hM2 hg2 hMI
        go_enter Tryz.func69, Tryz.ntmps69
        go_wp2
        go_end0
        obtain ⟨om, hom, hom2⟩ := map_obj HMI.out
        refine ⟨rfl, ⟨some m, HT.out.1, HT.out.2.1.grown HG2.out (fun e => ?_), Pr.rem_max HT.out.2.2.1, (fun e => by cases e), fun m' e => ?_⟩, Rg.of_grown HG2.out (fun r e => by cases e; exact ⟨hbm, .inr ⟨om, hom, hom2⟩⟩) hb⟩
        · injection e with e
          subst e
          rw [show w.heap[g]? = _ from HT.out.2.1] at hom
          cases hom
          cases hom2
        · cases e
          exact ⟨hbm, by rw [HR.out]; exact HM2.out⟩
end Go.Proofs.YtopcklpmeaghmaaGreatDoor
/- A name gone through label by label, by a range over a function. -/
namespace Go.Proofs.YtopcklpmeaghmaaGreatDoor
open Go.RowKit Go.Shelf
attribute [local go_sem] Oper.semAt_some

/-- what is told in round i. -/
def tailV (ls : List (List UInt8)) (i : Nat) : Array Value := #[.int .i64 ((Nm.body (ls.take i)).length : Nat), sv (Nm.glue (ls.drop i))]
theorem glue_at (ls : List (List UInt8)) (i : Nat) : (Nm.glue ls).drop (Nm.body (ls.take i)).length = Nm.glue (ls.drop i) := by
  have e : Nm.glue ls = Nm.body (ls.take i) ++ Nm.glue (ls.drop i) := by
    unfold Nm.glue
    rw [← List.append_assoc, ← Nm.body_append, List.take_append_drop]
  rw [e, List.drop_left]
theorem tail_cut {s : ByteArray} {ls : List (List UInt8)} (h : s.data.toList = Nm.glue ls) (i : Nat) : sv (Nm.glue (ls.drop i)) = .string (s.extract (Nm.body (ls.take i)).length s.size) := by
  have hl : s.size = (Nm.glue ls).length := by rw [← h]; simp
  rw [string_eq (s := s.extract (Nm.body (ls.take i)).length s.size) (l := Nm.glue (ls.drop i))]
  rw [extract_list, h, glue_at, hl]
  rw [List.take_of_length_le]
  have := glue_at ls i
  rw [← this, List.length_drop]; omega

set_option maxHeartbeats 400000 in
theorem tails_any (s : ByteArray) (w : World) :
    Calls Tryz.prog 68 #[.string s] w fun e w' => e = .returned (.func (.func 92) #[] #[.pointer (some ⟨w.heap.size, 0, none⟩)]) ∧ w' = w.alloc (.cells #[.string s] 23) := by
  go_enter Tryz.func68, Tryz.ntmps68
  go_wp2
  go_ret
  exact ⟨rfl, rfl⟩

set_option maxRecDepth 100000 in
set_option maxHeartbeats 1000000 in
theorem tails1_in (n : Nat) (hn : 1 ≤ n) (l bx lo : Nat) (s : ByteArray) (ls : List (List UInt8)) (hs : Nm.split s.data.toList = some ls) (J Jx : Nat → World → Prop)
    (hJ : ∀ i A B, J i A → Below A.heap.size A B → J i B)
    (hY : ∀ i W1, J i W1 → i < ls.length → YieldAt Fence.wide (n - 1) Tryz.prog l (tailV ls i) W1 fun e W' =>
      (e = .returned (.bool true) ∧ J (i + 1) W' ∧ Keeps lo W1 W') ∨ (e = .returned (.bool false) ∧ Jx (i + 1) W'))
    (W : World) (hB : Has W bx 23 #[.string s]) (hlo : lo ≤ bx) (h0 : J 0 W) :
    CallsIn Fence.wide n Tryz.prog 92 #[.func (.yield l) #[] #[], .pointer (some ⟨bx, 0, none⟩)] W fun e W' => (∃ v, e = .returned v) ∧ (J ls.length W' ∨ ∃ i, Jx i W') := by
  obtain ⟨hgl, hg, h255⟩ := Nm.split_some.1 hs
  have hsz : s.size = (Nm.glue ls).length := by rw [← hgl]; simp
  have hbl := Nm.glue_length ls
  have hs255 : s.size ≤ 255 := by rw [hsz, ← hgl]; exact h255
  have hfew := few hs
  have hlab := Labels_any s W (by omega)
  unfold labelsOf at hlab
  rw [hs, Option.getD_some] at hlab
  have hcB : W.cell? ⟨bx, 0, none⟩ = some (.string s) := by rw [hB.cell]; rfl
  have hbx := hB.lt
  have HL := Lib.hid hlab
  have HG := Lib.hid hgl
  have HSZ := Lib.hid hsz
  have HGL := Lib.hid hbl
  have HH := Lib.hid hB
  clear hlab hgl hs hg h255 hsz hbl hB
  refine callsIn_of_wp Tryz.func92 rfl trivial ?_ rfl
  simp only [Tryz.ntmps92, List.size_toArray, List.length_cons, List.length_nil, Nat.reduceAdd, Nat.reduceSub, Array.replicate_succ, Array.replicate_zero, List.push_toArray, List.append_toArray, List.nil_append, List.cons_append]
  gi_wp2_with (refine ⟨trivial, ?_⟩; gi_at_call 29; refine (callsIn_wide.2 HL.out).mono ?_; rintro e w2 ⟨v2, rfl, O2, B2⟩; obtain ⟨A2, c2, rfl⟩ := own_form O2)
  have HO := Lib.hid O2
  have HB2 := Lib.hid B2
  have hb2 := B2.size
  have hJ2 := hJ 0 W w2 h0 B2
  have HJ2 := Lib.hid hJ2
  have HH2 := Lib.hid (HH.out.below B2 hbx)
  clear O2 B2 hJ2 h0
  gi_loopw [3, 9] (fun a i wr => ∃ k : Nat, k ≤ ls.length ∧ i = .int .i64 k ∧ a = .int .i64 ((Nm.body (ls.take k)).length : Nat) ∧ J k wr ∧ Keeps lo w2 wr) (fun _ i _ => ls.length - (intOf i).toNat)
  case atStart => exact ⟨0, Nat.zero_le _, rfl, rfl, HJ2.out, Keeps.refl _ _⟩
  case round =>
    obtain ⟨k, hk, rfl, rfl, hJs, hkp⟩ := hrel
    have HK := Lib.hid hkp
    have HJS := Lib.hid hJs
    clear hkp hJs
    by_cases hlt : k < ls.length
    · obtain ⟨gL, rfl, hcap, hcell⟩ := own_at HO.out hlt
      obtain ⟨gx, hgx, hg1⟩ : ∃ g, (some (⟨gL, 0, none⟩ : Addr)) = some ⟨g, 0, none⟩ ∧ W.heap.size ≤ g := by
        rcases own_pos HO.out (by omega) with ⟨g, cp, hv, _, hg1, _⟩
        injection hv with hv
        exact ⟨g, hv, hg1⟩
      injection hgx with hgx
      injection hgx with hgx
      subst hgx
      have hc1 : wr.cell? ⟨gL, k, none⟩ = some (sv (ls[k]'hlt)) := HK.out.cell (by show lo ≤ gL; omega) (hcell k (sv (ls[k]'hlt)) (by simp [svs, hlt]))
      have hc2 : wr.cell? ⟨bx, 0, none⟩ = some (.string s) := HK.out.cell hlo (by rw [HH2.out.cell]; rfl)
      have hY2 := hY k wr HJS.out hlt
      have htv : tailV ls k = #[.int .i64 ((Nm.body (ls.take k)).length : Nat), .string (s.extract (Nm.body (ls.take k)).length s.size)] := by unfold tailV; rw [tail_cut HG.out]
      rw [htv] at hY2
      obtain ⟨fn, tmps, assign, body, hy, hR⟩ := hY2
      have hts := Nm.take_succ_body hlt
      have hle := Nm.body_take_le (ls := ls) (i := k + 1)
      have hle2 : (Nm.body (ls.take k)).length ≤ s.size := by have := HSZ.out; have := HGL.out; omega
      have hle3 : (Nm.body (ls.take k)).length + 1 + (ls[k]'hlt).length ≤ 255 := by have := HSZ.out; have := HGL.out; omega
      have HTS := Lib.hid hts
      clear hcell hts hle htv
      generalize hll : (ls[k]'hlt) = lk at *
      have HLL := Lib.hid hll
      clear hll
      generalize (Nm.body (ls.take k)).length = z at *
      gi_wp2
      refine hR.mono ?_
      rintro e W3 (⟨rfl, hJ3, hk3⟩ | ⟨rfl, hJx3⟩)
      · have HK3 := Lib.hid hk3
        have HJ3 := Lib.hid hJ3
        clear hk3 hJ3
        gi_wp2
        go_roundw
        case rel => exact ⟨k + 1, by omega, by go_num, by rw [HTS.out]; exact congrArg (Value.int .i64) (by omega), HJ3.out, HK.out.trans HK3.out⟩
        case measure => simp [intOf]; omega
      · gi_wp2
        refine bodyPost_ret (results_none rfl _ _ _) rfl ?_
        exact ⟨⟨_, rfl⟩, .inr ⟨_, hJx3⟩⟩
    · obtain rfl : k = ls.length := by omega
      gi_wp2
      go_end0
      exact ⟨⟨_, rfl⟩, .inl HJS.out⟩

/-- the contract of what tails hands back. -/
theorem tails_seq (n : Nat) (hn : 1 ≤ n) (bx lo : Nat) (s : ByteArray) (ls : List (List UInt8)) (hs : Nm.split s.data.toList = some ls) (w : World) (hB : Has w bx 23 #[.string s]) (hlo : lo ≤ bx) :
    SeqN Fence.wide n Tryz.prog 92 #[.pointer (some ⟨bx, 0, none⟩)] (tailV ls) lo ls.length w := fun l J Jx W hW hJ hY h0 =>
  tails1_in n hn l bx lo s ls hs J Jx hJ hY W (hB.below hW hB.lt) hlo h0
end Go.Proofs.YtopcklpmeaghmaaGreatDoor
