/- Texts of the proofs, merged. -/
import Derived.Test.YtmieakkhpkclpaaDoorG20
import Derived.Test.YtmieakkhpkclpaaDoorG21
import Derived.Test.YtmieakkhpkclpaaDoorG22
import Derived.Test.YtmieakkhpkclpaaDoorG23
/- The map by keys, with its slices, as records are gathered. -/
namespace Go.Proofs.YtmieakkhpkclpaaDoor
open Go.RowKit Go.Sort Go.Shelf Go.WideMaps Go.MapKept
open Go.ChangeMaps (setBlock)

def pairs (E : List En) : List (Kv × Value) := E.map fun e => (e.k, e.v)
/-- the map's block, its slices' rows, all apart. -/
structure Gm (w : World) (m b0 : Nat) (E : List En) : Prop where
  mp : Mp w m (pairs E)
  own : ∀ e ∈ E, Own rcl 12 w b0 43 e.v e.rs
  apart : ∀ (i j : Nat) (a b : En), E[i]? = some a → E[j]? = some b → i ≠ j → Apart2 a.v b.v
  low : m < b0
theorem Gm.nil {w : World} {m b0 : Nat} (h : w.heap[m]? = some (.map #[] 0)) (hl : m < b0) : Gm w m b0 [] :=
  ⟨h, by simp, by simp, hl⟩
theorem Gm.keep {w w' : World} {m b0 : Nat} {E : List En} (h : Gm w m b0 E) (hg : w.grownBy w' none) : Gm w' m b0 E :=
  ⟨mp_kept h.mp hg (by simp), fun e he => (h.own e he).kept hg (by
    cases hv : e.v.ownBlock
    · exact .inl rfl
    · exact .inr (by simp)), h.apart, h.low⟩
theorem below_grown {w w' : World} (h : Below w.heap.size w w') : w.grownBy w' none := ⟨h.os, h.tape, h.output, h.size, fun k hk _ => h.block k hk⟩
theorem pairs_get (E : List En) (j : Nat) : (pairs E)[j]? = (E[j]?).map fun e => (e.k, e.v) := by simp [pairs]
set_option maxRecDepth 100000 in
/-- the entry of a key. -/
theorem gm_entry {w : World} {m b0 : Nat} {E : List En} {R : List Rv} (h : Gm w m b0 E) (hG : Gat R E) (hok : ∀ e ∈ E, e.k.ok) (k : Kv) (hk : k.ok) :
    ∃ (w' : World) (E1 : List En) (j : Nat) (e : En), (Instr.mapEntry 45 (.map (some m)) k.val).run Tryd.prog w = .ok (.tuple #[e.v, .int .i64 (j : Nat)]) w' ∧ Gat1 R E1 j k ∧ E1[j]? = some e ∧ Gm w' m b0 E1 ∧ (∀ x ∈ E1, x.k.ok) ∧ w.grownBy w' (some m) ∧ w'.heap.size = w.heap.size ∧ E1.length ≤ E.length + 1 := by
  have hL : ∀ p ∈ pairs E, p.1.ok := fun p hp => by
    obtain ⟨e, he, rfl⟩ := List.mem_map.1 hp
    exact hok e he
  rcases mp_entry h.mp hL k hk with ⟨j, v0, hj, hrun⟩ | ⟨hno, hrun⟩
  · rw [pairs_get] at hj
    obtain ⟨e, he, hek⟩ := Option.map_eq_some_iff.1 hj
    injection hek with h1 h2
    subst h1 h2
    exact ⟨w, E, j, e, hrun, hG.found he, he, h, hok, ⟨rfl, rfl, rfl, Nat.le_refl _, fun _ _ _ => rfl⟩, rfl, Nat.le_succ _⟩
  · have hno2 : ∀ e ∈ E, e.k ≠ k := fun e he => hno (e.k, e.v) (List.mem_map_of_mem he)
    obtain ⟨hm, hg⟩ := mp_laid h.mp (k, .slice none 0 0)
    have hp : pairs (E ++ [⟨k, .slice none 0 0, []⟩]) = pairs E ++ [(k, .slice none 0 0)] := by simp [pairs]
    have hlen : (pairs E).length = E.length := by simp [pairs]
    refine ⟨_, E ++ [⟨k, .slice none 0 0, []⟩], E.length, ⟨k, .slice none 0 0, []⟩, by rw [hrun, hlen], hG.laid hno2 _, by simp, ⟨?_, fun e he => ?_, fun i j a b ha hb hij => ?_, h.low⟩, fun x hx => ?_, by rw [hlen] at hg; exact hg, by simp [setBlock], by simp⟩
    · rw [hp]
      rw [hlen] at hm
      exact hm
    · rcases List.mem_append.1 he with he | he
      · have ho := h.own e he
        rw [hlen] at hg
        refine ho.kept hg ?_
        cases hv : e.v.ownBlock with
        | none => exact .inl rfl
        | some g => exact .inr (fun e' => by injection e' with e'; have := (ho.lt g hv).1; have := h.low; omega)
      · rw [List.mem_singleton.1 he]
        exact World.ownsRow_nil _ _ _ _
    · by_cases h1 : i < E.length
      · rw [List.getElem?_append_left h1] at ha
        by_cases h2 : j < E.length
        · rw [List.getElem?_append_left h2] at hb
          exact h.apart i j a b ha hb hij
        · have hj2 := (List.getElem?_eq_some_iff.1 hb).1
          rw [List.length_append, List.length_singleton] at hj2
          obtain rfl : j = E.length := by omega
          simp only [List.getElem?_concat_length, Option.some.injEq] at hb
          subst hb
          intro g _ e
          simp [Value.ownBlock] at e
      · have hi2 := (List.getElem?_eq_some_iff.1 ha).1
        rw [List.length_append, List.length_singleton] at hi2
        obtain rfl : i = E.length := by omega
        simp only [List.getElem?_concat_length, Option.some.injEq] at ha
        subst ha
        intro g e _
        simp [Value.ownBlock] at e
    · rcases List.mem_append.1 hx with hx | hx
      · exact hok x hx
      · rw [List.mem_singleton.1 hx]; exact hk
theorem set_same {E : List En} {j : Nat} {e : En} (he : E[j]? = some e) (e' : En) {i : Nat} : (E.set j e')[i]? = if j = i then some e' else E[i]? := by
  rw [List.getElem?_set]
  split
  · rename_i h
    subst h
    rw [if_pos (List.getElem?_eq_some_iff.1 he).1]
  · rfl
set_option maxRecDepth 100000 in
/-- the row that was appended to, stored. -/
theorem gm_store {w w2 : World} {m b0 : Nat} {E : List En} {j : Nat} {e : En} (h : Gm w m b0 E) (he : E[j]? = some e) (r : Rv) (v' : Value) (hown : Own rcl 12 w2 b0 43 v' (e.rs ++ [r])) (hg : w.grownBy w2 e.v.ownBlock) (hw : v'.ownBlock = e.v.ownBlock ∨ v'.ownBlock = some w.heap.size) :
    ∃ w3 : World, (Instr.entryStore 45 (.map (some m)) (.int .i64 (j : Nat)) v').run Tryd.prog w2 = .ok () w3 ∧ Gm w3 m b0 (E.set j ⟨e.k, v', e.rs ++ [r]⟩) ∧ w2.grownBy w3 (some m) ∧ w3.heap.size = w2.heap.size := by
  have hmem := List.mem_of_getElem? he
  have hoe := h.own e hmem
  have hjp : (pairs E)[j]? = some (e.k, e.v) := by rw [pairs_get, he]; rfl
  have hne : some m ≠ e.v.ownBlock := fun e' => by
    have := (hoe.lt m e'.symm).1
    have := h.low
    omega
  have hm2 : Mp w2 m (pairs E) := mp_kept h.mp hg hne
  have hrun := mp_store hm2 hjp v'
  obtain ⟨hm3, hg3⟩ := mp_stored hm2 (j := j) e.k v'
  have hp : pairs (E.set j ⟨e.k, v', e.rs ++ [r]⟩) = (pairs E).set j (e.k, v') := by simp [pairs, List.map_set]
  refine ⟨_, hrun, ⟨by rw [hp]; exact hm3, fun x hx => ?_, fun i i2 a b ha hb hij => ?_, h.low⟩, hg3, by simp [setBlock]⟩
  · obtain ⟨i, hi⟩ := List.mem_iff_getElem?.1 hx
    rw [set_same he] at hi
    have hkeep : ∀ {vv : Value} {n : Nat} {ys : List Value}, w2.ownsRow b0 43 12 vv n ys → (setBlock w2 m (.map (ents ((pairs E).set j (e.k, v'))) (pairs E).length)).ownsRow b0 43 12 vv n ys := fun {vv n ys} ho => ho.kept hg3 (by
      cases hv : vv.ownBlock with
      | none => exact .inl rfl
      | some g => exact .inr (fun e' => by injection e' with e'; have := (ho.lt g hv).1; have := h.low; omega))
    split at hi
    · rw [← Option.some.inj hi]
      exact hkeep hown
    · rename_i hne2
      have hox := h.own x (List.mem_of_getElem? hi)
      refine hkeep (hox.kept hg ?_)
      cases hv : x.v.ownBlock with
      | none => exact .inl rfl
      | some g => exact .inr (fun e' => h.apart i j x e hi he (fun e2 => hne2 e2.symm) g hv e'.symm)
  · rw [set_same he] at ha hb
    split at ha
    · split at hb
      · omega
      · rename_i h1 h2
        rw [← Option.some.inj ha]
        intro g e1 e2
        have hox := h.own b (List.mem_of_getElem? hb)
        rcases hw with hw | hw
        · exact h.apart j i2 e b he hb h2 g (hw ▸ e1) e2
        · have := (hox.lt g e2).2
          have e3 : v'.ownBlock = some g := e1
          rw [hw] at e3
          injection e3 with e3
          omega
    · split at hb
      · rename_i h1 h2
        rw [← Option.some.inj hb]
        intro g e1 e2
        have hox := h.own a (List.mem_of_getElem? ha)
        rcases hw with hw | hw
        · exact h.apart i j a e ha he (fun e4 => h1 e4.symm) g e1 (hw ▸ e2)
        · have := (hox.lt g e1).2
          have e3 : v'.ownBlock = some g := e2
          rw [hw] at e3
          injection e3 with e3
          omega
      · exact h.apart i i2 a b ha hb hij
end Go.Proofs.YtmieakkhpkclpaaDoor
/- The map's operations in a walk; a slice of one struct. Nothing of the program but the types. -/
namespace Go.Proofs.YtmieakkhpkclpaaDoor
open Go.RowKit Go.Sort Go.Shelf Go.WideMaps Go.MapKept

section
variable {P : Program} {w : World} {ops : Array Oper} {rest : List Oper} {o : Oper} {a : Act} {Q : Exit → Act → World → Prop}
theorem wpList_mapEntry (hgd : o.guard = none) (t : TypeId) (x y : Operand) (ho : o.op = .mapEntry t x y) (mv kv : Value) (hx : a.eval x = mv) (hy : a.eval y = kv) {R : Value → World → Prop} (hrun : ∃ v w', (Instr.mapEntry t mv kv).run P w = .ok v w' ∧ R v w')
    (h : ∀ v w', R v w' → wpList P ops Q rest (a.put o.dst v) w') : wpList P ops Q (o :: rest) a w := by
  refine wpList_plain hgd fun K hK => ?_
  obtain ⟨v, w', hr, h2⟩ := hrun
  unfold Oper.wp execOp
  simp only [ho, hx, hy, Sem.run_bind, Sem.run_pure, Result.andThen_ok, hr]
  exact hK _ _ (h v w' h2)
theorem wpList_entryStore (hgd : o.guard = none) (t : TypeId) (x s y : Operand) (ho : o.op = .entryStore t x s y) (mv sv yv : Value) (hx : a.eval x = mv) (hs : a.eval s = sv) (hy : a.eval y = yv) {R : World → Prop} (hrun : ∃ w', (Instr.entryStore t mv sv yv).run P w = .ok () w' ∧ R w')
    (h : ∀ w', R w' → wpList P ops Q rest (a.put o.dst undef) w') : wpList P ops Q (o :: rest) a w := by
  refine wpList_plain hgd fun K hK => ?_
  obtain ⟨w', hr, h2⟩ := hrun
  unfold Oper.wp execOp
  simp only [ho, hx, hs, hy, Sem.run_bind, Sem.run_pure, Result.andThen_ok, hr]
  exact hK _ _ (h w' h2)
theorem wpList_range (hgd : o.guard = none) (t : TypeId) (x : Operand) (ho : o.op = .range t x) (mv : Value) (hx : a.eval x = mv) {R : Value → World → Prop} (hrun : ∃ v w', (Instr.range t mv).run P w = .ok v w' ∧ R v w')
    (h : ∀ v w', R v w' → wpList P ops Q rest (a.put o.dst v) w') : wpList P ops Q (o :: rest) a w := by
  refine wpList_plain hgd fun K hK => ?_
  obtain ⟨v, w', hr, h2⟩ := hrun
  unfold Oper.wp execOp
  simp only [ho, hx, Sem.run_bind, Sem.run_pure, Result.andThen_ok, hr]
  exact hK _ _ (h v w' h2)
theorem wpList_next (hgd : o.guard = none) (x : Operand) (b : Bool) (ho : o.op = .next x b) (mv : Value) (hx : a.eval x = mv) {R : Value → World → Prop} (hrun : ∃ v w', (Instr.next mv b o.type).run P w = .ok v w' ∧ R v w')
    (h : ∀ v w', R v w' → wpList P ops Q rest (a.put o.dst v) w') : wpList P ops Q (o :: rest) a w := by
  refine wpList_plain hgd fun K hK => ?_
  obtain ⟨v, w', hr, h2⟩ := hrun
  unfold Oper.wp execOp
  simp only [ho, hx, Sem.run_bind, Sem.run_pure, Result.andThen_ok, hr]
  exact hK _ _ (h v w' h2)
theorem wpList_entry (hgd : o.guard = none) (x : Operand) (ho : o.op = .entry x) (mv : Value) (hx : a.eval x = mv) (v : Value) (hrun : (Instr.entry mv).run P w = .ok v w)
    (h : wpList P ops Q rest (a.put o.dst v) w) : wpList P ops Q (o :: rest) a w := by
  refine wpList_plain hgd fun K hK => ?_
  unfold Oper.wp execOp
  simp only [ho, hx, Sem.run_bind, Sem.run_pure, Result.andThen_ok, hrun]
  exact hK _ _ h
end
end Go.Proofs.YtmieakkhpkclpaaDoor
