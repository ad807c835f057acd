/- Structs loaded and stored: the world behind it is a letter. Nothing of the program. -/
import Derived.Test.YtapbcepjcnnkgabRrMake
import Derived.Test.YtapbcepjcnnkgabRrApp
namespace Go.Proofs.Ytapbcepjcnnkgab
open Go.RowKit Go.Sort Go.Shelf

section
variable {P : Program} {w : World} {ops : Array Oper} {rest : List Oper} {op : Oper} {a : Act} {Q : Exit → Act → World → Prop}
/-- a variable of its own is laid and given its struct. -/
theorem wpList_store_boxed (hgd : op.guard = none) (ty : TypeId) (x y : Operand) (ho : op.op = .store ty x y) (t : TypeId) (z cells : Array Value)
    (hx : a.eval x = .pointer (some ⟨w.heap.size, 0, none⟩)) (hy : a.eval y = .agg cells) (hi : (P.info? ty).map (·.size) = some cells.size) (hold : z.size = cells.size) (h1 : cells.all (·.oneCell') = true)
    (h : ∀ w2, Has w2 w.heap.size t cells → w.grownBy w2 none → w2.heap.size = w.heap.size + 1 → wpList P ops Q rest (a.put op.dst undef) w2) : wpList P ops Q (op :: rest) a (w.alloc (.cells z t)) := by
  have hF := Has.fresh w t z
  refine wpList_store_row hgd ty x y ho w.heap.size cells hx hy t z hF hi hold h1 ?_
  refine h _ (hF.row cells) ⟨rfl, rfl, rfl, by simp, fun k hk _ => ?_⟩ (by simp)
  rw [setRow_other _ _ _ _ (by omega)]
  exact heap_alloc_old w _ hk
/-- an element of a row is given its struct. -/
theorem wpList_store_elem {α : Type} [Inhabited α] {enc : α → List Value} {k : Nat} (hgd : op.guard = none) (ty : TypeId) (x y : Operand) (ho : op.op = .store ty x y) (hk : ∀ x, (enc x).length = k) (hone : ∀ x, ∀ v ∈ enc x, v.oneCell' = true)
    (g i : Nat) (t : TypeId) (d : Array α) (v : α) (hX : Has w g t (flatK enc k d)) (hid : i < d.size)
    (hx : a.eval x = .pointer (some ⟨g, i * k, none⟩)) (hy : a.eval y = .agg (enc v).toArray) (hi : (P.info? ty).map (·.size) = some k)
    (h : ∀ w2, Has w2 g t (flatK enc k (d.setIfInBounds i v)) → w.grownBy w2 (some g) → w2.heap.size = w.heap.size → wpList P ops Q rest (a.put op.dst undef) w2) : wpList P ops Q (op :: rest) a w := by
  refine wpList_store_mid hgd ty x y ho g (i * k) (enc v).toArray hx hy (by rw [List.size_toArray, hk]; exact row_there hk hX hid) (by rw [List.size_toArray, hk]; exact hi) (all_oneCell_toArray (hone v)) ?_
  rw [List.toList_toArray, row_store hk hX hid v]
  refine h _ (hX.row _) ⟨rfl, rfl, rfl, by simp, fun j _ hne => setRow_other _ _ _ _ (fun e => hne (by rw [e]))⟩ (by simp)
end
theorem Srow.grown {α : Type} {enc : α → List Value} {k : Nat} {w w' : World} {lo hi : Nat} {A : Option Addr} {xs : List α} {row : Option Nat} (h : Srow enc k w lo hi A xs) (hg : w.grownBy w' row) (hn : ∀ g, row = some g → g < lo ∨ hi ≤ g) : Srow enc k w' lo hi A xs := fun h0 => by
  obtain ⟨g, o, rfl, h1, h2, hc⟩ := h h0
  refine ⟨g, o, rfl, h1, h2, fun j hj i u hu => ?_⟩
  exact hg.cell (hc j hj i u hu) (fun e => by have := hn g e.symm; omega)
theorem grown_none {w w2 : World} (h : w.grownBy w2 none) {B : Nat} {a : World} (hb : Below B a w) (hB : B ≤ w.heap.size) : Below B a w2 := hb.grown h hB (fun k e => by cases e)
end Go.Proofs.Ytapbcepjcnnkgab
