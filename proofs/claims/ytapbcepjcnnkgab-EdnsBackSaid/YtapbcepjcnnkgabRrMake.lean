/- make of structs. Nothing of the program. -/
import Derived.Test.YtapbcepjcnnkgabRrRow
namespace Go.Proofs.Ytapbcepjcnnkgab
open Go.RowKit Go.Sort Go.Shelf

theorem made_flat {α : Type} [Inhabited α] {enc : α → List Value} {k : Nat} (hk : ∀ x, (enc x).length = k) (z : α) (m : Nat) : madeCells (enc z).toArray (m * k) = flatK enc k (Array.replicate m z) := by
  unfold madeCells flatK
  rw [Array.size_replicate]
  apply Array.ext
  · simp
  · intro t h1 h2
    have ht : t < m * k := by simpa using h1
    have h0 : 0 < k := by
      rcases Nat.eq_zero_or_pos k with h | h
      · subst h; simp at ht
      · exact h
    have hi : t / k < m := Nat.div_lt_of_lt_mul (by rw [Nat.mul_comm]; exact ht)
    have hm : t % k < (enc z).length := by rw [hk]; exact Nat.mod_lt _ h0
    have e1 : (Array.replicate m z)[t / k]! = z := by rw [getElem!_pos _ _ (by simpa using hi)]; simp
    have hsz : (enc z).toArray.size = k := by simp [hk]
    simp only [Array.getElem_map, Array.getElem_range, e1, hsz]
    rw [getElem!_pos (enc z) (t % k) hm, getElem!_pos (enc z).toArray (t % k) (by simpa using hm)]
    simp
/-- make of structs, a length and a capacity. -/
theorem wpList_make_structs {α : Type} [Inhabited α] {enc : α → List Value} {k : Nat} {P : Program} {w : World} {ops : Array Oper} {rest : List Oper} {o : Oper} {a : Act} {Q : Exit → Act → World → Prop}
    (hg : o.guard = none) (l c : Operand) (t : TypeId) (hop : o.op = Op.makeSlice t l c) (hk : ∀ x, (enc x).length = k) (z : α)
    (e : TypeId) (i : TypeInfo) (zv : Value) (bytes : Nat) (h1 : P.underlying t = some (.slice e)) (h2 : P.info? e = some i) (h3 : i.zero = some zv) (hzc : zv.cells = (enc z).toArray) (h4 : i.size = k) (h5 : i.bytes = bytes)
    (kl kc : IntKind) (L C : Int) (n m : Nat) (hl : a.eval l = .int kl L) (hc : a.eval c = .int kc C) (hL : L = (n : Int)) (hC : C = (m : Int)) (hnm : n ≤ m) (hm : m ≤ 9223372036854775807) (b3 : bytes * m ≤ 281474976710656)
    (hK : ∀ w', Has w' w.heap.size e (flatK enc k (Array.replicate m z)) → Below w.heap.size w w' → w'.heap.size = w.heap.size + 1 → wpList P ops Q rest (a.put o.dst (.slice (some ⟨w.heap.size, 0, none⟩) n m)) w') :
    wpList P ops Q (o :: rest) a w := by
  refine wpList_plain hg fun K hK' => ?_
  have hrun := run_make (P := P) w t e i zv h1 h2 h3 kl kc n m (by omega) (by omega) (by rw [h5, ← Int.natCast_mul]; omega) (by omega)
  subst hL hC
  unfold Oper.wp
  simp [execOp, hop, hl, hc, hrun, Result.andThen]
  refine hK' _ _ (hK _ ?_ ((Below.refl _ _).alloc (Nat.le_refl _) _) (by simp))
  rw [h4, hzc, made_flat hk z m]
  exact Has.fresh w e _
end Go.Proofs.Ytapbcepjcnnkgab
