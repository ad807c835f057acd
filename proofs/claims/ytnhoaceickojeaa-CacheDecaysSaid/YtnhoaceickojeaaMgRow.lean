/- Rows of structs: a row that is read is appended to a row of the call's own; Grow and Concat of records. -/
import Derived.Test.YtnhoaceickojeaaRowK
import Derived.Test.YtnhoaceickojeaaRrMem
import Derived.Test.YtnhoaceickojeaaMsRows
import Derived.Test.YtnhoaceickojeaaRrOpen
import Derived.Lib.AppendZeros
namespace Go.Proofs.Ytnhoaceickojeaa
open Go.RowKit

section
variable {P : Program} {w : World} {α : Type} {enc : α → List Value} {k : Nat}
/-- A ROW THAT IS READ, behind a row of the call's own. -/
theorem run_append_row (hk : ∀ x, (enc x).length = k) (h0k : 0 < k) (h1 : ∀ x, ∀ u ∈ enc x, u.oneCell' = true) (base : Nat) (t ty e : TypeId) (i : TypeInfo) (z : Value) (bytes : Nat) (ht : P.underlying t = some (.slice e)) (hi : P.info? e = some i) (hz : i.zero = some z)
    (hsize : i.size = k) (hby : i.bytes = bytes) (hzs : z.cells.size = k) (v : Value) (xs : List α) (hown : Own enc k w base e v xs) (lo hi' : Nat) (A : Option Addr) (c : Nat) (ys : List α) (hS : Srow enc k w lo hi' A ys)
    (h63 : xs.length + ys.length ≤ maxLen) (hbytes : (xs.length + ys.length) * bytes ≤ 140737488355328) (hbase : base ≤ w.heap.size) :
    ∃ v' w', (Builtin.append_ #[t, t] ty #[v, .slice A ys.length c]).run P w = .ok v' w' ∧ Own enc k w' base e v' (xs ++ ys) ∧ w.grownBy w' v.ownBlock ∧ (v'.ownBlock = v.ownBlock ∨ v'.ownBlock = some w.heap.size) := by
  rcases Nat.eq_zero_or_pos ys.length with h0 | h0
  · obtain rfl := List.eq_nil_of_length_eq_zero h0
    refine ⟨v, w, ?_, by simpa using hown, World.grownBy.refl w _, .inl rfl⟩
    have hown' := hown
    unfold Own at hown'
    rcases hown'.2 with ⟨rfl, h2⟩ | ⟨g, cap, cur, rfl, _, _, hc, _⟩
    · rcases A with _ | b
      · simp [Builtin.append_, run_underlying ht, sizeOf, typeInfo, hi, Builtin.lenOf, Builtin.firstCells]
      · have hf := run_firstCells_some (P := P) w k 0 b 0 c [] (by simp) (by simp)
        simp [Builtin.append_, run_underlying ht, sizeOf, typeInfo, hi, hsize, Builtin.lenOf, hf]
    · rcases A with _ | b
      · simp [Builtin.append_, run_underlying ht, sizeOf, typeInfo, hi, Builtin.lenOf, Builtin.firstCells, hc, storeCells]
      · have hf := run_firstCells_some (P := P) w k 0 b 0 c [] (by simp) (by simp)
        simp [Builtin.append_, run_underlying ht, sizeOf, typeInfo, hi, hsize, Builtin.lenOf, hc, hf, storeCells]
  · obtain ⟨g, o, rfl, _, _, hc⟩ := hS h0
    obtain ⟨v', w', hr, h2, h3, h4⟩ := run_append_where (P := P) (w := w) base t ty e i z k bytes ht hi hz hsize hby hzs h0k v xs.length (fl enc xs) hown ⟨g, o, none⟩ ys.length c (fl enc ys) (fl_len hk ys) (fun j u hu => by
      have hj : j < ys.length * k := by rw [← fl_len hk ys]; exact (List.getElem?_eq_some_iff.1 hu).1
      have hd : j / k < ys.length := Nat.div_lt_of_lt_mul (by rw [Nat.mul_comm]; exact hj)
      have hm : j % k < k := Nat.mod_lt _ h0k
      have e : j / k * k + j % k = j := by rw [Nat.mul_comm]; exact Nat.div_add_mod j k
      have := hc (j / k) hd (j % k) u (by rw [← fl_get hk ys hd hm, e]; exact hu)
      rw [addr_add]
      rwa [Nat.add_assoc, e] at this) (fun u hu => by
      obtain ⟨r, hr, h⟩ := List.mem_flatMap.1 hu
      exact h1 r u h) h0 h63 hbytes hbase
    refine ⟨v', w', hr, ?_, h3, h4⟩
    unfold Own
    rw [fl_append, List.length_append]
    exact h2
end
end Go.Proofs.Ytnhoaceickojeaa
