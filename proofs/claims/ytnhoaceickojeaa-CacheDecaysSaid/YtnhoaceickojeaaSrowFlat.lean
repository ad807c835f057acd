/- All cells of a read-only row of structs. Nothing of the program. -/
import Derived.Test.YtnhoaceickojeaaRowK
import Derived.Test.YtnhoaceickojeaaRrOpen
namespace Go.Proofs.Ytnhoaceickojeaa
open Go.RowKit

theorem srow_flat {α : Type} {enc : α → List Value} {k : Nat} (hk : ∀ x, (enc x).length = k) {w : World} {lo hi g o : Nat} {xs : List α} (h : Srow enc k w lo hi (some ⟨g, o, none⟩) xs) :
    ∀ j u, (fl enc xs)[j]? = some u → w.cell? ((⟨g, o, none⟩ : Addr).add j) = some u := fun j u hu => by
  have hj : j < xs.length * k := by rw [← fl_len hk]; exact (List.getElem?_eq_some_iff.1 hu).1
  have h0 : 0 < k := by
    rcases Nat.eq_zero_or_pos k with h | h
    · subst h; simp at hj
    · exact h
  have hi' : j / k < xs.length := Nat.div_lt_of_lt_mul (by rw [Nat.mul_comm]; exact hj)
  have hm : j % k < k := Nat.mod_lt _ h0
  have e : j / k * k + j % k = j := by rw [Nat.mul_comm]; exact Nat.div_add_mod j k
  have h1 := fl_get hk xs hi' hm
  rw [e, hu] at h1
  obtain ⟨g', o', hA, _, _, hc⟩ := h (Nat.zero_lt_of_lt hi')
  injection hA with hA
  injection hA with e1 e2 _
  subst e1 e2
  have := hc (j / k) hi' (j % k) u h1.symm
  rw [addr_add, ← e, ← Nat.add_assoc]
  rw [Nat.add_assoc] at this ⊢
  exact this
theorem rcl_flat_one (xs : List Rv) : ∀ u ∈ fl rcl xs, u.oneCell' = true := fun u hu => by
  obtain ⟨x, _, hx⟩ := List.mem_flatMap.1 hu
  exact rcl_one x u hx
end Go.Proofs.Ytnhoaceickojeaa
