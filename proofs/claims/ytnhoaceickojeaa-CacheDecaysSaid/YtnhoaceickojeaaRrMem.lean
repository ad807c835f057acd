/- Slices of structs as they lie in memory: read only, or a row of the call's own. Nothing of the program. -/
import Derived.Test.YtnhoaceickojeaaMem
import Derived.Deep.MidRow
namespace Go.Proofs.Ytnhoaceickojeaa
open Go.RowKit

/-- structs of k cells that stand from a slice's head on, in a block from lo on and below hi. -/
def Srow {α : Type} (enc : α → List Value) (k : Nat) (w : World) (lo hi : Nat) (A : Option Addr) (xs : List α) : Prop :=
  0 < xs.length → ∃ g o, A = some ⟨g, o, none⟩ ∧ lo ≤ g ∧ g < hi ∧ ∀ j (h : j < xs.length), w.rangeAt g (o + j * k) (enc xs[j])
theorem range_below {B : Nat} {w w' : World} (hb : Below B w w') {g o : Nat} (hg : g < B) {vs : List Value} (h : w.rangeAt g o vs) : w'.rangeAt g o vs := fun j v hj => by
  have := h j v hj
  first
    | exact (hb.cell (p := ⟨g, o + j, none⟩) hg).trans this
    | (rw [← this]; exact hb.cell (p := ⟨g, o + j, none⟩) hg)
section
variable {α : Type} {enc : α → List Value} {k : Nat} {w w' : World} {lo hi lo' hi' : Nat} {A : Option Addr} {xs : List α}
theorem Srow.nil : Srow enc k w lo hi A [] := fun h => absurd h (by simp)
theorem Srow.keep (h : Srow enc k w lo hi A xs) (hb : Below hi w w') : Srow enc k w' lo hi A xs := fun h0 => by
  obtain ⟨g, o, rfl, hlo, hhi, hc⟩ := h h0
  exact ⟨g, o, rfl, hlo, hhi, fun j hj => range_below hb hhi (hc j hj)⟩
theorem Srow.more (h : Srow enc k w lo hi A xs) (h1 : lo' ≤ lo) (h2 : hi ≤ hi') : Srow enc k w lo' hi' A xs := fun h0 => by
  obtain ⟨g, o, rfl, hlo, hhi, hc⟩ := h h0
  exact ⟨g, o, rfl, by omega, by omega, hc⟩
theorem Srow.at_ (h : Srow enc k w lo hi A xs) {j : Nat} (hj : j < xs.length) : ∃ g o, A = some ⟨g, o, none⟩ ∧ lo ≤ g ∧ g < hi ∧ w.rangeAt g (o + j * k) (enc xs[j]) := by
  obtain ⟨g, o, rfl, hlo, hhi, hc⟩ := h (by omega)
  exact ⟨g, o, rfl, hlo, hhi, hc j hj⟩
end
theorem Has.farCells {w : World} {g : Nat} {t : TypeId} {cs : Array Value} (h : Has w g t cs) {g' : Nat} (hp : g ≠ g') : ∀ (vs : List Value) (o : Nat), Has (w.setCells g' o vs) g t cs
  | [], _ => h
  | v :: r, o => by
    rw [World.setCells]
    exact Has.farCells (w := w.setCell ⟨g', o, none⟩ v) (h.far (p := ⟨g', o, none⟩) hp v) hp r (o + 1)
end Go.Proofs.Ytnhoaceickojeaa
