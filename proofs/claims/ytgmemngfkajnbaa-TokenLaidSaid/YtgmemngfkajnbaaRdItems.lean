/- A slice of items that came in, nil or not: each with a number, a type and data. -/
import Derived.Test.YtgmemngfkajnbaaRdOpen
import Derived.Test.YtgmemngfkajnbaaItems
namespace Go.Proofs.Ytgmemngfkajnbaa
open Go.ChangeShapes Go.WideShapes Go.Deep Go.RowKit

structure DIt where
  skip : Int
  ty : Nat
  data : Dv
/-- items that stand from a slice's head on. -/
def DIts (w : World) (hi : Nat) (A : Option Addr) (its : List DIt) : Prop :=
  0 < its.length → ∃ g o, A = some ⟨g, o, none⟩ ∧ g < hi ∧ ∀ j (h : j < its.length), w.cell? ⟨g, o + j * 10, none⟩ = some (.int .i64 its[j].skip) ∧ w.cell? ⟨g, o + j * 10 + 1, none⟩ = some (.int .u16 its[j].ty) ∧ ∀ i, i < 8 → w.cell? ⟨g, o + j * 10 + 2 + i, none⟩ = its[j].data.cells[i]?
theorem DIts.keep {w w' : World} {hi : Nat} {A : Option Addr} {its : List DIt} (h : DIts w hi A its) (hb : Below hi w w') : DIts w' hi A its := fun h0 => by
  obtain ⟨g, o, hA, hg, hc⟩ := h h0
  exact ⟨g, o, hA, hg, fun j hj => ⟨(hb.cell hg).trans (hc j hj).1, (hb.cell hg).trans (hc j hj).2.1, fun i hi => (hb.cell hg).trans ((hc j hj).2.2 i hi)⟩⟩
theorem bulk_in {H : Type} {d : DataW H} : ∀ {x : List (DataW H)}, d ∈ x → Rows.uptoBulk d ≤ Rows.uptoBulkAll x
  | c :: r, hm => by
    rw [Rows.uptoBulkAll]
    rcases List.mem_cons.1 hm with rfl | hm
    · omega
    · have := bulk_in hm
      omega
theorem wf_u16i {x : Int} (h : (Lit.int .u16 x).wf = true) : ∃ n : Nat, x = n ∧ n ≤ 65535 := by
  have h1 : IntKind.u16.min = 0 := rfl
  have h2 : IntKind.u16.max = 65535 := rfl
  simp only [Lit.wf, Bool.and_eq_true, decide_eq_true_eq] at h
  exact ⟨x.toNat, by omega, by omega⟩
end Go.Proofs.Ytgmemngfkajnbaa
