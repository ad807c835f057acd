/- TokenKnown: its code, part by part. -/
import Derived.Test.YtgmemngfkajnbaaDoorTkKnD
import Derived.Test.YtgmemngfkajnbaaDoorTkVal
import Derived.Deep.CutRange
import Derived.Deep.CutBlock
import Derived.Test.YtgmemngfkajnbaaDoorRowK
import Derived.BigQuiet
namespace Go.Proofs.YtgmemngfkajnbaaDoor
open Go.RowKit

def dropSeq : Nat → Code → Option Code
  | 0, c => some c
  | n + 1, .seq _ c => dropSeq n c
  | _ + 1, _ => none
noncomputable def knBody : Code := match Tryd.f3.body with | some c => c | _ => .skip
theorem knLink {P : Program} {Q : Exit → Act → World → Prop} {a : Act} {w : World} {m : Nat} {R0 REST0 : Code} {K : Act → World → Prop} (h : ∃ R REST, dropSeq m knBody = some (Code.seq R REST) ∧ ∀ K : Act → World → Prop, (∀ a w', REST.wp P Q a w' → K a w') → R.wp P (Exit.then K Q) a w)
    (e0 : dropSeq m knBody = some (Code.seq R0 REST0)) (hK : ∀ a w', REST0.wp P Q a w' → K a w') : R0.wp P (Exit.then K Q) a w := by
  obtain ⟨R, REST, e, h⟩ := h
  have e1 := Option.some.inj (e0.symm.trans e)
  injection e1 with e2 e3
  subst e2 e3
  exact h K hK
theorem kn_bad (k : Nat) (h : k < bads.length) (W : World) : Calls Tryd.prog 4 #[.string bads[k].t] W fun e w' => Below W.heap.size W w' ∧ e = .returned (.tuple #[.slice none 0 0, .agg #[.int .i64 bads[k].l, .int .i64 bads[k].c], .int .i64 bads[k].e]) :=
  have hb := bads_tell bads[k] (List.getElem_mem h)
  entries_no W hb.2 hb.1
/-- a row of bytes that is being filled. -/
def filled (n k : Nat) : List UInt8 := List.replicate k 41 ++ List.replicate (n - k) 0
theorem filled_len {n k : Nat} (h : k ≤ n) : (filled n k).length = n := by simp [filled]; omega
theorem filled_zero (n : Nat) : filled n 0 = List.replicate n 0 := by simp [filled]
theorem filled_all (n : Nat) : filled n n = List.replicate n 41 := by simp [filled]
theorem filled_set {n k : Nat} (h : k < n) : (filled n k).set k 41 = filled n (k + 1) := by
  apply List.ext_getElem?
  intro j
  simp only [filled, List.getElem?_set, List.getElem?_append, List.getElem?_replicate, List.length_append, List.length_replicate]
  by_cases h1 : k = j
  · subst h1
    simp; omega
  · by_cases h2 : j < k
    · have h3 : j < k + 1 := by omega
      simp [h1, h2, h3]
    · have h3 : ¬ j < k + 1 := by omega
      simp only [if_neg h1, if_neg h2, if_neg h3]
      by_cases h4 : j < n
      · rw [if_pos (by omega), if_pos (by omega)]
      · rw [if_neg (by omega), if_neg (by omega)]
theorem bv_set (l : List UInt8) (k : Nat) (c : UInt8) : bv (l.set k c) = (bv l).set k (.int .u8 (c.toNat : Int)) := by simp [bv, List.map_set]
theorem spot_has {W w1 : World} (cs : Array Value) (hb : Below (w1.alloc (.cells cs 24)).heap.size (w1.alloc (.cells cs 24)) W) : Has W w1.heap.size 24 cs := (Has.fresh w1 _ _).below hb (by simp)

end Go.Proofs.YtgmemngfkajnbaaDoor
