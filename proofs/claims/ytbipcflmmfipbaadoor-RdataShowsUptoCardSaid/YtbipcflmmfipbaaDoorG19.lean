/- Texts of the proofs, merged. -/
import Derived.Test.YtbipcflmmfipbaaDoorG15
import Derived.Test.YtbipcflmmfipbaaDoorG12
import Derived.Test.YtbipcflmmfipbaaDoorG4
import Derived.Test.YtbipcflmmfipbaaDoorG7
/- The document's answer on data: Put. -/
namespace Go.Proofs.YtbipcflmmfipbaaDoor
open Go.RowKit

namespace Rd
/-- the bytes that data of a type come to, at a place; hl and ml: the labels of its names. -/
def put (T : Tab) (a t : Nat) (d : Dt) (hl ml : List By) : Tab × By :=
  if t = 2 ∨ t = 5 ∨ t = 12 then Pr.pw false T a hl
  else if t = 15 then ((Pr.pw false T (a + 2) hl).1, Oc.beb 2 d.n0 ++ (Pr.pw false T (a + 2) hl).2)
  else if t = 33 then ((Pr.pw true T (a + 6) hl).1, Oc.beb 2 d.n0 ++ (Oc.beb 2 d.n1 ++ (Oc.beb 2 d.n2 ++ (Pr.pw true T (a + 6) hl).2)))
  else if t = 6 then ((Pr.pw false (Pr.pw false T a hl).1 (a + (Pr.pw false T a hl).2.length) ml).1, (Pr.pw false T a hl).2 ++ ((Pr.pw false (Pr.pw false T a hl).1 (a + (Pr.pw false T a hl).2.length) ml).2 ++ (Oc.beb 4 d.n0 ++ (Oc.beb 4 d.n1 ++ (Oc.beb 4 d.n2 ++ (Oc.beb 4 d.n3 ++ Oc.beb 4 d.n4))))))
  else (T, d.raw)
end Rd
theorem own_nilA {w : World} {b n c : Nat} {e : TypeId} {A : Option Addr} {xs : List Value} (h : w.ownsRow b e 1 (.slice A n c) n xs) (hA : A = none) : c = 0 := by
  subst hA
  rcases h.2 with ⟨hv, _⟩ | ⟨g, cap, cur, hv, _⟩
  · injection hv
  · injection hv with h1; cases h1
section
variable {w W : World} {g base : Nat} {T : Tab} {d : Dv} {l : List UInt8} {n c : Nat} {A : Option Addr}
end
end Go.Proofs.YtbipcflmmfipbaaDoor
/- What the parts of data come to: the document's bytes. Nothing of the program. -/
namespace Go.Proofs.YtbipcflmmfipbaaDoor.Rd

theorem wrs_put (T : Tab) (l : By) (t : Nat) (d : Dt) (hl ml : List By) : (wrs T l d hl ml (parts t)).1 = (put T l.length t d hl ml).1 ∧ (wrs T l d hl ml (parts t)).2.1 = l ++ (put T l.length t d hl ml).2 := by
  refine by_type (P := fun t => (wrs T l d hl ml (parts t)).1 = (put T l.length t d hl ml).1 ∧ (wrs T l d hl ml (parts t)).2.1 = l ++ (put T l.length t d hl ml).2) ?_ ?_ ?_ ?_ ?_ ?_ ?_ ?_ ?_ (fun t a b c e f g h i j => ?_) t
  all_goals first
    | (rw [parts_other a b c e f g h i j]; simp [wrs, wr1, put, hasN, b, c, e, f, g, j])
    | (simp [parts, wrs, wr1, put, hasN, Oc.beb_length, List.append_assoc])
theorem parts_some (t : Nat) : ∃ p ∈ parts t, p ≠ 0 := by
  refine by_type (P := fun t => ∃ p ∈ parts t, p ≠ 0) ?_ ?_ ?_ ?_ ?_ ?_ ?_ ?_ ?_ (fun t a b c d e f g h i => ?_) t
  all_goals first
    | (rw [parts_other a b c d e f g h i]; decide)
    | decide
end Go.Proofs.YtbipcflmmfipbaaDoor.Rd
