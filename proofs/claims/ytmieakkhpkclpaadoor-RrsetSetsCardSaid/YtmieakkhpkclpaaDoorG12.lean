/- Texts of the proofs, merged. -/
import Derived.Test.YtmieakkhpkclpaaDoorG2
import Derived.RegionTactic
import Derived.ChangeAlike
import Derived.BigRegion
/- Glue, Of, Labels: the document's answers that make names of labels. -/
namespace Go.Proofs.YtmieakkhpkclpaaDoor
open Go.RowKit

theorem body_snoc (a : List (List UInt8)) (l : List UInt8) : Nm.body (a ++ [l]) = Nm.body a ++ Nm.lab l := by rw [Nm.body_append]; simp [Nm.body]

theorem body_len {ls : List (List UInt8)} (h : ∀ l ∈ ls, l.length ≤ 255) : (Nm.body ls).length ≤ 256 * ls.length := by
  induction ls with
  | nil => simp [Nm.body]
  | cons a ls ih =>
    have := ih (fun x hx => h x (by simp [hx]))
    have := h a (by simp)
    rw [Nm.body_cons, List.length_append, Nm.lab_length, List.length_cons]; omega

end Go.Proofs.YtmieakkhpkclpaaDoor
