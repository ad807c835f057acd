/- What a card's row asks besides: the listed variables. -/
import Derived.Test.YtgmemngfkajnbaaDoorShut
import Derived.Test.YtgmemngfkajnbaaDoorWakes
import Derived.Test.YtgmemngfkajnbaaDoorCards
import Derived.Test.YtgmemngfkajnbaaDoorTie
import Derived.LaidMore
import Derived.Stop.LaidErr
import Derived.LaidSub
namespace Go.Proofs.YtgmemngfkajnbaaDoor
open Go.ChangeShapes Go.WideShapes Go.ChangeAt Go.RowKit

theorem star : "*" ++ "errors.errorString" = "*errors.errorString" := by decide
theorem rowErr (u : TypeId) (h : Tryd.prog.typeName? 3 u = some "*errors.errorString") : u = 71 :=
  typeName_ptr_named (nm := "errors.errorString") (by rw [star]; kernel_rfl) (by kernel_rfl) (by decide) u (by rw [star]; exact h)
end Go.Proofs.YtgmemngfkajnbaaDoor
