/- A name's labels, how many, whether it is one: the program's answers. -/
import Derived.Test.YtgmemngfkajnbaaDoorMarks
namespace Go.Proofs.YtgmemngfkajnbaaDoor
open Go.RowKit

theorem few {l : List UInt8} {ls : List (List UInt8)} (h : Nm.split l = some ls) : ls.length ≤ 127 := by
  obtain ⟨hl, hg, h255⟩ := Nm.split_some.1 h
  have := Nm.good_count hg
  have := Nm.glue_length ls
  rw [hl] at h255
  omega

/-- its labels; none of what is no name. -/
def labelsOf (l : List UInt8) : List (List UInt8) := (Nm.split l).getD []

end Go.Proofs.YtgmemngfkajnbaaDoor
