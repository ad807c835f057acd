/- A great zero value's cells, as a constant of their own: for a seat that has no such facts. -/
import Derived.Test.YtfekmolgiohegaaRows
import Derived.WalkKit
namespace Go.Proofs.Ytfekmolgiohegaa
open Go Go.RowKit
def Try.zeroCells68 : Array Value := (List.replicate 128 (Value.int .u8 0) ++ [Value.int .i64 0]).toArray
theorem Try.zeroValueMarks (w : World) : (zeroValue 68).run Try.prog w = .ok (.agg Try.zeroCells68) w := by kernel_rfl
theorem Try.zeroCells68_size : Try.zeroCells68.size = 129 := by kernel_rfl
theorem Try.zeroCells68_ne : Try.zeroCells68 ≠ #[] := by
  intro e
  have := Try.zeroCells68_size
  rw [e] at this
  cases this
attribute [simp] Try.zeroValueMarks Try.zeroCells68_size
attribute [simp] Try.zeroCells68_ne
end Go.Proofs.Ytfekmolgiohegaa
