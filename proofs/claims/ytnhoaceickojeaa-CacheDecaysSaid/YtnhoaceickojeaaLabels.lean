/- A name's labels, how many, whether it is one: the program's answers. -/
import Derived.Test.YtnhoaceickojeaaMarks
namespace Go.Proofs.Ytnhoaceickojeaa
open Go.RowKit

theorem marks_none (s : ByteArray) (w : World) (hs : s.size ≤ 140737488355328) (h : Nm.split s.data.toList = none) :
    Calls Try.prog 51 #[.string s] w fun e w' => e = .returned (.tuple #[.agg (mkc [] 0), .bool false]) ∧ Below w.heap.size w w' :=
  (marksOf_any s w hs).mono fun _ _ ⟨he, hb⟩ => ⟨by rw [he, marksR_none h], hb⟩
theorem marks_some (s : ByteArray) (ls : List (List UInt8)) (w : World) (hs : s.size ≤ 140737488355328) (h : Nm.split s.data.toList = some ls) :
    Calls Try.prog 51 #[.string s] w fun e w' => e = .returned (.tuple #[.agg (marksV ls), .bool true]) ∧ Below w.heap.size w w' :=
  (marksOf_any s w hs).mono fun _ _ ⟨he, hb⟩ => ⟨by rw [he, marksR_some h], hb⟩
theorem few {l : List UInt8} {ls : List (List UInt8)} (h : Nm.split l = some ls) : ls.length ≤ 127 := by
  obtain ⟨hl, hg, h255⟩ := Nm.split_some.1 h
  have := Nm.good_count hg
  have := Nm.glue_length ls
  rw [hl] at h255
  omega

/-- what is in a new block of marks behind the store of these. -/
theorem marks_stored {w w1 : World} {os : List Nat} {c : Nat} (hb : Below w.heap.size w w1) :
    Has ((w1.alloc (.cells Try.zeroCells102 102)).setRow w1.heap.size (mkc os c)) w1.heap.size 102 (mkc os c) ∧ Below w.heap.size w ((w1.alloc (.cells Try.zeroCells102 102)).setRow w1.heap.size (mkc os c)) :=
  ⟨(Has.fresh w1 _ _).row _, below_setRow (hb.alloc hb.size _) hb.size _⟩

set_option maxRecDepth 100000 in
theorem Check_any (s : ByteArray) (w : World) (hs : s.size ≤ 140737488355328) :
    Calls Try.prog 31 #[.string s] w fun e w' => e = .returned (.int .i64 (if (Nm.split s.data.toList).isSome then 0 else 11)) ∧ Below w.heap.size w w' := by
  have HZ : ∀ w1 : World, Hid (Has (w1.alloc (.cells Try.zeroCells102 102)) w1.heap.size 102 Try.zeroCells102) := fun w1 => Has.fresh w1 _ _
  rcases hn : Nm.split s.data.toList with _ | ls
  · have hm := Lib.hid (marks_none s w hs hn)
    have HI := Lib.hid (markInfo (os := []) 0 (by simp))
    clear hn
    go_enter Try.func31, Try.ntmps31
    go_wp2_with (first | (go_at_call 51; refine hm.out.mono ?_; rintro e w1 ⟨rfl, hb1⟩) | (refine wpList_store_row rfl 102 (.tmp 3) (.tmp 8) rfl w1.heap.size (mkc [] 0) rfl rfl 102 Try.zeroCells102 (HZ w1).out HI.out zeroMarks_size.symm (mkc_one _ _) ?_))
    go_ret
    exact ⟨rfl, (marks_stored hb1).2⟩
  · have hm := Lib.hid (marks_some s ls w hs hn)
    have ho : (Nm.offs ls).length ≤ 128 := by rw [Nm.offs_length]; have := few hn; omega
    have HI : Hid ((Try.prog.info? 102).map (·.size) = some (marksV ls).size) := markInfo (os := Nm.offs ls) ls.length ho
    have HO : Hid (Try.zeroCells102.size = (marksV ls).size) := by rw [Hid, ← zeroMarks_size, mkc_size _ (by simp), marksV, mkc_size _ ho]
    clear hn
    go_enter Try.func31, Try.ntmps31
    go_wp2_with (first | (go_at_call 51; refine hm.out.mono ?_; rintro e w1 ⟨rfl, hb1⟩) | (refine wpList_store_row rfl 102 (.tmp 3) (.tmp 8) rfl w1.heap.size (marksV ls) rfl rfl 102 Try.zeroCells102 (HZ w1).out HI.out HO.out (mkc_one _ _) ?_))
    go_ret
    exact ⟨rfl, (marks_stored hb1).2⟩

/-- its labels; none of what is no name. -/
def labelsOf (l : List UInt8) : List (List UInt8) := (Nm.split l).getD []

end Go.Proofs.Ytnhoaceickojeaa
