/- Last, Parent, Join, Wild: the program's answers. -/
import Derived.Test.YtpnfkgjcnofjnaaRefs2
namespace Go.Proofs.Ytpnfkgjcnofjnaa
open Go.RowKit

theorem glue_drop (ls : List (List UInt8)) (d : Nat) : (Nm.glue ls).drop (Nm.body (ls.take d)).length = Nm.glue (ls.drop d) := by
  have e : Nm.glue ls = Nm.body (ls.take d) ++ Nm.glue (ls.drop d) := by
    unfold Nm.glue; rw [← List.append_assoc, ← Nm.body_append, List.take_append_drop]
  rw [e, List.drop_left]

set_option maxHeartbeats 1000000 in
set_option maxRecDepth 100000 in
theorem Last_any (s : ByteArray) (k : Int) (w : World) (hs : s.size ≤ 140737488355328) :
    Calls Try.prog 62 #[.string s, .int .i64 k] w fun e w' => e = .returned (lastR s.data.toList k) ∧ Below w.heap.size w w' := by
  have HZ : ∀ w1 : World, Hid (Has (w1.alloc (.cells Try.zeroCells114 114)) w1.heap.size 114 Try.zeroCells114) := fun w1 => Has.fresh w1 _ _
  rcases hn : Nm.split s.data.toList with _ | ls
  · have hm := Lib.hid (marks_none s w hs hn)
    have HI := Lib.hid (markInfo (os := []) 0 (by simp))
    have HR : Hid (lastR s.data.toList k = no_) := by unfold lastR; rw [hn]; rfl
    clear hn
    go_enter Try.func62, Try.ntmps62
    go_wp2_with (first | (go_at_call 77; refine hm.out.mono ?_; rintro e w1 ⟨rfl, hb1⟩) | (refine wpList_store_row rfl 114 (.tmp 6) (.tmp 11) rfl w1.heap.size (mkc [] 0) rfl rfl 114 Try.zeroCells114 (HZ w1).out HI.out zeroMarks_size.symm (mkc_one _ _) ?_))
    go_ret2
    exact ⟨by rw [HR.out]; rfl, (marks_stored hb1).2⟩
  · have hm := Lib.hid (marks_some s ls w hs hn)
    have hfew := few hn
    have ho : (Nm.offs ls).length ≤ 128 := by rw [Nm.offs_length]; omega
    have HI : Hid ((Try.prog.info? 114).map (·.size) = some (marksV ls).size) := markInfo (os := Nm.offs ls) ls.length ho
    have HO : Hid (Try.zeroCells114.size = (marksV ls).size) := by rw [Hid, ← zeroMarks_size, mkc_size _ (by simp), marksV, mkc_size _ ho]
    have hc : ∀ w1 : World, ((w1.alloc (.cells Try.zeroCells114 114)).setRow w1.heap.size (marksV ls)).cell? ⟨w1.heap.size, 128, none⟩ = some (.int .i64 (ls.length : Nat)) := fun w1 => by
      rw [((Has.fresh w1 _ _).row _).cell]; exact mkc_count _ ho
    by_cases hk0 : k < 0
    · have HR : Hid (lastR s.data.toList k = no_) := by unfold lastR; rw [hn]; exact if_pos (.inl hk0)
      clear hn
      go_enter Try.func62, Try.ntmps62
      go_wp2_with (first | (go_at_call 77; refine hm.out.mono ?_; rintro e w1 ⟨rfl, hb1⟩) | (refine wpList_store_row rfl 114 (.tmp 6) (.tmp 11) rfl w1.heap.size (marksV ls) rfl rfl 114 Try.zeroCells114 (HZ w1).out HI.out HO.out (mkc_one _ _) ?_))
      go_ret2
      exact ⟨by rw [HR.out]; rfl, (marks_stored hb1).2⟩
    · obtain ⟨m, rfl⟩ := Int.eq_ofNat_of_zero_le (show 0 ≤ k by omega)
      by_cases hbig : ls.length < m
      · have HR : Hid (lastR s.data.toList (m : Nat) = no_) := by unfold lastR; rw [hn]; exact if_pos (.inr (by omega))
        clear hn
        go_enter Try.func62, Try.ntmps62
        go_wp2_with (first | (go_at_call 77; refine hm.out.mono ?_; rintro e w1 ⟨rfl, hb1⟩) | (refine wpList_store_row rfl 114 (.tmp 6) (.tmp 11) rfl w1.heap.size (marksV ls) rfl rfl 114 Try.zeroCells114 (HZ w1).out HI.out HO.out (mkc_one _ _) ?_))
        go_ret2
        exact ⟨by rw [HR.out]; rfl, (marks_stored hb1).2⟩
      · have hlm : m ≤ ls.length := by omega
        have HR : Hid (lastR s.data.toList (m : Nat) = yes_ (Nm.glue (ls.drop (ls.length - m)))) := by unfold lastR; rw [hn]; exact if_neg (by omega)
        have hbl : (Nm.body (ls.take (ls.length - m))).length ≤ s.size := by
          have h1 := (Nm.split_some.1 hn).1
          have h2 := Nm.body_take_le (ls := ls) (i := ls.length - m)
          have h3 := congrArg List.length h1
          rw [Nm.glue_length] at h3; simp at h3; omega
        have hb8 : (Nm.body (ls.take (ls.length - m))).length ≤ 255 := by
          have h3 := (Nm.split_some.1 hn).2.2
          simp at h3; omega
        have hcd : ∀ w1 : World, ((w1.alloc (.cells Try.zeroCells114 114)).setRow w1.heap.size (marksV ls)).cell? ⟨w1.heap.size, ls.length - m, none⟩ = some (.int .u8 ((Nm.body (ls.take (ls.length - m))).length : Nat)) := fun w1 => by
          rw [((Has.fresh w1 _ _).row _).cell]; exact mkc_at _ _ _ (Nm.offs_get ls _ (by omega))
        have HX : Hid (Value.string (s.extract (Nm.body (ls.take (ls.length - m))).length s.size) = sv (Nm.glue (ls.drop (ls.length - m)))) := by
          show _ = _
          rw [string_eq (extract_list s _ _), List.take_of_length_le (by simp), (Nm.split_some.1 hn).1, glue_drop]
        clear hn
        generalize (Nm.body (ls.take (ls.length - m))).length = o at *
        obtain ⟨d, hd⟩ : ∃ d, ls.length - m = d := ⟨_, rfl⟩
        rw [hd] at HR HX hcd
        have hd1 : ls.length = d + m := by omega
        clear hd
        go_enter Try.func62, Try.ntmps62
        go_wp2_with (first | (go_at_call 77; refine hm.out.mono ?_; rintro e w1 ⟨rfl, hb1⟩) | (refine wpList_store_row rfl 114 (.tmp 6) (.tmp 11) rfl w1.heap.size (marksV ls) rfl rfl 114 Try.zeroCells114 (HZ w1).out HI.out HO.out (mkc_one _ _) ?_))
        go_ret2
        refine ⟨?_, (marks_stored hb1).2⟩
        rw [HR.out]
        show Ending.returned (.tuple #[.string (s.extract o s.size), .bool true]) = _
        rw [HX.out]

theorem lastR_form (l : List UInt8) (k : Int) : ∃ x b, lastR l k = .tuple #[.string x, .bool b] := by
  unfold lastR
  split
  · exact ⟨_, _, rfl⟩
  · split <;> exact ⟨_, _, rfl⟩
theorem parent_last (l : List UInt8) : parentR l = lastR l ((labelsOf l).length - 1) := by
  unfold parentR lastR labelsOf
  rcases hn : Nm.split l with _ | ls
  · rfl
  · rcases ls with _ | ⟨a, r⟩
    · exact (if_pos (.inl (by simp))).symm
    · simp only [Option.getD_some]
      rw [if_neg (by simp only [List.length_cons]; omega)]
      have : (a :: r).length - (((a :: r).length : Int) - 1).toNat = 1 := by simp only [List.length_cons]; omega
      rw [this]; rfl

theorem joinR_form (f b : List UInt8) : ∃ x n, joinR f b = .tuple #[.string x, .int .i64 n] := by
  unfold joinR nameR
  split
  · split <;> exact ⟨_, _, rfl⟩
  · exact ⟨_, _, rfl⟩
end Go.Proofs.Ytpnfkgjcnofjnaa
