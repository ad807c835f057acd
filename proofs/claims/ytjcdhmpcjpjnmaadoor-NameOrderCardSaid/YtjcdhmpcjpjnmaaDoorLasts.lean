/- Last, Parent, Join, Wild: the program's answers. -/
import Derived.Test.YtjcdhmpcjpjnmaaDoorRefs2
namespace Go.Proofs.YtjcdhmpcjpjnmaaDoor
open Go.RowKit

theorem glue_drop (ls : List (List UInt8)) (d : Nat) : (Nm.glue ls).drop (Nm.body (ls.take d)).length = Nm.glue (ls.drop d) := by
  have e : Nm.glue ls = Nm.body (ls.take d) ++ Nm.glue (ls.drop d) := by
    unfold Nm.glue; rw [← List.append_assoc, ← Nm.body_append, List.take_append_drop]
  rw [e, List.drop_left]

set_option maxHeartbeats 1000000 in
set_option maxRecDepth 100000 in
theorem Last_any (s : ByteArray) (k : Int) (w : World) (hs : s.size ≤ 140737488355328) :
    Calls Tryd.prog 25 #[.string s, .int .i64 k] w fun e w' => e = .returned (lastR s.data.toList k) ∧ Below w.heap.size w w' := by
  have HZ : ∀ w1 : World, Hid (Has (w1.alloc (.cells Tryd.zeroCells57 57)) w1.heap.size 57 Tryd.zeroCells57) := fun w1 => Has.fresh w1 _ _
  rcases hn : Nm.split s.data.toList with _ | ls
  · have hm := Lib.hid (marks_none s w hs hn)
    have HI := Lib.hid (markInfo (os := []) 0 (by simp))
    have HR : Hid (lastR s.data.toList k = no_) := by unfold lastR; rw [hn]; rfl
    clear hn
    go_enter Tryd.func25, Tryd.ntmps25
    go_wp2_with (first | (go_at_call 43; refine hm.out.mono ?_; rintro e w1 ⟨rfl, hb1⟩) | (refine wpList_store_row rfl 57 (.tmp 6) (.tmp 11) rfl w1.heap.size (mkc [] 0) rfl rfl 57 Tryd.zeroCells57 (HZ w1).out HI.out zeroMarks_size.symm (mkc_one _ _) ?_))
    go_ret2
    exact ⟨by rw [HR.out]; rfl, (marks_stored hb1).2⟩
  · have hm := Lib.hid (marks_some s ls w hs hn)
    have hfew := few hn
    have ho : (Nm.offs ls).length ≤ 128 := by rw [Nm.offs_length]; omega
    have HI : Hid ((Tryd.prog.info? 57).map (·.size) = some (marksV ls).size) := markInfo (os := Nm.offs ls) ls.length ho
    have HO : Hid (Tryd.zeroCells57.size = (marksV ls).size) := by rw [Hid, ← zeroMarks_size, mkc_size _ (by simp), marksV, mkc_size _ ho]
    have hc : ∀ w1 : World, ((w1.alloc (.cells Tryd.zeroCells57 57)).setRow w1.heap.size (marksV ls)).cell? ⟨w1.heap.size, 128, none⟩ = some (.int .i64 (ls.length : Nat)) := fun w1 => by
      rw [((Has.fresh w1 _ _).row _).cell]; exact mkc_count _ ho
    by_cases hk0 : k < 0
    · have HR : Hid (lastR s.data.toList k = no_) := by unfold lastR; rw [hn]; exact if_pos (.inl hk0)
      clear hn
      go_enter Tryd.func25, Tryd.ntmps25
      go_wp2_with (first | (go_at_call 43; refine hm.out.mono ?_; rintro e w1 ⟨rfl, hb1⟩) | (refine wpList_store_row rfl 57 (.tmp 6) (.tmp 11) rfl w1.heap.size (marksV ls) rfl rfl 57 Tryd.zeroCells57 (HZ w1).out HI.out HO.out (mkc_one _ _) ?_))
      go_ret2
      exact ⟨by rw [HR.out]; rfl, (marks_stored hb1).2⟩
    · obtain ⟨m, rfl⟩ := Int.eq_ofNat_of_zero_le (show 0 ≤ k by omega)
      by_cases hbig : ls.length < m
      · have HR : Hid (lastR s.data.toList (m : Nat) = no_) := by unfold lastR; rw [hn]; exact if_pos (.inr (by omega))
        clear hn
        go_enter Tryd.func25, Tryd.ntmps25
        go_wp2_with (first | (go_at_call 43; refine hm.out.mono ?_; rintro e w1 ⟨rfl, hb1⟩) | (refine wpList_store_row rfl 57 (.tmp 6) (.tmp 11) rfl w1.heap.size (marksV ls) rfl rfl 57 Tryd.zeroCells57 (HZ w1).out HI.out HO.out (mkc_one _ _) ?_))
        go_ret2
        exact ⟨by rw [HR.out]; rfl, (marks_stored hb1).2⟩
      · have hlm : m ≤ ls.length := by omega
        have HR : Hid (lastR s.data.toList (m : Nat) = yes_ (Nm.glue (ls.drop (ls.length - m)))) := by unfold lastR; rw [hn]; exact if_neg (by omega)
        have hbl : (Nm.body (ls.take (ls.length - m))).length ≤ s.size := by
          have h1 := (Nm.split_some.1 hn).1
          have h2 := Nm.body_take_le (ls := ls) (i := ls.length - m)
          have h3 := congrArg List.length h1
          rw [Nm.glue_length] at h3; simp at h3; omega
        have hb8 : (Nm.body (ls.take (ls.length - m))).length ≤ 255 := by
          have h3 := (Nm.split_some.1 hn).2.2
          simp at h3; omega
        have hcd : ∀ w1 : World, ((w1.alloc (.cells Tryd.zeroCells57 57)).setRow w1.heap.size (marksV ls)).cell? ⟨w1.heap.size, ls.length - m, none⟩ = some (.int .u8 ((Nm.body (ls.take (ls.length - m))).length : Nat)) := fun w1 => by
          rw [((Has.fresh w1 _ _).row _).cell]; exact mkc_at _ _ _ (Nm.offs_get ls _ (by omega))
        have HX : Hid (Value.string (s.extract (Nm.body (ls.take (ls.length - m))).length s.size) = sv (Nm.glue (ls.drop (ls.length - m)))) := by
          show _ = _
          rw [string_eq (extract_list s _ _), List.take_of_length_le (by simp), (Nm.split_some.1 hn).1, glue_drop]
        clear hn
        generalize (Nm.body (ls.take (ls.length - m))).length = o at *
        obtain ⟨d, hd⟩ : ∃ d, ls.length - m = d := ⟨_, rfl⟩
        rw [hd] at HR HX hcd
        have hd1 : ls.length = d + m := by omega
        clear hd
        go_enter Tryd.func25, Tryd.ntmps25
        go_wp2_with (first | (go_at_call 43; refine hm.out.mono ?_; rintro e w1 ⟨rfl, hb1⟩) | (refine wpList_store_row rfl 57 (.tmp 6) (.tmp 11) rfl w1.heap.size (marksV ls) rfl rfl 57 Tryd.zeroCells57 (HZ w1).out HI.out HO.out (mkc_one _ _) ?_))
        go_ret2
        refine ⟨?_, (marks_stored hb1).2⟩
        rw [HR.out]
        show Ending.returned (.tuple #[.string (s.extract o s.size), .bool true]) = _
        rw [HX.out]

theorem lastR_form (l : List UInt8) (k : Int) : ∃ x b, lastR l k = .tuple #[.string x, .bool b] := by
  unfold lastR
  split
  · exact ⟨_, _, rfl⟩
  · split <;> exact ⟨_, _, rfl⟩
theorem parent_last (l : List UInt8) : parentR l = lastR l ((labelsOf l).length - 1) := by
  unfold parentR lastR labelsOf
  rcases hn : Nm.split l with _ | ls
  · rfl
  · rcases ls with _ | ⟨a, r⟩
    · exact (if_pos (.inl (by simp))).symm
    · simp only [Option.getD_some]
      rw [if_neg (by simp only [List.length_cons]; omega)]
      have : (a :: r).length - (((a :: r).length : Int) - 1).toNat = 1 := by simp only [List.length_cons]; omega
      rw [this]; rfl

theorem Parent_any (s : ByteArray) (w : World) (hs : s.size ≤ 140737488355328) :
    Calls Tryd.prog 23 #[.string s] w fun e w' => e = .returned (parentR s.data.toList) ∧ Below w.heap.size w w' := by
  have HC := Lib.hid (Count_any s w hs)
  have HL := Lib.hid (fun w => Last_any s ((labelsOf s.data.toList).length - 1) w hs)
  obtain ⟨x, b, he⟩ := lastR_form s.data.toList ((labelsOf s.data.toList).length - 1)
  rw [parent_last, he]
  rw [he] at HL
  have h127 := (labelsOf_good s.data.toList).2
  clear he
  generalize (labelsOf s.data.toList).length = n at *
  go_enter Tryd.func23, Tryd.ntmps23
  go_wp2_with (first | (go_at_call 18; refine HC.out.mono ?_; rintro e w1 ⟨rfl, hb1⟩) | (go_at_call 25; refine (HL.out _).mono ?_; rintro e w2 ⟨rfl, hb2⟩))
  go_ret2
  exact ⟨rfl, hb1.trans (hb2.mono hb1.size)⟩

set_option maxHeartbeats 1000000 in
set_option maxRecDepth 100000 in
theorem Join_any (f b : ByteArray) (w : World) (hf : f.size ≤ 140737488355328) (hb : b.size ≤ 140737488355328) :
    Calls Tryd.prog 29 #[.string f, .string b] w fun e w' => e = .returned (joinR f.data.toList b.data.toList) ∧ Below w.heap.size w w' := by
  rcases hn : Nm.split f.data.toList with _ | x
  · have HJ : Hid (joinR f.data.toList b.data.toList = .tuple #[.string ⟨#[]⟩, .int .i64 11]) := by unfold joinR; rw [hn]; rfl
    have HC := Lib.hid (Check_no f w hf hn)
    clear hn
    go_enter Tryd.func29, Tryd.ntmps29
    go_wp2_with (first | (go_at_call_of 14 (Value.string f); refine HC.out.mono ?_; rintro e w1 ⟨rfl, hb1⟩))
    go_ret2
    exact ⟨by rw [HJ.out]; rfl, hb1⟩
  · have HC := Lib.hid (Check_yes f x w hf hn)
    rcases hn2 : Nm.split b.data.toList with _ | y
    · have HJ : Hid (joinR f.data.toList b.data.toList = .tuple #[.string ⟨#[]⟩, .int .i64 11]) := by unfold joinR; rw [hn, hn2]; rfl
      have HD := Lib.hid (fun w => Check_no b w hb hn2)
      clear hn hn2
      go_enter Tryd.func29, Tryd.ntmps29
      go_wp2_with (first | (go_at_call_of 14 (Value.string f); refine HC.out.mono ?_; rintro e w1 ⟨rfl, hb1⟩) | (go_at_call_of 14 (Value.string b); refine (HD.out _).mono ?_; rintro e w2 ⟨rfl, hb2⟩))
      go_ret2
      exact ⟨by rw [HJ.out]; rfl, hb1.trans (hb2.mono hb1.size)⟩
    · have HD := Lib.hid (fun w => Check_yes b y w hb hn2)
      have hfl := (Nm.split_some.1 hn).1
      have hbl := (Nm.split_some.1 hn2).1
      have hf1 : f.size = (Nm.body x).length + 1 := by have := congrArg List.length hfl; rw [Nm.glue_length] at this; simpa using this
      have hb1' : b.size = (Nm.body y).length + 1 := by have := congrArg List.length hbl; rw [Nm.glue_length] at this; simpa using this
      have hf2 := (Nm.split_some.1 hn).2.2
      have hb2' := (Nm.split_some.1 hn2).2.2
      have hf3 : f.size ≤ 255 := by simpa using hf2
      have hb3 : b.size ≤ 255 := by simpa using hb2'
      have hpos : 1 ≤ f.size := by omega
      have hlen : (Nm.body (x ++ y)).length + 1 = f.size - 1 + b.size := by rw [Nm.body_append, List.length_append]; omega
      have HX : Hid (Value.string (f.extract 0 (f.size - 1) ++ b) = sv (Nm.glue (x ++ y))) := by
        show _ = _
        rw [string_eq (s := f.extract 0 (f.size - 1) ++ b) (l := Nm.glue (x ++ y))]
        rw [cat_list, extract_list, hbl, hfl, hf1]
        simp [Nm.glue, Nm.body_append]
      have HJ : Hid (joinR f.data.toList b.data.toList = nameR (x ++ y)) := by unfold joinR; rw [hn, hn2]; rfl
      have HLE := Lib.hid hlen
      clear hn hn2 hfl hbl hf1 hb1' hf2 hb2' hlen
      by_cases hbig : 255 < f.size - 1 + b.size
      · have HN : Hid (nameR (x ++ y) = .tuple #[.string ⟨#[]⟩, .int .i64 2]) := nameR_long (by rw [HLE.out]; exact hbig)
        go_enter Tryd.func29, Tryd.ntmps29
        go_wp2_with (first | (go_at_call_of 14 (Value.string f); refine HC.out.mono ?_; rintro e w1 ⟨rfl, hb1⟩) | (go_at_call_of 14 (Value.string b); refine (HD.out _).mono ?_; rintro e w2 ⟨rfl, hb2⟩))
        go_ret2
        exact ⟨by rw [HJ.out, HN.out]; rfl, hb1.trans (hb2.mono hb1.size)⟩
      · have HN : Hid (nameR (x ++ y) = .tuple #[sv (Nm.glue (x ++ y)), .int .i64 0]) := nameR_short (by rw [HLE.out]; exact hbig)
        go_enter Tryd.func29, Tryd.ntmps29
        go_wp2_with (first | (go_at_call_of 14 (Value.string f); refine HC.out.mono ?_; rintro e w1 ⟨rfl, hb1⟩) | (go_at_call_of 14 (Value.string b); refine (HD.out _).mono ?_; rintro e w2 ⟨rfl, hb2⟩))
        go_ret2
        refine ⟨?_, hb1.trans (hb2.mono hb1.size)⟩
        rw [HJ.out, HN.out]
        show Ending.returned (.tuple #[.string (f.extract 0 (f.size - 1) ++ b), .int .i64 0]) = _
        rw [HX.out]

theorem joinR_form (f b : List UInt8) : ∃ x n, joinR f b = .tuple #[.string x, .int .i64 n] := by
  unfold joinR nameR
  split
  · split <;> exact ⟨_, _, rfl⟩
  · exact ⟨_, _, rfl⟩
theorem Wild_any (s : ByteArray) (w : World) (hs : s.size ≤ 140737488355328) :
    Calls Tryd.prog 31 #[.string s] w fun e w' => e = .returned (joinR [1, 42, 0] s.data.toList) ∧ Below w.heap.size w w' := by
  obtain ⟨x, y, he⟩ := joinR_form [1, 42, 0] s.data.toList
  have HJ := Lib.hid (Join_any ⟨#[1, 42, 0]⟩ s w (by decide) hs)
  have e1 : (⟨#[1, 42, 0]⟩ : ByteArray).data.toList = [1, 42, 0] := rfl
  rw [e1, he] at HJ
  rw [he]
  clear he e1
  go_enter Tryd.func31, Tryd.ntmps31
  go_wp2_with (first | (go_at_call 29; refine HJ.out.mono ?_; rintro e w1 ⟨rfl, hb1⟩))
  go_ret2
  exact ⟨rfl, hb1⟩
end Go.Proofs.YtjcdhmpcjpjnmaaDoor
