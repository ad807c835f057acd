/- Texts of the proofs, merged. -/
import Derived.Test.YtmieakkhpkclpaaDoorG17
import Derived.Test.YtmieakkhpkclpaaDoorG16
import Derived.Deep.LoopGhost
/- Cmp: the program's order of names. -/
namespace Go.Proofs.YtmieakkhpkclpaaDoor
open Go.RowKit

theorem isNaN_int (x : Int) (w : World) : Calls Tryd.prog 95 #[.int .i64 x] w fun e w' => e = .returned (.bool false) ∧ w = w' := by
  have h : (x != x) = false := by simp
  go_enter Tryd.func95, Tryd.ntmps95
  go_wp2
  go_ret
  exact ⟨rfl, rfl⟩
theorem isNaN_byte (x : Int) (w : World) : Calls Tryd.prog 96 #[.int .u8 x] w fun e w' => e = .returned (.bool false) ∧ w = w' := by
  have h : (x != x) = false := by simp
  go_enter Tryd.func96, Tryd.ntmps96
  go_wp2
  go_ret
  exact ⟨rfl, rfl⟩

set_option maxHeartbeats 400000 in
theorem Compare_int (a b : Nat) (w : World) :
    Calls Tryd.prog 83 #[.int .i64 a, .int .i64 b] w fun e w' => e = .returned (.int .i64 (Nm.sgn a b)) ∧ w = w' := by
  rcases Nat.lt_trichotomy a b with hl | hl | hl
  · have HS := Lib.hid (Nm.sgn_lt hl)
    go_enter Tryd.func83, Tryd.ntmps83
    go_wp2_with (first | (go_at_call 95; refine (isNaN_int _ _).mono ?_; rintro e w' ⟨rfl, rfl⟩))
    go_ret
    exact ⟨by rw [HS.out]; rfl, rfl⟩
  · subst hl
    have HS := Lib.hid (Nm.sgn_self a)
    go_enter Tryd.func83, Tryd.ntmps83
    go_wp2_with (first | (go_at_call 95; refine (isNaN_int _ _).mono ?_; rintro e w' ⟨rfl, rfl⟩))
    go_ret
    exact ⟨by rw [HS.out]; rfl, rfl⟩
  · have HS := Lib.hid (Nm.sgn_gt hl)
    go_enter Tryd.func83, Tryd.ntmps83
    go_wp2_with (first | (go_at_call 95; refine (isNaN_int _ _).mono ?_; rintro e w' ⟨rfl, rfl⟩))
    go_ret
    exact ⟨by rw [HS.out]; rfl, rfl⟩
set_option maxHeartbeats 400000 in
theorem Compare_byte (a b : Nat) (w : World) :
    Calls Tryd.prog 85 #[.int .u8 a, .int .u8 b] w fun e w' => e = .returned (.int .i64 (Nm.sgn a b)) ∧ w = w' := by
  rcases Nat.lt_trichotomy a b with hl | hl | hl
  · have HS := Lib.hid (Nm.sgn_lt hl)
    go_enter Tryd.func85, Tryd.ntmps85
    go_wp2_with (first | (go_at_call 96; refine (isNaN_byte _ _).mono ?_; rintro e w' ⟨rfl, rfl⟩))
    go_ret
    exact ⟨by rw [HS.out]; rfl, rfl⟩
  · subst hl
    have HS := Lib.hid (Nm.sgn_self a)
    go_enter Tryd.func85, Tryd.ntmps85
    go_wp2_with (first | (go_at_call 96; refine (isNaN_byte _ _).mono ?_; rintro e w' ⟨rfl, rfl⟩))
    go_ret
    exact ⟨by rw [HS.out]; rfl, rfl⟩
  · have HS := Lib.hid (Nm.sgn_gt hl)
    go_enter Tryd.func85, Tryd.ntmps85
    go_wp2_with (first | (go_at_call 96; refine (isNaN_byte _ _).mono ?_; rintro e w' ⟨rfl, rfl⟩))
    go_ret
    exact ⟨by rw [HS.out]; rfl, rfl⟩

theorem compareBytes_eq : ∀ a b : List UInt8, Lib.compareBytes a b = Nm.cmpB a b
  | [], [] => rfl
  | [], _ :: _ => rfl
  | _ :: _, [] => rfl
  | a :: s, b :: t => by
    rw [Lib.compareBytes, Nm.cmpB, compareBytes_eq s t]
    by_cases h : a = b
    · subst h
      rw [if_neg (UInt8.lt_irrefl a), if_neg (UInt8.lt_irrefl a), if_pos rfl]
    · rw [if_neg h]
      unfold Nm.sgn
      simp only [UInt8.lt_iff_toNat_lt]
      by_cases h1 : a.toNat < b.toNat
      · rw [if_pos h1, if_pos h1]
      · have h2 : b.toNat < a.toNat := by
          have : a.toNat ≠ b.toNat := fun e => h (UInt8.toNat_inj.1 e)
          omega
        rw [if_neg h1, if_neg h1, if_pos h2, if_pos h2]

theorem label_at (s : ByteArray) (g i : Nat) (z : Int) (ls : List (List UInt8)) (w : World) (h : Has w g 108 (marksV ls)) (hn : Nm.split s.data.toList = some ls) (hi : i < ls.length) (hz : z = i) (P : ByteArray) (hP : P.data.toList = ls[i]) :
    Calls Tryd.prog 84 #[.pointer (some ⟨g, 0, none⟩), .string s, .int .i64 z] w fun e w' => e = .returned (.string P) ∧ ∃ n, w' = w.drewN n := by
  subst hz
  have := label_any s g i ls w h hn hi
  rw [← hP] at this
  rw [show (.string P : Value) = sv P.data.toList by rw [string_eq (s := P) rfl]]
  exact this
theorem quiet_eq {P : Program} {f : FuncId} {args : Array Value} {w : World} {n : Nat} {v : Value} (h : Calls P f args (w.drewN n) fun e w' => e = .returned v ∧ w.drewN n = w') :
    Calls P f args (w.drewN n) fun e w'' => e = .returned v ∧ ∃ m, w'' = w.drewN m := h.mono fun _ _ ⟨he, hw⟩ => ⟨he, n, hw.symm⟩
theorem quiet_dr {P : Program} {f : FuncId} {args : Array Value} {w : World} {n : Nat} {v : Value} (h : Calls P f args (w.drewN n) fun e w' => e = .returned v ∧ ∃ m, w' = (w.drewN n).drewN m) :
    Calls P f args (w.drewN n) fun e w'' => e = .returned v ∧ ∃ m, w'' = w.drewN m := h.mono fun _ _ ⟨he, m, hm⟩ => ⟨he, n + m, by rw [hm, World.drewN_drewN]⟩
theorem Has.drewN {w : World} {g : Nat} {t : TypeId} {cs : Array Value} (h : Has w g t cs) (n : Nat) : Has (w.drewN n) g t cs := h
theorem marks_has {w w1 : World} {ls : List (List UInt8)} (hb : Below w.heap.size w w1) :
    Has ((w1.alloc (.cells Tryd.zeroCells108 108)).setRow w1.heap.size (marksV ls)) w1.heap.size 108 (marksV ls) ∧ Below w.heap.size w ((w1.alloc (.cells Tryd.zeroCells108 108)).setRow w1.heap.size (marksV ls)) := marks_stored (os := Nm.offs ls) (c := ls.length) hb

set_option maxHeartbeats 1500000 in
set_option maxRecDepth 100000 in
theorem Cmp_any (a b : ByteArray) (w : World) (ha : a.size ≤ 140737488355328) (hb : b.size ≤ 140737488355328) :
    Calls Tryd.prog 55 #[.string a, .string b] w fun e w' => e = .returned (.int .i64 (Nm.cmpN a.data.toList b.data.toList)) ∧ Below w.heap.size w w' := by
  have HZ : ∀ w1 : World, Hid (Has (w1.alloc (.cells Tryd.zeroCells108 108)) w1.heap.size 108 Tryd.zeroCells108) := fun w1 => Has.fresh w1 _ _
  have HZ0 : Hid (Tryd.zeroCells108.size = (mkc [] 0).size) := zeroMarks_size.symm
  have HI0 := Lib.hid (markInfo (os := []) 0 (by simp))
  rcases hn : Nm.split a.data.toList with _ | x
  · have hm1 := Lib.hid (marks_none a w ha hn)
    rcases hn2 : Nm.split b.data.toList with _ | y
    · have hm2 := Lib.hid (fun w => marks_none b w hb hn2)
      have HC : Hid (Nm.cmpN a.data.toList b.data.toList = Nm.cmpB a.data.toList b.data.toList) := by unfold Nm.cmpN; rw [hn, hn2]; rfl
      clear hn hn2
      go_enter Tryd.func55, Tryd.ntmps55
      go_wp2
      go_step3
      go_wp2_with (first
        | (go_at_call_of 82 (Value.string a); refine hm1.out.mono ?_; rintro e w1 ⟨rfl, hb1⟩)
        | (go_at_call_of 82 (Value.string b); refine (hm2.out _).mono ?_; rintro e w2 ⟨rfl, hb2⟩)
        | (refine wpList_store_row rfl 108 (.tmp 5) (.tmp 19) rfl w1.heap.size (mkc [] 0) rfl rfl 108 Tryd.zeroCells108 (HZ w1).out HI0.out HZ0.out (mkc_one _ _) ?_)
        | (refine wpList_store_row rfl 108 (.tmp 7) (.tmp 24) rfl w2.heap.size (mkc [] 0) rfl rfl 108 Tryd.zeroCells108 (HZ w2).out HI0.out HZ0.out (mkc_one _ _) ?_)
        | (go_at_call 43; refine (Tryd.strings_Compare a b _).mono ?_; rintro e w3 ⟨rfl, rfl⟩))
      rw [Exit.noGoto_ret]
      go_ret
      refine ⟨?_, ?_⟩
      · rw [HC.out, ← compareBytes_eq]; rfl
      · have h1 := (marks_stored (os := []) (c := 0) hb1).2
        exact h1.trans ((marks_stored (os := []) (c := 0) hb2).2.mono h1.size)
    · have hm2 := Lib.hid (fun w => marks_some b y w hb hn2)
      have hfy := few hn2
      have hoy : (Nm.offs y).length ≤ 128 := by rw [Nm.offs_length]; omega
      have HIY : Hid ((Tryd.prog.info? 108).map (·.size) = some (marksV y).size) := markInfo (os := Nm.offs y) y.length hoy
      have HZY : Hid (Tryd.zeroCells108.size = (marksV y).size) := by rw [Hid, ← zeroMarks_size, mkc_size _ (by simp), marksV, mkc_size _ hoy]
      have HC : Hid (Nm.cmpN a.data.toList b.data.toList = 1) := by unfold Nm.cmpN; rw [hn, hn2]; rfl
      clear hn hn2
      go_enter Tryd.func55, Tryd.ntmps55
      go_wp2
      go_step3
      go_wp2_with (first
        | (go_at_call_of 82 (Value.string a); refine hm1.out.mono ?_; rintro e w1 ⟨rfl, hb1⟩)
        | (go_at_call_of 82 (Value.string b); refine (hm2.out _).mono ?_; rintro e w2 ⟨rfl, hb2⟩)
        | (refine wpList_store_row rfl 108 (.tmp 5) (.tmp 19) rfl w1.heap.size (mkc [] 0) rfl rfl 108 Tryd.zeroCells108 (HZ w1).out HI0.out HZ0.out (mkc_one _ _) ?_)
        | (refine wpList_store_row rfl 108 (.tmp 7) (.tmp 24) rfl w2.heap.size (marksV y) rfl rfl 108 Tryd.zeroCells108 (HZ w2).out HIY.out HZY.out (mkc_one _ _) ?_)
        | (go_at_call 83; refine (Compare_int _ _ _).mono ?_; rintro e w3 ⟨rfl, rfl⟩))
      rw [Exit.noGoto_ret]
      go_ret
      have h1 := (marks_stored (os := []) (c := 0) hb1).2
      exact ⟨by rw [HC.out]; rfl, h1.trans ((marks_has (ls := y) hb2).2.mono h1.size)⟩
  · have hm1 := Lib.hid (marks_some a x w ha hn)
    have hfx := few hn
    have hox : (Nm.offs x).length ≤ 128 := by rw [Nm.offs_length]; omega
    have HIX : Hid ((Tryd.prog.info? 108).map (·.size) = some (marksV x).size) := markInfo (os := Nm.offs x) x.length hox
    have HZX : Hid (Tryd.zeroCells108.size = (marksV x).size) := by rw [Hid, ← zeroMarks_size, mkc_size _ (by simp), marksV, mkc_size _ hox]
    rcases hn2 : Nm.split b.data.toList with _ | y
    · have hm2 := Lib.hid (fun w => marks_none b w hb hn2)
      have HC : Hid (Nm.cmpN a.data.toList b.data.toList = -1) := by unfold Nm.cmpN; rw [hn, hn2]; rfl
      clear hn hn2
      go_enter Tryd.func55, Tryd.ntmps55
      go_wp2
      go_step3
      go_wp2_with (first
        | (go_at_call_of 82 (Value.string a); refine hm1.out.mono ?_; rintro e w1 ⟨rfl, hb1⟩)
        | (go_at_call_of 82 (Value.string b); refine (hm2.out _).mono ?_; rintro e w2 ⟨rfl, hb2⟩)
        | (refine wpList_store_row rfl 108 (.tmp 5) (.tmp 19) rfl w1.heap.size (marksV x) rfl rfl 108 Tryd.zeroCells108 (HZ w1).out HIX.out HZX.out (mkc_one _ _) ?_)
        | (refine wpList_store_row rfl 108 (.tmp 7) (.tmp 24) rfl w2.heap.size (mkc [] 0) rfl rfl 108 Tryd.zeroCells108 (HZ w2).out HI0.out HZ0.out (mkc_one _ _) ?_)
        | (go_at_call 83; refine (Compare_int _ _ _).mono ?_; rintro e w3 ⟨rfl, rfl⟩))
      rw [Exit.noGoto_ret]
      go_ret
      have h1 := (marks_has (ls := x) hb1).2
      exact ⟨by rw [HC.out]; rfl, h1.trans ((marks_stored (os := []) (c := 0) hb2).2.mono h1.size)⟩
    · have hm2 := Lib.hid (fun w => marks_some b y w hb hn2)
      have hfy := few hn2
      have hoy : (Nm.offs y).length ≤ 128 := by rw [Nm.offs_length]; omega
      have HIY : Hid ((Tryd.prog.info? 108).map (·.size) = some (marksV y).size) := markInfo (os := Nm.offs y) y.length hoy
      have HZY : Hid (Tryd.zeroCells108.size = (marksV y).size) := by rw [Hid, ← zeroMarks_size, mkc_size _ (by simp), marksV, mkc_size _ hoy]
      have HC : Hid (Nm.cmpN a.data.toList b.data.toList = Nm.cmpL x.reverse y.reverse) := by unfold Nm.cmpN; rw [hn, hn2]; rfl
      have HGX := Lib.hid (Nm.split_some.1 hn).2.1
      have HGY := Lib.hid (Nm.split_some.1 hn2).2.1
      have HNX := Lib.hid hn
      have HNY := Lib.hid hn2
      clear hn hn2
      go_enter Tryd.func55, Tryd.ntmps55
      go_wp2
      go_step3
      go_wp2_with (first
        | (go_at_call_of 82 (Value.string a); refine hm1.out.mono ?_; rintro e w1 ⟨rfl, hb1⟩)
        | (go_at_call_of 82 (Value.string b); refine (hm2.out _).mono ?_; rintro e w2 ⟨rfl, hb2⟩; have HH1 := Lib.hid (((marks_has (ls := x) hb1).1.below hb2 (marks_has (ls := x) hb1).1.lt).alloc (.cells Tryd.zeroCells108 108)); have HH2 := Lib.hid (HH1.out.rowFar (g' := w2.heap.size) (Nat.ne_of_lt (Nat.lt_of_lt_of_le (marks_has (ls := x) hb1).1.lt hb2.size)) (marksV y)); have HH3 := Lib.hid (marks_has (ls := y) hb2).1; have HB3 := Lib.hid ((marks_has (ls := x) hb1).2.trans ((marks_has (ls := y) hb2).2.mono (marks_has (ls := x) hb1).2.size)); have q1 := (HH2.out.cell 128).trans (mkc_count x.length hox); have q2 := (HH3.out.cell 128).trans (mkc_count y.length hoy))
        | (refine wpList_store_row rfl 108 (.tmp 5) (.tmp 19) rfl w1.heap.size (marksV x) rfl rfl 108 Tryd.zeroCells108 (HZ w1).out HIX.out HZX.out (mkc_one _ _) ?_)
        | (refine wpList_store_row rfl 108 (.tmp 7) (.tmp 24) rfl w2.heap.size (marksV y) rfl rfl 108 Tryd.zeroCells108 (HZ w2).out HIY.out HZY.out (mkc_one _ _) ?_)
        | (go_at_call 83; refine (Compare_int _ _ _).mono ?_; rintro e w3 ⟨rfl, rfl⟩))
      have hg12 : w1.heap.size < w2.heap.size := Nat.lt_of_lt_of_le (marks_has (ls := x) hb1).1.lt hb2.size
      clear hb1 hb2 HH1
      generalize (w2.alloc (.cells Tryd.zeroCells108 108)).setRow w2.heap.size (marksV y) = w3 at *
      generalize w1.heap.size = g1 at *
      generalize w2.heap.size = g2 at *
      have hmn : (min x.length y.length : Nat) ≤ 127 := by omega
      go_step3
      go_wp2
      go_loopg [9, 52] (min x.length y.length) (fun g s9 s52 wx => ∃ k : Nat, k + g = min x.length y.length ∧ s52 = .int .i64 k ∧ s9 = .int .i64 (Nm.sgn x.length y.length) ∧ Nm.Back x y k ∧ Has wx g1 108 (marksV x) ∧ Has wx g2 108 (marksV y) ∧ Below w.heap.size w wx)
      case atStart => exact ⟨0, by omega, rfl, rfl, Nm.Back.zero _ _, HH2.out, HH3.out, HB3.out⟩
      case round =>
        obtain ⟨k, hkg, rfl, rfl, hbk, hh1, hh2, hbw⟩ := hrel
        have BK := Lib.hid hbk
        have M1 := Lib.hid hh1
        have M2 := Lib.hid hh2
        have BW := Lib.hid hbw
        have p1 : wr.cell? ⟨g1, 128, none⟩ = some (.int .i64 (x.length : Nat)) := (hh1.cell 128).trans (mkc_count x.length hox)
        have p2 : wr.cell? ⟨g2, 128, none⟩ = some (.int .i64 (y.length : Nat)) := (hh2.cell 128).trans (mkc_count y.length hoy)
        clear hbk hh1 hh2 hbw q1 q2
        cases gk with
        | zero =>
          have hkz : ¬ ((k : Int) < ((min x.length y.length : Nat) : Int)) := by omega
          have HO := Lib.hid (BK.out.over (by omega))
          go_wp2
          go_ret
          exact ⟨by rw [HC.out, HO.out]; rfl, BW.out⟩
        | succ gO =>
          have h1 : k < x.length := by omega
          have h2 : k < y.length := by omega
          have hkz : ((k : Int) < ((min x.length y.length : Nat) : Int)) := by omega
          have HST := Lib.hid (BK.out.step h1 h2)
          have HDF := Lib.hid (BK.out.differ h1 h2)
          have hlx := HGX.out x[x.length - 1 - k] (List.getElem_mem _)
          have hly := HGY.out y[y.length - 1 - k] (List.getElem_mem _)
          obtain ⟨p, hp⟩ : ∃ p : ByteArray, p.data.toList = x[x.length - 1 - k] := ⟨⟨x[x.length - 1 - k].toArray⟩, by simp⟩
          obtain ⟨q, hq⟩ : ∃ q : ByteArray, q.data.toList = y[y.length - 1 - k] := ⟨⟨y[y.length - 1 - k].toArray⟩, by simp⟩
          have HLX := Lib.hid (fun (W : World) (h : Has W g1 108 (marksV x)) => label_at a g1 (x.length - 1 - k) ((x.length : Int) - 1 - (k : Int)) x W h HNX.out (by omega) (by omega) p hp)
          have HLY := Lib.hid (fun (W : World) (h : Has W g2 108 (marksV y)) => label_at b g2 (y.length - 1 - k) ((y.length : Int) - 1 - (k : Int)) y W h HNY.out (by omega) (by omega) q hq)
          rw [← hp] at hlx
          rw [← hq] at hly
          rw [← hp, ← hq] at HST HDF
          clear hp hq
          have hps : p.size ≤ 63 := by simpa using hlx.2
          have hqs : q.size ≤ 63 := by simpa using hly.2
          have HPL : Hid (p.data.toList.length = p.size) := by show _ = _; simp
          have HQL : Hid (q.data.toList.length = q.size) := by show _ = _; simp
          clear hlx hly
          have ax1 : IntKind.i64.wrap ((x.length : Int) - 1) = (x.length : Int) - 1 := IntWalk.i64_in _ (by omega)
          have ax2 : IntKind.i64.wrap ((x.length : Int) - 1 - (k : Int)) = (x.length : Int) - 1 - (k : Int) := IntWalk.i64_in _ (by omega)
          have ay1 : IntKind.i64.wrap ((y.length : Int) - 1) = (y.length : Int) - 1 := IntWalk.i64_in _ (by omega)
          have ay2 : IntKind.i64.wrap ((y.length : Int) - 1 - (k : Int)) = (y.length : Int) - 1 - (k : Int) := IntWalk.i64_in _ (by omega)
          go_wp2
          go_quiet ((first
            | (go_at_call_of 84 (Value.string a); exact quiet_dr (HLX.out _ (M1.out.drewN _)))
            | (go_at_call_of 84 (Value.string b); exact quiet_dr (HLY.out _ (M2.out.drewN _)))))
          have M1' := Lib.hid (M1.out.drewN nq)
          have M2' := Lib.hid (M2.out.drewN nq)
          have BW' := Lib.hid (below_drewN BW.out nq)
          generalize wr.drewN nq = wq at *
          clear ax1 ax2 ay1 ay2 M1 M2 BW
          go_wp2
          go_loopg [9, 74] (min p.size q.size) (fun g s9 s74 wx => ∃ j : Nat, j + g = min p.size q.size ∧ s74 = .int .i64 j ∧ s9 = .int .i64 (Nm.sgn x.length y.length) ∧ (Nm.fold p.data.toList).take j = (Nm.fold q.data.toList).take j ∧ Has wx g1 108 (marksV x) ∧ Has wx g2 108 (marksV y) ∧ Below w.heap.size w wx)
          case atStart => exact ⟨0, by omega, rfl, rfl, rfl, M1'.out, M2'.out, BW'.out⟩
          case round =>
            obtain ⟨j, hjg, rfl, rfl, htk, hh1, hh2, hbw⟩ := hrel
            have TK := Lib.hid htk
            have M1 := Lib.hid hh1
            have M2 := Lib.hid hh2
            have BW := Lib.hid hbw
            have p1 : wr.cell? ⟨g1, 128, none⟩ = some (.int .i64 (x.length : Nat)) := (hh1.cell 128).trans (mkc_count x.length hox)
            have p2 : wr.cell? ⟨g2, 128, none⟩ = some (.int .i64 (y.length : Nat)) := (hh2.cell 128).trans (mkc_count y.length hoy)
            clear htk hh1 hh2 hbw
            cases gk with
            | zero =>
              have hjz : ¬ ((j : Int) < ((min p.size q.size : Nat) : Int)) := by omega
              have HOV := Lib.hid (Nm.cmpB_over TK.out (by rw [Nm.fold_length, HPL.out]; omega) (by rw [Nm.fold_length, HQL.out]; omega) (by rw [Nm.fold_length, Nm.fold_length, HPL.out, HQL.out]; omega))
              rw [Nm.fold_length, Nm.fold_length, HPL.out, HQL.out] at HOV
              by_cases hpq : p.size = q.size
              · have hq1 : ((p.size : Int) != (q.size : Int)) = false := by simp [hpq]
                have HS := Lib.hid (HST.out (by rw [HOV.out, hpq]; exact Nm.sgn_self _))
                clear hpq
                go_wp2
                go_roundg gO
                case measure => omega
                case rel => exact ⟨k + 1, by omega, by go_num, rfl, HS.out, M1.out, M2.out, BW.out⟩
              · have hq1 : ((p.size : Int) != (q.size : Int)) = true := by rw [bne_iff_ne]; omega
                have HD := Lib.hid (HDF.out (by rw [HOV.out]; unfold Nm.sgn; split <;> (try split) <;> omega))
                clear hpq
                go_wp2_with (first | (go_at_call 83; refine (Compare_int _ _ _).mono ?_; rintro e w4 ⟨rfl, rfl⟩))
                rw [Exit.noGoto_ret]
                go_ret
                exact ⟨by rw [HC.out, HD.out, HOV.out]; rfl, BW.out⟩
            | succ gi =>
              have hj1 : j < p.size := by omega
              have hj2 : j < q.size := by omega
              have hjz : ((j : Int) < ((min p.size q.size : Nat) : Int)) := by omega
              have hf1 : j < (Nm.fold p.data.toList).length := by rw [Nm.fold_length, HPL.out]; exact hj1
              have hf2 : j < (Nm.fold q.data.toList).length := by rw [Nm.fold_length, HQL.out]; exact hj2
              have e1 : (Nm.fold p.data.toList)[j] = Nm.small p[j] := by rw [Nm.fold_get, Nm.getD_lt (by rw [HPL.out]; exact hj1)]; rfl
              have e2 : (Nm.fold q.data.toList)[j] = Nm.small q[j] := by rw [Nm.fold_get, Nm.getD_lt (by rw [HQL.out]; exact hj2)]; rfl
              have hd : ∀ c d : UInt8, c = Nm.small p[j] → d = Nm.small q[j] → c ≠ d → Nm.cmpB (Nm.fold p.data.toList) (Nm.fold q.data.toList) = Nm.sgn c.toNat d.toNat := fun c d hc hd hne => by
                rw [Nm.cmpB_differ TK.out hf1 hf2 (by rw [e1, e2, ← hc, ← hd]; exact hne), e1, e2, hc, hd]
              have ht : Nm.small p[j] = Nm.small q[j] → (Nm.fold p.data.toList).take (j + 1) = (Nm.fold q.data.toList).take (j + 1) := fun h => Nm.take_succ_alike TK.out hf1 hf2 (by rw [e1, e2]; exact h)
              have HD := Lib.hid (hd _ _ rfl rfl)
              have HT := Lib.hid ht
              have c8 := (Nm.small p[j]).toNat_lt
              have d8 := (Nm.small q[j]).toNat_lt
              clear hd ht e1 e2 hf1 hf2
              by_cases hcd : Nm.small p[j] = Nm.small q[j]
              · have hc1 : (((Nm.small p[j]).toNat : Int) != ((Nm.small q[j]).toNat : Int)) = false := by simp [hcd]
                have HTK := Lib.hid (HT.out hcd)
                clear hcd
                go_wp2
                go_quiet ((go_at_call 66; exact quiet_eq (small_any _ _)))
                go_wp2
                go_roundg gi
                case measure => omega
                case rel => exact ⟨j + 1, by omega, by go_num, rfl, HTK.out, M1.out.drewN _, M2.out.drewN _, below_drewN BW.out _⟩
              · have hne : (Nm.small p[j]).toNat ≠ (Nm.small q[j]).toNat := fun e => hcd (UInt8.toNat_inj.1 e)
                have hc1 : (((Nm.small p[j]).toNat : Int) != ((Nm.small q[j]).toNat : Int)) = true := by rw [bne_iff_ne]; omega
                have HDD := Lib.hid (HD.out hcd)
                have HNZ := Lib.hid (HDF.out (by rw [HDD.out]; unfold Nm.sgn; split <;> (try split) <;> omega))
                clear hcd hne
                go_wp2
                go_quiet ((go_at_call 66; exact quiet_eq (small_any _ _)))
                go_wp2_with (first | (go_at_call 85; refine (Compare_byte _ _ _).mono ?_; rintro e w4 ⟨rfl, rfl⟩))
                rw [Exit.noGoto_ret]
                go_ret
                exact ⟨by rw [HC.out, HNZ.out, HDD.out]; rfl, below_drewN BW.out _⟩
end Go.Proofs.YtmieakkhpkclpaaDoor
