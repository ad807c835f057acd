/- EdnsOptions: the walk. -/
import Derived.Test.YtnpimahgdhpmfaaEdWakes
import Derived.BigQuiet
namespace Go.Proofs.Ytnpimahgdhpmfaa
open Go.RowKit

theorem optsP_no {f : FuncId} {l : List UInt8} {args : Array Value} {W : World} (h : Calls Try.prog f args W (OptsP l W)) (hm : Ed.may l = false) :
    Calls Try.prog f args W fun e w' => e = .returned (.tuple #[.slice none 0 0, .slice none 0 0, .bool false]) ∧ Below W.heap.size W w' := h.mono fun e w' ⟨hb, h⟩ => by
  rcases h with ⟨h, _⟩ | ⟨_, h⟩
  · rw [hm] at h; cases h
  · exact ⟨h, hb⟩
theorem optsP_yes {f : FuncId} {l : List UInt8} {args : Array Value} {W : World} (h : Calls Try.prog f args W (OptsP l W)) (hm : Ed.may l = true) :
    Calls Try.prog f args W fun e w' => ∃ A5 C5 A6 C6, e = .returned (.tuple #[.slice A5 (Ed.nums l).length C5, .slice A6 (Ed.txts l).length C6, .bool true]) ∧ w'.ownsRow W.heap.size 22 1 (.slice A5 (Ed.nums l).length C5) (Ed.nums l).length (nv (Ed.nums l)) ∧ w'.ownsRow W.heap.size 9 1 (.slice A6 (Ed.txts l).length C6) (Ed.txts l).length (svs (Ed.txts l)) ∧ Below W.heap.size W w' := h.mono fun e w' ⟨hb, h⟩ => by
  rcases h with ⟨_, v5, v6, he, h5, h6⟩ | ⟨h, _⟩
  · obtain ⟨A5, C5, rfl⟩ := own_form h5
    obtain ⟨A6, C6, rfl⟩ := own_form h6
    exact ⟨A5, C5, A6, C6, he, h5, h6, hb⟩
  · rw [hm] at h; cases h
set_option maxHeartbeats 2000000 in
set_option maxRecDepth 100000 in
theorem walk_EdnsOptions (w : World) (s : ByteArray) (hs : s.size ≤ 1048576) :
    Calls Try.prog 5 #[.string s] w fun e w' => e = .returned (.bool true) ∧ Below w.heap.size w w' := by
  have HW := Lib.hid (fun W : World => edWakes W)
  cases hm : Ed.may s.data.toList
  · have H1 := Lib.hid (fun W : World => optsP_no (opts_any s W (by omega)) hm)
    have H2 := Lib.hid (fun W : World => optsP_no (refOpts_any s W (by omega)) hm)
    clear hm hs
    go_enter Try.func5, Try.ntmps5
    go_wp2_with (first
      | (go_at_call 16; refine (H1.out _).mono ?_; rintro e w1 ⟨rfl, B1⟩; have HB1 := Lib.hid B1; clear B1)
      | (go_at_call 17; refine (H2.out _).mono ?_; rintro e w2 ⟨rfl, B2⟩; have HB2 := Lib.hid (HB1.out.trans (B2.mono HB1.out.size)); clear B2))
    go_loop [9] (fun i => i = .int .i64 0) (fun _ => 0)
    case atStart => rfl
    case round =>
      obtain rfl := hrel
      go_wp2_with (go_at_call 11; refine (HW.out _).mono ?_; rintro e w3 ⟨rfl, B3⟩; have HB3 := Lib.hid (HB2.out.trans (B3.mono HB2.out.size)); clear B3)
      go_ret
      exact ⟨rfl, HB3.out⟩
  · have H1 := Lib.hid (fun W : World => optsP_yes (opts_any s W (by omega)) hm)
    have H2 := Lib.hid (fun W : World => optsP_yes (refOpts_any s W (by omega)) hm)
    have hal := Ed.all_len s.data.toList
    have hsl : s.data.toList.length = s.size := by simp
    have hn : (Ed.nums s.data.toList).length = (Ed.all s.data.toList).length := by simp [Ed.nums]
    have hx : (Ed.txts s.data.toList).length = (Ed.all s.data.toList).length := by simp [Ed.txts]
    generalize Ed.nums s.data.toList = ns at *
    generalize Ed.txts s.data.toList = ts at *
    generalize (Ed.all s.data.toList).length = N at *
    rw [hn, hx] at H1 H2
    have HN := Lib.hid hn
    have HX := Lib.hid hx
    have hN : N ≤ 1048576 := by omega
    clear hm hn hx hal hsl hs
    go_enter Try.func5, Try.ntmps5
    go_wp2_with (first
      | (go_at_call 16; refine (H1.out _).mono ?_; rintro e w1 ⟨A5, C5, A6, C6, rfl, h5, h6, B1⟩; have H5 := Lib.hid h5; have H6 := Lib.hid h6; have HB1 := Lib.hid B1; clear B1 h5 h6)
      | (go_at_call 17; refine (H2.out _).mono ?_; rintro e w2 ⟨D5, E5, D6, E6, rfl, g5, g6, B2⟩; have G5 := Lib.hid g5; have G6 := Lib.hid g6; have F5 := Lib.hid (own_below H5.out B2 (Nat.le_refl _)); have F6 := Lib.hid (own_below H6.out B2 (Nat.le_refl _)); have HB2 := Lib.hid (HB1.out.trans (B2.mono HB1.out.size)); clear B2 g5 g6))
    go_loopw [9] (fun i wr => ∃ k q : Nat, i = .int .i64 k ∧ k ≤ N ∧ wr = w2.drewN q) (fun i _ => N - (intOf i).toNat)
    case atStart => exact ⟨0, 0, rfl, Nat.zero_le _, rfl⟩
    case round =>
      obtain ⟨k, q, rfl, hk, rfl⟩ := hrel
      by_cases hlt : k < N
      · have d0 : decide ((k : Int) < (N : Int)) = true := by simp; omega
        have k0 : (0 : Int) ≤ (k : Int) := by omega
        have k1 : (k : Int) < (N : Int) := by omega
        obtain ⟨g1, e1, hc1, r1⟩ := own_at F5.out hlt
        obtain ⟨g2, e2, hc2, r2⟩ := own_at F6.out hlt
        obtain ⟨g3, e3, hc3, r3⟩ := own_at G5.out hlt
        obtain ⟨g4, e4, hc4, r4⟩ := own_at G6.out hlt
        have hk1 : k < ns.length := by rw [HN.out]; exact hlt
        have hk2 : k < ts.length := by rw [HX.out]; exact hlt
        have q1 : w2.cell? ⟨g1, k, none⟩ = some (.int .u16 (ns[k]'hk1 : Nat)) := r1 k _ (by simp [nv, hk1])
        have q2 : w2.cell? ⟨g2, k, none⟩ = some (sv (ts[k]'hk2)) := r2 k _ (by simp [svs, hk2])
        have q3 : w2.cell? ⟨g3, k, none⟩ = some (.int .u16 (ns[k]'hk1 : Nat)) := r3 k _ (by simp [nv, hk1])
        have q4 : w2.cell? ⟨g4, k, none⟩ = some (sv (ts[k]'hk2)) := r4 k _ (by simp [svs, hk2])
        clear r1 r2 r3 r4 hc1 hc2 hc3 hc4
        generalize ns[k] = a at *
        generalize ts[k] = b at *
        clear hk1 hk2
        have hq : ((⟨b.toArray⟩ : ByteArray).toList == (⟨b.toArray⟩ : ByteArray).toList) = true := beq_self_eq_true _
        subst e1 e2 e3 e4
        go_wp2
        go_quiet (fail)
        go_wp2
        go_roundw
        case rel => exact ⟨k + 1, _, by go_num, by omega, rfl⟩
        case measure => simp [intOf]; omega
      · obtain rfl : k = N := by omega
        go_wp2_with (go_at_call 11; refine (HW.out _).mono ?_; rintro e w3 ⟨rfl, B3⟩; have HB3 := Lib.hid ((below_drewN HB2.out q).trans (B3.mono HB2.out.size)); clear B3)
        go_ret
        exact ⟨rfl, HB3.out⟩
end Go.Proofs.Ytnpimahgdhpmfaa
