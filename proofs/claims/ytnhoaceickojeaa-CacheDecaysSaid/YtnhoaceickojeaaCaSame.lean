/- Two answers that are one: the statements' Same. -/
import Derived.Test.YtnhoaceickojeaaCaF
import Derived.BigQuiet
namespace Go.Proofs.Ytnhoaceickojeaa.Ca
open Go.RowKit

set_option maxHeartbeats 4000000 in
set_option maxRecDepth 100000 in
theorem sameR_any (xs : List Rv) (A B : Option Addr) (c c2 : Nat) (w : World) (hA : Srow rcl 12 w 0 w.heap.size A xs) (hB : Srow rcl 12 w 0 w.heap.size B xs) (hn : xs.length ≤ 4294967296) :
    Calls Try.prog 42 #[.slice A xs.length c, .slice B xs.length c2] w fun e w' => e = .returned (.bool true) ∧ Below w.heap.size w w' := by
  have HA := Lib.hid hA
  have HB := Lib.hid hB
  clear hA hB
  go_enter Try.func42, Try.ntmps42
  go_wp2
  go_loopw [5] (fun s5 wr => ∃ i q : Nat, s5 = .int .i64 i ∧ i ≤ xs.length ∧ wr = w.drewN q) (fun s5 _ => xs.length - (intOf s5).toNat)
  case atStart => exact ⟨0, 0, rfl, Nat.zero_le _, rfl⟩
  case round =>
    obtain ⟨i, q, rfl, hi, rfl⟩ := hrel
    by_cases hlt : i < xs.length
    · obtain ⟨g, o, rfl, _, _, hc⟩ := HA.out.at_ hlt
      obtain ⟨g2, o2, rfl, _, _, hc2⟩ := HB.out.at_ hlt
      have i0 : (0 : Int) ≤ (i : Int) := by omega
      have i1 : (i : Int) < (xs.length : Int) := by omega
      generalize xs[i] = r at *
      have hpe : ∀ W, (Op.equalIn 10000 50 (.agg r.cells) (.agg r.cells)).run Try.prog W = .ok true W := fun W => by
        have h := rvRun W r r 9995
        rw [(rvB_iff r r).2 rfl] at h
        exact h
      have HC : Hid ((w.drewN q).rangeAt g (o + i * 12) (rcl r)) := hc
      have HC2 : Hid ((w.drewN q).rangeAt g2 (o2 + i * 12) (rcl r)) := hc2
      have HQ : Hid (∀ n, (w.drewN q).drewN n = w.drewN (q + n)) := fun n => World.drewN_drewN ..
      clear hc hc2
      obtain ⟨nm, ty, cl, ttl, ⟨ra', ho, ma, n0, n1, n2, n3, n4⟩⟩ := r
      generalize w.drewN q = wq at *
      have e0 := HC.out 0 _ rfl
      have e1 := HC.out 1 _ rfl
      have e2 := HC.out 2 _ rfl
      have e3 := HC.out 3 _ rfl
      have e4 := HC.out 4 _ rfl
      have e5 := HC.out 5 _ rfl
      have e6 := HC.out 6 _ rfl
      have e7 := HC.out 7 _ rfl
      have e8 := HC.out 8 _ rfl
      have e9 := HC.out 9 _ rfl
      have e10 := HC.out 10 _ rfl
      have e11 := HC.out 11 _ rfl
      have f0 := HC2.out 0 _ rfl
      have f1 := HC2.out 1 _ rfl
      have f2 := HC2.out 2 _ rfl
      have f3 := HC2.out 3 _ rfl
      have f4 := HC2.out 4 _ rfl
      have f5 := HC2.out 5 _ rfl
      have f6 := HC2.out 6 _ rfl
      have f7 := HC2.out 7 _ rfl
      have f8 := HC2.out 8 _ rfl
      have f9 := HC2.out 9 _ rfl
      have f10 := HC2.out 10 _ rfl
      have f11 := HC2.out 11 _ rfl
      rw [Nat.add_zero] at e0 f0
      dsimp only [Rv.cells] at hpe
      clear HC HC2
      go_wp2_with fail
      go_quiet (fail)
      go_wp2_with fail
      go_roundw
      case rel => exact ⟨i + 1, q + _, by go_num, by omega, HQ.out _⟩
      case measure => simp [intOf]; omega
    · obtain rfl : i = xs.length := by omega
      go_wp2_with fail
      go_ret
      exact ⟨rfl, below_drewN (Below.refl _ _) q⟩
set_option maxHeartbeats 2000000 in
set_option maxRecDepth 100000 in
theorem sameA_any (x y : Aw) (w : World) (hx : x.lies w) (hy : y.lies w) (he : y.a = x.a) (hf : x.a.few) : Calls Try.prog 15 #[x.val, y.val] w fun e w' => e = .returned (.bool true) ∧ Below w.heap.size w w' := by
  have S1 : Hid (∀ W, Below w.heap.size w W → Calls Try.prog 42 #[.slice x.A1 x.a.an.length x.c1, .slice y.A1 x.a.an.length y.c1] W fun e w' => e = .returned (.bool true) ∧ Below W.heap.size W w') := fun W hb => by
    have h1 := (hx.below hb).s1
    have h2 := (hy.below hb).s1
    rw [he] at h2
    exact sameR_any _ _ _ _ _ W h1 h2 (by have := hf.l1; omega)
  have S2 : Hid (∀ W, Below w.heap.size w W → Calls Try.prog 42 #[.slice x.A2 x.a.au.length x.c2, .slice y.A2 x.a.au.length y.c2] W fun e w' => e = .returned (.bool true) ∧ Below W.heap.size W w') := fun W hb => by
    have h1 := (hx.below hb).s2
    have h2 := (hy.below hb).s2
    rw [he] at h2
    exact sameR_any _ _ _ _ _ W h1 h2 (by have := hf.l2; omega)
  have S3 : Hid (∀ W, Below w.heap.size w W → Calls Try.prog 42 #[.slice x.A3 x.a.ex.length x.c3, .slice y.A3 x.a.ex.length y.c3] W fun e w' => e = .returned (.bool true) ∧ Below W.heap.size W w') := fun W hb => by
    have h1 := (hx.below hb).s3
    have h2 := (hy.below hb).s3
    rw [he] at h2
    exact sameR_any _ _ _ _ _ W h1 h2 (by have := hf.l3; omega)
  unfold Aw.val Aw.cells
  rw [he]
  clear hx hy he hf
  generalize x.a.an.length = n1 at *
  generalize x.a.au.length = n2 at *
  generalize x.a.ex.length = n3 at *
  generalize x.a.rc = rc at *
  generalize x.a.aa = aa at *
  obtain ⟨_, A1, c1, A2, c2, A3, c3⟩ := x
  obtain ⟨_, B1, d1, B2, d2, B3, d3⟩ := y
  dsimp only at *
  have hb0 : Below w.heap.size w ((w.alloc (.cells #[.int .u16 (rc : Int), .bool aa, .slice A1 n1 c1, .slice A2 n2 c2, .slice A3 n3 c3] 38)).alloc (.cells #[.int .u16 (rc : Int), .bool aa, .slice B1 n1 d1, .slice B2 n2 d2, .slice B3 n3 d3] 38)) := ((Below.refl _ _).alloc (Nat.le_refl _) _).alloc (by simp) _
  have hX := (Has.fresh w 38 #[.int .u16 (rc : Int), .bool aa, .slice A1 n1 c1, .slice A2 n2 c2, .slice A3 n3 c3]).alloc (.cells #[.int .u16 (rc : Int), .bool aa, .slice B1 n1 d1, .slice B2 n2 d2, .slice B3 n3 d3] 38)
  have hY := Has.fresh (w.alloc (.cells #[.int .u16 (rc : Int), .bool aa, .slice A1 n1 c1, .slice A2 n2 c2, .slice A3 n3 c3] 38)) 38 #[.int .u16 (rc : Int), .bool aa, .slice B1 n1 d1, .slice B2 n2 d2, .slice B3 n3 d3]
  rw [World.size_alloc] at hY
  go_enter Try.func15, Try.ntmps15
  go_upto_region 1 with (fail)
  revert hb0 hX hY
  generalize (w.alloc _).alloc _ = W0
  intro hb0 hX hY
  obtain ⟨x0, x1, x2, x3, x4⟩ := a_cells hX
  obtain ⟨y0, y1, y2, y3, y4⟩ := a_cells hY
  have HB0 := Lib.hid hb0
  clear hb0 hX hY
  have hrr : ((rc : Int) == rc) = true := by simp
  have haa : (aa == aa) = true := by simp
  go_wp2_with (first
    | (go_at_call 42; (with_reducible refine (S1.out _ HB0.out).mono ?_); rintro e W1 ⟨rfl, hb1⟩; have x3 := keep_cell hb1 x3; have x4 := keep_cell hb1 x4; have y3 := keep_cell hb1 y3; have y4 := keep_cell hb1 y4; have HB1 := Lib.hid (HB0.out.trans (hb1.mono HB0.out.size)); clear hb1)
    | (go_at_call 42; (with_reducible refine (S2.out _ HB1.out).mono ?_); rintro e W2 ⟨rfl, hb2⟩; have x4 := keep_cell hb2 x4; have y4 := keep_cell hb2 y4; have HB2 := Lib.hid (HB1.out.trans (hb2.mono HB1.out.size)); clear hb2)
    | (go_at_call 42; (with_reducible refine (S3.out _ HB2.out).mono ?_); rintro e W3 ⟨rfl, hb3⟩; have HB3 := Lib.hid (HB2.out.trans (hb3.mono HB2.out.size)); clear hb3))
  go_ret
  exact ⟨rfl, HB3.out⟩
end Go.Proofs.Ytnhoaceickojeaa.Ca
