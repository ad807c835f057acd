/- Texts of the proofs, merged. -/
import Derived.Test.YtcgdjomaddejmaaGreatDoorG22
import Derived.Test.YtcgdjomaddejmaaGreatDoorG42
import Derived.Test.YtcgdjomaddejmaaGreatDoorG14
import Derived.BigQuiet
import Derived.Test.YtcgdjomaddejmaaGreatDoorG23
/- Equal, of two lists that are one; Least: the document's. -/
namespace Go.Proofs.YtcgdjomaddejmaaGreatDoor
open Go.RowKit Go.Sort Go.Shelf

set_option maxHeartbeats 4000000 in
set_option maxRecDepth 100000 in
theorem refEqual_any (xs : List Rv) (A B : Option Addr) (c c2 : Nat) (w : World) (hA : Srow rcl 12 w 0 w.heap.size A xs) (hB : Srow rcl 12 w 0 w.heap.size B xs) (hn : xs.length ≤ 4294967296) :
    Calls Tryz.prog 8 #[.slice A xs.length c, .slice B xs.length c2] w fun e w' => e = .returned (.bool true) ∧ Below w.heap.size w w' := by
  have HA := Lib.hid hA
  have HB := Lib.hid hB
  clear hA hB
  go_enter Tryz.func8, Tryz.ntmps8
  go_wp2
  go_loopw [5] (fun s5 wr => ∃ i q : Nat, s5 = .int .i64 i ∧ i ≤ xs.length ∧ wr = w.drewN q) (fun s5 _ => xs.length - (intOf s5).toNat)
  case atStart => exact ⟨0, 0, rfl, Nat.zero_le _, rfl⟩
  case round =>
    obtain ⟨i, q, rfl, hi, rfl⟩ := hrel
    by_cases hlt : i < xs.length
    · obtain ⟨g, o, rfl, _, _, hc⟩ := HA.out.at_ hlt
      obtain ⟨g2, o2, rfl, _, _, hc2⟩ := HB.out.at_ hlt
      have i0 : (0 : Int) ≤ (i : Int) := by omega
      have i1 : (i : Int) < (xs.length : Int) := by omega
      generalize xs[i] = r at *
      have hpe : ∀ W, (Op.equalIn 10000 34 (.agg r.cells) (.agg r.cells)).run Tryz.prog W = .ok true W := fun W => by
        have h := rvRun W r r 9995
        rw [(rvB_iff r r).2 rfl] at h
        exact h
      have HC : Hid ((w.drewN q).rangeAt g (o + i * 12) (rcl r)) := hc
      have HC2 : Hid ((w.drewN q).rangeAt g2 (o2 + i * 12) (rcl r)) := hc2
      have HQ : Hid (∀ n, (w.drewN q).drewN n = w.drewN (q + n)) := fun n => World.drewN_drewN ..
      clear hc hc2
      obtain ⟨nm, ty, cl, ttl, ⟨ra', ho, ma, n0, n1, n2, n3, n4⟩⟩ := r
      generalize w.drewN q = wq at *
      have e0 := HC.out 0 _ rfl
      have e1 := HC.out 1 _ rfl
      have e2 := HC.out 2 _ rfl
      have e3 := HC.out 3 _ rfl
      have e4 := HC.out 4 _ rfl
      have e5 := HC.out 5 _ rfl
      have e6 := HC.out 6 _ rfl
      have e7 := HC.out 7 _ rfl
      have e8 := HC.out 8 _ rfl
      have e9 := HC.out 9 _ rfl
      have e10 := HC.out 10 _ rfl
      have e11 := HC.out 11 _ rfl
      have f0 := HC2.out 0 _ rfl
      have f1 := HC2.out 1 _ rfl
      have f2 := HC2.out 2 _ rfl
      have f3 := HC2.out 3 _ rfl
      have f4 := HC2.out 4 _ rfl
      have f5 := HC2.out 5 _ rfl
      have f6 := HC2.out 6 _ rfl
      have f7 := HC2.out 7 _ rfl
      have f8 := HC2.out 8 _ rfl
      have f9 := HC2.out 9 _ rfl
      have f10 := HC2.out 10 _ rfl
      have f11 := HC2.out 11 _ rfl
      rw [Nat.add_zero] at e0 f0
      dsimp only [Rv.cells] at hpe
      clear HC HC2
      go_wp2_with fail
      go_quiet (fail)
      go_wp2_with fail
      go_roundw
      case rel => exact ⟨i + 1, q + _, by go_num, by omega, HQ.out _⟩
      case measure => simp [intOf]; omega
    · obtain rfl : i = xs.length := by omega
      go_wp2_with fail
      go_ret
      exact ⟨rfl, below_drewN (Below.refl _ _) q⟩
end Go.Proofs.YtcgdjomaddejmaaGreatDoor
/- Least: the document's. -/
namespace Go.Proofs.YtcgdjomaddejmaaGreatDoor
open Go.RowKit Go.Sort Go.Shelf

set_option maxHeartbeats 2000000 in
set_option maxRecDepth 100000 in
theorem r5Least_any (rs : List Rv) (A : Option Addr) (c : Nat) (w : World) (hS : Srow rcl 12 w 0 w.heap.size A rs) (hn : rs.length ≤ 4294967296) :
    Calls Tryz.prog 10 #[.slice A rs.length c] w fun e w' => e = .returned (.int .u32 (Rr.least (rs.map Rv.ttl) : Nat)) ∧ Below w.heap.size w w' := by
  have HS := Lib.hid hS
  clear hS
  rcases Nat.eq_zero_or_pos rs.length with h0 | h0
  · have e := List.eq_nil_of_length_eq_zero h0
    subst e
    clear hn
    go_enter Tryz.func10, Tryz.ntmps10
    go_wp2
    go_ret
    exact ⟨rfl, Below.refl _ _⟩
  · obtain ⟨R, hR⟩ : ∃ R, Rr.least (rs.map Rv.ttl) = R := ⟨_, rfl⟩
    rw [hR]
    have HR := Lib.hid hR
    clear hR
    obtain ⟨g, o, hA, _, _, hc⟩ := HS.out.at_ h0
    have c3 := hc 3 _ rfl
    rw [Nat.zero_mul, Nat.add_zero] at c3
    have h1 := Rr.least_map_take (l := rs.map Rv.ttl) (i := 0) (by simpa using h0)
    rw [if_pos rfl] at h1
    have e1 : (rs.map Rv.ttl)[0]'(by simpa using h0) = rs[0].ttl := by simp
    rw [e1] at h1
    have HM1 := Lib.hid h1
    have z0 : (0 : Int) < (rs.length : Int) := by omega
    have z1 : ((rs.length : Int) == 0) = false := beq_eq_false_iff_ne.2 (by omega)
    clear hc h1 e1
    generalize rs[0] = r0 at *
    subst hA
    go_enter Tryz.func10, Tryz.ntmps10
    go_wp2
    clear c3
    go_loopw [3, 4] (fun s3 s4 wr => ∃ k m : Nat, s4 = .int .i64 k ∧ s3 = .int .u32 m ∧ 1 ≤ k ∧ k ≤ rs.length ∧ Hid (m = Rr.least ((rs.map Rv.ttl).take k)) ∧ wr = w) (fun _ s4 _ => rs.length - (intOf s4).toNat)
    case atStart => exact ⟨1, r0.ttl, rfl, rfl, Nat.le_refl _, h0, HM1.out.symm, rfl⟩
    case round =>
      obtain ⟨k, m, rfl, rfl, hk1, hk, HM, rfl⟩ := hrel
      have k0 : (0 : Int) ≤ (k : Int) := by omega
      by_cases hlt : k < rs.length
      · have k1 : (k : Int) < (rs.length : Int) := by omega
        obtain ⟨g', o', hA', _, _, hc⟩ := HS.out.at_ hlt
        injection hA' with hA'
        injection hA' with q1 q2 _
        subst q1 q2
        have c3 := hc 3 _ rfl
        have hst := Rr.least_map_take (l := rs.map Rv.ttl) (i := k) (by simpa using hlt)
        have e1 : (rs.map Rv.ttl)[k]'(by simpa using hlt) = rs[k].ttl := by simp
        rw [e1, ← HM.out, if_neg (by omega)] at hst
        have HST := Lib.hid hst
        clear hc hst e1
        generalize rs[k] = rk at *
        by_cases hl : rk.ttl < m
        · have h2 : decide ((rk.ttl : Int) < (m : Int)) = true := by simp; omega
          go_wp2
          go_roundw
          case rel => exact ⟨k + 1, rk.ttl, by go_num, rfl, by omega, by omega, by rw [Hid, HST.out]; omega, trivial⟩
          case measure => simp [intOf]; omega
        · have h2 : decide ((rk.ttl : Int) < (m : Int)) = false := by simp; omega
          go_wp2
          go_roundw
          case rel => exact ⟨k + 1, m, by go_num, rfl, by omega, by omega, by rw [Hid, HST.out]; omega, trivial⟩
          case measure => simp [intOf]; omega
      · obtain rfl : k = rs.length := by omega
        go_wp2
        go_ret
        exact ⟨by rw [HM.out, List.take_of_length_le (by simp), HR.out]; rfl, Below.refl _ _⟩
end Go.Proofs.YtcgdjomaddejmaaGreatDoor
