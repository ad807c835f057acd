/- Texts of the proofs, merged. -/
import Derived.Test.YtmieakkhpkclpaaDoorG22
import Derived.Test.YtmieakkhpkclpaaDoorG42
import Derived.Test.YtmieakkhpkclpaaDoorG13
import Derived.BigQuiet
/- Equal, of two lists that are one; Least: the document's. -/
namespace Go.Proofs.YtmieakkhpkclpaaDoor
open Go.RowKit Go.Sort Go.Shelf

set_option maxHeartbeats 4000000 in
set_option maxRecDepth 100000 in
theorem refEqual_any (xs : List Rv) (A B : Option Addr) (c c2 : Nat) (w : World) (hA : Srow rcl 12 w 0 w.heap.size A xs) (hB : Srow rcl 12 w 0 w.heap.size B xs) (hn : xs.length ≤ 4294967296) :
    Calls Tryd.prog 9 #[.slice A xs.length c, .slice B xs.length c2] w fun e w' => e = .returned (.bool true) ∧ Below w.heap.size w w' := by
  have HA := Lib.hid hA
  have HB := Lib.hid hB
  clear hA hB
  go_enter Tryd.func9, Tryd.ntmps9
  go_wp2
  go_loopw [5] (fun s5 wr => ∃ i q : Nat, s5 = .int .i64 i ∧ i ≤ xs.length ∧ wr = w.drewN q) (fun s5 _ => xs.length - (intOf s5).toNat)
  case atStart => exact ⟨0, 0, rfl, Nat.zero_le _, rfl⟩
  case round =>
    obtain ⟨i, q, rfl, hi, rfl⟩ := hrel
    by_cases hlt : i < xs.length
    · obtain ⟨g, o, rfl, _, _, hc⟩ := HA.out.at_ hlt
      obtain ⟨g2, o2, rfl, _, _, hc2⟩ := HB.out.at_ hlt
      have i0 : (0 : Int) ≤ (i : Int) := by omega
      have i1 : (i : Int) < (xs.length : Int) := by omega
      generalize xs[i] = r at *
      have hpe : ∀ W, (Op.equalIn 10000 43 (.agg r.cells) (.agg r.cells)).run Tryd.prog W = .ok true W := fun W => by
        have h := rvRun W r r 9995
        rw [(rvB_iff r r).2 rfl] at h
        exact h
      have HC : Hid ((w.drewN q).rangeAt g (o + i * 12) (rcl r)) := hc
      have HC2 : Hid ((w.drewN q).rangeAt g2 (o2 + i * 12) (rcl r)) := hc2
      have HQ : Hid (∀ n, (w.drewN q).drewN n = w.drewN (q + n)) := fun n => World.drewN_drewN ..
      clear hc hc2
      obtain ⟨nm, ty, cl, ttl, ⟨ra', ho, ma, n0, n1, n2, n3, n4⟩⟩ := r
      generalize w.drewN q = wq at *
      have e0 := HC.out 0 _ rfl
      have e1 := HC.out 1 _ rfl
      have e2 := HC.out 2 _ rfl
      have e3 := HC.out 3 _ rfl
      have e4 := HC.out 4 _ rfl
      have e5 := HC.out 5 _ rfl
      have e6 := HC.out 6 _ rfl
      have e7 := HC.out 7 _ rfl
      have e8 := HC.out 8 _ rfl
      have e9 := HC.out 9 _ rfl
      have e10 := HC.out 10 _ rfl
      have e11 := HC.out 11 _ rfl
      have f0 := HC2.out 0 _ rfl
      have f1 := HC2.out 1 _ rfl
      have f2 := HC2.out 2 _ rfl
      have f3 := HC2.out 3 _ rfl
      have f4 := HC2.out 4 _ rfl
      have f5 := HC2.out 5 _ rfl
      have f6 := HC2.out 6 _ rfl
      have f7 := HC2.out 7 _ rfl
      have f8 := HC2.out 8 _ rfl
      have f9 := HC2.out 9 _ rfl
      have f10 := HC2.out 10 _ rfl
      have f11 := HC2.out 11 _ rfl
      rw [Nat.add_zero] at e0 f0
      dsimp only [Rv.cells] at hpe
      clear HC HC2
      go_wp2_with fail
      go_quiet (fail)
      go_wp2_with fail
      go_roundw
      case rel => exact ⟨i + 1, q + _, by go_num, by omega, HQ.out _⟩
      case measure => simp [intOf]; omega
    · obtain rfl : i = xs.length := by omega
      go_wp2_with fail
      go_ret
      exact ⟨rfl, below_drewN (Below.refl _ _) q⟩
end Go.Proofs.YtmieakkhpkclpaaDoor
