/- same: two lists of labels. -/
import Derived.Test.YtklpjlligmklfaaDoorSplit
namespace Go.Proofs.YtklpjlligmklfaaDoor
open Go.RowKit

set_option maxHeartbeats 400000 in
set_option maxRecDepth 100000 in
theorem same_any (B B' : Nat) (va vb : Value) (a b : List (List UInt8)) (w : World) (ha : Rd w B va a) (hb : Rd w B' vb b) (hl : a.length ≤ 140737488355328) (_ : b.length ≤ 140737488355328) :
    Calls Tryd.prog 7 #[va, vb] w fun e w' => e = .returned (.bool (decide (a = b))) ∧ ∃ n, w' = w.drewN n := by
  obtain ⟨A, c, rfl, _, ra⟩ := ha
  obtain ⟨A', c', rfl, _, rb⟩ := hb
  have RA := Lib.hid ra
  have RB := Lib.hid rb
  clear ra rb
  by_cases hne : a.length = b.length
  · have hq : ((a.length : Int) != b.length) = false := by simp [hne]
    go_enter Tryd.func7, Tryd.ntmps7
    have HNE := Lib.hid hne
    clear hne
    go_wp2
    go_loopw [5] (fun i wr => ∃ k : Nat, i = .int .i64 k ∧ k ≤ a.length ∧ a.take k = b.take k ∧ ∃ n, wr = w.drewN n) (fun i _ => a.length - (intOf i).toNat)
    case atStart => exact ⟨0, rfl, Nat.zero_le _, rfl, 0, rfl⟩
    case round =>
      obtain ⟨k, rfl, hk, heq, n, rfl⟩ := hrel
      have HEQ := Lib.hid heq
      clear heq
      by_cases hlt : k < a.length
      · obtain ⟨g, o, rfl, _, ca⟩ := RA.out (by omega)
        obtain ⟨g', o', rfl, _, cb⟩ := RB.out (by have := HNE.out; omega)
        have hlt' : k < b.length := by have := HNE.out; omega
        have c1 := ca k hlt
        have c2 := cb k hlt'
        have HT : Hid (a[k] = b[k] → a.take (k + 1) = b.take (k + 1)) := fun h => by rw [List.take_succ_eq_append_getElem hlt, List.take_succ_eq_append_getElem hlt', HEQ.out, h]
        have HF : Hid (a[k] ≠ b[k] → a ≠ b) := fun h h2 => h (by simp [h2])
        clear ca cb
        generalize a[k] = x at *
        generalize b[k] = y at *
        by_cases hxy : x = y
        · subst hxy
          go_wp2
          go_quiet (fail)
          go_wp2
          go_roundw
          case rel => exact ⟨k + 1, by go_num, by omega, HT.out trivial, _, rfl⟩
          case measure => simp [intOf]; omega
        · have hxyb : (x == y) = false := by simpa using hxy
          have HXY := Lib.hid hxy
          clear hxy
          go_wp2
          go_quiet (fail)
          go_wp2
          go_ret
          exact ⟨ret_bool (decide_eq_false (HF.out HXY.out)).symm, _, World.drewN_drewN _ _ _⟩
      · obtain rfl : k = a.length := by omega
        go_wp2
        go_ret
        refine ⟨ret_bool (decide_eq_true ?_).symm, n, rfl⟩
        have := HEQ.out
        rw [List.take_length, HNE.out, List.take_length] at this
        exact this
  · have hq : ((a.length : Int) != b.length) = true := by rw [bne_iff_ne]; omega
    go_enter Tryd.func7, Tryd.ntmps7
    go_wp2
    go_ret
    exact ⟨ret_bool (decide_eq_false (fun h => hne (by rw [h]))).symm, 0, rfl⟩

theorem same_yes (B B' : Nat) (va vb : Value) (a : List (List UInt8)) (w : World) (ha : Rd w B va a) (hb : Rd w B' vb a) (hl : a.length ≤ 140737488355328) :
    Calls Tryd.prog 7 #[va, vb] w fun e w' => e = .returned (.bool true) ∧ ∃ n, w' = w.drewN n :=
  (same_any B B' va vb a a w ha hb hl hl).mono fun _ _ ⟨p, q⟩ => ⟨by rw [p, decide_eq_true rfl], q⟩
end Go.Proofs.YtklpjlligmklfaaDoor
