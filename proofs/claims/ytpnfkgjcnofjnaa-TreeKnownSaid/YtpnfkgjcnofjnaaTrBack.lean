/- Labels gone through from the last one on. -/
import Derived.Test.YtpnfkgjcnofjnaaMgRa
namespace Go.Proofs.Ytpnfkgjcnofjnaa
open Go.RowKit Go.Shelf
attribute [local go_sem] Oper.semAt_some

/-- what is told in round k. -/
def backV (ls : List (List UInt8)) (k : Nat) : Array Value := #[.int .i64 ((ls.length : Int) - 1 - k), sv (ls.getD (ls.length - 1 - k) [])]
theorem backV_at {ls : List (List UInt8)} {m k : Nat} (hm : ls.length = m) (h : m - 1 - k < ls.length) : backV ls k = #[.int .i64 ((m : Int) - 1 - k), sv (ls[m - 1 - k]'h)] := by
  subst hm
  unfold backV
  simp [List.getD, h]
/-- what is read: the slice in its box, and its cells. -/
def BackD (bx : Nat) (v : Value) (ls : List (List UInt8)) (W : World) : Prop := Has W bx 75 #[v] ∧ ∃ B, Rd W B v ls
theorem backward_any (A : Option Addr) (n c : Nat) (w : World) :
    Calls Try.prog 74 #[.slice A n c] w fun e w' => e = .returned (.func (.func 92) #[] #[.pointer (some ⟨w.heap.size, 0, none⟩)]) ∧ w' = w.alloc (.cells #[.slice A n c] 75) := by
  go_enter Try.func74, Try.ntmps74
  go_wp2
  go_ret
  exact ⟨rfl, rfl⟩
set_option maxRecDepth 100000 in
set_option maxHeartbeats 1000000 in
theorem back_in (n l bx : Nat) (v : Value) (ls : List (List UInt8)) (hls : ls.length ≤ 140737488355328) (J Jx : Nat → World → Prop) (hD : ∀ i A, J i A → BackD bx v ls A)
    (hY : ∀ i W1, J i W1 → i < ls.length → YieldAt Fence.wide (n - 1) Try.prog l (backV ls i) W1 fun e W' =>
      (e = .returned (.bool true) ∧ J (i + 1) W' ∧ KeepsR (l + 1) W1 W') ∨ (e = .returned (.bool false) ∧ Jx (i + 1) W' ∧ KeepsR (l + 1) W1 W'))
    (W : World) (h0 : J 0 W) :
    CallsIn Fence.wide n Try.prog 92 #[.func (.yield l) #[] #[], .pointer (some ⟨bx, 0, none⟩)] W fun e W' => (∃ v, e = .returned v) ∧ (J ls.length W' ∨ ∃ i, Jx i W') := by
  obtain ⟨A, c, rfl, hlc⟩ : ∃ A c, v = .slice A ls.length c ∧ ls.length ≤ c := by
    obtain ⟨_, B, A, c, h1, h2, _⟩ := hD 0 W h0
    exact ⟨A, c, h1, h2⟩
  have hc0 : W.cell? ⟨bx, 0, none⟩ = some (.slice A ls.length c) := by rw [(hD 0 W h0).1.cell]; rfl
  have HD := Lib.hid hD
  have HJ := Lib.hid h0
  have HY := Lib.hid hY
  have hw : IntKind.i64.wrap ((ls.length : Int) - 1) = (ls.length : Int) - 1 := by rw [IntKind.wrap_i64]; omega
  obtain ⟨m, hm⟩ : ∃ m, ls.length = m := ⟨_, rfl⟩
  rw [hm] at hw hlc hc0 HD hls
  clear hD h0 hY
  have HM := Lib.hid hm
  rw [hm]
  clear hm
  refine callsIn_of_wp Try.func92 rfl trivial ?_ rfl
  simp only [Try.ntmps92, List.size_toArray, List.length_cons, List.length_nil, Nat.reduceAdd, Nat.reduceSub, Array.replicate_succ, Array.replicate_zero, List.push_toArray, List.append_toArray, List.nil_append, List.cons_append]
  gi_wp2
  clear hc0
  gi_loopw [3] (fun i wr => ∃ k : Nat, k ≤ m ∧ i = .int .i64 ((m : Int) - 1 - k) ∧ Hid (J k wr)) (fun i _ => (intOf i + 1).toNat)
  case atStart => exact ⟨0, Nat.zero_le _, by go_num, HJ⟩
  case round =>
    obtain ⟨k, hk, rfl, HJS⟩ := hrel
    by_cases hlt : k < m
    · obtain ⟨hB, B, A', c', hv, _, hcell⟩ := HD.out k wr HJS.out
      rw [HM.out] at hv
      injection hv with hv1 _ hv2
      subst hv1 hv2
      obtain ⟨g, o, rfl, _, hcell⟩ := hcell (by have := HM.out; omega)
      have hc1 := hcell (m - 1 - k) (by have := HM.out; omega)
      have hc2 : wr.cell? ⟨bx, 0, none⟩ = some (.slice (some ⟨g, o, none⟩) m c) := by rw [hB.cell]; rfl
      have hY2 := HY.out k wr HJS.out (by have := HM.out; omega)
      have hbv := backV_at HM.out (k := k) (show m - 1 - k < ls.length by have := HM.out; omega)
      rw [hbv] at hY2
      obtain ⟨fn, tmps, assign, body, hy, hR⟩ := hY2
      obtain ⟨i, hi⟩ : ∃ i, m - 1 - k = i := ⟨_, rfl⟩
      have hi2 : (m : Int) - 1 - k = (i : Int) := by omega
      have him : i < m := by omega
      simp only [hi] at hc1 hy hbv
      generalize hsl : sv (ls[i]'(by have := HM.out; omega)) = sl at *
      rw [hi2] at hy ⊢
      have hw2 : IntKind.i64.wrap ((i : Int) - 1) = (i : Int) - 1 := by rw [IntKind.wrap_i64]; omega
      have hi3 : (0 : Int) ≤ (i : Int) := by omega
      have hi4 : (i : Int) < (m : Int) := by omega
      have HI := Lib.hid hi2
      clear hi hi2 hbv hsl hcell hw
      gi_wp2
      refine ⟨fun h => absurd h (by simp [Fence.wide]), ?_⟩
      refine hR.mono ?_
      rintro e W3 (⟨rfl, hJ3, hk3⟩ | ⟨rfl, hJx3, hk3⟩)
      · have HJ3 := Lib.hid hJ3
        clear hk3 hJ3
        gi_wp2
        go_roundw
        case rel => exact ⟨k + 1, by omega, by have := HI.out; exact congrArg (Value.int .i64) (by omega), HJ3⟩
        case measure => simp [intOf]
      · gi_wp2
        refine bodyPost_ret (results_none rfl _ _ _) rfl ?_
        exact ⟨⟨_, rfl⟩, .inr ⟨_, hJx3⟩⟩
    · obtain rfl : k = m := by omega
      have hneg : ¬ ((0 : Int) ≤ (k : Int) - 1 - k) := by omega
      gi_wp2
      go_end0
      exact ⟨⟨_, rfl⟩, .inl HJS.out⟩
theorem back_seq (n bx : Nat) (v : Value) (ls : List (List UInt8)) (hls : ls.length ≤ 140737488355328) (w : World) :
    SeqR Fence.wide n Try.prog 92 #[.pointer (some ⟨bx, 0, none⟩)] (backV ls) (BackD bx v ls) ls.length w := fun l J Jx W _ _ _ _ hD hY h0 => back_in n l bx v ls hls J Jx hD hY W h0
end Go.Proofs.Ytpnfkgjcnofjnaa
