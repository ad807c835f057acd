/- Options gone through, by a range over a function. -/
import Derived.Test.YtapbcepjcnnkgabEdFirst
import Derived.Test.YtapbcepjcnnkgabRangeG
namespace Go.Proofs.Ytapbcepjcnnkgab
open Go.RowKit Go.Shelf
attribute [local go_sem] Oper.semAt_some

theorem first_none (s : ByteArray) (w : World) (hs : s.size ≤ maxLen) (h : Ed.fst s.data.toList = none) :
    Calls Try.prog 23 #[.string s] w fun e w' => e = .returned (.tuple #[.agg #[.int .u16 0, .string ⟨#[]⟩], .string ⟨#[]⟩, .bool false]) ∧ Below w.heap.size w w' := by
  have hl : s.data.toList.length = s.size := by simp
  rcases Nat.lt_or_ge s.size 4 with h4 | h4
  · exact first_few s w h4
  · refine first_short s w h4 hs ?_
    rcases Nat.lt_or_ge (s.size - 4) (Ed.siz s.data.toList) with h5 | h5
    · exact h5
    · rw [Ed.fst_some (by omega) (by omega)] at h
      cases h
theorem first_some (s : ByteArray) (w : World) (hs : s.size ≤ maxLen) (x : Ed.Op) (h : Ed.fst s.data.toList = some x) :
    Calls Try.prog 23 #[.string s] w fun e w' => e = .returned (.tuple #[opv x, sv x.2.2, .bool true]) ∧ Below w.heap.size w w' := by
  have hl : s.data.toList.length = s.size := by simp
  rcases Nat.lt_or_ge s.size 4 with h4 | h4
  · rw [Ed.fst_few (by omega)] at h
    cases h
  rcases Nat.lt_or_ge (s.size - 4) (Ed.siz s.data.toList) with h5 | h5
  · rw [Ed.fst_short (by omega)] at h
    cases h
  · rw [Ed.fst_some (by omega) (by omega)] at h
    cases h
    exact first_yes s w h4 hs h5
/-- what is told in round i. -/
def edV (l : List UInt8) (i : Nat) : Array Value := #[opv ((Ed.all l).getD i (0, [], [])), sv (Ed.rs l (i + 1))]
theorem edV_at {l : List UInt8} {i : Nat} (h : i < (Ed.all l).length) : edV l i = #[opv ((Ed.all l)[i]'h), sv (((Ed.all l)[i]'h).2.2)] := by
  unfold edV
  rw [Ed.rs_succ h, List.getD_eq_getElem?_getD, List.getElem?_eq_getElem h]
  rfl
def strLen : Value → Nat
  | .string s => s.size
  | _ => 0
set_option maxHeartbeats 400000 in
theorem through_any (s : ByteArray) (w : World) :
    Calls Try.prog 21 #[.string s] w fun e w' => e = .returned (.func (.func 22) #[] #[.pointer (some ⟨w.heap.size, 0, none⟩)]) ∧ w' = w.alloc (.cells #[.string s] 9) := by
  go_enter Try.func21, Try.ntmps21
  go_wp2
  go_ret
  exact ⟨rfl, rfl⟩
set_option maxRecDepth 100000 in
set_option maxHeartbeats 1000000 in
theorem through1_in (n : Nat) (hn : 1 ≤ n) (l bx : Nat) (s : ByteArray) (hs : s.size ≤ maxLen) (J Jx : Nat → World → Prop)
    (hJ : ∀ i A B, J i A → Below A.heap.size A B → J i B)
    (hY : ∀ i W1, J i W1 → i < (Ed.all s.data.toList).length → YieldAt Fence.wide (n - 1) Try.prog l (edV s.data.toList i) W1 fun e W' =>
      (e = .returned (.bool true) ∧ J (i + 1) W' ∧ KeepsB W1 W') ∨ (e = .returned (.bool false) ∧ Jx (i + 1) W'))
    (W : World) (hB : Has W bx 9 #[.string s]) (h0 : J 0 W) :
    CallsIn Fence.wide n Try.prog 22 #[.func (.yield l) #[] #[], .pointer (some ⟨bx, 0, none⟩)] W fun e W' => (∃ v, e = .returned v) ∧ (J (Ed.all s.data.toList).length W' ∨ ∃ i, Jx i W') := by
  have hl : s.data.toList.length = s.size := by simp
  have hcB : W.cell? ⟨bx, 0, none⟩ = some (.string s) := by rw [hB.cell]; rfl
  have HLEN := Lib.hid (fun i (h : i ≤ (Ed.all s.data.toList).length) => Ed.rs_len s.data.toList i h)
  have HAT := Lib.hid (fun i (h : i < (Ed.all s.data.toList).length) => Ed.at_ (l := s.data.toList) h)
  have HEND := Lib.hid (Ed.at_end s.data.toList)
  have HSUC := Lib.hid (fun i (h : i < (Ed.all s.data.toList).length) => Ed.rs_succ (l := s.data.toList) h)
  have HV := Lib.hid (fun i (h : i < (Ed.all s.data.toList).length) => edV_at (l := s.data.toList) h)
  have hz : s = ⟨(Ed.rs s.data.toList 0).toArray⟩ := string_eq rfl
  have HZ := Lib.hid hz
  have HSZ := Lib.hid hl
  have HM := Lib.hid hs
  clear hl hz hs hB
  refine callsIn_of_wp Try.func22 rfl trivial ?_ rfl
  simp only [Try.ntmps22, List.size_toArray, List.length_cons, List.length_nil, Nat.reduceAdd, Nat.reduceSub, Array.replicate_succ, Array.replicate_zero, List.push_toArray, List.append_toArray, List.nil_append, List.cons_append]
  gi_wp2
  gi_loopw [3] (fun left wr => ∃ k : Nat, k ≤ (Ed.all s.data.toList).length ∧ left = sv (Ed.rs s.data.toList k) ∧ J k wr) (fun left _ => strLen left)
  case atStart => exact ⟨0, Nat.zero_le _, by rw [sv, ← HZ.out], h0⟩
  case round =>
    obtain ⟨k, hk, rfl, hJs⟩ := hrel
    have HJS := Lib.hid hJs
    clear hJs
    have hlen := HLEN.out k hk
    by_cases hlt : k < (Ed.all s.data.toList).length
    · have HF := Lib.hid (fun W2 : World => first_some ⟨(Ed.rs s.data.toList k).toArray⟩ W2 (by have := HSZ.out; have := HM.out; show (Ed.rs s.data.toList k).toArray.size ≤ _; simp; omega) _ (HAT.out k hlt))
      have HS1 := Lib.hid (HSUC.out k hlt)
      have HV1 := Lib.hid (HV.out k hlt)
      have HSH := Lib.hid (Ed.fst_shorter (HAT.out k hlt)).1
      have hY2 := fun W2 (h : Below wr.heap.size wr W2) => hY k W2 (hJ k _ _ HJS.out h) hlt
      rw [HV1.out] at hY2
      have HY := Lib.hid hY2
      clear hY2 HV1
      generalize (Ed.all s.data.toList)[k] = x at *
      generalize Ed.rs s.data.toList k = r at *
      gi_wp2_with (first
        | (refine ⟨trivial, ?_⟩; gi_at_call 23; refine (callsIn_wide.2 (HF.out _)).mono ?_; rintro e w3 ⟨rfl, B3⟩; obtain ⟨fn, tmps, assign, body, hy, hR⟩ := HY.out (w3.alloc (.cells #[.int .u16 (x.1 : Nat), sv x.2.1] 60)) (B3.alloc B3.size _); have HB3 := Lib.hid B3; have HR := Lib.hid hR; clear B3 hR))
      refine HR.out.mono ?_
      rintro e W3 (⟨rfl, hJ3, hk3⟩ | ⟨rfl, hJx3⟩)
      · have HK3 := Lib.hid hk3
        have HJ3 := Lib.hid hJ3
        clear hk3 hJ3 hy
        gi_wp2
        go_roundw
        case rel => exact ⟨k + 1, by omega, by rw [HS1.out], HJ3.out⟩
        case measure =>
          have h1 := HSH.out
          have e1 : (⟨r.toArray⟩ : ByteArray).size = r.length := by simp [ByteArray.size]
          have e2 : (⟨x.2.2.toArray⟩ : ByteArray).size = x.2.2.length := by simp [ByteArray.size]
          show (⟨x.2.2.toArray⟩ : ByteArray).size < (⟨r.toArray⟩ : ByteArray).size
          omega
      · gi_wp2
        refine bodyPost_ret (results_none rfl _ _ _) rfl ?_
        exact ⟨⟨_, rfl⟩, .inr ⟨_, hJx3⟩⟩
    · obtain rfl : k = (Ed.all s.data.toList).length := by omega
      have HF := Lib.hid (fun W2 : World => first_none ⟨(Ed.rs s.data.toList (Ed.all s.data.toList).length).toArray⟩ W2 (by have := HSZ.out; have := HM.out; show (Ed.rs s.data.toList (Ed.all s.data.toList).length).toArray.size ≤ _; simp; omega) HEND.out)
      gi_wp2_with (first
        | (refine ⟨trivial, ?_⟩; gi_at_call 23; refine (callsIn_wide.2 (HF.out _)).mono ?_; rintro e w3 ⟨rfl, B3⟩; have HB3 := Lib.hid B3; clear B3))
      refine ⟨(fun _ h => by cases h), ?_⟩
      gi_wp2
      refine bodyPost_ret (results_none rfl _ _ _) rfl ?_
      exact ⟨⟨_, rfl⟩, .inl (hJ _ _ _ HJS.out (HB3.out.alloc HB3.out.size _))⟩
/-- the contract of what through hands back. -/
theorem through_seq (n : Nat) (hn : 1 ≤ n) (bx : Nat) (s : ByteArray) (hs : s.size ≤ maxLen) (w : World) (hB : Has w bx 9 #[.string s]) :
    SeqB Fence.wide n Try.prog 22 #[.pointer (some ⟨bx, 0, none⟩)] (edV s.data.toList) (Ed.all s.data.toList).length w := fun l J Jx W hW hJ hY h0 =>
  through1_in n hn l bx s hs J Jx hJ hY W (hB.below hW hB.lt) h0
end Go.Proofs.Ytapbcepjcnnkgab
