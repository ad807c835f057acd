/- Fold and the document's own answer to it: each byte in small letters. -/
import Derived.Test.YtklpjlligmklfaaDoorBase
namespace Go.Proofs.YtklpjlligmklfaaDoor
open Go.RowKit

set_option maxHeartbeats 400000 in
set_option maxRecDepth 100000 in
theorem each_fold (s : ByteArray) (w : World) (hs : s.size ≤ 140737488355328) :
    Calls Tryd.prog 22 #[.string s, .func (.func 23) #[] #[]] w fun e w' => e = .returned (.string ⟨(Nm.fold s.data.toList).toArray⟩) ∧ Below w.heap.size w w' := by
  obtain ⟨i0, hi, hz0, hz1, hz2⟩ := info_parts Tryd.infoByte
  go_enter Tryd.func22, Tryd.ntmps22
  go_wp2_with (first | (at_make; refine wpList_make_own _ rfl _ _ 33 rfl w.heap.size 5 i0 _ 1 Tryd.underlying33 hi hz0 hz1 .i64 .i64 s.size s.size rfl rfl rfl (by rw [hz2]; omega) (by unfold maxLen; omega) (Nat.le_refl _) ?_; intro w1 hown1 hg1))
  go_loopw [5, 12] (fun v i wr => ∃ k : Nat, k ≤ s.size ∧ i = .int .i64 k ∧ wr.ownsRow w.heap.size 5 1 v k (bv ((s.data.toList.take k).map Nm.small)) ∧ Below w.heap.size w wr) (fun _ i _ => s.size - (intOf i).toNat)
  case atStart => exact ⟨0, Nat.zero_le _, rfl, by simpa [bv] using hown1, (Below.refl _ _).grown hg1 (Nat.le_refl _) (by simp)⟩
  case round =>
    obtain ⟨k, hk, rfl, hown, hb⟩ := hrel
    have HO := Lib.hid hown
    have HB := Lib.hid hb
    have hbs := hb.size
    clear hown hb
    by_cases hlt : k < s.size
    · go_wp2_with (first | (go_at_call 23; refine (fold1_any w.heap.size _ k _ s[k] _ hbs HO.out (by omega)).mono ?_; rintro e w2 ⟨v', rfl, hown', hb'⟩))
      go_roundw
      case rel => exact ⟨k + 1, by omega, by go_num, by rw [bv_take_succ s _ k hlt]; exact hown', HB.out.trans hb'⟩
      case measure => simp [intOf]; omega
    · obtain rfl : k = s.size := by omega
      have HO' : Hid (wr.ownsRow w.heap.size 5 1 u5 s.size (bv (Nm.fold s.data.toList))) := by
        have := HO.out
        rw [List.take_of_length_le (by simp)] at this
        exact this
      clear HO
      go_wp2_with (refine wpList_convert_own _ rfl 33 9 (.tmp 22) rfl 5 Tryd.underlying33 Tryd.underlying5 Tryd.underlying9 w.heap.size s.size _ (Nm.fold s.data.toList) rfl HO'.out ?_)
      go_ret
      exact ⟨rfl, HB.out⟩

theorem Fold_any (s : ByteArray) (w : World) (hs : s.size ≤ 140737488355328) :
    Calls Tryd.prog 18 #[.string s] w fun e w' => e = .returned (.string ⟨(Nm.fold s.data.toList).toArray⟩) ∧ Below w.heap.size w w' := by
  go_enter Tryd.func18, Tryd.ntmps18
  go_wp2_with (first | (go_at_call 22; refine (each_fold s _ hs).mono ?_; rintro e w1 ⟨rfl, hb1⟩))
  go_ret
  exact ⟨rfl, hb1⟩

-- the document's answer: []byte(s), each letter turned in place, and back.
def lowAt (l : List UInt8) (k j : Nat) : UInt8 := if j < k then Nm.small (l.getD j 0) else l.getD j 0
theorem lowAt_lt {l : List UInt8} {k j : Nat} (h : j < k) : lowAt l k j = Nm.small (l.getD j 0) := if_pos h
theorem lowAt_ge {l : List UInt8} {k j : Nat} (h : k ≤ j) : lowAt l k j = l.getD j 0 := if_neg (by omega)

end Go.Proofs.YtklpjlligmklfaaDoor
