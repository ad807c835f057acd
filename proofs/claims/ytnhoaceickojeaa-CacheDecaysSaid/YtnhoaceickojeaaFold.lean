/- Fold and the document's own answer to it: each byte in small letters. -/
import Derived.Test.YtnhoaceickojeaaBase
namespace Go.Proofs.Ytnhoaceickojeaa
open Go.RowKit

set_option maxHeartbeats 400000 in
set_option maxRecDepth 100000 in
theorem each_fold (s : ByteArray) (w : World) (hs : s.size ≤ 140737488355328) :
    Calls Try.prog 62 #[.string s, .func (.func 63) #[] #[]] w fun e w' => e = .returned (.string ⟨(Nm.fold s.data.toList).toArray⟩) ∧ Below w.heap.size w w' := by
  obtain ⟨i0, hi, hz0, hz1, hz2⟩ := info_parts Try.infoByte
  go_enter Try.func62, Try.ntmps62
  go_wp2_with (first | (at_make; refine wpList_make_own _ rfl _ _ 114 rfl w.heap.size 5 i0 _ 1 Try.underlying114 hi hz0 hz1 .i64 .i64 s.size s.size rfl rfl rfl (by rw [hz2]; omega) (by unfold maxLen; omega) (Nat.le_refl _) ?_; intro w1 hown1 hg1))
  go_loopw [5, 12] (fun v i wr => ∃ k : Nat, k ≤ s.size ∧ i = .int .i64 k ∧ wr.ownsRow w.heap.size 5 1 v k (bv ((s.data.toList.take k).map Nm.small)) ∧ Below w.heap.size w wr) (fun _ i _ => s.size - (intOf i).toNat)
  case atStart => exact ⟨0, Nat.zero_le _, rfl, by simpa [bv] using hown1, (Below.refl _ _).grown hg1 (Nat.le_refl _) (by simp)⟩
  case round =>
    obtain ⟨k, hk, rfl, hown, hb⟩ := hrel
    have HO := Lib.hid hown
    have HB := Lib.hid hb
    have hbs := hb.size
    clear hown hb
    by_cases hlt : k < s.size
    · go_wp2_with (first | (go_at_call 63; refine (fold1_any w.heap.size _ k _ s[k] _ hbs HO.out (by omega)).mono ?_; rintro e w2 ⟨v', rfl, hown', hb'⟩))
      go_roundw
      case rel => exact ⟨k + 1, by omega, by go_num, by rw [bv_take_succ s _ k hlt]; exact hown', HB.out.trans hb'⟩
      case measure => simp [intOf]; omega
    · obtain rfl : k = s.size := by omega
      have HO' : Hid (wr.ownsRow w.heap.size 5 1 u5 s.size (bv (Nm.fold s.data.toList))) := by
        have := HO.out
        rw [List.take_of_length_le (by simp)] at this
        exact this
      clear HO
      go_wp2_with (refine wpList_convert_own _ rfl 114 9 (.tmp 22) rfl 5 Try.underlying114 Try.underlying5 Try.underlying9 w.heap.size s.size _ (Nm.fold s.data.toList) rfl HO'.out ?_)
      go_ret
      exact ⟨rfl, HB.out⟩

theorem Fold_any (s : ByteArray) (w : World) (hs : s.size ≤ 140737488355328) :
    Calls Try.prog 52 #[.string s] w fun e w' => e = .returned (.string ⟨(Nm.fold s.data.toList).toArray⟩) ∧ Below w.heap.size w w' := by
  go_enter Try.func52, Try.ntmps52
  go_wp2_with (first | (go_at_call 62; refine (each_fold s _ hs).mono ?_; rintro e w1 ⟨rfl, hb1⟩))
  go_ret
  exact ⟨rfl, hb1⟩

-- the document's answer: []byte(s), each letter turned in place, and back.
def lowAt (l : List UInt8) (k j : Nat) : UInt8 := if j < k then Nm.small (l.getD j 0) else l.getD j 0
theorem lowAt_lt {l : List UInt8} {k j : Nat} (h : j < k) : lowAt l k j = Nm.small (l.getD j 0) := if_pos h
theorem lowAt_ge {l : List UInt8} {k j : Nat} (h : k ≤ j) : lowAt l k j = l.getD j 0 := if_neg (by omega)

set_option maxHeartbeats 400000 in
set_option maxRecDepth 100000 in
theorem Low_any (s : ByteArray) (w : World) (hs : s.size ≤ 140737488355328) :
    Calls Try.prog 48 #[.string s] w fun e w' => e = .returned (.string ⟨(Nm.fold s.data.toList).toArray⟩) ∧ Below w.heap.size w w' := by
  go_enter Try.func48, Try.ntmps48
  have kc := fun (w : World) => run_bytes_of_string (P := Try.prog) w 9 114 5 s Try.underlying9 Try.underlying114 Try.underlying5
  go_wp2
  have hcell : ∀ j, j < s.size → (w.alloc (.cells (bytesRow s (grownCap w s.size 0 5)) 5 ((bytesRow s (grownCap w s.size 0 5)).size, (bytesRow s (grownCap w s.size 0 5)).size + 1))).drew.cell? ⟨w.heap.size, j, none⟩ = some (.int .u8 ((lowAt s.data.toList 0 j).toNat : Int)) := by
    intro j hj
    show (w.alloc _).cell? _ = _
    rw [World.cell?_alloc_mark, bytesRow_at s _ j hj, lowAt_ge (Nat.zero_le _)]
    simp [List.getD, hj]
  have hsz : s.size ≤ (bytesRow s (grownCap w s.size 0 5)).size := by simp [bytesRow]
  have hfree : ∀ j, j < s.size → (w.alloc (.cells (bytesRow s (grownCap w s.size 0 5)) 5 ((bytesRow s (grownCap w s.size 0 5)).size, (bytesRow s (grownCap w s.size 0 5)).size + 1))).drew.frozen? ⟨w.heap.size, j, none⟩ = false := by
    intro j hj
    show (w.alloc _).frozen? _ = _
    rw [World.frozen?_alloc_mark, decide_eq_false (by omega)]; rfl
  have hb0 : Below w.heap.size w (w.alloc (.cells (bytesRow s (grownCap w s.size 0 5)) 5 ((bytesRow s (grownCap w s.size 0 5)).size, (bytesRow s (grownCap w s.size 0 5)).size + 1))).drew := ((Below.refl _ _).alloc (Nat.le_refl _) _).drew
  generalize (w.alloc (.cells (bytesRow s (grownCap w s.size 0 5)) 5 ((bytesRow s (grownCap w s.size 0 5)).size, (bytesRow s (grownCap w s.size 0 5)).size + 1))).drew = w1 at *
  generalize grownCap w s.size 0 5 = cap
  have HC := Lib.hid hcell
  have HF := Lib.hid hfree
  clear hcell hfree hsz
  go_loopw [4] (fun i wr => ∃ k : Nat, k ≤ s.size ∧ i = .int .i64 k ∧ (∀ j, j < s.size → wr.cell? ⟨w.heap.size, j, none⟩ = some (.int .u8 ((lowAt s.data.toList k j).toNat : Int))) ∧ (∀ j, j < s.size → wr.frozen? ⟨w.heap.size, j, none⟩ = false) ∧ Below w.heap.size w wr) (fun i _ => s.size - (intOf i).toNat)
  case atStart => exact ⟨0, Nat.zero_le _, rfl, HC.out, HF.out, hb0⟩
  case round =>
    obtain ⟨k, hk, rfl, hc, hf, hb⟩ := hrel
    have HC := Lib.hid hc
    have HF := Lib.hid hf
    have HB := Lib.hid hb
    clear hc hf hb
    by_cases hlt : k < s.size
    · have hck := HC.out k hlt
      rw [lowAt_ge (Nat.le_refl _)] at hck
      have hfk := HF.out k hlt
      have HV := Lib.hid (Nm.small_val (s.data.toList.getD k 0))
      have hc8 := (s.data.toList.getD k 0).toNat_lt
      have HL := Lib.hid (fun j => @lowAt_lt s.data.toList (k + 1) j)
      have hstep : ∀ (u : Int), u = ((Nm.small (s.data.toList.getD k 0)).toNat : Int) → ∀ j, j < s.size → (wr.setCell ⟨w.heap.size, k, none⟩ (.int .u8 u)).cell? ⟨w.heap.size, j, none⟩ = some (.int .u8 ((lowAt s.data.toList (k + 1) j).toNat : Int)) := by
        intro u hu j hj
        by_cases hjk : j = k
        · subst hjk
          rw [lowAt_lt (by omega), ← hu]
          exact cell_set_same _ hck
        · rw [cell_set_off _ (Ne.symm hjk), HC.out j hj]
          unfold lowAt
          by_cases h : j < k
          · rw [if_pos h, if_pos (by omega)]
          · rw [if_neg h, if_neg (by omega)]
      have HS := Lib.hid hstep
      clear hstep
      generalize s.data.toList.getD k 0 = c at *
      have hfin : ∀ u : Int, u = ((Nm.small c).toNat : Int) → u = (c.toNat : Int) → ∀ j, j < s.size → wr.cell? ⟨w.heap.size, j, none⟩ = some (.int .u8 ((lowAt s.data.toList (k + 1) j).toNat : Int)) := by
        intro u hu hu2 j hj
        have := HS.out u hu j hj
        by_cases hjk : j = k
        · subst hjk
          rw [cell_set_same _ hck] at this
          rw [hck, ← hu2]; exact this
        · rwa [cell_set_off _ (Ne.symm hjk)] at this
      have HFI := Lib.hid hfin
      clear hfin
      by_cases h1a : 65 ≤ c.toNat
      · by_cases h1b : c.toNat ≤ 90
        · go_wp2
          go_roundw
          case rel => exact ⟨k + 1, by omega, by go_num, HS.out _ (by rw [HV.out, if_pos ⟨h1a, h1b⟩]; omega), fun j hj => by rw [World.frozen?_setCell]; exact HF.out j hj, HB.out.setCell (Nat.le_refl _) _⟩
          case measure => simp [intOf]; omega
        · go_wp2
          go_roundw
          case rel => exact ⟨k + 1, by omega, by go_num, HFI.out _ (by rw [HV.out, if_neg (by omega)]) rfl, HF.out, HB.out⟩
          case measure => simp [intOf]; omega
      · go_wp2
        go_roundw
        case rel => exact ⟨k + 1, by omega, by go_num, HFI.out _ (by rw [HV.out, if_neg (by omega)]) rfl, HF.out, HB.out⟩
        case measure => simp [intOf]; omega
    · obtain rfl : k = s.size := by omega
      have HFO : Hid (∀ j (hj : j < (Nm.fold s.data.toList).length), wr.cell? ⟨w.heap.size, j, none⟩ = some (.int .u8 ((Nm.fold s.data.toList)[j].toNat : Int))) := fun j hj => by
        have hj' : j < s.size := by simpa [Nm.fold] using hj
        rw [HC.out j hj', lowAt_lt hj']
        rw [Nm.fold_get]
      have hln : s.size = (Nm.fold s.data.toList).length := by simp [Nm.fold]
      have HLN := Lib.hid hln
      clear hln
      go_wp2_with (refine wpList_convert_cells _ rfl 114 9 (.tmp 33) rfl 5 Try.underlying114 Try.underlying5 Try.underlying9 w.heap.size s.size _ (Nm.fold s.data.toList) HLN.out rfl HFO.out ?_)
      go_ret
      exact ⟨rfl, HB.out⟩

theorem refFold_any (s : ByteArray) (w : World) (hs : s.size ≤ 140737488355328) :
    Calls Try.prog 25 #[.string s] w fun e w' => e = .returned (.string ⟨(Nm.fold s.data.toList).toArray⟩) ∧ Below w.heap.size w w' := by
  go_enter Try.func25, Try.ntmps25
  go_wp2_with (first | (go_at_call 48; refine (Low_any s _ hs).mono ?_; rintro e w1 ⟨rfl, hb1⟩))
  go_ret
  exact ⟨rfl, hb1⟩
end Go.Proofs.Ytnhoaceickojeaa
