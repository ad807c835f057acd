/- Texts of the proofs, merged. -/
import Derived.Test.YtbipcflmmfipbaaDoorG5
import Derived.Test.YtbipcflmmfipbaaDoorG13
/- Fold: the program's. -/
namespace Go.Proofs.YtbipcflmmfipbaaDoor
open Go.RowKit

/-- one part more in small letters. -/
def fold1 (d : Dv) (p : Nat) : Dv :=
  if p = 5 ∨ p = 6 then { d with host := ⟨(Nm.fold d.host.data.toList).toArray⟩ } else if p = 7 then { d with mail := ⟨(Nm.fold d.mail.data.toList).toArray⟩ } else d
theorem fold1_size (d : Dv) (p : Nat) : (fold1 d p).host.size = d.host.size ∧ (fold1 d p).mail.size = d.mail.size := by
  have h : ∀ s : ByteArray, (⟨(Nm.fold s.data.toList).toArray⟩ : ByteArray).size = s.size := fun s => by
    show ((Nm.fold s.data.toList).toArray).size = s.size
    simp [Nm.fold]
  unfold fold1
  split
  · exact ⟨h _, rfl⟩
  split
  · exact ⟨rfl, h _⟩
  · exact ⟨rfl, rfl⟩
theorem dv_one (D : Dv) : (D.cells.all fun x => x.oneCell') = true := by simp [Dv.cells, Value.oneCell']
theorem foldAll (t : Nat) (d : Dv) : (Rd.parts t).foldl fold1 d = d.fold t := by
  refine Rd.by_type (P := fun t => (Rd.parts t).foldl fold1 d = d.fold t) rfl rfl rfl rfl rfl rfl rfl rfl rfl (fun t a b c e f g h i j => ?_) t
  rw [Rd.parts_other a b c e f g h i j]
  have h1 : Rd.isHost t = false := by simp [Rd.isHost, *]
  have h2 : Rd.isMail t = false := by simp [Rd.isMail, *]
  unfold Dv.fold
  rw [h1, h2]
  rfl
set_option maxHeartbeats 4000000 in
set_option maxRecDepth 100000 in
theorem pdFold_any (t : Nat) (d : Dv) (w : World) (ht : t ≤ 65535) (hL : LayR w) (hh : d.host.size ≤ 140737488355328) (hm : d.mail.size ≤ 140737488355328) :
    Calls Tryd.prog 69 #[.int .u16 t, d.val] w fun e w' => e = .returned (d.fold t).val ∧ Below w.heap.size w w' := by
  obtain ⟨R, hR⟩ : ∃ R, (d.fold t).val = R := ⟨_, rfl⟩
  rw [hR]
  have HRES := Lib.hid hR
  clear hR
  have HL := Lib.hid hL
  clear hL
  have hval : d.val = .agg d.cells := rfl
  have HX0 : Hid (Has (w.alloc (.cells d.cells 27)) w.heap.size 27 d.cells) := Has.fresh w _ _
  have HPO : ∀ W : World, LayR W → Hid (Calls Tryd.prog 41 #[.int .u16 t] W fun e w' => e = .returned (.agg (partC t)) ∧ Below W.heap.size W w') := fun W h => partsOf_any t W ht h
  go_enter Tryd.func69, Tryd.ntmps69
  go_wp2_with (go_at_call 41; refine (HPO _ (HL.out.below (((Below.refl _ _).alloc (Nat.le_refl _) _).alloc (by simp) _) (Nat.le_refl _))).out.mono ?_; rintro e w1 ⟨rfl, B1⟩)
  have HB : Hid (Below w.heap.size w w1) := ((((Below.refl _ _).alloc (Nat.le_refl _) _).alloc (by simp) _).trans (B1.mono (by simp; omega)))
  have HD : Hid (Has w1 w.heap.size 27 d.cells) := (HX0.out.alloc _).below B1 (by simp; omega)
  have HG : Hid (Has w1 (w.heap.size + 1) 27 #[.string ⟨#[]⟩, .string ⟨#[]⟩, .string ⟨#[]⟩, .int .u32 0, .int .u32 0, .int .u32 0, .int .u32 0, .int .u32 0]) := by
    have h : Has ((w.alloc (.cells d.cells 27)).alloc (.cells #[.string ⟨#[]⟩, .string ⟨#[]⟩, .string ⟨#[]⟩, .int .u32 0, .int .u32 0, .int .u32 0, .int .u32 0, .int .u32 0] 27)) (w.alloc (.cells d.cells 27)).heap.size 27 _ := Has.fresh _ _ _
    have h2 := h.below B1 (by simp)
    have e : (w.alloc (.cells d.cells 27)).heap.size = w.heap.size + 1 := by simp
    rw [e] at h2
    exact h2
  have hz1 : w.heap.size + 1 < w1.heap.size := by have := B1.size; simp at this; omega
  clear B1 HX0
  go_loopw [9] (fun i wr => ∃ k : Nat, i = .int .i64 k ∧ k ≤ 7 ∧ Hid (Has wr w.heap.size 27 (((Rd.parts t).take k).foldl fold1 d).cells) ∧ Hid (Has wr (w.heap.size + 1) 27 #[.string ⟨#[]⟩, .string ⟨#[]⟩, .string ⟨#[]⟩, .int .u32 0, .int .u32 0, .int .u32 0, .int .u32 0, .int .u32 0]) ∧ Hid (Below w.heap.size w wr) ∧
      (((Rd.parts t).take k).foldl fold1 d).host.size ≤ 140737488355328 ∧ (((Rd.parts t).take k).foldl fold1 d).mail.size ≤ 140737488355328) (fun i _ => 7 - (intOf i).toNat)
  case atStart => exact ⟨0, rfl, by omega, HD, HG, HB, hh, hm⟩
  case round =>
    obtain ⟨k, rfl, hk, HD1, HG1, HB1, hh1, hm1⟩ := hrel
    have hg2 := HG1.out.lt
    by_cases hlt : k < 7
    · have hkl : k < (Rd.parts t).length := by rw [Rd.parts_len]; exact hlt
      have hix := part_at hkl
      have hp9 : (Rd.parts t)[k] ≤ 9 := Rd.parts_lt t _ (List.getElem_mem hkl)
      have htk : (Rd.parts t).take (k + 1) = (Rd.parts t).take k ++ [(Rd.parts t)[k]] := List.take_succ_eq_append_getElem hkl
      have hfo : ((Rd.parts t).take (k + 1)).foldl fold1 d = fold1 (((Rd.parts t).take k).foldl fold1 d) (Rd.parts t)[k] := by rw [htk, List.foldl_append]; rfl
      have hs1 := fold1_size (((Rd.parts t).take k).foldl fold1 d) (Rd.parts t)[k]
      have HFO := Lib.hid hfo
      have HS1 := Lib.hid hs1
      clear hfo htk hs1
      generalize (Rd.parts t)[k] = p at *
      generalize ((Rd.parts t).take k).foldl fold1 d = d1 at *
      obtain ⟨q, hq⟩ : ∃ q : Int, ((p : Nat) : Int) = q := ⟨_, rfl⟩
      rw [hq] at hix
      have HQ := Lib.hid hq
      clear hq
      have hq := HQ.out
      have ch := dv_host HD1.out
      have cm := dv_mail HD1.out
      by_cases p7 : p = 5 ∨ p = 6 ∨ p = 7
      · have HF1 := Lib.hid (fun W : World => Fold_any d1.host W hh1)
        have HF2 := Lib.hid (fun W : World => Fold_any d1.mail W hm1)
        by_cases p5 : p = 7
        · obtain rfl : q = 7 := by omega
          subst p5
          clear hq p7
          go_wp2_with (go_at_call 67; refine (HF2.out _).mono ?_; rintro e w2 ⟨rfl, B2⟩; have hs2 := B2.size; have HD2 := Lib.hid (HD1.out.below B2 (by omega)); have HG2 := Lib.hid (HG1.out.below B2 (by omega)); have HB2 := Lib.hid (HB1.out.trans (B2.mono (by omega))); have cm2 := dv_mail HD2.out; have fm2 := HD2.out.free 2; clear B2)
          go_roundw
          case rel => exact ⟨k + 1, by go_num, by omega, by rw [HFO.out]; exact HD2.out.set 2 _, HG2.out.far (by simp) _, HB2.out.setCell (by simp) _, by rw [HFO.out, HS1.out.1]; exact hh1, by rw [HFO.out, HS1.out.2]; exact hm1⟩
          case measure => simp [intOf]; omega
        · rcases (by omega : (p = 5 ∧ q = 5) ∨ (p = 6 ∧ q = 6)) with ⟨rfl, rfl⟩ | ⟨rfl, rfl⟩
          all_goals
            (clear hq p7 p5
             go_wp2_with (go_at_call 67; refine (HF1.out _).mono ?_; rintro e w2 ⟨rfl, B2⟩; have hs2 := B2.size; have HD2 := Lib.hid (HD1.out.below B2 (by omega)); have HG2 := Lib.hid (HG1.out.below B2 (by omega)); have HB2 := Lib.hid (HB1.out.trans (B2.mono (by omega))); have ch2 := dv_host HD2.out; have fh2 := HD2.out.free 1; clear B2)
             go_roundw
             case rel => exact ⟨k + 1, by go_num, by omega, by rw [HFO.out]; exact HD2.out.set 1 _, HG2.out.far (by simp) _, HB2.out.setCell (by simp) _, by rw [HFO.out, HS1.out.1]; exact hh1, by rw [HFO.out, HS1.out.2]; exact hm1⟩
             case measure => simp [intOf]; omega)
      · have hf1 : fold1 d1 p = d1 := by unfold fold1; rw [if_neg (by omega), if_neg (by omega)]
        have h5 : ((q : Int) == 5) = false := beq_eq_false_iff_ne.2 (by omega)
        have h6 : ((q : Int) == 6) = false := beq_eq_false_iff_ne.2 (by omega)
        have h7 : ((q : Int) == 7) = false := beq_eq_false_iff_ne.2 (by omega)
        have HF0 := Lib.hid hf1
        clear hf1 hq p7
        go_wp2
        go_roundw
        case rel => exact ⟨k + 1, by go_num, by omega, by rw [HFO.out, HF0.out]; exact HD1, HG1, HB1, by rw [HFO.out, HF0.out]; exact hh1, by rw [HFO.out, HF0.out]; exact hm1⟩
        case measure => simp [intOf]; omega
    · obtain rfl : k = 7 := by omega
      have hall : (Rd.parts t).take 7 = Rd.parts t := List.take_of_length_le (by rw [Rd.parts_len]; omega)
      rw [hall, foldAll] at HD1
      have hi8 : (Tryd.prog.info? 27).map (·.size) = some 8 := by kernel_rfl
      have HI := Lib.hid hi8
      clear hi8 hall
      generalize d.fold t = D at *
      go_wp2_with (first
        | (refine wpList_load_row rfl 27 (.tmp 3) rfl w.heap.size rfl 27 D.cells (0, 0) _ HD1.out Tryd.underlying27 rfl HI.out ?_)
        | (refine wpList_store_row rfl 27 (.tmp 4) (.tmp 27) rfl (w.heap.size + 1) D.cells rfl rfl 27 _ HG1.out HI.out rfl (dv_one D) ?_))
      refine bodyPost_ret (results_cell_row rfl _ _ (w.heap.size + 1) 27 D.cells (0, 0) _ rfl (HG1.out.row _) Tryd.underlying27 rfl HI.out) rfl ?_
      exact ⟨by rw [← HRES.out]; rfl, below_setRow HB1.out (by omega) _⟩
end Go.Proofs.YtbipcflmmfipbaaDoor
