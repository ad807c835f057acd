/- Texts of the proofs, merged. -/
import Derived.Test.YtmieakkhpkclpaaDoorG26
import Derived.Test.YtmieakkhpkclpaaDoorG19
/- Records in small letters, and their keys: the document's; a record's key: the program's. -/
namespace Go.Proofs.YtmieakkhpkclpaaDoor
open Go.RowKit

set_option maxHeartbeats 400000 in
set_option maxRecDepth 100000 in
theorem r5Fold_any (r : Rv) (w : World) (ht : r.ty ≤ 65535) (hs : r.short) :
    Calls Tryd.prog 36 #[r.val] w fun e w' => e = .returned r.fold.val ∧ Below w.heap.size w w' := by
  have HN := Lib.hid (fun W : World => refFold_any r.nm W hs.1)
  have HD := Lib.hid (fun (W : World) => (show Calls Tryd.prog 58 #[.int .u16 r.ty, .agg r.d.cells] W (fun e w' => e = .returned (.agg (r.d.fold r.ty).cells) ∧ Below W.heap.size W w') from rdFold_any r.ty r.d W ht hs.2.1 hs.2.2))
  have hf : r.fold = { r with nm := ⟨(Nm.fold r.nm.data.toList).toArray⟩, d := r.d.fold r.ty } := rfl
  generalize (⟨(Nm.fold r.nm.data.toList).toArray⟩ : ByteArray) = N at *
  generalize r.d.fold r.ty = D at *
  obtain ⟨R, hR⟩ : ∃ R, r.fold = R := ⟨_, rfl⟩
  rw [hR]
  rw [hR] at hf
  have HRES := Lib.hid hf
  clear hR hf
  clear hs ht
  have hval : r.val = .agg r.cells := rfl
  have hd8 : ∀ d : Dv, d.val = .agg d.cells := fun _ => rfl
  have hi12 : (Tryd.prog.info? 43).map (·.size) = some 12 := by kernel_rfl
  have HI := Lib.hid hi12
  have hi8 : (Tryd.prog.info? 41).map (·.size) = some 8 := by kernel_rfl
  have HI8 := Lib.hid hi8
  clear hi12 hi8
  have HX0 : Hid (Has ((w.alloc (.cells r.cells 43)).alloc (.cells #[.string ⟨#[]⟩, .int .u16 0, .int .u16 0, .int .u32 0, .string ⟨#[]⟩, .string ⟨#[]⟩, .string ⟨#[]⟩, .int .u32 0, .int .u32 0, .int .u32 0, .int .u32 0, .int .u32 0] 43)) w.heap.size 43 r.cells) := (Has.fresh w _ _).alloc _
  have HZ0 : Hid (Has ((w.alloc (.cells r.cells 43)).alloc (.cells #[.string ⟨#[]⟩, .int .u16 0, .int .u16 0, .int .u32 0, .string ⟨#[]⟩, .string ⟨#[]⟩, .string ⟨#[]⟩, .int .u32 0, .int .u32 0, .int .u32 0, .int .u32 0, .int .u32 0] 43)) (w.heap.size + 1) 43 #[.string ⟨#[]⟩, .int .u16 0, .int .u16 0, .int .u32 0, .string ⟨#[]⟩, .string ⟨#[]⟩, .string ⟨#[]⟩, .int .u32 0, .int .u32 0, .int .u32 0, .int .u32 0, .int .u32 0]) := by
    have h := Has.fresh (w.alloc (.cells r.cells 43)) 43 #[.string ⟨#[]⟩, .int .u16 0, .int .u16 0, .int .u32 0, .string ⟨#[]⟩, .string ⟨#[]⟩, .string ⟨#[]⟩, .int .u32 0, .int .u32 0, .int .u32 0, .int .u32 0, .int .u32 0]
    have e : (w.alloc (.cells r.cells 43)).heap.size = w.heap.size + 1 := by simp
    rw [e] at h
    exact h
  have HB0 : Hid (Below w.heap.size w ((w.alloc (.cells r.cells 43)).alloc (.cells #[.string ⟨#[]⟩, .int .u16 0, .int .u16 0, .int .u32 0, .string ⟨#[]⟩, .string ⟨#[]⟩, .string ⟨#[]⟩, .int .u32 0, .int .u32 0, .int .u32 0, .int .u32 0, .int .u32 0] 43))) := ((Below.refl _ _).alloc (Nat.le_refl _) _).alloc (by simp) _
  have c0 := rv_nm HX0.out
  go_enter Tryd.func36, Tryd.ntmps36
  go_wp2_with (first
    | (go_at_call 38
       refine (HN.out _).mono ?_
       rintro e w1 ⟨rfl, B1⟩
       have hs1 := B1.size
       simp only [World.size_alloc] at hs1
       have HX1 := Lib.hid (HX0.out.below B1 (by simp; omega))
       have HZ1 := Lib.hid (HZ0.out.below B1 (by simp))
       have HB1 := Lib.hid (HB0.out.trans (B1.mono (by simp; omega)))
       have c1 := rv_nm HX1.out
       have f1 := HX1.out.free 0
       have HX2 : Hid (Has (w1.setCell ⟨w.heap.size, 0, none⟩ (.string N)) w.heap.size 43 ({ r with nm := N } : Rv).cells) := HX1.out.set 0 _
       have c2 : (w1.setCell ⟨w.heap.size, 0, none⟩ (.string N)).cell? ⟨w.heap.size, 1, none⟩ = some (.int .u16 r.ty) := (by have h := rv_ty HX2.out; exact h)
       clear B1)
    | (refine wpList_load_mid rfl 41 (.tmp 9) rfl w.heap.size 4 rfl r.d.cells.toList _ (by have h := rv_data HX2.out; exact h) Tryd.underlying41 rfl HI8.out ?_)
    | (go_at_call 58
       refine (HD.out _).mono ?_
       rintro e w2 ⟨rfl, B2⟩
       have hs2 := B2.size
       simp only [World.size_setCell] at hs2
       have HX3 := Lib.hid (HX2.out.below B2 (by simp; omega))
       have HZ3 := Lib.hid ((HZ1.out.far (p := ⟨w.heap.size, 0, none⟩) (by simp) (.string N)).below B2 (by simp; omega))
       have HB3 := Lib.hid ((HB1.out.setCell (p := ⟨w.heap.size, 0, none⟩) (Nat.le_refl _) (.string N)).trans (B2.mono (by simp; omega)))
       have HT3 := Lib.hid (rv_there HX3.out)
       have HX4 : Hid (Has (w2.setCells w.heap.size 4 D.cells.toList) w.heap.size 43 R.cells) := by rw [Hid, HRES.out]; exact (rv_set_data HX3.out D).1
       have HB4 := Lib.hid ((rv_set_data HX3.out D).2 _ (Nat.le_refl _) _ HB3.out)
       have HZ4 := Lib.hid (HZ3.out.farCells (g' := w.heap.size) (by omega) D.cells.toList 4)
       clear B2 HX3 HB3 HZ3 HX2)
    | (refine wpList_store_mid rfl 41 (.tmp 12) (.tmp 11) rfl w.heap.size 4 D.cells rfl rfl HT3.out HI8.out (dv_one _) ?_; revert HX4 HZ4 HB4; generalize w2.setCells w.heap.size 4 D.cells.toList = w3; intro HX4 HB4 HZ4; clear c0 c1 c2 f1 hval hd8 HX1 HZ1 HB1 HX0 HZ0 HB0 HT3 hs1; rename_i Q0 K0 A0; refine wpList_nil ?_; change K0 _ _; refine A0 _ _ ?_; clear A0; go_wp2_with (first | (refine wpList_load_row rfl 43 (.tmp 1) rfl w.heap.size rfl 43 R.cells (0, 0) _ HX4.out Tryd.underlying43 rfl HI.out ?_) | (refine wpList_store_row rfl 43 (.tmp 2) (.tmp 13) rfl (w.heap.size + 1) R.cells rfl rfl 43 _ HZ4.out HI.out rfl (rv_one R) ?_))))
  refine bodyPost_ret (results_cell_row rfl _ _ (w.heap.size + 1) 43 R.cells (0, 0) _ rfl (HZ4.out.row _) Tryd.underlying43 rfl HI.out) rfl ?_
  exact ⟨rfl, below_setRow HB4.out (by omega) _⟩
end Go.Proofs.YtmieakkhpkclpaaDoor
