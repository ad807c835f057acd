/- Texts of the proofs, merged. -/
import Derived.Test.YtcillepoibpfiaaDoorG38
import Derived.Test.YtcillepoibpfiaaDoorG28
/- The key of a record, in small letters: the program's and the document's. -/
namespace Go.Proofs.YtcillepoibpfiaaDoor
open Go.RowKit

theorem kv_val (r : Rv) : r.fold.kv.val = .agg #[.string ⟨(Nm.fold r.nm.data.toList).toArray⟩, .int .u16 r.ty, .int .u16 r.cl] := rfl
set_option maxHeartbeats 400000 in
set_option maxRecDepth 100000 in
theorem keyOfP_any (r : Rv) (w : World) (hs : r.short) :
    Calls Tryd.prog 13 #[r.val] w fun e w' => e = .returned r.fold.kv.val ∧ Below w.heap.size w w' := by
  have HN := Lib.hid (fun W : World => Fold_any r.nm W hs.1)
  have HK := Lib.hid (fun W : World => (show Calls Tryd.prog 45 #[.agg r.cells] W (fun e w' => e = .returned (.agg #[.string r.nm, .int .u16 r.ty, .int .u16 r.cl]) ∧ Below W.heap.size W w') from keyOf_any r W))
  rw [kv_val]
  generalize (⟨(Nm.fold r.nm.data.toList).toArray⟩ : ByteArray) = N at *
  clear hs
  have HBx : Hid (Below w.heap.size w ((w.alloc (.cells r.cells 29)).alloc (.cells #[.string ⟨#[]⟩, .int .u16 0, .int .u16 0] 31))) := ((Below.refl _ _).alloc (Nat.le_refl _) _).alloc (by simp) _
  have HGx : Hid (Has ((w.alloc (.cells r.cells 29)).alloc (.cells #[.string ⟨#[]⟩, .int .u16 0, .int .u16 0] 31)) (w.heap.size + 1) 31 #[.string ⟨#[]⟩, .int .u16 0, .int .u16 0]) := by
    have h := Has.fresh (w.alloc (.cells r.cells 29)) 31 #[.string ⟨#[]⟩, .int .u16 0, .int .u16 0]
    have e : (w.alloc (.cells r.cells 29)).heap.size = w.heap.size + 1 := by simp
    rw [e] at h
    exact h
  obtain ⟨nm, ty, cl, ttl, ra, ho, ma, n0, n1, n2, n3, n4⟩ := r
  dsimp only [Rv.val, Rv.cells] at *
  have hi3 : (Tryd.prog.info? 31).map (·.size) = some 3 := by kernel_rfl
  have HI := Lib.hid hi3
  clear hi3
  go_enter Tryd.func13, Tryd.ntmps13
  go_wp2_with (first
    | (go_at_call 45
       revert HGx HBx
       generalize (w.alloc _).alloc _ = w0
       intro HBx HGx
       refine (HK.out _).mono ?_
       rintro e w1 ⟨rfl, B1⟩
       have hlt := HGx.out.lt
       have HGy := Lib.hid (HGx.out.below B1 hlt)
       have HBy := Lib.hid (HBx.out.trans (B1.mono HBx.out.size))
       have HSZ := Lib.hid B1.size
       have HLT := Lib.hid hlt
       clear B1 HGx HBx hlt)
    | (go_at_call 46
       refine (HN.out _).mono ?_
       rintro e w2 ⟨rfl, B2⟩
       have HV2 := Lib.hid ((Has.fresh w1 31 #[.string nm, .int .u16 ty, .int .u16 cl]).below B2 (by simp))
       have HG2 := Lib.hid ((HGy.out.alloc _).below B2 (HGy.out.alloc _).lt)
       have HB2 := Lib.hid ((HBy.out.alloc HBy.out.size (.cells #[.string nm, .int .u16 ty, .int .u16 cl] 31)).trans (B2.mono (HBy.out.alloc HBy.out.size _).size))
       have c1 := (three HV2.out).1
       have f1 := HV2.out.free 0
       have HV3 : Hid (Has (w2.setCell ⟨w1.heap.size, 0, none⟩ (.string N)) w1.heap.size 31 #[.string N, .int .u16 ty, .int .u16 cl]) := HV2.out.set 0 _
       have HG3 : Hid (Has (w2.setCell ⟨w1.heap.size, 0, none⟩ (.string N)) (w.heap.size + 1) 31 #[.string ⟨#[]⟩, .int .u16 0, .int .u16 0]) := HG2.out.far (p := ⟨w1.heap.size, 0, none⟩) (by have := HLT.out; have := HSZ.out; show w.heap.size + 1 ≠ w1.heap.size; omega) _
       have HB3 : Hid (Below w.heap.size w (w2.setCell ⟨w1.heap.size, 0, none⟩ (.string N))) := HB2.out.setCell (p := ⟨w1.heap.size, 0, none⟩) HBy.out.size _
       clear B2 HV2 HG2 HB2)
    | (refine wpList_load_row rfl 31 (.tmp 3) rfl w1.heap.size rfl 31 #[.string N, .int .u16 ty, .int .u16 cl] (0, 0) _ HV3.out Tryd.underlying31 rfl HI.out ?_)
    | (refine wpList_store_row rfl 31 (.tmp 2) (.tmp 10) rfl (w.heap.size + 1) #[.string N, .int .u16 ty, .int .u16 cl] rfl rfl 31 _ HG3.out HI.out rfl (by simp [Value.oneCell']) ?_))
  refine bodyPost_ret (results_cell_row rfl _ _ (w.heap.size + 1) 31 #[.string N, .int .u16 ty, .int .u16 cl] (0, 0) _ rfl (HG3.out.row _) Tryd.underlying31 rfl HI.out) rfl ?_
  exact ⟨rfl, below_setRow HB3.out (by omega) _⟩
set_option maxHeartbeats 4000000 in
set_option maxRecDepth 100000 in
theorem keyOfR_any (r : Rv) (w : World) (hs : r.short) :
    Calls Tryd.prog 14 #[r.val] w fun e w' => e = .returned r.fold.kv.val ∧ Below w.heap.size w w' := by
  have HN := Lib.hid (fun W : World => refFold_any r.nm W hs.1)
  rw [kv_val]
  generalize (⟨(Nm.fold r.nm.data.toList).toArray⟩ : ByteArray) = N at *
  clear hs
  have HBx : Hid (Below w.heap.size w ((w.alloc (.cells r.cells 29)).alloc (.cells #[.string ⟨#[]⟩, .int .u16 0, .int .u16 0] 31))) := ((Below.refl _ _).alloc (Nat.le_refl _) _).alloc (by simp) _
  have HGx : Hid (Has ((w.alloc (.cells r.cells 29)).alloc (.cells #[.string ⟨#[]⟩, .int .u16 0, .int .u16 0] 31)) (w.heap.size + 1) 31 #[.string ⟨#[]⟩, .int .u16 0, .int .u16 0]) := by
    have h := Has.fresh (w.alloc (.cells r.cells 29)) 31 #[.string ⟨#[]⟩, .int .u16 0, .int .u16 0]
    have e : (w.alloc (.cells r.cells 29)).heap.size = w.heap.size + 1 := by simp
    rw [e] at h
    exact h
  have HRx : Hid (Has ((w.alloc (.cells r.cells 29)).alloc (.cells #[.string ⟨#[]⟩, .int .u16 0, .int .u16 0] 31)) w.heap.size 29 r.cells) := (Has.fresh w _ _).alloc _
  obtain ⟨nm, ty, cl, ttl, ra, ho, ma, n0, n1, n2, n3, n4⟩ := r
  dsimp only [Rv.val, Rv.cells] at *
  have hi3 : (Tryd.prog.info? 31).map (·.size) = some 3 := by kernel_rfl
  have HI := Lib.hid hi3
  clear hi3
  go_enter Tryd.func14, Tryd.ntmps14
  go_wp2
  revert HRx HGx HBx
  generalize (w.alloc _).alloc _ = w0
  intro HBx HGx HRx
  have HB1 : Hid (Below w.heap.size w w0.drew) := HBx.out.drew
  have HG1 : Hid (Has w0.drew (w.heap.size + 1) 31 #[.string ⟨#[]⟩, .int .u16 0, .int .u16 0]) := HGx.out
  have HR1 : Hid (Has w0.drew w.heap.size 29 #[.string nm, .int .u16 ty, .int .u16 cl, .int .u32 ttl, .string ra, .string ho, .string ma, .int .u32 n0, .int .u32 n1, .int .u32 n2, .int .u32 n3, .int .u32 n4]) := HRx.out
  clear HBx HGx
  have HC := Lib.hid (fun (W : World) (h : Has W w.heap.size 29 #[.string nm, .int .u16 ty, .int .u16 cl, .int .u32 ttl, .string ra, .string ho, .string ma, .int .u32 n0, .int .u32 n1, .int .u32 n2, .int .u32 n3, .int .u32 n4]) => (show W.cell? ⟨w.heap.size, 0, none⟩ = some (.string nm) ∧ W.cell? ⟨w.heap.size, 1, none⟩ = some (.int .u16 ty) ∧ W.cell? ⟨w.heap.size, 2, none⟩ = some (.int .u16 cl) from ⟨by rw [h.cell]; rfl, by rw [h.cell]; rfl, by rw [h.cell]; rfl⟩))
  obtain ⟨c0, c1, c2⟩ := HC.out _ HRx.out
  clear HRx
  go_region_with (go_at_call 47; refine (HN.out _).mono ?_; rintro e W2 ⟨rfl, B2⟩; have HR2 := Lib.hid (HR1.out.below B2 HR1.out.lt); have HG2 := Lib.hid (HG1.out.below B2 HG1.out.lt); have HB2 := Lib.hid (HB1.out.trans (B2.mono HB1.out.size)); obtain ⟨d0, d1, d2⟩ := HC.out _ HR2.out; obtain ⟨k0, k1, k2⟩ := three HG2.out; have f0 := HG2.out.free 0; have f1 := HG2.out.free 1; have f2 := HG2.out.free 2; clear B2)
  all_goals
    (have hfin := ((HG2.out.set 0 (.string N)).set 1 (.int .u16 ty)).set 2 (.int .u16 cl)
     simp only [List.setIfInBounds_toArray, List.set_cons_zero, List.set_cons_succ] at hfin
     have HFIN := Lib.hid hfin
     have HBL := Lib.hid (((HB2.out.setCell (p := ⟨w.heap.size + 1, 0, none⟩) (by simp) (.string N)).setCell (p := ⟨w.heap.size + 1, 1, none⟩) (by simp) (.int .u16 ty)).setCell (p := ⟨w.heap.size + 1, 2, none⟩) (by simp) (.int .u16 cl))
     clear hfin
     generalize ((W2.setCell ⟨w.heap.size + 1, 0, none⟩ (.string N)).setCell ⟨w.heap.size + 1, 1, none⟩ (.int .u16 ty)).setCell ⟨w.heap.size + 1, 2, none⟩ (.int .u16 cl) = W3 at *
     go_wp2
     refine bodyPost_ret (results_cell_row rfl _ _ (w.heap.size + 1) 31 #[.string N, .int .u16 ty, .int .u16 cl] (0, 0) _ rfl HFIN.out Tryd.underlying31 rfl HI.out) rfl ?_
     exact ⟨rfl, HBL.out⟩)
end Go.Proofs.YtcillepoibpfiaaDoor
