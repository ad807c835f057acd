/- Texts of the proofs, merged. -/
import Derived.Test.YtmieakkhpkclpaaDoorG38
import Derived.Test.YtmieakkhpkclpaaDoorG28
/- The key of a record, in small letters: the program's and the document's. -/
namespace Go.Proofs.YtmieakkhpkclpaaDoor
open Go.RowKit

theorem kv_val (r : Rv) : r.fold.kv.val = .agg #[.string ⟨(Nm.fold r.nm.data.toList).toArray⟩, .int .u16 r.ty, .int .u16 r.cl] := rfl
set_option maxHeartbeats 4000000 in
set_option maxRecDepth 100000 in
theorem keyOfR_any (r : Rv) (w : World) (hs : r.short) :
    Calls Tryd.prog 21 #[r.val] w fun e w' => e = .returned r.fold.kv.val ∧ Below w.heap.size w w' := by
  have HN := Lib.hid (fun W : World => refFold_any r.nm W hs.1)
  rw [kv_val]
  generalize (⟨(Nm.fold r.nm.data.toList).toArray⟩ : ByteArray) = N at *
  clear hs
  have HBx : Hid (Below w.heap.size w ((w.alloc (.cells r.cells 43)).alloc (.cells #[.string ⟨#[]⟩, .int .u16 0, .int .u16 0] 26))) := ((Below.refl _ _).alloc (Nat.le_refl _) _).alloc (by simp) _
  have HGx : Hid (Has ((w.alloc (.cells r.cells 43)).alloc (.cells #[.string ⟨#[]⟩, .int .u16 0, .int .u16 0] 26)) (w.heap.size + 1) 26 #[.string ⟨#[]⟩, .int .u16 0, .int .u16 0]) := by
    have h := Has.fresh (w.alloc (.cells r.cells 43)) 26 #[.string ⟨#[]⟩, .int .u16 0, .int .u16 0]
    have e : (w.alloc (.cells r.cells 43)).heap.size = w.heap.size + 1 := by simp
    rw [e] at h
    exact h
  have HRx : Hid (Has ((w.alloc (.cells r.cells 43)).alloc (.cells #[.string ⟨#[]⟩, .int .u16 0, .int .u16 0] 26)) w.heap.size 43 r.cells) := (Has.fresh w _ _).alloc _
  obtain ⟨nm, ty, cl, ttl, ra, ho, ma, n0, n1, n2, n3, n4⟩ := r
  dsimp only [Rv.val, Rv.cells] at *
  have hi3 : (Tryd.prog.info? 26).map (·.size) = some 3 := by kernel_rfl
  have HI := Lib.hid hi3
  clear hi3
  go_enter Tryd.func21, Tryd.ntmps21
  go_wp2
  revert HRx HGx HBx
  generalize (w.alloc _).alloc _ = w0
  intro HBx HGx HRx
  have HB1 : Hid (Below w.heap.size w w0.drew) := HBx.out.drew
  have HG1 : Hid (Has w0.drew (w.heap.size + 1) 26 #[.string ⟨#[]⟩, .int .u16 0, .int .u16 0]) := HGx.out
  have HR1 : Hid (Has w0.drew w.heap.size 43 #[.string nm, .int .u16 ty, .int .u16 cl, .int .u32 ttl, .string ra, .string ho, .string ma, .int .u32 n0, .int .u32 n1, .int .u32 n2, .int .u32 n3, .int .u32 n4]) := HRx.out
  clear HBx HGx
  have HC := Lib.hid (fun (W : World) (h : Has W w.heap.size 43 #[.string nm, .int .u16 ty, .int .u16 cl, .int .u32 ttl, .string ra, .string ho, .string ma, .int .u32 n0, .int .u32 n1, .int .u32 n2, .int .u32 n3, .int .u32 n4]) => (show W.cell? ⟨w.heap.size, 0, none⟩ = some (.string nm) ∧ W.cell? ⟨w.heap.size, 1, none⟩ = some (.int .u16 ty) ∧ W.cell? ⟨w.heap.size, 2, none⟩ = some (.int .u16 cl) from ⟨by rw [h.cell]; rfl, by rw [h.cell]; rfl, by rw [h.cell]; rfl⟩))
  obtain ⟨c0, c1, c2⟩ := HC.out _ HRx.out
  clear HRx
  go_region_with (go_at_call 38; refine (HN.out _).mono ?_; rintro e W2 ⟨rfl, B2⟩; have HR2 := Lib.hid (HR1.out.below B2 HR1.out.lt); have HG2 := Lib.hid (HG1.out.below B2 HG1.out.lt); have HB2 := Lib.hid (HB1.out.trans (B2.mono HB1.out.size)); obtain ⟨d0, d1, d2⟩ := HC.out _ HR2.out; obtain ⟨k0, k1, k2⟩ := three HG2.out; have f0 := HG2.out.free 0; have f1 := HG2.out.free 1; have f2 := HG2.out.free 2; clear B2)
  all_goals
    (have hfin := ((HG2.out.set 0 (.string N)).set 1 (.int .u16 ty)).set 2 (.int .u16 cl)
     simp only [List.setIfInBounds_toArray, List.set_cons_zero, List.set_cons_succ] at hfin
     have HFIN := Lib.hid hfin
     have HBL := Lib.hid (((HB2.out.setCell (p := ⟨w.heap.size + 1, 0, none⟩) (by simp) (.string N)).setCell (p := ⟨w.heap.size + 1, 1, none⟩) (by simp) (.int .u16 ty)).setCell (p := ⟨w.heap.size + 1, 2, none⟩) (by simp) (.int .u16 cl))
     clear hfin
     generalize ((W2.setCell ⟨w.heap.size + 1, 0, none⟩ (.string N)).setCell ⟨w.heap.size + 1, 1, none⟩ (.int .u16 ty)).setCell ⟨w.heap.size + 1, 2, none⟩ (.int .u16 cl) = W3 at *
     go_wp2
     refine bodyPost_ret (results_cell_row rfl _ _ (w.heap.size + 1) 26 #[.string N, .int .u16 ty, .int .u16 cl] (0, 0) _ rfl HFIN.out Tryd.underlying26 rfl HI.out) rfl ?_
     exact ⟨rfl, HBL.out⟩)
end Go.Proofs.YtmieakkhpkclpaaDoor
