/- Texts of the proofs, merged. -/
import Derived.Test.YtmieakkhpkclpaaDoorG26
import Derived.Test.YtmieakkhpkclpaaDoorG34
/- The order of records: the program's, whole. -/
namespace Go.Proofs.YtmieakkhpkclpaaDoor
open Go.RowKit

set_option maxHeartbeats 4000000 in
set_option maxRecDepth 100000 in
theorem rrCmp_any (a b : Rv) (w : World) (hL : LayR w) (ha : a.nums ∧ a.short) (hb : b.nums ∧ b.short) :
    Calls Tryd.prog 13 #[a.val, b.val] w fun e w' => e = .returned (.int .i64 (Rr.cmpR a.fold.rc b.fold.rc)) ∧ Below w.heap.size w w' := by
  have H1 := Lib.hid (fun (W : World) (h : Below w.heap.size w W) => (show Calls Tryd.prog 26 #[.agg a.cells] W (fun e w' => e = .returned (.agg a.fold.cells) ∧ Below W.heap.size W w') from rrFold_any a W (hL.below h (Nat.le_refl _)) ha.1.1 ha.2))
  have H2 := Lib.hid (fun (W : World) (h : Below w.heap.size w W) => (show Calls Tryd.prog 26 #[.agg b.cells] W (fun e w' => e = .returned (.agg b.fold.cells) ∧ Below W.heap.size W w') from rrFold_any b W (hL.below h (Nat.le_refl _)) hb.1.1 hb.2))
  have H3 := Lib.hid (fun W : World => (show Calls Tryd.prog 25 #[.agg a.fold.cells, .agg b.fold.cells] W (fun e w' => e = .returned (.int .i64 (Rr.cmpR a.fold.rc b.fold.rc)) ∧ Below W.heap.size W w') from cmpFolded_any a.fold b.fold W (rv_fold_short ha.2) (rv_fold_short hb.2)))
  clear hL ha hb
  have HA : Hid (Has ((w.alloc (.cells a.cells 43)).alloc (.cells b.cells 43)) w.heap.size 43 a.cells) := (Has.fresh w _ _).alloc _
  have HBx : Hid (Has ((w.alloc (.cells a.cells 43)).alloc (.cells b.cells 43)) (w.heap.size + 1) 43 b.cells) := by
    have h := Has.fresh (w.alloc (.cells a.cells 43)) 43 b.cells
    have e : (w.alloc (.cells a.cells 43)).heap.size = w.heap.size + 1 := by simp
    rw [e] at h
    exact h
  have HB0 : Hid (Below w.heap.size w ((w.alloc (.cells a.cells 43)).alloc (.cells b.cells 43))) := ((Below.refl _ _).alloc (Nat.le_refl _) _).alloc (by simp) _
  generalize Rr.cmpR a.fold.rc b.fold.rc = x at *
  generalize a.fold = fa at *
  generalize b.fold = fb at *
  obtain ⟨anm, aty, acl, attl, ara, aho, ama, an0, an1, an2, an3, an4⟩ := a
  obtain ⟨bnm, bty, bcl, bttl, bra, bho, bma, bn0, bn1, bn2, bn3, bn4⟩ := b
  dsimp only [Rv.val, Rv.cells] at *
  go_enter Tryd.func13, Tryd.ntmps13
  go_wp2
  have hx : (fun W => W.cell? ⟨w.heap.size, 0, none⟩ = some (.string anm) ∧ W.cell? ⟨w.heap.size, 1, none⟩ = some (.int .u16 aty) ∧ W.cell? ⟨w.heap.size, 2, none⟩ = some (.int .u16 acl) ∧ W.cell? ⟨w.heap.size, 3, none⟩ = some (.int .u32 attl) ∧ W.cell? ⟨w.heap.size, 4, none⟩ = some (.string ara) ∧ W.cell? ⟨w.heap.size, 5, none⟩ = some (.string aho) ∧ W.cell? ⟨w.heap.size, 6, none⟩ = some (.string ama) ∧ W.cell? ⟨w.heap.size, 7, none⟩ = some (.int .u32 an0) ∧ W.cell? ⟨w.heap.size, 8, none⟩ = some (.int .u32 an1) ∧ W.cell? ⟨w.heap.size, 9, none⟩ = some (.int .u32 an2) ∧ W.cell? ⟨w.heap.size, 10, none⟩ = some (.int .u32 an3) ∧ W.cell? ⟨w.heap.size, 11, none⟩ = some (.int .u32 an4) ∧ W.cell? ⟨w.heap.size + 1, 0, none⟩ = some (.string bnm) ∧ W.cell? ⟨w.heap.size + 1, 1, none⟩ = some (.int .u16 bty) ∧ W.cell? ⟨w.heap.size + 1, 2, none⟩ = some (.int .u16 bcl) ∧ W.cell? ⟨w.heap.size + 1, 3, none⟩ = some (.int .u32 bttl) ∧ W.cell? ⟨w.heap.size + 1, 4, none⟩ = some (.string bra) ∧ W.cell? ⟨w.heap.size + 1, 5, none⟩ = some (.string bho) ∧ W.cell? ⟨w.heap.size + 1, 6, none⟩ = some (.string bma) ∧ W.cell? ⟨w.heap.size + 1, 7, none⟩ = some (.int .u32 bn0) ∧ W.cell? ⟨w.heap.size + 1, 8, none⟩ = some (.int .u32 bn1) ∧ W.cell? ⟨w.heap.size + 1, 9, none⟩ = some (.int .u32 bn2) ∧ W.cell? ⟨w.heap.size + 1, 10, none⟩ = some (.int .u32 bn3) ∧ W.cell? ⟨w.heap.size + 1, 11, none⟩ = some (.int .u32 bn4) ∧ Below w.heap.size w W) ((w.alloc (.cells #[.string anm, .int .u16 aty, .int .u16 acl, .int .u32 attl, .string ara, .string aho, .string ama, .int .u32 an0, .int .u32 an1, .int .u32 an2, .int .u32 an3, .int .u32 an4] 43)).alloc (.cells #[.string bnm, .int .u16 bty, .int .u16 bcl, .int .u32 bttl, .string bra, .string bho, .string bma, .int .u32 bn0, .int .u32 bn1, .int .u32 bn2, .int .u32 bn3, .int .u32 bn4] 43)) := ⟨by rw [HA.out.cell]; rfl, by rw [HA.out.cell]; rfl, by rw [HA.out.cell]; rfl, by rw [HA.out.cell]; rfl, by rw [HA.out.cell]; rfl, by rw [HA.out.cell]; rfl, by rw [HA.out.cell]; rfl, by rw [HA.out.cell]; rfl, by rw [HA.out.cell]; rfl, by rw [HA.out.cell]; rfl, by rw [HA.out.cell]; rfl, by rw [HA.out.cell]; rfl, by rw [HBx.out.cell]; rfl, by rw [HBx.out.cell]; rfl, by rw [HBx.out.cell]; rfl, by rw [HBx.out.cell]; rfl, by rw [HBx.out.cell]; rfl, by rw [HBx.out.cell]; rfl, by rw [HBx.out.cell]; rfl, by rw [HBx.out.cell]; rfl, by rw [HBx.out.cell]; rfl, by rw [HBx.out.cell]; rfl, by rw [HBx.out.cell]; rfl, by rw [HBx.out.cell]; rfl, HB0.out⟩
  generalize (w.alloc (.cells #[.string anm, .int .u16 aty, .int .u16 acl, .int .u32 attl, .string ara, .string aho, .string ama, .int .u32 an0, .int .u32 an1, .int .u32 an2, .int .u32 an3, .int .u32 an4] 43)).alloc (.cells #[.string bnm, .int .u16 bty, .int .u16 bcl, .int .u32 bttl, .string bra, .string bho, .string bma, .int .u32 bn0, .int .u32 bn1, .int .u32 bn2, .int .u32 bn3, .int .u32 bn4] 43) = w0 at *
  obtain ⟨c0, c1, c2, c3, c4, c5, c6, c7, c8, c9, c10, c11, c12, c13, c14, c15, c16, c17, c18, c19, c20, c21, c22, c23, hB⟩ := hx
  go_region_held3 (fun W => W.cell? ⟨w.heap.size, 0, none⟩ = some (.string anm) ∧ W.cell? ⟨w.heap.size, 1, none⟩ = some (.int .u16 aty) ∧ W.cell? ⟨w.heap.size, 2, none⟩ = some (.int .u16 acl) ∧ W.cell? ⟨w.heap.size, 3, none⟩ = some (.int .u32 attl) ∧ W.cell? ⟨w.heap.size, 4, none⟩ = some (.string ara) ∧ W.cell? ⟨w.heap.size, 5, none⟩ = some (.string aho) ∧ W.cell? ⟨w.heap.size, 6, none⟩ = some (.string ama) ∧ W.cell? ⟨w.heap.size, 7, none⟩ = some (.int .u32 an0) ∧ W.cell? ⟨w.heap.size, 8, none⟩ = some (.int .u32 an1) ∧ W.cell? ⟨w.heap.size, 9, none⟩ = some (.int .u32 an2) ∧ W.cell? ⟨w.heap.size, 10, none⟩ = some (.int .u32 an3) ∧ W.cell? ⟨w.heap.size, 11, none⟩ = some (.int .u32 an4) ∧ W.cell? ⟨w.heap.size + 1, 0, none⟩ = some (.string bnm) ∧ W.cell? ⟨w.heap.size + 1, 1, none⟩ = some (.int .u16 bty) ∧ W.cell? ⟨w.heap.size + 1, 2, none⟩ = some (.int .u16 bcl) ∧ W.cell? ⟨w.heap.size + 1, 3, none⟩ = some (.int .u32 bttl) ∧ W.cell? ⟨w.heap.size + 1, 4, none⟩ = some (.string bra) ∧ W.cell? ⟨w.heap.size + 1, 5, none⟩ = some (.string bho) ∧ W.cell? ⟨w.heap.size + 1, 6, none⟩ = some (.string bma) ∧ W.cell? ⟨w.heap.size + 1, 7, none⟩ = some (.int .u32 bn0) ∧ W.cell? ⟨w.heap.size + 1, 8, none⟩ = some (.int .u32 bn1) ∧ W.cell? ⟨w.heap.size + 1, 9, none⟩ = some (.int .u32 bn2) ∧ W.cell? ⟨w.heap.size + 1, 10, none⟩ = some (.int .u32 bn3) ∧ W.cell? ⟨w.heap.size + 1, 11, none⟩ = some (.int .u32 bn4) ∧ Below w.heap.size w W)
    (first
      | (exact ⟨c0, c1, c2, c3, c4, c5, c6, c7, c8, c9, c10, c11, c12, c13, c14, c15, c16, c17, c18, c19, c20, c21, c22, c23, hB.drew⟩)
      | (go_keep; done)
      | (go_split_ands
         try dsimp only
         refine ⟨keep_cell hbW (by assumption), keep_cell hbW (by assumption), keep_cell hbW (by assumption), keep_cell hbW (by assumption), keep_cell hbW (by assumption), keep_cell hbW (by assumption), keep_cell hbW (by assumption), keep_cell hbW (by assumption), keep_cell hbW (by assumption), keep_cell hbW (by assumption), keep_cell hbW (by assumption), keep_cell hbW (by assumption), keep_cell hbW (by assumption), keep_cell hbW (by assumption), keep_cell hbW (by assumption), keep_cell hbW (by assumption), keep_cell hbW (by assumption), keep_cell hbW (by assumption), keep_cell hbW (by assumption), keep_cell hbW (by assumption), keep_cell hbW (by assumption), keep_cell hbW (by assumption), keep_cell hbW (by assumption), keep_cell hbW (by assumption), keep_below hbW (by assumption) (Nat.le_refl _)⟩)
      | (trace_state; fail))
    (first
      | (go_at_call_of 26 (Value.agg #[.string anm, .int .u16 aty, .int .u16 acl, .int .u32 attl, .string ara, .string aho, .string ama, .int .u32 an0, .int .u32 an1, .int .u32 an2, .int .u32 an3, .int .u32 an4]); refine (H1.out _ (by go_split_ands; assumption)).mono ?_; rintro e W1 ⟨rfl, hbW⟩)
      | (go_at_call_of 26 (Value.agg #[.string bnm, .int .u16 bty, .int .u16 bcl, .int .u32 bttl, .string bra, .string bho, .string bma, .int .u32 bn0, .int .u32 bn1, .int .u32 bn2, .int .u32 bn3, .int .u32 bn4]); refine (H2.out _ (by go_split_ands; assumption)).mono ?_; rintro e W1 ⟨rfl, hbW⟩)
      | (go_at_call 25; refine (H3.out _).mono ?_; rintro e W1 ⟨rfl, hbW⟩))
  go_split_ands
  go_wp2
  go_ret
  exact ⟨rfl, by assumption⟩
end Go.Proofs.YtmieakkhpkclpaaDoor
