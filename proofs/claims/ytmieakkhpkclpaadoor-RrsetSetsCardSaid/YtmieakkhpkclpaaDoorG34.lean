/- Texts of the proofs, merged. -/
import Derived.Test.YtmieakkhpkclpaaDoorG19
import Derived.Deep.RegionHeld3
import Derived.BigQuiet
/- The order of records in small letters: the program's, whole. -/
namespace Go.Proofs.YtmieakkhpkclpaaDoor
open Go.RowKit

set_option maxHeartbeats 4000000 in
set_option maxRecDepth 100000 in
theorem cmpFolded_any (a b : Rv) (w : World) (ha : a.short) (hb : b.short) :
    Calls Tryd.prog 25 #[a.val, b.val] w fun e w' => e = .returned (.int .i64 (Rr.cmpR a.rc b.rc)) ∧ Below w.heap.size w w' := by
  have H1 := Lib.hid (fun W : World => keyOf_any a W)
  have H2 := Lib.hid (fun W : World => keyOf_any b W)
  have H3 := Lib.hid (fun W : World => cmpKey_any a.kv b.kv W ha.1 hb.1)
  have H4 := Lib.hid (fun W : World => cmpData_any a.d b.d W ha.2.1 hb.2.1 ha.2.2 hb.2.2)
  have H5 := Lib.hid (fun W : World => cmp_u32 a.ttl b.ttl W)
  clear ha hb
  have HA : Hid (Has ((w.alloc (.cells a.cells 43)).alloc (.cells b.cells 43)) w.heap.size 43 a.cells) := (Has.fresh w _ _).alloc _
  have HBx : Hid (Has ((w.alloc (.cells a.cells 43)).alloc (.cells b.cells 43)) (w.heap.size + 1) 43 b.cells) := by
    have h := Has.fresh (w.alloc (.cells a.cells 43)) 43 b.cells
    have e : (w.alloc (.cells a.cells 43)).heap.size = w.heap.size + 1 := by simp
    rw [e] at h
    exact h
  have HB0 : Hid (Below w.heap.size w ((w.alloc (.cells a.cells 43)).alloc (.cells b.cells 43))) := ((Below.refl _ _).alloc (Nat.le_refl _) _).alloc (by simp) _
  have hlx : ∀ x y : Int, x ≠ 0 → Rr.lx x y = x := fun x y h => if_neg h
  have hl0 : ∀ y : Int, Rr.lx 0 y = y := fun y => if_pos rfl
  change Calls _ _ _ _ fun e w' => e = .returned (.int .i64 (Rr.lx (Rr.cmpK a.kv.ky b.kv.ky) (Rr.lx (Rr.cmpD a.d.dt b.d.dt) (Nm.sgn a.ttl b.ttl)))) ∧ Below w.heap.size w w'
  generalize Rr.cmpK a.kv.ky b.kv.ky = x1 at *
  generalize Rr.cmpD a.d.dt b.d.dt = x2 at *
  generalize Nm.sgn a.ttl b.ttl = x3 at *
  obtain ⟨anm, aty, acl, attl, ara, aho, ama, an0, an1, an2, an3, an4⟩ := a
  obtain ⟨bnm, bty, bcl, bttl, bra, bho, bma, bn0, bn1, bn2, bn3, bn4⟩ := b
  dsimp only [Rv.val, Rv.cells, Rv.kv, Kv.val, Dv.val] at *
  by_cases h1 : x1 = 0
  · subst h1
    rw [hl0]
    by_cases h2 : x2 = 0
    · subst h2
      rw [hl0]
      clear hlx hl0
      go_enter Tryd.func25, Tryd.ntmps25
      go_wp2
      have hx : (fun W => W.cell? ⟨w.heap.size, 0, none⟩ = some (.string anm) ∧ W.cell? ⟨w.heap.size, 1, none⟩ = some (.int .u16 aty) ∧ W.cell? ⟨w.heap.size, 2, none⟩ = some (.int .u16 acl) ∧ W.cell? ⟨w.heap.size, 3, none⟩ = some (.int .u32 attl) ∧ W.cell? ⟨w.heap.size, 4, none⟩ = some (.string ara) ∧ W.cell? ⟨w.heap.size, 5, none⟩ = some (.string aho) ∧ W.cell? ⟨w.heap.size, 6, none⟩ = some (.string ama) ∧ W.cell? ⟨w.heap.size, 7, none⟩ = some (.int .u32 an0) ∧ W.cell? ⟨w.heap.size, 8, none⟩ = some (.int .u32 an1) ∧ W.cell? ⟨w.heap.size, 9, none⟩ = some (.int .u32 an2) ∧ W.cell? ⟨w.heap.size, 10, none⟩ = some (.int .u32 an3) ∧ W.cell? ⟨w.heap.size, 11, none⟩ = some (.int .u32 an4) ∧ W.cell? ⟨w.heap.size + 1, 0, none⟩ = some (.string bnm) ∧ W.cell? ⟨w.heap.size + 1, 1, none⟩ = some (.int .u16 bty) ∧ W.cell? ⟨w.heap.size + 1, 2, none⟩ = some (.int .u16 bcl) ∧ W.cell? ⟨w.heap.size + 1, 3, none⟩ = some (.int .u32 bttl) ∧ W.cell? ⟨w.heap.size + 1, 4, none⟩ = some (.string bra) ∧ W.cell? ⟨w.heap.size + 1, 5, none⟩ = some (.string bho) ∧ W.cell? ⟨w.heap.size + 1, 6, none⟩ = some (.string bma) ∧ W.cell? ⟨w.heap.size + 1, 7, none⟩ = some (.int .u32 bn0) ∧ W.cell? ⟨w.heap.size + 1, 8, none⟩ = some (.int .u32 bn1) ∧ W.cell? ⟨w.heap.size + 1, 9, none⟩ = some (.int .u32 bn2) ∧ W.cell? ⟨w.heap.size + 1, 10, none⟩ = some (.int .u32 bn3) ∧ W.cell? ⟨w.heap.size + 1, 11, none⟩ = some (.int .u32 bn4) ∧ Below w.heap.size w W) ((w.alloc (.cells #[.string anm, .int .u16 aty, .int .u16 acl, .int .u32 attl, .string ara, .string aho, .string ama, .int .u32 an0, .int .u32 an1, .int .u32 an2, .int .u32 an3, .int .u32 an4] 43)).alloc (.cells #[.string bnm, .int .u16 bty, .int .u16 bcl, .int .u32 bttl, .string bra, .string bho, .string bma, .int .u32 bn0, .int .u32 bn1, .int .u32 bn2, .int .u32 bn3, .int .u32 bn4] 43)) := ⟨by rw [HA.out.cell]; rfl, by rw [HA.out.cell]; rfl, by rw [HA.out.cell]; rfl, by rw [HA.out.cell]; rfl, by rw [HA.out.cell]; rfl, by rw [HA.out.cell]; rfl, by rw [HA.out.cell]; rfl, by rw [HA.out.cell]; rfl, by rw [HA.out.cell]; rfl, by rw [HA.out.cell]; rfl, by rw [HA.out.cell]; rfl, by rw [HA.out.cell]; rfl, by rw [HBx.out.cell]; rfl, by rw [HBx.out.cell]; rfl, by rw [HBx.out.cell]; rfl, by rw [HBx.out.cell]; rfl, by rw [HBx.out.cell]; rfl, by rw [HBx.out.cell]; rfl, by rw [HBx.out.cell]; rfl, by rw [HBx.out.cell]; rfl, by rw [HBx.out.cell]; rfl, by rw [HBx.out.cell]; rfl, by rw [HBx.out.cell]; rfl, by rw [HBx.out.cell]; rfl, HB0.out⟩
      generalize (w.alloc (.cells #[.string anm, .int .u16 aty, .int .u16 acl, .int .u32 attl, .string ara, .string aho, .string ama, .int .u32 an0, .int .u32 an1, .int .u32 an2, .int .u32 an3, .int .u32 an4] 43)).alloc (.cells #[.string bnm, .int .u16 bty, .int .u16 bcl, .int .u32 bttl, .string bra, .string bho, .string bma, .int .u32 bn0, .int .u32 bn1, .int .u32 bn2, .int .u32 bn3, .int .u32 bn4] 43) = w0 at *
      obtain ⟨c0, c1, c2, c3, c4, c5, c6, c7, c8, c9, c10, c11, c12, c13, c14, c15, c16, c17, c18, c19, c20, c21, c22, c23, hB⟩ := hx
      go_region_held3 (fun W => W.cell? ⟨w.heap.size, 0, none⟩ = some (.string anm) ∧ W.cell? ⟨w.heap.size, 1, none⟩ = some (.int .u16 aty) ∧ W.cell? ⟨w.heap.size, 2, none⟩ = some (.int .u16 acl) ∧ W.cell? ⟨w.heap.size, 3, none⟩ = some (.int .u32 attl) ∧ W.cell? ⟨w.heap.size, 4, none⟩ = some (.string ara) ∧ W.cell? ⟨w.heap.size, 5, none⟩ = some (.string aho) ∧ W.cell? ⟨w.heap.size, 6, none⟩ = some (.string ama) ∧ W.cell? ⟨w.heap.size, 7, none⟩ = some (.int .u32 an0) ∧ W.cell? ⟨w.heap.size, 8, none⟩ = some (.int .u32 an1) ∧ W.cell? ⟨w.heap.size, 9, none⟩ = some (.int .u32 an2) ∧ W.cell? ⟨w.heap.size, 10, none⟩ = some (.int .u32 an3) ∧ W.cell? ⟨w.heap.size, 11, none⟩ = some (.int .u32 an4) ∧ W.cell? ⟨w.heap.size + 1, 0, none⟩ = some (.string bnm) ∧ W.cell? ⟨w.heap.size + 1, 1, none⟩ = some (.int .u16 bty) ∧ W.cell? ⟨w.heap.size + 1, 2, none⟩ = some (.int .u16 bcl) ∧ W.cell? ⟨w.heap.size + 1, 3, none⟩ = some (.int .u32 bttl) ∧ W.cell? ⟨w.heap.size + 1, 4, none⟩ = some (.string bra) ∧ W.cell? ⟨w.heap.size + 1, 5, none⟩ = some (.string bho) ∧ W.cell? ⟨w.heap.size + 1, 6, none⟩ = some (.string bma) ∧ W.cell? ⟨w.heap.size + 1, 7, none⟩ = some (.int .u32 bn0) ∧ W.cell? ⟨w.heap.size + 1, 8, none⟩ = some (.int .u32 bn1) ∧ W.cell? ⟨w.heap.size + 1, 9, none⟩ = some (.int .u32 bn2) ∧ W.cell? ⟨w.heap.size + 1, 10, none⟩ = some (.int .u32 bn3) ∧ W.cell? ⟨w.heap.size + 1, 11, none⟩ = some (.int .u32 bn4) ∧ Below w.heap.size w W)
        (first
          | (exact ⟨c0, c1, c2, c3, c4, c5, c6, c7, c8, c9, c10, c11, c12, c13, c14, c15, c16, c17, c18, c19, c20, c21, c22, c23, hB.drew⟩)
          | (go_keep; done)
          | (go_split_ands
             try dsimp only
             refine ⟨keep_cell hbW (by assumption), keep_cell hbW (by assumption), keep_cell hbW (by assumption), keep_cell hbW (by assumption), keep_cell hbW (by assumption), keep_cell hbW (by assumption), keep_cell hbW (by assumption), keep_cell hbW (by assumption), keep_cell hbW (by assumption), keep_cell hbW (by assumption), keep_cell hbW (by assumption), keep_cell hbW (by assumption), keep_cell hbW (by assumption), keep_cell hbW (by assumption), keep_cell hbW (by assumption), keep_cell hbW (by assumption), keep_cell hbW (by assumption), keep_cell hbW (by assumption), keep_cell hbW (by assumption), keep_cell hbW (by assumption), keep_cell hbW (by assumption), keep_cell hbW (by assumption), keep_cell hbW (by assumption), keep_cell hbW (by assumption), keep_below hbW (by assumption) (Nat.le_refl _)⟩)
          | (trace_state; fail))
        (first
          | (go_at_call_of 15 (Value.agg #[.string anm, .int .u16 aty, .int .u16 acl, .int .u32 attl, .string ara, .string aho, .string ama, .int .u32 an0, .int .u32 an1, .int .u32 an2, .int .u32 an3, .int .u32 an4]); refine (H1.out _).mono ?_; rintro e W1 ⟨rfl, hbW⟩)
          | (go_at_call_of 15 (Value.agg #[.string bnm, .int .u16 bty, .int .u16 bcl, .int .u32 bttl, .string bra, .string bho, .string bma, .int .u32 bn0, .int .u32 bn1, .int .u32 bn2, .int .u32 bn3, .int .u32 bn4]); refine (H2.out _).mono ?_; rintro e W1 ⟨rfl, hbW⟩)
          | (go_at_call 19; refine (H3.out _).mono ?_; rintro e W1 ⟨rfl, hbW⟩))
      go_split_ands
      go_wp2_with (first
        | (go_at_call 28; refine (H4.out _).mono ?_; rintro e W2 ⟨rfl, B2⟩; have t1 : W2.cell? ⟨w.heap.size, 3, none⟩ = some (.int .u32 attl) := keep_cell B2 (by assumption); have t2 : W2.cell? ⟨w.heap.size + 1, 3, none⟩ = some (.int .u32 bttl) := keep_cell B2 (by assumption); have HB2 : Hid (Below w.heap.size w W2) := keep_below B2 (by assumption) (Nat.le_refl _); clear B2)
        | (go_at_call 39; refine (H5.out _).mono ?_; rintro e W3 ⟨rfl, rfl⟩))
      go_ret
      exact ⟨rfl, HB2.out⟩
    · rw [hlx _ _ h2]
      have hne : (x2 != 0) = true := by simpa using h2
      have hne2 : (x2 == 0) = false := by simpa using h2
      clear h2 hlx hl0
      go_enter Tryd.func25, Tryd.ntmps25
      go_wp2
      have hx : (fun W => W.cell? ⟨w.heap.size, 0, none⟩ = some (.string anm) ∧ W.cell? ⟨w.heap.size, 1, none⟩ = some (.int .u16 aty) ∧ W.cell? ⟨w.heap.size, 2, none⟩ = some (.int .u16 acl) ∧ W.cell? ⟨w.heap.size, 3, none⟩ = some (.int .u32 attl) ∧ W.cell? ⟨w.heap.size, 4, none⟩ = some (.string ara) ∧ W.cell? ⟨w.heap.size, 5, none⟩ = some (.string aho) ∧ W.cell? ⟨w.heap.size, 6, none⟩ = some (.string ama) ∧ W.cell? ⟨w.heap.size, 7, none⟩ = some (.int .u32 an0) ∧ W.cell? ⟨w.heap.size, 8, none⟩ = some (.int .u32 an1) ∧ W.cell? ⟨w.heap.size, 9, none⟩ = some (.int .u32 an2) ∧ W.cell? ⟨w.heap.size, 10, none⟩ = some (.int .u32 an3) ∧ W.cell? ⟨w.heap.size, 11, none⟩ = some (.int .u32 an4) ∧ W.cell? ⟨w.heap.size + 1, 0, none⟩ = some (.string bnm) ∧ W.cell? ⟨w.heap.size + 1, 1, none⟩ = some (.int .u16 bty) ∧ W.cell? ⟨w.heap.size + 1, 2, none⟩ = some (.int .u16 bcl) ∧ W.cell? ⟨w.heap.size + 1, 3, none⟩ = some (.int .u32 bttl) ∧ W.cell? ⟨w.heap.size + 1, 4, none⟩ = some (.string bra) ∧ W.cell? ⟨w.heap.size + 1, 5, none⟩ = some (.string bho) ∧ W.cell? ⟨w.heap.size + 1, 6, none⟩ = some (.string bma) ∧ W.cell? ⟨w.heap.size + 1, 7, none⟩ = some (.int .u32 bn0) ∧ W.cell? ⟨w.heap.size + 1, 8, none⟩ = some (.int .u32 bn1) ∧ W.cell? ⟨w.heap.size + 1, 9, none⟩ = some (.int .u32 bn2) ∧ W.cell? ⟨w.heap.size + 1, 10, none⟩ = some (.int .u32 bn3) ∧ W.cell? ⟨w.heap.size + 1, 11, none⟩ = some (.int .u32 bn4) ∧ Below w.heap.size w W) ((w.alloc (.cells #[.string anm, .int .u16 aty, .int .u16 acl, .int .u32 attl, .string ara, .string aho, .string ama, .int .u32 an0, .int .u32 an1, .int .u32 an2, .int .u32 an3, .int .u32 an4] 43)).alloc (.cells #[.string bnm, .int .u16 bty, .int .u16 bcl, .int .u32 bttl, .string bra, .string bho, .string bma, .int .u32 bn0, .int .u32 bn1, .int .u32 bn2, .int .u32 bn3, .int .u32 bn4] 43)) := ⟨by rw [HA.out.cell]; rfl, by rw [HA.out.cell]; rfl, by rw [HA.out.cell]; rfl, by rw [HA.out.cell]; rfl, by rw [HA.out.cell]; rfl, by rw [HA.out.cell]; rfl, by rw [HA.out.cell]; rfl, by rw [HA.out.cell]; rfl, by rw [HA.out.cell]; rfl, by rw [HA.out.cell]; rfl, by rw [HA.out.cell]; rfl, by rw [HA.out.cell]; rfl, by rw [HBx.out.cell]; rfl, by rw [HBx.out.cell]; rfl, by rw [HBx.out.cell]; rfl, by rw [HBx.out.cell]; rfl, by rw [HBx.out.cell]; rfl, by rw [HBx.out.cell]; rfl, by rw [HBx.out.cell]; rfl, by rw [HBx.out.cell]; rfl, by rw [HBx.out.cell]; rfl, by rw [HBx.out.cell]; rfl, by rw [HBx.out.cell]; rfl, by rw [HBx.out.cell]; rfl, HB0.out⟩
      generalize (w.alloc (.cells #[.string anm, .int .u16 aty, .int .u16 acl, .int .u32 attl, .string ara, .string aho, .string ama, .int .u32 an0, .int .u32 an1, .int .u32 an2, .int .u32 an3, .int .u32 an4] 43)).alloc (.cells #[.string bnm, .int .u16 bty, .int .u16 bcl, .int .u32 bttl, .string bra, .string bho, .string bma, .int .u32 bn0, .int .u32 bn1, .int .u32 bn2, .int .u32 bn3, .int .u32 bn4] 43) = w0 at *
      obtain ⟨c0, c1, c2, c3, c4, c5, c6, c7, c8, c9, c10, c11, c12, c13, c14, c15, c16, c17, c18, c19, c20, c21, c22, c23, hB⟩ := hx
      go_region_held3 (fun W => W.cell? ⟨w.heap.size, 0, none⟩ = some (.string anm) ∧ W.cell? ⟨w.heap.size, 1, none⟩ = some (.int .u16 aty) ∧ W.cell? ⟨w.heap.size, 2, none⟩ = some (.int .u16 acl) ∧ W.cell? ⟨w.heap.size, 3, none⟩ = some (.int .u32 attl) ∧ W.cell? ⟨w.heap.size, 4, none⟩ = some (.string ara) ∧ W.cell? ⟨w.heap.size, 5, none⟩ = some (.string aho) ∧ W.cell? ⟨w.heap.size, 6, none⟩ = some (.string ama) ∧ W.cell? ⟨w.heap.size, 7, none⟩ = some (.int .u32 an0) ∧ W.cell? ⟨w.heap.size, 8, none⟩ = some (.int .u32 an1) ∧ W.cell? ⟨w.heap.size, 9, none⟩ = some (.int .u32 an2) ∧ W.cell? ⟨w.heap.size, 10, none⟩ = some (.int .u32 an3) ∧ W.cell? ⟨w.heap.size, 11, none⟩ = some (.int .u32 an4) ∧ W.cell? ⟨w.heap.size + 1, 0, none⟩ = some (.string bnm) ∧ W.cell? ⟨w.heap.size + 1, 1, none⟩ = some (.int .u16 bty) ∧ W.cell? ⟨w.heap.size + 1, 2, none⟩ = some (.int .u16 bcl) ∧ W.cell? ⟨w.heap.size + 1, 3, none⟩ = some (.int .u32 bttl) ∧ W.cell? ⟨w.heap.size + 1, 4, none⟩ = some (.string bra) ∧ W.cell? ⟨w.heap.size + 1, 5, none⟩ = some (.string bho) ∧ W.cell? ⟨w.heap.size + 1, 6, none⟩ = some (.string bma) ∧ W.cell? ⟨w.heap.size + 1, 7, none⟩ = some (.int .u32 bn0) ∧ W.cell? ⟨w.heap.size + 1, 8, none⟩ = some (.int .u32 bn1) ∧ W.cell? ⟨w.heap.size + 1, 9, none⟩ = some (.int .u32 bn2) ∧ W.cell? ⟨w.heap.size + 1, 10, none⟩ = some (.int .u32 bn3) ∧ W.cell? ⟨w.heap.size + 1, 11, none⟩ = some (.int .u32 bn4) ∧ Below w.heap.size w W)
        (first
          | (exact ⟨c0, c1, c2, c3, c4, c5, c6, c7, c8, c9, c10, c11, c12, c13, c14, c15, c16, c17, c18, c19, c20, c21, c22, c23, hB.drew⟩)
          | (go_keep; done)
          | (go_split_ands
             try dsimp only
             refine ⟨keep_cell hbW (by assumption), keep_cell hbW (by assumption), keep_cell hbW (by assumption), keep_cell hbW (by assumption), keep_cell hbW (by assumption), keep_cell hbW (by assumption), keep_cell hbW (by assumption), keep_cell hbW (by assumption), keep_cell hbW (by assumption), keep_cell hbW (by assumption), keep_cell hbW (by assumption), keep_cell hbW (by assumption), keep_cell hbW (by assumption), keep_cell hbW (by assumption), keep_cell hbW (by assumption), keep_cell hbW (by assumption), keep_cell hbW (by assumption), keep_cell hbW (by assumption), keep_cell hbW (by assumption), keep_cell hbW (by assumption), keep_cell hbW (by assumption), keep_cell hbW (by assumption), keep_cell hbW (by assumption), keep_cell hbW (by assumption), keep_below hbW (by assumption) (Nat.le_refl _)⟩)
          | (trace_state; fail))
        (first
          | (go_at_call_of 15 (Value.agg #[.string anm, .int .u16 aty, .int .u16 acl, .int .u32 attl, .string ara, .string aho, .string ama, .int .u32 an0, .int .u32 an1, .int .u32 an2, .int .u32 an3, .int .u32 an4]); refine (H1.out _).mono ?_; rintro e W1 ⟨rfl, hbW⟩)
          | (go_at_call_of 15 (Value.agg #[.string bnm, .int .u16 bty, .int .u16 bcl, .int .u32 bttl, .string bra, .string bho, .string bma, .int .u32 bn0, .int .u32 bn1, .int .u32 bn2, .int .u32 bn3, .int .u32 bn4]); refine (H2.out _).mono ?_; rintro e W1 ⟨rfl, hbW⟩)
          | (go_at_call 19; refine (H3.out _).mono ?_; rintro e W1 ⟨rfl, hbW⟩))
      go_split_ands
      go_wp2_with (first
        | (go_at_call 28; refine (H4.out _).mono ?_; rintro e W2 ⟨rfl, B2⟩; have t1 : W2.cell? ⟨w.heap.size, 3, none⟩ = some (.int .u32 attl) := keep_cell B2 (by assumption); have t2 : W2.cell? ⟨w.heap.size + 1, 3, none⟩ = some (.int .u32 bttl) := keep_cell B2 (by assumption); have HB2 : Hid (Below w.heap.size w W2) := keep_below B2 (by assumption) (Nat.le_refl _); clear B2))
      go_ret
      exact ⟨rfl, HB2.out⟩
  · rw [hlx _ _ h1]
    have hne : (x1 != 0) = true := by simpa using h1
    have hne2 : (x1 == 0) = false := by simpa using h1
    clear h1 hlx hl0
    go_enter Tryd.func25, Tryd.ntmps25
    go_wp2
    have hx : (fun W => W.cell? ⟨w.heap.size, 0, none⟩ = some (.string anm) ∧ W.cell? ⟨w.heap.size, 1, none⟩ = some (.int .u16 aty) ∧ W.cell? ⟨w.heap.size, 2, none⟩ = some (.int .u16 acl) ∧ W.cell? ⟨w.heap.size, 3, none⟩ = some (.int .u32 attl) ∧ W.cell? ⟨w.heap.size, 4, none⟩ = some (.string ara) ∧ W.cell? ⟨w.heap.size, 5, none⟩ = some (.string aho) ∧ W.cell? ⟨w.heap.size, 6, none⟩ = some (.string ama) ∧ W.cell? ⟨w.heap.size, 7, none⟩ = some (.int .u32 an0) ∧ W.cell? ⟨w.heap.size, 8, none⟩ = some (.int .u32 an1) ∧ W.cell? ⟨w.heap.size, 9, none⟩ = some (.int .u32 an2) ∧ W.cell? ⟨w.heap.size, 10, none⟩ = some (.int .u32 an3) ∧ W.cell? ⟨w.heap.size, 11, none⟩ = some (.int .u32 an4) ∧ W.cell? ⟨w.heap.size + 1, 0, none⟩ = some (.string bnm) ∧ W.cell? ⟨w.heap.size + 1, 1, none⟩ = some (.int .u16 bty) ∧ W.cell? ⟨w.heap.size + 1, 2, none⟩ = some (.int .u16 bcl) ∧ W.cell? ⟨w.heap.size + 1, 3, none⟩ = some (.int .u32 bttl) ∧ W.cell? ⟨w.heap.size + 1, 4, none⟩ = some (.string bra) ∧ W.cell? ⟨w.heap.size + 1, 5, none⟩ = some (.string bho) ∧ W.cell? ⟨w.heap.size + 1, 6, none⟩ = some (.string bma) ∧ W.cell? ⟨w.heap.size + 1, 7, none⟩ = some (.int .u32 bn0) ∧ W.cell? ⟨w.heap.size + 1, 8, none⟩ = some (.int .u32 bn1) ∧ W.cell? ⟨w.heap.size + 1, 9, none⟩ = some (.int .u32 bn2) ∧ W.cell? ⟨w.heap.size + 1, 10, none⟩ = some (.int .u32 bn3) ∧ W.cell? ⟨w.heap.size + 1, 11, none⟩ = some (.int .u32 bn4) ∧ Below w.heap.size w W) ((w.alloc (.cells #[.string anm, .int .u16 aty, .int .u16 acl, .int .u32 attl, .string ara, .string aho, .string ama, .int .u32 an0, .int .u32 an1, .int .u32 an2, .int .u32 an3, .int .u32 an4] 43)).alloc (.cells #[.string bnm, .int .u16 bty, .int .u16 bcl, .int .u32 bttl, .string bra, .string bho, .string bma, .int .u32 bn0, .int .u32 bn1, .int .u32 bn2, .int .u32 bn3, .int .u32 bn4] 43)) := ⟨by rw [HA.out.cell]; rfl, by rw [HA.out.cell]; rfl, by rw [HA.out.cell]; rfl, by rw [HA.out.cell]; rfl, by rw [HA.out.cell]; rfl, by rw [HA.out.cell]; rfl, by rw [HA.out.cell]; rfl, by rw [HA.out.cell]; rfl, by rw [HA.out.cell]; rfl, by rw [HA.out.cell]; rfl, by rw [HA.out.cell]; rfl, by rw [HA.out.cell]; rfl, by rw [HBx.out.cell]; rfl, by rw [HBx.out.cell]; rfl, by rw [HBx.out.cell]; rfl, by rw [HBx.out.cell]; rfl, by rw [HBx.out.cell]; rfl, by rw [HBx.out.cell]; rfl, by rw [HBx.out.cell]; rfl, by rw [HBx.out.cell]; rfl, by rw [HBx.out.cell]; rfl, by rw [HBx.out.cell]; rfl, by rw [HBx.out.cell]; rfl, by rw [HBx.out.cell]; rfl, HB0.out⟩
    generalize (w.alloc (.cells #[.string anm, .int .u16 aty, .int .u16 acl, .int .u32 attl, .string ara, .string aho, .string ama, .int .u32 an0, .int .u32 an1, .int .u32 an2, .int .u32 an3, .int .u32 an4] 43)).alloc (.cells #[.string bnm, .int .u16 bty, .int .u16 bcl, .int .u32 bttl, .string bra, .string bho, .string bma, .int .u32 bn0, .int .u32 bn1, .int .u32 bn2, .int .u32 bn3, .int .u32 bn4] 43) = w0 at *
    obtain ⟨c0, c1, c2, c3, c4, c5, c6, c7, c8, c9, c10, c11, c12, c13, c14, c15, c16, c17, c18, c19, c20, c21, c22, c23, hB⟩ := hx
    go_region_held3 (fun W => W.cell? ⟨w.heap.size, 0, none⟩ = some (.string anm) ∧ W.cell? ⟨w.heap.size, 1, none⟩ = some (.int .u16 aty) ∧ W.cell? ⟨w.heap.size, 2, none⟩ = some (.int .u16 acl) ∧ W.cell? ⟨w.heap.size, 3, none⟩ = some (.int .u32 attl) ∧ W.cell? ⟨w.heap.size, 4, none⟩ = some (.string ara) ∧ W.cell? ⟨w.heap.size, 5, none⟩ = some (.string aho) ∧ W.cell? ⟨w.heap.size, 6, none⟩ = some (.string ama) ∧ W.cell? ⟨w.heap.size, 7, none⟩ = some (.int .u32 an0) ∧ W.cell? ⟨w.heap.size, 8, none⟩ = some (.int .u32 an1) ∧ W.cell? ⟨w.heap.size, 9, none⟩ = some (.int .u32 an2) ∧ W.cell? ⟨w.heap.size, 10, none⟩ = some (.int .u32 an3) ∧ W.cell? ⟨w.heap.size, 11, none⟩ = some (.int .u32 an4) ∧ W.cell? ⟨w.heap.size + 1, 0, none⟩ = some (.string bnm) ∧ W.cell? ⟨w.heap.size + 1, 1, none⟩ = some (.int .u16 bty) ∧ W.cell? ⟨w.heap.size + 1, 2, none⟩ = some (.int .u16 bcl) ∧ W.cell? ⟨w.heap.size + 1, 3, none⟩ = some (.int .u32 bttl) ∧ W.cell? ⟨w.heap.size + 1, 4, none⟩ = some (.string bra) ∧ W.cell? ⟨w.heap.size + 1, 5, none⟩ = some (.string bho) ∧ W.cell? ⟨w.heap.size + 1, 6, none⟩ = some (.string bma) ∧ W.cell? ⟨w.heap.size + 1, 7, none⟩ = some (.int .u32 bn0) ∧ W.cell? ⟨w.heap.size + 1, 8, none⟩ = some (.int .u32 bn1) ∧ W.cell? ⟨w.heap.size + 1, 9, none⟩ = some (.int .u32 bn2) ∧ W.cell? ⟨w.heap.size + 1, 10, none⟩ = some (.int .u32 bn3) ∧ W.cell? ⟨w.heap.size + 1, 11, none⟩ = some (.int .u32 bn4) ∧ Below w.heap.size w W)
      (first
        | (exact ⟨c0, c1, c2, c3, c4, c5, c6, c7, c8, c9, c10, c11, c12, c13, c14, c15, c16, c17, c18, c19, c20, c21, c22, c23, hB.drew⟩)
        | (go_keep; done)
        | (go_split_ands
           try dsimp only
           refine ⟨keep_cell hbW (by assumption), keep_cell hbW (by assumption), keep_cell hbW (by assumption), keep_cell hbW (by assumption), keep_cell hbW (by assumption), keep_cell hbW (by assumption), keep_cell hbW (by assumption), keep_cell hbW (by assumption), keep_cell hbW (by assumption), keep_cell hbW (by assumption), keep_cell hbW (by assumption), keep_cell hbW (by assumption), keep_cell hbW (by assumption), keep_cell hbW (by assumption), keep_cell hbW (by assumption), keep_cell hbW (by assumption), keep_cell hbW (by assumption), keep_cell hbW (by assumption), keep_cell hbW (by assumption), keep_cell hbW (by assumption), keep_cell hbW (by assumption), keep_cell hbW (by assumption), keep_cell hbW (by assumption), keep_cell hbW (by assumption), keep_below hbW (by assumption) (Nat.le_refl _)⟩)
        | (trace_state; fail))
      (first
        | (go_at_call_of 15 (Value.agg #[.string anm, .int .u16 aty, .int .u16 acl, .int .u32 attl, .string ara, .string aho, .string ama, .int .u32 an0, .int .u32 an1, .int .u32 an2, .int .u32 an3, .int .u32 an4]); refine (H1.out _).mono ?_; rintro e W1 ⟨rfl, hbW⟩)
        | (go_at_call_of 15 (Value.agg #[.string bnm, .int .u16 bty, .int .u16 bcl, .int .u32 bttl, .string bra, .string bho, .string bma, .int .u32 bn0, .int .u32 bn1, .int .u32 bn2, .int .u32 bn3, .int .u32 bn4]); refine (H2.out _).mono ?_; rintro e W1 ⟨rfl, hbW⟩)
        | (go_at_call 19; refine (H3.out _).mono ?_; rintro e W1 ⟨rfl, hbW⟩))
    go_split_ands
    go_wp2
    go_ret
    exact ⟨rfl, by assumption⟩
end Go.Proofs.YtmieakkhpkclpaaDoor
