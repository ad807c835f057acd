/- Texts of the proofs, merged. -/
import Derived.Test.YtnpimahgdhpmfabDoorG46
import Derived.Test.YtnpimahgdhpmfabDoorG36
import Derived.Test.YtnpimahgdhpmfabDoorG37
import Derived.Test.YtnpimahgdhpmfabDoorG40
/- RrsetCmps: the walk. -/
namespace Go.Proofs.YtnpimahgdhpmfabDoor
open Go.RowKit

theorem below_r6 {a b c : World} (h : Below a.heap.size a b) (k : Below b.heap.size b c) : Below a.heap.size a c := h.trans (k.mono h.size)
set_option maxHeartbeats 8000000 in
set_option maxRecDepth 1000000 in
theorem walk_RrsetCmps (w : World) (hL : LayR w) (a : Rv) (fa : a.fits) (na : a.near) (b : Rv) (fb : b.fits) (nb : b.near) :
    Calls Tryd.prog 3 #[a.val, b.val] w fun e w' => e = .returned (.bool true) ∧ Below w.heap.size w w' := by
  have sa := na.short
  have sb := nb.short
  have ra : a.d.raw.size ≤ 140737488355328 := by have := na.2.1; omega
  have rb : b.d.raw.size ≤ 140737488355328 := by have := nb.2.1; omega
  have H1 := Lib.hid (fun (W : World) (h : Below w.heap.size w W) => (show Calls Tryd.prog 7 #[.agg a.cells, .agg b.cells] W _ from rrCmp_any a b W (hL.below h (Nat.le_refl _)) ⟨⟨fa.1, fa.2.1⟩, sa⟩ ⟨⟨fb.1, fb.2.1⟩, sb⟩))
  have H2 := Lib.hid (fun (W : World) => (show Calls Tryd.prog 8 #[.agg a.cells, .agg b.cells] W _ from r5Cmp_any a b W ⟨fa, na⟩ ⟨fb, nb⟩))
  have H3 := Lib.hid (fun (W : World) => (show Calls Tryd.prog 9 #[.agg a.d.cells, .agg b.d.cells] W _ from cmpData_any a.d b.d W sa.2.1 sb.2.1 sa.2.2 sb.2.2))
  have H4 := Lib.hid (fun (W : World) => (show Calls Tryd.prog 10 #[.agg a.d.cells, .agg b.d.cells] W _ from cmpData5_any a.d b.d W sa.2.1 sb.2.1 sa.2.2 sb.2.2 ra rb))
  have H5 := Lib.hid (fun (W : World) => cmpKey_any a.kv b.kv W sa.1 sb.1)
  have H6 := Lib.hid (fun (W : World) => cmpKey5_any a.kv b.kv W ⟨sa.1, fa.1, fa.2.1⟩ ⟨sb.1, fb.1, fb.2.1⟩)
  have HW := Lib.hid (fun (W : World) (h : Below w.heap.size w W) => rrWakes W (hL.below h (Nat.le_refl _)))
  clear hL fa fb na nb sa sb ra rb
  generalize Rr.cmpR a.fold.rc b.fold.rc = x1 at *
  generalize Rr.cmpD a.d.dt b.d.dt = x2 at *
  generalize Rr.cmpK a.kv.ky b.kv.ky = x3 at *
  obtain ⟨anm, aty, acl, attl, ara, aho, ama, an0, an1, an2, an3, an4⟩ := a
  obtain ⟨bnm, bty, bcl, bttl, bra, bho, bma, bn0, bn1, bn2, bn3, bn4⟩ := b
  dsimp only [Rv.val, Rv.cells, Rv.kv, Kv.val, Dv.cells] at *
  have hA : Has ((((w.alloc (.cells #[.string anm, .int .u16 aty, .int .u16 acl, .int .u32 attl, .string ara, .string aho, .string ama, .int .u32 an0, .int .u32 an1, .int .u32 an2, .int .u32 an3, .int .u32 an4] 29)).alloc (.cells #[.string bnm, .int .u16 bty, .int .u16 bcl, .int .u32 bttl, .string bra, .string bho, .string bma, .int .u32 bn0, .int .u32 bn1, .int .u32 bn2, .int .u32 bn3, .int .u32 bn4] 29)).alloc (.cells #[.string anm, .int .u16 aty, .int .u16 acl] 31)).alloc (.cells #[.string bnm, .int .u16 bty, .int .u16 bcl] 31)) w.heap.size 29 #[.string anm, .int .u16 aty, .int .u16 acl, .int .u32 attl, .string ara, .string aho, .string ama, .int .u32 an0, .int .u32 an1, .int .u32 an2, .int .u32 an3, .int .u32 an4] := (((Has.fresh w _ _).alloc _).alloc _).alloc _
  have hB : Has ((((w.alloc (.cells #[.string anm, .int .u16 aty, .int .u16 acl, .int .u32 attl, .string ara, .string aho, .string ama, .int .u32 an0, .int .u32 an1, .int .u32 an2, .int .u32 an3, .int .u32 an4] 29)).alloc (.cells #[.string bnm, .int .u16 bty, .int .u16 bcl, .int .u32 bttl, .string bra, .string bho, .string bma, .int .u32 bn0, .int .u32 bn1, .int .u32 bn2, .int .u32 bn3, .int .u32 bn4] 29)).alloc (.cells #[.string anm, .int .u16 aty, .int .u16 acl] 31)).alloc (.cells #[.string bnm, .int .u16 bty, .int .u16 bcl] 31)) (w.heap.size + 1) 29 #[.string bnm, .int .u16 bty, .int .u16 bcl, .int .u32 bttl, .string bra, .string bho, .string bma, .int .u32 bn0, .int .u32 bn1, .int .u32 bn2, .int .u32 bn3, .int .u32 bn4] := by
    have h := Has.fresh (w.alloc (.cells #[.string anm, .int .u16 aty, .int .u16 acl, .int .u32 attl, .string ara, .string aho, .string ama, .int .u32 an0, .int .u32 an1, .int .u32 an2, .int .u32 an3, .int .u32 an4] 29)) 29 #[.string bnm, .int .u16 bty, .int .u16 bcl, .int .u32 bttl, .string bra, .string bho, .string bma, .int .u32 bn0, .int .u32 bn1, .int .u32 bn2, .int .u32 bn3, .int .u32 bn4]
    rw [World.size_alloc] at h
    exact (h.alloc _).alloc _
  have hC : Has ((((w.alloc (.cells #[.string anm, .int .u16 aty, .int .u16 acl, .int .u32 attl, .string ara, .string aho, .string ama, .int .u32 an0, .int .u32 an1, .int .u32 an2, .int .u32 an3, .int .u32 an4] 29)).alloc (.cells #[.string bnm, .int .u16 bty, .int .u16 bcl, .int .u32 bttl, .string bra, .string bho, .string bma, .int .u32 bn0, .int .u32 bn1, .int .u32 bn2, .int .u32 bn3, .int .u32 bn4] 29)).alloc (.cells #[.string anm, .int .u16 aty, .int .u16 acl] 31)).alloc (.cells #[.string bnm, .int .u16 bty, .int .u16 bcl] 31)) (w.heap.size + 1 + 1) 31 #[.string anm, .int .u16 aty, .int .u16 acl] := by
    have h := Has.fresh ((w.alloc (.cells #[.string anm, .int .u16 aty, .int .u16 acl, .int .u32 attl, .string ara, .string aho, .string ama, .int .u32 an0, .int .u32 an1, .int .u32 an2, .int .u32 an3, .int .u32 an4] 29)).alloc (.cells #[.string bnm, .int .u16 bty, .int .u16 bcl, .int .u32 bttl, .string bra, .string bho, .string bma, .int .u32 bn0, .int .u32 bn1, .int .u32 bn2, .int .u32 bn3, .int .u32 bn4] 29)) 31 #[.string anm, .int .u16 aty, .int .u16 acl]
    rw [World.size_alloc, World.size_alloc] at h
    exact h.alloc _
  have hD : Has ((((w.alloc (.cells #[.string anm, .int .u16 aty, .int .u16 acl, .int .u32 attl, .string ara, .string aho, .string ama, .int .u32 an0, .int .u32 an1, .int .u32 an2, .int .u32 an3, .int .u32 an4] 29)).alloc (.cells #[.string bnm, .int .u16 bty, .int .u16 bcl, .int .u32 bttl, .string bra, .string bho, .string bma, .int .u32 bn0, .int .u32 bn1, .int .u32 bn2, .int .u32 bn3, .int .u32 bn4] 29)).alloc (.cells #[.string anm, .int .u16 aty, .int .u16 acl] 31)).alloc (.cells #[.string bnm, .int .u16 bty, .int .u16 bcl] 31)) (w.heap.size + 1 + 1 + 1) 31 #[.string bnm, .int .u16 bty, .int .u16 bcl] := by
    have h := Has.fresh (((w.alloc (.cells #[.string anm, .int .u16 aty, .int .u16 acl, .int .u32 attl, .string ara, .string aho, .string ama, .int .u32 an0, .int .u32 an1, .int .u32 an2, .int .u32 an3, .int .u32 an4] 29)).alloc (.cells #[.string bnm, .int .u16 bty, .int .u16 bcl, .int .u32 bttl, .string bra, .string bho, .string bma, .int .u32 bn0, .int .u32 bn1, .int .u32 bn2, .int .u32 bn3, .int .u32 bn4] 29)).alloc (.cells #[.string anm, .int .u16 aty, .int .u16 acl] 31)) 31 #[.string bnm, .int .u16 bty, .int .u16 bcl]
    rw [World.size_alloc, World.size_alloc, World.size_alloc] at h
    exact h
  have hB0 : Below w.heap.size w ((((w.alloc (.cells #[.string anm, .int .u16 aty, .int .u16 acl, .int .u32 attl, .string ara, .string aho, .string ama, .int .u32 an0, .int .u32 an1, .int .u32 an2, .int .u32 an3, .int .u32 an4] 29)).alloc (.cells #[.string bnm, .int .u16 bty, .int .u16 bcl, .int .u32 bttl, .string bra, .string bho, .string bma, .int .u32 bn0, .int .u32 bn1, .int .u32 bn2, .int .u32 bn3, .int .u32 bn4] 29)).alloc (.cells #[.string anm, .int .u16 aty, .int .u16 acl] 31)).alloc (.cells #[.string bnm, .int .u16 bty, .int .u16 bcl] 31)) := ((((Below.refl _ _).alloc (Nat.le_refl _) _).alloc (by simp) _).alloc (by simp; omega) _).alloc (by simp; omega) _
  generalize hwb : ((((w.alloc (.cells #[.string anm, .int .u16 aty, .int .u16 acl, .int .u32 attl, .string ara, .string aho, .string ama, .int .u32 an0, .int .u32 an1, .int .u32 an2, .int .u32 an3, .int .u32 an4] 29)).alloc (.cells #[.string bnm, .int .u16 bty, .int .u16 bcl, .int .u32 bttl, .string bra, .string bho, .string bma, .int .u32 bn0, .int .u32 bn1, .int .u32 bn2, .int .u32 bn3, .int .u32 bn4] 29)).alloc (.cells #[.string anm, .int .u16 aty, .int .u16 acl] 31)).alloc (.cells #[.string bnm, .int .u16 bty, .int .u16 bcl] 31)) = wb at *
  have HWB := Lib.hid hwb
  have HB0 := Lib.hid hB0
  have HA := Lib.hid hA
  have HB := Lib.hid hB
  have HC := Lib.hid hC
  have HD := Lib.hid hD
  clear hwb hB0 hA hB hC hD
  go_enter Tryd.func3, Tryd.ntmps3
  go_upto_region 3 with fail
  rw [HWB.out]
  clear HWB
  obtain ⟨gA, hgA⟩ : ∃ g, w.heap.size + 1 + 1 = g := ⟨_, rfl⟩
  obtain ⟨gB, hgB⟩ : ∃ g, w.heap.size + 1 + 1 + 1 = g := ⟨_, rfl⟩
  rw [hgB] at HD ⊢
  rw [hgA] at HC ⊢
  clear hgA hgB
  have HK := Lib.hid (fun (W : World) (hb : Below wb.heap.size wb W) => (show (W.cell? ⟨w.heap.size, 0, none⟩ = some (.string anm) ∧ W.cell? ⟨w.heap.size, 1, none⟩ = some (.int .u16 aty) ∧ W.cell? ⟨w.heap.size, 2, none⟩ = some (.int .u16 acl) ∧ W.cell? ⟨w.heap.size, 3, none⟩ = some (.int .u32 attl) ∧ W.cell? ⟨w.heap.size, 4, none⟩ = some (.string ara) ∧ W.cell? ⟨w.heap.size, 5, none⟩ = some (.string aho) ∧ W.cell? ⟨w.heap.size, 6, none⟩ = some (.string ama) ∧ W.cell? ⟨w.heap.size, 7, none⟩ = some (.int .u32 an0) ∧ W.cell? ⟨w.heap.size, 8, none⟩ = some (.int .u32 an1) ∧ W.cell? ⟨w.heap.size, 9, none⟩ = some (.int .u32 an2) ∧ W.cell? ⟨w.heap.size, 10, none⟩ = some (.int .u32 an3) ∧ W.cell? ⟨w.heap.size, 11, none⟩ = some (.int .u32 an4) ∧ W.cell? ⟨w.heap.size + 1, 0, none⟩ = some (.string bnm) ∧ W.cell? ⟨w.heap.size + 1, 1, none⟩ = some (.int .u16 bty) ∧ W.cell? ⟨w.heap.size + 1, 2, none⟩ = some (.int .u16 bcl) ∧ W.cell? ⟨w.heap.size + 1, 3, none⟩ = some (.int .u32 bttl) ∧ W.cell? ⟨w.heap.size + 1, 4, none⟩ = some (.string bra) ∧ W.cell? ⟨w.heap.size + 1, 5, none⟩ = some (.string bho) ∧ W.cell? ⟨w.heap.size + 1, 6, none⟩ = some (.string bma) ∧ W.cell? ⟨w.heap.size + 1, 7, none⟩ = some (.int .u32 bn0) ∧ W.cell? ⟨w.heap.size + 1, 8, none⟩ = some (.int .u32 bn1) ∧ W.cell? ⟨w.heap.size + 1, 9, none⟩ = some (.int .u32 bn2) ∧ W.cell? ⟨w.heap.size + 1, 10, none⟩ = some (.int .u32 bn3) ∧ W.cell? ⟨w.heap.size + 1, 11, none⟩ = some (.int .u32 bn4) ∧ W.cell? ⟨gA, 0, none⟩ = some (.string anm) ∧ W.cell? ⟨gA, 1, none⟩ = some (.int .u16 aty) ∧ W.cell? ⟨gA, 2, none⟩ = some (.int .u16 acl) ∧ W.cell? ⟨gB, 0, none⟩ = some (.string bnm) ∧ W.cell? ⟨gB, 1, none⟩ = some (.int .u16 bty) ∧ W.cell? ⟨gB, 2, none⟩ = some (.int .u16 bcl)) ∧ Below wb.heap.size wb W from by
    have h1 := HA.out.below hb HA.out.lt
    have h2 := HB.out.below hb HB.out.lt
    have h3 := HC.out.below hb HC.out.lt
    have h4 := HD.out.below hb HD.out.lt
    exact ⟨⟨by rw [h1.cell]; rfl, by rw [h1.cell]; rfl, by rw [h1.cell]; rfl, by rw [h1.cell]; rfl, by rw [h1.cell]; rfl, by rw [h1.cell]; rfl, by rw [h1.cell]; rfl, by rw [h1.cell]; rfl, by rw [h1.cell]; rfl, by rw [h1.cell]; rfl, by rw [h1.cell]; rfl, by rw [h1.cell]; rfl, by rw [h2.cell]; rfl, by rw [h2.cell]; rfl, by rw [h2.cell]; rfl, by rw [h2.cell]; rfl, by rw [h2.cell]; rfl, by rw [h2.cell]; rfl, by rw [h2.cell]; rfl, by rw [h2.cell]; rfl, by rw [h2.cell]; rfl, by rw [h2.cell]; rfl, by rw [h2.cell]; rfl, by rw [h2.cell]; rfl, by rw [h3.cell]; rfl, by rw [h3.cell]; rfl, by rw [h3.cell]; rfl, by rw [h4.cell]; rfl, by rw [h4.cell]; rfl, by rw [h4.cell]; rfl⟩, hb⟩))
  clear HA HB HC HD
  replace H1 := Lib.hid (fun (W : World) (h : Below wb.heap.size wb W) => H1.out W (HB0.out.trans (h.mono HB0.out.size)))
  replace HW := Lib.hid (fun (W : World) (h : Below wb.heap.size wb W) => HW.out W (HB0.out.trans (h.mono HB0.out.size)))
  refine wp_region_noPanic ?_
  refine wp_region_held_drew (S := (fun W => (W.cell? ⟨w.heap.size, 0, none⟩ = some (.string anm) ∧ W.cell? ⟨w.heap.size, 1, none⟩ = some (.int .u16 aty) ∧ W.cell? ⟨w.heap.size, 2, none⟩ = some (.int .u16 acl) ∧ W.cell? ⟨w.heap.size, 3, none⟩ = some (.int .u32 attl) ∧ W.cell? ⟨w.heap.size, 4, none⟩ = some (.string ara) ∧ W.cell? ⟨w.heap.size, 5, none⟩ = some (.string aho) ∧ W.cell? ⟨w.heap.size, 6, none⟩ = some (.string ama) ∧ W.cell? ⟨w.heap.size, 7, none⟩ = some (.int .u32 an0) ∧ W.cell? ⟨w.heap.size, 8, none⟩ = some (.int .u32 an1) ∧ W.cell? ⟨w.heap.size, 9, none⟩ = some (.int .u32 an2) ∧ W.cell? ⟨w.heap.size, 10, none⟩ = some (.int .u32 an3) ∧ W.cell? ⟨w.heap.size, 11, none⟩ = some (.int .u32 an4) ∧ W.cell? ⟨w.heap.size + 1, 0, none⟩ = some (.string bnm) ∧ W.cell? ⟨w.heap.size + 1, 1, none⟩ = some (.int .u16 bty) ∧ W.cell? ⟨w.heap.size + 1, 2, none⟩ = some (.int .u16 bcl) ∧ W.cell? ⟨w.heap.size + 1, 3, none⟩ = some (.int .u32 bttl) ∧ W.cell? ⟨w.heap.size + 1, 4, none⟩ = some (.string bra) ∧ W.cell? ⟨w.heap.size + 1, 5, none⟩ = some (.string bho) ∧ W.cell? ⟨w.heap.size + 1, 6, none⟩ = some (.string bma) ∧ W.cell? ⟨w.heap.size + 1, 7, none⟩ = some (.int .u32 bn0) ∧ W.cell? ⟨w.heap.size + 1, 8, none⟩ = some (.int .u32 bn1) ∧ W.cell? ⟨w.heap.size + 1, 9, none⟩ = some (.int .u32 bn2) ∧ W.cell? ⟨w.heap.size + 1, 10, none⟩ = some (.int .u32 bn3) ∧ W.cell? ⟨w.heap.size + 1, 11, none⟩ = some (.int .u32 bn4) ∧ W.cell? ⟨gA, 0, none⟩ = some (.string anm) ∧ W.cell? ⟨gA, 1, none⟩ = some (.int .u16 aty) ∧ W.cell? ⟨gA, 2, none⟩ = some (.int .u16 acl) ∧ W.cell? ⟨gB, 0, none⟩ = some (.string bnm) ∧ W.cell? ⟨gB, 1, none⟩ = some (.int .u16 bty) ∧ W.cell? ⟨gB, 2, none⟩ = some (.int .u16 bcl)) ∧ Below wb.heap.size wb W)) (by kernel_rfl) ?hax1 (fun hHeld => ?_)
  case hax1 =>
    try dsimp only
    (first | assumption | exact HK.out _ (Below.refl _ _).drew | exact HK.out _ HW1.out)
  refine wpAnyH_take (i := 0) (oi := { dst := some 21, op := Go.Op.load 29 (Go.Operand.tmp 2), type := 29, pos := "law.go:34", after := #[], guard := none }) (v := ?vax2) rfl (by kernel_rfl) (by kernel_rfl) (by kernel_rfl) (fun _ _ _ h => h) (Or.inl ⟨by rfl, ?hax2⟩) (by assumption) ?_
  case hax2 =>
    intro w hSw
    try dsimp only at hSw
    go_simp
    try with_reducible rfl
  try simp only [Act.put, List.setIfInBounds_toArray, List.set_cons_zero, List.set_cons_succ]
  refine wpAnyH_take (i := 1) (oi := { dst := some 22, op := Go.Op.load 29 (Go.Operand.tmp 3), type := 29, pos := "law.go:34", after := #[], guard := none }) (v := ?vax3) rfl (by kernel_rfl) (by kernel_rfl) (by kernel_rfl) (fun _ _ _ h => h) (Or.inl ⟨by rfl, ?hax3⟩) (by assumption) ?_
  case hax3 =>
    intro w hSw
    try dsimp only at hSw
    go_simp
    try with_reducible rfl
  try simp only [Act.put, List.setIfInBounds_toArray, List.set_cons_zero, List.set_cons_succ]
  refine wpAnyH_take (i := 3) (oi := { dst := some 24, op := Go.Op.load 29 (Go.Operand.tmp 2), type := 29, pos := "law.go:34", after := #[], guard := none }) (v := ?vax4) rfl (by kernel_rfl) (by kernel_rfl) (by kernel_rfl) (fun _ _ _ h => h) (Or.inl ⟨by rfl, ?hax4⟩) (by assumption) ?_
  case hax4 =>
    intro w hSw
    try dsimp only at hSw
    go_simp
    try with_reducible rfl
  try simp only [Act.put, List.setIfInBounds_toArray, List.set_cons_zero, List.set_cons_succ]
  refine wpAnyH_take (i := 4) (oi := { dst := some 25, op := Go.Op.load 29 (Go.Operand.tmp 3), type := 29, pos := "law.go:34", after := #[], guard := none }) (v := ?vax5) rfl (by kernel_rfl) (by kernel_rfl) (by kernel_rfl) (fun _ _ _ h => h) (Or.inl ⟨by rfl, ?hax5⟩) (by assumption) ?_
  case hax5 =>
    intro w hSw
    try dsimp only at hSw
    go_simp
    try with_reducible rfl
  try simp only [Act.put, List.setIfInBounds_toArray, List.set_cons_zero, List.set_cons_succ]
  refine wpAnyH_ready (rs := [2]) (by kernel_rfl) (by simp) ?_
  refine AllReadyH.cons (o := { dst := some 23, op := Go.Op.call { callee := Go.Callee.value (Go.Operand.func 7), args := #[Go.Operand.tmp 21, Go.Operand.tmp 22], argTypes := #[29, 29] }, type := 3, pos := "law.go:34", after := #[{ on := 0, ground := Go.Ground.data }, { on := 1, ground := Go.Ground.data }], guard := none }) rfl (fun K hK => ?_) AllReadyH.nil
  go_simp
  (first | (go_at_call 7; (with_reducible refine (H1.out _ (by go_split_ands; assumption)).mono ?_); rintro e W1 ⟨rfl, B1⟩; have HW1 : Hid (Below wb.heap.size wb W1) := (by go_split_ands; exact below_r6 (by assumption) B1); clear B1) | (go_at_call 8; (with_reducible refine (H2.out _).mono ?_); rintro e W1 ⟨rfl, B1⟩; have HW1 : Hid (Below wb.heap.size wb W1) := (by go_split_ands; exact below_r6 (by assumption) B1); clear B1) | (go_at_call 9; (with_reducible refine (H3.out _).mono ?_); rintro e W1 ⟨rfl, B1⟩; have HW1 : Hid (Below wb.heap.size wb W1) := (by go_split_ands; exact below_r6 (by assumption) B1); clear B1) | (go_at_call 10; (with_reducible refine (H4.out _).mono ?_); rintro e W1 ⟨rfl, B1⟩; have HW1 : Hid (Below wb.heap.size wb W1) := (by go_split_ands; exact below_r6 (by assumption) B1); clear B1) | (go_at_call 11; (with_reducible refine (H5.out _).mono ?_); rintro e W1 ⟨rfl, B1⟩; have HW1 : Hid (Below wb.heap.size wb W1) := (by go_split_ands; exact below_r6 (by assumption) B1); clear B1) | (go_at_call 12; (with_reducible refine (H6.out _).mono ?_); rintro e W1 ⟨rfl, B1⟩; have HW1 : Hid (Below wb.heap.size wb W1) := (by go_split_ands; exact below_r6 (by assumption) B1); clear B1) | (go_at_call 13; (with_reducible refine (HW.out _ (by go_split_ands; assumption)).mono ?_); rintro e W1 ⟨rfl, B1⟩; have HW1 : Hid (Below wb.heap.size wb W1) := (by go_split_ands; exact below_r6 (by assumption) B1); clear B1))
  try go_wp2_with fail
  refine hK.out _ _ ?hax6 (fun hHeld => ?_)
  case hax6 =>
    try dsimp only
    (first | assumption | exact HK.out _ (Below.refl _ _).drew | exact HK.out _ HW1.out)
  clear hK K
  try simp only [Act.put, List.setIfInBounds_toArray, List.set_cons_zero, List.set_cons_succ]
  refine wpAnyH_ready (rs := [5]) (by kernel_rfl) (by simp) ?_
  refine AllReadyH.cons (o := { dst := some 26, op := Go.Op.call { callee := Go.Callee.value (Go.Operand.func 8), args := #[Go.Operand.tmp 24, Go.Operand.tmp 25], argTypes := #[29, 29] }, type := 3, pos := "law.go:34", after := #[{ on := 3, ground := Go.Ground.data }, { on := 4, ground := Go.Ground.data }, { on := 2, ground := Go.Ground.chain }], guard := none }) rfl (fun K hK => ?_) AllReadyH.nil
  go_simp
  (first | (go_at_call 7; (with_reducible refine (H1.out _ (by go_split_ands; assumption)).mono ?_); rintro e W1 ⟨rfl, B1⟩; have HW1 : Hid (Below wb.heap.size wb W1) := (by go_split_ands; exact below_r6 (by assumption) B1); clear B1) | (go_at_call 8; (with_reducible refine (H2.out _).mono ?_); rintro e W1 ⟨rfl, B1⟩; have HW1 : Hid (Below wb.heap.size wb W1) := (by go_split_ands; exact below_r6 (by assumption) B1); clear B1) | (go_at_call 9; (with_reducible refine (H3.out _).mono ?_); rintro e W1 ⟨rfl, B1⟩; have HW1 : Hid (Below wb.heap.size wb W1) := (by go_split_ands; exact below_r6 (by assumption) B1); clear B1) | (go_at_call 10; (with_reducible refine (H4.out _).mono ?_); rintro e W1 ⟨rfl, B1⟩; have HW1 : Hid (Below wb.heap.size wb W1) := (by go_split_ands; exact below_r6 (by assumption) B1); clear B1) | (go_at_call 11; (with_reducible refine (H5.out _).mono ?_); rintro e W1 ⟨rfl, B1⟩; have HW1 : Hid (Below wb.heap.size wb W1) := (by go_split_ands; exact below_r6 (by assumption) B1); clear B1) | (go_at_call 12; (with_reducible refine (H6.out _).mono ?_); rintro e W1 ⟨rfl, B1⟩; have HW1 : Hid (Below wb.heap.size wb W1) := (by go_split_ands; exact below_r6 (by assumption) B1); clear B1) | (go_at_call 13; (with_reducible refine (HW.out _ (by go_split_ands; assumption)).mono ?_); rintro e W1 ⟨rfl, B1⟩; have HW1 : Hid (Below wb.heap.size wb W1) := (by go_split_ands; exact below_r6 (by assumption) B1); clear B1))
  try go_wp2_with fail
  refine hK.out _ _ ?hax7 (fun hHeld => ?_)
  case hax7 =>
    try dsimp only
    (first | assumption | exact HK.out _ (Below.refl _ _).drew | exact HK.out _ HW1.out)
  clear hK K
  try simp only [Act.put, List.setIfInBounds_toArray, List.set_cons_zero, List.set_cons_succ]
  refine wpAnyH_take (i := 6) (oi := { dst := some 27, op := Go.Op.binOp Go.BinOp.eql 3 (Go.Operand.tmp 23) (Go.Operand.tmp 26) 3, type := 4, pos := "law.go:34", after := #[{ on := 2, ground := Go.Ground.data }, { on := 5, ground := Go.Ground.data }], guard := none }) (v := ?vax8) rfl (by kernel_rfl) (by kernel_rfl) (by kernel_rfl) (fun _ _ _ h => h) (Or.inl ⟨by rfl, ?hax8⟩) (by assumption) ?_
  case hax8 =>
    intro w hSw
    try dsimp only at hSw
    go_simp
    try with_reducible rfl
  try simp only [Act.put, List.setIfInBounds_toArray, List.set_cons_zero, List.set_cons_succ]
  refine wpAnyH_take (i := 7) (oi := { dst := some 28, op := Go.Op.move (Go.Operand.tmp 27), type := 4, pos := "law.go:34", after := #[{ on := 6, ground := Go.Ground.data }, { on := 5, ground := Go.Ground.chain }], guard := none }) (v := ?vax9) rfl (by kernel_rfl) (by kernel_rfl) (by kernel_rfl) (fun _ _ _ h => h) (Or.inl ⟨by rfl, ?hax9⟩) (by assumption) ?_
  case hax9 =>
    intro w hSw
    try dsimp only at hSw
    go_simp
    try with_reducible rfl
  try simp only [Act.put, List.setIfInBounds_toArray, List.set_cons_zero, List.set_cons_succ]
  refine wpAnyH_take (i := 8) (oi := { dst := some 29, op := Go.Op.fieldAddr 29 (Go.Operand.tmp 2) 4, type := 0, pos := "law.go:34", after := #[{ on := 7, ground := Go.Ground.guard }], guard := some (7, true) }) (v := ?vax10) rfl (by kernel_rfl) (by kernel_rfl) (by kernel_rfl) (fun _ _ _ h => h) (Or.inl ⟨by rfl, ?hax10⟩) (by assumption) ?_
  case hax10 =>
    intro w hSw
    try dsimp only at hSw
    go_simp
    try with_reducible rfl
  try simp only [Act.put, List.setIfInBounds_toArray, List.set_cons_zero, List.set_cons_succ]
  refine wpAnyH_take (i := 9) (oi := { dst := some 30, op := Go.Op.load 27 (Go.Operand.tmp 29), type := 27, pos := "law.go:34", after := #[{ on := 8, ground := Go.Ground.data }, { on := 7, ground := Go.Ground.guard }], guard := some (7, true) }) (v := ?vax11) rfl (by kernel_rfl) (by kernel_rfl) (by kernel_rfl) (fun _ _ _ h => h) (Or.inl ⟨by rfl, ?hax11⟩) (by assumption) ?_
  case hax11 =>
    intro w hSw
    try dsimp only at hSw
    go_simp
    try with_reducible rfl
  try simp only [Act.put, List.setIfInBounds_toArray, List.set_cons_zero, List.set_cons_succ]
  refine wpAnyH_take (i := 10) (oi := { dst := some 31, op := Go.Op.fieldAddr 29 (Go.Operand.tmp 3) 4, type := 0, pos := "law.go:34", after := #[{ on := 7, ground := Go.Ground.guard }], guard := some (7, true) }) (v := ?vax12) rfl (by kernel_rfl) (by kernel_rfl) (by kernel_rfl) (fun _ _ _ h => h) (Or.inl ⟨by rfl, ?hax12⟩) (by assumption) ?_
  case hax12 =>
    intro w hSw
    try dsimp only at hSw
    go_simp
    try with_reducible rfl
  try simp only [Act.put, List.setIfInBounds_toArray, List.set_cons_zero, List.set_cons_succ]
  refine wpAnyH_take (i := 11) (oi := { dst := some 32, op := Go.Op.load 27 (Go.Operand.tmp 31), type := 27, pos := "law.go:34", after := #[{ on := 10, ground := Go.Ground.data }, { on := 7, ground := Go.Ground.guard }], guard := some (7, true) }) (v := ?vax13) rfl (by kernel_rfl) (by kernel_rfl) (by kernel_rfl) (fun _ _ _ h => h) (Or.inl ⟨by rfl, ?hax13⟩) (by assumption) ?_
  case hax13 =>
    intro w hSw
    try dsimp only at hSw
    go_simp
    try with_reducible rfl
  try simp only [Act.put, List.setIfInBounds_toArray, List.set_cons_zero, List.set_cons_succ]
  refine wpAnyH_take (i := 13) (oi := { dst := some 34, op := Go.Op.fieldAddr 29 (Go.Operand.tmp 2) 4, type := 0, pos := "law.go:34", after := #[{ on := 7, ground := Go.Ground.guard }], guard := some (7, true) }) (v := ?vax14) rfl (by kernel_rfl) (by kernel_rfl) (by kernel_rfl) (fun _ _ _ h => h) (Or.inl ⟨by rfl, ?hax14⟩) (by assumption) ?_
  case hax14 =>
    intro w hSw
    try dsimp only at hSw
    go_simp
    try with_reducible rfl
  try simp only [Act.put, List.setIfInBounds_toArray, List.set_cons_zero, List.set_cons_succ]
  refine wpAnyH_take (i := 14) (oi := { dst := some 35, op := Go.Op.load 27 (Go.Operand.tmp 34), type := 27, pos := "law.go:34", after := #[{ on := 13, ground := Go.Ground.data }, { on := 7, ground := Go.Ground.guard }], guard := some (7, true) }) (v := ?vax15) rfl (by kernel_rfl) (by kernel_rfl) (by kernel_rfl) (fun _ _ _ h => h) (Or.inl ⟨by rfl, ?hax15⟩) (by assumption) ?_
  case hax15 =>
    intro w hSw
    try dsimp only at hSw
    go_simp
    try with_reducible rfl
  try simp only [Act.put, List.setIfInBounds_toArray, List.set_cons_zero, List.set_cons_succ]
  refine wpAnyH_take (i := 15) (oi := { dst := some 36, op := Go.Op.fieldAddr 29 (Go.Operand.tmp 3) 4, type := 0, pos := "law.go:34", after := #[{ on := 7, ground := Go.Ground.guard }], guard := some (7, true) }) (v := ?vax16) rfl (by kernel_rfl) (by kernel_rfl) (by kernel_rfl) (fun _ _ _ h => h) (Or.inl ⟨by rfl, ?hax16⟩) (by assumption) ?_
  case hax16 =>
    intro w hSw
    try dsimp only at hSw
    go_simp
    try with_reducible rfl
  try simp only [Act.put, List.setIfInBounds_toArray, List.set_cons_zero, List.set_cons_succ]
  refine wpAnyH_take (i := 16) (oi := { dst := some 37, op := Go.Op.load 27 (Go.Operand.tmp 36), type := 27, pos := "law.go:34", after := #[{ on := 15, ground := Go.Ground.data }, { on := 7, ground := Go.Ground.guard }], guard := some (7, true) }) (v := ?vax17) rfl (by kernel_rfl) (by kernel_rfl) (by kernel_rfl) (fun _ _ _ h => h) (Or.inl ⟨by rfl, ?hax17⟩) (by assumption) ?_
  case hax17 =>
    intro w hSw
    try dsimp only at hSw
    go_simp
    try with_reducible rfl
  try simp only [Act.put, List.setIfInBounds_toArray, List.set_cons_zero, List.set_cons_succ]
  refine wpAnyH_ready (rs := [12]) (by kernel_rfl) (by simp) ?_
  refine AllReadyH.cons (o := { dst := some 33, op := Go.Op.call { callee := Go.Callee.value (Go.Operand.func 9), args := #[Go.Operand.tmp 30, Go.Operand.tmp 32], argTypes := #[27, 27] }, type := 3, pos := "law.go:34", after := #[{ on := 9, ground := Go.Ground.data }, { on := 11, ground := Go.Ground.data }, { on := 7, ground := Go.Ground.chain }, { on := 7, ground := Go.Ground.guard }], guard := some (7, true) }) rfl (fun K hK => ?_) AllReadyH.nil
  go_simp
  (first | (go_at_call 7; (with_reducible refine (H1.out _ (by go_split_ands; assumption)).mono ?_); rintro e W1 ⟨rfl, B1⟩; have HW1 : Hid (Below wb.heap.size wb W1) := (by go_split_ands; exact below_r6 (by assumption) B1); clear B1) | (go_at_call 8; (with_reducible refine (H2.out _).mono ?_); rintro e W1 ⟨rfl, B1⟩; have HW1 : Hid (Below wb.heap.size wb W1) := (by go_split_ands; exact below_r6 (by assumption) B1); clear B1) | (go_at_call 9; (with_reducible refine (H3.out _).mono ?_); rintro e W1 ⟨rfl, B1⟩; have HW1 : Hid (Below wb.heap.size wb W1) := (by go_split_ands; exact below_r6 (by assumption) B1); clear B1) | (go_at_call 10; (with_reducible refine (H4.out _).mono ?_); rintro e W1 ⟨rfl, B1⟩; have HW1 : Hid (Below wb.heap.size wb W1) := (by go_split_ands; exact below_r6 (by assumption) B1); clear B1) | (go_at_call 11; (with_reducible refine (H5.out _).mono ?_); rintro e W1 ⟨rfl, B1⟩; have HW1 : Hid (Below wb.heap.size wb W1) := (by go_split_ands; exact below_r6 (by assumption) B1); clear B1) | (go_at_call 12; (with_reducible refine (H6.out _).mono ?_); rintro e W1 ⟨rfl, B1⟩; have HW1 : Hid (Below wb.heap.size wb W1) := (by go_split_ands; exact below_r6 (by assumption) B1); clear B1) | (go_at_call 13; (with_reducible refine (HW.out _ (by go_split_ands; assumption)).mono ?_); rintro e W1 ⟨rfl, B1⟩; have HW1 : Hid (Below wb.heap.size wb W1) := (by go_split_ands; exact below_r6 (by assumption) B1); clear B1))
  try go_wp2_with fail
  refine hK.out _ _ ?hax18 (fun hHeld => ?_)
  case hax18 =>
    try dsimp only
    (first | assumption | exact HK.out _ (Below.refl _ _).drew | exact HK.out _ HW1.out)
  clear hK K
  try simp only [Act.put, List.setIfInBounds_toArray, List.set_cons_zero, List.set_cons_succ]
  refine wpAnyH_ready (rs := [17]) (by kernel_rfl) (by simp) ?_
  refine AllReadyH.cons (o := { dst := some 38, op := Go.Op.call { callee := Go.Callee.value (Go.Operand.func 10), args := #[Go.Operand.tmp 35, Go.Operand.tmp 37], argTypes := #[27, 27] }, type := 3, pos := "law.go:34", after := #[{ on := 14, ground := Go.Ground.data }, { on := 16, ground := Go.Ground.data }, { on := 12, ground := Go.Ground.chain }, { on := 7, ground := Go.Ground.guard }], guard := some (7, true) }) rfl (fun K hK => ?_) AllReadyH.nil
  go_simp
  (first | (go_at_call 7; (with_reducible refine (H1.out _ (by go_split_ands; assumption)).mono ?_); rintro e W1 ⟨rfl, B1⟩; have HW1 : Hid (Below wb.heap.size wb W1) := (by go_split_ands; exact below_r6 (by assumption) B1); clear B1) | (go_at_call 8; (with_reducible refine (H2.out _).mono ?_); rintro e W1 ⟨rfl, B1⟩; have HW1 : Hid (Below wb.heap.size wb W1) := (by go_split_ands; exact below_r6 (by assumption) B1); clear B1) | (go_at_call 9; (with_reducible refine (H3.out _).mono ?_); rintro e W1 ⟨rfl, B1⟩; have HW1 : Hid (Below wb.heap.size wb W1) := (by go_split_ands; exact below_r6 (by assumption) B1); clear B1) | (go_at_call 10; (with_reducible refine (H4.out _).mono ?_); rintro e W1 ⟨rfl, B1⟩; have HW1 : Hid (Below wb.heap.size wb W1) := (by go_split_ands; exact below_r6 (by assumption) B1); clear B1) | (go_at_call 11; (with_reducible refine (H5.out _).mono ?_); rintro e W1 ⟨rfl, B1⟩; have HW1 : Hid (Below wb.heap.size wb W1) := (by go_split_ands; exact below_r6 (by assumption) B1); clear B1) | (go_at_call 12; (with_reducible refine (H6.out _).mono ?_); rintro e W1 ⟨rfl, B1⟩; have HW1 : Hid (Below wb.heap.size wb W1) := (by go_split_ands; exact below_r6 (by assumption) B1); clear B1) | (go_at_call 13; (with_reducible refine (HW.out _ (by go_split_ands; assumption)).mono ?_); rintro e W1 ⟨rfl, B1⟩; have HW1 : Hid (Below wb.heap.size wb W1) := (by go_split_ands; exact below_r6 (by assumption) B1); clear B1))
  try go_wp2_with fail
  refine hK.out _ _ ?hax19 (fun hHeld => ?_)
  case hax19 =>
    try dsimp only
    (first | assumption | exact HK.out _ (Below.refl _ _).drew | exact HK.out _ HW1.out)
  clear hK K
  try simp only [Act.put, List.setIfInBounds_toArray, List.set_cons_zero, List.set_cons_succ]
  refine wpAnyH_take (i := 18) (oi := { dst := some 39, op := Go.Op.binOp Go.BinOp.eql 3 (Go.Operand.tmp 33) (Go.Operand.tmp 38) 3, type := 4, pos := "law.go:34", after := #[{ on := 12, ground := Go.Ground.data }, { on := 17, ground := Go.Ground.data }, { on := 7, ground := Go.Ground.guard }], guard := some (7, true) }) (v := ?vax20) rfl (by kernel_rfl) (by kernel_rfl) (by kernel_rfl) (fun _ _ _ h => h) (Or.inl ⟨by rfl, ?hax20⟩) (by assumption) ?_
  case hax20 =>
    intro w hSw
    try dsimp only at hSw
    go_simp
    try with_reducible rfl
  try simp only [Act.put, List.setIfInBounds_toArray, List.set_cons_zero, List.set_cons_succ]
  refine wpAnyH_take (i := 19) (oi := { dst := some 40, op := Go.Op.pick (Go.Operand.tmp 28) (Go.Operand.tmp 39) (Go.Operand.const (Go.Value.bool false)), type := 4, pos := "law.go:34", after := #[{ on := 7, ground := Go.Ground.data }, { on := 18, ground := Go.Ground.data }], guard := none }) (v := ?vax21) rfl (by kernel_rfl) (by kernel_rfl) (by kernel_rfl) (fun _ _ _ h => h) (Or.inl ⟨by rfl, ?hax21⟩) (by assumption) ?_
  case hax21 =>
    intro w hSw
    try dsimp only at hSw
    go_simp
    try with_reducible rfl
  try simp only [Act.put, List.setIfInBounds_toArray, List.set_cons_zero, List.set_cons_succ]
  refine wpAnyH_take (i := 20) (oi := { dst := some 41, op := Go.Op.move (Go.Operand.tmp 40), type := 4, pos := "law.go:34", after := #[{ on := 19, ground := Go.Ground.data }, { on := 17, ground := Go.Ground.chain }], guard := none }) (v := ?vax22) rfl (by kernel_rfl) (by kernel_rfl) (by kernel_rfl) (fun _ _ _ h => h) (Or.inl ⟨by rfl, ?hax22⟩) (by assumption) ?_
  case hax22 =>
    intro w hSw
    try dsimp only at hSw
    go_simp
    try with_reducible rfl
  try simp only [Act.put, List.setIfInBounds_toArray, List.set_cons_zero, List.set_cons_succ]
  refine wpAnyH_take (i := 21) (oi := { dst := some 42, op := Go.Op.load 31 (Go.Operand.tmp 5), type := 31, pos := "law.go:34", after := #[{ on := 20, ground := Go.Ground.guard }], guard := some (20, true) }) (v := ?vax23) rfl (by kernel_rfl) (by kernel_rfl) (by kernel_rfl) (fun _ _ _ h => h) (Or.inl ⟨by rfl, ?hax23⟩) (by assumption) ?_
  case hax23 =>
    intro w hSw
    try dsimp only at hSw
    go_simp
    try with_reducible rfl
  try simp only [Act.put, List.setIfInBounds_toArray, List.set_cons_zero, List.set_cons_succ]
  refine wpAnyH_take (i := 22) (oi := { dst := some 43, op := Go.Op.load 31 (Go.Operand.tmp 6), type := 31, pos := "law.go:34", after := #[{ on := 20, ground := Go.Ground.guard }], guard := some (20, true) }) (v := ?vax24) rfl (by kernel_rfl) (by kernel_rfl) (by kernel_rfl) (fun _ _ _ h => h) (Or.inl ⟨by rfl, ?hax24⟩) (by assumption) ?_
  case hax24 =>
    intro w hSw
    try dsimp only at hSw
    go_simp
    try with_reducible rfl
  try simp only [Act.put, List.setIfInBounds_toArray, List.set_cons_zero, List.set_cons_succ]
  refine wpAnyH_take (i := 24) (oi := { dst := some 45, op := Go.Op.load 31 (Go.Operand.tmp 5), type := 31, pos := "law.go:34", after := #[{ on := 20, ground := Go.Ground.guard }], guard := some (20, true) }) (v := ?vax25) rfl (by kernel_rfl) (by kernel_rfl) (by kernel_rfl) (fun _ _ _ h => h) (Or.inl ⟨by rfl, ?hax25⟩) (by assumption) ?_
  case hax25 =>
    intro w hSw
    try dsimp only at hSw
    go_simp
    try with_reducible rfl
  try simp only [Act.put, List.setIfInBounds_toArray, List.set_cons_zero, List.set_cons_succ]
  refine wpAnyH_take (i := 25) (oi := { dst := some 46, op := Go.Op.load 31 (Go.Operand.tmp 6), type := 31, pos := "law.go:34", after := #[{ on := 20, ground := Go.Ground.guard }], guard := some (20, true) }) (v := ?vax26) rfl (by kernel_rfl) (by kernel_rfl) (by kernel_rfl) (fun _ _ _ h => h) (Or.inl ⟨by rfl, ?hax26⟩) (by assumption) ?_
  case hax26 =>
    intro w hSw
    try dsimp only at hSw
    go_simp
    try with_reducible rfl
  try simp only [Act.put, List.setIfInBounds_toArray, List.set_cons_zero, List.set_cons_succ]
  refine wpAnyH_ready (rs := [23]) (by kernel_rfl) (by simp) ?_
  refine AllReadyH.cons (o := { dst := some 44, op := Go.Op.call { callee := Go.Callee.value (Go.Operand.func 11), args := #[Go.Operand.tmp 42, Go.Operand.tmp 43], argTypes := #[31, 31] }, type := 3, pos := "law.go:34", after := #[{ on := 21, ground := Go.Ground.data }, { on := 22, ground := Go.Ground.data }, { on := 20, ground := Go.Ground.chain }, { on := 20, ground := Go.Ground.guard }], guard := some (20, true) }) rfl (fun K hK => ?_) AllReadyH.nil
  go_simp
  (first | (go_at_call 7; (with_reducible refine (H1.out _ (by go_split_ands; assumption)).mono ?_); rintro e W1 ⟨rfl, B1⟩; have HW1 : Hid (Below wb.heap.size wb W1) := (by go_split_ands; exact below_r6 (by assumption) B1); clear B1) | (go_at_call 8; (with_reducible refine (H2.out _).mono ?_); rintro e W1 ⟨rfl, B1⟩; have HW1 : Hid (Below wb.heap.size wb W1) := (by go_split_ands; exact below_r6 (by assumption) B1); clear B1) | (go_at_call 9; (with_reducible refine (H3.out _).mono ?_); rintro e W1 ⟨rfl, B1⟩; have HW1 : Hid (Below wb.heap.size wb W1) := (by go_split_ands; exact below_r6 (by assumption) B1); clear B1) | (go_at_call 10; (with_reducible refine (H4.out _).mono ?_); rintro e W1 ⟨rfl, B1⟩; have HW1 : Hid (Below wb.heap.size wb W1) := (by go_split_ands; exact below_r6 (by assumption) B1); clear B1) | (go_at_call 11; (with_reducible refine (H5.out _).mono ?_); rintro e W1 ⟨rfl, B1⟩; have HW1 : Hid (Below wb.heap.size wb W1) := (by go_split_ands; exact below_r6 (by assumption) B1); clear B1) | (go_at_call 12; (with_reducible refine (H6.out _).mono ?_); rintro e W1 ⟨rfl, B1⟩; have HW1 : Hid (Below wb.heap.size wb W1) := (by go_split_ands; exact below_r6 (by assumption) B1); clear B1) | (go_at_call 13; (with_reducible refine (HW.out _ (by go_split_ands; assumption)).mono ?_); rintro e W1 ⟨rfl, B1⟩; have HW1 : Hid (Below wb.heap.size wb W1) := (by go_split_ands; exact below_r6 (by assumption) B1); clear B1))
  try go_wp2_with fail
  refine hK.out _ _ ?hax27 (fun hHeld => ?_)
  case hax27 =>
    try dsimp only
    (first | assumption | exact HK.out _ (Below.refl _ _).drew | exact HK.out _ HW1.out)
  clear hK K
  try simp only [Act.put, List.setIfInBounds_toArray, List.set_cons_zero, List.set_cons_succ]
  refine wpAnyH_ready (rs := [26]) (by kernel_rfl) (by simp) ?_
  refine AllReadyH.cons (o := { dst := some 47, op := Go.Op.call { callee := Go.Callee.value (Go.Operand.func 12), args := #[Go.Operand.tmp 45, Go.Operand.tmp 46], argTypes := #[31, 31] }, type := 3, pos := "law.go:34", after := #[{ on := 24, ground := Go.Ground.data }, { on := 25, ground := Go.Ground.data }, { on := 23, ground := Go.Ground.chain }, { on := 20, ground := Go.Ground.guard }], guard := some (20, true) }) rfl (fun K hK => ?_) AllReadyH.nil
  go_simp
  (first | (go_at_call 7; (with_reducible refine (H1.out _ (by go_split_ands; assumption)).mono ?_); rintro e W1 ⟨rfl, B1⟩; have HW1 : Hid (Below wb.heap.size wb W1) := (by go_split_ands; exact below_r6 (by assumption) B1); clear B1) | (go_at_call 8; (with_reducible refine (H2.out _).mono ?_); rintro e W1 ⟨rfl, B1⟩; have HW1 : Hid (Below wb.heap.size wb W1) := (by go_split_ands; exact below_r6 (by assumption) B1); clear B1) | (go_at_call 9; (with_reducible refine (H3.out _).mono ?_); rintro e W1 ⟨rfl, B1⟩; have HW1 : Hid (Below wb.heap.size wb W1) := (by go_split_ands; exact below_r6 (by assumption) B1); clear B1) | (go_at_call 10; (with_reducible refine (H4.out _).mono ?_); rintro e W1 ⟨rfl, B1⟩; have HW1 : Hid (Below wb.heap.size wb W1) := (by go_split_ands; exact below_r6 (by assumption) B1); clear B1) | (go_at_call 11; (with_reducible refine (H5.out _).mono ?_); rintro e W1 ⟨rfl, B1⟩; have HW1 : Hid (Below wb.heap.size wb W1) := (by go_split_ands; exact below_r6 (by assumption) B1); clear B1) | (go_at_call 12; (with_reducible refine (H6.out _).mono ?_); rintro e W1 ⟨rfl, B1⟩; have HW1 : Hid (Below wb.heap.size wb W1) := (by go_split_ands; exact below_r6 (by assumption) B1); clear B1) | (go_at_call 13; (with_reducible refine (HW.out _ (by go_split_ands; assumption)).mono ?_); rintro e W1 ⟨rfl, B1⟩; have HW1 : Hid (Below wb.heap.size wb W1) := (by go_split_ands; exact below_r6 (by assumption) B1); clear B1))
  try go_wp2_with fail
  refine hK.out _ _ ?hax28 (fun hHeld => ?_)
  case hax28 =>
    try dsimp only
    (first | assumption | exact HK.out _ (Below.refl _ _).drew | exact HK.out _ HW1.out)
  clear hK K
  try simp only [Act.put, List.setIfInBounds_toArray, List.set_cons_zero, List.set_cons_succ]
  refine wpAnyH_take (i := 27) (oi := { dst := some 48, op := Go.Op.binOp Go.BinOp.eql 3 (Go.Operand.tmp 44) (Go.Operand.tmp 47) 3, type := 4, pos := "law.go:34", after := #[{ on := 23, ground := Go.Ground.data }, { on := 26, ground := Go.Ground.data }, { on := 20, ground := Go.Ground.guard }], guard := some (20, true) }) (v := ?vax29) rfl (by kernel_rfl) (by kernel_rfl) (by kernel_rfl) (fun _ _ _ h => h) (Or.inl ⟨by rfl, ?hax29⟩) (by assumption) ?_
  case hax29 =>
    intro w hSw
    try dsimp only at hSw
    go_simp
    try with_reducible rfl
  try simp only [Act.put, List.setIfInBounds_toArray, List.set_cons_zero, List.set_cons_succ]
  refine wpAnyH_take (i := 28) (oi := { dst := some 49, op := Go.Op.pick (Go.Operand.tmp 41) (Go.Operand.tmp 48) (Go.Operand.const (Go.Value.bool false)), type := 4, pos := "law.go:34", after := #[{ on := 20, ground := Go.Ground.data }, { on := 27, ground := Go.Ground.data }], guard := none }) (v := ?vax30) rfl (by kernel_rfl) (by kernel_rfl) (by kernel_rfl) (fun _ _ _ h => h) (Or.inl ⟨by rfl, ?hax30⟩) (by assumption) ?_
  case hax30 =>
    intro w hSw
    try dsimp only at hSw
    go_simp
    try with_reducible rfl
  try simp only [Act.put, List.setIfInBounds_toArray, List.set_cons_zero, List.set_cons_succ]
  refine wpAnyH_take (i := 29) (oi := { dst := some 50, op := Go.Op.move (Go.Operand.tmp 49), type := 4, pos := "law.go:34", after := #[{ on := 28, ground := Go.Ground.data }, { on := 26, ground := Go.Ground.chain }], guard := none }) (v := ?vax31) rfl (by kernel_rfl) (by kernel_rfl) (by kernel_rfl) (fun _ _ _ h => h) (Or.inl ⟨by rfl, ?hax31⟩) (by assumption) ?_
  case hax31 =>
    intro w hSw
    try dsimp only at hSw
    go_simp
    try with_reducible rfl
  try simp only [Act.put, List.setIfInBounds_toArray, List.set_cons_zero, List.set_cons_succ]
  refine wpAnyH_ready (rs := [30]) (by kernel_rfl) (by simp) ?_
  refine AllReadyH.cons (o := { dst := some 51, op := Go.Op.call { callee := Go.Callee.value (Go.Operand.func 13), args := #[], argTypes := #[] }, type := 4, pos := "law.go:34", after := #[{ on := 29, ground := Go.Ground.chain }, { on := 29, ground := Go.Ground.guard }], guard := some (29, true) }) rfl (fun K hK => ?_) AllReadyH.nil
  go_simp
  (first | (go_at_call 7; (with_reducible refine (H1.out _ (by go_split_ands; assumption)).mono ?_); rintro e W1 ⟨rfl, B1⟩; have HW1 : Hid (Below wb.heap.size wb W1) := (by go_split_ands; exact below_r6 (by assumption) B1); clear B1) | (go_at_call 8; (with_reducible refine (H2.out _).mono ?_); rintro e W1 ⟨rfl, B1⟩; have HW1 : Hid (Below wb.heap.size wb W1) := (by go_split_ands; exact below_r6 (by assumption) B1); clear B1) | (go_at_call 9; (with_reducible refine (H3.out _).mono ?_); rintro e W1 ⟨rfl, B1⟩; have HW1 : Hid (Below wb.heap.size wb W1) := (by go_split_ands; exact below_r6 (by assumption) B1); clear B1) | (go_at_call 10; (with_reducible refine (H4.out _).mono ?_); rintro e W1 ⟨rfl, B1⟩; have HW1 : Hid (Below wb.heap.size wb W1) := (by go_split_ands; exact below_r6 (by assumption) B1); clear B1) | (go_at_call 11; (with_reducible refine (H5.out _).mono ?_); rintro e W1 ⟨rfl, B1⟩; have HW1 : Hid (Below wb.heap.size wb W1) := (by go_split_ands; exact below_r6 (by assumption) B1); clear B1) | (go_at_call 12; (with_reducible refine (H6.out _).mono ?_); rintro e W1 ⟨rfl, B1⟩; have HW1 : Hid (Below wb.heap.size wb W1) := (by go_split_ands; exact below_r6 (by assumption) B1); clear B1) | (go_at_call 13; (with_reducible refine (HW.out _ (by go_split_ands; assumption)).mono ?_); rintro e W1 ⟨rfl, B1⟩; have HW1 : Hid (Below wb.heap.size wb W1) := (by go_split_ands; exact below_r6 (by assumption) B1); clear B1))
  try go_wp2_with fail
  refine hK.out _ _ ?hax32 (fun hHeld => ?_)
  case hax32 =>
    try dsimp only
    (first | assumption | exact HK.out _ (Below.refl _ _).drew | exact HK.out _ HW1.out)
  clear hK K
  try simp only [Act.put, List.setIfInBounds_toArray, List.set_cons_zero, List.set_cons_succ]
  refine wpAnyH_take (i := 31) (oi := { dst := some 52, op := Go.Op.pick (Go.Operand.tmp 50) (Go.Operand.tmp 51) (Go.Operand.const (Go.Value.bool false)), type := 4, pos := "law.go:34", after := #[{ on := 29, ground := Go.Ground.data }, { on := 30, ground := Go.Ground.data }], guard := none }) (v := ?vax33) rfl (by kernel_rfl) (by kernel_rfl) (by kernel_rfl) (fun _ _ _ h => h) (Or.inl ⟨by rfl, ?hax33⟩) (by assumption) ?_
  case hax33 =>
    intro w hSw
    try dsimp only at hSw
    go_simp
    try with_reducible rfl
  try simp only [Act.put, List.setIfInBounds_toArray, List.set_cons_zero, List.set_cons_succ]
  refine wpAnyH_take (i := 32) (oi := { dst := some 4, op := Go.Op.assign (Go.Operand.tmp 52), type := 4, pos := "law.go:34", after := #[{ on := 31, ground := Go.Ground.data }, { on := 30, ground := Go.Ground.chain }, { on := 0, ground := Go.Ground.phase }, { on := 1, ground := Go.Ground.phase }, { on := 2, ground := Go.Ground.phase }, { on := 3, ground := Go.Ground.phase }, { on := 4, ground := Go.Ground.phase }, { on := 5, ground := Go.Ground.phase }, { on := 6, ground := Go.Ground.phase }, { on := 7, ground := Go.Ground.phase }, { on := 8, ground := Go.Ground.phase }, { on := 9, ground := Go.Ground.phase }, { on := 10, ground := Go.Ground.phase }, { on := 11, ground := Go.Ground.phase }, { on := 12, ground := Go.Ground.phase }, { on := 13, ground := Go.Ground.phase }, { on := 14, ground := Go.Ground.phase }, { on := 15, ground := Go.Ground.phase }, { on := 16, ground := Go.Ground.phase }, { on := 17, ground := Go.Ground.phase }, { on := 18, ground := Go.Ground.phase }, { on := 19, ground := Go.Ground.phase }, { on := 20, ground := Go.Ground.phase }, { on := 21, ground := Go.Ground.phase }, { on := 22, ground := Go.Ground.phase }, { on := 23, ground := Go.Ground.phase }, { on := 24, ground := Go.Ground.phase }, { on := 25, ground := Go.Ground.phase }, { on := 26, ground := Go.Ground.phase }, { on := 27, ground := Go.Ground.phase }, { on := 28, ground := Go.Ground.phase }, { on := 29, ground := Go.Ground.phase }, { on := 30, ground := Go.Ground.phase }, { on := 31, ground := Go.Ground.phase }], guard := none }) (v := ?vax34) rfl (by kernel_rfl) (by kernel_rfl) (by kernel_rfl) (fun _ _ _ h => h) (Or.inl ⟨by rfl, ?hax34⟩) (by assumption) ?_
  case hax34 =>
    intro w hSw
    try dsimp only at hSw
    go_simp
    try with_reducible rfl
  try simp only [Act.put, List.setIfInBounds_toArray, List.set_cons_zero, List.set_cons_succ]
  refine wpAnyH_done (by kernel_rfl) ?_ _
  refine NoPanic.normal ?_
  all_goals
    (go_wp2
     go_ret
     exact ⟨rfl, HB0.out.trans (HW1.out.mono HB0.out.size)⟩)
end Go.Proofs.YtnpimahgdhpmfabDoor
