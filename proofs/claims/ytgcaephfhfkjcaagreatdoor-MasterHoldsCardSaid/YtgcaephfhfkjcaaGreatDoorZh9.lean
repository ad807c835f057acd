/- Texts of the proofs, merged. -/
import Derived.Test.YtgcaephfhfkjcaaGreatDoorZh2
import Derived.Test.YtgcaephfhfkjcaaGreatDoorZh4
import Derived.WalkKit
import Derived.Test.YtgcaephfhfkjcaaGreatDoorZh8
import Derived.Test.YtgcaephfhfkjcaaGreatDoorZh5
import Derived.Laws.StructEq
import Derived.ChangeKeysEq
import Derived.MapKept
namespace Go.Proofs.YtgcaephfhfkjcaaGreatDoor
open Go.RowKit

/-- the table's cells. -/
def rowsCells : Array Value := #[.int .u16 1, .string ⟨#[65]⟩, .int .u8 1, .int .u8 0, .int .u8 0, .int .u8 0, .int .u8 0, .int .u8 0, .int .u8 0, .int .u16 2, .string ⟨#[78, 83]⟩, .int .u8 5, .int .u8 0, .int .u8 0, .int .u8 0, .int .u8 0, .int .u8 0, .int .u8 0, .int .u16 5, .string ⟨#[67, 78, 65, 77, 69]⟩, .int .u8 5, .int .u8 0, .int .u8 0, .int .u8 0, .int .u8 0, .int .u8 0, .int .u8 0, .int .u16 6, .string ⟨#[83, 79, 65]⟩, .int .u8 5, .int .u8 7, .int .u8 9, .int .u8 9, .int .u8 9, .int .u8 9, .int .u8 9, .int .u16 12, .string ⟨#[80, 84, 82]⟩, .int .u8 5, .int .u8 0, .int .u8 0, .int .u8 0, .int .u8 0, .int .u8 0, .int .u8 0, .int .u16 15, .string ⟨#[77, 88]⟩, .int .u8 8, .int .u8 5, .int .u8 0, .int .u8 0, .int .u8 0, .int .u8 0, .int .u8 0, .int .u16 16, .string ⟨#[84, 88, 84]⟩, .int .u8 3, .int .u8 0, .int .u8 0, .int .u8 0, .int .u8 0, .int .u8 0, .int .u8 0, .int .u16 28, .string ⟨#[65, 65, 65, 65]⟩, .int .u8 2, .int .u8 0, .int .u8 0, .int .u8 0, .int .u8 0, .int .u8 0, .int .u8 0, .int .u16 33, .string ⟨#[83, 82, 86]⟩, .int .u8 8, .int .u8 8, .int .u8 8, .int .u8 6, .int .u8 0, .int .u8 0, .int .u8 0]
/-- the table is as its initialiser lays it. -/
def LayR (w : World) : Prop := ∃ t, Has w 0 t rowsCells
theorem LayR.lt {w : World} (h : LayR w) : 0 < w.heap.size := h.elim fun _ h => Has.lt h
theorem LayR.below {w w' : World} {B : Nat} (h : LayR w) (hb : Below B w w') (hB : w.heap.size ≤ B) : LayR w' := h.elim fun t h => ⟨t, h.below hb (Nat.lt_of_lt_of_le h.lt hB)⟩
theorem LayR.cell {w : World} (h : LayR w) (i : Nat) : w.cell? ⟨0, i, none⟩ = rowsCells[i]? := h.elim fun _ h => Has.cell h i
def partC (t : Nat) : Array Value := ((Rd.parts t).map fun (p : Nat) => Value.int .u8 ((p : Nat) : Int)).toArray
def partsV (t : Nat) : Value := .agg (partC t)

set_option maxHeartbeats 4000000 in
set_option maxRecDepth 100000 in
theorem partsOf_any (t : Nat) (w : World) (ht : t ≤ 65535) (hL : LayR w) :
    Calls Tryz.prog 57 #[.int .u16 t] w fun e w' => e = .returned (partsV t) ∧ Below w.heap.size w w' := by
  have HL := Lib.hid hL
  have hlt := hL.lt
  have HL2 : Hid (LayR (w.alloc (.cells #[.int .u8 0, .int .u8 0, .int .u8 0, .int .u8 0, .int .u8 0, .int .u8 0, .int .u8 0] 113))) := hL.below ((Below.refl _ _).alloc (Nat.le_refl _) _) (Nat.le_refl _)
  have HN : Hid (Has (w.alloc (.cells #[.int .u8 0, .int .u8 0, .int .u8 0, .int .u8 0, .int .u8 0, .int .u8 0, .int .u8 0] 113)) w.heap.size 113 #[.int .u8 0, .int .u8 0, .int .u8 0, .int .u8 0, .int .u8 0, .int .u8 0, .int .u8 0]) := Has.fresh w _ _
  have HB : Hid (Below w.heap.size w (w.alloc (.cells #[.int .u8 0, .int .u8 0, .int .u8 0, .int .u8 0, .int .u8 0, .int .u8 0, .int .u8 0] 113))) := (Below.refl _ _).alloc (Nat.le_refl _) _
  clear hL
  go_enter Tryz.func57, Tryz.ntmps57
  go_wp2
  generalize hwr : w.alloc (.cells #[.int .u8 0, .int .u8 0, .int .u8 0, .int .u8 0, .int .u8 0, .int .u8 0, .int .u8 0] 113) = wr at HL2 HN HB ⊢
  clear hwr
  refine wp_loop_rounds 10 ?_
  rw [rounds_succ]
  have d0 : wr.cell? ⟨0, 0, none⟩ = some (.int .u16 1) := HL2.out.cell 0
  by_cases h0 : t = 1
  · subst h0
    have c0 : wr.cell? ⟨0, 2, none⟩ = some (.int .u8 1) := HL2.out.cell 2
    have c1 : wr.cell? ⟨0, 3, none⟩ = some (.int .u8 0) := HL2.out.cell 3
    have c2 : wr.cell? ⟨0, 4, none⟩ = some (.int .u8 0) := HL2.out.cell 4
    have c3 : wr.cell? ⟨0, 5, none⟩ = some (.int .u8 0) := HL2.out.cell 5
    have c4 : wr.cell? ⟨0, 6, none⟩ = some (.int .u8 0) := HL2.out.cell 6
    have c5 : wr.cell? ⟨0, 7, none⟩ = some (.int .u8 0) := HL2.out.cell 7
    have c6 : wr.cell? ⟨0, 8, none⟩ = some (.int .u8 0) := HL2.out.cell 8
    go_wp2_with (refine wpList_store_row rfl 113 (.tmp 2) (.tmp 16) rfl w.heap.size #[.int .u8 1, .int .u8 0, .int .u8 0, .int .u8 0, .int .u8 0, .int .u8 0, .int .u8 0] rfl rfl 113 #[.int .u8 0, .int .u8 0, .int .u8 0, .int .u8 0, .int .u8 0, .int .u8 0, .int .u8 0] HN.out (by kernel_rfl) rfl (by simp [Value.oneCell']) ?_)
    exact bodyPost_ret (v := .agg #[.int .u8 1, .int .u8 0, .int .u8 0, .int .u8 0, .int .u8 0, .int .u8 0, .int .u8 0]) (results_cell_row rfl _ _ w.heap.size 113 #[.int .u8 1, .int .u8 0, .int .u8 0, .int .u8 0, .int .u8 0, .int .u8 0, .int .u8 0] (0, 0) _ rfl (HN.out.row _) Tryz.underlying113 rfl (by kernel_rfl)) rfl ⟨rfl, below_setRow HB.out (Nat.le_refl _) _⟩
  have e0 : ((1 : Int) == (t : Int)) = false := beq_eq_false_iff_ne.2 (by omega)
  go_wp2
  clear d0 e0
  rw [rounds_succ]
  have d1 : wr.cell? ⟨0, 9, none⟩ = some (.int .u16 2) := HL2.out.cell 9
  by_cases h1 : t = 2
  · subst h1
    have c0 : wr.cell? ⟨0, 11, none⟩ = some (.int .u8 5) := HL2.out.cell 11
    have c1 : wr.cell? ⟨0, 12, none⟩ = some (.int .u8 0) := HL2.out.cell 12
    have c2 : wr.cell? ⟨0, 13, none⟩ = some (.int .u8 0) := HL2.out.cell 13
    have c3 : wr.cell? ⟨0, 14, none⟩ = some (.int .u8 0) := HL2.out.cell 14
    have c4 : wr.cell? ⟨0, 15, none⟩ = some (.int .u8 0) := HL2.out.cell 15
    have c5 : wr.cell? ⟨0, 16, none⟩ = some (.int .u8 0) := HL2.out.cell 16
    have c6 : wr.cell? ⟨0, 17, none⟩ = some (.int .u8 0) := HL2.out.cell 17
    go_wp2_with (refine wpList_store_row rfl 113 (.tmp 2) (.tmp 16) rfl w.heap.size #[.int .u8 5, .int .u8 0, .int .u8 0, .int .u8 0, .int .u8 0, .int .u8 0, .int .u8 0] rfl rfl 113 #[.int .u8 0, .int .u8 0, .int .u8 0, .int .u8 0, .int .u8 0, .int .u8 0, .int .u8 0] HN.out (by kernel_rfl) rfl (by simp [Value.oneCell']) ?_)
    exact bodyPost_ret (v := .agg #[.int .u8 5, .int .u8 0, .int .u8 0, .int .u8 0, .int .u8 0, .int .u8 0, .int .u8 0]) (results_cell_row rfl _ _ w.heap.size 113 #[.int .u8 5, .int .u8 0, .int .u8 0, .int .u8 0, .int .u8 0, .int .u8 0, .int .u8 0] (0, 0) _ rfl (HN.out.row _) Tryz.underlying113 rfl (by kernel_rfl)) rfl ⟨rfl, below_setRow HB.out (Nat.le_refl _) _⟩
  have e1 : ((2 : Int) == (t : Int)) = false := beq_eq_false_iff_ne.2 (by omega)
  go_wp2
  clear d1 e1
  rw [rounds_succ]
  have d2 : wr.cell? ⟨0, 18, none⟩ = some (.int .u16 5) := HL2.out.cell 18
  by_cases h2 : t = 5
  · subst h2
    have c0 : wr.cell? ⟨0, 20, none⟩ = some (.int .u8 5) := HL2.out.cell 20
    have c1 : wr.cell? ⟨0, 21, none⟩ = some (.int .u8 0) := HL2.out.cell 21
    have c2 : wr.cell? ⟨0, 22, none⟩ = some (.int .u8 0) := HL2.out.cell 22
    have c3 : wr.cell? ⟨0, 23, none⟩ = some (.int .u8 0) := HL2.out.cell 23
    have c4 : wr.cell? ⟨0, 24, none⟩ = some (.int .u8 0) := HL2.out.cell 24
    have c5 : wr.cell? ⟨0, 25, none⟩ = some (.int .u8 0) := HL2.out.cell 25
    have c6 : wr.cell? ⟨0, 26, none⟩ = some (.int .u8 0) := HL2.out.cell 26
    go_wp2_with (refine wpList_store_row rfl 113 (.tmp 2) (.tmp 16) rfl w.heap.size #[.int .u8 5, .int .u8 0, .int .u8 0, .int .u8 0, .int .u8 0, .int .u8 0, .int .u8 0] rfl rfl 113 #[.int .u8 0, .int .u8 0, .int .u8 0, .int .u8 0, .int .u8 0, .int .u8 0, .int .u8 0] HN.out (by kernel_rfl) rfl (by simp [Value.oneCell']) ?_)
    exact bodyPost_ret (v := .agg #[.int .u8 5, .int .u8 0, .int .u8 0, .int .u8 0, .int .u8 0, .int .u8 0, .int .u8 0]) (results_cell_row rfl _ _ w.heap.size 113 #[.int .u8 5, .int .u8 0, .int .u8 0, .int .u8 0, .int .u8 0, .int .u8 0, .int .u8 0] (0, 0) _ rfl (HN.out.row _) Tryz.underlying113 rfl (by kernel_rfl)) rfl ⟨rfl, below_setRow HB.out (Nat.le_refl _) _⟩
  have e2 : ((5 : Int) == (t : Int)) = false := beq_eq_false_iff_ne.2 (by omega)
  go_wp2
  clear d2 e2
  rw [rounds_succ]
  have d3 : wr.cell? ⟨0, 27, none⟩ = some (.int .u16 6) := HL2.out.cell 27
  by_cases h3 : t = 6
  · subst h3
    have c0 : wr.cell? ⟨0, 29, none⟩ = some (.int .u8 5) := HL2.out.cell 29
    have c1 : wr.cell? ⟨0, 30, none⟩ = some (.int .u8 7) := HL2.out.cell 30
    have c2 : wr.cell? ⟨0, 31, none⟩ = some (.int .u8 9) := HL2.out.cell 31
    have c3 : wr.cell? ⟨0, 32, none⟩ = some (.int .u8 9) := HL2.out.cell 32
    have c4 : wr.cell? ⟨0, 33, none⟩ = some (.int .u8 9) := HL2.out.cell 33
    have c5 : wr.cell? ⟨0, 34, none⟩ = some (.int .u8 9) := HL2.out.cell 34
    have c6 : wr.cell? ⟨0, 35, none⟩ = some (.int .u8 9) := HL2.out.cell 35
    go_wp2_with (refine wpList_store_row rfl 113 (.tmp 2) (.tmp 16) rfl w.heap.size #[.int .u8 5, .int .u8 7, .int .u8 9, .int .u8 9, .int .u8 9, .int .u8 9, .int .u8 9] rfl rfl 113 #[.int .u8 0, .int .u8 0, .int .u8 0, .int .u8 0, .int .u8 0, .int .u8 0, .int .u8 0] HN.out (by kernel_rfl) rfl (by simp [Value.oneCell']) ?_)
    exact bodyPost_ret (v := .agg #[.int .u8 5, .int .u8 7, .int .u8 9, .int .u8 9, .int .u8 9, .int .u8 9, .int .u8 9]) (results_cell_row rfl _ _ w.heap.size 113 #[.int .u8 5, .int .u8 7, .int .u8 9, .int .u8 9, .int .u8 9, .int .u8 9, .int .u8 9] (0, 0) _ rfl (HN.out.row _) Tryz.underlying113 rfl (by kernel_rfl)) rfl ⟨rfl, below_setRow HB.out (Nat.le_refl _) _⟩
  have e3 : ((6 : Int) == (t : Int)) = false := beq_eq_false_iff_ne.2 (by omega)
  go_wp2
  clear d3 e3
  rw [rounds_succ]
  have d4 : wr.cell? ⟨0, 36, none⟩ = some (.int .u16 12) := HL2.out.cell 36
  by_cases h4 : t = 12
  · subst h4
    have c0 : wr.cell? ⟨0, 38, none⟩ = some (.int .u8 5) := HL2.out.cell 38
    have c1 : wr.cell? ⟨0, 39, none⟩ = some (.int .u8 0) := HL2.out.cell 39
    have c2 : wr.cell? ⟨0, 40, none⟩ = some (.int .u8 0) := HL2.out.cell 40
    have c3 : wr.cell? ⟨0, 41, none⟩ = some (.int .u8 0) := HL2.out.cell 41
    have c4 : wr.cell? ⟨0, 42, none⟩ = some (.int .u8 0) := HL2.out.cell 42
    have c5 : wr.cell? ⟨0, 43, none⟩ = some (.int .u8 0) := HL2.out.cell 43
    have c6 : wr.cell? ⟨0, 44, none⟩ = some (.int .u8 0) := HL2.out.cell 44
    go_wp2_with (refine wpList_store_row rfl 113 (.tmp 2) (.tmp 16) rfl w.heap.size #[.int .u8 5, .int .u8 0, .int .u8 0, .int .u8 0, .int .u8 0, .int .u8 0, .int .u8 0] rfl rfl 113 #[.int .u8 0, .int .u8 0, .int .u8 0, .int .u8 0, .int .u8 0, .int .u8 0, .int .u8 0] HN.out (by kernel_rfl) rfl (by simp [Value.oneCell']) ?_)
    exact bodyPost_ret (v := .agg #[.int .u8 5, .int .u8 0, .int .u8 0, .int .u8 0, .int .u8 0, .int .u8 0, .int .u8 0]) (results_cell_row rfl _ _ w.heap.size 113 #[.int .u8 5, .int .u8 0, .int .u8 0, .int .u8 0, .int .u8 0, .int .u8 0, .int .u8 0] (0, 0) _ rfl (HN.out.row _) Tryz.underlying113 rfl (by kernel_rfl)) rfl ⟨rfl, below_setRow HB.out (Nat.le_refl _) _⟩
  have e4 : ((12 : Int) == (t : Int)) = false := beq_eq_false_iff_ne.2 (by omega)
  go_wp2
  clear d4 e4
  rw [rounds_succ]
  have d5 : wr.cell? ⟨0, 45, none⟩ = some (.int .u16 15) := HL2.out.cell 45
  by_cases h5 : t = 15
  · subst h5
    have c0 : wr.cell? ⟨0, 47, none⟩ = some (.int .u8 8) := HL2.out.cell 47
    have c1 : wr.cell? ⟨0, 48, none⟩ = some (.int .u8 5) := HL2.out.cell 48
    have c2 : wr.cell? ⟨0, 49, none⟩ = some (.int .u8 0) := HL2.out.cell 49
    have c3 : wr.cell? ⟨0, 50, none⟩ = some (.int .u8 0) := HL2.out.cell 50
    have c4 : wr.cell? ⟨0, 51, none⟩ = some (.int .u8 0) := HL2.out.cell 51
    have c5 : wr.cell? ⟨0, 52, none⟩ = some (.int .u8 0) := HL2.out.cell 52
    have c6 : wr.cell? ⟨0, 53, none⟩ = some (.int .u8 0) := HL2.out.cell 53
    go_wp2_with (refine wpList_store_row rfl 113 (.tmp 2) (.tmp 16) rfl w.heap.size #[.int .u8 8, .int .u8 5, .int .u8 0, .int .u8 0, .int .u8 0, .int .u8 0, .int .u8 0] rfl rfl 113 #[.int .u8 0, .int .u8 0, .int .u8 0, .int .u8 0, .int .u8 0, .int .u8 0, .int .u8 0] HN.out (by kernel_rfl) rfl (by simp [Value.oneCell']) ?_)
    exact bodyPost_ret (v := .agg #[.int .u8 8, .int .u8 5, .int .u8 0, .int .u8 0, .int .u8 0, .int .u8 0, .int .u8 0]) (results_cell_row rfl _ _ w.heap.size 113 #[.int .u8 8, .int .u8 5, .int .u8 0, .int .u8 0, .int .u8 0, .int .u8 0, .int .u8 0] (0, 0) _ rfl (HN.out.row _) Tryz.underlying113 rfl (by kernel_rfl)) rfl ⟨rfl, below_setRow HB.out (Nat.le_refl _) _⟩
  have e5 : ((15 : Int) == (t : Int)) = false := beq_eq_false_iff_ne.2 (by omega)
  go_wp2
  clear d5 e5
  rw [rounds_succ]
  have d6 : wr.cell? ⟨0, 54, none⟩ = some (.int .u16 16) := HL2.out.cell 54
  by_cases h6 : t = 16
  · subst h6
    have c0 : wr.cell? ⟨0, 56, none⟩ = some (.int .u8 3) := HL2.out.cell 56
    have c1 : wr.cell? ⟨0, 57, none⟩ = some (.int .u8 0) := HL2.out.cell 57
    have c2 : wr.cell? ⟨0, 58, none⟩ = some (.int .u8 0) := HL2.out.cell 58
    have c3 : wr.cell? ⟨0, 59, none⟩ = some (.int .u8 0) := HL2.out.cell 59
    have c4 : wr.cell? ⟨0, 60, none⟩ = some (.int .u8 0) := HL2.out.cell 60
    have c5 : wr.cell? ⟨0, 61, none⟩ = some (.int .u8 0) := HL2.out.cell 61
    have c6 : wr.cell? ⟨0, 62, none⟩ = some (.int .u8 0) := HL2.out.cell 62
    go_wp2_with (refine wpList_store_row rfl 113 (.tmp 2) (.tmp 16) rfl w.heap.size #[.int .u8 3, .int .u8 0, .int .u8 0, .int .u8 0, .int .u8 0, .int .u8 0, .int .u8 0] rfl rfl 113 #[.int .u8 0, .int .u8 0, .int .u8 0, .int .u8 0, .int .u8 0, .int .u8 0, .int .u8 0] HN.out (by kernel_rfl) rfl (by simp [Value.oneCell']) ?_)
    exact bodyPost_ret (v := .agg #[.int .u8 3, .int .u8 0, .int .u8 0, .int .u8 0, .int .u8 0, .int .u8 0, .int .u8 0]) (results_cell_row rfl _ _ w.heap.size 113 #[.int .u8 3, .int .u8 0, .int .u8 0, .int .u8 0, .int .u8 0, .int .u8 0, .int .u8 0] (0, 0) _ rfl (HN.out.row _) Tryz.underlying113 rfl (by kernel_rfl)) rfl ⟨rfl, below_setRow HB.out (Nat.le_refl _) _⟩
  have e6 : ((16 : Int) == (t : Int)) = false := beq_eq_false_iff_ne.2 (by omega)
  go_wp2
  clear d6 e6
  rw [rounds_succ]
  have d7 : wr.cell? ⟨0, 63, none⟩ = some (.int .u16 28) := HL2.out.cell 63
  by_cases h7 : t = 28
  · subst h7
    have c0 : wr.cell? ⟨0, 65, none⟩ = some (.int .u8 2) := HL2.out.cell 65
    have c1 : wr.cell? ⟨0, 66, none⟩ = some (.int .u8 0) := HL2.out.cell 66
    have c2 : wr.cell? ⟨0, 67, none⟩ = some (.int .u8 0) := HL2.out.cell 67
    have c3 : wr.cell? ⟨0, 68, none⟩ = some (.int .u8 0) := HL2.out.cell 68
    have c4 : wr.cell? ⟨0, 69, none⟩ = some (.int .u8 0) := HL2.out.cell 69
    have c5 : wr.cell? ⟨0, 70, none⟩ = some (.int .u8 0) := HL2.out.cell 70
    have c6 : wr.cell? ⟨0, 71, none⟩ = some (.int .u8 0) := HL2.out.cell 71
    go_wp2_with (refine wpList_store_row rfl 113 (.tmp 2) (.tmp 16) rfl w.heap.size #[.int .u8 2, .int .u8 0, .int .u8 0, .int .u8 0, .int .u8 0, .int .u8 0, .int .u8 0] rfl rfl 113 #[.int .u8 0, .int .u8 0, .int .u8 0, .int .u8 0, .int .u8 0, .int .u8 0, .int .u8 0] HN.out (by kernel_rfl) rfl (by simp [Value.oneCell']) ?_)
    exact bodyPost_ret (v := .agg #[.int .u8 2, .int .u8 0, .int .u8 0, .int .u8 0, .int .u8 0, .int .u8 0, .int .u8 0]) (results_cell_row rfl _ _ w.heap.size 113 #[.int .u8 2, .int .u8 0, .int .u8 0, .int .u8 0, .int .u8 0, .int .u8 0, .int .u8 0] (0, 0) _ rfl (HN.out.row _) Tryz.underlying113 rfl (by kernel_rfl)) rfl ⟨rfl, below_setRow HB.out (Nat.le_refl _) _⟩
  have e7 : ((28 : Int) == (t : Int)) = false := beq_eq_false_iff_ne.2 (by omega)
  go_wp2
  clear d7 e7
  rw [rounds_succ]
  have d8 : wr.cell? ⟨0, 72, none⟩ = some (.int .u16 33) := HL2.out.cell 72
  by_cases h8 : t = 33
  · subst h8
    have c0 : wr.cell? ⟨0, 74, none⟩ = some (.int .u8 8) := HL2.out.cell 74
    have c1 : wr.cell? ⟨0, 75, none⟩ = some (.int .u8 8) := HL2.out.cell 75
    have c2 : wr.cell? ⟨0, 76, none⟩ = some (.int .u8 8) := HL2.out.cell 76
    have c3 : wr.cell? ⟨0, 77, none⟩ = some (.int .u8 6) := HL2.out.cell 77
    have c4 : wr.cell? ⟨0, 78, none⟩ = some (.int .u8 0) := HL2.out.cell 78
    have c5 : wr.cell? ⟨0, 79, none⟩ = some (.int .u8 0) := HL2.out.cell 79
    have c6 : wr.cell? ⟨0, 80, none⟩ = some (.int .u8 0) := HL2.out.cell 80
    go_wp2_with (refine wpList_store_row rfl 113 (.tmp 2) (.tmp 16) rfl w.heap.size #[.int .u8 8, .int .u8 8, .int .u8 8, .int .u8 6, .int .u8 0, .int .u8 0, .int .u8 0] rfl rfl 113 #[.int .u8 0, .int .u8 0, .int .u8 0, .int .u8 0, .int .u8 0, .int .u8 0, .int .u8 0] HN.out (by kernel_rfl) rfl (by simp [Value.oneCell']) ?_)
    exact bodyPost_ret (v := .agg #[.int .u8 8, .int .u8 8, .int .u8 8, .int .u8 6, .int .u8 0, .int .u8 0, .int .u8 0]) (results_cell_row rfl _ _ w.heap.size 113 #[.int .u8 8, .int .u8 8, .int .u8 8, .int .u8 6, .int .u8 0, .int .u8 0, .int .u8 0] (0, 0) _ rfl (HN.out.row _) Tryz.underlying113 rfl (by kernel_rfl)) rfl ⟨rfl, below_setRow HB.out (Nat.le_refl _) _⟩
  have e8 : ((33 : Int) == (t : Int)) = false := beq_eq_false_iff_ne.2 (by omega)
  go_wp2
  clear d8 e8
  rw [rounds_succ]
  have HR : Hid (partsV t = .agg #[.int .u8 4, .int .u8 0, .int .u8 0, .int .u8 0, .int .u8 0, .int .u8 0, .int .u8 0]) := by unfold partsV partC; rw [Rd.parts_other h0 h1 h2 h3 h4 h5 h6 h7 h8]; rfl
  go_wp2_with (refine wpList_store_row rfl 113 (.tmp 2) (.tmp 18) rfl w.heap.size #[.int .u8 4, .int .u8 0, .int .u8 0, .int .u8 0, .int .u8 0, .int .u8 0, .int .u8 0] rfl rfl 113 #[.int .u8 0, .int .u8 0, .int .u8 0, .int .u8 0, .int .u8 0, .int .u8 0, .int .u8 0] HN.out (by kernel_rfl) rfl (by simp [Value.oneCell']) ?_)
  rw [HR.out]
  exact bodyPost_ret (v := .agg #[.int .u8 4, .int .u8 0, .int .u8 0, .int .u8 0, .int .u8 0, .int .u8 0, .int .u8 0]) (results_cell_row rfl _ _ w.heap.size 113 #[.int .u8 4, .int .u8 0, .int .u8 0, .int .u8 0, .int .u8 0, .int .u8 0, .int .u8 0] (0, 0) _ rfl (HN.out.row _) Tryz.underlying113 rfl (by kernel_rfl)) rfl ⟨rfl, below_setRow HB.out (Nat.le_refl _) _⟩
end Go.Proofs.YtgcaephfhfkjcaaGreatDoor
namespace Go.Proofs.YtgcaephfhfkjcaaGreatDoor
open Go.RowKit

/-- what fits says. -/
def fitR (p : Nat) (l : List UInt8) : Bool :=
  if p = 1 then l.length == 4 else if p = 2 then l.length == 16
  else if p = 3 then (match Rd.tx l with | some (_ :: _) => decide (l.length ≤ 65535) | _ => false)
  else decide (l.length ≤ 65535)
theorem fitR_fit {p : Nat} {d : Rd.Dt} {n : Nat} (h1 : 1 ≤ p) (h4 : p ≤ 4) : fitR p d.raw = Rd.fit p d n := by
  unfold fitR Rd.fit
  rcases (by omega : p = 1 ∨ p = 2 ∨ p = 3 ∨ p = 4) with rfl | rfl | rfl | rfl <;> rfl
set_option maxHeartbeats 1000000 in
set_option maxRecDepth 100000 in
theorem fits_3 (s : ByteArray) (w : World) (hs : s.size ≤ 8796093022208) :
    Calls Tryz.prog 58 #[.int .u8 3, .string s] w fun e w' => e = .returned (.bool (fitR 3 s.data.toList)) ∧ Below w.heap.size w w' := by
  have hl : s.data.toList.length = s.size := by simp
  have hres : fitR 3 s.data.toList = match Rd.tx s.data.toList with | some (_ :: _) => decide (s.size ≤ 65535) | _ => false := by rw [← hl]; rfl
  obtain ⟨R, hR⟩ : ∃ R, fitR 3 s.data.toList = R := ⟨_, rfl⟩
  rw [hR] at hres ⊢
  have key : ∃ d : Bool, (∀ W : World, Calls Tryz.prog 98 #[.string s] W fun e w' => ∃ v, e = .returned (.tuple #[v, .bool d]) ∧ Below W.heap.size W w') ∧ R = (d && decide (s.size ≤ 65535)) := by
    have HT := fun W : World => textsOf_any s W hs
    rcases htx : Rd.tx s.data.toList with _ | ls
    · rw [htx] at HT hres
      exact ⟨false, fun W => (HT W).mono fun e w' ⟨v, hb, he⟩ => ⟨v, he, hb⟩, by rw [hres]; rfl⟩
    · rw [htx] at HT hres
      cases ls with
      | nil => exact ⟨false, fun W => (HT W).mono fun e w' ⟨v, hb, he, _⟩ => ⟨v, he, hb⟩, by rw [hres]; rfl⟩
      | cons x r => exact ⟨true, fun W => (HT W).mono fun e w' ⟨v, hb, he, _⟩ => ⟨v, by rw [he]; simp, hb⟩, by rw [hres]; rfl⟩
  obtain ⟨d, hT, hd⟩ := key
  have HT := Lib.hid hT
  have HD := Lib.hid hd
  clear hT hd hres hR hl
  cases d with
  | true =>
    go_enter Tryz.func58, Tryz.ntmps58
    go_wp2_with (go_at_call 98; refine (HT.out _).mono ?_; rintro e' w2 ⟨v, rfl, hb⟩)
    go_ret
    refine ⟨ret_bool ?_, hb⟩
    rw [HD.out, Bool.eq_iff_iff]; simp; omega
  | false =>
    go_enter Tryz.func58, Tryz.ntmps58
    go_wp2_with (go_at_call 98; refine (HT.out _).mono ?_; rintro e' w2 ⟨v, rfl, hb⟩)
    go_ret
    refine ⟨ret_bool ?_, hb⟩
    rw [HD.out]; rfl
set_option maxHeartbeats 1000000 in
set_option maxRecDepth 100000 in
theorem fits_any (p : Nat) (s : ByteArray) (w : World) (h1 : 1 ≤ p) (h4 : p ≤ 4) (hs : s.size ≤ 8796093022208) :
    Calls Tryz.prog 58 #[.int .u8 p, .string s] w fun e w' => e = .returned (.bool (fitR p s.data.toList)) ∧ Below w.heap.size w w' := by
  have hl : s.data.toList.length = s.size := by simp
  rcases (by omega : p = 1 ∨ p = 2 ∨ p = 3 ∨ p = 4) with rfl | rfl | rfl | rfl
  · go_enter Tryz.func58, Tryz.ntmps58
    go_wp2
    go_ret
    refine ⟨ret_bool ?_, Below.refl _ _⟩
    show _ = (s.data.toList.length == 4)
    rw [hl, Bool.eq_iff_iff, beq_iff_eq, beq_iff_eq]; omega
  · go_enter Tryz.func58, Tryz.ntmps58
    go_wp2
    go_ret
    refine ⟨ret_bool ?_, Below.refl _ _⟩
    show _ = (s.data.toList.length == 16)
    rw [hl, Bool.eq_iff_iff, beq_iff_eq, beq_iff_eq]; omega
  · exact fits_3 s w hs
  · go_enter Tryz.func58, Tryz.ntmps58
    go_wp2
    go_ret
    refine ⟨ret_bool ?_, Below.refl _ _⟩
    show _ = decide (s.data.toList.length ≤ 65535)
    rw [hl, Bool.eq_iff_iff]; simp; omega
theorem width_8 (w : World) : Calls Tryz.prog 59 #[.int .u8 8] w fun e w' => e = .returned (.int .i64 16) ∧ w = w' := by
  go_enter Tryz.func59, Tryz.ntmps59
  go_wp2
  go_ret
  exact ⟨rfl, rfl⟩
theorem width_9 (w : World) : Calls Tryz.prog 59 #[.int .u8 9] w fun e w' => e = .returned (.int .i64 32) ∧ w = w' := by
  go_enter Tryz.func59, Tryz.ntmps59
  go_wp2
  go_ret
  exact ⟨rfl, rfl⟩
end Go.Proofs.YtgcaephfhfkjcaaGreatDoor
namespace Go.Proofs.YtgcaephfhfkjcaaGreatDoor
open Go.RowKit

def dvB (a b : Dv) : Bool := (a.raw.toList == b.raw.toList) && ((a.host.toList == b.host.toList) && ((a.mail.toList == b.mail.toList) && (((a.n0 : Int) == b.n0) && (((a.n1 : Int) == b.n1) && (((a.n2 : Int) == b.n2) && (((a.n3 : Int) == b.n3) && ((a.n4 : Int) == b.n4)))))))
def numC (a0 a1 a2 a3 a4 : Int) : Array Value := #[.int .u32 a0, .int .u32 a1, .int .u32 a2, .int .u32 a3, .int .u32 a4]
section
variable (W : World)
set_option maxRecDepth 100000 in
theorem numPart (a0 a1 a2 a3 a4 : Int) (k : Nat) (hk : k < 5) : (part 31 (numC a0 a1 a2 a3 a4) k).run Tryz.prog W = .ok (.int .u32 ([a0, a1, a2, a3, a4][k])) W := by
  rcases (by omega : k = 0 ∨ k = 1 ∨ k = 2 ∨ k = 3 ∨ k = 4) with rfl | rfl | rfl | rfl | rfl <;> rfl
theorem and_run {x y : Bool} (f : Unit → Sem Bool) (P : Program) (h : (f ()).run P W = .ok y W) : (if (!x) = true then (pure false : Sem Bool) else f ()).run P W = .ok (x && y) W := by
  cases x
  · simp
  · simpa using h
theorem numsRun (a0 a1 a2 a3 a4 b0 b1 b2 b3 b4 : Int) (d : Nat) : (Op.equalIn (d + 2) 32 (.agg (numC a0 a1 a2 a3 a4)) (.agg (numC b0 b1 b2 b3 b4))).run Tryz.prog W = .ok ((a0 == b0) && ((a1 == b1) && ((a2 == b2) && ((a3 == b3) && (a4 == b4))))) W := by
  obtain ⟨i, hi⟩ : ∃ i, Tryz.prog.info? 31 = some i := by
    have : (Tryz.prog.info? 31).isSome = true := by kernel_rfl
    exact Option.isSome_iff_exists.1 this
  rw [run_equalIn_array W (d + 1) _ _ Tryz.underlying32 hi]
  have hc : Tryz.prog.cellsOf 31 = 1 := by kernel_rfl
  have hr : List.range 5 = [0, 1, 2, 3, 4] := rfl
  rw [hc, hr]
  have st : ∀ (k : Nat) (hk : k < 5) (is : List Nat) (y : Bool), (Op.eqItems (d + 1) 31 1 (numC a0 a1 a2 a3 a4) (numC b0 b1 b2 b3 b4) is).run Tryz.prog W = .ok y W →
      (Op.eqItems (d + 1) 31 1 (numC a0 a1 a2 a3 a4) (numC b0 b1 b2 b3 b4) (k :: is)).run Tryz.prog W = .ok (([a0, a1, a2, a3, a4][k] == [b0, b1, b2, b3, b4][k]) && y) W := fun k hk is y h => by
    rw [Op.eqItems, Nat.mul_one]
    simp only [Sem.run_bind, numPart W _ _ _ _ _ k hk, Result.andThen_ok, run_equalIn_int W d _ _ _ _ _ Tryz.underlying31]
    exact and_run W (fun _ => Op.eqItems (d + 1) 31 1 (numC a0 a1 a2 a3 a4) (numC b0 b1 b2 b3 b4) is) _ h
  have h5 := st 4 (by omega) [] true rfl
  rw [Bool.and_true] at h5
  exact st 0 (by omega) _ _ (st 1 (by omega) _ _ (st 2 (by omega) _ _ (st 3 (by omega) _ _ h5)))
set_option maxRecDepth 100000 in
theorem dvRun (a b : Dv) (d : Nat) : (Op.equalIn (d + 4) 34 (.agg a.cells) (.agg b.cells)).run Tryz.prog W = .ok (dvB a b) W := by
  rw [run_equalIn_agg W (d + 3) _ _ _ (by kernel_rfl) Tryz.stoodInHeld34]
  have hf : (Tryz.prog.fieldsOf 34).toList.map (fun f => (f.name != "_", f.type, f.offset)) = [(true, 9, 0), (true, 22, 1), (true, 22, 2), (true, 32, 3)] := by kernel_rfl
  have hlen : (Tryz.prog.fieldsOf 34).toList.length = 4 := by kernel_rfl
  generalize (Tryz.prog.fieldsOf 34).toList = fs at *
  match fs, hlen, hf with
  | [f0, f1, f2, f3], _, hf =>
    simp only [List.map_cons, List.map_nil, List.cons.injEq, Prod.mk.injEq] at hf
    obtain ⟨⟨n0, t0, o0⟩, ⟨n1, t1, o1⟩, ⟨n2, t2, o2⟩, ⟨n3, t3, o3⟩, _⟩ := hf
    have p0 : ∀ x : Dv, (part 9 x.cells 0).run Tryz.prog W = .ok (.string x.raw) W := fun _ => rfl
    have p1 : ∀ x : Dv, (part 22 x.cells 1).run Tryz.prog W = .ok (.string x.host) W := fun _ => rfl
    have p2 : ∀ x : Dv, (part 22 x.cells 2).run Tryz.prog W = .ok (.string x.mail) W := fun _ => rfl
    have p3 : ∀ x : Dv, (part 32 x.cells 3).run Tryz.prog W = .ok (.agg (numC x.n0 x.n1 x.n2 x.n3 x.n4)) W := fun _ => rfl
    have u1 := Tryz.underlying22
    have u0 := Tryz.underlying9
    have m0 : ¬ (f0.name = "_") := by simpa using n0
    have m1 : ¬ (f1.name = "_") := by simpa using n1
    have m2 : ¬ (f2.name = "_") := by simpa using n2
    have m3 : ¬ (f3.name = "_") := by simpa using n3
    have st : ∀ (f : Field) (va vb : Value) (x y : Bool) (fs : List Field), ¬ (f.name = "_") → (part f.type a.cells f.offset).run Tryz.prog W = .ok va W → (part f.type b.cells f.offset).run Tryz.prog W = .ok vb W →
        (Op.equalIn (d + 3) f.type va vb).run Tryz.prog W = .ok x W → (Op.eqFields (d + 3) a.cells b.cells fs).run Tryz.prog W = .ok y W → (Op.eqFields (d + 3) a.cells b.cells (f :: fs)).run Tryz.prog W = .ok (x && y) W := fun f va vb x y fs hn ha hb he hr => by
      simp only [Op.eqFields, ne_eq, hn, not_false_eq_true, if_true, Sem.run_bind, ha, hb, he, Result.andThen_ok]
      exact and_run W (fun _ => Op.eqFields (d + 3) a.cells b.cells fs) _ hr
    have h4 := st f3 _ _ _ true [] m3 (by rw [t3, o3]; exact p3 a) (by rw [t3, o3]; exact p3 b) (by rw [t3]; exact numsRun W _ _ _ _ _ _ _ _ _ _ _) rfl
    rw [Bool.and_true] at h4
    exact st f0 _ _ _ _ _ m0 (by rw [t0, o0]; exact p0 a) (by rw [t0, o0]; exact p0 b) (by rw [t0]; exact run_equalIn_string W _ _ _ _ u0)
      (st f1 _ _ _ _ _ m1 (by rw [t1, o1]; exact p1 a) (by rw [t1, o1]; exact p1 b) (by rw [t1]; exact run_equalIn_string W _ _ _ _ u1)
        (st f2 _ _ _ _ _ m2 (by rw [t2, o2]; exact p2 a) (by rw [t2, o2]; exact p2 b) (by rw [t2]; exact run_equalIn_string W _ _ _ _ u1) h4))
theorem neqRun (a b : Dv) : (binOp .neq 34 (.agg a.cells) (.agg b.cells)).run Tryz.prog W = .ok (.bool (!dvB a b)) W := by
  rw [run_neq_struct, dvRun W a b 9996]; rfl
end
theorem strB (a b : ByteArray) : (a.toList == b.toList) = decide (a = b) := by
  rw [← beq_toListBytes, Bool.eq_iff_iff, decide_eq_true_eq]; exact MapKept.bytes_beq a b
theorem dvB_iff (a b : Dv) : dvB a b = true ↔ a = b := by
  obtain ⟨r, h, m, n0, n1, n2, n3, n4⟩ := a
  obtain ⟨r', h', m', k0, k1, k2, k3, k4⟩ := b
  unfold dvB
  rw [strB, strB, strB]
  simp
  omega
section
variable {w : World} {ops : Array Oper} {rest : List Oper} {o : Oper} {a : Act} {Q : Exit → Act → World → Prop}
theorem wpList_neq_data (hgd : o.guard = none) (x y : Operand) (ho : o.op = .binOp .neq 34 x y 34) (A B : Dv) (hx : a.eval x = .agg A.cells) (hy : a.eval y = .agg B.cells) (b : Bool) (hb : dvB A B = b)
    (h : wpList Tryz.prog ops Q rest (a.put o.dst (.bool (!b))) w) : wpList Tryz.prog ops Q (o :: rest) a w := by
  subst hb
  refine wpList_plain hgd fun _ hK => ?_
  unfold Oper.wp execOp
  simp only [ho, hx, hy, Sem.run_bind, Sem.run_pure, Result.andThen_ok, run_eqGuard_agg w .neq _ _ _ _ _ Tryz.eqGuardType34, neqRun]
  exact hK _ _ h
end
end Go.Proofs.YtgcaephfhfkjcaaGreatDoor
namespace Go.Proofs.YtgcaephfhfkjcaaGreatDoor
open Go.RowKit

set_option maxRecDepth 100000 in
theorem part_run (a b c d e f g : Int) (k : Nat) (hk : k < 7) (W : World) : (Instr.index 113 (.agg #[.int .u8 a, .int .u8 b, .int .u8 c, .int .u8 d, .int .u8 e, .int .u8 f, .int .u8 g]) (.int .i64 (k : Nat))).run Tryz.prog W = .ok (([.int .u8 a, .int .u8 b, .int .u8 c, .int .u8 d, .int .u8 e, .int .u8 f, .int .u8 g] : List Value)[k]) W := by
  rcases (by omega : k = 0 ∨ k = 1 ∨ k = 2 ∨ k = 3 ∨ k = 4 ∨ k = 5 ∨ k = 6) with rfl | rfl | rfl | rfl | rfl | rfl | rfl <;> rfl
theorem part_at {t k : Nat} (h : k < (Rd.parts t).length) (W : World) : (Instr.index 113 (.agg (partC t)) (.int .i64 (k : Nat))).run Tryz.prog W = .ok (.int .u8 ((Rd.parts t)[k] : Nat)) W := by
  have h7 := Rd.parts_len t
  unfold partC
  generalize Rd.parts t = l at *
  match l, h7, h with
  | [a, b, c, d, e, f, g], _, h =>
    refine (part_run a b c d e f g k h W).trans ?_
    have h' : k < 7 := h
    rcases (by omega : k = 0 ∨ k = 1 ∨ k = 2 ∨ k = 3 ∨ k = 4 ∨ k = 5 ∨ k = 6) with rfl | rfl | rfl | rfl | rfl | rfl | rfl <;> rfl
end Go.Proofs.YtgcaephfhfkjcaaGreatDoor
