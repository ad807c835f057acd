/- Texts of the proofs, merged. -/
import Derived.Test.YtmieakkhpkclpaaDoorG1
import Derived.Test.YtmieakkhpkclpaaDoorG2
import Derived.WalkKit
/- The table of parts: what is laid, and what is read of it. -/
namespace Go.Proofs.YtmieakkhpkclpaaDoor
open Go.RowKit

/-- the table's cells. -/
def rowsCells : Array Value := #[.int .u16 1, .string ⟨#[65]⟩, .int .u8 1, .int .u8 0, .int .u8 0, .int .u8 0, .int .u8 0, .int .u8 0, .int .u8 0, .int .u16 2, .string ⟨#[78, 83]⟩, .int .u8 5, .int .u8 0, .int .u8 0, .int .u8 0, .int .u8 0, .int .u8 0, .int .u8 0, .int .u16 5, .string ⟨#[67, 78, 65, 77, 69]⟩, .int .u8 5, .int .u8 0, .int .u8 0, .int .u8 0, .int .u8 0, .int .u8 0, .int .u8 0, .int .u16 6, .string ⟨#[83, 79, 65]⟩, .int .u8 5, .int .u8 7, .int .u8 9, .int .u8 9, .int .u8 9, .int .u8 9, .int .u8 9, .int .u16 12, .string ⟨#[80, 84, 82]⟩, .int .u8 5, .int .u8 0, .int .u8 0, .int .u8 0, .int .u8 0, .int .u8 0, .int .u8 0, .int .u16 15, .string ⟨#[77, 88]⟩, .int .u8 8, .int .u8 5, .int .u8 0, .int .u8 0, .int .u8 0, .int .u8 0, .int .u8 0, .int .u16 16, .string ⟨#[84, 88, 84]⟩, .int .u8 3, .int .u8 0, .int .u8 0, .int .u8 0, .int .u8 0, .int .u8 0, .int .u8 0, .int .u16 28, .string ⟨#[65, 65, 65, 65]⟩, .int .u8 2, .int .u8 0, .int .u8 0, .int .u8 0, .int .u8 0, .int .u8 0, .int .u8 0, .int .u16 33, .string ⟨#[83, 82, 86]⟩, .int .u8 8, .int .u8 8, .int .u8 8, .int .u8 6, .int .u8 0, .int .u8 0, .int .u8 0]
/-- the table is as its initialiser lays it. -/
def LayR (w : World) : Prop := ∃ t, Has w 0 t rowsCells
theorem LayR.lt {w : World} (h : LayR w) : 0 < w.heap.size := h.elim fun _ h => Has.lt h
theorem LayR.below {w w' : World} {B : Nat} (h : LayR w) (hb : Below B w w') (hB : w.heap.size ≤ B) : LayR w' := h.elim fun t h => ⟨t, h.below hb (Nat.lt_of_lt_of_le h.lt hB)⟩
theorem LayR.cell {w : World} (h : LayR w) (i : Nat) : w.cell? ⟨0, i, none⟩ = rowsCells[i]? := h.elim fun _ h => Has.cell h i
def partC (t : Nat) : Array Value := ((Rd.parts t).map fun (p : Nat) => Value.int .u8 ((p : Nat) : Int)).toArray
def partsV (t : Nat) : Value := .agg (partC t)

set_option maxHeartbeats 4000000 in
set_option maxRecDepth 100000 in
theorem partsOf_any (t : Nat) (w : World) (ht : t ≤ 65535) (hL : LayR w) :
    Calls Tryd.prog 67 #[.int .u16 t] w fun e w' => e = .returned (partsV t) ∧ Below w.heap.size w w' := by
  have HL := Lib.hid hL
  have hlt := hL.lt
  have HL2 : Hid (LayR (w.alloc (.cells #[.int .u8 0, .int .u8 0, .int .u8 0, .int .u8 0, .int .u8 0, .int .u8 0, .int .u8 0] 93))) := hL.below ((Below.refl _ _).alloc (Nat.le_refl _) _) (Nat.le_refl _)
  have HN : Hid (Has (w.alloc (.cells #[.int .u8 0, .int .u8 0, .int .u8 0, .int .u8 0, .int .u8 0, .int .u8 0, .int .u8 0] 93)) w.heap.size 93 #[.int .u8 0, .int .u8 0, .int .u8 0, .int .u8 0, .int .u8 0, .int .u8 0, .int .u8 0]) := Has.fresh w _ _
  have HB : Hid (Below w.heap.size w (w.alloc (.cells #[.int .u8 0, .int .u8 0, .int .u8 0, .int .u8 0, .int .u8 0, .int .u8 0, .int .u8 0] 93))) := (Below.refl _ _).alloc (Nat.le_refl _) _
  clear hL
  go_enter Tryd.func67, Tryd.ntmps67
  go_wp2
  generalize hwr : w.alloc (.cells #[.int .u8 0, .int .u8 0, .int .u8 0, .int .u8 0, .int .u8 0, .int .u8 0, .int .u8 0] 93) = wr at HL2 HN HB ⊢
  clear hwr
  refine wp_loop_rounds 10 ?_
  rw [rounds_succ]
  have d0 : wr.cell? ⟨0, 0, none⟩ = some (.int .u16 1) := HL2.out.cell 0
  by_cases h0 : t = 1
  · subst h0
    have c0 : wr.cell? ⟨0, 2, none⟩ = some (.int .u8 1) := HL2.out.cell 2
    have c1 : wr.cell? ⟨0, 3, none⟩ = some (.int .u8 0) := HL2.out.cell 3
    have c2 : wr.cell? ⟨0, 4, none⟩ = some (.int .u8 0) := HL2.out.cell 4
    have c3 : wr.cell? ⟨0, 5, none⟩ = some (.int .u8 0) := HL2.out.cell 5
    have c4 : wr.cell? ⟨0, 6, none⟩ = some (.int .u8 0) := HL2.out.cell 6
    have c5 : wr.cell? ⟨0, 7, none⟩ = some (.int .u8 0) := HL2.out.cell 7
    have c6 : wr.cell? ⟨0, 8, none⟩ = some (.int .u8 0) := HL2.out.cell 8
    go_wp2_with (refine wpList_store_row rfl 93 (.tmp 2) (.tmp 16) rfl w.heap.size #[.int .u8 1, .int .u8 0, .int .u8 0, .int .u8 0, .int .u8 0, .int .u8 0, .int .u8 0] rfl rfl 93 #[.int .u8 0, .int .u8 0, .int .u8 0, .int .u8 0, .int .u8 0, .int .u8 0, .int .u8 0] HN.out (by kernel_rfl) rfl (by simp [Value.oneCell']) ?_)
    exact bodyPost_ret (v := .agg #[.int .u8 1, .int .u8 0, .int .u8 0, .int .u8 0, .int .u8 0, .int .u8 0, .int .u8 0]) (results_cell_row rfl _ _ w.heap.size 93 #[.int .u8 1, .int .u8 0, .int .u8 0, .int .u8 0, .int .u8 0, .int .u8 0, .int .u8 0] (0, 0) _ rfl (HN.out.row _) Tryd.underlying93 rfl (by kernel_rfl)) rfl ⟨rfl, below_setRow HB.out (Nat.le_refl _) _⟩
  have e0 : ((1 : Int) == (t : Int)) = false := beq_eq_false_iff_ne.2 (by omega)
  go_wp2
  clear d0 e0
  rw [rounds_succ]
  have d1 : wr.cell? ⟨0, 9, none⟩ = some (.int .u16 2) := HL2.out.cell 9
  by_cases h1 : t = 2
  · subst h1
    have c0 : wr.cell? ⟨0, 11, none⟩ = some (.int .u8 5) := HL2.out.cell 11
    have c1 : wr.cell? ⟨0, 12, none⟩ = some (.int .u8 0) := HL2.out.cell 12
    have c2 : wr.cell? ⟨0, 13, none⟩ = some (.int .u8 0) := HL2.out.cell 13
    have c3 : wr.cell? ⟨0, 14, none⟩ = some (.int .u8 0) := HL2.out.cell 14
    have c4 : wr.cell? ⟨0, 15, none⟩ = some (.int .u8 0) := HL2.out.cell 15
    have c5 : wr.cell? ⟨0, 16, none⟩ = some (.int .u8 0) := HL2.out.cell 16
    have c6 : wr.cell? ⟨0, 17, none⟩ = some (.int .u8 0) := HL2.out.cell 17
    go_wp2_with (refine wpList_store_row rfl 93 (.tmp 2) (.tmp 16) rfl w.heap.size #[.int .u8 5, .int .u8 0, .int .u8 0, .int .u8 0, .int .u8 0, .int .u8 0, .int .u8 0] rfl rfl 93 #[.int .u8 0, .int .u8 0, .int .u8 0, .int .u8 0, .int .u8 0, .int .u8 0, .int .u8 0] HN.out (by kernel_rfl) rfl (by simp [Value.oneCell']) ?_)
    exact bodyPost_ret (v := .agg #[.int .u8 5, .int .u8 0, .int .u8 0, .int .u8 0, .int .u8 0, .int .u8 0, .int .u8 0]) (results_cell_row rfl _ _ w.heap.size 93 #[.int .u8 5, .int .u8 0, .int .u8 0, .int .u8 0, .int .u8 0, .int .u8 0, .int .u8 0] (0, 0) _ rfl (HN.out.row _) Tryd.underlying93 rfl (by kernel_rfl)) rfl ⟨rfl, below_setRow HB.out (Nat.le_refl _) _⟩
  have e1 : ((2 : Int) == (t : Int)) = false := beq_eq_false_iff_ne.2 (by omega)
  go_wp2
  clear d1 e1
  rw [rounds_succ]
  have d2 : wr.cell? ⟨0, 18, none⟩ = some (.int .u16 5) := HL2.out.cell 18
  by_cases h2 : t = 5
  · subst h2
    have c0 : wr.cell? ⟨0, 20, none⟩ = some (.int .u8 5) := HL2.out.cell 20
    have c1 : wr.cell? ⟨0, 21, none⟩ = some (.int .u8 0) := HL2.out.cell 21
    have c2 : wr.cell? ⟨0, 22, none⟩ = some (.int .u8 0) := HL2.out.cell 22
    have c3 : wr.cell? ⟨0, 23, none⟩ = some (.int .u8 0) := HL2.out.cell 23
    have c4 : wr.cell? ⟨0, 24, none⟩ = some (.int .u8 0) := HL2.out.cell 24
    have c5 : wr.cell? ⟨0, 25, none⟩ = some (.int .u8 0) := HL2.out.cell 25
    have c6 : wr.cell? ⟨0, 26, none⟩ = some (.int .u8 0) := HL2.out.cell 26
    go_wp2_with (refine wpList_store_row rfl 93 (.tmp 2) (.tmp 16) rfl w.heap.size #[.int .u8 5, .int .u8 0, .int .u8 0, .int .u8 0, .int .u8 0, .int .u8 0, .int .u8 0] rfl rfl 93 #[.int .u8 0, .int .u8 0, .int .u8 0, .int .u8 0, .int .u8 0, .int .u8 0, .int .u8 0] HN.out (by kernel_rfl) rfl (by simp [Value.oneCell']) ?_)
    exact bodyPost_ret (v := .agg #[.int .u8 5, .int .u8 0, .int .u8 0, .int .u8 0, .int .u8 0, .int .u8 0, .int .u8 0]) (results_cell_row rfl _ _ w.heap.size 93 #[.int .u8 5, .int .u8 0, .int .u8 0, .int .u8 0, .int .u8 0, .int .u8 0, .int .u8 0] (0, 0) _ rfl (HN.out.row _) Tryd.underlying93 rfl (by kernel_rfl)) rfl ⟨rfl, below_setRow HB.out (Nat.le_refl _) _⟩
  have e2 : ((5 : Int) == (t : Int)) = false := beq_eq_false_iff_ne.2 (by omega)
  go_wp2
  clear d2 e2
  rw [rounds_succ]
  have d3 : wr.cell? ⟨0, 27, none⟩ = some (.int .u16 6) := HL2.out.cell 27
  by_cases h3 : t = 6
  · subst h3
    have c0 : wr.cell? ⟨0, 29, none⟩ = some (.int .u8 5) := HL2.out.cell 29
    have c1 : wr.cell? ⟨0, 30, none⟩ = some (.int .u8 7) := HL2.out.cell 30
    have c2 : wr.cell? ⟨0, 31, none⟩ = some (.int .u8 9) := HL2.out.cell 31
    have c3 : wr.cell? ⟨0, 32, none⟩ = some (.int .u8 9) := HL2.out.cell 32
    have c4 : wr.cell? ⟨0, 33, none⟩ = some (.int .u8 9) := HL2.out.cell 33
    have c5 : wr.cell? ⟨0, 34, none⟩ = some (.int .u8 9) := HL2.out.cell 34
    have c6 : wr.cell? ⟨0, 35, none⟩ = some (.int .u8 9) := HL2.out.cell 35
    go_wp2_with (refine wpList_store_row rfl 93 (.tmp 2) (.tmp 16) rfl w.heap.size #[.int .u8 5, .int .u8 7, .int .u8 9, .int .u8 9, .int .u8 9, .int .u8 9, .int .u8 9] rfl rfl 93 #[.int .u8 0, .int .u8 0, .int .u8 0, .int .u8 0, .int .u8 0, .int .u8 0, .int .u8 0] HN.out (by kernel_rfl) rfl (by simp [Value.oneCell']) ?_)
    exact bodyPost_ret (v := .agg #[.int .u8 5, .int .u8 7, .int .u8 9, .int .u8 9, .int .u8 9, .int .u8 9, .int .u8 9]) (results_cell_row rfl _ _ w.heap.size 93 #[.int .u8 5, .int .u8 7, .int .u8 9, .int .u8 9, .int .u8 9, .int .u8 9, .int .u8 9] (0, 0) _ rfl (HN.out.row _) Tryd.underlying93 rfl (by kernel_rfl)) rfl ⟨rfl, below_setRow HB.out (Nat.le_refl _) _⟩
  have e3 : ((6 : Int) == (t : Int)) = false := beq_eq_false_iff_ne.2 (by omega)
  go_wp2
  clear d3 e3
  rw [rounds_succ]
  have d4 : wr.cell? ⟨0, 36, none⟩ = some (.int .u16 12) := HL2.out.cell 36
  by_cases h4 : t = 12
  · subst h4
    have c0 : wr.cell? ⟨0, 38, none⟩ = some (.int .u8 5) := HL2.out.cell 38
    have c1 : wr.cell? ⟨0, 39, none⟩ = some (.int .u8 0) := HL2.out.cell 39
    have c2 : wr.cell? ⟨0, 40, none⟩ = some (.int .u8 0) := HL2.out.cell 40
    have c3 : wr.cell? ⟨0, 41, none⟩ = some (.int .u8 0) := HL2.out.cell 41
    have c4 : wr.cell? ⟨0, 42, none⟩ = some (.int .u8 0) := HL2.out.cell 42
    have c5 : wr.cell? ⟨0, 43, none⟩ = some (.int .u8 0) := HL2.out.cell 43
    have c6 : wr.cell? ⟨0, 44, none⟩ = some (.int .u8 0) := HL2.out.cell 44
    go_wp2_with (refine wpList_store_row rfl 93 (.tmp 2) (.tmp 16) rfl w.heap.size #[.int .u8 5, .int .u8 0, .int .u8 0, .int .u8 0, .int .u8 0, .int .u8 0, .int .u8 0] rfl rfl 93 #[.int .u8 0, .int .u8 0, .int .u8 0, .int .u8 0, .int .u8 0, .int .u8 0, .int .u8 0] HN.out (by kernel_rfl) rfl (by simp [Value.oneCell']) ?_)
    exact bodyPost_ret (v := .agg #[.int .u8 5, .int .u8 0, .int .u8 0, .int .u8 0, .int .u8 0, .int .u8 0, .int .u8 0]) (results_cell_row rfl _ _ w.heap.size 93 #[.int .u8 5, .int .u8 0, .int .u8 0, .int .u8 0, .int .u8 0, .int .u8 0, .int .u8 0] (0, 0) _ rfl (HN.out.row _) Tryd.underlying93 rfl (by kernel_rfl)) rfl ⟨rfl, below_setRow HB.out (Nat.le_refl _) _⟩
  have e4 : ((12 : Int) == (t : Int)) = false := beq_eq_false_iff_ne.2 (by omega)
  go_wp2
  clear d4 e4
  rw [rounds_succ]
  have d5 : wr.cell? ⟨0, 45, none⟩ = some (.int .u16 15) := HL2.out.cell 45
  by_cases h5 : t = 15
  · subst h5
    have c0 : wr.cell? ⟨0, 47, none⟩ = some (.int .u8 8) := HL2.out.cell 47
    have c1 : wr.cell? ⟨0, 48, none⟩ = some (.int .u8 5) := HL2.out.cell 48
    have c2 : wr.cell? ⟨0, 49, none⟩ = some (.int .u8 0) := HL2.out.cell 49
    have c3 : wr.cell? ⟨0, 50, none⟩ = some (.int .u8 0) := HL2.out.cell 50
    have c4 : wr.cell? ⟨0, 51, none⟩ = some (.int .u8 0) := HL2.out.cell 51
    have c5 : wr.cell? ⟨0, 52, none⟩ = some (.int .u8 0) := HL2.out.cell 52
    have c6 : wr.cell? ⟨0, 53, none⟩ = some (.int .u8 0) := HL2.out.cell 53
    go_wp2_with (refine wpList_store_row rfl 93 (.tmp 2) (.tmp 16) rfl w.heap.size #[.int .u8 8, .int .u8 5, .int .u8 0, .int .u8 0, .int .u8 0, .int .u8 0, .int .u8 0] rfl rfl 93 #[.int .u8 0, .int .u8 0, .int .u8 0, .int .u8 0, .int .u8 0, .int .u8 0, .int .u8 0] HN.out (by kernel_rfl) rfl (by simp [Value.oneCell']) ?_)
    exact bodyPost_ret (v := .agg #[.int .u8 8, .int .u8 5, .int .u8 0, .int .u8 0, .int .u8 0, .int .u8 0, .int .u8 0]) (results_cell_row rfl _ _ w.heap.size 93 #[.int .u8 8, .int .u8 5, .int .u8 0, .int .u8 0, .int .u8 0, .int .u8 0, .int .u8 0] (0, 0) _ rfl (HN.out.row _) Tryd.underlying93 rfl (by kernel_rfl)) rfl ⟨rfl, below_setRow HB.out (Nat.le_refl _) _⟩
  have e5 : ((15 : Int) == (t : Int)) = false := beq_eq_false_iff_ne.2 (by omega)
  go_wp2
  clear d5 e5
  rw [rounds_succ]
  have d6 : wr.cell? ⟨0, 54, none⟩ = some (.int .u16 16) := HL2.out.cell 54
  by_cases h6 : t = 16
  · subst h6
    have c0 : wr.cell? ⟨0, 56, none⟩ = some (.int .u8 3) := HL2.out.cell 56
    have c1 : wr.cell? ⟨0, 57, none⟩ = some (.int .u8 0) := HL2.out.cell 57
    have c2 : wr.cell? ⟨0, 58, none⟩ = some (.int .u8 0) := HL2.out.cell 58
    have c3 : wr.cell? ⟨0, 59, none⟩ = some (.int .u8 0) := HL2.out.cell 59
    have c4 : wr.cell? ⟨0, 60, none⟩ = some (.int .u8 0) := HL2.out.cell 60
    have c5 : wr.cell? ⟨0, 61, none⟩ = some (.int .u8 0) := HL2.out.cell 61
    have c6 : wr.cell? ⟨0, 62, none⟩ = some (.int .u8 0) := HL2.out.cell 62
    go_wp2_with (refine wpList_store_row rfl 93 (.tmp 2) (.tmp 16) rfl w.heap.size #[.int .u8 3, .int .u8 0, .int .u8 0, .int .u8 0, .int .u8 0, .int .u8 0, .int .u8 0] rfl rfl 93 #[.int .u8 0, .int .u8 0, .int .u8 0, .int .u8 0, .int .u8 0, .int .u8 0, .int .u8 0] HN.out (by kernel_rfl) rfl (by simp [Value.oneCell']) ?_)
    exact bodyPost_ret (v := .agg #[.int .u8 3, .int .u8 0, .int .u8 0, .int .u8 0, .int .u8 0, .int .u8 0, .int .u8 0]) (results_cell_row rfl _ _ w.heap.size 93 #[.int .u8 3, .int .u8 0, .int .u8 0, .int .u8 0, .int .u8 0, .int .u8 0, .int .u8 0] (0, 0) _ rfl (HN.out.row _) Tryd.underlying93 rfl (by kernel_rfl)) rfl ⟨rfl, below_setRow HB.out (Nat.le_refl _) _⟩
  have e6 : ((16 : Int) == (t : Int)) = false := beq_eq_false_iff_ne.2 (by omega)
  go_wp2
  clear d6 e6
  rw [rounds_succ]
  have d7 : wr.cell? ⟨0, 63, none⟩ = some (.int .u16 28) := HL2.out.cell 63
  by_cases h7 : t = 28
  · subst h7
    have c0 : wr.cell? ⟨0, 65, none⟩ = some (.int .u8 2) := HL2.out.cell 65
    have c1 : wr.cell? ⟨0, 66, none⟩ = some (.int .u8 0) := HL2.out.cell 66
    have c2 : wr.cell? ⟨0, 67, none⟩ = some (.int .u8 0) := HL2.out.cell 67
    have c3 : wr.cell? ⟨0, 68, none⟩ = some (.int .u8 0) := HL2.out.cell 68
    have c4 : wr.cell? ⟨0, 69, none⟩ = some (.int .u8 0) := HL2.out.cell 69
    have c5 : wr.cell? ⟨0, 70, none⟩ = some (.int .u8 0) := HL2.out.cell 70
    have c6 : wr.cell? ⟨0, 71, none⟩ = some (.int .u8 0) := HL2.out.cell 71
    go_wp2_with (refine wpList_store_row rfl 93 (.tmp 2) (.tmp 16) rfl w.heap.size #[.int .u8 2, .int .u8 0, .int .u8 0, .int .u8 0, .int .u8 0, .int .u8 0, .int .u8 0] rfl rfl 93 #[.int .u8 0, .int .u8 0, .int .u8 0, .int .u8 0, .int .u8 0, .int .u8 0, .int .u8 0] HN.out (by kernel_rfl) rfl (by simp [Value.oneCell']) ?_)
    exact bodyPost_ret (v := .agg #[.int .u8 2, .int .u8 0, .int .u8 0, .int .u8 0, .int .u8 0, .int .u8 0, .int .u8 0]) (results_cell_row rfl _ _ w.heap.size 93 #[.int .u8 2, .int .u8 0, .int .u8 0, .int .u8 0, .int .u8 0, .int .u8 0, .int .u8 0] (0, 0) _ rfl (HN.out.row _) Tryd.underlying93 rfl (by kernel_rfl)) rfl ⟨rfl, below_setRow HB.out (Nat.le_refl _) _⟩
  have e7 : ((28 : Int) == (t : Int)) = false := beq_eq_false_iff_ne.2 (by omega)
  go_wp2
  clear d7 e7
  rw [rounds_succ]
  have d8 : wr.cell? ⟨0, 72, none⟩ = some (.int .u16 33) := HL2.out.cell 72
  by_cases h8 : t = 33
  · subst h8
    have c0 : wr.cell? ⟨0, 74, none⟩ = some (.int .u8 8) := HL2.out.cell 74
    have c1 : wr.cell? ⟨0, 75, none⟩ = some (.int .u8 8) := HL2.out.cell 75
    have c2 : wr.cell? ⟨0, 76, none⟩ = some (.int .u8 8) := HL2.out.cell 76
    have c3 : wr.cell? ⟨0, 77, none⟩ = some (.int .u8 6) := HL2.out.cell 77
    have c4 : wr.cell? ⟨0, 78, none⟩ = some (.int .u8 0) := HL2.out.cell 78
    have c5 : wr.cell? ⟨0, 79, none⟩ = some (.int .u8 0) := HL2.out.cell 79
    have c6 : wr.cell? ⟨0, 80, none⟩ = some (.int .u8 0) := HL2.out.cell 80
    go_wp2_with (refine wpList_store_row rfl 93 (.tmp 2) (.tmp 16) rfl w.heap.size #[.int .u8 8, .int .u8 8, .int .u8 8, .int .u8 6, .int .u8 0, .int .u8 0, .int .u8 0] rfl rfl 93 #[.int .u8 0, .int .u8 0, .int .u8 0, .int .u8 0, .int .u8 0, .int .u8 0, .int .u8 0] HN.out (by kernel_rfl) rfl (by simp [Value.oneCell']) ?_)
    exact bodyPost_ret (v := .agg #[.int .u8 8, .int .u8 8, .int .u8 8, .int .u8 6, .int .u8 0, .int .u8 0, .int .u8 0]) (results_cell_row rfl _ _ w.heap.size 93 #[.int .u8 8, .int .u8 8, .int .u8 8, .int .u8 6, .int .u8 0, .int .u8 0, .int .u8 0] (0, 0) _ rfl (HN.out.row _) Tryd.underlying93 rfl (by kernel_rfl)) rfl ⟨rfl, below_setRow HB.out (Nat.le_refl _) _⟩
  have e8 : ((33 : Int) == (t : Int)) = false := beq_eq_false_iff_ne.2 (by omega)
  go_wp2
  clear d8 e8
  rw [rounds_succ]
  have HR : Hid (partsV t = .agg #[.int .u8 4, .int .u8 0, .int .u8 0, .int .u8 0, .int .u8 0, .int .u8 0, .int .u8 0]) := by unfold partsV partC; rw [Rd.parts_other h0 h1 h2 h3 h4 h5 h6 h7 h8]; rfl
  go_wp2_with (refine wpList_store_row rfl 93 (.tmp 2) (.tmp 18) rfl w.heap.size #[.int .u8 4, .int .u8 0, .int .u8 0, .int .u8 0, .int .u8 0, .int .u8 0, .int .u8 0] rfl rfl 93 #[.int .u8 0, .int .u8 0, .int .u8 0, .int .u8 0, .int .u8 0, .int .u8 0, .int .u8 0] HN.out (by kernel_rfl) rfl (by simp [Value.oneCell']) ?_)
  rw [HR.out]
  exact bodyPost_ret (v := .agg #[.int .u8 4, .int .u8 0, .int .u8 0, .int .u8 0, .int .u8 0, .int .u8 0, .int .u8 0]) (results_cell_row rfl _ _ w.heap.size 93 #[.int .u8 4, .int .u8 0, .int .u8 0, .int .u8 0, .int .u8 0, .int .u8 0, .int .u8 0] (0, 0) _ rfl (HN.out.row _) Tryd.underlying93 rfl (by kernel_rfl)) rfl ⟨rfl, below_setRow HB.out (Nat.le_refl _) _⟩
end Go.Proofs.YtmieakkhpkclpaaDoor
/- A part at its place in the table's row. -/
namespace Go.Proofs.YtmieakkhpkclpaaDoor
open Go.RowKit

set_option maxRecDepth 100000 in
theorem part_run (a b c d e f g : Int) (k : Nat) (hk : k < 7) (W : World) : (Instr.index 93 (.agg #[.int .u8 a, .int .u8 b, .int .u8 c, .int .u8 d, .int .u8 e, .int .u8 f, .int .u8 g]) (.int .i64 (k : Nat))).run Tryd.prog W = .ok (([.int .u8 a, .int .u8 b, .int .u8 c, .int .u8 d, .int .u8 e, .int .u8 f, .int .u8 g] : List Value)[k]) W := by
  rcases (by omega : k = 0 ∨ k = 1 ∨ k = 2 ∨ k = 3 ∨ k = 4 ∨ k = 5 ∨ k = 6) with rfl | rfl | rfl | rfl | rfl | rfl | rfl <;> rfl
theorem part_at {t k : Nat} (h : k < (Rd.parts t).length) (W : World) : (Instr.index 93 (.agg (partC t)) (.int .i64 (k : Nat))).run Tryd.prog W = .ok (.int .u8 ((Rd.parts t)[k] : Nat)) W := by
  have h7 := Rd.parts_len t
  unfold partC
  generalize Rd.parts t = l at *
  match l, h7, h with
  | [a, b, c, d, e, f, g], _, h =>
    refine (part_run a b c d e f g k h W).trans ?_
    have h' : k < 7 := h
    rcases (by omega : k = 0 ∨ k = 1 ∨ k = 2 ∨ k = 3 ∨ k = 4 ∨ k = 5 ∨ k = 6) with rfl | rfl | rfl | rfl | rfl | rfl | rfl <;> rfl
end Go.Proofs.YtmieakkhpkclpaaDoor
