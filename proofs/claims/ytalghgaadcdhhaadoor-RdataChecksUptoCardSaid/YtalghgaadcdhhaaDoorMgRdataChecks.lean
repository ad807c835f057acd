/- RdataChecks: whatever type and data are handed in, the call returns true, and the arguments read behind it as before (where they are at most 1048576 letters). -/
import Derived.Test.YtalghgaadcdhhaaDoorG13
import Derived.Test.YtalghgaadcdhhaaDoorG14
import Derived.Test.YtalghgaadcdhhaaDoorG15
import Derived.Test.YtalghgaadcdhhaaDoorG16
namespace Go.Proofs.YtalghgaadcdhhaaDoor
open Go.RowKit

theorem wf_u16 {x : Int} (h : (Lit.int .u16 x).wf = true) : ∃ n : Nat, x = n ∧ n ≤ 65535 := by
  have h1 : IntKind.u16.min = 0 := rfl
  have h2 : IntKind.u16.max = 65535 := rfl
  simp only [Lit.wf, Bool.and_eq_true, decide_eq_true_eq] at h
  exact ⟨x.toNat, by omega, by omega⟩
set_option maxHeartbeats 4000000 in
set_option maxRecDepth 100000 in
theorem walk_RdataChecks (w : World) (hL : LayA w) (t : Int) (ht : (Lit.int .u16 t).wf = true) (d : Dv) (hf : d.fits) (_hm : d.raw.size ≤ 140737488351232 ∧ d.host.size ≤ 140737488351232 ∧ d.mail.size ≤ 140737488351232) (hu : d.raw.size + d.host.size + d.mail.size ≤ 1048576) :
    Calls Tryd.prog 3 #[.int .u16 t, d.val] w fun e w' => e = .returned (.bool true) ∧ Below w.heap.size w w' := by
  obtain ⟨n, rfl, hn⟩ := wf_u16 ht
  obtain ⟨R, hR⟩ : ∃ R : Int, (((if Rd.ok n d.dt then 0 else 40 : Nat) : Nat) : Int) = R := ⟨_, rfl⟩
  obtain ⟨X, hX⟩ : ∃ X, d.fold n = X := ⟨_, rfl⟩
  have hX0 : Has (w.alloc (.cells d.cells 27)) w.heap.size 27 d.cells := Has.fresh w _ _
  have hB0 : Below w.heap.size w (w.alloc (.cells d.cells 27)) := (Below.refl _ _).alloc (Nat.le_refl _) _
  have hA0 := hL.below hB0 (Nat.le_refl _)
  have HC1 := Lib.hid (fun (W : World) (h : Below (w.alloc (.cells d.cells 27)).heap.size (w.alloc (.cells d.cells 27)) W) => pdCheck_any n d W hn (hA0.below h (Nat.le_refl _)).1 hf (by omega) (by omega) (by omega))
  have HC2 := Lib.hid (fun (W : World) => rdCheck_any n d W hn hf (by omega) (by omega) (by omega))
  have HF1 := Lib.hid (fun (W : World) (h : Below (w.alloc (.cells d.cells 27)).heap.size (w.alloc (.cells d.cells 27)) W) => pdFold_any n d W hn (hA0.below h (Nat.le_refl _)).1 (by omega) (by omega))
  have HF2 := Lib.hid (fun (W : World) => rdFold_any n d W hn (by omega) (by omega))
  have HW := Lib.hid (fun (W : World) (h : Below (w.alloc (.cells d.cells 27)).heap.size (w.alloc (.cells d.cells 27)) W) => rdWakes W (hA0.below h (Nat.le_refl _)))
  rw [hR] at HC1 HC2
  rw [hX] at HF1 HF2
  have eX : X.val = .agg X.cells := rfl
  have eD : d.val = .agg #[.string d.raw, .string d.host, .string d.mail, .int .u32 d.n0, .int .u32 d.n1, .int .u32 d.n2, .int .u32 d.n3, .int .u32 d.n4] := rfl
  have eC : d.cells = #[.string d.raw, .string d.host, .string d.mail, .int .u32 d.n0, .int .u32 d.n1, .int .u32 d.n2, .int .u32 d.n3, .int .u32 d.n4] := rfl
  have p0 : X.cells[0]? = some (.string X.raw) := rfl
  have p1 : X.cells[1]? = some (.string X.host) := rfl
  have p2 : X.cells[2]? = some (.string X.mail) := rfl
  have pn : ∀ W, (Op.equalIn 9999 25 (.agg (X.cells.extract 3 8)) (.agg (X.cells.extract 3 8))).run Tryd.prog W = .ok true W := fun W => by
    have := numsRun W X.n0 X.n1 X.n2 X.n3 X.n4 X.n0 X.n1 X.n2 X.n3 X.n4 9997
    simpa [numC, Dv.cells] using this
  rw [eX] at HF1 HF2
  rw [eD] at HC1 HC2 HF1 HF2 ⊢
  rw [eC] at hX0 hB0 HC1 HF1 HW
  clear eX eD eC hR hX hL hA0 hf
  generalize hwb : w.alloc (.cells #[.string d.raw, .string d.host, .string d.mail, .int .u32 d.n0, .int .u32 d.n1, .int .u32 d.n2, .int .u32 d.n3, .int .u32 d.n4] 27) = wb at *
  have hlt := hX0.lt
  have HK := Lib.hid (fun (W : World) (hb : Below wb.heap.size wb W) => (show (W.cell? ⟨w.heap.size, 0, none⟩ = some (.string d.raw) ∧ W.cell? ⟨w.heap.size, 1, none⟩ = some (.string d.host) ∧ W.cell? ⟨w.heap.size, 2, none⟩ = some (.string d.mail) ∧ W.cell? ⟨w.heap.size, 3, none⟩ = some (.int .u32 d.n0) ∧ W.cell? ⟨w.heap.size, 4, none⟩ = some (.int .u32 d.n1) ∧ W.cell? ⟨w.heap.size, 5, none⟩ = some (.int .u32 d.n2) ∧ W.cell? ⟨w.heap.size, 6, none⟩ = some (.int .u32 d.n3) ∧ W.cell? ⟨w.heap.size, 7, none⟩ = some (.int .u32 d.n4)) ∧ Below wb.heap.size wb W from ⟨by
    have h := hX0.below hb hlt
    exact ⟨by rw [h.cell]; rfl, by rw [h.cell]; rfl, by rw [h.cell]; rfl, by rw [h.cell]; rfl, by rw [h.cell]; rfl, by rw [h.cell]; rfl, by rw [h.cell]; rfl, by rw [h.cell]; rfl⟩, hb⟩))
  have HB0 := Lib.hid hB0
  have HWB := Lib.hid hwb
  clear hX0 hB0 hwb
  go_enter Tryd.func3, Tryd.ntmps3
  go_wp2
  rw [HWB.out]
  refine wp_region_noPanic ?_
  refine wp_region_held_drew (S := (fun W => (W.cell? ⟨w.heap.size, 0, none⟩ = some (.string d.raw) ∧ W.cell? ⟨w.heap.size, 1, none⟩ = some (.string d.host) ∧ W.cell? ⟨w.heap.size, 2, none⟩ = some (.string d.mail) ∧ W.cell? ⟨w.heap.size, 3, none⟩ = some (.int .u32 d.n0) ∧ W.cell? ⟨w.heap.size, 4, none⟩ = some (.int .u32 d.n1) ∧ W.cell? ⟨w.heap.size, 5, none⟩ = some (.int .u32 d.n2) ∧ W.cell? ⟨w.heap.size, 6, none⟩ = some (.int .u32 d.n3) ∧ W.cell? ⟨w.heap.size, 7, none⟩ = some (.int .u32 d.n4)) ∧ Below wb.heap.size wb W)) (by kernel_rfl) ?hax1 (fun hHeld => ?_)
  case hax1 =>
    try dsimp only
    (first | assumption | exact HK.out _ (Below.refl _ _).drew | exact HK.out _ HW1.out)
  refine wpAnyH_take (i := 0) (oi := { dst := some 5, op := Go.Op.move (Go.Operand.tmp 0), type := 22, pos := "law.go:29", after := #[], guard := none }) (v := ?vax2) rfl (by kernel_rfl) (by kernel_rfl) (by kernel_rfl) (fun _ _ _ h => h) (Or.inl ⟨by rfl, ?hax2⟩) (by assumption) ?_
  case hax2 =>
    intro w hSw
    try dsimp only at hSw
    go_simp
    try with_reducible rfl
  try simp only [Act.put, List.setIfInBounds_toArray, List.set_cons_zero, List.set_cons_succ]
  refine wpAnyH_take (i := 1) (oi := { dst := some 6, op := Go.Op.load 27 (Go.Operand.tmp 3), type := 27, pos := "law.go:29", after := #[], guard := none }) (v := ?vax3) rfl (by kernel_rfl) (by kernel_rfl) (by kernel_rfl) (fun _ _ _ h => h) (Or.inl ⟨by rfl, ?hax3⟩) (by assumption) ?_
  case hax3 =>
    intro w hSw
    try dsimp only at hSw
    go_simp
    try with_reducible rfl
  try simp only [Act.put, List.setIfInBounds_toArray, List.set_cons_zero, List.set_cons_succ]
  refine wpAnyH_take (i := 3) (oi := { dst := some 8, op := Go.Op.move (Go.Operand.tmp 0), type := 22, pos := "law.go:29", after := #[], guard := none }) (v := ?vax4) rfl (by kernel_rfl) (by kernel_rfl) (by kernel_rfl) (fun _ _ _ h => h) (Or.inl ⟨by rfl, ?hax4⟩) (by assumption) ?_
  case hax4 =>
    intro w hSw
    try dsimp only at hSw
    go_simp
    try with_reducible rfl
  try simp only [Act.put, List.setIfInBounds_toArray, List.set_cons_zero, List.set_cons_succ]
  refine wpAnyH_take (i := 4) (oi := { dst := some 9, op := Go.Op.load 27 (Go.Operand.tmp 3), type := 27, pos := "law.go:29", after := #[], guard := none }) (v := ?vax5) rfl (by kernel_rfl) (by kernel_rfl) (by kernel_rfl) (fun _ _ _ h => h) (Or.inl ⟨by rfl, ?hax5⟩) (by assumption) ?_
  case hax5 =>
    intro w hSw
    try dsimp only at hSw
    go_simp
    try with_reducible rfl
  try simp only [Act.put, List.setIfInBounds_toArray, List.set_cons_zero, List.set_cons_succ]
  refine wpAnyH_ready (rs := [2]) (by kernel_rfl) (by simp) ?_
  refine AllReadyH.cons (o := { dst := some 7, op := Go.Op.call { callee := Go.Callee.value (Go.Operand.func 8), args := #[Go.Operand.tmp 5, Go.Operand.tmp 6], argTypes := #[22, 27] }, type := 28, pos := "law.go:29", after := #[{ on := 0, ground := Go.Ground.data }, { on := 1, ground := Go.Ground.data }], guard := none }) rfl (fun K hK => ?_) AllReadyH.nil
  go_simp
  (first | (go_at_call 8; (with_reducible refine (HC1.out _ (by go_split_ands; assumption)).mono ?_); rintro e W1 ⟨rfl, B1⟩; have HW1 : Hid (Below wb.heap.size wb W1) := (by go_split_ands; exact below_on2 (by assumption) B1); clear B1) | (go_at_call 9; (with_reducible refine (HC2.out _).mono ?_); rintro e W1 ⟨rfl, B1⟩; have HW1 : Hid (Below wb.heap.size wb W1) := (by go_split_ands; exact below_on2 (by assumption) B1); clear B1) | (go_at_call 10; (with_reducible refine (HF1.out _ (by go_split_ands; assumption)).mono ?_); rintro e W1 ⟨rfl, B1⟩; have HW1 : Hid (Below wb.heap.size wb W1) := (by go_split_ands; exact below_on2 (by assumption) B1); clear B1) | (go_at_call 11; (with_reducible refine (HF2.out _).mono ?_); rintro e W1 ⟨rfl, B1⟩; have HW1 : Hid (Below wb.heap.size wb W1) := (by go_split_ands; exact below_on2 (by assumption) B1); clear B1) | (go_at_call 12; (with_reducible refine (HW.out _ (by go_split_ands; assumption)).mono ?_); rintro e W1 ⟨rfl, B1⟩; have HW1 : Hid (Below wb.heap.size wb W1) := (by go_split_ands; exact below_on2 (by assumption) B1); clear B1))
  try go_wp2_with fail
  refine hK.out _ _ ?hax6 (fun hHeld => ?_)
  case hax6 =>
    try dsimp only
    (first | assumption | exact HK.out _ (Below.refl _ _).drew | exact HK.out _ HW1.out)
  clear hK K
  try simp only [Act.put, List.setIfInBounds_toArray, List.set_cons_zero, List.set_cons_succ]
  refine wpAnyH_ready (rs := [5]) (by kernel_rfl) (by simp) ?_
  refine AllReadyH.cons (o := { dst := some 10, op := Go.Op.call { callee := Go.Callee.value (Go.Operand.func 9), args := #[Go.Operand.tmp 8, Go.Operand.tmp 9], argTypes := #[22, 27] }, type := 28, pos := "law.go:29", after := #[{ on := 3, ground := Go.Ground.data }, { on := 4, ground := Go.Ground.data }, { on := 2, ground := Go.Ground.chain }], guard := none }) rfl (fun K hK => ?_) AllReadyH.nil
  go_simp
  (first | (go_at_call 8; (with_reducible refine (HC1.out _ (by go_split_ands; assumption)).mono ?_); rintro e W1 ⟨rfl, B1⟩; have HW1 : Hid (Below wb.heap.size wb W1) := (by go_split_ands; exact below_on2 (by assumption) B1); clear B1) | (go_at_call 9; (with_reducible refine (HC2.out _).mono ?_); rintro e W1 ⟨rfl, B1⟩; have HW1 : Hid (Below wb.heap.size wb W1) := (by go_split_ands; exact below_on2 (by assumption) B1); clear B1) | (go_at_call 10; (with_reducible refine (HF1.out _ (by go_split_ands; assumption)).mono ?_); rintro e W1 ⟨rfl, B1⟩; have HW1 : Hid (Below wb.heap.size wb W1) := (by go_split_ands; exact below_on2 (by assumption) B1); clear B1) | (go_at_call 11; (with_reducible refine (HF2.out _).mono ?_); rintro e W1 ⟨rfl, B1⟩; have HW1 : Hid (Below wb.heap.size wb W1) := (by go_split_ands; exact below_on2 (by assumption) B1); clear B1) | (go_at_call 12; (with_reducible refine (HW.out _ (by go_split_ands; assumption)).mono ?_); rintro e W1 ⟨rfl, B1⟩; have HW1 : Hid (Below wb.heap.size wb W1) := (by go_split_ands; exact below_on2 (by assumption) B1); clear B1))
  try go_wp2_with fail
  refine hK.out _ _ ?hax7 (fun hHeld => ?_)
  case hax7 =>
    try dsimp only
    (first | assumption | exact HK.out _ (Below.refl _ _).drew | exact HK.out _ HW1.out)
  clear hK K
  try simp only [Act.put, List.setIfInBounds_toArray, List.set_cons_zero, List.set_cons_succ]
  refine wpAnyH_take (i := 6) (oi := { dst := some 11, op := Go.Op.binOp Go.BinOp.eql 28 (Go.Operand.tmp 7) (Go.Operand.tmp 10) 28, type := 4, pos := "law.go:29", after := #[{ on := 2, ground := Go.Ground.data }, { on := 5, ground := Go.Ground.data }], guard := none }) (v := ?vax8) rfl (by kernel_rfl) (by kernel_rfl) (by kernel_rfl) (fun _ _ _ h => h) (Or.inl ⟨by rfl, ?hax8⟩) (by assumption) ?_
  case hax8 =>
    intro w hSw
    try dsimp only at hSw
    go_simp
    try with_reducible rfl
  try simp only [Act.put, List.setIfInBounds_toArray, List.set_cons_zero, List.set_cons_succ]
  refine wpAnyH_take (i := 7) (oi := { dst := some 12, op := Go.Op.move (Go.Operand.tmp 11), type := 4, pos := "law.go:29", after := #[{ on := 6, ground := Go.Ground.data }, { on := 5, ground := Go.Ground.chain }], guard := none }) (v := ?vax9) rfl (by kernel_rfl) (by kernel_rfl) (by kernel_rfl) (fun _ _ _ h => h) (Or.inl ⟨by rfl, ?hax9⟩) (by assumption) ?_
  case hax9 =>
    intro w hSw
    try dsimp only at hSw
    go_simp
    try with_reducible rfl
  try simp only [Act.put, List.setIfInBounds_toArray, List.set_cons_zero, List.set_cons_succ]
  refine wpAnyH_take (i := 8) (oi := { dst := some 13, op := Go.Op.move (Go.Operand.tmp 0), type := 22, pos := "law.go:29", after := #[{ on := 7, ground := Go.Ground.guard }], guard := some (7, true) }) (v := ?vax10) rfl (by kernel_rfl) (by kernel_rfl) (by kernel_rfl) (fun _ _ _ h => h) (Or.inl ⟨by rfl, ?hax10⟩) (by assumption) ?_
  case hax10 =>
    intro w hSw
    try dsimp only at hSw
    go_simp
    try with_reducible rfl
  try simp only [Act.put, List.setIfInBounds_toArray, List.set_cons_zero, List.set_cons_succ]
  refine wpAnyH_take (i := 9) (oi := { dst := some 14, op := Go.Op.load 27 (Go.Operand.tmp 3), type := 27, pos := "law.go:29", after := #[{ on := 7, ground := Go.Ground.guard }], guard := some (7, true) }) (v := ?vax11) rfl (by kernel_rfl) (by kernel_rfl) (by kernel_rfl) (fun _ _ _ h => h) (Or.inl ⟨by rfl, ?hax11⟩) (by assumption) ?_
  case hax11 =>
    intro w hSw
    try dsimp only at hSw
    go_simp
    try with_reducible rfl
  try simp only [Act.put, List.setIfInBounds_toArray, List.set_cons_zero, List.set_cons_succ]
  refine wpAnyH_take (i := 11) (oi := { dst := some 16, op := Go.Op.move (Go.Operand.tmp 0), type := 22, pos := "law.go:29", after := #[{ on := 7, ground := Go.Ground.guard }], guard := some (7, true) }) (v := ?vax12) rfl (by kernel_rfl) (by kernel_rfl) (by kernel_rfl) (fun _ _ _ h => h) (Or.inl ⟨by rfl, ?hax12⟩) (by assumption) ?_
  case hax12 =>
    intro w hSw
    try dsimp only at hSw
    go_simp
    try with_reducible rfl
  try simp only [Act.put, List.setIfInBounds_toArray, List.set_cons_zero, List.set_cons_succ]
  refine wpAnyH_take (i := 12) (oi := { dst := some 17, op := Go.Op.load 27 (Go.Operand.tmp 3), type := 27, pos := "law.go:29", after := #[{ on := 7, ground := Go.Ground.guard }], guard := some (7, true) }) (v := ?vax13) rfl (by kernel_rfl) (by kernel_rfl) (by kernel_rfl) (fun _ _ _ h => h) (Or.inl ⟨by rfl, ?hax13⟩) (by assumption) ?_
  case hax13 =>
    intro w hSw
    try dsimp only at hSw
    go_simp
    try with_reducible rfl
  try simp only [Act.put, List.setIfInBounds_toArray, List.set_cons_zero, List.set_cons_succ]
  refine wpAnyH_ready (rs := [10]) (by kernel_rfl) (by simp) ?_
  refine AllReadyH.cons (o := { dst := some 15, op := Go.Op.call { callee := Go.Callee.value (Go.Operand.func 10), args := #[Go.Operand.tmp 13, Go.Operand.tmp 14], argTypes := #[22, 27] }, type := 27, pos := "law.go:29", after := #[{ on := 8, ground := Go.Ground.data }, { on := 9, ground := Go.Ground.data }, { on := 7, ground := Go.Ground.chain }, { on := 7, ground := Go.Ground.guard }], guard := some (7, true) }) rfl (fun K hK => ?_) AllReadyH.nil
  go_simp
  (first | (go_at_call 8; (with_reducible refine (HC1.out _ (by go_split_ands; assumption)).mono ?_); rintro e W1 ⟨rfl, B1⟩; have HW1 : Hid (Below wb.heap.size wb W1) := (by go_split_ands; exact below_on2 (by assumption) B1); clear B1) | (go_at_call 9; (with_reducible refine (HC2.out _).mono ?_); rintro e W1 ⟨rfl, B1⟩; have HW1 : Hid (Below wb.heap.size wb W1) := (by go_split_ands; exact below_on2 (by assumption) B1); clear B1) | (go_at_call 10; (with_reducible refine (HF1.out _ (by go_split_ands; assumption)).mono ?_); rintro e W1 ⟨rfl, B1⟩; have HW1 : Hid (Below wb.heap.size wb W1) := (by go_split_ands; exact below_on2 (by assumption) B1); clear B1) | (go_at_call 11; (with_reducible refine (HF2.out _).mono ?_); rintro e W1 ⟨rfl, B1⟩; have HW1 : Hid (Below wb.heap.size wb W1) := (by go_split_ands; exact below_on2 (by assumption) B1); clear B1) | (go_at_call 12; (with_reducible refine (HW.out _ (by go_split_ands; assumption)).mono ?_); rintro e W1 ⟨rfl, B1⟩; have HW1 : Hid (Below wb.heap.size wb W1) := (by go_split_ands; exact below_on2 (by assumption) B1); clear B1))
  try go_wp2_with fail
  refine hK.out _ _ ?hax14 (fun hHeld => ?_)
  case hax14 =>
    try dsimp only
    (first | assumption | exact HK.out _ (Below.refl _ _).drew | exact HK.out _ HW1.out)
  clear hK K
  try simp only [Act.put, List.setIfInBounds_toArray, List.set_cons_zero, List.set_cons_succ]
  refine wpAnyH_ready (rs := [13]) (by kernel_rfl) (by simp) ?_
  refine AllReadyH.cons (o := { dst := some 18, op := Go.Op.call { callee := Go.Callee.value (Go.Operand.func 11), args := #[Go.Operand.tmp 16, Go.Operand.tmp 17], argTypes := #[22, 27] }, type := 27, pos := "law.go:29", after := #[{ on := 11, ground := Go.Ground.data }, { on := 12, ground := Go.Ground.data }, { on := 10, ground := Go.Ground.chain }, { on := 7, ground := Go.Ground.guard }], guard := some (7, true) }) rfl (fun K hK => ?_) AllReadyH.nil
  go_simp
  (first | (go_at_call 8; (with_reducible refine (HC1.out _ (by go_split_ands; assumption)).mono ?_); rintro e W1 ⟨rfl, B1⟩; have HW1 : Hid (Below wb.heap.size wb W1) := (by go_split_ands; exact below_on2 (by assumption) B1); clear B1) | (go_at_call 9; (with_reducible refine (HC2.out _).mono ?_); rintro e W1 ⟨rfl, B1⟩; have HW1 : Hid (Below wb.heap.size wb W1) := (by go_split_ands; exact below_on2 (by assumption) B1); clear B1) | (go_at_call 10; (with_reducible refine (HF1.out _ (by go_split_ands; assumption)).mono ?_); rintro e W1 ⟨rfl, B1⟩; have HW1 : Hid (Below wb.heap.size wb W1) := (by go_split_ands; exact below_on2 (by assumption) B1); clear B1) | (go_at_call 11; (with_reducible refine (HF2.out _).mono ?_); rintro e W1 ⟨rfl, B1⟩; have HW1 : Hid (Below wb.heap.size wb W1) := (by go_split_ands; exact below_on2 (by assumption) B1); clear B1) | (go_at_call 12; (with_reducible refine (HW.out _ (by go_split_ands; assumption)).mono ?_); rintro e W1 ⟨rfl, B1⟩; have HW1 : Hid (Below wb.heap.size wb W1) := (by go_split_ands; exact below_on2 (by assumption) B1); clear B1))
  try go_wp2_with fail
  refine hK.out _ _ ?hax15 (fun hHeld => ?_)
  case hax15 =>
    try dsimp only
    (first | assumption | exact HK.out _ (Below.refl _ _).drew | exact HK.out _ HW1.out)
  clear hK K
  try simp only [Act.put, List.setIfInBounds_toArray, List.set_cons_zero, List.set_cons_succ]
  refine wpAnyH_take (i := 14) (oi := { dst := some 19, op := Go.Op.binOp Go.BinOp.eql 27 (Go.Operand.tmp 15) (Go.Operand.tmp 18) 27, type := 4, pos := "law.go:29", after := #[{ on := 10, ground := Go.Ground.data }, { on := 13, ground := Go.Ground.data }, { on := 7, ground := Go.Ground.guard }], guard := some (7, true) }) (v := ?vax16) rfl (by kernel_rfl) (by kernel_rfl) (by kernel_rfl) (fun _ _ _ h => h) (Or.inl ⟨by rfl, ?hax16⟩) (by assumption) ?_
  case hax16 =>
    intro w hSw
    try dsimp only at hSw
    go_simp
    try with_reducible rfl
  try simp only [Act.put, List.setIfInBounds_toArray, List.set_cons_zero, List.set_cons_succ]
  refine wpAnyH_take (i := 15) (oi := { dst := some 20, op := Go.Op.pick (Go.Operand.tmp 12) (Go.Operand.tmp 19) (Go.Operand.const (Go.Value.bool false)), type := 4, pos := "law.go:29", after := #[{ on := 7, ground := Go.Ground.data }, { on := 14, ground := Go.Ground.data }], guard := none }) (v := ?vax17) rfl (by kernel_rfl) (by kernel_rfl) (by kernel_rfl) (fun _ _ _ h => h) (Or.inl ⟨by rfl, ?hax17⟩) (by assumption) ?_
  case hax17 =>
    intro w hSw
    try dsimp only at hSw
    go_simp
    try with_reducible rfl
  try simp only [Act.put, List.setIfInBounds_toArray, List.set_cons_zero, List.set_cons_succ]
  refine wpAnyH_take (i := 16) (oi := { dst := some 21, op := Go.Op.move (Go.Operand.tmp 20), type := 4, pos := "law.go:29", after := #[{ on := 15, ground := Go.Ground.data }, { on := 13, ground := Go.Ground.chain }], guard := none }) (v := ?vax18) rfl (by kernel_rfl) (by kernel_rfl) (by kernel_rfl) (fun _ _ _ h => h) (Or.inl ⟨by rfl, ?hax18⟩) (by assumption) ?_
  case hax18 =>
    intro w hSw
    try dsimp only at hSw
    go_simp
    try with_reducible rfl
  try simp only [Act.put, List.setIfInBounds_toArray, List.set_cons_zero, List.set_cons_succ]
  refine wpAnyH_ready (rs := [17]) (by kernel_rfl) (by simp) ?_
  refine AllReadyH.cons (o := { dst := some 22, op := Go.Op.call { callee := Go.Callee.value (Go.Operand.func 12), args := #[], argTypes := #[] }, type := 4, pos := "law.go:29", after := #[{ on := 16, ground := Go.Ground.chain }, { on := 16, ground := Go.Ground.guard }], guard := some (16, true) }) rfl (fun K hK => ?_) AllReadyH.nil
  go_simp
  (first | (go_at_call 8; (with_reducible refine (HC1.out _ (by go_split_ands; assumption)).mono ?_); rintro e W1 ⟨rfl, B1⟩; have HW1 : Hid (Below wb.heap.size wb W1) := (by go_split_ands; exact below_on2 (by assumption) B1); clear B1) | (go_at_call 9; (with_reducible refine (HC2.out _).mono ?_); rintro e W1 ⟨rfl, B1⟩; have HW1 : Hid (Below wb.heap.size wb W1) := (by go_split_ands; exact below_on2 (by assumption) B1); clear B1) | (go_at_call 10; (with_reducible refine (HF1.out _ (by go_split_ands; assumption)).mono ?_); rintro e W1 ⟨rfl, B1⟩; have HW1 : Hid (Below wb.heap.size wb W1) := (by go_split_ands; exact below_on2 (by assumption) B1); clear B1) | (go_at_call 11; (with_reducible refine (HF2.out _).mono ?_); rintro e W1 ⟨rfl, B1⟩; have HW1 : Hid (Below wb.heap.size wb W1) := (by go_split_ands; exact below_on2 (by assumption) B1); clear B1) | (go_at_call 12; (with_reducible refine (HW.out _ (by go_split_ands; assumption)).mono ?_); rintro e W1 ⟨rfl, B1⟩; have HW1 : Hid (Below wb.heap.size wb W1) := (by go_split_ands; exact below_on2 (by assumption) B1); clear B1))
  try go_wp2_with fail
  refine hK.out _ _ ?hax19 (fun hHeld => ?_)
  case hax19 =>
    try dsimp only
    (first | assumption | exact HK.out _ (Below.refl _ _).drew | exact HK.out _ HW1.out)
  clear hK K
  try simp only [Act.put, List.setIfInBounds_toArray, List.set_cons_zero, List.set_cons_succ]
  refine wpAnyH_take (i := 18) (oi := { dst := some 23, op := Go.Op.pick (Go.Operand.tmp 21) (Go.Operand.tmp 22) (Go.Operand.const (Go.Value.bool false)), type := 4, pos := "law.go:29", after := #[{ on := 16, ground := Go.Ground.data }, { on := 17, ground := Go.Ground.data }], guard := none }) (v := ?vax20) rfl (by kernel_rfl) (by kernel_rfl) (by kernel_rfl) (fun _ _ _ h => h) (Or.inl ⟨by rfl, ?hax20⟩) (by assumption) ?_
  case hax20 =>
    intro w hSw
    try dsimp only at hSw
    go_simp
    try with_reducible rfl
  try simp only [Act.put, List.setIfInBounds_toArray, List.set_cons_zero, List.set_cons_succ]
  refine wpAnyH_take (i := 19) (oi := { dst := some 4, op := Go.Op.assign (Go.Operand.tmp 23), type := 4, pos := "law.go:29", after := #[{ on := 18, ground := Go.Ground.data }, { on := 17, ground := Go.Ground.chain }, { on := 0, ground := Go.Ground.phase }, { on := 1, ground := Go.Ground.phase }, { on := 2, ground := Go.Ground.phase }, { on := 3, ground := Go.Ground.phase }, { on := 4, ground := Go.Ground.phase }, { on := 5, ground := Go.Ground.phase }, { on := 6, ground := Go.Ground.phase }, { on := 7, ground := Go.Ground.phase }, { on := 8, ground := Go.Ground.phase }, { on := 9, ground := Go.Ground.phase }, { on := 10, ground := Go.Ground.phase }, { on := 11, ground := Go.Ground.phase }, { on := 12, ground := Go.Ground.phase }, { on := 13, ground := Go.Ground.phase }, { on := 14, ground := Go.Ground.phase }, { on := 15, ground := Go.Ground.phase }, { on := 16, ground := Go.Ground.phase }, { on := 17, ground := Go.Ground.phase }, { on := 18, ground := Go.Ground.phase }], guard := none }) (v := ?vax21) rfl (by kernel_rfl) (by kernel_rfl) (by kernel_rfl) (fun _ _ _ h => h) (Or.inl ⟨by rfl, ?hax21⟩) (by assumption) ?_
  case hax21 =>
    intro w hSw
    try dsimp only at hSw
    go_simp
    try with_reducible rfl
  try simp only [Act.put, List.setIfInBounds_toArray, List.set_cons_zero, List.set_cons_succ]
  refine wpAnyH_done (by kernel_rfl) ?_ _
  refine NoPanic.normal ?_
  all_goals
    (go_wp2
     go_ret
     exact ⟨rfl, HB0.out.trans (HW1.out.mono HB0.out.size)⟩)

namespace rdataChecks
open Go.ChangeShapes Go.WideShapes Go.ChangeAt
open Go.ChangeMaps (open_string shut_string)
theorem laid_lay {W : World} (h : laidMetH Tryd.prog Rows.rdataChecksRow.laid W) : LayA W := by
  rw [MakeChecks.laidMetH_plain _ _ _ (by kernel_rfl)] at h
  exact ⟨laid_rows h.tail.tail.tail, laid_pow h.tail.tail, laid_bits h.tail⟩
set_option maxRecDepth 100000 in
theorem contract (H : Type) (enc : TypeId × Value → H) (W : World) (base : Nat) (args : Array Value) (ds gs : List (DataW H)) (before : List MemPlace)
    (hval : ∀ (j : Nat) t v, Tryd.f3.params[j]? = some t → args[j]? = some v → Value.okWide Tryd.prog W .any base t v)
    (hW : DataW.Whole enc Tryd.prog Tryd.f3.params.toList Rows.rdataChecksSpec.vars false W args.toList ds gs before)
    (hK : Rows.uptoSmall H (ds ++ gs) = true)
    (hR : (DataW.weightsEach Tryd.prog (Tryd.f3.params.toList ++ (OpenSpec.ofChange Rows.rdataChecksSpec).bare.plain.varTypes Tryd.prog) (ds ++ gs)).all (· ≤ reachBytes) = true)
    (hL : laidMetH Tryd.prog Rows.rdataChecksRow.laid W) :
    Calls Tryd.prog 3 args W fun e W' => ∃ v, e = .returned v ∧ Rows.rdataChecksSpec.post enc Tryd.prog Tryd.f3 false true false false W args v W' := by
  have hW' := hW
  obtain ⟨p, q, hA0, hV, rfl, hfz, hnd⟩ := hW
  have hA : DataW.TrodAll enc Tryd.prog W 0 (fun _ => true) true Tryd.f3.params.toList args.toList ds p := hA0
  have HS := trodAll_stays (W' := W) (sp := fun _ => true) out (by kernel_rfl) hA
  have HA := Lib.hid hA
  rw [Tryd.params3] at hA hval hR
  obtain ⟨v0, vs0, d0, ds0, p0, q0, hargs0, rfl, rfl, h0, r0⟩ := trodAll_cons hA
  obtain ⟨v1, vs1, d1, ds1, p1, q1, hargs1, rfl, rfl, h1, r1⟩ := trodAll_cons r0
  obtain ⟨rfl, rfl, rfl⟩ := trodAll_nil r1
  obtain rfl : args = #[v0, v1] := by cases args; simp_all
  obtain ⟨rfl, rfl⟩ := trodVars_none hV
  obtain ⟨t, rfl, rfl, rfl, z0⟩ := open_int Tryd.underlying22 (hval 0 22 v0 rfl rfl) h0
  obtain ⟨d, rfl, hf1, hu1, hm1⟩ := open_data (hval 1 27 v1 rfl rfl) h1
  clear hA0 HS
  have hB := of_decide_eq_true hK
  simp only [List.append_nil, Rows.uptoBulkAll] at hB
  obtain ⟨k0, s0⟩ := reach_cons hR
  obtain ⟨k1, s1⟩ := reach_cons s0
  refine (walk_RdataChecks W (laid_lay hL) t z0 d hf1 (hm1 k1) (show d.raw.size + d.host.size + d.mail.size ≤ 1048576 by omega)).mono fun e W' ⟨he, hb⟩ => ?_
  subst he
  have hlt := hW'.lt
  refine ⟨_, rfl, post_low hW' (pa := _) (pv := []) rfl hb (fun _ _ _ => trodAll_cons_mk (shut_bool Tryd.underlying4 _) trodAll_mk0) (fun sp hsp => ?_) (fun _ _ => rfl) (ok_one (by kernel_rfl) rfl (okWide_bool_mk Tryd.underlying4 _))⟩
  exact trodAll_stays out (by kernel_rfl) HA.out (fun x hx => hb.same (hlt x (List.mem_append_left _ hx))) (fun x hx => hsp x (List.mem_append_left _ hx))

noncomputable def wargs : Array Value := #[.int .u16 0, .agg #[.string ByteArray.empty, .string ByteArray.empty, .string ByteArray.empty, .int .u32 0, .int .u32 0, .int .u32 0, .int .u32 0, .int .u32 0]]
noncomputable def lw (os : Os) : World := World.doorLaid Tryd.prog 400 os
theorem door_met (os : Os) (args : Array Value) : laidMetH Tryd.prog Rows.rdataChecksRow.laid ((lw os).forCall (fun _ _ => 0) ⟨#[], args, []⟩).memory :=
  laidMetH_of_parts3 (fuel := 8) (laidMet_of_run' 8 (by kernel_rfl) (by kernel_rfl)) (by kernel_rfl) (by kernel_rfl)
theorem reads (os : Os) {H : Type} (enc : TypeId × Value → H) : ∃ places, DataW.whole enc Tryd.prog ((lw os).forCall (fun _ _ => 0) ⟨#[], wargs, []⟩).memory Tryd.f3.params.toList Rows.rdataChecksSpec.vars false wargs.toList 8 = some ([.lit (.int .u16 0), .agg [.lit (.string []), .lit (.string []), .lit (.string []), .agg [.lit (.int .u32 0), .lit (.int .u32 0), .lit (.int .u32 0), .lit (.int .u32 0), .lit (.int .u32 0)]]], [], places) :=
  ⟨[], by kernel_rfl⟩
set_option maxRecDepth 100000 in
theorem lifted (os : Os) (started : os.Started) (H : Type) (enc : TypeId × Value → H) (G : Stop.Interp) :
    ReturnsInHanded {} Tryd.checked os 3 .any ((Rows.OpenSpec.upto Rows.rdataChecksSpec).preRow enc Tryd.prog Tryd.f3 Rows.rdataChecksUptoRow.domain false Rows.rdataChecksUptoRow.laid) (((Rows.OpenSpec.upto Rows.rdataChecksSpec).at G).post enc Tryd.prog Tryd.f3 false true false false) := by
  obtain ⟨places, hx⟩ := reads os enc
  refine returnsInHanded_of_row (C := Tryd.checked) (s := Rows.OpenSpec.upto Rows.rdataChecksSpec) own started (by kernel_rfl) Tryd.func3
    (witness_row_atRef (enc := enc) (C := Tryd.checked) false (lw os) wargs rfl (by kernel_rfl) (by kernel_rfl) (by kernel_rfl)
      (OpenSpec.preRow_of_cond 8 hx (by kernel_rfl) (fun k hk => by cases hk; kernel_rfl) (by kernel_rfl) (door_met os _))) ?_
  intro W base args ds gs before hval hW _ hk hR hL _ _
  exact contract H enc W base args ds gs before hval hW (hk _ rfl) hR hL
/-- THE STATEMENT. -/
theorem said : Rows.RdataChecksUptoSaid :=
  OpenClaim.holds_of_cond 3 Tryd.f3 rfl rfl rfl rfl rfl rfl rfl ⟨rfl, rfl, rfl, rfl, rfl⟩ rfl rfl rfl rfl rfl (by kernel_rfl) Tryd.func3 (by kernel_rfl)
    (of_decide_eq_true (by kernel_rfl)) (by unfold Func.isWrapper; first | (rw [if_pos (by decide +kernel)]; kernel_rfl) | (rw [if_neg (by decide +kernel)]; exact ⟨rfl, rfl⟩))
    (fun os started H enc _ G => by rw [OpenClaim.pre_eq_preRow]; exact lifted os started H enc G)
theorem plain (f : FuncId) (fn : Func) (hf : Tryd.pinned.checked.prog.funcNamed "hearsay/hearsaylaw04.RdataChecks" = some f) (hfn : Tryd.pinned.checked.prog.funcs[f]? = some fn) :
    Tryd.pinned.checked.prog.looks [] = true ∧ ∀ (j : Nat) t, fn.params[j]? = some t → Tryd.pinned.checked.prog.wantsStandIn t = false := by
  obtain rfl : f = 3 := Option.some.inj ((show Tryd.prog.funcNamed "hearsay/hearsaylaw04.RdataChecks" = some 3 by kernel_rfl).symm.trans hf) |>.symm
  obtain rfl : fn = Tryd.f3 := (Option.some.inj (Tryd.func3.symm.trans hfn)).symm
  refine ⟨by kernel_rfl, fun j t ht => ?_⟩
  rw [Tryd.params3] at ht
  have hm : t ∈ [22, 27] := by simpa using Array.mem_of_getElem? ht
  have hall : ([22, 27].all fun u => !Tryd.prog.wantsStandIn u) = true := by kernel_rfl
  exact (show Tryd.prog.wantsStandIn t = false by simpa using List.all_eq_true.1 hall t hm)
/-- THE STATEMENT. -/
theorem card : Rows.RdataChecksUptoCardSaid :=
  Claim7.holds_tied_plain_at .later [] _ _ _ _ said (fun _ h => by cases h) (by kernel_rfl) (fun _ h => by cases h) rdataChecksUpto_row_tie rfl ⟨rfl, rfl⟩ (by kernel_rfl) rfl (fun f fn hf hfn => by have h := plain f fn hf hfn; exact ⟨h.1.symm, h.2⟩) (by kernel_rfl)
end rdataChecks
end Go.Proofs.YtalghgaadcdhhaaDoor
