/- Texts of the proofs, merged. -/
import Derived.Test.YtcillepoibpfiaaDoorG36
import Derived.Test.YtcillepoibpfiaaDoorG37
import Derived.Test.YtcillepoibpfiaaDoorG22
import Derived.Test.YtcillepoibpfiaaDoorG39
import Derived.Test.YtcillepoibpfiaaDoorG40
import Derived.Test.YtcillepoibpfiaaDoorG7
/- RrsetFolds: whatever record is handed in, the call returns true, and the argument reads behind it as before. -/
namespace Go.Proofs.YtcillepoibpfiaaDoor
open Go.RowKit

set_option maxRecDepth 100000 in
theorem dvSelf (a : Dv) (d : Nat) (W : World) : (Op.equalIn (d + 4) 27 (.agg a.cells) (.agg a.cells)).run Tryd.prog W = .ok true W := by
  have h := dvRun W a a d
  rw [(dvB_iff a a).2 rfl] at h
  exact h
theorem below_on5 {a b c : World} (h : Below a.heap.size a b) (k : Below b.heap.size b c) : Below a.heap.size a c := h.trans (k.mono h.size)
set_option maxHeartbeats 4000000 in
set_option maxRecDepth 100000 in
theorem walk_RrsetFolds (w : World) (hL : LayR w) (r : Rv) (hf : r.fits) (hs : r.near) :
    Calls Tryd.prog 3 #[r.val] w fun e w' => e = .returned (.bool true) ∧ Below w.heap.size w w' := by
  obtain ⟨X, hX⟩ : ∃ X, r.fold = X := ⟨_, rfl⟩
  obtain ⟨K, hK⟩ : ∃ K, X.kv = K := ⟨_, rfl⟩
  have hX0 : Has (w.alloc (.cells r.cells 29)) w.heap.size 29 r.cells := Has.fresh w _ _
  have hB0 : Below w.heap.size w (w.alloc (.cells r.cells 29)) := (Below.refl _ _).alloc (Nat.le_refl _) _
  have hA0 := hL.below hB0 (Nat.le_refl _)
  have HK1 := Lib.hid (fun (W : World) => keyOfP_any r W hs.short)
  have HK2 := Lib.hid (fun (W : World) => keyOfR_any r W hs.short)
  have HF1 := Lib.hid (fun (W : World) (h : Below (w.alloc (.cells r.cells 29)).heap.size (w.alloc (.cells r.cells 29)) W) => rrFold_any r W (hA0.below h (Nat.le_refl _)) hf.1 hs.short)
  have HF2 := Lib.hid (fun (W : World) => r5Fold_any r W hf.1 hs.short)
  have HW := Lib.hid (fun (W : World) (h : Below (w.alloc (.cells r.cells 29)).heap.size (w.alloc (.cells r.cells 29)) W) => rrWakes W (hA0.below h (Nat.le_refl _)))
  rw [hX] at HF1 HF2 HK1 HK2
  rw [hK] at HK1 HK2
  have eX : X.val = .agg X.cells := rfl
  have eK : K.val = .agg #[.string K.nm, .int .u16 K.ty, .int .u16 K.cl] := rfl
  have eD : r.val = .agg #[.string r.nm, .int .u16 r.ty, .int .u16 r.cl, .int .u32 r.ttl, .string r.d.raw, .string r.d.host, .string r.d.mail, .int .u32 r.d.n0, .int .u32 r.d.n1, .int .u32 r.d.n2, .int .u32 r.d.n3, .int .u32 r.d.n4] := rfl
  have eC : r.cells = #[.string r.nm, .int .u16 r.ty, .int .u16 r.cl, .int .u32 r.ttl, .string r.d.raw, .string r.d.host, .string r.d.mail, .int .u32 r.d.n0, .int .u32 r.d.n1, .int .u32 r.d.n2, .int .u32 r.d.n3, .int .u32 r.d.n4] := rfl
  have p0 : X.cells[0]? = some (.string X.nm) := rfl
  have p1 : X.cells[1]? = some (.int .u16 X.ty) := rfl
  have p2 : X.cells[2]? = some (.int .u16 X.cl) := rfl
  have p3 : X.cells[3]? = some (.int .u32 X.ttl) := rfl
  have pd : ∀ W, (Op.equalIn 9999 27 (.agg (X.cells.extract 4 12)) (.agg (X.cells.extract 4 12))).run Tryd.prog W = .ok true W := fun W => by
    have := dvSelf X.d 9995 W
    simpa [Dv.cells, Rv.cells] using this
  rw [eX] at HF1 HF2
  rw [eK] at HK1 HK2
  rw [eD] at HF1 HF2 HK1 HK2 ⊢
  rw [eC] at hX0 hB0 HF1 HW
  clear eX eD eC eK hX hK hL hA0 hf hs
  generalize hwb : w.alloc (.cells #[.string r.nm, .int .u16 r.ty, .int .u16 r.cl, .int .u32 r.ttl, .string r.d.raw, .string r.d.host, .string r.d.mail, .int .u32 r.d.n0, .int .u32 r.d.n1, .int .u32 r.d.n2, .int .u32 r.d.n3, .int .u32 r.d.n4] 29) = wb at *
  have hlt := hX0.lt
  have HK := Lib.hid (fun (W : World) (hb : Below wb.heap.size wb W) => (show (W.cell? ⟨w.heap.size, 0, none⟩ = some (.string r.nm) ∧ W.cell? ⟨w.heap.size, 1, none⟩ = some (.int .u16 r.ty) ∧ W.cell? ⟨w.heap.size, 2, none⟩ = some (.int .u16 r.cl) ∧ W.cell? ⟨w.heap.size, 3, none⟩ = some (.int .u32 r.ttl) ∧ W.cell? ⟨w.heap.size, 4, none⟩ = some (.string r.d.raw) ∧ W.cell? ⟨w.heap.size, 5, none⟩ = some (.string r.d.host) ∧ W.cell? ⟨w.heap.size, 6, none⟩ = some (.string r.d.mail) ∧ W.cell? ⟨w.heap.size, 7, none⟩ = some (.int .u32 r.d.n0) ∧ W.cell? ⟨w.heap.size, 8, none⟩ = some (.int .u32 r.d.n1) ∧ W.cell? ⟨w.heap.size, 9, none⟩ = some (.int .u32 r.d.n2) ∧ W.cell? ⟨w.heap.size, 10, none⟩ = some (.int .u32 r.d.n3) ∧ W.cell? ⟨w.heap.size, 11, none⟩ = some (.int .u32 r.d.n4)) ∧ Below wb.heap.size wb W from ⟨by
    have h := hX0.below hb hlt
    exact ⟨by rw [h.cell]; rfl, by rw [h.cell]; rfl, by rw [h.cell]; rfl, by rw [h.cell]; rfl, by rw [h.cell]; rfl, by rw [h.cell]; rfl, by rw [h.cell]; rfl, by rw [h.cell]; rfl, by rw [h.cell]; rfl, by rw [h.cell]; rfl, by rw [h.cell]; rfl, by rw [h.cell]; rfl⟩, hb⟩))
  have HB0 := Lib.hid hB0
  have HWB := Lib.hid hwb
  clear hX0 hB0 hwb
  go_enter Tryd.func3, Tryd.ntmps3
  go_wp2
  rw [HWB.out]
  refine wp_region_noPanic ?_
  refine wp_region_held_drew (S := (fun W => (W.cell? ⟨w.heap.size, 0, none⟩ = some (.string r.nm) ∧ W.cell? ⟨w.heap.size, 1, none⟩ = some (.int .u16 r.ty) ∧ W.cell? ⟨w.heap.size, 2, none⟩ = some (.int .u16 r.cl) ∧ W.cell? ⟨w.heap.size, 3, none⟩ = some (.int .u32 r.ttl) ∧ W.cell? ⟨w.heap.size, 4, none⟩ = some (.string r.d.raw) ∧ W.cell? ⟨w.heap.size, 5, none⟩ = some (.string r.d.host) ∧ W.cell? ⟨w.heap.size, 6, none⟩ = some (.string r.d.mail) ∧ W.cell? ⟨w.heap.size, 7, none⟩ = some (.int .u32 r.d.n0) ∧ W.cell? ⟨w.heap.size, 8, none⟩ = some (.int .u32 r.d.n1) ∧ W.cell? ⟨w.heap.size, 9, none⟩ = some (.int .u32 r.d.n2) ∧ W.cell? ⟨w.heap.size, 10, none⟩ = some (.int .u32 r.d.n3) ∧ W.cell? ⟨w.heap.size, 11, none⟩ = some (.int .u32 r.d.n4)) ∧ Below wb.heap.size wb W)) (by kernel_rfl) ?hax1 (fun hHeld => ?_)
  case hax1 =>
    try dsimp only
    (first | assumption | exact HK.out _ (Below.refl _ _).drew | exact HK.out _ HW1.out)
  refine wpAnyH_take (i := 0) (oi := { dst := some 3, op := Go.Op.load 29 (Go.Operand.tmp 1), type := 29, pos := "law.go:27", after := #[], guard := none }) (v := ?vax2) rfl (by kernel_rfl) (by kernel_rfl) (by kernel_rfl) (fun _ _ _ h => h) (Or.inl ⟨by rfl, ?hax2⟩) (by assumption) ?_
  case hax2 =>
    intro w hSw
    try dsimp only at hSw
    go_simp
    try with_reducible rfl
  try simp only [Act.put, List.setIfInBounds_toArray, List.set_cons_zero, List.set_cons_succ]
  refine wpAnyH_take (i := 2) (oi := { dst := some 5, op := Go.Op.load 29 (Go.Operand.tmp 1), type := 29, pos := "law.go:27", after := #[], guard := none }) (v := ?vax3) rfl (by kernel_rfl) (by kernel_rfl) (by kernel_rfl) (fun _ _ _ h => h) (Or.inl ⟨by rfl, ?hax3⟩) (by assumption) ?_
  case hax3 =>
    intro w hSw
    try dsimp only at hSw
    go_simp
    try with_reducible rfl
  try simp only [Act.put, List.setIfInBounds_toArray, List.set_cons_zero, List.set_cons_succ]
  refine wpAnyH_ready (rs := [1]) (by kernel_rfl) (by simp) ?_
  refine AllReadyH.cons (o := { dst := some 4, op := Go.Op.call { callee := Go.Callee.value (Go.Operand.func 13), args := #[Go.Operand.tmp 3], argTypes := #[29] }, type := 31, pos := "law.go:27", after := #[{ on := 0, ground := Go.Ground.data }], guard := none }) rfl (fun K hK => ?_) AllReadyH.nil
  go_simp
  (first | (go_at_call 13; (with_reducible refine (HK1.out _).mono ?_); rintro e W1 ⟨rfl, B1⟩; have HW1 : Hid (Below wb.heap.size wb W1) := (by go_split_ands; exact below_on5 (by assumption) B1); clear B1) | (go_at_call 14; (with_reducible refine (HK2.out _).mono ?_); rintro e W1 ⟨rfl, B1⟩; have HW1 : Hid (Below wb.heap.size wb W1) := (by go_split_ands; exact below_on5 (by assumption) B1); clear B1) | (go_at_call 15; (with_reducible refine (HF1.out _ (by go_split_ands; assumption)).mono ?_); rintro e W1 ⟨rfl, B1⟩; have HW1 : Hid (Below wb.heap.size wb W1) := (by go_split_ands; exact below_on5 (by assumption) B1); clear B1) | (go_at_call 16; (with_reducible refine (HF2.out _).mono ?_); rintro e W1 ⟨rfl, B1⟩; have HW1 : Hid (Below wb.heap.size wb W1) := (by go_split_ands; exact below_on5 (by assumption) B1); clear B1) | (go_at_call 17; (with_reducible refine (HW.out _ (by go_split_ands; assumption)).mono ?_); rintro e W1 ⟨rfl, B1⟩; have HW1 : Hid (Below wb.heap.size wb W1) := (by go_split_ands; exact below_on5 (by assumption) B1); clear B1))
  try go_wp2_with fail
  refine hK.out _ _ ?hax4 (fun hHeld => ?_)
  case hax4 =>
    try dsimp only
    (first | assumption | exact HK.out _ (Below.refl _ _).drew | exact HK.out _ HW1.out)
  clear hK K
  try simp only [Act.put, List.setIfInBounds_toArray, List.set_cons_zero, List.set_cons_succ]
  refine wpAnyH_ready (rs := [3]) (by kernel_rfl) (by simp) ?_
  refine AllReadyH.cons (o := { dst := some 6, op := Go.Op.call { callee := Go.Callee.value (Go.Operand.func 14), args := #[Go.Operand.tmp 5], argTypes := #[29] }, type := 31, pos := "law.go:27", after := #[{ on := 2, ground := Go.Ground.data }, { on := 1, ground := Go.Ground.chain }], guard := none }) rfl (fun K hK => ?_) AllReadyH.nil
  go_simp
  (first | (go_at_call 13; (with_reducible refine (HK1.out _).mono ?_); rintro e W1 ⟨rfl, B1⟩; have HW1 : Hid (Below wb.heap.size wb W1) := (by go_split_ands; exact below_on5 (by assumption) B1); clear B1) | (go_at_call 14; (with_reducible refine (HK2.out _).mono ?_); rintro e W1 ⟨rfl, B1⟩; have HW1 : Hid (Below wb.heap.size wb W1) := (by go_split_ands; exact below_on5 (by assumption) B1); clear B1) | (go_at_call 15; (with_reducible refine (HF1.out _ (by go_split_ands; assumption)).mono ?_); rintro e W1 ⟨rfl, B1⟩; have HW1 : Hid (Below wb.heap.size wb W1) := (by go_split_ands; exact below_on5 (by assumption) B1); clear B1) | (go_at_call 16; (with_reducible refine (HF2.out _).mono ?_); rintro e W1 ⟨rfl, B1⟩; have HW1 : Hid (Below wb.heap.size wb W1) := (by go_split_ands; exact below_on5 (by assumption) B1); clear B1) | (go_at_call 17; (with_reducible refine (HW.out _ (by go_split_ands; assumption)).mono ?_); rintro e W1 ⟨rfl, B1⟩; have HW1 : Hid (Below wb.heap.size wb W1) := (by go_split_ands; exact below_on5 (by assumption) B1); clear B1))
  try go_wp2_with fail
  refine hK.out _ _ ?hax5 (fun hHeld => ?_)
  case hax5 =>
    try dsimp only
    (first | assumption | exact HK.out _ (Below.refl _ _).drew | exact HK.out _ HW1.out)
  clear hK K
  try simp only [Act.put, List.setIfInBounds_toArray, List.set_cons_zero, List.set_cons_succ]
  refine wpAnyH_take (i := 4) (oi := { dst := some 7, op := Go.Op.binOp Go.BinOp.eql 31 (Go.Operand.tmp 4) (Go.Operand.tmp 6) 31, type := 4, pos := "law.go:27", after := #[{ on := 1, ground := Go.Ground.data }, { on := 3, ground := Go.Ground.data }], guard := none }) (v := ?vax6) rfl (by kernel_rfl) (by kernel_rfl) (by kernel_rfl) (fun _ _ _ h => h) (Or.inl ⟨by rfl, ?hax6⟩) (by assumption) ?_
  case hax6 =>
    intro w hSw
    try dsimp only at hSw
    go_simp
    try with_reducible rfl
  try simp only [Act.put, List.setIfInBounds_toArray, List.set_cons_zero, List.set_cons_succ]
  refine wpAnyH_take (i := 5) (oi := { dst := some 8, op := Go.Op.move (Go.Operand.tmp 7), type := 4, pos := "law.go:27", after := #[{ on := 4, ground := Go.Ground.data }, { on := 3, ground := Go.Ground.chain }], guard := none }) (v := ?vax7) rfl (by kernel_rfl) (by kernel_rfl) (by kernel_rfl) (fun _ _ _ h => h) (Or.inl ⟨by rfl, ?hax7⟩) (by assumption) ?_
  case hax7 =>
    intro w hSw
    try dsimp only at hSw
    go_simp
    try with_reducible rfl
  try simp only [Act.put, List.setIfInBounds_toArray, List.set_cons_zero, List.set_cons_succ]
  refine wpAnyH_take (i := 6) (oi := { dst := some 9, op := Go.Op.load 29 (Go.Operand.tmp 1), type := 29, pos := "law.go:27", after := #[{ on := 5, ground := Go.Ground.guard }], guard := some (5, true) }) (v := ?vax8) rfl (by kernel_rfl) (by kernel_rfl) (by kernel_rfl) (fun _ _ _ h => h) (Or.inl ⟨by rfl, ?hax8⟩) (by assumption) ?_
  case hax8 =>
    intro w hSw
    try dsimp only at hSw
    go_simp
    try with_reducible rfl
  try simp only [Act.put, List.setIfInBounds_toArray, List.set_cons_zero, List.set_cons_succ]
  refine wpAnyH_take (i := 8) (oi := { dst := some 11, op := Go.Op.load 29 (Go.Operand.tmp 1), type := 29, pos := "law.go:27", after := #[{ on := 5, ground := Go.Ground.guard }], guard := some (5, true) }) (v := ?vax9) rfl (by kernel_rfl) (by kernel_rfl) (by kernel_rfl) (fun _ _ _ h => h) (Or.inl ⟨by rfl, ?hax9⟩) (by assumption) ?_
  case hax9 =>
    intro w hSw
    try dsimp only at hSw
    go_simp
    try with_reducible rfl
  try simp only [Act.put, List.setIfInBounds_toArray, List.set_cons_zero, List.set_cons_succ]
  refine wpAnyH_ready (rs := [7]) (by kernel_rfl) (by simp) ?_
  refine AllReadyH.cons (o := { dst := some 10, op := Go.Op.call { callee := Go.Callee.value (Go.Operand.func 15), args := #[Go.Operand.tmp 9], argTypes := #[29] }, type := 29, pos := "law.go:27", after := #[{ on := 6, ground := Go.Ground.data }, { on := 5, ground := Go.Ground.chain }, { on := 5, ground := Go.Ground.guard }], guard := some (5, true) }) rfl (fun K hK => ?_) AllReadyH.nil
  go_simp
  (first | (go_at_call 13; (with_reducible refine (HK1.out _).mono ?_); rintro e W1 ⟨rfl, B1⟩; have HW1 : Hid (Below wb.heap.size wb W1) := (by go_split_ands; exact below_on5 (by assumption) B1); clear B1) | (go_at_call 14; (with_reducible refine (HK2.out _).mono ?_); rintro e W1 ⟨rfl, B1⟩; have HW1 : Hid (Below wb.heap.size wb W1) := (by go_split_ands; exact below_on5 (by assumption) B1); clear B1) | (go_at_call 15; (with_reducible refine (HF1.out _ (by go_split_ands; assumption)).mono ?_); rintro e W1 ⟨rfl, B1⟩; have HW1 : Hid (Below wb.heap.size wb W1) := (by go_split_ands; exact below_on5 (by assumption) B1); clear B1) | (go_at_call 16; (with_reducible refine (HF2.out _).mono ?_); rintro e W1 ⟨rfl, B1⟩; have HW1 : Hid (Below wb.heap.size wb W1) := (by go_split_ands; exact below_on5 (by assumption) B1); clear B1) | (go_at_call 17; (with_reducible refine (HW.out _ (by go_split_ands; assumption)).mono ?_); rintro e W1 ⟨rfl, B1⟩; have HW1 : Hid (Below wb.heap.size wb W1) := (by go_split_ands; exact below_on5 (by assumption) B1); clear B1))
  try go_wp2_with fail
  refine hK.out _ _ ?hax10 (fun hHeld => ?_)
  case hax10 =>
    try dsimp only
    (first | assumption | exact HK.out _ (Below.refl _ _).drew | exact HK.out _ HW1.out)
  clear hK K
  try simp only [Act.put, List.setIfInBounds_toArray, List.set_cons_zero, List.set_cons_succ]
  refine wpAnyH_ready (rs := [9]) (by kernel_rfl) (by simp) ?_
  refine AllReadyH.cons (o := { dst := some 12, op := Go.Op.call { callee := Go.Callee.value (Go.Operand.func 16), args := #[Go.Operand.tmp 11], argTypes := #[29] }, type := 29, pos := "law.go:27", after := #[{ on := 8, ground := Go.Ground.data }, { on := 7, ground := Go.Ground.chain }, { on := 5, ground := Go.Ground.guard }], guard := some (5, true) }) rfl (fun K hK => ?_) AllReadyH.nil
  go_simp
  (first | (go_at_call 13; (with_reducible refine (HK1.out _).mono ?_); rintro e W1 ⟨rfl, B1⟩; have HW1 : Hid (Below wb.heap.size wb W1) := (by go_split_ands; exact below_on5 (by assumption) B1); clear B1) | (go_at_call 14; (with_reducible refine (HK2.out _).mono ?_); rintro e W1 ⟨rfl, B1⟩; have HW1 : Hid (Below wb.heap.size wb W1) := (by go_split_ands; exact below_on5 (by assumption) B1); clear B1) | (go_at_call 15; (with_reducible refine (HF1.out _ (by go_split_ands; assumption)).mono ?_); rintro e W1 ⟨rfl, B1⟩; have HW1 : Hid (Below wb.heap.size wb W1) := (by go_split_ands; exact below_on5 (by assumption) B1); clear B1) | (go_at_call 16; (with_reducible refine (HF2.out _).mono ?_); rintro e W1 ⟨rfl, B1⟩; have HW1 : Hid (Below wb.heap.size wb W1) := (by go_split_ands; exact below_on5 (by assumption) B1); clear B1) | (go_at_call 17; (with_reducible refine (HW.out _ (by go_split_ands; assumption)).mono ?_); rintro e W1 ⟨rfl, B1⟩; have HW1 : Hid (Below wb.heap.size wb W1) := (by go_split_ands; exact below_on5 (by assumption) B1); clear B1))
  try go_wp2_with fail
  refine hK.out _ _ ?hax11 (fun hHeld => ?_)
  case hax11 =>
    try dsimp only
    (first | assumption | exact HK.out _ (Below.refl _ _).drew | exact HK.out _ HW1.out)
  clear hK K
  try simp only [Act.put, List.setIfInBounds_toArray, List.set_cons_zero, List.set_cons_succ]
  refine wpAnyH_take (i := 10) (oi := { dst := some 13, op := Go.Op.binOp Go.BinOp.eql 29 (Go.Operand.tmp 10) (Go.Operand.tmp 12) 29, type := 4, pos := "law.go:27", after := #[{ on := 7, ground := Go.Ground.data }, { on := 9, ground := Go.Ground.data }, { on := 5, ground := Go.Ground.guard }], guard := some (5, true) }) (v := ?vax12) rfl (by kernel_rfl) (by kernel_rfl) (by kernel_rfl) (fun _ _ _ h => h) (Or.inl ⟨by rfl, ?hax12⟩) (by assumption) ?_
  case hax12 =>
    intro w hSw
    try dsimp only at hSw
    go_simp
    try with_reducible rfl
  try simp only [Act.put, List.setIfInBounds_toArray, List.set_cons_zero, List.set_cons_succ]
  refine wpAnyH_take (i := 11) (oi := { dst := some 14, op := Go.Op.pick (Go.Operand.tmp 8) (Go.Operand.tmp 13) (Go.Operand.const (Go.Value.bool false)), type := 4, pos := "law.go:27", after := #[{ on := 5, ground := Go.Ground.data }, { on := 10, ground := Go.Ground.data }], guard := none }) (v := ?vax13) rfl (by kernel_rfl) (by kernel_rfl) (by kernel_rfl) (fun _ _ _ h => h) (Or.inl ⟨by rfl, ?hax13⟩) (by assumption) ?_
  case hax13 =>
    intro w hSw
    try dsimp only at hSw
    go_simp
    try with_reducible rfl
  try simp only [Act.put, List.setIfInBounds_toArray, List.set_cons_zero, List.set_cons_succ]
  refine wpAnyH_take (i := 12) (oi := { dst := some 15, op := Go.Op.move (Go.Operand.tmp 14), type := 4, pos := "law.go:27", after := #[{ on := 11, ground := Go.Ground.data }, { on := 9, ground := Go.Ground.chain }], guard := none }) (v := ?vax14) rfl (by kernel_rfl) (by kernel_rfl) (by kernel_rfl) (fun _ _ _ h => h) (Or.inl ⟨by rfl, ?hax14⟩) (by assumption) ?_
  case hax14 =>
    intro w hSw
    try dsimp only at hSw
    go_simp
    try with_reducible rfl
  try simp only [Act.put, List.setIfInBounds_toArray, List.set_cons_zero, List.set_cons_succ]
  refine wpAnyH_ready (rs := [13]) (by kernel_rfl) (by simp) ?_
  refine AllReadyH.cons (o := { dst := some 16, op := Go.Op.call { callee := Go.Callee.value (Go.Operand.func 17), args := #[], argTypes := #[] }, type := 4, pos := "law.go:27", after := #[{ on := 12, ground := Go.Ground.chain }, { on := 12, ground := Go.Ground.guard }], guard := some (12, true) }) rfl (fun K hK => ?_) AllReadyH.nil
  go_simp
  (first | (go_at_call 13; (with_reducible refine (HK1.out _).mono ?_); rintro e W1 ⟨rfl, B1⟩; have HW1 : Hid (Below wb.heap.size wb W1) := (by go_split_ands; exact below_on5 (by assumption) B1); clear B1) | (go_at_call 14; (with_reducible refine (HK2.out _).mono ?_); rintro e W1 ⟨rfl, B1⟩; have HW1 : Hid (Below wb.heap.size wb W1) := (by go_split_ands; exact below_on5 (by assumption) B1); clear B1) | (go_at_call 15; (with_reducible refine (HF1.out _ (by go_split_ands; assumption)).mono ?_); rintro e W1 ⟨rfl, B1⟩; have HW1 : Hid (Below wb.heap.size wb W1) := (by go_split_ands; exact below_on5 (by assumption) B1); clear B1) | (go_at_call 16; (with_reducible refine (HF2.out _).mono ?_); rintro e W1 ⟨rfl, B1⟩; have HW1 : Hid (Below wb.heap.size wb W1) := (by go_split_ands; exact below_on5 (by assumption) B1); clear B1) | (go_at_call 17; (with_reducible refine (HW.out _ (by go_split_ands; assumption)).mono ?_); rintro e W1 ⟨rfl, B1⟩; have HW1 : Hid (Below wb.heap.size wb W1) := (by go_split_ands; exact below_on5 (by assumption) B1); clear B1))
  try go_wp2_with fail
  refine hK.out _ _ ?hax15 (fun hHeld => ?_)
  case hax15 =>
    try dsimp only
    (first | assumption | exact HK.out _ (Below.refl _ _).drew | exact HK.out _ HW1.out)
  clear hK K
  try simp only [Act.put, List.setIfInBounds_toArray, List.set_cons_zero, List.set_cons_succ]
  refine wpAnyH_take (i := 14) (oi := { dst := some 17, op := Go.Op.pick (Go.Operand.tmp 15) (Go.Operand.tmp 16) (Go.Operand.const (Go.Value.bool false)), type := 4, pos := "law.go:27", after := #[{ on := 12, ground := Go.Ground.data }, { on := 13, ground := Go.Ground.data }], guard := none }) (v := ?vax16) rfl (by kernel_rfl) (by kernel_rfl) (by kernel_rfl) (fun _ _ _ h => h) (Or.inl ⟨by rfl, ?hax16⟩) (by assumption) ?_
  case hax16 =>
    intro w hSw
    try dsimp only at hSw
    go_simp
    try with_reducible rfl
  try simp only [Act.put, List.setIfInBounds_toArray, List.set_cons_zero, List.set_cons_succ]
  refine wpAnyH_take (i := 15) (oi := { dst := some 2, op := Go.Op.assign (Go.Operand.tmp 17), type := 4, pos := "law.go:27", after := #[{ on := 14, ground := Go.Ground.data }, { on := 13, ground := Go.Ground.chain }, { on := 0, ground := Go.Ground.phase }, { on := 1, ground := Go.Ground.phase }, { on := 2, ground := Go.Ground.phase }, { on := 3, ground := Go.Ground.phase }, { on := 4, ground := Go.Ground.phase }, { on := 5, ground := Go.Ground.phase }, { on := 6, ground := Go.Ground.phase }, { on := 7, ground := Go.Ground.phase }, { on := 8, ground := Go.Ground.phase }, { on := 9, ground := Go.Ground.phase }, { on := 10, ground := Go.Ground.phase }, { on := 11, ground := Go.Ground.phase }, { on := 12, ground := Go.Ground.phase }, { on := 13, ground := Go.Ground.phase }, { on := 14, ground := Go.Ground.phase }], guard := none }) (v := ?vax17) rfl (by kernel_rfl) (by kernel_rfl) (by kernel_rfl) (fun _ _ _ h => h) (Or.inl ⟨by rfl, ?hax17⟩) (by assumption) ?_
  case hax17 =>
    intro w hSw
    try dsimp only at hSw
    go_simp
    try with_reducible rfl
  try simp only [Act.put, List.setIfInBounds_toArray, List.set_cons_zero, List.set_cons_succ]
  refine wpAnyH_done (by kernel_rfl) ?_ _
  refine NoPanic.normal ?_
  all_goals
    (go_wp2
     go_ret
     exact ⟨rfl, HB0.out.trans (HW1.out.mono HB0.out.size)⟩)
end Go.Proofs.YtcillepoibpfiaaDoor
