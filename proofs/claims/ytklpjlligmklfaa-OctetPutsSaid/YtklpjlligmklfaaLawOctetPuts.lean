/- OctetPuts: whatever bytes and number are handed in, the call returns true, and the arguments read behind it as before. -/
import Derived.Test.YtklpjlligmklfaaOctWakes
import Derived.Test.YtklpjlligmklfaaShut
import Derived.Deep.RegionHeld3
import Derived.Laws.CopyOwn
namespace Go.Proofs.Ytklpjlligmklfaa
open Go.RowKit

theorem u32_nat {x : Int} (h : (Lit.int .u32 x).wf = true) : ∃ n : Nat, x = n ∧ n < 4294967296 := by
  have h1 : IntKind.u32.min = 0 := rfl
  have h2 : IntKind.u32.max = 4294967295 := rfl
  simp only [Lit.wf, Bool.and_eq_true, decide_eq_true_eq] at h
  exact ⟨x.toNat, by omega, by omega⟩

/-- the room: bytes, and 8 zeros behind. -/
def Room (w : World) (g : Nat) (l : List UInt8) : Prop := Has w g 5 (bv l ++ List.replicate 8 (Value.int .u8 0)).toArray
/-- what a slice of bytes is as a string, here. -/
def Cv (W : World) (v : Value) (l : List UInt8) : Prop := (convert 22 9 v).run Try.prog W = .ok (.string ⟨l.toArray⟩) W
theorem cv_of {W : World} {lo hi n c : Nat} {A : Option Addr} {l : List UInt8} (hn : n = l.length) (h : Bs W lo hi A l) : (convert 22 9 (.slice A n c)).run Try.prog W = .ok (.string ⟨l.toArray⟩) W :=
  run_convert_bs _ _ 5 Try.underlying22 Try.underlying5 Try.underlying9 lo hi A n c l hn h
theorem below_on {a b c : World} (h : Below a.heap.size a b) (k : Below b.heap.size b c) : Below a.heap.size a c := h.trans (k.mono h.size)
/-- all values are bytes. -/
def AllU8 (xs : List Value) : Prop := ∀ u ∈ xs, ∃ z, u = .int .u8 z
theorem allU8_bv (l : List UInt8) : AllU8 (bv l) := by
  intro u hu
  simp only [bv, List.mem_map] at hu
  obtain ⟨c, _, rfl⟩ := hu
  exact ⟨_, rfl⟩
theorem AllU8.at_ {xs : List Value} (h : AllU8 xs) {k : Nat} (hk : k < xs.length) : ∃ z, xs[k]? = some (.int .u8 z) := by
  obtain ⟨z, hz⟩ := h xs[k] (List.getElem_mem hk)
  exact ⟨z, by rw [List.getElem?_eq_getElem hk, hz]⟩
theorem AllU8.set {xs : List Value} (h : AllU8 xs) (k : Nat) (z : Int) : AllU8 (xs.set k (.int .u8 z)) := by
  intro u hu
  rcases List.mem_or_eq_of_mem_set hu with h1 | rfl
  · exact h u h1
  · exact ⟨z, rfl⟩
theorem room_splice (l : List UInt8) : splice (List.replicate (l.length + 8) (Value.int .u8 0)) 0 (bv l) = bv l ++ List.replicate 8 (Value.int .u8 0) := by
  unfold splice
  simp [bv_length]
theorem room_of {w : World} {g : Nat} {l : List UInt8} (h : w.heap[g]? = some (.cells (splice (List.replicate (l.length + 8) (Value.int .u8 0)) 0 (bv l)).toArray 5 (0, 0))) : Bs w g (g + 1) (some ⟨g, 0, none⟩) l ∧ Room w g l := by
  rw [room_splice] at h
  have h' : Room w g l := h
  refine ⟨Has.bs h' (by omega) (fun j hj => ?_), h'⟩
  rw [List.getElem?_toArray, List.getElem?_append_left (by rw [bv_length]; exact hj), bv_get l j hj]
theorem room_cell {w : World} {g k : Nat} {l : List UInt8} (h : Room w g l) (h1 : l.length ≤ k) (h2 : k < l.length + 8) : w.cell? ⟨g, k, none⟩ = some (.int .u8 0) := by
  have h' : Has w g 5 _ := h
  rw [h'.cell, List.getElem?_toArray, List.getElem?_append_right (by rw [bv_length]; exact h1), List.getElem?_replicate, if_pos (by rw [bv_length]; omega)]
theorem room_bs {w : World} {g : Nat} {l : List UInt8} (h : Room w g l) : Bs w g w.heap.size (some ⟨g, 0, none⟩) l := by
  have h' : Has w g 5 _ := h
  exact Has.bs h' h'.lt (fun j hj => by rw [List.getElem?_toArray, List.getElem?_append_left (by rw [bv_length]; exact hj), bv_get l j hj])
set_option linter.unusedSimpArgs false in
set_option maxHeartbeats 4000000 in
set_option maxRecDepth 100000 in
theorem walk_OctetPuts (w : World) (A : Option Addr) (l : List UInt8) (c : Nat) (hc : l.length ≤ c) (hnil : A = none → c = 0) (hr : Bs w 0 w.heap.size A l) (hm : c ≤ 140737488351232) (v : Int) (hv : (Lit.int .u32 v).wf = true) :
    Calls Try.prog 3 #[.slice A l.length c, .int .u32 v] w fun e w' => e = .returned (.bool true) ∧ Below w.heap.size w w' := by
  obtain ⟨v, rfl, hv'⟩ := u32_nat hv
  obtain ⟨i0, hi, hz0, hz1, hz2⟩ := info_parts Try.infoByte
  have HA := Lib.hid hr
  have HN := Lib.hid hnil
  clear hr hnil hv
  have HX := Lib.hid (fun A c (w : World) h1 lo h2 => put_u8 A l c (v % 256) w h1 (by omega) (by omega) lo h2)
  have HY := Lib.hid (fun A c (w : World) h1 lo h2 => put_u16 A l c (v % 65536) w h1 (by omega) (by omega) lo h2)
  have HZ := Lib.hid (fun A c (w : World) h1 lo h2 => put_u32 A l c v w h1 (by omega) hv' lo h2)
  rw [show ((v % 256 : Nat) : Int) = (v : Int) % 256 by omega, show Oc.beb 1 (v % 256) = Oc.beb 1 v from Oc.beb_mod 1 v 1 (by omega)] at HX
  rw [show ((v % 65536 : Nat) : Int) = (v : Int) % 65536 by omega, show Oc.beb 2 (v % 65536) = Oc.beb 2 v from Oc.beb_mod 2 v 2 (by omega)] at HY
  go_enter Try.func3, Try.ntmps3
  go_wp2_with (first
    | (at_make; refine wpList_make_lc rfl _ _ _ rfl _ i0 Try.underlying22 hi hz0 hz1 hz2 _ _ _ _ l.length (l.length + 8) rfl rfl rfl (by omega) (by omega) (by omega) ?_; intro w1 Z1 B1 S1; have HS1 := Lib.hid S1; have HB1 := Lib.hid B1; have HZ1 := Lib.hid Z1; clear S1 B1 Z1)
    | (refine wpList_copy_splice rfl (.tmp 18) (.tmp 19) _ _ rfl 5 Try.underlying22 (by kernel_rfl) _ _ _ _ _ _ rfl rfl w.heap.size 0 (List.replicate (l.length + 8) (Value.int .u8 0)) 5 HZ1.out (bv l) (by rw [bv_length]; simp) (fun h0 => ⟨rfl, (HA.out.keep HB1.out).ad h0⟩) (by simp [bv]) (bv_one l) w.heap.size w HB1.out (Nat.le_refl _) ?_; intro w2 H2 B2; have HB2 := Lib.hid B2; have G2 := Lib.hid (room_of H2.out); have S2 := Lib.hid (show w.heap.size < w2.heap.size from Has.lt H2.out); have R2 := Lib.hid (G2.out.1.more (Nat.le_refl _) S2.out); clear H2 B2)
    | (go_at_call 9; refine (HX.out _ _ _ (by omega) _ R2.out).mono ?_; rintro e w3 ⟨gx, cx, rfl, O3, B3'⟩; have B3 := Lib.hid B3'; have OX := Lib.hid O3; clear O3 B3')
    | (go_at_call 10; refine (HY.out _ _ _ (by omega) _ ((R2.out.keep B3.out).more (Nat.le_refl _) B3.out.size)).mono ?_; rintro e w4 ⟨gy, cy, rfl, O4, B4'⟩; have B4 := Lib.hid B4'; have OY := Lib.hid O4; clear O4 B4')
    | (go_at_call 11; refine (HZ.out _ _ _ (by omega) _ (((R2.out.keep B3.out).more (Nat.le_refl _) B3.out.size).keep B4.out |>.more (Nat.le_refl _) B4.out.size)).mono ?_; rintro e w5 ⟨gz, cz, rfl, O5, B5'⟩; have B5 := Lib.hid B5'; have OZ := Lib.hid O5; clear O5 B5'))
  have bX := ((Bs.of_own OX.out).keep B4.out).keep (B5.out.mono B4.out.size)
  have bY := (Bs.of_own OY.out).keep B5.out
  have bZ := Bs.of_own OZ.out
  have bA : Bs w5 0 w.heap.size A l := (((HA.out.keep HB2.out).keep (B3.out.mono (Nat.le_of_lt S2.out))).keep (B4.out.mono (Nat.le_trans (Nat.le_of_lt S2.out) B3.out.size))).keep (B5.out.mono (Nat.le_trans (Nat.le_trans (Nat.le_of_lt S2.out) B3.out.size) B4.out.size))
  have hl1 : l.length + 1 = (l ++ Oc.beb 1 v).length := by simp [Oc.beb_length]
  have hl2 : l.length + 2 = (l ++ Oc.beb 2 v).length := by simp [Oc.beb_length]
  have hl4 : l.length + 4 = (l ++ Oc.beb 4 v).length := by simp [Oc.beb_length]
  have HK := Lib.hid (fun (W : World) (hb : Below w5.heap.size w5 W) => And.intro (cv_of (c := l.length + 1) hl1 (bX.keep (hb.mono (Nat.le_trans B4.out.size B5.out.size)))) (And.intro (cv_of (c := l.length + 2) hl2 (bY.keep (hb.mono B5.out.size))) (And.intro (cv_of (c := l.length + 4) hl4 (bZ.keep hb)) hb)))
  have HAW := Lib.hid (fun (W : World) (hb : Below w5.heap.size w5 W) => (bA.keep (hb.mono (by have := S2.out; have := B3.out.size; have := B4.out.size; have := B5.out.size; omega))).more (Nat.le_refl 0) (show w.heap.size ≤ W.heap.size by have := S2.out; have := B3.out.size; have := B4.out.size; have := B5.out.size; have := hb.size; omega))
  have HR1 := Lib.hid (fun (W : World) (hb : Below w5.heap.size w5 W) => refPut_1 A l c (v % 256) W HN.out (by omega) (by omega) 0 (HAW.out W hb))
  have HR2 := Lib.hid (fun (W : World) (hb : Below w5.heap.size w5 W) => refPut_2 A l c (v % 65536) W HN.out (by omega) (by omega) 0 (HAW.out W hb))
  have HR4 := Lib.hid (fun (W : World) (hb : Below w5.heap.size w5 W) => refPut_4 A l c v W HN.out (by omega) hv' 0 (HAW.out W hb))
  have HP4 := Lib.hid (fun (W : World) (hA : Bs W 0 W.heap.size A l) => refPut_4 A l c v W HN.out (by omega) hv' 0 hA)
  have and1 := and32_255 v hv'
  have and2 := and32_65535 v hv'
  rw [show ((v % 256 : Nat) : Int) = (v : Int) % 256 by omega] at HR1 and1
  rw [show ((v % 65536 : Nat) : Int) = (v : Int) % 65536 by omega] at HR2 and2
  rw [show Oc.beb 1 (v % 256) = Oc.beb 1 v from Oc.beb_mod 1 v 1 (by omega)] at HR1
  rw [show Oc.beb 2 (v % 65536) = Oc.beb 2 v from Oc.beb_mod 2 v 2 (by omega)] at HR2
  have L1 := Lib.hid hl1
  have L2 := Lib.hid hl2
  have L4 := Lib.hid hl4
  clear bX bY bZ bA hl1 hl2 hl4
  generalize l ++ Oc.beb 1 v = x1 at *
  generalize l ++ Oc.beb 2 v = x2 at *
  generalize l ++ Oc.beb 4 v = x4 at *
  refine wp_region_noPanic ?_
  refine wp_region_held_drew (S := (fun W => (convert 22 9 (.slice (some ⟨gx, 0, none⟩) (l.length + 1) (l.length + 1))).run Try.prog W = .ok (.string ⟨x1.toArray⟩) W ∧ (convert 22 9 (.slice (some ⟨gy, 0, none⟩) (l.length + 2) (l.length + 2))).run Try.prog W = .ok (.string ⟨x2.toArray⟩) W ∧ (convert 22 9 (.slice (some ⟨gz, 0, none⟩) (l.length + 4) (l.length + 4))).run Try.prog W = .ok (.string ⟨x4.toArray⟩) W ∧ Below w5.heap.size w5 W)) (by kernel_rfl) ?hax1 (fun hHeld => ?_)
  case hax1 =>
    try dsimp only
    (first | assumption | exact HK.out _ (Below.refl _ _).drew | exact HK.out _ HW1.out)
  refine wpAnyH_take (i := 0) (oi := { dst := some 32, op := Go.Op.move (Go.Operand.tmp 6), type := 22, pos := "law.go:24", after := #[], guard := none }) (v := ?vax2) rfl (by kernel_rfl) (by kernel_rfl) (by kernel_rfl) (fun _ _ _ h => h) (Or.inl ⟨by rfl, ?hax2⟩) (by assumption) ?_
  case hax2 =>
    intro w hSw
    try dsimp only at hSw
    go_simp
    try with_reducible rfl
  try simp only [Act.put, List.setIfInBounds_toArray, List.set_cons_zero, List.set_cons_succ]
  refine wpAnyH_take (i := 1) (oi := { dst := some 33, op := Go.Op.convert 22 9 (Go.Operand.tmp 32), type := 9, pos := "law.go:24", after := #[{ on := 0, ground := Go.Ground.data }], guard := none }) (v := ?vax3) rfl (by kernel_rfl) (by kernel_rfl) (by kernel_rfl) (fun _ _ _ h => h) (Or.inl ⟨by rfl, ?hax3⟩) (by assumption) ?_
  case hax3 =>
    intro w hSw
    try dsimp only at hSw
    go_simp
    try with_reducible rfl
  try simp only [Act.put, List.setIfInBounds_toArray, List.set_cons_zero, List.set_cons_succ]
  refine wpAnyH_take (i := 2) (oi := { dst := some 34, op := Go.Op.move (Go.Operand.tmp 0), type := 22, pos := "law.go:24", after := #[], guard := none }) (v := ?vax4) rfl (by kernel_rfl) (by kernel_rfl) (by kernel_rfl) (fun _ _ _ h => h) (Or.inl ⟨by rfl, ?hax4⟩) (by assumption) ?_
  case hax4 =>
    intro w hSw
    try dsimp only at hSw
    go_simp
    try with_reducible rfl
  try simp only [Act.put, List.setIfInBounds_toArray, List.set_cons_zero, List.set_cons_succ]
  refine wpAnyH_take (i := 3) (oi := { dst := some 35, op := Go.Op.move (Go.Operand.tmp 1), type := 23, pos := "law.go:24", after := #[], guard := none }) (v := ?vax5) rfl (by kernel_rfl) (by kernel_rfl) (by kernel_rfl) (fun _ _ _ h => h) (Or.inl ⟨by rfl, ?hax5⟩) (by assumption) ?_
  case hax5 =>
    intro w hSw
    try dsimp only at hSw
    go_simp
    try with_reducible rfl
  try simp only [Act.put, List.setIfInBounds_toArray, List.set_cons_zero, List.set_cons_succ]
  refine wpAnyH_take (i := 4) (oi := { dst := some 36, op := Go.Op.binOp Go.BinOp.and 23 (Go.Operand.tmp 35) (Go.Operand.const (Go.Value.int Go.IntKind.u32 255)) 23, type := 23, pos := "law.go:24", after := #[{ on := 3, ground := Go.Ground.data }], guard := none }) (v := ?vax6) rfl (by kernel_rfl) (by kernel_rfl) (by kernel_rfl) (fun _ _ _ h => h) (Or.inl ⟨by rfl, ?hax6⟩) (by assumption) ?_
  case hax6 =>
    intro w hSw
    try dsimp only at hSw
    go_simp
    try with_reducible rfl
  try simp only [Act.put, List.setIfInBounds_toArray, List.set_cons_zero, List.set_cons_succ]
  refine wpAnyH_ready (rs := [5]) (by kernel_rfl) (by simp) ?_
  refine AllReadyH.cons (o := { dst := some 37, op := Go.Op.call { callee := Go.Callee.value (Go.Operand.func 12), args := #[Go.Operand.tmp 34, Go.Operand.tmp 36, Go.Operand.const (Go.Value.int Go.IntKind.i64 1)], argTypes := #[22, 23, 3] }, type := 22, pos := "law.go:24", after := #[{ on := 2, ground := Go.Ground.data }, { on := 4, ground := Go.Ground.data }], guard := none }) rfl (fun K hK => ?_) AllReadyH.nil
  go_simp
  (first | (go_at_call 12; (with_reducible refine (HR1.out _ (by go_split_ands; assumption)).mono ?_); rintro e W1 ⟨g1, c1, rfl, O1, hb1⟩; have C1 := cv_of (c := c1) L1.out (Bs.of_own O1); have HW1 : Hid (Below w5.heap.size w5 W1) := (by go_split_ands; exact below_on (by assumption) hb1); clear O1 hb1) | (go_at_call 12; (with_reducible refine (HR2.out _ (by go_split_ands; assumption)).mono ?_); rintro e W1 ⟨g1, c1, rfl, O1, hb1⟩; have C1 := cv_of (c := c1) L2.out (Bs.of_own O1); have HW1 : Hid (Below w5.heap.size w5 W1) := (by go_split_ands; exact below_on (by assumption) hb1); clear O1 hb1) | (go_at_call 12; (with_reducible refine (HR4.out _ (by go_split_ands; assumption)).mono ?_); rintro e W1 ⟨g1, c1, rfl, O1, hb1⟩; have C1 := cv_of (c := c1) L4.out (Bs.of_own O1); have HW1 : Hid (Below w5.heap.size w5 W1) := (by go_split_ands; exact below_on (by assumption) hb1); clear O1 hb1))
  try go_wp2_with fail
  refine hK.out _ _ ?hax7 (fun hHeld => ?_)
  case hax7 =>
    try dsimp only
    (first | assumption | exact HK.out _ (Below.refl _ _).drew | exact HK.out _ HW1.out)
  clear hK K
  try simp only [Act.put, List.setIfInBounds_toArray, List.set_cons_zero, List.set_cons_succ]
  refine wpAnyH_ready (rs := [6]) (by kernel_rfl) (by simp) ?_
  refine AllReadyH.cons (o := { dst := some 38, op := Go.Op.convert 22 9 (Go.Operand.tmp 37), type := 9, pos := "law.go:24", after := #[{ on := 5, ground := Go.Ground.data }], guard := none }) rfl (fun K hK => ?_) AllReadyH.nil
  go_simp
  refine hK.out _ _ ?hax8 (fun hHeld => ?_)
  case hax8 =>
    try dsimp only
    (first | assumption | exact HK.out _ (Below.refl _ _).drew | exact HK.out _ HW1.out)
  clear hK K
  try simp only [Act.put, List.setIfInBounds_toArray, List.set_cons_zero, List.set_cons_succ]
  refine wpAnyH_take (i := 7) (oi := { dst := some 39, op := Go.Op.binOp Go.BinOp.neq 9 (Go.Operand.tmp 33) (Go.Operand.tmp 38) 9, type := 4, pos := "law.go:24", after := #[{ on := 1, ground := Go.Ground.data }, { on := 6, ground := Go.Ground.data }], guard := none }) (v := ?vax9) rfl (by kernel_rfl) (by kernel_rfl) (by kernel_rfl) (fun _ _ _ h => h) (Or.inl ⟨by rfl, ?hax9⟩) (by assumption) ?_
  case hax9 =>
    intro w hSw
    try dsimp only at hSw
    go_simp
    try with_reducible rfl
  try simp only [Act.put, List.setIfInBounds_toArray, List.set_cons_zero, List.set_cons_succ]
  refine wpAnyH_take (i := 8) (oi := { dst := some 40, op := Go.Op.move (Go.Operand.tmp 39), type := 4, pos := "law.go:24", after := #[{ on := 7, ground := Go.Ground.data }, { on := 5, ground := Go.Ground.chain }], guard := none }) (v := ?vax10) rfl (by kernel_rfl) (by kernel_rfl) (by kernel_rfl) (fun _ _ _ h => h) (Or.inl ⟨by rfl, ?hax10⟩) (by assumption) ?_
  case hax10 =>
    intro w hSw
    try dsimp only at hSw
    go_simp
    try with_reducible rfl
  try simp only [Act.put, List.setIfInBounds_toArray, List.set_cons_zero, List.set_cons_succ]
  refine wpAnyH_take (i := 9) (oi := { dst := some 41, op := Go.Op.move (Go.Operand.tmp 7), type := 22, pos := "law.go:24", after := #[{ on := 8, ground := Go.Ground.guard }], guard := some (8, false) }) (v := ?vax11) rfl (by kernel_rfl) (by kernel_rfl) (by kernel_rfl) (fun _ _ _ h => h) (Or.inl ⟨by rfl, ?hax11⟩) (by assumption) ?_
  case hax11 =>
    intro w hSw
    try dsimp only at hSw
    go_simp
    try with_reducible rfl
  try simp only [Act.put, List.setIfInBounds_toArray, List.set_cons_zero, List.set_cons_succ]
  refine wpAnyH_take (i := 10) (oi := { dst := some 42, op := Go.Op.convert 22 9 (Go.Operand.tmp 41), type := 9, pos := "law.go:24", after := #[{ on := 9, ground := Go.Ground.data }, { on := 8, ground := Go.Ground.guard }], guard := some (8, false) }) (v := ?vax12) rfl (by kernel_rfl) (by kernel_rfl) (by kernel_rfl) (fun _ _ _ h => h) (Or.inl ⟨by rfl, ?hax12⟩) (by assumption) ?_
  case hax12 =>
    intro w hSw
    try dsimp only at hSw
    go_simp
    try with_reducible rfl
  try simp only [Act.put, List.setIfInBounds_toArray, List.set_cons_zero, List.set_cons_succ]
  refine wpAnyH_take (i := 11) (oi := { dst := some 43, op := Go.Op.move (Go.Operand.tmp 0), type := 22, pos := "law.go:24", after := #[{ on := 8, ground := Go.Ground.guard }], guard := some (8, false) }) (v := ?vax13) rfl (by kernel_rfl) (by kernel_rfl) (by kernel_rfl) (fun _ _ _ h => h) (Or.inl ⟨by rfl, ?hax13⟩) (by assumption) ?_
  case hax13 =>
    intro w hSw
    try dsimp only at hSw
    go_simp
    try with_reducible rfl
  try simp only [Act.put, List.setIfInBounds_toArray, List.set_cons_zero, List.set_cons_succ]
  refine wpAnyH_take (i := 12) (oi := { dst := some 44, op := Go.Op.move (Go.Operand.tmp 1), type := 23, pos := "law.go:24", after := #[{ on := 8, ground := Go.Ground.guard }], guard := some (8, false) }) (v := ?vax14) rfl (by kernel_rfl) (by kernel_rfl) (by kernel_rfl) (fun _ _ _ h => h) (Or.inl ⟨by rfl, ?hax14⟩) (by assumption) ?_
  case hax14 =>
    intro w hSw
    try dsimp only at hSw
    go_simp
    try with_reducible rfl
  try simp only [Act.put, List.setIfInBounds_toArray, List.set_cons_zero, List.set_cons_succ]
  refine wpAnyH_take (i := 13) (oi := { dst := some 45, op := Go.Op.binOp Go.BinOp.and 23 (Go.Operand.tmp 44) (Go.Operand.const (Go.Value.int Go.IntKind.u32 65535)) 23, type := 23, pos := "law.go:24", after := #[{ on := 12, ground := Go.Ground.data }, { on := 8, ground := Go.Ground.guard }], guard := some (8, false) }) (v := ?vax15) rfl (by kernel_rfl) (by kernel_rfl) (by kernel_rfl) (fun _ _ _ h => h) (Or.inl ⟨by rfl, ?hax15⟩) (by assumption) ?_
  case hax15 =>
    intro w hSw
    try dsimp only at hSw
    go_simp
    try with_reducible rfl
  try simp only [Act.put, List.setIfInBounds_toArray, List.set_cons_zero, List.set_cons_succ]
  refine wpAnyH_ready (rs := [14]) (by kernel_rfl) (by simp) ?_
  refine AllReadyH.cons (o := { dst := some 46, op := Go.Op.call { callee := Go.Callee.value (Go.Operand.func 12), args := #[Go.Operand.tmp 43, Go.Operand.tmp 45, Go.Operand.const (Go.Value.int Go.IntKind.i64 2)], argTypes := #[22, 23, 3] }, type := 22, pos := "law.go:24", after := #[{ on := 11, ground := Go.Ground.data }, { on := 13, ground := Go.Ground.data }, { on := 8, ground := Go.Ground.chain }, { on := 8, ground := Go.Ground.guard }], guard := some (8, false) }) rfl (fun K hK => ?_) AllReadyH.nil
  go_simp
  (first | (go_at_call 12; (with_reducible refine (HR1.out _ (by go_split_ands; assumption)).mono ?_); rintro e W1 ⟨g1, c1, rfl, O1, hb1⟩; have C1 := cv_of (c := c1) L1.out (Bs.of_own O1); have HW1 : Hid (Below w5.heap.size w5 W1) := (by go_split_ands; exact below_on (by assumption) hb1); clear O1 hb1) | (go_at_call 12; (with_reducible refine (HR2.out _ (by go_split_ands; assumption)).mono ?_); rintro e W1 ⟨g1, c1, rfl, O1, hb1⟩; have C1 := cv_of (c := c1) L2.out (Bs.of_own O1); have HW1 : Hid (Below w5.heap.size w5 W1) := (by go_split_ands; exact below_on (by assumption) hb1); clear O1 hb1) | (go_at_call 12; (with_reducible refine (HR4.out _ (by go_split_ands; assumption)).mono ?_); rintro e W1 ⟨g1, c1, rfl, O1, hb1⟩; have C1 := cv_of (c := c1) L4.out (Bs.of_own O1); have HW1 : Hid (Below w5.heap.size w5 W1) := (by go_split_ands; exact below_on (by assumption) hb1); clear O1 hb1))
  try go_wp2_with fail
  refine hK.out _ _ ?hax16 (fun hHeld => ?_)
  case hax16 =>
    try dsimp only
    (first | assumption | exact HK.out _ (Below.refl _ _).drew | exact HK.out _ HW1.out)
  clear hK K
  try simp only [Act.put, List.setIfInBounds_toArray, List.set_cons_zero, List.set_cons_succ]
  refine wpAnyH_ready (rs := [15]) (by kernel_rfl) (by simp) ?_
  refine AllReadyH.cons (o := { dst := some 47, op := Go.Op.convert 22 9 (Go.Operand.tmp 46), type := 9, pos := "law.go:24", after := #[{ on := 14, ground := Go.Ground.data }, { on := 8, ground := Go.Ground.guard }], guard := some (8, false) }) rfl (fun K hK => ?_) AllReadyH.nil
  go_simp
  refine hK.out _ _ ?hax17 (fun hHeld => ?_)
  case hax17 =>
    try dsimp only
    (first | assumption | exact HK.out _ (Below.refl _ _).drew | exact HK.out _ HW1.out)
  clear hK K
  try simp only [Act.put, List.setIfInBounds_toArray, List.set_cons_zero, List.set_cons_succ]
  refine wpAnyH_take (i := 16) (oi := { dst := some 48, op := Go.Op.binOp Go.BinOp.neq 9 (Go.Operand.tmp 42) (Go.Operand.tmp 47) 9, type := 4, pos := "law.go:24", after := #[{ on := 10, ground := Go.Ground.data }, { on := 15, ground := Go.Ground.data }, { on := 8, ground := Go.Ground.guard }], guard := some (8, false) }) (v := ?vax18) rfl (by kernel_rfl) (by kernel_rfl) (by kernel_rfl) (fun _ _ _ h => h) (Or.inl ⟨by rfl, ?hax18⟩) (by assumption) ?_
  case hax18 =>
    intro w hSw
    try dsimp only at hSw
    go_simp
    try with_reducible rfl
  try simp only [Act.put, List.setIfInBounds_toArray, List.set_cons_zero, List.set_cons_succ]
  refine wpAnyH_take (i := 17) (oi := { dst := some 49, op := Go.Op.pick (Go.Operand.tmp 40) (Go.Operand.const (Go.Value.bool true)) (Go.Operand.tmp 48), type := 4, pos := "law.go:24", after := #[{ on := 8, ground := Go.Ground.data }, { on := 16, ground := Go.Ground.data }], guard := none }) (v := ?vax19) rfl (by kernel_rfl) (by kernel_rfl) (by kernel_rfl) (fun _ _ _ h => h) (Or.inl ⟨by rfl, ?hax19⟩) (by assumption) ?_
  case hax19 =>
    intro w hSw
    try dsimp only at hSw
    go_simp
    try with_reducible rfl
  try simp only [Act.put, List.setIfInBounds_toArray, List.set_cons_zero, List.set_cons_succ]
  refine wpAnyH_take (i := 18) (oi := { dst := some 50, op := Go.Op.move (Go.Operand.tmp 49), type := 4, pos := "law.go:24", after := #[{ on := 17, ground := Go.Ground.data }, { on := 14, ground := Go.Ground.chain }], guard := none }) (v := ?vax20) rfl (by kernel_rfl) (by kernel_rfl) (by kernel_rfl) (fun _ _ _ h => h) (Or.inl ⟨by rfl, ?hax20⟩) (by assumption) ?_
  case hax20 =>
    intro w hSw
    try dsimp only at hSw
    go_simp
    try with_reducible rfl
  try simp only [Act.put, List.setIfInBounds_toArray, List.set_cons_zero, List.set_cons_succ]
  refine wpAnyH_take (i := 19) (oi := { dst := some 51, op := Go.Op.move (Go.Operand.tmp 8), type := 22, pos := "law.go:24", after := #[{ on := 18, ground := Go.Ground.guard }], guard := some (18, false) }) (v := ?vax21) rfl (by kernel_rfl) (by kernel_rfl) (by kernel_rfl) (fun _ _ _ h => h) (Or.inl ⟨by rfl, ?hax21⟩) (by assumption) ?_
  case hax21 =>
    intro w hSw
    try dsimp only at hSw
    go_simp
    try with_reducible rfl
  try simp only [Act.put, List.setIfInBounds_toArray, List.set_cons_zero, List.set_cons_succ]
  refine wpAnyH_take (i := 20) (oi := { dst := some 52, op := Go.Op.convert 22 9 (Go.Operand.tmp 51), type := 9, pos := "law.go:24", after := #[{ on := 19, ground := Go.Ground.data }, { on := 18, ground := Go.Ground.guard }], guard := some (18, false) }) (v := ?vax22) rfl (by kernel_rfl) (by kernel_rfl) (by kernel_rfl) (fun _ _ _ h => h) (Or.inl ⟨by rfl, ?hax22⟩) (by assumption) ?_
  case hax22 =>
    intro w hSw
    try dsimp only at hSw
    go_simp
    try with_reducible rfl
  try simp only [Act.put, List.setIfInBounds_toArray, List.set_cons_zero, List.set_cons_succ]
  refine wpAnyH_take (i := 21) (oi := { dst := some 53, op := Go.Op.move (Go.Operand.tmp 0), type := 22, pos := "law.go:24", after := #[{ on := 18, ground := Go.Ground.guard }], guard := some (18, false) }) (v := ?vax23) rfl (by kernel_rfl) (by kernel_rfl) (by kernel_rfl) (fun _ _ _ h => h) (Or.inl ⟨by rfl, ?hax23⟩) (by assumption) ?_
  case hax23 =>
    intro w hSw
    try dsimp only at hSw
    go_simp
    try with_reducible rfl
  try simp only [Act.put, List.setIfInBounds_toArray, List.set_cons_zero, List.set_cons_succ]
  refine wpAnyH_take (i := 22) (oi := { dst := some 54, op := Go.Op.move (Go.Operand.tmp 1), type := 23, pos := "law.go:24", after := #[{ on := 18, ground := Go.Ground.guard }], guard := some (18, false) }) (v := ?vax24) rfl (by kernel_rfl) (by kernel_rfl) (by kernel_rfl) (fun _ _ _ h => h) (Or.inl ⟨by rfl, ?hax24⟩) (by assumption) ?_
  case hax24 =>
    intro w hSw
    try dsimp only at hSw
    go_simp
    try with_reducible rfl
  try simp only [Act.put, List.setIfInBounds_toArray, List.set_cons_zero, List.set_cons_succ]
  refine wpAnyH_ready (rs := [23]) (by kernel_rfl) (by simp) ?_
  refine AllReadyH.cons (o := { dst := some 55, op := Go.Op.call { callee := Go.Callee.value (Go.Operand.func 12), args := #[Go.Operand.tmp 53, Go.Operand.tmp 54, Go.Operand.const (Go.Value.int Go.IntKind.i64 4)], argTypes := #[22, 23, 3] }, type := 22, pos := "law.go:24", after := #[{ on := 21, ground := Go.Ground.data }, { on := 22, ground := Go.Ground.data }, { on := 18, ground := Go.Ground.chain }, { on := 18, ground := Go.Ground.guard }], guard := some (18, false) }) rfl (fun K hK => ?_) AllReadyH.nil
  go_simp
  (first | (go_at_call 12; (with_reducible refine (HR1.out _ (by go_split_ands; assumption)).mono ?_); rintro e W1 ⟨g1, c1, rfl, O1, hb1⟩; have C1 := cv_of (c := c1) L1.out (Bs.of_own O1); have HW1 : Hid (Below w5.heap.size w5 W1) := (by go_split_ands; exact below_on (by assumption) hb1); clear O1 hb1) | (go_at_call 12; (with_reducible refine (HR2.out _ (by go_split_ands; assumption)).mono ?_); rintro e W1 ⟨g1, c1, rfl, O1, hb1⟩; have C1 := cv_of (c := c1) L2.out (Bs.of_own O1); have HW1 : Hid (Below w5.heap.size w5 W1) := (by go_split_ands; exact below_on (by assumption) hb1); clear O1 hb1) | (go_at_call 12; (with_reducible refine (HR4.out _ (by go_split_ands; assumption)).mono ?_); rintro e W1 ⟨g1, c1, rfl, O1, hb1⟩; have C1 := cv_of (c := c1) L4.out (Bs.of_own O1); have HW1 : Hid (Below w5.heap.size w5 W1) := (by go_split_ands; exact below_on (by assumption) hb1); clear O1 hb1))
  try go_wp2_with fail
  refine hK.out _ _ ?hax25 (fun hHeld => ?_)
  case hax25 =>
    try dsimp only
    (first | assumption | exact HK.out _ (Below.refl _ _).drew | exact HK.out _ HW1.out)
  clear hK K
  try simp only [Act.put, List.setIfInBounds_toArray, List.set_cons_zero, List.set_cons_succ]
  refine wpAnyH_ready (rs := [24]) (by kernel_rfl) (by simp) ?_
  refine AllReadyH.cons (o := { dst := some 56, op := Go.Op.convert 22 9 (Go.Operand.tmp 55), type := 9, pos := "law.go:24", after := #[{ on := 23, ground := Go.Ground.data }, { on := 18, ground := Go.Ground.guard }], guard := some (18, false) }) rfl (fun K hK => ?_) AllReadyH.nil
  go_simp
  refine hK.out _ _ ?hax26 (fun hHeld => ?_)
  case hax26 =>
    try dsimp only
    (first | assumption | exact HK.out _ (Below.refl _ _).drew | exact HK.out _ HW1.out)
  clear hK K
  try simp only [Act.put, List.setIfInBounds_toArray, List.set_cons_zero, List.set_cons_succ]
  refine wpAnyH_take (i := 25) (oi := { dst := some 57, op := Go.Op.binOp Go.BinOp.neq 9 (Go.Operand.tmp 52) (Go.Operand.tmp 56) 9, type := 4, pos := "law.go:24", after := #[{ on := 20, ground := Go.Ground.data }, { on := 24, ground := Go.Ground.data }, { on := 18, ground := Go.Ground.guard }], guard := some (18, false) }) (v := ?vax27) rfl (by kernel_rfl) (by kernel_rfl) (by kernel_rfl) (fun _ _ _ h => h) (Or.inl ⟨by rfl, ?hax27⟩) (by assumption) ?_
  case hax27 =>
    intro w hSw
    try dsimp only at hSw
    go_simp
    try with_reducible rfl
  try simp only [Act.put, List.setIfInBounds_toArray, List.set_cons_zero, List.set_cons_succ]
  refine wpAnyH_take (i := 26) (oi := { dst := some 58, op := Go.Op.pick (Go.Operand.tmp 50) (Go.Operand.const (Go.Value.bool true)) (Go.Operand.tmp 57), type := 4, pos := "law.go:24", after := #[{ on := 18, ground := Go.Ground.data }, { on := 25, ground := Go.Ground.data }], guard := none }) (v := ?vax28) rfl (by kernel_rfl) (by kernel_rfl) (by kernel_rfl) (fun _ _ _ h => h) (Or.inl ⟨by rfl, ?hax28⟩) (by assumption) ?_
  case hax28 =>
    intro w hSw
    try dsimp only at hSw
    go_simp
    try with_reducible rfl
  try simp only [Act.put, List.setIfInBounds_toArray, List.set_cons_zero, List.set_cons_succ]
  refine wpAnyH_done (by kernel_rfl) ?_ _
  refine NoPanic.normal ?_
  have B6 := Lib.hid HW1.out
  have B36 := Lib.hid (below_on B4.out (below_on B5.out B6.out))
  have OX6 := Lib.hid (own_below OX.out B36.out (Nat.le_refl _))
  have Z6 := Lib.hid ((Bs.of_own OZ.out).keep B6.out)
  have RM6 := Lib.hid (G2.out.2.below (B := w2.heap.size) (below_on B3.out B36.out) S2.out)
  have hgx := (OX.out.lt gx rfl)
  have hgx1 := hgx.1
  have hgx2 := hgx.2
  have hz5 := B4.out.size
  have hs2 := S2.out
  clear hgx
  go_wp2
  go_loopw [9] (fun i wr => ∃ k : Nat, i = .int .i64 k ∧ k ≤ l.length + 1 ∧ W1.grownBy wr (some gx) ∧ ∃ xs, wr.ownsRow w2.heap.size 5 1 (.slice (some ⟨gx, 0, none⟩) (l.length + 1) cx) (l.length + 1) xs ∧ AllU8 xs) (fun i _ => l.length + 1 - (intOf i).toNat)
  case atStart => exact ⟨0, rfl, Nat.zero_le _, World.grownBy.refl _ _, _, OX6.out, allU8_bv _⟩
  case round =>
    obtain ⟨k, rfl, hk, hgr, xs, hox, hau⟩ := hrel
    have GR := Lib.hid hgr
    have OX := Lib.hid hox
    have AU := Lib.hid hau
    clear hgr hox hau
    by_cases hlt : k < l.length + 1
    · obtain ⟨z, hz⟩ := AU.out.at_ (k := k) (by have := OX.out.1; omega)
      have hcell : wr.cell? ⟨gx, k, none⟩ = some (.int .u8 z) := by rw [OX.out.cellAt k (by omega)]; exact hz
      have hfree := OX.out.frozenAt k
      clear hz
      go_wp2
      go_roundw
      case rel => exact ⟨k + 1, by go_num, by omega, grown_set GR.out _ _, _, (OX.out.stored k _).1, AU.out.set _ _⟩
      case measure => simp [intOf]; omega
    · have RM := Lib.hid (RM6.out.grown GR.out (by simp; omega))
      have ZR := Lib.hid (Z6.out.grown GR.out (.inl (by omega)))
      have BR := Lib.hid (((HB2.out.trans ((below_on B3.out B36.out).mono (by omega))).grown GR.out (by have := B3.out.size; have := B36.out.size; omega) (fun j hj => by simp at hj; omega)) : Below w.heap.size w wr)
      have AR := Lib.hid ((HA.out.keep BR.out).more (Nat.le_refl 0) BR.out.size)
      go_wp2
      go_loop [11] (fun i => ∃ k : Nat, l.length ≤ k ∧ k ≤ l.length + 8 ∧ i = .int .i64 k) (fun i => l.length + 8 - (intOf i).toNat)
      case atStart => exact ⟨l.length, Nat.le_refl _, by omega, rfl⟩
      case round =>
        obtain ⟨k2, hk1, hk2, rfl⟩ := hrel
        by_cases hlt2 : k2 < l.length + 8
        · have hcell := room_cell RM.out hk1 hlt2
          go_wp2
          go_round
          case rel => exact ⟨k2 + 1, by omega, by omega, by go_num⟩
          case measure => simp [intOf]; omega
        · have HK2 := Lib.hid (fun (W : World) (hb : Below wr.heap.size wr W) => And.intro (cv_of (c := l.length + 8) rfl ((room_bs RM.out).keep hb)) (And.intro (cv_of (c := c) rfl (AR.out.keep hb)) (And.intro (cv_of (c := l.length + 4) L4.out (ZR.out.keep (hb.mono (by have := B6.out.size; have := GR.out.size; omega)))) hb)))
          have HR5 := Lib.hid (fun (W : World) (hb : Below wr.heap.size wr W) => HP4.out W ((AR.out.keep hb).more (Nat.le_refl 0) hb.size))
          go_wp2
          refine wp_region_noPanic ?_
          refine wp_region_held_drew (S := (fun W => (convert 22 9 (.slice (some ⟨w.heap.size, 0, none⟩) l.length (l.length + 8))).run Try.prog W = .ok (.string ⟨l.toArray⟩) W ∧ (convert 22 9 (.slice A l.length c)).run Try.prog W = .ok (.string ⟨l.toArray⟩) W ∧ (convert 22 9 (.slice (some ⟨gz, 0, none⟩) (l.length + 4) (l.length + 4))).run Try.prog W = .ok (.string ⟨x4.toArray⟩) W ∧ Below wr.heap.size wr W)) (by kernel_rfl) ?hbx1 (fun hHeld => ?_)
          case hbx1 =>
            try dsimp only
            (first | assumption | exact HK2.out _ (Below.refl _ _).drew | exact HK2.out _ HW2.out)
          refine wpAnyH_take (i := 0) (oi := { dst := some 90, op := Go.Op.move (Go.Operand.tmp 5), type := 22, pos := "law.go:36", after := #[], guard := none }) (v := ?vbx2) rfl (by kernel_rfl) (by kernel_rfl) (by kernel_rfl) (fun _ _ _ h => h) (Or.inl ⟨by rfl, ?hbx2⟩) (by assumption) ?_
          case hbx2 =>
            intro w hSw
            try dsimp only at hSw
            go_simp
            try with_reducible rfl
          try simp only [Act.put, List.setIfInBounds_toArray, List.set_cons_zero, List.set_cons_succ]
          refine wpAnyH_take (i := 1) (oi := { dst := some 91, op := Go.Op.convert 22 9 (Go.Operand.tmp 90), type := 9, pos := "law.go:36", after := #[{ on := 0, ground := Go.Ground.data }], guard := none }) (v := ?vbx3) rfl (by kernel_rfl) (by kernel_rfl) (by kernel_rfl) (fun _ _ _ h => h) (Or.inl ⟨by rfl, ?hbx3⟩) (by assumption) ?_
          case hbx3 =>
            intro w hSw
            try dsimp only at hSw
            go_simp
            try with_reducible rfl
          try simp only [Act.put, List.setIfInBounds_toArray, List.set_cons_zero, List.set_cons_succ]
          refine wpAnyH_take (i := 2) (oi := { dst := some 92, op := Go.Op.move (Go.Operand.tmp 0), type := 22, pos := "law.go:36", after := #[], guard := none }) (v := ?vbx4) rfl (by kernel_rfl) (by kernel_rfl) (by kernel_rfl) (fun _ _ _ h => h) (Or.inl ⟨by rfl, ?hbx4⟩) (by assumption) ?_
          case hbx4 =>
            intro w hSw
            try dsimp only at hSw
            go_simp
            try with_reducible rfl
          try simp only [Act.put, List.setIfInBounds_toArray, List.set_cons_zero, List.set_cons_succ]
          refine wpAnyH_take (i := 3) (oi := { dst := some 93, op := Go.Op.convert 22 9 (Go.Operand.tmp 92), type := 9, pos := "law.go:36", after := #[{ on := 2, ground := Go.Ground.data }], guard := none }) (v := ?vbx5) rfl (by kernel_rfl) (by kernel_rfl) (by kernel_rfl) (fun _ _ _ h => h) (Or.inl ⟨by rfl, ?hbx5⟩) (by assumption) ?_
          case hbx5 =>
            intro w hSw
            try dsimp only at hSw
            go_simp
            try with_reducible rfl
          try simp only [Act.put, List.setIfInBounds_toArray, List.set_cons_zero, List.set_cons_succ]
          refine wpAnyH_take (i := 4) (oi := { dst := some 94, op := Go.Op.binOp Go.BinOp.eql 9 (Go.Operand.tmp 91) (Go.Operand.tmp 93) 9, type := 4, pos := "law.go:36", after := #[{ on := 1, ground := Go.Ground.data }, { on := 3, ground := Go.Ground.data }], guard := none }) (v := ?vbx6) rfl (by kernel_rfl) (by kernel_rfl) (by kernel_rfl) (fun _ _ _ h => h) (Or.inl ⟨by rfl, ?hbx6⟩) (by assumption) ?_
          case hbx6 =>
            intro w hSw
            try dsimp only at hSw
            go_simp
            try with_reducible rfl
          try simp only [Act.put, List.setIfInBounds_toArray, List.set_cons_zero, List.set_cons_succ]
          refine wpAnyH_take (i := 5) (oi := { dst := some 95, op := Go.Op.move (Go.Operand.tmp 94), type := 4, pos := "law.go:36", after := #[{ on := 4, ground := Go.Ground.data }], guard := none }) (v := ?vbx7) rfl (by kernel_rfl) (by kernel_rfl) (by kernel_rfl) (fun _ _ _ h => h) (Or.inl ⟨by rfl, ?hbx7⟩) (by assumption) ?_
          case hbx7 =>
            intro w hSw
            try dsimp only at hSw
            go_simp
            try with_reducible rfl
          try simp only [Act.put, List.setIfInBounds_toArray, List.set_cons_zero, List.set_cons_succ]
          refine wpAnyH_take (i := 6) (oi := { dst := some 96, op := Go.Op.move (Go.Operand.tmp 8), type := 22, pos := "law.go:36", after := #[{ on := 5, ground := Go.Ground.guard }], guard := some (5, true) }) (v := ?vbx8) rfl (by kernel_rfl) (by kernel_rfl) (by kernel_rfl) (fun _ _ _ h => h) (Or.inl ⟨by rfl, ?hbx8⟩) (by assumption) ?_
          case hbx8 =>
            intro w hSw
            try dsimp only at hSw
            go_simp
            try with_reducible rfl
          try simp only [Act.put, List.setIfInBounds_toArray, List.set_cons_zero, List.set_cons_succ]
          refine wpAnyH_take (i := 7) (oi := { dst := some 97, op := Go.Op.convert 22 9 (Go.Operand.tmp 96), type := 9, pos := "law.go:36", after := #[{ on := 6, ground := Go.Ground.data }, { on := 5, ground := Go.Ground.guard }], guard := some (5, true) }) (v := ?vbx9) rfl (by kernel_rfl) (by kernel_rfl) (by kernel_rfl) (fun _ _ _ h => h) (Or.inl ⟨by rfl, ?hbx9⟩) (by assumption) ?_
          case hbx9 =>
            intro w hSw
            try dsimp only at hSw
            go_simp
            try with_reducible rfl
          try simp only [Act.put, List.setIfInBounds_toArray, List.set_cons_zero, List.set_cons_succ]
          refine wpAnyH_take (i := 8) (oi := { dst := some 98, op := Go.Op.move (Go.Operand.tmp 0), type := 22, pos := "law.go:36", after := #[{ on := 5, ground := Go.Ground.guard }], guard := some (5, true) }) (v := ?vbx10) rfl (by kernel_rfl) (by kernel_rfl) (by kernel_rfl) (fun _ _ _ h => h) (Or.inl ⟨by rfl, ?hbx10⟩) (by assumption) ?_
          case hbx10 =>
            intro w hSw
            try dsimp only at hSw
            go_simp
            try with_reducible rfl
          try simp only [Act.put, List.setIfInBounds_toArray, List.set_cons_zero, List.set_cons_succ]
          refine wpAnyH_take (i := 9) (oi := { dst := some 99, op := Go.Op.move (Go.Operand.tmp 1), type := 23, pos := "law.go:36", after := #[{ on := 5, ground := Go.Ground.guard }], guard := some (5, true) }) (v := ?vbx11) rfl (by kernel_rfl) (by kernel_rfl) (by kernel_rfl) (fun _ _ _ h => h) (Or.inl ⟨by rfl, ?hbx11⟩) (by assumption) ?_
          case hbx11 =>
            intro w hSw
            try dsimp only at hSw
            go_simp
            try with_reducible rfl
          try simp only [Act.put, List.setIfInBounds_toArray, List.set_cons_zero, List.set_cons_succ]
          refine wpAnyH_ready (rs := [10]) (by kernel_rfl) (by simp) ?_
          refine AllReadyH.cons (o := { dst := some 100, op := Go.Op.call { callee := Go.Callee.value (Go.Operand.func 12), args := #[Go.Operand.tmp 98, Go.Operand.tmp 99, Go.Operand.const (Go.Value.int Go.IntKind.i64 4)], argTypes := #[22, 23, 3] }, type := 22, pos := "law.go:36", after := #[{ on := 8, ground := Go.Ground.data }, { on := 9, ground := Go.Ground.data }, { on := 5, ground := Go.Ground.chain }, { on := 5, ground := Go.Ground.guard }], guard := some (5, true) }) rfl (fun K hK => ?_) AllReadyH.nil
          go_simp
          (first | (go_at_call 12; (with_reducible refine (HR5.out _ (by go_split_ands; assumption)).mono ?_); rintro e W2 ⟨g2, c2, rfl, O2, hb2⟩; have C2 := cv_of (c := c2) L4.out (Bs.of_own O2); have HW2 : Hid (Below wr.heap.size wr W2) := (by go_split_ands; exact below_on (by assumption) hb2); clear O2 hb2) | (go_at_call 13; (with_reducible refine (octWakes _).mono ?_); rintro e W2 ⟨rfl, hb2⟩; have HW2 : Hid (Below wr.heap.size wr W2) := (by go_split_ands; exact below_on (by assumption) hb2); clear hb2))
          try go_wp2_with fail
          refine hK.out _ _ ?hbx12 (fun hHeld => ?_)
          case hbx12 =>
            try dsimp only
            (first | assumption | exact HK2.out _ (Below.refl _ _).drew | exact HK2.out _ HW2.out)
          clear hK K
          try simp only [Act.put, List.setIfInBounds_toArray, List.set_cons_zero, List.set_cons_succ]
          refine wpAnyH_ready (rs := [11]) (by kernel_rfl) (by simp) ?_
          refine AllReadyH.cons (o := { dst := some 101, op := Go.Op.convert 22 9 (Go.Operand.tmp 100), type := 9, pos := "law.go:36", after := #[{ on := 10, ground := Go.Ground.data }, { on := 5, ground := Go.Ground.guard }], guard := some (5, true) }) rfl (fun K hK => ?_) AllReadyH.nil
          go_simp
          refine hK.out _ _ ?hbx13 (fun hHeld => ?_)
          case hbx13 =>
            try dsimp only
            (first | assumption | exact HK2.out _ (Below.refl _ _).drew | exact HK2.out _ HW2.out)
          clear hK K
          try simp only [Act.put, List.setIfInBounds_toArray, List.set_cons_zero, List.set_cons_succ]
          refine wpAnyH_take (i := 12) (oi := { dst := some 102, op := Go.Op.binOp Go.BinOp.eql 9 (Go.Operand.tmp 97) (Go.Operand.tmp 101) 9, type := 4, pos := "law.go:36", after := #[{ on := 7, ground := Go.Ground.data }, { on := 11, ground := Go.Ground.data }, { on := 5, ground := Go.Ground.guard }], guard := some (5, true) }) (v := ?vbx14) rfl (by kernel_rfl) (by kernel_rfl) (by kernel_rfl) (fun _ _ _ h => h) (Or.inl ⟨by rfl, ?hbx14⟩) (by assumption) ?_
          case hbx14 =>
            intro w hSw
            try dsimp only at hSw
            go_simp
            try with_reducible rfl
          try simp only [Act.put, List.setIfInBounds_toArray, List.set_cons_zero, List.set_cons_succ]
          refine wpAnyH_take (i := 13) (oi := { dst := some 103, op := Go.Op.pick (Go.Operand.tmp 95) (Go.Operand.tmp 102) (Go.Operand.const (Go.Value.bool false)), type := 4, pos := "law.go:36", after := #[{ on := 5, ground := Go.Ground.data }, { on := 12, ground := Go.Ground.data }], guard := none }) (v := ?vbx15) rfl (by kernel_rfl) (by kernel_rfl) (by kernel_rfl) (fun _ _ _ h => h) (Or.inl ⟨by rfl, ?hbx15⟩) (by assumption) ?_
          case hbx15 =>
            intro w hSw
            try dsimp only at hSw
            go_simp
            try with_reducible rfl
          try simp only [Act.put, List.setIfInBounds_toArray, List.set_cons_zero, List.set_cons_succ]
          refine wpAnyH_take (i := 14) (oi := { dst := some 104, op := Go.Op.move (Go.Operand.tmp 103), type := 4, pos := "law.go:36", after := #[{ on := 13, ground := Go.Ground.data }, { on := 10, ground := Go.Ground.chain }], guard := none }) (v := ?vbx16) rfl (by kernel_rfl) (by kernel_rfl) (by kernel_rfl) (fun _ _ _ h => h) (Or.inl ⟨by rfl, ?hbx16⟩) (by assumption) ?_
          case hbx16 =>
            intro w hSw
            try dsimp only at hSw
            go_simp
            try with_reducible rfl
          try simp only [Act.put, List.setIfInBounds_toArray, List.set_cons_zero, List.set_cons_succ]
          refine wpAnyH_ready (rs := [15]) (by kernel_rfl) (by simp) ?_
          refine AllReadyH.cons (o := { dst := some 105, op := Go.Op.call { callee := Go.Callee.value (Go.Operand.func 13), args := #[], argTypes := #[] }, type := 4, pos := "law.go:36", after := #[{ on := 14, ground := Go.Ground.chain }, { on := 14, ground := Go.Ground.guard }], guard := some (14, true) }) rfl (fun K hK => ?_) AllReadyH.nil
          go_simp
          (first | (go_at_call 12; (with_reducible refine (HR5.out _ (by go_split_ands; assumption)).mono ?_); rintro e W2 ⟨g2, c2, rfl, O2, hb2⟩; have C2 := cv_of (c := c2) L4.out (Bs.of_own O2); have HW2 : Hid (Below wr.heap.size wr W2) := (by go_split_ands; exact below_on (by assumption) hb2); clear O2 hb2) | (go_at_call 13; (with_reducible refine (octWakes _).mono ?_); rintro e W2 ⟨rfl, hb2⟩; have HW2 : Hid (Below wr.heap.size wr W2) := (by go_split_ands; exact below_on (by assumption) hb2); clear hb2))
          try go_wp2_with fail
          refine hK.out _ _ ?hbx17 (fun hHeld => ?_)
          case hbx17 =>
            try dsimp only
            (first | assumption | exact HK2.out _ (Below.refl _ _).drew | exact HK2.out _ HW2.out)
          clear hK K
          try simp only [Act.put, List.setIfInBounds_toArray, List.set_cons_zero, List.set_cons_succ]
          refine wpAnyH_take (i := 16) (oi := { dst := some 106, op := Go.Op.pick (Go.Operand.tmp 104) (Go.Operand.tmp 105) (Go.Operand.const (Go.Value.bool false)), type := 4, pos := "law.go:36", after := #[{ on := 14, ground := Go.Ground.data }, { on := 15, ground := Go.Ground.data }], guard := none }) (v := ?vbx18) rfl (by kernel_rfl) (by kernel_rfl) (by kernel_rfl) (fun _ _ _ h => h) (Or.inl ⟨by rfl, ?hbx18⟩) (by assumption) ?_
          case hbx18 =>
            intro w hSw
            try dsimp only at hSw
            go_simp
            try with_reducible rfl
          try simp only [Act.put, List.setIfInBounds_toArray, List.set_cons_zero, List.set_cons_succ]
          refine wpAnyH_take (i := 17) (oi := { dst := some 4, op := Go.Op.assign (Go.Operand.tmp 106), type := 4, pos := "law.go:36", after := #[{ on := 16, ground := Go.Ground.data }, { on := 15, ground := Go.Ground.chain }, { on := 0, ground := Go.Ground.phase }, { on := 1, ground := Go.Ground.phase }, { on := 2, ground := Go.Ground.phase }, { on := 3, ground := Go.Ground.phase }, { on := 4, ground := Go.Ground.phase }, { on := 5, ground := Go.Ground.phase }, { on := 6, ground := Go.Ground.phase }, { on := 7, ground := Go.Ground.phase }, { on := 8, ground := Go.Ground.phase }, { on := 9, ground := Go.Ground.phase }, { on := 10, ground := Go.Ground.phase }, { on := 11, ground := Go.Ground.phase }, { on := 12, ground := Go.Ground.phase }, { on := 13, ground := Go.Ground.phase }, { on := 14, ground := Go.Ground.phase }, { on := 15, ground := Go.Ground.phase }, { on := 16, ground := Go.Ground.phase }], guard := none }) (v := ?vbx19) rfl (by kernel_rfl) (by kernel_rfl) (by kernel_rfl) (fun _ _ _ h => h) (Or.inl ⟨by rfl, ?hbx19⟩) (by assumption) ?_
          case hbx19 =>
            intro w hSw
            try dsimp only at hSw
            go_simp
            try with_reducible rfl
          try simp only [Act.put, List.setIfInBounds_toArray, List.set_cons_zero, List.set_cons_succ]
          refine wpAnyH_done (by kernel_rfl) ?_ _
          refine NoPanic.normal ?_
          go_wp2
          go_ret
          exact ⟨rfl, BR.out.trans (HW2.out.mono BR.out.size)⟩

namespace octetPuts
open Go.ChangeShapes Go.WideShapes Go.ChangeAt
open Go.ChangeMaps (open_string shut_string)
set_option maxRecDepth 100000 in
theorem contract (H : Type) (enc : TypeId × Value → H) (W : World) (base : Nat) (args : Array Value) (ds gs : List (DataW H)) (before : List MemPlace)
    (hval : ∀ (j : Nat) t v, Try.f3.params[j]? = some t → args[j]? = some v → Value.okWide Try.prog W .any base t v)
    (hW : DataW.Whole enc Try.prog Try.f3.params.toList Rows.octetPutsSpec.vars false W args.toList ds gs before)
    (hR : (DataW.weightsEach Try.prog (Try.f3.params.toList ++ (OpenSpec.ofChange Rows.octetPutsSpec).bare.plain.varTypes Try.prog) (ds ++ gs)).all (· ≤ reachBytes) = true) :
    Calls Try.prog 3 args W fun e W' => ∃ v, e = .returned v ∧ Rows.octetPutsSpec.post enc Try.prog Try.f3 false true false false W args v W' := by
  have hW' := hW
  obtain ⟨p, q, hA0, hV, rfl, hfz, hnd⟩ := hW
  have hA : DataW.TrodAll enc Try.prog W 0 (fun _ => true) true Try.f3.params.toList args.toList ds p := hA0
  have HS := trodAll_stays (W' := W) (sp := fun _ => true) out (by kernel_rfl) hA
  have HA := Lib.hid hA
  rw [Try.params3] at hA hval hR
  obtain ⟨v0, vs0, d0, ds0, p0, q0, hargs0, rfl, rfl, h0, r0⟩ := trodAll_cons hA
  obtain ⟨v1, vs1, d1, ds1, p1, q1, hargs1, rfl, rfl, h1, r1⟩ := trodAll_cons r0
  obtain ⟨rfl, rfl, rfl⟩ := trodAll_nil r1
  obtain rfl : args = #[v0, v1] := by cases args; simp_all
  obtain ⟨rfl, rfl⟩ := trodVars_none hV
  obtain ⟨A0, l, c0, rfl, hc0, hn0, hb0, hm0⟩ := open_bs Try.underlying22 Try.underlying5 (by kernel_rfl) (by kernel_rfl) (hval 0 22 v0 rfl rfl) h0
  obtain ⟨v, rfl, rfl, rfl, z1⟩ := open_int Try.underlying23 (hval 1 23 v1 rfl rfl) h1
  clear hA0 HS
  obtain ⟨k0, s0⟩ := reach_cons hR
  obtain ⟨k1, s1⟩ := reach_cons s0
  refine (walk_OctetPuts W A0 l c0 hc0 hn0 hb0 (hm0 k0) v z1).mono fun e W' ⟨he, hb⟩ => ?_
  subst he
  have hlt := hW'.lt
  refine ⟨_, rfl, post_low hW' (pa := _) (pv := []) rfl hb (fun _ _ _ => trodAll_cons_mk (shut_bool Try.underlying4 _) trodAll_mk0) (fun sp hsp => ?_) (fun _ _ => rfl) (ok_one (by kernel_rfl) rfl (okWide_bool_mk Try.underlying4 _))⟩
  exact trodAll_stays out (by kernel_rfl) HA.out (fun x hx => hb.same (hlt x (List.mem_append_left _ hx))) (fun x hx => hsp x (List.mem_append_left _ hx))

noncomputable def wargs : Array Value := #[.slice none 0 0, .int .u32 0]
noncomputable def lw (os : Os) : World := World.settled Try.prog os
theorem reads (os : Os) {H : Type} (enc : TypeId × Value → H) : ∃ places, DataW.whole enc Try.prog ((lw os).forCall (fun _ _ => 0) ⟨#[], wargs, []⟩).memory Try.f3.params.toList Rows.octetPutsSpec.vars false wargs.toList 8 = some ([.nil, .lit (.int .u32 0)], [], places) :=
  ⟨[], by kernel_rfl⟩
set_option maxRecDepth 100000 in
theorem lifted (os : Os) (started : os.Started) (H : Type) (enc : TypeId × Value → H) (G : Stop.Interp) :
    ReturnsInHanded {} Try.checked os 3 .any ((OpenSpec.ofChange Rows.octetPutsSpec).preRow enc Try.prog Try.f3 Rows.octetPutsRow.domain false Rows.octetPutsRow.laid) (((OpenSpec.ofChange Rows.octetPutsSpec).at G).post enc Try.prog Try.f3 false true false false) := by
  obtain ⟨places, hx⟩ := reads os enc
  refine returnsInHanded_of_row (C := Try.checked) (s := OpenSpec.ofChange Rows.octetPutsSpec) own started (by kernel_rfl) Try.func3
    (witness_row_atRef (enc := enc) (C := Try.checked) false (lw os) wargs rfl (by kernel_rfl) (by kernel_rfl) (by kernel_rfl)
      (OpenSpec.preRow_of_cond 8 hx (by kernel_rfl) (fun k hk => by cases hk) (by kernel_rfl) (laidMetH_nil _ _))) ?_
  intro W base args ds gs before hval hW _ _ hR _ _ _
  exact contract H enc W base args ds gs before hval hW hR
/-- THE STATEMENT. -/
theorem said : Rows.OctetPutsSaid :=
  OpenClaim.holds_of_cond 3 Try.f3 rfl rfl rfl rfl rfl rfl rfl ⟨rfl, rfl, rfl, rfl, rfl⟩ rfl rfl rfl rfl rfl (by kernel_rfl) Try.func3 (by kernel_rfl)
    (of_decide_eq_true (by kernel_rfl)) (by unfold Func.isWrapper; first | (rw [if_pos (by decide +kernel)]; kernel_rfl) | (rw [if_neg (by decide +kernel)]; exact ⟨rfl, rfl⟩))
    (fun os started H enc _ G => by rw [OpenClaim.pre_eq_preRow]; exact lifted os started H enc G)
end octetPuts
end Go.Proofs.Ytklpjlligmklfaa
