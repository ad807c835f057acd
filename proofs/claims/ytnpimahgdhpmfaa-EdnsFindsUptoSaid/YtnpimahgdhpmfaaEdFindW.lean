/- EdnsFinds: the walk. -/
import Derived.Test.YtnpimahgdhpmfaaEdFindR
import Derived.Deep.RegionHeld3
import Derived.BigQuiet
namespace Go.Proofs.Ytnpimahgdhpmfaa
open Go.RowKit

theorem below_on8 {a b c : World} (h : Below a.heap.size a b) (k : Below b.heap.size b c) : Below a.heap.size a c := h.trans (k.mono h.size)
theorem lies_later {m : Mv} {w W : World} (h : m.lies w) (hb : Below w.heap.size w W) : m.lies W :=
  ⟨⟨h.1.1, h.1.2.1, (h.1.2.2.keep hb).more (Nat.le_refl _) hb.size⟩, ⟨h.2.1.1, h.2.1.2.1, (h.2.1.2.2.keep hb).more (Nat.le_refl _) hb.size⟩, ⟨h.2.2.1.1, h.2.2.1.2.1, (h.2.2.1.2.2.keep hb).more (Nat.le_refl _) hb.size⟩, ⟨h.2.2.2.1, h.2.2.2.2.1, (h.2.2.2.2.2.keep hb).more (Nat.le_refl _) hb.size⟩⟩
set_option maxHeartbeats 8000000 in
set_option maxRecDepth 1000000 in
theorem walk_EdnsFinds (w : World) (m : Mv) (hf : m.fits) (hl : m.lies w) (hm : m.near) (hs : ∀ r ∈ m.es, r.d.raw.size ≤ 1048576) :
    Calls Try.prog 3 #[m.val] w fun e w' => e = .returned (.bool true) ∧ Below w.heap.size w w' := by
  have hn : m.es.length ≤ 4398046511104 := by have h1 := hm.2.2.2.1; have h2 := hl.2.2.2.1; omega
  have HR1 := Lib.hid (fun (W : World) (hb : Below w.heap.size w W) => find_any m W hf (lies_later hl hb) hn (fun r hr => by have := hs r hr; unfold maxLen; omega))
  have HR2 := Lib.hid (fun (W : World) (hb : Below w.heap.size w W) => refFind_any m W hf (lies_later hl hb) hn (fun r hr => by have := hs r hr; omega))
  have HC1 := Lib.hid (fun (W : World) (hb : Below w.heap.size w W) => code_any m W hf (lies_later hl hb) hn)
  have HC2 := Lib.hid (fun (W : World) (hb : Below w.heap.size w W) => refCode_any m W hf (lies_later hl hb) hn)
  have HW := Lib.hid (fun W : World => edWakes W)
  clear hf hl hm hs hn
  generalize codeV m.rc m.es = cd at *
  generalize (findV m.es).2.1 = bo at *
  generalize (findV m.es).2.2 = er at *
  generalize (findV m.es).1 = X at *
  have eX : X.cells = #[.int .u16 X.size, .int .u8 X.high, .int .u8 X.ver, .int .u16 X.flags, .string X.opt] := rfl
  rw [eX] at HR1 HR2
  clear eX
  obtain ⟨id, rep, op, aa, tc, rd, ra, z, rc, qA, qs, qc, aA, an, ac, uA, us, uc, eA, es, ec⟩ := m
  simp only [Mv.val, Mv.cells] at *
  have hq : (X.opt.toList == X.opt.toList) = true := beq_self_eq_true _
  have hM0 : Has (w.alloc (.cells #[.int .u16 id, .bool rep, .int .u8 op, .bool aa, .bool tc, .bool rd, .bool ra, .int .u8 z, .int .u8 rc, .slice qA qs.length qc, .slice aA an.length ac, .slice uA us.length uc, .slice eA es.length ec] 26)) w.heap.size 26 #[.int .u16 id, .bool rep, .int .u8 op, .bool aa, .bool tc, .bool rd, .bool ra, .int .u8 z, .int .u8 rc, .slice qA qs.length qc, .slice aA an.length ac, .slice uA us.length uc, .slice eA es.length ec] := Has.fresh w _ _
  have HB0 := Lib.hid ((Below.refl w.heap.size w).alloc (Nat.le_refl _) (.cells #[.int .u16 id, .bool rep, .int .u8 op, .bool aa, .bool tc, .bool rd, .bool ra, .int .u8 z, .int .u8 rc, .slice qA qs.length qc, .slice aA an.length ac, .slice uA us.length uc, .slice eA es.length ec] 26))
  have HM0 := Lib.hid hM0
  have hi13 : (Try.prog.info? 26).map (·.size) = some 13 := by kernel_rfl
  have HI := Lib.hid hi13
  clear hM0 hi13
  go_enter Try.func3, Try.ntmps3
  go_upto_region 3 with (first
    | (go_at_call 7
       refine (HR1.out _ HB0.out).mono ?_
       rintro e w1 ⟨rfl, B1⟩
       have HB1 := Lib.hid (HB0.out.trans (B1.mono HB0.out.size))
       have hM1 := (HM0.out.below B1 HM0.out.lt).alloc (.cells #[.int .u16 X.size, .int .u8 X.high, .int .u8 X.ver, .int .u16 X.flags, .string X.opt] 28)
       have HM1 := Lib.hid hM1
       have HB1a := Lib.hid (HB1.out.alloc HB1.out.size (.cells #[.int .u16 X.size, .int .u8 X.high, .int .u8 X.ver, .int .u16 X.flags, .string X.opt] 28))
       clear B1 hM1)
    | (refine wpList_load_row rfl 26 (.tmp 1) rfl w.heap.size rfl 26 #[.int .u16 id, .bool rep, .int .u8 op, .bool aa, .bool tc, .bool rd, .bool ra, .int .u8 z, .int .u8 rc, .slice qA qs.length qc, .slice aA an.length ac, .slice uA us.length uc, .slice eA es.length ec] (0, 0) _ HM1.out Try.underlying26 rfl HI.out ?_)
    | (go_at_call 8
       refine (HR2.out _ HB1a.out).mono ?_
       rintro e w2 ⟨rfl, B2⟩
       have HA2 := Lib.hid (((Has.fresh w1 28 #[.int .u16 X.size, .int .u8 X.high, .int .u8 X.ver, .int .u16 X.flags, .string X.opt]).below B2 (by simp)).alloc (.cells #[.int .u16 X.size, .int .u8 X.high, .int .u8 X.ver, .int .u16 X.flags, .string X.opt] 28))
       have HM2 := Lib.hid ((HM1.out.below B2 HM1.out.lt).alloc (.cells #[.int .u16 X.size, .int .u8 X.high, .int .u8 X.ver, .int .u16 X.flags, .string X.opt] 28))
       have HN2 := Lib.hid (Has.fresh w2 28 #[.int .u16 X.size, .int .u8 X.high, .int .u8 X.ver, .int .u16 X.flags, .string X.opt])
       have HB2 := Lib.hid ((HB1a.out.trans (B2.mono HB1a.out.size)).alloc (by have h1 := HB1a.out.size; have h2 := B2.size; omega) (.cells #[.int .u16 X.size, .int .u8 X.high, .int .u8 X.ver, .int .u16 X.flags, .string X.opt] 28))
       clear B2))
  clear HM0 HB0 HM1 HB1 HR1 HR2 HB1a
  obtain ⟨gA, hgA⟩ : ∃ g, w1.heap.size = g := ⟨_, rfl⟩
  obtain ⟨gB, hgB⟩ : ∃ g, w2.heap.size = g := ⟨_, rfl⟩
  rw [hgA] at HA2 ⊢
  rw [hgB] at HN2 ⊢
  generalize w2.alloc (.cells #[.int .u16 X.size, .int .u8 X.high, .int .u8 X.ver, .int .u16 X.flags, .string X.opt] 28) = wb at *
  clear hgA hgB
  have HK := Lib.hid (fun (W : World) (hb : Below wb.heap.size wb W) => (show (W.cell? ⟨gA, 0, none⟩ = some (.int .u16 X.size) ∧ W.cell? ⟨gA, 1, none⟩ = some (.int .u8 X.high) ∧ W.cell? ⟨gA, 2, none⟩ = some (.int .u8 X.ver) ∧ W.cell? ⟨gA, 3, none⟩ = some (.int .u16 X.flags) ∧ W.cell? ⟨gA, 4, none⟩ = some (.string X.opt) ∧ W.cell? ⟨gB, 0, none⟩ = some (.int .u16 X.size) ∧ W.cell? ⟨gB, 1, none⟩ = some (.int .u8 X.high) ∧ W.cell? ⟨gB, 2, none⟩ = some (.int .u8 X.ver) ∧ W.cell? ⟨gB, 3, none⟩ = some (.int .u16 X.flags) ∧ W.cell? ⟨gB, 4, none⟩ = some (.string X.opt) ∧ W.cell? ⟨w.heap.size, 0, none⟩ = some (.int .u16 id) ∧ W.cell? ⟨w.heap.size, 1, none⟩ = some (.bool rep) ∧ W.cell? ⟨w.heap.size, 2, none⟩ = some (.int .u8 op) ∧ W.cell? ⟨w.heap.size, 3, none⟩ = some (.bool aa) ∧ W.cell? ⟨w.heap.size, 4, none⟩ = some (.bool tc) ∧ W.cell? ⟨w.heap.size, 5, none⟩ = some (.bool rd) ∧ W.cell? ⟨w.heap.size, 6, none⟩ = some (.bool ra) ∧ W.cell? ⟨w.heap.size, 7, none⟩ = some (.int .u8 z) ∧ W.cell? ⟨w.heap.size, 8, none⟩ = some (.int .u8 rc) ∧ W.cell? ⟨w.heap.size, 9, none⟩ = some (.slice qA qs.length qc) ∧ W.cell? ⟨w.heap.size, 10, none⟩ = some (.slice aA an.length ac) ∧ W.cell? ⟨w.heap.size, 11, none⟩ = some (.slice uA us.length uc) ∧ W.cell? ⟨w.heap.size, 12, none⟩ = some (.slice eA es.length ec)) ∧ Below wb.heap.size wb W from by
    have h1 := HA2.out.below hb HA2.out.lt
    have h2 := HN2.out.below hb HN2.out.lt
    have h3 := HM2.out.below hb HM2.out.lt
    exact ⟨⟨by rw [h1.cell]; rfl, by rw [h1.cell]; rfl, by rw [h1.cell]; rfl, by rw [h1.cell]; rfl, by rw [h1.cell]; rfl, by rw [h2.cell]; rfl, by rw [h2.cell]; rfl, by rw [h2.cell]; rfl, by rw [h2.cell]; rfl, by rw [h2.cell]; rfl, by rw [h3.cell]; rfl, by rw [h3.cell]; rfl, by rw [h3.cell]; rfl, by rw [h3.cell]; rfl, by rw [h3.cell]; rfl, by rw [h3.cell]; rfl, by rw [h3.cell]; rfl, by rw [h3.cell]; rfl, by rw [h3.cell]; rfl, by rw [h3.cell]; rfl, by rw [h3.cell]; rfl, by rw [h3.cell]; rfl, by rw [h3.cell]; rfl⟩, hb⟩))
  clear HA2 HN2 HM2
  refine wp_region_noPanic ?_
  refine wp_region_held_drew (S := (fun W => (W.cell? ⟨gA, 0, none⟩ = some (.int .u16 X.size) ∧ W.cell? ⟨gA, 1, none⟩ = some (.int .u8 X.high) ∧ W.cell? ⟨gA, 2, none⟩ = some (.int .u8 X.ver) ∧ W.cell? ⟨gA, 3, none⟩ = some (.int .u16 X.flags) ∧ W.cell? ⟨gA, 4, none⟩ = some (.string X.opt) ∧ W.cell? ⟨gB, 0, none⟩ = some (.int .u16 X.size) ∧ W.cell? ⟨gB, 1, none⟩ = some (.int .u8 X.high) ∧ W.cell? ⟨gB, 2, none⟩ = some (.int .u8 X.ver) ∧ W.cell? ⟨gB, 3, none⟩ = some (.int .u16 X.flags) ∧ W.cell? ⟨gB, 4, none⟩ = some (.string X.opt) ∧ W.cell? ⟨w.heap.size, 0, none⟩ = some (.int .u16 id) ∧ W.cell? ⟨w.heap.size, 1, none⟩ = some (.bool rep) ∧ W.cell? ⟨w.heap.size, 2, none⟩ = some (.int .u8 op) ∧ W.cell? ⟨w.heap.size, 3, none⟩ = some (.bool aa) ∧ W.cell? ⟨w.heap.size, 4, none⟩ = some (.bool tc) ∧ W.cell? ⟨w.heap.size, 5, none⟩ = some (.bool rd) ∧ W.cell? ⟨w.heap.size, 6, none⟩ = some (.bool ra) ∧ W.cell? ⟨w.heap.size, 7, none⟩ = some (.int .u8 z) ∧ W.cell? ⟨w.heap.size, 8, none⟩ = some (.int .u8 rc) ∧ W.cell? ⟨w.heap.size, 9, none⟩ = some (.slice qA qs.length qc) ∧ W.cell? ⟨w.heap.size, 10, none⟩ = some (.slice aA an.length ac) ∧ W.cell? ⟨w.heap.size, 11, none⟩ = some (.slice uA us.length uc) ∧ W.cell? ⟨w.heap.size, 12, none⟩ = some (.slice eA es.length ec)) ∧ Below wb.heap.size wb W)) (by kernel_rfl) ?hax1 (fun hHeld => ?_)
  case hax1 =>
    try dsimp only
    (first | assumption | exact HK.out _ (Below.refl _ _).drew | exact HK.out _ HW1.out)
  refine wpAnyH_take (i := 0) (oi := { dst := some 21, op := Go.Op.load 28 (Go.Operand.tmp 3), type := 28, pos := "law.go:21", after := #[], guard := none }) (v := ?vax2) rfl (by kernel_rfl) (by kernel_rfl) (by kernel_rfl) (fun _ _ _ h => h) (Or.inl ⟨by rfl, ?hax2⟩) (by assumption) ?_
  case hax2 =>
    intro w hSw
    try dsimp only at hSw
    go_simp
    try with_reducible rfl
  try simp only [Act.put, List.setIfInBounds_toArray, List.set_cons_zero, List.set_cons_succ]
  refine wpAnyH_take (i := 1) (oi := { dst := some 22, op := Go.Op.load 28 (Go.Operand.tmp 6), type := 28, pos := "law.go:21", after := #[], guard := none }) (v := ?vax3) rfl (by kernel_rfl) (by kernel_rfl) (by kernel_rfl) (fun _ _ _ h => h) (Or.inl ⟨by rfl, ?hax3⟩) (by assumption) ?_
  case hax3 =>
    intro w hSw
    try dsimp only at hSw
    go_simp
    try with_reducible rfl
  try simp only [Act.put, List.setIfInBounds_toArray, List.set_cons_zero, List.set_cons_succ]
  refine wpAnyH_take (i := 2) (oi := { dst := some 23, op := Go.Op.binOp Go.BinOp.eql 28 (Go.Operand.tmp 21) (Go.Operand.tmp 22) 28, type := 4, pos := "law.go:21", after := #[{ on := 0, ground := Go.Ground.data }, { on := 1, ground := Go.Ground.data }], guard := none }) (v := ?vax4) rfl (by kernel_rfl) (by kernel_rfl) (by kernel_rfl) (fun _ _ _ h => h) (Or.inl ⟨by rfl, ?hax4⟩) (by assumption) ?_
  case hax4 =>
    intro w hSw
    try dsimp only at hSw
    go_simp
    try with_reducible rfl
  try simp only [Act.put, List.setIfInBounds_toArray, List.set_cons_zero, List.set_cons_succ]
  refine wpAnyH_take (i := 3) (oi := { dst := some 24, op := Go.Op.move (Go.Operand.tmp 23), type := 4, pos := "law.go:21", after := #[{ on := 2, ground := Go.Ground.data }], guard := none }) (v := ?vax5) rfl (by kernel_rfl) (by kernel_rfl) (by kernel_rfl) (fun _ _ _ h => h) (Or.inl ⟨by rfl, ?hax5⟩) (by assumption) ?_
  case hax5 =>
    intro w hSw
    try dsimp only at hSw
    go_simp
    try with_reducible rfl
  try simp only [Act.put, List.setIfInBounds_toArray, List.set_cons_zero, List.set_cons_succ]
  refine wpAnyH_take (i := 4) (oi := { dst := some 25, op := Go.Op.move (Go.Operand.tmp 4), type := 4, pos := "law.go:21", after := #[{ on := 3, ground := Go.Ground.guard }], guard := some (3, true) }) (v := ?vax6) rfl (by kernel_rfl) (by kernel_rfl) (by kernel_rfl) (fun _ _ _ h => h) (Or.inl ⟨by rfl, ?hax6⟩) (by assumption) ?_
  case hax6 =>
    intro w hSw
    try dsimp only at hSw
    go_simp
    try with_reducible rfl
  try simp only [Act.put, List.setIfInBounds_toArray, List.set_cons_zero, List.set_cons_succ]
  refine wpAnyH_take (i := 5) (oi := { dst := some 26, op := Go.Op.move (Go.Operand.tmp 7), type := 4, pos := "law.go:21", after := #[{ on := 3, ground := Go.Ground.guard }], guard := some (3, true) }) (v := ?vax7) rfl (by kernel_rfl) (by kernel_rfl) (by kernel_rfl) (fun _ _ _ h => h) (Or.inl ⟨by rfl, ?hax7⟩) (by assumption) ?_
  case hax7 =>
    intro w hSw
    try dsimp only at hSw
    go_simp
    try with_reducible rfl
  try simp only [Act.put, List.setIfInBounds_toArray, List.set_cons_zero, List.set_cons_succ]
  refine wpAnyH_take (i := 6) (oi := { dst := some 27, op := Go.Op.binOp Go.BinOp.eql 4 (Go.Operand.tmp 25) (Go.Operand.tmp 26) 4, type := 4, pos := "law.go:21", after := #[{ on := 4, ground := Go.Ground.data }, { on := 5, ground := Go.Ground.data }, { on := 3, ground := Go.Ground.guard }], guard := some (3, true) }) (v := ?vax8) rfl (by kernel_rfl) (by kernel_rfl) (by kernel_rfl) (fun _ _ _ h => h) (Or.inl ⟨by rfl, ?hax8⟩) (by assumption) ?_
  case hax8 =>
    intro w hSw
    try dsimp only at hSw
    go_simp
    try with_reducible rfl
  try simp only [Act.put, List.setIfInBounds_toArray, List.set_cons_zero, List.set_cons_succ]
  refine wpAnyH_take (i := 7) (oi := { dst := some 28, op := Go.Op.pick (Go.Operand.tmp 24) (Go.Operand.tmp 27) (Go.Operand.const (Go.Value.bool false)), type := 4, pos := "law.go:21", after := #[{ on := 3, ground := Go.Ground.data }, { on := 6, ground := Go.Ground.data }], guard := none }) (v := ?vax9) rfl (by kernel_rfl) (by kernel_rfl) (by kernel_rfl) (fun _ _ _ h => h) (Or.inl ⟨by rfl, ?hax9⟩) (by assumption) ?_
  case hax9 =>
    intro w hSw
    try dsimp only at hSw
    go_simp
    try with_reducible rfl
  try simp only [Act.put, List.setIfInBounds_toArray, List.set_cons_zero, List.set_cons_succ]
  refine wpAnyH_take (i := 8) (oi := { dst := some 29, op := Go.Op.move (Go.Operand.tmp 28), type := 4, pos := "law.go:21", after := #[{ on := 7, ground := Go.Ground.data }, { on := 3, ground := Go.Ground.chain }], guard := none }) (v := ?vax10) rfl (by kernel_rfl) (by kernel_rfl) (by kernel_rfl) (fun _ _ _ h => h) (Or.inl ⟨by rfl, ?hax10⟩) (by assumption) ?_
  case hax10 =>
    intro w hSw
    try dsimp only at hSw
    go_simp
    try with_reducible rfl
  try simp only [Act.put, List.setIfInBounds_toArray, List.set_cons_zero, List.set_cons_succ]
  refine wpAnyH_take (i := 9) (oi := { dst := some 30, op := Go.Op.move (Go.Operand.tmp 5), type := 29, pos := "law.go:21", after := #[{ on := 8, ground := Go.Ground.guard }], guard := some (8, true) }) (v := ?vax11) rfl (by kernel_rfl) (by kernel_rfl) (by kernel_rfl) (fun _ _ _ h => h) (Or.inl ⟨by rfl, ?hax11⟩) (by assumption) ?_
  case hax11 =>
    intro w hSw
    try dsimp only at hSw
    go_simp
    try with_reducible rfl
  try simp only [Act.put, List.setIfInBounds_toArray, List.set_cons_zero, List.set_cons_succ]
  refine wpAnyH_take (i := 10) (oi := { dst := some 31, op := Go.Op.move (Go.Operand.tmp 8), type := 29, pos := "law.go:21", after := #[{ on := 8, ground := Go.Ground.guard }], guard := some (8, true) }) (v := ?vax12) rfl (by kernel_rfl) (by kernel_rfl) (by kernel_rfl) (fun _ _ _ h => h) (Or.inl ⟨by rfl, ?hax12⟩) (by assumption) ?_
  case hax12 =>
    intro w hSw
    try dsimp only at hSw
    go_simp
    try with_reducible rfl
  try simp only [Act.put, List.setIfInBounds_toArray, List.set_cons_zero, List.set_cons_succ]
  refine wpAnyH_take (i := 11) (oi := { dst := some 32, op := Go.Op.binOp Go.BinOp.eql 29 (Go.Operand.tmp 30) (Go.Operand.tmp 31) 29, type := 4, pos := "law.go:21", after := #[{ on := 9, ground := Go.Ground.data }, { on := 10, ground := Go.Ground.data }, { on := 8, ground := Go.Ground.guard }], guard := some (8, true) }) (v := ?vax13) rfl (by kernel_rfl) (by kernel_rfl) (by kernel_rfl) (fun _ _ _ h => h) (Or.inl ⟨by rfl, ?hax13⟩) (by assumption) ?_
  case hax13 =>
    intro w hSw
    try dsimp only at hSw
    go_simp
    try with_reducible rfl
  try simp only [Act.put, List.setIfInBounds_toArray, List.set_cons_zero, List.set_cons_succ]
  refine wpAnyH_take (i := 12) (oi := { dst := some 33, op := Go.Op.pick (Go.Operand.tmp 29) (Go.Operand.tmp 32) (Go.Operand.const (Go.Value.bool false)), type := 4, pos := "law.go:21", after := #[{ on := 8, ground := Go.Ground.data }, { on := 11, ground := Go.Ground.data }], guard := none }) (v := ?vax14) rfl (by kernel_rfl) (by kernel_rfl) (by kernel_rfl) (fun _ _ _ h => h) (Or.inl ⟨by rfl, ?hax14⟩) (by assumption) ?_
  case hax14 =>
    intro w hSw
    try dsimp only at hSw
    go_simp
    try with_reducible rfl
  try simp only [Act.put, List.setIfInBounds_toArray, List.set_cons_zero, List.set_cons_succ]
  refine wpAnyH_take (i := 13) (oi := { dst := some 34, op := Go.Op.move (Go.Operand.tmp 33), type := 4, pos := "law.go:21", after := #[{ on := 12, ground := Go.Ground.data }, { on := 8, ground := Go.Ground.chain }], guard := none }) (v := ?vax15) rfl (by kernel_rfl) (by kernel_rfl) (by kernel_rfl) (fun _ _ _ h => h) (Or.inl ⟨by rfl, ?hax15⟩) (by assumption) ?_
  case hax15 =>
    intro w hSw
    try dsimp only at hSw
    go_simp
    try with_reducible rfl
  try simp only [Act.put, List.setIfInBounds_toArray, List.set_cons_zero, List.set_cons_succ]
  refine wpAnyH_take (i := 14) (oi := { dst := some 35, op := Go.Op.load 26 (Go.Operand.tmp 1), type := 26, pos := "law.go:21", after := #[{ on := 13, ground := Go.Ground.guard }], guard := some (13, true) }) (v := ?vax16) rfl (by kernel_rfl) (by kernel_rfl) (by kernel_rfl) (fun _ _ _ h => h) (Or.inl ⟨by rfl, ?hax16⟩) (by assumption) ?_
  case hax16 =>
    intro w hSw
    try dsimp only at hSw
    go_simp
    try with_reducible rfl
  try simp only [Act.put, List.setIfInBounds_toArray, List.set_cons_zero, List.set_cons_succ]
  refine wpAnyH_take (i := 16) (oi := { dst := some 37, op := Go.Op.load 26 (Go.Operand.tmp 1), type := 26, pos := "law.go:21", after := #[{ on := 13, ground := Go.Ground.guard }], guard := some (13, true) }) (v := ?vax17) rfl (by kernel_rfl) (by kernel_rfl) (by kernel_rfl) (fun _ _ _ h => h) (Or.inl ⟨by rfl, ?hax17⟩) (by assumption) ?_
  case hax17 =>
    intro w hSw
    try dsimp only at hSw
    go_simp
    try with_reducible rfl
  try simp only [Act.put, List.setIfInBounds_toArray, List.set_cons_zero, List.set_cons_succ]
  refine wpAnyH_ready (rs := [15]) (by kernel_rfl) (by simp) ?_
  refine AllReadyH.cons (o := { dst := some 36, op := Go.Op.call { callee := Go.Callee.value (Go.Operand.func 9), args := #[Go.Operand.tmp 35], argTypes := #[26] }, type := 22, pos := "law.go:21", after := #[{ on := 14, ground := Go.Ground.data }, { on := 13, ground := Go.Ground.chain }, { on := 13, ground := Go.Ground.guard }], guard := some (13, true) }) rfl (fun K hK => ?_) AllReadyH.nil
  go_simp
  (first | (go_at_call 9; (with_reducible refine (HC1.out _ (by go_split_ands; exact HB2.out.trans (Below.mono (by assumption) HB2.out.size))).mono ?_); rintro e W1 ⟨rfl, B1⟩; have HW1 : Hid (Below wb.heap.size wb W1) := (by go_split_ands; exact below_on8 (by assumption) B1); clear B1) | (go_at_call 10; (with_reducible refine (HC2.out _ (by go_split_ands; exact HB2.out.trans (Below.mono (by assumption) HB2.out.size))).mono ?_); rintro e W1 ⟨rfl, B1⟩; have HW1 : Hid (Below wb.heap.size wb W1) := (by go_split_ands; exact below_on8 (by assumption) B1); clear B1) | (go_at_call 11; (with_reducible refine (HW.out _).mono ?_); rintro e W1 ⟨rfl, B1⟩; have HW1 : Hid (Below wb.heap.size wb W1) := (by go_split_ands; exact below_on8 (by assumption) B1); clear B1))
  try go_wp2_with fail
  refine hK.out _ _ ?hax18 (fun hHeld => ?_)
  case hax18 =>
    try dsimp only
    (first | assumption | exact HK.out _ (Below.refl _ _).drew | exact HK.out _ HW1.out)
  clear hK K
  try simp only [Act.put, List.setIfInBounds_toArray, List.set_cons_zero, List.set_cons_succ]
  refine wpAnyH_ready (rs := [17]) (by kernel_rfl) (by simp) ?_
  refine AllReadyH.cons (o := { dst := some 38, op := Go.Op.call { callee := Go.Callee.value (Go.Operand.func 10), args := #[Go.Operand.tmp 37], argTypes := #[26] }, type := 22, pos := "law.go:21", after := #[{ on := 16, ground := Go.Ground.data }, { on := 15, ground := Go.Ground.chain }, { on := 13, ground := Go.Ground.guard }], guard := some (13, true) }) rfl (fun K hK => ?_) AllReadyH.nil
  go_simp
  (first | (go_at_call 9; (with_reducible refine (HC1.out _ (by go_split_ands; exact HB2.out.trans (Below.mono (by assumption) HB2.out.size))).mono ?_); rintro e W1 ⟨rfl, B1⟩; have HW1 : Hid (Below wb.heap.size wb W1) := (by go_split_ands; exact below_on8 (by assumption) B1); clear B1) | (go_at_call 10; (with_reducible refine (HC2.out _ (by go_split_ands; exact HB2.out.trans (Below.mono (by assumption) HB2.out.size))).mono ?_); rintro e W1 ⟨rfl, B1⟩; have HW1 : Hid (Below wb.heap.size wb W1) := (by go_split_ands; exact below_on8 (by assumption) B1); clear B1) | (go_at_call 11; (with_reducible refine (HW.out _).mono ?_); rintro e W1 ⟨rfl, B1⟩; have HW1 : Hid (Below wb.heap.size wb W1) := (by go_split_ands; exact below_on8 (by assumption) B1); clear B1))
  try go_wp2_with fail
  refine hK.out _ _ ?hax19 (fun hHeld => ?_)
  case hax19 =>
    try dsimp only
    (first | assumption | exact HK.out _ (Below.refl _ _).drew | exact HK.out _ HW1.out)
  clear hK K
  try simp only [Act.put, List.setIfInBounds_toArray, List.set_cons_zero, List.set_cons_succ]
  refine wpAnyH_take (i := 18) (oi := { dst := some 39, op := Go.Op.binOp Go.BinOp.eql 22 (Go.Operand.tmp 36) (Go.Operand.tmp 38) 22, type := 4, pos := "law.go:21", after := #[{ on := 15, ground := Go.Ground.data }, { on := 17, ground := Go.Ground.data }, { on := 13, ground := Go.Ground.guard }], guard := some (13, true) }) (v := ?vax20) rfl (by kernel_rfl) (by kernel_rfl) (by kernel_rfl) (fun _ _ _ h => h) (Or.inl ⟨by rfl, ?hax20⟩) (by assumption) ?_
  case hax20 =>
    intro w hSw
    try dsimp only at hSw
    go_simp
    try with_reducible rfl
  try simp only [Act.put, List.setIfInBounds_toArray, List.set_cons_zero, List.set_cons_succ]
  refine wpAnyH_take (i := 19) (oi := { dst := some 40, op := Go.Op.pick (Go.Operand.tmp 34) (Go.Operand.tmp 39) (Go.Operand.const (Go.Value.bool false)), type := 4, pos := "law.go:21", after := #[{ on := 13, ground := Go.Ground.data }, { on := 18, ground := Go.Ground.data }], guard := none }) (v := ?vax21) rfl (by kernel_rfl) (by kernel_rfl) (by kernel_rfl) (fun _ _ _ h => h) (Or.inl ⟨by rfl, ?hax21⟩) (by assumption) ?_
  case hax21 =>
    intro w hSw
    try dsimp only at hSw
    go_simp
    try with_reducible rfl
  try simp only [Act.put, List.setIfInBounds_toArray, List.set_cons_zero, List.set_cons_succ]
  refine wpAnyH_take (i := 20) (oi := { dst := some 41, op := Go.Op.move (Go.Operand.tmp 40), type := 4, pos := "law.go:21", after := #[{ on := 19, ground := Go.Ground.data }, { on := 17, ground := Go.Ground.chain }], guard := none }) (v := ?vax22) rfl (by kernel_rfl) (by kernel_rfl) (by kernel_rfl) (fun _ _ _ h => h) (Or.inl ⟨by rfl, ?hax22⟩) (by assumption) ?_
  case hax22 =>
    intro w hSw
    try dsimp only at hSw
    go_simp
    try with_reducible rfl
  try simp only [Act.put, List.setIfInBounds_toArray, List.set_cons_zero, List.set_cons_succ]
  refine wpAnyH_ready (rs := [21]) (by kernel_rfl) (by simp) ?_
  refine AllReadyH.cons (o := { dst := some 42, op := Go.Op.call { callee := Go.Callee.value (Go.Operand.func 11), args := #[], argTypes := #[] }, type := 4, pos := "law.go:21", after := #[{ on := 20, ground := Go.Ground.chain }, { on := 20, ground := Go.Ground.guard }], guard := some (20, true) }) rfl (fun K hK => ?_) AllReadyH.nil
  go_simp
  (first | (go_at_call 9; (with_reducible refine (HC1.out _ (by go_split_ands; exact HB2.out.trans (Below.mono (by assumption) HB2.out.size))).mono ?_); rintro e W1 ⟨rfl, B1⟩; have HW1 : Hid (Below wb.heap.size wb W1) := (by go_split_ands; exact below_on8 (by assumption) B1); clear B1) | (go_at_call 10; (with_reducible refine (HC2.out _ (by go_split_ands; exact HB2.out.trans (Below.mono (by assumption) HB2.out.size))).mono ?_); rintro e W1 ⟨rfl, B1⟩; have HW1 : Hid (Below wb.heap.size wb W1) := (by go_split_ands; exact below_on8 (by assumption) B1); clear B1) | (go_at_call 11; (with_reducible refine (HW.out _).mono ?_); rintro e W1 ⟨rfl, B1⟩; have HW1 : Hid (Below wb.heap.size wb W1) := (by go_split_ands; exact below_on8 (by assumption) B1); clear B1))
  try go_wp2_with fail
  refine hK.out _ _ ?hax23 (fun hHeld => ?_)
  case hax23 =>
    try dsimp only
    (first | assumption | exact HK.out _ (Below.refl _ _).drew | exact HK.out _ HW1.out)
  clear hK K
  try simp only [Act.put, List.setIfInBounds_toArray, List.set_cons_zero, List.set_cons_succ]
  refine wpAnyH_take (i := 22) (oi := { dst := some 43, op := Go.Op.pick (Go.Operand.tmp 41) (Go.Operand.tmp 42) (Go.Operand.const (Go.Value.bool false)), type := 4, pos := "law.go:21", after := #[{ on := 20, ground := Go.Ground.data }, { on := 21, ground := Go.Ground.data }], guard := none }) (v := ?vax24) rfl (by kernel_rfl) (by kernel_rfl) (by kernel_rfl) (fun _ _ _ h => h) (Or.inl ⟨by rfl, ?hax24⟩) (by assumption) ?_
  case hax24 =>
    intro w hSw
    try dsimp only at hSw
    go_simp
    try with_reducible rfl
  try simp only [Act.put, List.setIfInBounds_toArray, List.set_cons_zero, List.set_cons_succ]
  refine wpAnyH_take (i := 23) (oi := { dst := some 2, op := Go.Op.assign (Go.Operand.tmp 43), type := 4, pos := "law.go:21", after := #[{ on := 22, ground := Go.Ground.data }, { on := 21, ground := Go.Ground.chain }, { on := 0, ground := Go.Ground.phase }, { on := 1, ground := Go.Ground.phase }, { on := 2, ground := Go.Ground.phase }, { on := 3, ground := Go.Ground.phase }, { on := 4, ground := Go.Ground.phase }, { on := 5, ground := Go.Ground.phase }, { on := 6, ground := Go.Ground.phase }, { on := 7, ground := Go.Ground.phase }, { on := 8, ground := Go.Ground.phase }, { on := 9, ground := Go.Ground.phase }, { on := 10, ground := Go.Ground.phase }, { on := 11, ground := Go.Ground.phase }, { on := 12, ground := Go.Ground.phase }, { on := 13, ground := Go.Ground.phase }, { on := 14, ground := Go.Ground.phase }, { on := 15, ground := Go.Ground.phase }, { on := 16, ground := Go.Ground.phase }, { on := 17, ground := Go.Ground.phase }, { on := 18, ground := Go.Ground.phase }, { on := 19, ground := Go.Ground.phase }, { on := 20, ground := Go.Ground.phase }, { on := 21, ground := Go.Ground.phase }, { on := 22, ground := Go.Ground.phase }], guard := none }) (v := ?vax25) rfl (by kernel_rfl) (by kernel_rfl) (by kernel_rfl) (fun _ _ _ h => h) (Or.inl ⟨by rfl, ?hax25⟩) (by assumption) ?_
  case hax25 =>
    intro w hSw
    try dsimp only at hSw
    go_simp
    try with_reducible rfl
  try simp only [Act.put, List.setIfInBounds_toArray, List.set_cons_zero, List.set_cons_succ]
  refine wpAnyH_done (by kernel_rfl) ?_ _
  refine NoPanic.normal ?_
  all_goals
    (go_wp2
     go_ret
     exact ⟨rfl, HB2.out.trans (HW1.out.mono HB2.out.size)⟩)
end Go.Proofs.Ytnpimahgdhpmfaa
