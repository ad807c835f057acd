/- EdnsRecords: the walk. -/
import Derived.Test.YtnpimahgdhpmfaaEdWakes
import Derived.Test.YtnpimahgdhpmfaaRrEqR
import Derived.Deep.RegionHeld3
import Derived.BigQuiet
namespace Go.Proofs.Ytnpimahgdhpmfaa
open Go.RowKit

theorem below_on7 {a b c : World} (h : Below a.heap.size a b) (k : Below b.heap.size b c) : Below a.heap.size a c := h.trans (k.mono h.size)
set_option maxHeartbeats 8000000 in
set_option maxRecDepth 1000000 in
theorem walk_EdnsRecords (w : World) (x : Ev) (hx : x.fits) (hs : x.opt.size ≤ 140737488351232) (has : Bool) (most : Int) (_hm : (Lit.int .i64 most).wf = true) :
    Calls Try.prog 4 #[x.val, .bool has, .int .i64 most] w fun e w' => e = .returned (.bool true) ∧ Below w.heap.size w w' := by
  have HR1 := Lib.hid (fun W : World => rec_any x hx (by unfold maxLen; omega) W)
  have HR2 := Lib.hid (fun W : World => refRec_any x hx (by unfold maxLen; omega) W)
  have HL1 := Lib.hid (fun W : World => lim_any has x hx most W)
  have HL2 := Lib.hid (fun W : World => refLim_any has x hx most W)
  generalize x.err = er at *
  generalize limV has x.size most = lm at *
  obtain ⟨X, hX⟩ : ∃ X, x.outR = X := ⟨_, rfl⟩
  rw [hX] at HR1 HR2
  clear hX hx hs
  obtain ⟨sz, hi, ve, fl, op⟩ := x
  have eX : X.val = .agg #[.string X.nm, .int .u16 X.ty, .int .u16 X.cl, .int .u32 X.ttl, .string X.d.raw, .string X.d.host, .string X.d.mail, .int .u32 X.d.n0, .int .u32 X.d.n1, .int .u32 X.d.n2, .int .u32 X.d.n3, .int .u32 X.d.n4] := rfl
  rw [eX] at HR1 HR2
  clear eX
  simp only [Ev.val, Ev.cells] at *
  have pe : ∀ W, (Op.equalIn 10000 41 (.agg #[.string X.nm, .int .u16 X.ty, .int .u16 X.cl, .int .u32 X.ttl, .string X.d.raw, .string X.d.host, .string X.d.mail, .int .u32 X.d.n0, .int .u32 X.d.n1, .int .u32 X.d.n2, .int .u32 X.d.n3, .int .u32 X.d.n4]) (.agg #[.string X.nm, .int .u16 X.ty, .int .u16 X.cl, .int .u32 X.ttl, .string X.d.raw, .string X.d.host, .string X.d.mail, .int .u32 X.d.n0, .int .u32 X.d.n1, .int .u32 X.d.n2, .int .u32 X.d.n3, .int .u32 X.d.n4])).run Try.prog W = .ok true W := fun W => by
    have h := rvRun W X X 9995
    rw [(rvB_iff X X).2 rfl] at h
    exact h
  have HPE := Lib.hid pe
  clear pe
  have hE0 : Has (w.alloc (.cells #[.int .u16 sz, .int .u8 hi, .int .u8 ve, .int .u16 fl, .string op] 28)) w.heap.size 28 #[.int .u16 sz, .int .u8 hi, .int .u8 ve, .int .u16 fl, .string op] := Has.fresh w _ _
  have HB0 := Lib.hid ((Below.refl w.heap.size w).alloc (Nat.le_refl _) (.cells #[.int .u16 sz, .int .u8 hi, .int .u8 ve, .int .u16 fl, .string op] 28))
  have HE0 := Lib.hid hE0
  clear hE0
  go_enter Try.func4, Try.ntmps4
  go_upto_region 3 with (first
    | (go_at_call 12
       refine (HR1.out _).mono ?_
       rintro e w1 ⟨rfl, B1⟩
       have HB1 := Lib.hid (HB0.out.trans (B1.mono HB0.out.size))
       have hE1 := (HE0.out.below B1 HE0.out.lt).alloc (.cells #[.string X.nm, .int .u16 X.ty, .int .u16 X.cl, .int .u32 X.ttl, .string X.d.raw, .string X.d.host, .string X.d.mail, .int .u32 X.d.n0, .int .u32 X.d.n1, .int .u32 X.d.n2, .int .u32 X.d.n3, .int .u32 X.d.n4] 41)
       have c0 : (w1.alloc (.cells #[.string X.nm, .int .u16 X.ty, .int .u16 X.cl, .int .u32 X.ttl, .string X.d.raw, .string X.d.host, .string X.d.mail, .int .u32 X.d.n0, .int .u32 X.d.n1, .int .u32 X.d.n2, .int .u32 X.d.n3, .int .u32 X.d.n4] 41)).cell? ⟨w.heap.size, 0, none⟩ = some (.int .u16 sz) := (by rw [hE1.cell]; rfl)
       have c1 : (w1.alloc (.cells #[.string X.nm, .int .u16 X.ty, .int .u16 X.cl, .int .u32 X.ttl, .string X.d.raw, .string X.d.host, .string X.d.mail, .int .u32 X.d.n0, .int .u32 X.d.n1, .int .u32 X.d.n2, .int .u32 X.d.n3, .int .u32 X.d.n4] 41)).cell? ⟨w.heap.size, 1, none⟩ = some (.int .u8 hi) := (by rw [hE1.cell]; rfl)
       have c2 : (w1.alloc (.cells #[.string X.nm, .int .u16 X.ty, .int .u16 X.cl, .int .u32 X.ttl, .string X.d.raw, .string X.d.host, .string X.d.mail, .int .u32 X.d.n0, .int .u32 X.d.n1, .int .u32 X.d.n2, .int .u32 X.d.n3, .int .u32 X.d.n4] 41)).cell? ⟨w.heap.size, 2, none⟩ = some (.int .u8 ve) := (by rw [hE1.cell]; rfl)
       have c3 : (w1.alloc (.cells #[.string X.nm, .int .u16 X.ty, .int .u16 X.cl, .int .u32 X.ttl, .string X.d.raw, .string X.d.host, .string X.d.mail, .int .u32 X.d.n0, .int .u32 X.d.n1, .int .u32 X.d.n2, .int .u32 X.d.n3, .int .u32 X.d.n4] 41)).cell? ⟨w.heap.size, 3, none⟩ = some (.int .u16 fl) := (by rw [hE1.cell]; rfl)
       have c4 : (w1.alloc (.cells #[.string X.nm, .int .u16 X.ty, .int .u16 X.cl, .int .u32 X.ttl, .string X.d.raw, .string X.d.host, .string X.d.mail, .int .u32 X.d.n0, .int .u32 X.d.n1, .int .u32 X.d.n2, .int .u32 X.d.n3, .int .u32 X.d.n4] 41)).cell? ⟨w.heap.size, 4, none⟩ = some (.string op) := (by rw [hE1.cell]; rfl)
       have HE1 := Lib.hid hE1
       clear B1 hE1)
    | (go_at_call 13
       refine (HR2.out _).mono ?_
       rintro e w2 ⟨rfl, B2⟩
       have HA2 := Lib.hid (((Has.fresh w1 41 #[.string X.nm, .int .u16 X.ty, .int .u16 X.cl, .int .u32 X.ttl, .string X.d.raw, .string X.d.host, .string X.d.mail, .int .u32 X.d.n0, .int .u32 X.d.n1, .int .u32 X.d.n2, .int .u32 X.d.n3, .int .u32 X.d.n4]).below B2 (by simp)).alloc (.cells #[.string X.nm, .int .u16 X.ty, .int .u16 X.cl, .int .u32 X.ttl, .string X.d.raw, .string X.d.host, .string X.d.mail, .int .u32 X.d.n0, .int .u32 X.d.n1, .int .u32 X.d.n2, .int .u32 X.d.n3, .int .u32 X.d.n4] 41))
       have HE2 := Lib.hid ((HE1.out.below B2 HE1.out.lt).alloc (.cells #[.string X.nm, .int .u16 X.ty, .int .u16 X.cl, .int .u32 X.ttl, .string X.d.raw, .string X.d.host, .string X.d.mail, .int .u32 X.d.n0, .int .u32 X.d.n1, .int .u32 X.d.n2, .int .u32 X.d.n3, .int .u32 X.d.n4] 41))
       have HN2 := Lib.hid (Has.fresh w2 41 #[.string X.nm, .int .u16 X.ty, .int .u16 X.cl, .int .u32 X.ttl, .string X.d.raw, .string X.d.host, .string X.d.mail, .int .u32 X.d.n0, .int .u32 X.d.n1, .int .u32 X.d.n2, .int .u32 X.d.n3, .int .u32 X.d.n4])
       have HB2 := Lib.hid (((HB1.out.alloc HB1.out.size (.cells #[.string X.nm, .int .u16 X.ty, .int .u16 X.cl, .int .u32 X.ttl, .string X.d.raw, .string X.d.host, .string X.d.mail, .int .u32 X.d.n0, .int .u32 X.d.n1, .int .u32 X.d.n2, .int .u32 X.d.n3, .int .u32 X.d.n4] 41)).trans (B2.mono (HB1.out.alloc HB1.out.size _).size)).alloc (by have h1 := HB1.out.size; have h2 := B2.size; simp at h2; omega) (.cells #[.string X.nm, .int .u16 X.ty, .int .u16 X.cl, .int .u32 X.ttl, .string X.d.raw, .string X.d.host, .string X.d.mail, .int .u32 X.d.n0, .int .u32 X.d.n1, .int .u32 X.d.n2, .int .u32 X.d.n3, .int .u32 X.d.n4] 41))
       clear B2 c0 c1 c2 c3 c4))
  clear HE0 HB0 HE1 HB1 HR1 HR2
  obtain ⟨gA, hgA⟩ : ∃ g, w1.heap.size = g := ⟨_, rfl⟩
  obtain ⟨gB, hgB⟩ : ∃ g, w2.heap.size = g := ⟨_, rfl⟩
  rw [hgA] at HA2 ⊢
  rw [hgB] at HN2 ⊢
  generalize w2.alloc (.cells #[.string X.nm, .int .u16 X.ty, .int .u16 X.cl, .int .u32 X.ttl, .string X.d.raw, .string X.d.host, .string X.d.mail, .int .u32 X.d.n0, .int .u32 X.d.n1, .int .u32 X.d.n2, .int .u32 X.d.n3, .int .u32 X.d.n4] 41) = wb at *
  clear hgA hgB
  have HW := Lib.hid (fun W : World => edWakes W)
  have HK := Lib.hid (fun (W : World) (hb : Below wb.heap.size wb W) => (show (W.cell? ⟨gA, 0, none⟩ = some (.string X.nm) ∧ W.cell? ⟨gA, 1, none⟩ = some (.int .u16 X.ty) ∧ W.cell? ⟨gA, 2, none⟩ = some (.int .u16 X.cl) ∧ W.cell? ⟨gA, 3, none⟩ = some (.int .u32 X.ttl) ∧ W.cell? ⟨gA, 4, none⟩ = some (.string X.d.raw) ∧ W.cell? ⟨gA, 5, none⟩ = some (.string X.d.host) ∧ W.cell? ⟨gA, 6, none⟩ = some (.string X.d.mail) ∧ W.cell? ⟨gA, 7, none⟩ = some (.int .u32 X.d.n0) ∧ W.cell? ⟨gA, 8, none⟩ = some (.int .u32 X.d.n1) ∧ W.cell? ⟨gA, 9, none⟩ = some (.int .u32 X.d.n2) ∧ W.cell? ⟨gA, 10, none⟩ = some (.int .u32 X.d.n3) ∧ W.cell? ⟨gA, 11, none⟩ = some (.int .u32 X.d.n4) ∧ W.cell? ⟨gB, 0, none⟩ = some (.string X.nm) ∧ W.cell? ⟨gB, 1, none⟩ = some (.int .u16 X.ty) ∧ W.cell? ⟨gB, 2, none⟩ = some (.int .u16 X.cl) ∧ W.cell? ⟨gB, 3, none⟩ = some (.int .u32 X.ttl) ∧ W.cell? ⟨gB, 4, none⟩ = some (.string X.d.raw) ∧ W.cell? ⟨gB, 5, none⟩ = some (.string X.d.host) ∧ W.cell? ⟨gB, 6, none⟩ = some (.string X.d.mail) ∧ W.cell? ⟨gB, 7, none⟩ = some (.int .u32 X.d.n0) ∧ W.cell? ⟨gB, 8, none⟩ = some (.int .u32 X.d.n1) ∧ W.cell? ⟨gB, 9, none⟩ = some (.int .u32 X.d.n2) ∧ W.cell? ⟨gB, 10, none⟩ = some (.int .u32 X.d.n3) ∧ W.cell? ⟨gB, 11, none⟩ = some (.int .u32 X.d.n4) ∧ W.cell? ⟨w.heap.size, 0, none⟩ = some (.int .u16 sz) ∧ W.cell? ⟨w.heap.size, 1, none⟩ = some (.int .u8 hi) ∧ W.cell? ⟨w.heap.size, 2, none⟩ = some (.int .u8 ve) ∧ W.cell? ⟨w.heap.size, 3, none⟩ = some (.int .u16 fl) ∧ W.cell? ⟨w.heap.size, 4, none⟩ = some (.string op)) ∧ Below wb.heap.size wb W from by
    have h1 := HA2.out.below hb HA2.out.lt
    have h2 := HN2.out.below hb HN2.out.lt
    have h3 := HE2.out.below hb HE2.out.lt
    exact ⟨⟨by rw [h1.cell]; rfl, by rw [h1.cell]; rfl, by rw [h1.cell]; rfl, by rw [h1.cell]; rfl, by rw [h1.cell]; rfl, by rw [h1.cell]; rfl, by rw [h1.cell]; rfl, by rw [h1.cell]; rfl, by rw [h1.cell]; rfl, by rw [h1.cell]; rfl, by rw [h1.cell]; rfl, by rw [h1.cell]; rfl, by rw [h2.cell]; rfl, by rw [h2.cell]; rfl, by rw [h2.cell]; rfl, by rw [h2.cell]; rfl, by rw [h2.cell]; rfl, by rw [h2.cell]; rfl, by rw [h2.cell]; rfl, by rw [h2.cell]; rfl, by rw [h2.cell]; rfl, by rw [h2.cell]; rfl, by rw [h2.cell]; rfl, by rw [h2.cell]; rfl, by rw [h3.cell]; rfl, by rw [h3.cell]; rfl, by rw [h3.cell]; rfl, by rw [h3.cell]; rfl, by rw [h3.cell]; rfl⟩, hb⟩))
  clear HA2 HN2 HE2
  have pe := HPE.out
  refine wp_region_noPanic ?_
  refine wp_region_held_drew (S := (fun W => (W.cell? ⟨gA, 0, none⟩ = some (.string X.nm) ∧ W.cell? ⟨gA, 1, none⟩ = some (.int .u16 X.ty) ∧ W.cell? ⟨gA, 2, none⟩ = some (.int .u16 X.cl) ∧ W.cell? ⟨gA, 3, none⟩ = some (.int .u32 X.ttl) ∧ W.cell? ⟨gA, 4, none⟩ = some (.string X.d.raw) ∧ W.cell? ⟨gA, 5, none⟩ = some (.string X.d.host) ∧ W.cell? ⟨gA, 6, none⟩ = some (.string X.d.mail) ∧ W.cell? ⟨gA, 7, none⟩ = some (.int .u32 X.d.n0) ∧ W.cell? ⟨gA, 8, none⟩ = some (.int .u32 X.d.n1) ∧ W.cell? ⟨gA, 9, none⟩ = some (.int .u32 X.d.n2) ∧ W.cell? ⟨gA, 10, none⟩ = some (.int .u32 X.d.n3) ∧ W.cell? ⟨gA, 11, none⟩ = some (.int .u32 X.d.n4) ∧ W.cell? ⟨gB, 0, none⟩ = some (.string X.nm) ∧ W.cell? ⟨gB, 1, none⟩ = some (.int .u16 X.ty) ∧ W.cell? ⟨gB, 2, none⟩ = some (.int .u16 X.cl) ∧ W.cell? ⟨gB, 3, none⟩ = some (.int .u32 X.ttl) ∧ W.cell? ⟨gB, 4, none⟩ = some (.string X.d.raw) ∧ W.cell? ⟨gB, 5, none⟩ = some (.string X.d.host) ∧ W.cell? ⟨gB, 6, none⟩ = some (.string X.d.mail) ∧ W.cell? ⟨gB, 7, none⟩ = some (.int .u32 X.d.n0) ∧ W.cell? ⟨gB, 8, none⟩ = some (.int .u32 X.d.n1) ∧ W.cell? ⟨gB, 9, none⟩ = some (.int .u32 X.d.n2) ∧ W.cell? ⟨gB, 10, none⟩ = some (.int .u32 X.d.n3) ∧ W.cell? ⟨gB, 11, none⟩ = some (.int .u32 X.d.n4) ∧ W.cell? ⟨w.heap.size, 0, none⟩ = some (.int .u16 sz) ∧ W.cell? ⟨w.heap.size, 1, none⟩ = some (.int .u8 hi) ∧ W.cell? ⟨w.heap.size, 2, none⟩ = some (.int .u8 ve) ∧ W.cell? ⟨w.heap.size, 3, none⟩ = some (.int .u16 fl) ∧ W.cell? ⟨w.heap.size, 4, none⟩ = some (.string op)) ∧ Below wb.heap.size wb W)) (by kernel_rfl) ?hax1 (fun hHeld => ?_)
  case hax1 =>
    try dsimp only
    (first | assumption | exact HK.out _ (Below.refl _ _).drew | exact HK.out _ HW1.out)
  refine wpAnyH_take (i := 0) (oi := { dst := some 21, op := Go.Op.load 41 (Go.Operand.tmp 7), type := 41, pos := "law.go:28", after := #[], guard := none }) (v := ?vax2) rfl (by kernel_rfl) (by kernel_rfl) (by kernel_rfl) (fun _ _ _ h => h) (Or.inl ⟨by rfl, ?hax2⟩) (by assumption) ?_
  case hax2 =>
    intro w hSw
    try dsimp only at hSw
    go_simp
    try with_reducible rfl
  try simp only [Act.put, List.setIfInBounds_toArray, List.set_cons_zero, List.set_cons_succ]
  refine wpAnyH_take (i := 1) (oi := { dst := some 22, op := Go.Op.load 41 (Go.Operand.tmp 9), type := 41, pos := "law.go:28", after := #[], guard := none }) (v := ?vax3) rfl (by kernel_rfl) (by kernel_rfl) (by kernel_rfl) (fun _ _ _ h => h) (Or.inl ⟨by rfl, ?hax3⟩) (by assumption) ?_
  case hax3 =>
    intro w hSw
    try dsimp only at hSw
    go_simp
    try with_reducible rfl
  try simp only [Act.put, List.setIfInBounds_toArray, List.set_cons_zero, List.set_cons_succ]
  refine wpAnyH_take (i := 2) (oi := { dst := some 23, op := Go.Op.binOp Go.BinOp.eql 41 (Go.Operand.tmp 21) (Go.Operand.tmp 22) 41, type := 4, pos := "law.go:28", after := #[{ on := 0, ground := Go.Ground.data }, { on := 1, ground := Go.Ground.data }], guard := none }) (v := ?vax4) rfl (by kernel_rfl) (by kernel_rfl) (by kernel_rfl) (fun _ _ _ h => h) (Or.inl ⟨by rfl, ?hax4⟩) (by assumption) ?_
  case hax4 =>
    intro w hSw
    try dsimp only at hSw
    go_simp
    try with_reducible rfl
  try simp only [Act.put, List.setIfInBounds_toArray, List.set_cons_zero, List.set_cons_succ]
  refine wpAnyH_take (i := 3) (oi := { dst := some 24, op := Go.Op.move (Go.Operand.tmp 23), type := 4, pos := "law.go:28", after := #[{ on := 2, ground := Go.Ground.data }], guard := none }) (v := ?vax5) rfl (by kernel_rfl) (by kernel_rfl) (by kernel_rfl) (fun _ _ _ h => h) (Or.inl ⟨by rfl, ?hax5⟩) (by assumption) ?_
  case hax5 =>
    intro w hSw
    try dsimp only at hSw
    go_simp
    try with_reducible rfl
  try simp only [Act.put, List.setIfInBounds_toArray, List.set_cons_zero, List.set_cons_succ]
  refine wpAnyH_take (i := 4) (oi := { dst := some 25, op := Go.Op.move (Go.Operand.tmp 8), type := 29, pos := "law.go:28", after := #[{ on := 3, ground := Go.Ground.guard }], guard := some (3, true) }) (v := ?vax6) rfl (by kernel_rfl) (by kernel_rfl) (by kernel_rfl) (fun _ _ _ h => h) (Or.inl ⟨by rfl, ?hax6⟩) (by assumption) ?_
  case hax6 =>
    intro w hSw
    try dsimp only at hSw
    go_simp
    try with_reducible rfl
  try simp only [Act.put, List.setIfInBounds_toArray, List.set_cons_zero, List.set_cons_succ]
  refine wpAnyH_take (i := 5) (oi := { dst := some 26, op := Go.Op.move (Go.Operand.tmp 10), type := 29, pos := "law.go:28", after := #[{ on := 3, ground := Go.Ground.guard }], guard := some (3, true) }) (v := ?vax7) rfl (by kernel_rfl) (by kernel_rfl) (by kernel_rfl) (fun _ _ _ h => h) (Or.inl ⟨by rfl, ?hax7⟩) (by assumption) ?_
  case hax7 =>
    intro w hSw
    try dsimp only at hSw
    go_simp
    try with_reducible rfl
  try simp only [Act.put, List.setIfInBounds_toArray, List.set_cons_zero, List.set_cons_succ]
  refine wpAnyH_take (i := 6) (oi := { dst := some 27, op := Go.Op.binOp Go.BinOp.eql 29 (Go.Operand.tmp 25) (Go.Operand.tmp 26) 29, type := 4, pos := "law.go:28", after := #[{ on := 4, ground := Go.Ground.data }, { on := 5, ground := Go.Ground.data }, { on := 3, ground := Go.Ground.guard }], guard := some (3, true) }) (v := ?vax8) rfl (by kernel_rfl) (by kernel_rfl) (by kernel_rfl) (fun _ _ _ h => h) (Or.inl ⟨by rfl, ?hax8⟩) (by assumption) ?_
  case hax8 =>
    intro w hSw
    try dsimp only at hSw
    go_simp
    try with_reducible rfl
  try simp only [Act.put, List.setIfInBounds_toArray, List.set_cons_zero, List.set_cons_succ]
  refine wpAnyH_take (i := 7) (oi := { dst := some 28, op := Go.Op.pick (Go.Operand.tmp 24) (Go.Operand.tmp 27) (Go.Operand.const (Go.Value.bool false)), type := 4, pos := "law.go:28", after := #[{ on := 3, ground := Go.Ground.data }, { on := 6, ground := Go.Ground.data }], guard := none }) (v := ?vax9) rfl (by kernel_rfl) (by kernel_rfl) (by kernel_rfl) (fun _ _ _ h => h) (Or.inl ⟨by rfl, ?hax9⟩) (by assumption) ?_
  case hax9 =>
    intro w hSw
    try dsimp only at hSw
    go_simp
    try with_reducible rfl
  try simp only [Act.put, List.setIfInBounds_toArray, List.set_cons_zero, List.set_cons_succ]
  refine wpAnyH_take (i := 8) (oi := { dst := some 29, op := Go.Op.move (Go.Operand.tmp 28), type := 4, pos := "law.go:28", after := #[{ on := 7, ground := Go.Ground.data }, { on := 3, ground := Go.Ground.chain }], guard := none }) (v := ?vax10) rfl (by kernel_rfl) (by kernel_rfl) (by kernel_rfl) (fun _ _ _ h => h) (Or.inl ⟨by rfl, ?hax10⟩) (by assumption) ?_
  case hax10 =>
    intro w hSw
    try dsimp only at hSw
    go_simp
    try with_reducible rfl
  try simp only [Act.put, List.setIfInBounds_toArray, List.set_cons_zero, List.set_cons_succ]
  refine wpAnyH_take (i := 9) (oi := { dst := some 30, op := Go.Op.move (Go.Operand.tmp 1), type := 4, pos := "law.go:28", after := #[{ on := 8, ground := Go.Ground.guard }], guard := some (8, true) }) (v := ?vax11) rfl (by kernel_rfl) (by kernel_rfl) (by kernel_rfl) (fun _ _ _ h => h) (Or.inl ⟨by rfl, ?hax11⟩) (by assumption) ?_
  case hax11 =>
    intro w hSw
    try dsimp only at hSw
    go_simp
    try with_reducible rfl
  try simp only [Act.put, List.setIfInBounds_toArray, List.set_cons_zero, List.set_cons_succ]
  refine wpAnyH_take (i := 10) (oi := { dst := some 31, op := Go.Op.load 28 (Go.Operand.tmp 3), type := 28, pos := "law.go:28", after := #[{ on := 8, ground := Go.Ground.guard }], guard := some (8, true) }) (v := ?vax12) rfl (by kernel_rfl) (by kernel_rfl) (by kernel_rfl) (fun _ _ _ h => h) (Or.inl ⟨by rfl, ?hax12⟩) (by assumption) ?_
  case hax12 =>
    intro w hSw
    try dsimp only at hSw
    go_simp
    try with_reducible rfl
  try simp only [Act.put, List.setIfInBounds_toArray, List.set_cons_zero, List.set_cons_succ]
  refine wpAnyH_take (i := 11) (oi := { dst := some 32, op := Go.Op.move (Go.Operand.tmp 2), type := 3, pos := "law.go:28", after := #[{ on := 8, ground := Go.Ground.guard }], guard := some (8, true) }) (v := ?vax13) rfl (by kernel_rfl) (by kernel_rfl) (by kernel_rfl) (fun _ _ _ h => h) (Or.inl ⟨by rfl, ?hax13⟩) (by assumption) ?_
  case hax13 =>
    intro w hSw
    try dsimp only at hSw
    go_simp
    try with_reducible rfl
  try simp only [Act.put, List.setIfInBounds_toArray, List.set_cons_zero, List.set_cons_succ]
  refine wpAnyH_take (i := 13) (oi := { dst := some 34, op := Go.Op.move (Go.Operand.tmp 1), type := 4, pos := "law.go:28", after := #[{ on := 8, ground := Go.Ground.guard }], guard := some (8, true) }) (v := ?vax14) rfl (by kernel_rfl) (by kernel_rfl) (by kernel_rfl) (fun _ _ _ h => h) (Or.inl ⟨by rfl, ?hax14⟩) (by assumption) ?_
  case hax14 =>
    intro w hSw
    try dsimp only at hSw
    go_simp
    try with_reducible rfl
  try simp only [Act.put, List.setIfInBounds_toArray, List.set_cons_zero, List.set_cons_succ]
  refine wpAnyH_take (i := 14) (oi := { dst := some 35, op := Go.Op.load 28 (Go.Operand.tmp 3), type := 28, pos := "law.go:28", after := #[{ on := 8, ground := Go.Ground.guard }], guard := some (8, true) }) (v := ?vax15) rfl (by kernel_rfl) (by kernel_rfl) (by kernel_rfl) (fun _ _ _ h => h) (Or.inl ⟨by rfl, ?hax15⟩) (by assumption) ?_
  case hax15 =>
    intro w hSw
    try dsimp only at hSw
    go_simp
    try with_reducible rfl
  try simp only [Act.put, List.setIfInBounds_toArray, List.set_cons_zero, List.set_cons_succ]
  refine wpAnyH_take (i := 15) (oi := { dst := some 36, op := Go.Op.move (Go.Operand.tmp 2), type := 3, pos := "law.go:28", after := #[{ on := 8, ground := Go.Ground.guard }], guard := some (8, true) }) (v := ?vax16) rfl (by kernel_rfl) (by kernel_rfl) (by kernel_rfl) (fun _ _ _ h => h) (Or.inl ⟨by rfl, ?hax16⟩) (by assumption) ?_
  case hax16 =>
    intro w hSw
    try dsimp only at hSw
    go_simp
    try with_reducible rfl
  try simp only [Act.put, List.setIfInBounds_toArray, List.set_cons_zero, List.set_cons_succ]
  refine wpAnyH_ready (rs := [12]) (by kernel_rfl) (by simp) ?_
  refine AllReadyH.cons (o := { dst := some 33, op := Go.Op.call { callee := Go.Callee.value (Go.Operand.func 14), args := #[Go.Operand.tmp 30, Go.Operand.tmp 31, Go.Operand.tmp 32], argTypes := #[4, 28, 3] }, type := 3, pos := "law.go:28", after := #[{ on := 9, ground := Go.Ground.data }, { on := 10, ground := Go.Ground.data }, { on := 11, ground := Go.Ground.data }, { on := 8, ground := Go.Ground.chain }, { on := 8, ground := Go.Ground.guard }], guard := some (8, true) }) rfl (fun K hK => ?_) AllReadyH.nil
  go_simp
  (first | (go_at_call 14; (with_reducible refine (HL1.out _).mono ?_); rintro e W1 ⟨rfl, B1⟩; have HW1 : Hid (Below wb.heap.size wb W1) := (by go_split_ands; exact below_on7 (by assumption) B1); clear B1) | (go_at_call 15; (with_reducible refine (HL2.out _).mono ?_); rintro e W1 ⟨rfl, B1⟩; have HW1 : Hid (Below wb.heap.size wb W1) := (by go_split_ands; exact below_on7 (by assumption) B1); clear B1) | (go_at_call 11; (with_reducible refine (HW.out _).mono ?_); rintro e W1 ⟨rfl, B1⟩; have HW1 : Hid (Below wb.heap.size wb W1) := (by go_split_ands; exact below_on7 (by assumption) B1); clear B1))
  try go_wp2_with fail
  refine hK.out _ _ ?hax17 (fun hHeld => ?_)
  case hax17 =>
    try dsimp only
    (first | assumption | exact HK.out _ (Below.refl _ _).drew | exact HK.out _ HW1.out)
  clear hK K
  try simp only [Act.put, List.setIfInBounds_toArray, List.set_cons_zero, List.set_cons_succ]
  refine wpAnyH_ready (rs := [16]) (by kernel_rfl) (by simp) ?_
  refine AllReadyH.cons (o := { dst := some 37, op := Go.Op.call { callee := Go.Callee.value (Go.Operand.func 15), args := #[Go.Operand.tmp 34, Go.Operand.tmp 35, Go.Operand.tmp 36], argTypes := #[4, 28, 3] }, type := 3, pos := "law.go:28", after := #[{ on := 13, ground := Go.Ground.data }, { on := 14, ground := Go.Ground.data }, { on := 15, ground := Go.Ground.data }, { on := 12, ground := Go.Ground.chain }, { on := 8, ground := Go.Ground.guard }], guard := some (8, true) }) rfl (fun K hK => ?_) AllReadyH.nil
  go_simp
  (first | (go_at_call 14; (with_reducible refine (HL1.out _).mono ?_); rintro e W1 ⟨rfl, B1⟩; have HW1 : Hid (Below wb.heap.size wb W1) := (by go_split_ands; exact below_on7 (by assumption) B1); clear B1) | (go_at_call 15; (with_reducible refine (HL2.out _).mono ?_); rintro e W1 ⟨rfl, B1⟩; have HW1 : Hid (Below wb.heap.size wb W1) := (by go_split_ands; exact below_on7 (by assumption) B1); clear B1) | (go_at_call 11; (with_reducible refine (HW.out _).mono ?_); rintro e W1 ⟨rfl, B1⟩; have HW1 : Hid (Below wb.heap.size wb W1) := (by go_split_ands; exact below_on7 (by assumption) B1); clear B1))
  try go_wp2_with fail
  refine hK.out _ _ ?hax18 (fun hHeld => ?_)
  case hax18 =>
    try dsimp only
    (first | assumption | exact HK.out _ (Below.refl _ _).drew | exact HK.out _ HW1.out)
  clear hK K
  try simp only [Act.put, List.setIfInBounds_toArray, List.set_cons_zero, List.set_cons_succ]
  refine wpAnyH_take (i := 17) (oi := { dst := some 38, op := Go.Op.binOp Go.BinOp.eql 3 (Go.Operand.tmp 33) (Go.Operand.tmp 37) 3, type := 4, pos := "law.go:28", after := #[{ on := 12, ground := Go.Ground.data }, { on := 16, ground := Go.Ground.data }, { on := 8, ground := Go.Ground.guard }], guard := some (8, true) }) (v := ?vax19) rfl (by kernel_rfl) (by kernel_rfl) (by kernel_rfl) (fun _ _ _ h => h) (Or.inl ⟨by rfl, ?hax19⟩) (by assumption) ?_
  case hax19 =>
    intro w hSw
    try dsimp only at hSw
    go_simp
    try with_reducible rfl
  try simp only [Act.put, List.setIfInBounds_toArray, List.set_cons_zero, List.set_cons_succ]
  refine wpAnyH_take (i := 18) (oi := { dst := some 39, op := Go.Op.pick (Go.Operand.tmp 29) (Go.Operand.tmp 38) (Go.Operand.const (Go.Value.bool false)), type := 4, pos := "law.go:28", after := #[{ on := 8, ground := Go.Ground.data }, { on := 17, ground := Go.Ground.data }], guard := none }) (v := ?vax20) rfl (by kernel_rfl) (by kernel_rfl) (by kernel_rfl) (fun _ _ _ h => h) (Or.inl ⟨by rfl, ?hax20⟩) (by assumption) ?_
  case hax20 =>
    intro w hSw
    try dsimp only at hSw
    go_simp
    try with_reducible rfl
  try simp only [Act.put, List.setIfInBounds_toArray, List.set_cons_zero, List.set_cons_succ]
  refine wpAnyH_take (i := 19) (oi := { dst := some 40, op := Go.Op.move (Go.Operand.tmp 39), type := 4, pos := "law.go:28", after := #[{ on := 18, ground := Go.Ground.data }, { on := 16, ground := Go.Ground.chain }], guard := none }) (v := ?vax21) rfl (by kernel_rfl) (by kernel_rfl) (by kernel_rfl) (fun _ _ _ h => h) (Or.inl ⟨by rfl, ?hax21⟩) (by assumption) ?_
  case hax21 =>
    intro w hSw
    try dsimp only at hSw
    go_simp
    try with_reducible rfl
  try simp only [Act.put, List.setIfInBounds_toArray, List.set_cons_zero, List.set_cons_succ]
  refine wpAnyH_ready (rs := [20]) (by kernel_rfl) (by simp) ?_
  refine AllReadyH.cons (o := { dst := some 41, op := Go.Op.call { callee := Go.Callee.value (Go.Operand.func 11), args := #[], argTypes := #[] }, type := 4, pos := "law.go:28", after := #[{ on := 19, ground := Go.Ground.chain }, { on := 19, ground := Go.Ground.guard }], guard := some (19, true) }) rfl (fun K hK => ?_) AllReadyH.nil
  go_simp
  (first | (go_at_call 14; (with_reducible refine (HL1.out _).mono ?_); rintro e W1 ⟨rfl, B1⟩; have HW1 : Hid (Below wb.heap.size wb W1) := (by go_split_ands; exact below_on7 (by assumption) B1); clear B1) | (go_at_call 15; (with_reducible refine (HL2.out _).mono ?_); rintro e W1 ⟨rfl, B1⟩; have HW1 : Hid (Below wb.heap.size wb W1) := (by go_split_ands; exact below_on7 (by assumption) B1); clear B1) | (go_at_call 11; (with_reducible refine (HW.out _).mono ?_); rintro e W1 ⟨rfl, B1⟩; have HW1 : Hid (Below wb.heap.size wb W1) := (by go_split_ands; exact below_on7 (by assumption) B1); clear B1))
  try go_wp2_with fail
  refine hK.out _ _ ?hax22 (fun hHeld => ?_)
  case hax22 =>
    try dsimp only
    (first | assumption | exact HK.out _ (Below.refl _ _).drew | exact HK.out _ HW1.out)
  clear hK K
  try simp only [Act.put, List.setIfInBounds_toArray, List.set_cons_zero, List.set_cons_succ]
  refine wpAnyH_take (i := 21) (oi := { dst := some 42, op := Go.Op.pick (Go.Operand.tmp 40) (Go.Operand.tmp 41) (Go.Operand.const (Go.Value.bool false)), type := 4, pos := "law.go:28", after := #[{ on := 19, ground := Go.Ground.data }, { on := 20, ground := Go.Ground.data }], guard := none }) (v := ?vax23) rfl (by kernel_rfl) (by kernel_rfl) (by kernel_rfl) (fun _ _ _ h => h) (Or.inl ⟨by rfl, ?hax23⟩) (by assumption) ?_
  case hax23 =>
    intro w hSw
    try dsimp only at hSw
    go_simp
    try with_reducible rfl
  try simp only [Act.put, List.setIfInBounds_toArray, List.set_cons_zero, List.set_cons_succ]
  refine wpAnyH_take (i := 22) (oi := { dst := some 6, op := Go.Op.assign (Go.Operand.tmp 42), type := 4, pos := "law.go:28", after := #[{ on := 21, ground := Go.Ground.data }, { on := 20, ground := Go.Ground.chain }, { on := 0, ground := Go.Ground.phase }, { on := 1, ground := Go.Ground.phase }, { on := 2, ground := Go.Ground.phase }, { on := 3, ground := Go.Ground.phase }, { on := 4, ground := Go.Ground.phase }, { on := 5, ground := Go.Ground.phase }, { on := 6, ground := Go.Ground.phase }, { on := 7, ground := Go.Ground.phase }, { on := 8, ground := Go.Ground.phase }, { on := 9, ground := Go.Ground.phase }, { on := 10, ground := Go.Ground.phase }, { on := 11, ground := Go.Ground.phase }, { on := 12, ground := Go.Ground.phase }, { on := 13, ground := Go.Ground.phase }, { on := 14, ground := Go.Ground.phase }, { on := 15, ground := Go.Ground.phase }, { on := 16, ground := Go.Ground.phase }, { on := 17, ground := Go.Ground.phase }, { on := 18, ground := Go.Ground.phase }, { on := 19, ground := Go.Ground.phase }, { on := 20, ground := Go.Ground.phase }, { on := 21, ground := Go.Ground.phase }], guard := none }) (v := ?vax24) rfl (by kernel_rfl) (by kernel_rfl) (by kernel_rfl) (fun _ _ _ h => h) (Or.inl ⟨by rfl, ?hax24⟩) (by assumption) ?_
  case hax24 =>
    intro w hSw
    try dsimp only at hSw
    go_simp
    try with_reducible rfl
  try simp only [Act.put, List.setIfInBounds_toArray, List.set_cons_zero, List.set_cons_succ]
  refine wpAnyH_done (by kernel_rfl) ?_ _
  refine NoPanic.normal ?_
  all_goals
    (go_wp2
     go_ret
     exact ⟨rfl, HB2.out.trans (HW1.out.mono HB2.out.size)⟩)
end Go.Proofs.Ytnpimahgdhpmfaa
