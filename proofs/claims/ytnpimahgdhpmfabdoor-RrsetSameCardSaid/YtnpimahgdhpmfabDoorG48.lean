/- Texts of the proofs, merged. -/
import Derived.Test.YtnpimahgdhpmfabDoorG46
import Derived.Test.YtnpimahgdhpmfabDoorG7
import Derived.Deep.RegionHeld3
import Derived.BigQuiet
import Derived.Test.YtnpimahgdhpmfabDoorG33
import Derived.Test.YtnpimahgdhpmfabDoorG21
import Derived.Test.YtnpimahgdhpmfabDoorG36
import Derived.Test.YtnpimahgdhpmfabDoorG37
import Derived.Test.YtnpimahgdhpmfabDoorG40
/- Alike: are two records alike, as the document says. -/
namespace Go.Proofs.YtnpimahgdhpmfabDoor
open Go.RowKit

def kvB (a b : Kv) : Bool := (a.nm.toList == b.nm.toList) && (((a.ty : Int) == b.ty) && ((a.cl : Int) == b.cl))
def Kv.cells (k : Kv) : Array Value := #[.string k.nm, .int .u16 k.ty, .int .u16 k.cl]
set_option maxRecDepth 100000 in
theorem kvRun (W : World) (a b : Kv) (d : Nat) : (Op.equalIn (d + 5) 31 (.agg a.cells) (.agg b.cells)).run Tryd.prog W = .ok (kvB a b) W := by
  rw [run_equalIn_agg W (d + 4) _ _ _ (by kernel_rfl) Tryd.stoodInHeld31]
  have hf : (Tryd.prog.fieldsOf 31).toList.map (fun f => (f.name != "_", f.type, f.offset)) = [(true, 22, 0), (true, 23, 1), (true, 23, 2)] := by kernel_rfl
  have hlen : (Tryd.prog.fieldsOf 31).toList.length = 3 := by kernel_rfl
  generalize (Tryd.prog.fieldsOf 31).toList = fs at *
  match fs, hlen, hf with
  | [f0, f1, f2], _, hf =>
    simp only [List.map_cons, List.map_nil, List.cons.injEq, Prod.mk.injEq] at hf
    obtain ⟨⟨n0, t0, o0⟩, ⟨n1, t1, o1⟩, ⟨n2, t2, o2⟩, _⟩ := hf
    have p0 : ∀ x : Kv, (part 22 x.cells 0).run Tryd.prog W = .ok (.string x.nm) W := fun _ => rfl
    have p1 : ∀ x : Kv, (part 23 x.cells 1).run Tryd.prog W = .ok (.int .u16 x.ty) W := fun _ => rfl
    have p2 : ∀ x : Kv, (part 23 x.cells 2).run Tryd.prog W = .ok (.int .u16 x.cl) W := fun _ => rfl
    have m0 : ¬ (f0.name = "_") := by simpa using n0
    have m1 : ¬ (f1.name = "_") := by simpa using n1
    have m2 : ¬ (f2.name = "_") := by simpa using n2
    have st : ∀ (f : Field) (va vb : Value) (x y : Bool) (fs : List Field), ¬ (f.name = "_") → (part f.type a.cells f.offset).run Tryd.prog W = .ok va W → (part f.type b.cells f.offset).run Tryd.prog W = .ok vb W →
        (Op.equalIn (d + 4) f.type va vb).run Tryd.prog W = .ok x W → (Op.eqFields (d + 4) a.cells b.cells fs).run Tryd.prog W = .ok y W → (Op.eqFields (d + 4) a.cells b.cells (f :: fs)).run Tryd.prog W = .ok (x && y) W := fun f va vb x y fs hn ha hb he hr => by
      simp only [Op.eqFields, ne_eq, hn, not_false_eq_true, if_true, Sem.run_bind, ha, hb, he, Result.andThen_ok]
      exact and_run W (fun _ => Op.eqFields (d + 4) a.cells b.cells fs) _ hr
    have h2 := st f2 _ _ _ true [] m2 (by rw [t2, o2]; exact p2 a) (by rw [t2, o2]; exact p2 b) (by rw [t2]; exact run_equalIn_int W _ _ _ _ _ _ Tryd.underlying23) rfl
    rw [Bool.and_true] at h2
    exact st f0 _ _ _ _ _ m0 (by rw [t0, o0]; exact p0 a) (by rw [t0, o0]; exact p0 b) (by rw [t0]; exact run_equalIn_string W _ _ _ _ Tryd.underlying22)
      (st f1 _ _ _ _ _ m1 (by rw [t1, o1]; exact p1 a) (by rw [t1, o1]; exact p1 b) (by rw [t1]; exact run_equalIn_int W _ _ _ _ _ _ Tryd.underlying23) h2)
theorem kvB_iff (a b : Kv) : kvB a b = true ↔ a = b := by
  obtain ⟨nm, ty, cl⟩ := a
  obtain ⟨nm', ty', cl'⟩ := b
  unfold kvB
  rw [strB]
  simp only [Bool.and_eq_true, decide_eq_true_eq, beq_iff_eq, Kv.mk.injEq, Int.ofNat_inj]
/-- are two records alike? -/
def alB (a b : Rv) : Bool := kvB a.fold.kv b.fold.kv && dvB a.fold.d b.fold.d
theorem alB_iff (a b : Rv) : alB a b = true ↔ a.fold.kv = b.fold.kv ∧ a.fold.d = b.fold.d := by
  unfold alB
  rw [Bool.and_eq_true, kvB_iff, dvB_iff]
set_option maxHeartbeats 8000000 in
set_option maxRecDepth 1000000 in
theorem alike5_any (a b : Rv) (w : World) (ha : a.fits ∧ a.near) (hb : b.fits ∧ b.near) :
    Calls Tryd.prog 64 #[.agg a.cells, .agg b.cells] w fun e w' => e = .returned (.bool (alB a b)) ∧ Below w.heap.size w w' := by
  have sa := ha.2.short
  have sb := hb.2.short
  have H1 := Lib.hid (fun W : World => (show Calls Tryd.prog 28 #[.agg a.cells] W (fun e w' => e = .returned (.agg a.fold.kv.cells) ∧ Below W.heap.size W w') from keyOfR_any a W sa))
  have H2 := Lib.hid (fun W : World => (show Calls Tryd.prog 28 #[.agg b.cells] W (fun e w' => e = .returned (.agg b.fold.kv.cells) ∧ Below W.heap.size W w') from keyOfR_any b W sb))
  have H4 := Lib.hid (fun W : World => (show Calls Tryd.prog 29 #[.agg a.cells] W (fun e w' => e = .returned (.agg a.fold.cells) ∧ Below W.heap.size W w') from r5Fold_any a W ha.1.1 sa))
  have H5 := Lib.hid (fun W : World => (show Calls Tryd.prog 29 #[.agg b.cells] W (fun e w' => e = .returned (.agg b.fold.cells) ∧ Below W.heap.size W w') from r5Fold_any b W hb.1.1 sb))
  have hf1 := field_data a.fold
  have hf2 := field_data b.fold
  have pk : ∀ W, (Op.equalIn 10000 31 (.agg a.fold.kv.cells) (.agg b.fold.kv.cells)).run Tryd.prog W = .ok (kvB a.fold.kv b.fold.kv) W := fun W => kvRun W _ _ 9995
  have pd : ∀ W, (Op.equalIn 10000 27 (.agg a.fold.d.cells) (.agg b.fold.d.cells)).run Tryd.prog W = .ok (dvB a.fold.d b.fold.d) W := fun W => dvRun W _ _ 9996
  have HAL : Hid (alB a b = (kvB a.fold.kv b.fold.kv && dvB a.fold.d b.fold.d)) := rfl
  clear ha hb sa sb
  generalize alB a b = al at *
  generalize kvB a.fold.kv b.fold.kv = q1 at *
  generalize dvB a.fold.d b.fold.d = q2 at *
  generalize a.fold.kv.cells = KA at *
  generalize b.fold.kv.cells = KB at *
  generalize a.fold.d.cells = XD at *
  generalize b.fold.d.cells = YD at *
  generalize a.fold.cells = XC at *
  generalize b.fold.cells = YC at *
  have HA : Has ((w.alloc (.cells a.cells 29)).alloc (.cells b.cells 29)) w.heap.size 29 a.cells := (Has.fresh w _ _).alloc _
  have HBx : Has ((w.alloc (.cells a.cells 29)).alloc (.cells b.cells 29)) (w.heap.size + 1) 29 b.cells := by
    have h := Has.fresh (w.alloc (.cells a.cells 29)) 29 b.cells
    rw [World.size_alloc] at h
    exact h
  have hB0 : Below w.heap.size w ((w.alloc (.cells a.cells 29)).alloc (.cells b.cells 29)) := ((Below.refl _ _).alloc (Nat.le_refl _) _).alloc (by simp) _
  obtain ⟨anm, aty, acl, attl, ara, aho, ama, an0, an1, an2, an3, an4⟩ := a
  obtain ⟨bnm, bty, bcl, bttl, bra, bho, bma, bn0, bn1, bn2, bn3, bn4⟩ := b
  dsimp only [Rv.val, Rv.cells] at *
  generalize hw0 : (w.alloc (.cells #[.string anm, .int .u16 aty, .int .u16 acl, .int .u32 attl, .string ara, .string aho, .string ama, .int .u32 an0, .int .u32 an1, .int .u32 an2, .int .u32 an3, .int .u32 an4] 29)).alloc (.cells #[.string bnm, .int .u16 bty, .int .u16 bcl, .int .u32 bttl, .string bra, .string bho, .string bma, .int .u32 bn0, .int .u32 bn1, .int .u32 bn2, .int .u32 bn3, .int .u32 bn4] 29) = w0 at *
  have HW0 := Lib.hid hw0
  have HB0 := Lib.hid hB0
  clear hw0 hB0
  have HK := Lib.hid (fun (W : World) (hb : Below w0.heap.size w0 W) => (show (W.cell? ⟨w.heap.size, 0, none⟩ = some (.string anm) ∧ W.cell? ⟨w.heap.size, 1, none⟩ = some (.int .u16 aty) ∧ W.cell? ⟨w.heap.size, 2, none⟩ = some (.int .u16 acl) ∧ W.cell? ⟨w.heap.size, 3, none⟩ = some (.int .u32 attl) ∧ W.cell? ⟨w.heap.size, 4, none⟩ = some (.string ara) ∧ W.cell? ⟨w.heap.size, 5, none⟩ = some (.string aho) ∧ W.cell? ⟨w.heap.size, 6, none⟩ = some (.string ama) ∧ W.cell? ⟨w.heap.size, 7, none⟩ = some (.int .u32 an0) ∧ W.cell? ⟨w.heap.size, 8, none⟩ = some (.int .u32 an1) ∧ W.cell? ⟨w.heap.size, 9, none⟩ = some (.int .u32 an2) ∧ W.cell? ⟨w.heap.size, 10, none⟩ = some (.int .u32 an3) ∧ W.cell? ⟨w.heap.size, 11, none⟩ = some (.int .u32 an4) ∧ W.cell? ⟨w.heap.size + 1, 0, none⟩ = some (.string bnm) ∧ W.cell? ⟨w.heap.size + 1, 1, none⟩ = some (.int .u16 bty) ∧ W.cell? ⟨w.heap.size + 1, 2, none⟩ = some (.int .u16 bcl) ∧ W.cell? ⟨w.heap.size + 1, 3, none⟩ = some (.int .u32 bttl) ∧ W.cell? ⟨w.heap.size + 1, 4, none⟩ = some (.string bra) ∧ W.cell? ⟨w.heap.size + 1, 5, none⟩ = some (.string bho) ∧ W.cell? ⟨w.heap.size + 1, 6, none⟩ = some (.string bma) ∧ W.cell? ⟨w.heap.size + 1, 7, none⟩ = some (.int .u32 bn0) ∧ W.cell? ⟨w.heap.size + 1, 8, none⟩ = some (.int .u32 bn1) ∧ W.cell? ⟨w.heap.size + 1, 9, none⟩ = some (.int .u32 bn2) ∧ W.cell? ⟨w.heap.size + 1, 10, none⟩ = some (.int .u32 bn3) ∧ W.cell? ⟨w.heap.size + 1, 11, none⟩ = some (.int .u32 bn4)) ∧ Below w0.heap.size w0 W from by
    have h1 := HA.below hb HA.lt
    have h2 := HBx.below hb HBx.lt
    exact ⟨⟨by rw [h1.cell]; rfl, by rw [h1.cell]; rfl, by rw [h1.cell]; rfl, by rw [h1.cell]; rfl, by rw [h1.cell]; rfl, by rw [h1.cell]; rfl, by rw [h1.cell]; rfl, by rw [h1.cell]; rfl, by rw [h1.cell]; rfl, by rw [h1.cell]; rfl, by rw [h1.cell]; rfl, by rw [h1.cell]; rfl, by rw [h2.cell]; rfl, by rw [h2.cell]; rfl, by rw [h2.cell]; rfl, by rw [h2.cell]; rfl, by rw [h2.cell]; rfl, by rw [h2.cell]; rfl, by rw [h2.cell]; rfl, by rw [h2.cell]; rfl, by rw [h2.cell]; rfl, by rw [h2.cell]; rfl, by rw [h2.cell]; rfl, by rw [h2.cell]; rfl⟩, hb⟩))
  clear HA HBx
  have hal := HAL.out
  subst hal
  clear HAL
  cases q1
  · clear hf1 hf2 pd
    go_enter Tryd.func64, Tryd.ntmps64
    go_upto_region 1 with fail
    rw [HW0.out]
    clear HW0
    have hk := HK.out _ (Below.refl _ w0).drew
    go_split_ands
    go_region_with (first
      | (go_at_call_of 28 (Value.agg #[.string anm, .int .u16 aty, .int .u16 acl, .int .u32 attl, .string ara, .string aho, .string ama, .int .u32 an0, .int .u32 an1, .int .u32 an2, .int .u32 an3, .int .u32 an4]); (with_reducible refine (H1.out _).mono ?_); rintro e W1 ⟨rfl, B1⟩; first | (have HX2 : Hid (Below w0.heap.size w0 W1) := below_r5 HX1.out B1; have hk := HK.out _ HX2.out) | (have HX1 : Hid (Below w0.heap.size w0 W1) := below_r5 (Below.refl _ w0).drew B1; have hk := HK.out _ HX1.out); clear B1; go_split_ands)
      | (go_at_call_of 28 (Value.agg #[.string bnm, .int .u16 bty, .int .u16 bcl, .int .u32 bttl, .string bra, .string bho, .string bma, .int .u32 bn0, .int .u32 bn1, .int .u32 bn2, .int .u32 bn3, .int .u32 bn4]); (with_reducible refine (H2.out _).mono ?_); rintro e W1 ⟨rfl, B1⟩; first | (have HX2 : Hid (Below w0.heap.size w0 W1) := below_r5 HX1.out B1; have hk := HK.out _ HX2.out) | (have HX1 : Hid (Below w0.heap.size w0 W1) := below_r5 (Below.refl _ w0).drew B1; have hk := HK.out _ HX1.out); clear B1; go_split_ands))
    all_goals
      (go_wp2
       go_ret
       exact ⟨rfl, HB0.out.trans (HX2.out.mono HB0.out.size)⟩)
  · go_enter Tryd.func64, Tryd.ntmps64
    go_upto_region 1 with fail
    rw [HW0.out]
    clear HW0
    refine wp_region_noPanic ?_
    refine wp_region_held_drew (S := (fun W => (W.cell? ⟨w.heap.size, 0, none⟩ = some (.string anm) ∧ W.cell? ⟨w.heap.size, 1, none⟩ = some (.int .u16 aty) ∧ W.cell? ⟨w.heap.size, 2, none⟩ = some (.int .u16 acl) ∧ W.cell? ⟨w.heap.size, 3, none⟩ = some (.int .u32 attl) ∧ W.cell? ⟨w.heap.size, 4, none⟩ = some (.string ara) ∧ W.cell? ⟨w.heap.size, 5, none⟩ = some (.string aho) ∧ W.cell? ⟨w.heap.size, 6, none⟩ = some (.string ama) ∧ W.cell? ⟨w.heap.size, 7, none⟩ = some (.int .u32 an0) ∧ W.cell? ⟨w.heap.size, 8, none⟩ = some (.int .u32 an1) ∧ W.cell? ⟨w.heap.size, 9, none⟩ = some (.int .u32 an2) ∧ W.cell? ⟨w.heap.size, 10, none⟩ = some (.int .u32 an3) ∧ W.cell? ⟨w.heap.size, 11, none⟩ = some (.int .u32 an4) ∧ W.cell? ⟨w.heap.size + 1, 0, none⟩ = some (.string bnm) ∧ W.cell? ⟨w.heap.size + 1, 1, none⟩ = some (.int .u16 bty) ∧ W.cell? ⟨w.heap.size + 1, 2, none⟩ = some (.int .u16 bcl) ∧ W.cell? ⟨w.heap.size + 1, 3, none⟩ = some (.int .u32 bttl) ∧ W.cell? ⟨w.heap.size + 1, 4, none⟩ = some (.string bra) ∧ W.cell? ⟨w.heap.size + 1, 5, none⟩ = some (.string bho) ∧ W.cell? ⟨w.heap.size + 1, 6, none⟩ = some (.string bma) ∧ W.cell? ⟨w.heap.size + 1, 7, none⟩ = some (.int .u32 bn0) ∧ W.cell? ⟨w.heap.size + 1, 8, none⟩ = some (.int .u32 bn1) ∧ W.cell? ⟨w.heap.size + 1, 9, none⟩ = some (.int .u32 bn2) ∧ W.cell? ⟨w.heap.size + 1, 10, none⟩ = some (.int .u32 bn3) ∧ W.cell? ⟨w.heap.size + 1, 11, none⟩ = some (.int .u32 bn4)) ∧ Below w0.heap.size w0 W)) (by kernel_rfl) ?hax1 (fun hHeld => ?_)
    case hax1 =>
      try dsimp only
      (first | assumption | exact HK.out _ (Below.refl _ _).drew | exact HK.out _ HW1.out)
    refine wpAnyH_take (i := 0) (oi := { dst := some 5, op := Go.Op.load 29 (Go.Operand.tmp 2), type := 29, pos := "ref.go:145", after := #[], guard := none }) (v := ?vax2) rfl (by kernel_rfl) (by kernel_rfl) (by kernel_rfl) (fun _ _ _ h => h) (Or.inl ⟨by rfl, ?hax2⟩) (by assumption) ?_
    case hax2 =>
      intro w hSw
      try dsimp only at hSw
      go_simp
      try with_reducible rfl
    try simp only [Act.put, List.setIfInBounds_toArray, List.set_cons_zero, List.set_cons_succ]
    refine wpAnyH_take (i := 2) (oi := { dst := some 7, op := Go.Op.load 29 (Go.Operand.tmp 3), type := 29, pos := "ref.go:145", after := #[], guard := none }) (v := ?vax3) rfl (by kernel_rfl) (by kernel_rfl) (by kernel_rfl) (fun _ _ _ h => h) (Or.inl ⟨by rfl, ?hax3⟩) (by assumption) ?_
    case hax3 =>
      intro w hSw
      try dsimp only at hSw
      go_simp
      try with_reducible rfl
    try simp only [Act.put, List.setIfInBounds_toArray, List.set_cons_zero, List.set_cons_succ]
    refine wpAnyH_ready (rs := [1]) (by kernel_rfl) (by simp) ?_
    refine AllReadyH.cons (o := { dst := some 6, op := Go.Op.call { callee := Go.Callee.value (Go.Operand.func 28), args := #[Go.Operand.tmp 5], argTypes := #[29] }, type := 31, pos := "ref.go:145", after := #[{ on := 0, ground := Go.Ground.data }], guard := none }) rfl (fun K hK => ?_) AllReadyH.nil
    go_simp
    (first | (go_at_call_of 28 (Value.agg #[.string anm, .int .u16 aty, .int .u16 acl, .int .u32 attl, .string ara, .string aho, .string ama, .int .u32 an0, .int .u32 an1, .int .u32 an2, .int .u32 an3, .int .u32 an4]); (with_reducible refine (H1.out _).mono ?_); rintro e W1 ⟨rfl, B1⟩; have HW1 : Hid (Below w0.heap.size w0 W1) := (by go_split_ands; exact below_r5 (by assumption) B1); clear B1) | (go_at_call_of 28 (Value.agg #[.string bnm, .int .u16 bty, .int .u16 bcl, .int .u32 bttl, .string bra, .string bho, .string bma, .int .u32 bn0, .int .u32 bn1, .int .u32 bn2, .int .u32 bn3, .int .u32 bn4]); (with_reducible refine (H2.out _).mono ?_); rintro e W1 ⟨rfl, B1⟩; have HW1 : Hid (Below w0.heap.size w0 W1) := (by go_split_ands; exact below_r5 (by assumption) B1); clear B1) | (go_at_call_of 29 (Value.agg #[.string anm, .int .u16 aty, .int .u16 acl, .int .u32 attl, .string ara, .string aho, .string ama, .int .u32 an0, .int .u32 an1, .int .u32 an2, .int .u32 an3, .int .u32 an4]); (with_reducible refine (H4.out _).mono ?_); rintro e W1 ⟨rfl, B1⟩; have HW1 : Hid (Below w0.heap.size w0 W1) := (by go_split_ands; exact below_r5 (by assumption) B1); clear B1) | (go_at_call_of 29 (Value.agg #[.string bnm, .int .u16 bty, .int .u16 bcl, .int .u32 bttl, .string bra, .string bho, .string bma, .int .u32 bn0, .int .u32 bn1, .int .u32 bn2, .int .u32 bn3, .int .u32 bn4]); (with_reducible refine (H5.out _).mono ?_); rintro e W1 ⟨rfl, B1⟩; have HW1 : Hid (Below w0.heap.size w0 W1) := (by go_split_ands; exact below_r5 (by assumption) B1); clear B1))
    try go_wp2_with fail
    refine hK.out _ _ ?hax4 (fun hHeld => ?_)
    case hax4 =>
      try dsimp only
      (first | assumption | exact HK.out _ (Below.refl _ _).drew | exact HK.out _ HW1.out)
    clear hK K
    try simp only [Act.put, List.setIfInBounds_toArray, List.set_cons_zero, List.set_cons_succ]
    refine wpAnyH_ready (rs := [3]) (by kernel_rfl) (by simp) ?_
    refine AllReadyH.cons (o := { dst := some 8, op := Go.Op.call { callee := Go.Callee.value (Go.Operand.func 28), args := #[Go.Operand.tmp 7], argTypes := #[29] }, type := 31, pos := "ref.go:145", after := #[{ on := 2, ground := Go.Ground.data }, { on := 1, ground := Go.Ground.chain }], guard := none }) rfl (fun K hK => ?_) AllReadyH.nil
    go_simp
    (first | (go_at_call_of 28 (Value.agg #[.string anm, .int .u16 aty, .int .u16 acl, .int .u32 attl, .string ara, .string aho, .string ama, .int .u32 an0, .int .u32 an1, .int .u32 an2, .int .u32 an3, .int .u32 an4]); (with_reducible refine (H1.out _).mono ?_); rintro e W1 ⟨rfl, B1⟩; have HW1 : Hid (Below w0.heap.size w0 W1) := (by go_split_ands; exact below_r5 (by assumption) B1); clear B1) | (go_at_call_of 28 (Value.agg #[.string bnm, .int .u16 bty, .int .u16 bcl, .int .u32 bttl, .string bra, .string bho, .string bma, .int .u32 bn0, .int .u32 bn1, .int .u32 bn2, .int .u32 bn3, .int .u32 bn4]); (with_reducible refine (H2.out _).mono ?_); rintro e W1 ⟨rfl, B1⟩; have HW1 : Hid (Below w0.heap.size w0 W1) := (by go_split_ands; exact below_r5 (by assumption) B1); clear B1) | (go_at_call_of 29 (Value.agg #[.string anm, .int .u16 aty, .int .u16 acl, .int .u32 attl, .string ara, .string aho, .string ama, .int .u32 an0, .int .u32 an1, .int .u32 an2, .int .u32 an3, .int .u32 an4]); (with_reducible refine (H4.out _).mono ?_); rintro e W1 ⟨rfl, B1⟩; have HW1 : Hid (Below w0.heap.size w0 W1) := (by go_split_ands; exact below_r5 (by assumption) B1); clear B1) | (go_at_call_of 29 (Value.agg #[.string bnm, .int .u16 bty, .int .u16 bcl, .int .u32 bttl, .string bra, .string bho, .string bma, .int .u32 bn0, .int .u32 bn1, .int .u32 bn2, .int .u32 bn3, .int .u32 bn4]); (with_reducible refine (H5.out _).mono ?_); rintro e W1 ⟨rfl, B1⟩; have HW1 : Hid (Below w0.heap.size w0 W1) := (by go_split_ands; exact below_r5 (by assumption) B1); clear B1))
    try go_wp2_with fail
    refine hK.out _ _ ?hax5 (fun hHeld => ?_)
    case hax5 =>
      try dsimp only
      (first | assumption | exact HK.out _ (Below.refl _ _).drew | exact HK.out _ HW1.out)
    clear hK K
    try simp only [Act.put, List.setIfInBounds_toArray, List.set_cons_zero, List.set_cons_succ]
    refine wpAnyH_take (i := 4) (oi := { dst := some 9, op := Go.Op.binOp Go.BinOp.eql 31 (Go.Operand.tmp 6) (Go.Operand.tmp 8) 31, type := 4, pos := "ref.go:145", after := #[{ on := 1, ground := Go.Ground.data }, { on := 3, ground := Go.Ground.data }], guard := none }) (v := ?vax6) rfl (by kernel_rfl) (by kernel_rfl) (by kernel_rfl) (fun _ _ _ h => h) (Or.inl ⟨by rfl, ?hax6⟩) (by assumption) ?_
    case hax6 =>
      intro w hSw
      try dsimp only at hSw
      go_simp
      try with_reducible rfl
    try simp only [Act.put, List.setIfInBounds_toArray, List.set_cons_zero, List.set_cons_succ]
    refine wpAnyH_take (i := 5) (oi := { dst := some 10, op := Go.Op.move (Go.Operand.tmp 9), type := 4, pos := "ref.go:145", after := #[{ on := 4, ground := Go.Ground.data }, { on := 3, ground := Go.Ground.chain }], guard := none }) (v := ?vax7) rfl (by kernel_rfl) (by kernel_rfl) (by kernel_rfl) (fun _ _ _ h => h) (Or.inl ⟨by rfl, ?hax7⟩) (by assumption) ?_
    case hax7 =>
      intro w hSw
      try dsimp only at hSw
      go_simp
      try with_reducible rfl
    try simp only [Act.put, List.setIfInBounds_toArray, List.set_cons_zero, List.set_cons_succ]
    refine wpAnyH_take (i := 6) (oi := { dst := some 11, op := Go.Op.load 29 (Go.Operand.tmp 2), type := 29, pos := "ref.go:145", after := #[{ on := 5, ground := Go.Ground.guard }], guard := some (5, true) }) (v := ?vax8) rfl (by kernel_rfl) (by kernel_rfl) (by kernel_rfl) (fun _ _ _ h => h) (Or.inl ⟨by rfl, ?hax8⟩) (by assumption) ?_
    case hax8 =>
      intro w hSw
      try dsimp only at hSw
      go_simp
      try with_reducible rfl
    try simp only [Act.put, List.setIfInBounds_toArray, List.set_cons_zero, List.set_cons_succ]
    refine wpAnyH_take (i := 9) (oi := { dst := some 14, op := Go.Op.load 29 (Go.Operand.tmp 3), type := 29, pos := "ref.go:145", after := #[{ on := 5, ground := Go.Ground.guard }], guard := some (5, true) }) (v := ?vax9) rfl (by kernel_rfl) (by kernel_rfl) (by kernel_rfl) (fun _ _ _ h => h) (Or.inl ⟨by rfl, ?hax9⟩) (by assumption) ?_
    case hax9 =>
      intro w hSw
      try dsimp only at hSw
      go_simp
      try with_reducible rfl
    try simp only [Act.put, List.setIfInBounds_toArray, List.set_cons_zero, List.set_cons_succ]
    refine wpAnyH_ready (rs := [7]) (by kernel_rfl) (by simp) ?_
    refine AllReadyH.cons (o := { dst := some 12, op := Go.Op.call { callee := Go.Callee.value (Go.Operand.func 29), args := #[Go.Operand.tmp 11], argTypes := #[29] }, type := 29, pos := "ref.go:145", after := #[{ on := 6, ground := Go.Ground.data }, { on := 5, ground := Go.Ground.chain }, { on := 5, ground := Go.Ground.guard }], guard := some (5, true) }) rfl (fun K hK => ?_) AllReadyH.nil
    go_simp
    (first | (go_at_call_of 28 (Value.agg #[.string anm, .int .u16 aty, .int .u16 acl, .int .u32 attl, .string ara, .string aho, .string ama, .int .u32 an0, .int .u32 an1, .int .u32 an2, .int .u32 an3, .int .u32 an4]); (with_reducible refine (H1.out _).mono ?_); rintro e W1 ⟨rfl, B1⟩; have HW1 : Hid (Below w0.heap.size w0 W1) := (by go_split_ands; exact below_r5 (by assumption) B1); clear B1) | (go_at_call_of 28 (Value.agg #[.string bnm, .int .u16 bty, .int .u16 bcl, .int .u32 bttl, .string bra, .string bho, .string bma, .int .u32 bn0, .int .u32 bn1, .int .u32 bn2, .int .u32 bn3, .int .u32 bn4]); (with_reducible refine (H2.out _).mono ?_); rintro e W1 ⟨rfl, B1⟩; have HW1 : Hid (Below w0.heap.size w0 W1) := (by go_split_ands; exact below_r5 (by assumption) B1); clear B1) | (go_at_call_of 29 (Value.agg #[.string anm, .int .u16 aty, .int .u16 acl, .int .u32 attl, .string ara, .string aho, .string ama, .int .u32 an0, .int .u32 an1, .int .u32 an2, .int .u32 an3, .int .u32 an4]); (with_reducible refine (H4.out _).mono ?_); rintro e W1 ⟨rfl, B1⟩; have HW1 : Hid (Below w0.heap.size w0 W1) := (by go_split_ands; exact below_r5 (by assumption) B1); clear B1) | (go_at_call_of 29 (Value.agg #[.string bnm, .int .u16 bty, .int .u16 bcl, .int .u32 bttl, .string bra, .string bho, .string bma, .int .u32 bn0, .int .u32 bn1, .int .u32 bn2, .int .u32 bn3, .int .u32 bn4]); (with_reducible refine (H5.out _).mono ?_); rintro e W1 ⟨rfl, B1⟩; have HW1 : Hid (Below w0.heap.size w0 W1) := (by go_split_ands; exact below_r5 (by assumption) B1); clear B1))
    try go_wp2_with fail
    refine hK.out _ _ ?hax10 (fun hHeld => ?_)
    case hax10 =>
      try dsimp only
      (first | assumption | exact HK.out _ (Below.refl _ _).drew | exact HK.out _ HW1.out)
    clear hK K
    try simp only [Act.put, List.setIfInBounds_toArray, List.set_cons_zero, List.set_cons_succ]
    refine wpAnyH_take (i := 8) (oi := { dst := some 13, op := Go.Op.field 29 (Go.Operand.tmp 12) 4, type := 27, pos := "ref.go:145", after := #[{ on := 7, ground := Go.Ground.data }, { on := 5, ground := Go.Ground.guard }], guard := some (5, true) }) (v := ?vax11) rfl (by kernel_rfl) (by kernel_rfl) (by kernel_rfl) (fun _ _ _ h => h) (Or.inl ⟨by rfl, ?hax11⟩) (by assumption) ?_
    case hax11 =>
      intro w hSw
      try dsimp only at hSw
      go_simp
      try with_reducible rfl
    try simp only [Act.put, List.setIfInBounds_toArray, List.set_cons_zero, List.set_cons_succ]
    refine wpAnyH_ready (rs := [10]) (by kernel_rfl) (by simp) ?_
    refine AllReadyH.cons (o := { dst := some 15, op := Go.Op.call { callee := Go.Callee.value (Go.Operand.func 29), args := #[Go.Operand.tmp 14], argTypes := #[29] }, type := 29, pos := "ref.go:145", after := #[{ on := 9, ground := Go.Ground.data }, { on := 7, ground := Go.Ground.chain }, { on := 5, ground := Go.Ground.guard }], guard := some (5, true) }) rfl (fun K hK => ?_) AllReadyH.nil
    go_simp
    (first | (go_at_call_of 28 (Value.agg #[.string anm, .int .u16 aty, .int .u16 acl, .int .u32 attl, .string ara, .string aho, .string ama, .int .u32 an0, .int .u32 an1, .int .u32 an2, .int .u32 an3, .int .u32 an4]); (with_reducible refine (H1.out _).mono ?_); rintro e W1 ⟨rfl, B1⟩; have HW1 : Hid (Below w0.heap.size w0 W1) := (by go_split_ands; exact below_r5 (by assumption) B1); clear B1) | (go_at_call_of 28 (Value.agg #[.string bnm, .int .u16 bty, .int .u16 bcl, .int .u32 bttl, .string bra, .string bho, .string bma, .int .u32 bn0, .int .u32 bn1, .int .u32 bn2, .int .u32 bn3, .int .u32 bn4]); (with_reducible refine (H2.out _).mono ?_); rintro e W1 ⟨rfl, B1⟩; have HW1 : Hid (Below w0.heap.size w0 W1) := (by go_split_ands; exact below_r5 (by assumption) B1); clear B1) | (go_at_call_of 29 (Value.agg #[.string anm, .int .u16 aty, .int .u16 acl, .int .u32 attl, .string ara, .string aho, .string ama, .int .u32 an0, .int .u32 an1, .int .u32 an2, .int .u32 an3, .int .u32 an4]); (with_reducible refine (H4.out _).mono ?_); rintro e W1 ⟨rfl, B1⟩; have HW1 : Hid (Below w0.heap.size w0 W1) := (by go_split_ands; exact below_r5 (by assumption) B1); clear B1) | (go_at_call_of 29 (Value.agg #[.string bnm, .int .u16 bty, .int .u16 bcl, .int .u32 bttl, .string bra, .string bho, .string bma, .int .u32 bn0, .int .u32 bn1, .int .u32 bn2, .int .u32 bn3, .int .u32 bn4]); (with_reducible refine (H5.out _).mono ?_); rintro e W1 ⟨rfl, B1⟩; have HW1 : Hid (Below w0.heap.size w0 W1) := (by go_split_ands; exact below_r5 (by assumption) B1); clear B1))
    try go_wp2_with fail
    refine hK.out _ _ ?hax12 (fun hHeld => ?_)
    case hax12 =>
      try dsimp only
      (first | assumption | exact HK.out _ (Below.refl _ _).drew | exact HK.out _ HW1.out)
    clear hK K
    try simp only [Act.put, List.setIfInBounds_toArray, List.set_cons_zero, List.set_cons_succ]
    refine wpAnyH_take (i := 11) (oi := { dst := some 16, op := Go.Op.field 29 (Go.Operand.tmp 15) 4, type := 27, pos := "ref.go:145", after := #[{ on := 10, ground := Go.Ground.data }, { on := 5, ground := Go.Ground.guard }], guard := some (5, true) }) (v := ?vax13) rfl (by kernel_rfl) (by kernel_rfl) (by kernel_rfl) (fun _ _ _ h => h) (Or.inl ⟨by rfl, ?hax13⟩) (by assumption) ?_
    case hax13 =>
      intro w hSw
      try dsimp only at hSw
      go_simp
      try with_reducible rfl
    try simp only [Act.put, List.setIfInBounds_toArray, List.set_cons_zero, List.set_cons_succ]
    refine wpAnyH_take (i := 12) (oi := { dst := some 17, op := Go.Op.binOp Go.BinOp.eql 27 (Go.Operand.tmp 13) (Go.Operand.tmp 16) 27, type := 4, pos := "ref.go:145", after := #[{ on := 8, ground := Go.Ground.data }, { on := 11, ground := Go.Ground.data }, { on := 5, ground := Go.Ground.guard }], guard := some (5, true) }) (v := ?vax14) rfl (by kernel_rfl) (by kernel_rfl) (by kernel_rfl) (fun _ _ _ h => h) (Or.inl ⟨by rfl, ?hax14⟩) (by assumption) ?_
    case hax14 =>
      intro w hSw
      try dsimp only at hSw
      go_simp
      try with_reducible rfl
    try simp only [Act.put, List.setIfInBounds_toArray, List.set_cons_zero, List.set_cons_succ]
    refine wpAnyH_take (i := 13) (oi := { dst := some 18, op := Go.Op.pick (Go.Operand.tmp 10) (Go.Operand.tmp 17) (Go.Operand.const (Go.Value.bool false)), type := 4, pos := "ref.go:145", after := #[{ on := 5, ground := Go.Ground.data }, { on := 12, ground := Go.Ground.data }], guard := none }) (v := ?vax15) rfl (by kernel_rfl) (by kernel_rfl) (by kernel_rfl) (fun _ _ _ h => h) (Or.inl ⟨by rfl, ?hax15⟩) (by assumption) ?_
    case hax15 =>
      intro w hSw
      try dsimp only at hSw
      go_simp
      try with_reducible rfl
    try simp only [Act.put, List.setIfInBounds_toArray, List.set_cons_zero, List.set_cons_succ]
    refine wpAnyH_take (i := 14) (oi := { dst := some 4, op := Go.Op.assign (Go.Operand.tmp 18), type := 4, pos := "ref.go:145", after := #[{ on := 13, ground := Go.Ground.data }, { on := 10, ground := Go.Ground.chain }, { on := 0, ground := Go.Ground.phase }, { on := 1, ground := Go.Ground.phase }, { on := 2, ground := Go.Ground.phase }, { on := 3, ground := Go.Ground.phase }, { on := 4, ground := Go.Ground.phase }, { on := 5, ground := Go.Ground.phase }, { on := 6, ground := Go.Ground.phase }, { on := 7, ground := Go.Ground.phase }, { on := 8, ground := Go.Ground.phase }, { on := 9, ground := Go.Ground.phase }, { on := 10, ground := Go.Ground.phase }, { on := 11, ground := Go.Ground.phase }, { on := 12, ground := Go.Ground.phase }, { on := 13, ground := Go.Ground.phase }], guard := none }) (v := ?vax16) rfl (by kernel_rfl) (by kernel_rfl) (by kernel_rfl) (fun _ _ _ h => h) (Or.inl ⟨by rfl, ?hax16⟩) (by assumption) ?_
    case hax16 =>
      intro w hSw
      try dsimp only at hSw
      go_simp
      try with_reducible rfl
    try simp only [Act.put, List.setIfInBounds_toArray, List.set_cons_zero, List.set_cons_succ]
    refine wpAnyH_done (by kernel_rfl) ?_ _
    refine NoPanic.normal ?_
    all_goals
      (go_wp2
       go_ret
       exact ⟨rfl, HB0.out.trans (HW1.out.mono HB0.out.size)⟩)
end Go.Proofs.YtnpimahgdhpmfabDoor
/- within, Same: have two lists the same records, as the document says; a list of its own. -/
namespace Go.Proofs.YtnpimahgdhpmfabDoor
open Go.RowKit Go.Sort Go.Shelf

def anyA (r : Rv) (rb : List Rv) : Bool := rb.any fun b => alB r b
def withA (ra rb : List Rv) : Bool := ra.all fun a => anyA a rb
theorem anyA_take {r : Rv} {rb : List Rv} {k : Nat} (h : k < rb.length) : anyA r (rb.take (k + 1)) = (anyA r (rb.take k) || alB r rb[k]) := by
  unfold anyA
  rw [List.take_succ_eq_append_getElem h, List.any_append]
  simp
theorem withA_take {ra rb : List Rv} {k : Nat} (h : k < ra.length) : withA (ra.take (k + 1)) rb = (withA (ra.take k) rb && anyA ra[k] rb) := by
  unfold withA
  rw [List.take_succ_eq_append_getElem h, List.all_append]
  simp
theorem withA_no {ra rb : List Rv} {k : Nat} (h : k < ra.length) (hn : anyA ra[k] rb = false) : withA ra rb = false := by
  unfold withA
  rw [List.all_eq_false]
  exact ⟨ra[k], List.getElem_mem h, by simp [hn]⟩
set_option maxHeartbeats 8000000 in
set_option maxRecDepth 1000000 in
theorem within_any (ra rb : List Rv) (A B : Option Addr) (ca cb : Nat) (w : World) (hSa : Srow rcl 12 w 0 w.heap.size A ra) (hSb : Srow rcl 12 w 0 w.heap.size B rb) (hra : ∀ r ∈ ra, r.fits ∧ r.near) (hrb : ∀ r ∈ rb, r.fits ∧ r.near) (hna : ra.length ≤ 4294967296) (hnb : rb.length ≤ 4294967296) :
    Calls Tryd.prog 47 #[.slice A ra.length ca, .slice B rb.length cb] w fun e w' => e = .returned (.bool (withA ra rb)) ∧ Below w.heap.size w w' := by
  have HSa := Lib.hid hSa
  have HSb := Lib.hid hSb
  have HRa := Lib.hid hra
  have HRb := Lib.hid hrb
  clear hSa hSb hra hrb
  obtain ⟨R, hR⟩ : ∃ R, withA ra rb = R := ⟨_, rfl⟩
  rw [hR]
  have HR := Lib.hid hR
  clear hR
  go_enter Tryd.func47, Tryd.ntmps47
  go_wp2
  go_loopw [5] (fun i wr => ∃ k : Nat, i = .int .i64 k ∧ k ≤ ra.length ∧ Hid (withA (ra.take k) rb = true) ∧ Hid (Below w.heap.size w wr)) (fun i _ => ra.length - (intOf i).toNat)
  case atStart => exact ⟨0, rfl, Nat.zero_le _, rfl, Below.refl _ _⟩
  case round =>
    obtain ⟨k, rfl, hk, HM, HB⟩ := hrel
    by_cases hlt : k < ra.length
    · obtain ⟨g, o, rfl, _, hg, hc⟩ := HSa.out.at_ hlt
      have HC := Lib.hid hc
      have hfr := HRa.out ra[k] (List.getElem_mem hlt)
      have HT := Lib.hid (withA_take (rb := rb) hlt)
      have HNO : Hid (anyA ra[k] rb = false → R = false) := fun h => by rw [← HR.out]; exact withA_no hlt h
      have i0 : (0 : Int) ≤ (k : Int) := by omega
      have i1 : (k : Int) < (ra.length : Int) := by omega
      have HFR := Lib.hid hfr
      clear hc hfr
      generalize ra[k] = r at *
      go_wp2
      go_loopw [6, 7] (fun s j wx => ∃ q : Nat, j = .int .i64 q ∧ q ≤ rb.length ∧ s = .bool (anyA r (rb.take q)) ∧ Hid (Below w.heap.size w wx)) (fun _ j _ => rb.length - (intOf j).toNat)
      case atStart => exact ⟨0, rfl, Nat.zero_le _, rfl, HB.out⟩
      case round =>
        obtain ⟨q, rfl, hq, rfl, HB2⟩ := hrel
        by_cases hlq : q < rb.length
        · obtain ⟨g2, o2, rfl, _, hg2, hc2⟩ := HSb.out.at_ hlq
          have HC2 := Lib.hid hc2
          have hfb := HRb.out rb[q] (List.getElem_mem hlq)
          have HT2 := Lib.hid (anyA_take (r := r) hlq)
          have j0 : (0 : Int) ≤ (q : Int) := by omega
          have j1 : (q : Int) < (rb.length : Int) := by omega
          have HFB := Lib.hid hfb
          clear hc2 hfb
          generalize rb[q] = b at *
          have HAL := Lib.hid (fun W : World => (show Calls Tryd.prog 64 #[.agg #[.string r.nm, .int .u16 r.ty, .int .u16 r.cl, .int .u32 r.ttl, .string r.d.raw, .string r.d.host, .string r.d.mail, .int .u32 r.d.n0, .int .u32 r.d.n1, .int .u32 r.d.n2, .int .u32 r.d.n3, .int .u32 r.d.n4], .agg #[.string b.nm, .int .u16 b.ty, .int .u16 b.cl, .int .u32 b.ttl, .string b.d.raw, .string b.d.host, .string b.d.mail, .int .u32 b.d.n0, .int .u32 b.d.n1, .int .u32 b.d.n2, .int .u32 b.d.n3, .int .u32 b.d.n4]] W _ from alike5_any r b W HFR.out HFB.out))
          obtain ⟨al, hal⟩ : ∃ al, alB r b = al := ⟨_, rfl⟩
          rw [hal] at HT2 HAL
          clear hal
          have HD1 := Lib.hid (range_below HB2.out hg HC.out)
          have HD2 := Lib.hid (range_below HB2.out hg2 HC2.out)
          obtain ⟨an, han⟩ : ∃ an, anyA r (rb.take q) = an := ⟨_, rfl⟩
          rw [han] at HT2 ⊢
          clear han
          have c0 : (World.drew _).cell? ⟨g, o + k * 12, none⟩ = some (.string r.nm) := HD1.out 0 _ rfl
          have c1 : (World.drew _).cell? ⟨g, o + k * 12 + 1, none⟩ = some (.int .u16 r.ty) := HD1.out 1 _ rfl
          have c2 : (World.drew _).cell? ⟨g, o + k * 12 + 2, none⟩ = some (.int .u16 r.cl) := HD1.out 2 _ rfl
          have c3 : (World.drew _).cell? ⟨g, o + k * 12 + 3, none⟩ = some (.int .u32 r.ttl) := HD1.out 3 _ rfl
          have c4 : (World.drew _).cell? ⟨g, o + k * 12 + 4, none⟩ = some (.string r.d.raw) := HD1.out 4 _ rfl
          have c5 : (World.drew _).cell? ⟨g, o + k * 12 + 5, none⟩ = some (.string r.d.host) := HD1.out 5 _ rfl
          have c6 : (World.drew _).cell? ⟨g, o + k * 12 + 6, none⟩ = some (.string r.d.mail) := HD1.out 6 _ rfl
          have c7 : (World.drew _).cell? ⟨g, o + k * 12 + 7, none⟩ = some (.int .u32 r.d.n0) := HD1.out 7 _ rfl
          have c8 : (World.drew _).cell? ⟨g, o + k * 12 + 8, none⟩ = some (.int .u32 r.d.n1) := HD1.out 8 _ rfl
          have c9 : (World.drew _).cell? ⟨g, o + k * 12 + 9, none⟩ = some (.int .u32 r.d.n2) := HD1.out 9 _ rfl
          have c10 : (World.drew _).cell? ⟨g, o + k * 12 + 10, none⟩ = some (.int .u32 r.d.n3) := HD1.out 10 _ rfl
          have c11 : (World.drew _).cell? ⟨g, o + k * 12 + 11, none⟩ = some (.int .u32 r.d.n4) := HD1.out 11 _ rfl
          have e0 : (World.drew _).cell? ⟨g2, o2 + q * 12, none⟩ = some (.string b.nm) := HD2.out 0 _ rfl
          have e1 : (World.drew _).cell? ⟨g2, o2 + q * 12 + 1, none⟩ = some (.int .u16 b.ty) := HD2.out 1 _ rfl
          have e2 : (World.drew _).cell? ⟨g2, o2 + q * 12 + 2, none⟩ = some (.int .u16 b.cl) := HD2.out 2 _ rfl
          have e3 : (World.drew _).cell? ⟨g2, o2 + q * 12 + 3, none⟩ = some (.int .u32 b.ttl) := HD2.out 3 _ rfl
          have e4 : (World.drew _).cell? ⟨g2, o2 + q * 12 + 4, none⟩ = some (.string b.d.raw) := HD2.out 4 _ rfl
          have e5 : (World.drew _).cell? ⟨g2, o2 + q * 12 + 5, none⟩ = some (.string b.d.host) := HD2.out 5 _ rfl
          have e6 : (World.drew _).cell? ⟨g2, o2 + q * 12 + 6, none⟩ = some (.string b.d.mail) := HD2.out 6 _ rfl
          have e7 : (World.drew _).cell? ⟨g2, o2 + q * 12 + 7, none⟩ = some (.int .u32 b.d.n0) := HD2.out 7 _ rfl
          have e8 : (World.drew _).cell? ⟨g2, o2 + q * 12 + 8, none⟩ = some (.int .u32 b.d.n1) := HD2.out 8 _ rfl
          have e9 : (World.drew _).cell? ⟨g2, o2 + q * 12 + 9, none⟩ = some (.int .u32 b.d.n2) := HD2.out 9 _ rfl
          have e10 : (World.drew _).cell? ⟨g2, o2 + q * 12 + 10, none⟩ = some (.int .u32 b.d.n3) := HD2.out 10 _ rfl
          have e11 : (World.drew _).cell? ⟨g2, o2 + q * 12 + 11, none⟩ = some (.int .u32 b.d.n4) := HD2.out 11 _ rfl
          cases an
          · go_wp2
            go_region_with (go_at_call 64; (with_reducible refine (HAL.out _).mono ?_); rintro e W1 ⟨rfl, B1⟩; have HB3 := Lib.hid (HB2.out.drew.trans (B1.mono HB2.out.size)); clear B1)
            all_goals
              go_wp2
              go_roundw
              case rel => exact ⟨q + 1, by go_num, by omega, by rw [HT2.out]; rfl, HB3.out⟩
              case measure => simp [intOf]; omega
          · go_wp2
            go_quiet (fail)
            go_wp2
            go_roundw
            case rel => exact ⟨q + 1, by go_num, by omega, by rw [HT2.out]; rfl, below_drewN HB2.out _⟩
            case measure => simp [intOf]; omega
        · obtain rfl : q = rb.length := by omega
          have hz : anyA r (rb.take rb.length) = anyA r rb := by rw [List.take_length]
          rw [hz]
          clear hz
          cases han : anyA r rb
          · have HN := Lib.hid (HNO.out han)
            clear han
            go_wp2
            go_ret
            exact ⟨by rw [HN.out]; rfl, HB2.out⟩
          · have HN : Hid (withA (ra.take (k + 1)) rb = true) := by rw [Hid, HT.out, HM.out, han]; rfl
            clear han
            go_wp2
            go_roundw
            case rel => exact ⟨k + 1, by go_num, by omega, HN.out, HB2.out⟩
            case measure => simp [intOf]; omega
    · obtain rfl : k = ra.length := by omega
      have HN : Hid (R = true) := by
        have h := HM.out
        rw [List.take_length] at h
        rw [Hid, ← HR.out, h]
      go_wp2
      go_ret
      exact ⟨by rw [HN.out]; rfl, HB.out⟩
end Go.Proofs.YtnpimahgdhpmfabDoor
/- Same: the document's; a list of its own; the walk of RrsetSame. -/
namespace Go.Proofs.YtnpimahgdhpmfabDoor
open Go.RowKit Go.Sort Go.Shelf

theorem srow_flat {α : Type} {enc : α → List Value} {k : Nat} (hk : ∀ x, (enc x).length = k) {w : World} {lo hi g o : Nat} {xs : List α} (h : Srow enc k w lo hi (some ⟨g, o, none⟩) xs) :
    ∀ j u, (fl enc xs)[j]? = some u → w.cell? ((⟨g, o, none⟩ : Addr).add j) = some u := fun j u hu => by
  have hj : j < xs.length * k := by rw [← fl_len hk]; exact (List.getElem?_eq_some_iff.1 hu).1
  have h0 : 0 < k := by
    rcases Nat.eq_zero_or_pos k with h | h
    · subst h; simp at hj
    · exact h
  have hi' : j / k < xs.length := Nat.div_lt_of_lt_mul (by rw [Nat.mul_comm]; exact hj)
  have hm : j % k < k := Nat.mod_lt _ h0
  have e : j / k * k + j % k = j := by rw [Nat.mul_comm]; exact Nat.div_add_mod j k
  have h1 := fl_get hk xs hi' hm
  rw [e, hu] at h1
  obtain ⟨g', o', hA, _, _, hc⟩ := h (Nat.zero_lt_of_lt hi')
  injection hA with hA
  injection hA with e1 e2 _
  subst e1 e2
  have := hc (j / k) hi' (j % k) u h1.symm
  rw [addr_add, ← e, ← Nat.add_assoc]
  rw [Nat.add_assoc] at this ⊢
  exact this
theorem rcl_flat_one (xs : List Rv) : ∀ u ∈ fl rcl xs, u.oneCell' = true := fun u hu => by
  obtain ⟨x, _, hx⟩ := List.mem_flatMap.1 hu
  exact rcl_one x u hx
set_option maxHeartbeats 2000000 in
set_option maxRecDepth 100000 in
theorem owned_any (rs : List Rv) (A : Option Addr) (c : Nat) (w : World) (hS : Srow rcl 12 w 0 w.heap.size A rs) (hnil : A = none → c = 0) (hn : rs.length ≤ 4294967296) :
    Calls Tryd.prog 14 #[.slice A rs.length c] w fun e w' => ∃ A' c', e = .returned (.slice A' rs.length c') ∧ rs.length ≤ c' ∧ Srow rcl 12 w' w.heap.size w'.heap.size A' rs ∧ Below w.heap.size w w' := by
  obtain ⟨ti, ht1, ht2, ht3, ht4⟩ : ∃ i, Tryd.prog.info? 29 = some i ∧ i.zero = some (.agg (rcl default).toArray) ∧ i.size = 12 ∧ i.bytes = 96 := ⟨_, rfl, by kernel_rfl, by kernel_rfl, by kernel_rfl⟩
  have HT := Lib.hid (And.intro ht1 (And.intro ht2 (And.intro ht3 ht4)))
  clear ht1 ht2 ht3 ht4
  have ho : w.ownsRow w.heap.size 29 12 (.slice none 0 0) 0 [] := ⟨rfl, .inl ⟨rfl, rfl⟩⟩
  have fin : ∀ v w', w'.ownsRow w.heap.size 29 12 v rs.length (fl rcl rs) → w.grownBy w' (Value.slice none 0 0).ownBlock → ∃ A' c', v = .slice A' rs.length c' ∧ rs.length ≤ c' ∧ Srow rcl 12 w' w.heap.size w'.heap.size A' rs ∧ Below w.heap.size w w' := fun v w' h hg => by
    obtain ⟨A', c', e, hc, hs⟩ := Own.srow rcl_len (e := 29) h
    exact ⟨A', c', e, hc, hs, (Below.refl _ _).grown hg (Nat.le_refl _) (fun k e => by cases e)⟩
  have HO := Lib.hid ho
  have HFIN := Lib.hid fin
  clear ho fin
  rcases A with _ | ⟨g, o, sp⟩
  · have h0 : rs = [] := by
      rcases rs with _ | ⟨x, r⟩
      · rfl
      · obtain ⟨g, o, hA, _⟩ := hS (by simp); cases hA
    subst h0
    have := hnil rfl
    subst this
    clear hS hnil
    go_enter Tryd.func14, Tryd.ntmps14
    go_wp2_with (at_builtin; refine wpList_append_own_none rfl (.const (.slice none 0 0)) (.tmp 3) _ rfl w.heap.size 29 ti 12 Tryd.underlying37 HT.out.1 (.slice none 0 0) 0 [] rfl HO.out rfl ?_)
    go_ret
    exact ⟨none, 0, rfl, Nat.le_refl _, Srow.nil, Below.refl _ _⟩
  · have HFL : Hid (∀ j u, (fl rcl rs)[j]? = some u → w.cell? ((⟨g, o, sp⟩ : Addr).add j) = some u) := by
      rcases rs with _ | ⟨x, r⟩
      · intro j u hu; cases hu
      · obtain ⟨g', o', hA, _⟩ := id (hS (by simp))
        injection hA with hA
        injection hA with e1 e2 e3
        subst e1 e2 e3
        exact srow_flat rcl_len hS
    have HLN : Hid ((fl rcl rs).length = rs.length * 12) := fl_len rcl_len rs
    clear hS hnil
    go_enter Tryd.func14, Tryd.ntmps14
    go_wp2_with (at_builtin
                 refine wpList_append_own _ rfl (.const (.slice none 0 0)) (.tmp 3) _ rfl w.heap.size 29 ti _ 12 96 Tryd.underlying37 HT.out.1 HT.out.2.1 HT.out.2.2.1 HT.out.2.2.2 rfl (by decide) (.slice none 0 0) 0 [] rfl HO.out ⟨g, o, sp⟩ rs.length c (fl rcl rs) rfl HLN.out HFL.out (rcl_flat_one rs) (by unfold maxLen; omega) (by omega) (Nat.le_refl _) ?_
                 intro v1 w1 ho1 hg1 _
                 rw [Nat.zero_add, List.nil_append] at ho1
                 obtain ⟨A', c', rfl, hc', hs', hb'⟩ := HFIN.out _ _ ho1 hg1
                 have HS' := Lib.hid hs'
                 have HB' := Lib.hid hb'
                 have HC' := Lib.hid hc'
                 clear ho1 hg1 hs' hb' hc')
    go_ret
    exact ⟨A', c', rfl, HC'.out, HS'.out, HB'.out⟩
set_option maxRecDepth 100000 in
theorem refSame_any (ra rb : List Rv) (A B : Option Addr) (ca cb : Nat) (w : World) (hSa : Srow rcl 12 w 0 w.heap.size A ra) (hSb : Srow rcl 12 w 0 w.heap.size B rb) (hra : ∀ r ∈ ra, r.fits ∧ r.near) (hrb : ∀ r ∈ rb, r.fits ∧ r.near) (hna : ra.length ≤ 4294967296) (hnb : rb.length ≤ 4294967296) :
    Calls Tryd.prog 22 #[.slice A ra.length ca, .slice B rb.length cb] w fun e w' => e = .returned (.bool (withA ra rb && withA rb ra)) ∧ Below w.heap.size w w' := by
  have H1 := Lib.hid (within_any ra rb A B ca cb w hSa hSb hra hrb hna hnb)
  have H2 := Lib.hid (fun (W : World) (hb : Below w.heap.size w W) => within_any rb ra B A cb ca W ((hSb.keep hb).more (Nat.le_refl _) hb.size) ((hSa.keep hb).more (Nat.le_refl _) hb.size) hrb hra hnb hna)
  clear hSa hSb hra hrb hna hnb
  generalize withA ra rb = x at *
  generalize withA rb ra = y at *
  cases x
  · go_enter Tryd.func22, Tryd.ntmps22
    go_wp2_with (go_at_call 47; refine H1.out.mono ?_; rintro e w1 ⟨rfl, B1⟩; have HB1 := Lib.hid B1; clear B1)
    go_ret
    exact ⟨rfl, HB1.out⟩
  · go_enter Tryd.func22, Tryd.ntmps22
    go_wp2_with (first
      | (go_at_call 47; (with_reducible refine (H2.out _ HB1.out).mono ?_); rintro e w2 ⟨rfl, B2⟩; have HB2 := Lib.hid (HB1.out.trans (B2.mono HB1.out.size)); clear B2)
      | (go_at_call 47; (with_reducible refine H1.out.mono ?_); rintro e w1 ⟨rfl, B1⟩; have HB1 := Lib.hid B1; clear B1))
    go_ret
    exact ⟨rfl, HB2.out⟩
theorem in_with {ra rb : List Rv} : withA ra rb = true ↔ Rr.In (fcs ra) (fcs rb) := by
  unfold withA anyA Rr.In fcs
  simp only [List.all_eq_true, List.any_eq_true, List.mem_map, alB_iff]
  constructor
  · rintro h _ ⟨_, ⟨a, ha, rfl⟩, rfl⟩
    obtain ⟨b, hb, h1, h2⟩ := h a ha
    exact ⟨_, ⟨_, ⟨b, hb, rfl⟩, rfl⟩, congrArg Kv.ky h1, congrArg Dv.dt h2⟩
  · intro h a ha
    obtain ⟨_, ⟨_, ⟨b, hb, rfl⟩, rfl⟩, h1, h2⟩ := h _ ⟨_, ⟨a, ha, rfl⟩, rfl⟩
    exact ⟨b, hb, kv_ky h1, dv_dt h2⟩
theorem same_eq (ra rb : List Rv) : decide ((Rr.sets (fcs ra)).map Rr.hd = (Rr.sets (fcs rb)).map Rr.hd) = (withA ra rb && withA rb ra) := by
  rw [Bool.eq_iff_iff, decide_eq_true_eq, Rr.same_iff, Bool.and_eq_true, in_with, in_with]
set_option maxHeartbeats 2000000 in
set_option maxRecDepth 100000 in
theorem walk_RrsetSame (w : World) (hL : LayR w) (A : Option Addr) (a : List Rv) (ca : Nat) (_hca : a.length ≤ ca) (hna : A = none → ca = 0) (hSa : Srow rcl 12 w 0 w.heap.size A a) (fa : ∀ r ∈ a, r.fits) (na : ∀ r ∈ a, r.near)
    (B : Option Addr) (b : List Rv) (cb : Nat) (_hcb : b.length ≤ cb) (hnb : B = none → cb = 0) (hSb : Srow rcl 12 w 0 w.heap.size B b) (fb : ∀ r ∈ b, r.fits) (nb : ∀ r ∈ b, r.near) :
    Calls Tryd.prog 5 #[.slice A a.length ca, .slice B b.length cb] w fun e w' => e = .returned (.bool true) ∧ Below w.heap.size w w' := by
  have HW := Lib.hid (fun (W : World) (h : Below w.heap.size w W) => rrWakes W (hL.below h (Nat.le_refl _)))
  by_cases h1 : a.length ≤ 200
  · have d1 : decide ((200 : Int) < (a.length : Int)) = false := by rw [decide_eq_false_iff_not]; omega
    by_cases h2 : b.length ≤ 200
    · have d2 : decide ((200 : Int) < (b.length : Int)) = false := by rw [decide_eq_false_iff_not]; omega
      have H1 := Lib.hid (owned_any a A ca w hSa hna (by omega))
      have H2 := Lib.hid (fun (W : World) (h : Below w.heap.size w W) => owned_any b B cb W ((hSb.keep h).more (Nat.le_refl _) h.size) hnb (by omega))
      have H3 := Lib.hid (fun (W : World) (h : Below w.heap.size w W) (A' B' : Option Addr) (c1 c2 : Nat) (h1 : Srow rcl 12 W 0 W.heap.size A' a) (h2 : Srow rcl 12 W 0 W.heap.size B' b) => same_any a b A' B' c1 c2 W (hL.below h (Nat.le_refl _)) h1 h2 (fun r hr => ⟨⟨(fa r hr).1, (fa r hr).2.1⟩, (na r hr).short⟩) (fun r hr => ⟨⟨(fb r hr).1, (fb r hr).2.1⟩, (nb r hr).short⟩) (by omega) (by omega))
      have H4 := Lib.hid (fun (W : World) (h : Below w.heap.size w W) => refSame_any a b A B ca cb W ((hSa.keep h).more (Nat.le_refl _) h.size) ((hSb.keep h).more (Nat.le_refl _) h.size) (fun r hr => ⟨fa r hr, na r hr⟩) (fun r hr => ⟨fb r hr, nb r hr⟩) (by omega) (by omega))
      rw [same_eq] at H3
      clear hL hna hnb hSa hSb fa na fb nb h1 h2
      generalize (withA a b && withA b a) = x at *
      go_enter Tryd.func5, Tryd.ntmps5
      go_wp2_with (first
        | (go_at_call 14; (with_reducible refine (H2.out _ HB1.out).mono ?_); rintro e w2 ⟨B2', c2', rfl, _, S2, B2⟩; have HS1' := Lib.hid ((HS1.out.keep B2).more (Nat.le_refl _) B2.size); have HS2 := Lib.hid (S2.more (Nat.zero_le _) (Nat.le_refl _)); have HB2 := Lib.hid (HB1.out.trans (B2.mono HB1.out.size)); clear B2 S2)
        | (go_at_call 14; (with_reducible refine H1.out.mono ?_); rintro e w1 ⟨A1, c1, rfl, _, S1, B1⟩; have HS1 := Lib.hid (S1.more (Nat.zero_le _) (Nat.le_refl _)); have HB1 := Lib.hid B1; clear B1 S1)
        | (go_at_call 21; (with_reducible refine (H3.out _ HB2.out _ _ _ _ HS1'.out HS2.out).mono ?_); rintro e w3 ⟨rfl, B3⟩; have HB3 := Lib.hid (HB2.out.trans (B3.mono HB2.out.size)); clear B3)
        | (go_at_call 22; (with_reducible refine (H4.out _ HB3.out).mono ?_); rintro e w4 ⟨rfl, B4⟩; have HB4 := Lib.hid (HB3.out.trans (B4.mono HB3.out.size)); clear B4)
        | (go_at_call 13; (with_reducible refine (HW.out _ HB4.out).mono ?_); rintro e w5 ⟨rfl, B5⟩; have HB5 := Lib.hid (HB4.out.trans (B5.mono HB4.out.size)); clear B5))
      go_ret
      exact ⟨rfl, HB5.out⟩
    · have d2 : decide ((200 : Int) < (b.length : Int)) = true := by rw [decide_eq_true_iff]; omega
      clear hL hna hnb hSa hSb fa na fb nb h1 h2
      go_enter Tryd.func5, Tryd.ntmps5
      go_wp2_with (go_at_call 13; (with_reducible refine (HW.out _ (Below.refl _ _)).mono ?_); rintro e w5 ⟨rfl, B5⟩; have HB5 := Lib.hid B5; clear B5)
      go_ret
      exact ⟨rfl, HB5.out⟩
  · have d1 : decide ((200 : Int) < (a.length : Int)) = true := by rw [decide_eq_true_iff]; omega
    clear hL hna hnb hSa hSb fa na fb nb h1
    go_enter Tryd.func5, Tryd.ntmps5
    go_wp2_with (go_at_call 13; (with_reducible refine (HW.out _ (Below.refl _ _)).mono ?_); rintro e w5 ⟨rfl, B5⟩; have HB5 := Lib.hid B5; clear B5)
    go_ret
    exact ⟨rfl, HB5.out⟩
end Go.Proofs.YtnpimahgdhpmfabDoor
