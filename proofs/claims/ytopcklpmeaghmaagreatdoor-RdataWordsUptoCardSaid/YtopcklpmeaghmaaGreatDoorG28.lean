/- Texts of the proofs, merged. -/
import Derived.Test.YtopcklpmeaghmaaGreatDoorG27
import Derived.Test.YtopcklpmeaghmaaGreatDoorG25
import Derived.Defers
import Derived.Recover
/- Read: the words that tell data tell them: the program's. -/
namespace Go.Proofs.YtopcklpmeaghmaaGreatDoor
open Go.RowKit

/-- the call that looks whether reading gave up finds that it did not. -/
theorem catch_idle (p q : Addr) (w : World) :
    CallsD Tryz.prog 20 #[.pointer (some p), .pointer (some q)] .returning w fun e u' w' => e = .returned (.tuple #[]) ∧ u' = .returning ∧ w' = w := by
  refine callsD_of_wpS Tryz.func20 rfl fun c₀ cs hu => ?_
  apply wpS_seq
  apply wpS_region
  simp [wpOpsS, go_sem, recoverD, hu, Tryz.ntmps20, Exit.thenS]
  apply wpS_seq
  apply wpS_region
  simp [wpOpsS, go_sem, Exit.thenS]
  refine wpS_cond (t := false) (by simp [Act.eval, Array.replicate]) ?_
  simp only [Bool.false_eq_true, if_false]
  refine wpS_of_wp (wp_skip ?_)
  cases c₀
  simp_all [bodyPostS, results, Tryz.results20]
/-- the words that tell data. -/
def Rd.readR (o : List UInt8) (t : Nat) (ws : List Rd.W2) : Option Rd.Dt := match ws with
  | [] => Rd.knownR o t []
  | x :: r => if x.1 = [92, 35] ∧ x.2 = false then (if Rd.parts t = [4, 0, 0, 0, 0, 0, 0] then (Rd.anyR r).map fun raw => ⟨raw, [], [], 0, 0, 0, 0, 0⟩ else none) else Rd.knownR o t (x :: r)
theorem Kb.toBelow {g b B : Nat} {w w' : World} (h : Kb g b w w') (hg : B ≤ g) (hb : B ≤ b) : Below B w w' := ⟨h.os, h.tape, h.output, h.size, fun k hk => h.block k (by omega) (by omega)⟩
section
variable {t : Nat} {o : ByteArray} {v : Value} {ws : List Rd.W2} {d : Rd.Dt} {w : World}
set_option maxHeartbeats 2000000 in
set_option maxRecDepth 100000 in
theorem rdRead_ok (ht : t ≤ 65535) (ho : Rd.nm o.data.toList = true) (hos : o.size ≤ 140737488355328) (hw : Ws w w.heap.size v ws) (hG : Gl w w.heap.size) (h32 : ∀ x ∈ ws, x.1.length < 4294967281) (hr : Rd.readR o.data.toList t ws = some d) :
    Calls Tryz.prog 6 #[.int .u16 t, v, .string o] w fun e w' => e = .returned (.tuple #[(dv d).val, .int .i64 0]) ∧ Below w.heap.size w w' := by
  have hmf : ∀ (fn : Fn) (first cap : Array Value) (W : World), (Instr.makeFunc fn first cap).run Tryz.prog W = .ok (.func fn first cap) W := fun _ _ _ _ => rfl
  have hck : ∀ (W : World), Calls Tryz.prog 19 #[.string o] W fun e w' => e = .returned (.int .i64 0) ∧ Below W.heap.size W w' := fun W => by
    have := nameIs_any o W hos
    rw [ho] at this
    exact this
  have HCK := Lib.hid hck
  obtain ⟨A, c, hv⟩ : ∃ A c, v = .slice A ws.length c := hw.elim fun A h => h.elim fun c h => ⟨A, c, h.1⟩
  subst hv
  have HW := Lib.hid hw
  have HGL := Lib.hid hG
  have H32 := Lib.hid h32
  have HR := Lib.hid hr
  have HO := Lib.hid ho
  have hi11 : (Tryz.prog.info? 55).map (·.size) = some 11 := by kernel_rfl
  have HI11 := Lib.hid hi11
  have hB0 := ((Below.refl w.heap.size w).alloc (Nat.le_refl _) (.cells #[.string ⟨#[]⟩, .string ⟨#[]⟩, .string ⟨#[]⟩, .int .u32 0, .int .u32 0, .int .u32 0, .int .u32 0, .int .u32 0] 27)).alloc (by simp) (.cells #[.int .i64 0] 28)
  have hZ0 := (Has.fresh w 27 #[.string ⟨#[]⟩, .string ⟨#[]⟩, .string ⟨#[]⟩, .int .u32 0, .int .u32 0, .int .u32 0, .int .u32 0, .int .u32 0]).alloc (.cells #[.int .i64 0] 28)
  have hY0 : Has ((w.alloc (.cells #[.string ⟨#[]⟩, .string ⟨#[]⟩, .string ⟨#[]⟩, .int .u32 0, .int .u32 0, .int .u32 0, .int .u32 0, .int .u32 0] 27)).alloc (.cells #[.int .i64 0] 28)) (w.heap.size + 1) 28 #[.int .i64 0] := new_at _ _ (by simp)
  have HB0 := Lib.hid hB0
  have HZ0 := Lib.hid hZ0
  have HY0 := Lib.hid hY0
  clear hw hG h32 hr ho hck hi11 hB0 hZ0 hY0
  go_enter_defers Tryz.func6, Tryz.ntmps6
  go_upto_region 5 with (first
    | (go_at_call 19; refine (HCK.out _).mono ?_; rintro e w1 ⟨rfl, B1⟩; have HB1 := Lib.hid (HB0.out.trans (B1.mono HB0.out.size)); have HZ1 := Lib.hid (HZ0.out.below B1 HZ0.out.lt); have HY1 := Lib.hid (HY0.out.below B1 HY0.out.lt); clear B1)
    | (refine wpList_store_row rfl 55 (.tmp 8) (.tmp 16) rfl w1.heap.size (rdC (.slice A ws.length c) o Rd.dt0 0) rfl rfl 55 _ (Has.fresh w1 _ _) HI11.out rfl (by simp [rdC, Value.oneCell']) ?_))
  have hS2 := (Has.fresh w1 55 #[.slice none 0 0, .string ⟨#[]⟩, .string ⟨#[]⟩, .string ⟨#[]⟩, .string ⟨#[]⟩, .int .u32 0, .int .u32 0, .int .u32 0, .int .u32 0, .int .u32 0, .int .i64 0]).row (rdC (.slice A ws.length c) o Rd.dt0 0)
  have hB2 := below_setRow ((Below.refl w1.heap.size w1).alloc (Nat.le_refl _) (.cells #[.slice none 0 0, .string ⟨#[]⟩, .string ⟨#[]⟩, .string ⟨#[]⟩, .string ⟨#[]⟩, .int .u32 0, .int .u32 0, .int .u32 0, .int .u32 0, .int .u32 0, .int .i64 0] 55)) (g := w1.heap.size) (Nat.le_refl _) (rdC (.slice A ws.length c) o Rd.dt0 0)
  have hsz1 := HB1.out.size
  have hy1 := HY1.out.lt
  generalize World.setRow _ _ _ = W2 at *
  have hst : St W2 w1.heap.size w.heap.size o ws Rd.dt0 0 := ⟨_, hS2, HW.out.keep (HB1.out.trans (hB2.mono hsz1)), hsz1, HGL.out.below (HB1.out.trans (hB2.mono hsz1))⟩
  have HST := Lib.hid hst
  have HZ2 := Lib.hid (HZ1.out.below hB2 HZ1.out.lt)
  have HY2 := Lib.hid (HY1.out.below hB2 HY1.out.lt)
  have HB2 := Lib.hid (HB1.out.trans (hB2.mono hsz1))
  clear hS2 hB2 hst
  obtain ⟨r, h, m, n0, n1, n2, n3, n4⟩ := d
  have hi8 : (Tryz.prog.info? 27).map (·.size) = some 8 := by kernel_rfl
  have HI := Lib.hid hi8
  clear hi8
  cases ws with
  | nil =>
    have HC : Hid (Calls Tryz.prog 22 #[.pointer (some ⟨w1.heap.size, 0, none⟩), .int .u16 t] W2 fun e w' => e = .returned (.agg #[sv r, sv h, sv m, .int .u32 n0, .int .u32 n1, .int .u32 n2, .int .u32 n3, .int .u32 n4]) ∧ Kb w1.heap.size W2.heap.size W2 w') := rdKnown_ok HST.out ht HR.out H32.out hos
    go_wp2_with (first
      | (go_at_call 22; refine HC.out.mono ?_; rintro e w3 ⟨rfl, K3⟩; have HZ3 := Lib.hid (K3.has HZ2.out HZ2.out.lt (by omega)); have HY3 := Lib.hid (K3.has HY2.out HY2.out.lt (by omega)); have HB3 := Lib.hid (HB2.out.trans (K3.toBelow (by omega) (by have := HB2.out.size; omega))); clear K3)
      | (refine wpList_store_row rfl 27 (.tmp 6) (.tmp 37) rfl w.heap.size #[sv r, sv h, sv m, .int .u32 n0, .int .u32 n1, .int .u32 n2, .int .u32 n3, .int .u32 n4] rfl rfl 27 _ HZ3.out HI.out rfl (by simp [Value.oneCell']) ?_; have hY4 := HY3.out.rowFar (g' := w.heap.size) (by omega) #[sv r, sv h, sv m, .int .u32 n0, .int .u32 n1, .int .u32 n2, .int .u32 n3, .int .u32 n4]; have hZ4 := HZ3.out.row #[sv r, sv h, sv m, .int .u32 n0, .int .u32 n1, .int .u32 n2, .int .u32 n3, .int .u32 n4]; have hB4 := below_setRow HB3.out (g := w.heap.size) (Nat.le_refl _) #[sv r, sv h, sv m, .int .u32 n0, .int .u32 n1, .int .u32 n2, .int .u32 n3, .int .u32 n4]; generalize World.setRow _ _ _ = w4 at *; have c4 : w4.cell? ⟨w.heap.size + 1, 0, none⟩ = some (.int .i64 0) := (by rw [hY4.cell]; rfl); have f4 := hY4.free 0; have HY4 := Lib.hid hY4; have HZ4 := Lib.hid hZ4; have HB4 := Lib.hid hB4; clear hY4 hZ4 hB4))
    have hZ5 := HZ4.out.far (p := ⟨w.heap.size + 1, 0, none⟩) (by simp) (.int .i64 0)
    have hY5 := HY4.out.set 0 (.int .i64 0)
    replace hY5 : Has _ (w.heap.size + 1) 28 #[.int .i64 0] := hY5
    have hB5 := HB4.out.setCell (p := ⟨w.heap.size + 1, 0, none⟩) (by simp) (.int .i64 0)
    clear c4 f4
    generalize World.setCell _ _ _ = w5 at *
    have z0 : w5.cell? ⟨w.heap.size, 0, none⟩ = some (sv r) := by rw [hZ5.cell]; rfl
    have z1 : w5.cell? ⟨w.heap.size, 1, none⟩ = some (sv h) := by rw [hZ5.cell]; rfl
    have z2 : w5.cell? ⟨w.heap.size, 2, none⟩ = some (sv m) := by rw [hZ5.cell]; rfl
    have z3 : w5.cell? ⟨w.heap.size, 3, none⟩ = some (.int .u32 n0) := by rw [hZ5.cell]; rfl
    have z4 : w5.cell? ⟨w.heap.size, 4, none⟩ = some (.int .u32 n1) := by rw [hZ5.cell]; rfl
    have z5 : w5.cell? ⟨w.heap.size, 5, none⟩ = some (.int .u32 n2) := by rw [hZ5.cell]; rfl
    have z6 : w5.cell? ⟨w.heap.size, 6, none⟩ = some (.int .u32 n3) := by rw [hZ5.cell]; rfl
    have z7 : w5.cell? ⟨w.heap.size, 7, none⟩ = some (.int .u32 n4) := by rw [hZ5.cell]; rfl
    have y0 : w5.cell? ⟨w.heap.size + 1, 0, none⟩ = some (.int .i64 0) := by rw [hY5.cell]; rfl
    have HB5 := Lib.hid hB5
    clear hZ5 hY5 hB5
    refine leaves_cons (f := 20) (args := #[.pointer (some ⟨w.heap.size, 0, none⟩), .pointer (some ⟨w.heap.size + 1, 0, none⟩)]) (by simp) (by simp [go_sem]) ?_
    refine (catch_idle _ _ _).mono ?_
    rintro e u' w'' ⟨rfl, rfl, rfl⟩
    simp [Leaves, settle, results, Tryz.results6, go_sem, z0, z1, z2, z3, z4, z5, z6, z7, y0]
    exact ⟨rfl, HB5.out⟩
  | cons x rs =>
    obtain ⟨q, p, c', l, k, hv, hc, hm, hq, hrg, _⟩ := HW.out.head
    injection hv with hv1 hv2 hv3
    subst hv1
    subst hv3
    obtain ⟨x0, x1, _, _⟩ := wdC_cells (range_below HB2.out hq hrg)
    have hl1 : ((x :: rs).length : Int) = (rs.length : Int) + 1 := by simp
    clear hrg hv2 hl1
    obtain ⟨xt, xq⟩ := x
    by_cases hx : xt = [92, 35]
    · subst hx
      replace x0 : W2.cell? ⟨q, p, none⟩ = some (.string ⟨#[92, 35]⟩) := x0
      have hb : ((⟨#[92, 35]⟩ : ByteArray).toList == (⟨#[92, 35]⟩ : ByteArray).toList) = true := (Lib.bytes_beq_iff _ _).2 rfl
      cases xq with
      | true =>
        have HRK : Hid (Rd.knownR o.data.toList t (([92, 35], true) :: rs) = some ⟨r, h, m, n0, n1, n2, n3, n4⟩) := by
          have := HR.out
          unfold Rd.readR at this
          rw [Hid]
          simpa using this
        have HC : Hid (Calls Tryz.prog 22 #[.pointer (some ⟨w1.heap.size, 0, none⟩), .int .u16 t] W2 fun e w' => e = .returned (.agg #[sv r, sv h, sv m, .int .u32 n0, .int .u32 n1, .int .u32 n2, .int .u32 n3, .int .u32 n4]) ∧ Kb w1.heap.size W2.heap.size W2 w') := rdKnown_ok HST.out ht HRK.out H32.out hos
        go_wp2_with (first
          | (go_at_call 22; refine HC.out.mono ?_; rintro e w3 ⟨rfl, K3⟩; have HZ3 := Lib.hid (K3.has HZ2.out HZ2.out.lt (by omega)); have HY3 := Lib.hid (K3.has HY2.out HY2.out.lt (by omega)); have HB3 := Lib.hid (HB2.out.trans (K3.toBelow (by omega) (by have := HB2.out.size; omega))); clear K3)
          | (refine wpList_store_row rfl 27 (.tmp 6) (.tmp 37) rfl w.heap.size #[sv r, sv h, sv m, .int .u32 n0, .int .u32 n1, .int .u32 n2, .int .u32 n3, .int .u32 n4] rfl rfl 27 _ HZ3.out HI.out rfl (by simp [Value.oneCell']) ?_; have hY4 := HY3.out.rowFar (g' := w.heap.size) (by omega) #[sv r, sv h, sv m, .int .u32 n0, .int .u32 n1, .int .u32 n2, .int .u32 n3, .int .u32 n4]; have hZ4 := HZ3.out.row #[sv r, sv h, sv m, .int .u32 n0, .int .u32 n1, .int .u32 n2, .int .u32 n3, .int .u32 n4]; have hB4 := below_setRow HB3.out (g := w.heap.size) (Nat.le_refl _) #[sv r, sv h, sv m, .int .u32 n0, .int .u32 n1, .int .u32 n2, .int .u32 n3, .int .u32 n4]; generalize World.setRow _ _ _ = w4 at *; have c4 : w4.cell? ⟨w.heap.size + 1, 0, none⟩ = some (.int .i64 0) := (by rw [hY4.cell]; rfl); have f4 := hY4.free 0; have HY4 := Lib.hid hY4; have HZ4 := Lib.hid hZ4; have HB4 := Lib.hid hB4; clear hY4 hZ4 hB4))
        have hZ5 := HZ4.out.far (p := ⟨w.heap.size + 1, 0, none⟩) (by simp) (.int .i64 0)
        have hY5 := HY4.out.set 0 (.int .i64 0)
        replace hY5 : Has _ (w.heap.size + 1) 28 #[.int .i64 0] := hY5
        have hB5 := HB4.out.setCell (p := ⟨w.heap.size + 1, 0, none⟩) (by simp) (.int .i64 0)
        clear c4 f4
        generalize World.setCell _ _ _ = w5 at *
        have z0 : w5.cell? ⟨w.heap.size, 0, none⟩ = some (sv r) := by rw [hZ5.cell]; rfl
        have z1 : w5.cell? ⟨w.heap.size, 1, none⟩ = some (sv h) := by rw [hZ5.cell]; rfl
        have z2 : w5.cell? ⟨w.heap.size, 2, none⟩ = some (sv m) := by rw [hZ5.cell]; rfl
        have z3 : w5.cell? ⟨w.heap.size, 3, none⟩ = some (.int .u32 n0) := by rw [hZ5.cell]; rfl
        have z4 : w5.cell? ⟨w.heap.size, 4, none⟩ = some (.int .u32 n1) := by rw [hZ5.cell]; rfl
        have z5 : w5.cell? ⟨w.heap.size, 5, none⟩ = some (.int .u32 n2) := by rw [hZ5.cell]; rfl
        have z6 : w5.cell? ⟨w.heap.size, 6, none⟩ = some (.int .u32 n3) := by rw [hZ5.cell]; rfl
        have z7 : w5.cell? ⟨w.heap.size, 7, none⟩ = some (.int .u32 n4) := by rw [hZ5.cell]; rfl
        have y0 : w5.cell? ⟨w.heap.size + 1, 0, none⟩ = some (.int .i64 0) := by rw [hY5.cell]; rfl
        have HB5 := Lib.hid hB5
        clear hZ5 hY5 hB5
        refine leaves_cons (f := 20) (args := #[.pointer (some ⟨w.heap.size, 0, none⟩), .pointer (some ⟨w.heap.size + 1, 0, none⟩)]) (by simp) (by simp [go_sem]) ?_
        refine (catch_idle _ _ _).mono ?_
        rintro e u' w'' ⟨rfl, rfl, rfl⟩
        simp [Leaves, settle, results, Tryz.results6, go_sem, z0, z1, z2, z3, z4, z5, z6, z7, y0]
        exact ⟨rfl, HB5.out⟩
      | false =>
        have hra := HR.out
        unfold Rd.readR at hra
        simp only [and_self, if_true] at hra
        have hpt : Rd.parts t = [4, 0, 0, 0, 0, 0, 0] := Decidable.byContradiction fun hpt => by rw [if_neg hpt] at hra; cases hra
        rw [if_pos hpt] at hra
        obtain ⟨raw, hra2, he⟩ := Rd.map_some' hra
        have HC : Hid (Calls Tryz.prog 21 #[.pointer (some ⟨w1.heap.size, 0, none⟩), .int .u16 t] W2 fun e w' => e = .returned (.agg #[sv r, sv h, sv m, .int .u32 n0, .int .u32 n1, .int .u32 n2, .int .u32 n3, .int .u32 n4]) ∧ Kb w1.heap.size W2.heap.size W2 w') := by
          have := rdAny_ok HST.out ht hpt hra2 (fun y hy => H32.out y (by simp [hy]))
          rw [he] at this
          exact this
        clear hra hra2 he hpt
        go_wp2_with (first
          | (go_at_call 21; refine HC.out.mono ?_; rintro e w3 ⟨rfl, K3⟩; have HZ3 := Lib.hid (K3.has HZ2.out HZ2.out.lt (by omega)); have HY3 := Lib.hid (K3.has HY2.out HY2.out.lt (by omega)); have HB3 := Lib.hid (HB2.out.trans (K3.toBelow (by omega) (by have := HB2.out.size; omega))); clear K3)
          | (refine wpList_store_row rfl 27 (.tmp 6) (.tmp 35) rfl w.heap.size #[sv r, sv h, sv m, .int .u32 n0, .int .u32 n1, .int .u32 n2, .int .u32 n3, .int .u32 n4] rfl rfl 27 _ HZ3.out HI.out rfl (by simp [Value.oneCell']) ?_; have hY4 := HY3.out.rowFar (g' := w.heap.size) (by omega) #[sv r, sv h, sv m, .int .u32 n0, .int .u32 n1, .int .u32 n2, .int .u32 n3, .int .u32 n4]; have hZ4 := HZ3.out.row #[sv r, sv h, sv m, .int .u32 n0, .int .u32 n1, .int .u32 n2, .int .u32 n3, .int .u32 n4]; have hB4 := below_setRow HB3.out (g := w.heap.size) (Nat.le_refl _) #[sv r, sv h, sv m, .int .u32 n0, .int .u32 n1, .int .u32 n2, .int .u32 n3, .int .u32 n4]; generalize World.setRow _ _ _ = w4 at *; have c4 : w4.cell? ⟨w.heap.size + 1, 0, none⟩ = some (.int .i64 0) := (by rw [hY4.cell]; rfl); have f4 := hY4.free 0; have HY4 := Lib.hid hY4; have HZ4 := Lib.hid hZ4; have HB4 := Lib.hid hB4; clear hY4 hZ4 hB4))
        have hZ5 := HZ4.out.far (p := ⟨w.heap.size + 1, 0, none⟩) (by simp) (.int .i64 0)
        have hY5 := HY4.out.set 0 (.int .i64 0)
        replace hY5 : Has _ (w.heap.size + 1) 28 #[.int .i64 0] := hY5
        have hB5 := HB4.out.setCell (p := ⟨w.heap.size + 1, 0, none⟩) (by simp) (.int .i64 0)
        clear c4 f4
        generalize World.setCell _ _ _ = w5 at *
        have z0 : w5.cell? ⟨w.heap.size, 0, none⟩ = some (sv r) := by rw [hZ5.cell]; rfl
        have z1 : w5.cell? ⟨w.heap.size, 1, none⟩ = some (sv h) := by rw [hZ5.cell]; rfl
        have z2 : w5.cell? ⟨w.heap.size, 2, none⟩ = some (sv m) := by rw [hZ5.cell]; rfl
        have z3 : w5.cell? ⟨w.heap.size, 3, none⟩ = some (.int .u32 n0) := by rw [hZ5.cell]; rfl
        have z4 : w5.cell? ⟨w.heap.size, 4, none⟩ = some (.int .u32 n1) := by rw [hZ5.cell]; rfl
        have z5 : w5.cell? ⟨w.heap.size, 5, none⟩ = some (.int .u32 n2) := by rw [hZ5.cell]; rfl
        have z6 : w5.cell? ⟨w.heap.size, 6, none⟩ = some (.int .u32 n3) := by rw [hZ5.cell]; rfl
        have z7 : w5.cell? ⟨w.heap.size, 7, none⟩ = some (.int .u32 n4) := by rw [hZ5.cell]; rfl
        have y0 : w5.cell? ⟨w.heap.size + 1, 0, none⟩ = some (.int .i64 0) := by rw [hY5.cell]; rfl
        have HB5 := Lib.hid hB5
        clear hZ5 hY5 hB5
        refine leaves_cons (f := 20) (args := #[.pointer (some ⟨w.heap.size, 0, none⟩), .pointer (some ⟨w.heap.size + 1, 0, none⟩)]) (by simp) (by simp [go_sem]) ?_
        refine (catch_idle _ _ _).mono ?_
        rintro e u' w'' ⟨rfl, rfl, rfl⟩
        simp [Leaves, settle, results, Tryz.results6, go_sem, z0, z1, z2, z3, z4, z5, z6, z7, y0]
        exact ⟨rfl, HB5.out⟩
    · have hb : (xt == ([92, 35] : List UInt8)) = false := beq_eq_false_iff_ne.2 hx
      have HRK : Hid (Rd.knownR o.data.toList t ((xt, xq) :: rs) = some ⟨r, h, m, n0, n1, n2, n3, n4⟩) := by
        have := HR.out
        unfold Rd.readR at this
        simp only [hx, false_and, if_false] at this
        exact this
      clear hx
      have HC : Hid (Calls Tryz.prog 22 #[.pointer (some ⟨w1.heap.size, 0, none⟩), .int .u16 t] W2 fun e w' => e = .returned (.agg #[sv r, sv h, sv m, .int .u32 n0, .int .u32 n1, .int .u32 n2, .int .u32 n3, .int .u32 n4]) ∧ Kb w1.heap.size W2.heap.size W2 w') := rdKnown_ok HST.out ht HRK.out H32.out hos
      go_wp2_with (first
        | (go_at_call 22; refine HC.out.mono ?_; rintro e w3 ⟨rfl, K3⟩; have HZ3 := Lib.hid (K3.has HZ2.out HZ2.out.lt (by omega)); have HY3 := Lib.hid (K3.has HY2.out HY2.out.lt (by omega)); have HB3 := Lib.hid (HB2.out.trans (K3.toBelow (by omega) (by have := HB2.out.size; omega))); clear K3)
        | (refine wpList_store_row rfl 27 (.tmp 6) (.tmp 37) rfl w.heap.size #[sv r, sv h, sv m, .int .u32 n0, .int .u32 n1, .int .u32 n2, .int .u32 n3, .int .u32 n4] rfl rfl 27 _ HZ3.out HI.out rfl (by simp [Value.oneCell']) ?_; have hY4 := HY3.out.rowFar (g' := w.heap.size) (by omega) #[sv r, sv h, sv m, .int .u32 n0, .int .u32 n1, .int .u32 n2, .int .u32 n3, .int .u32 n4]; have hZ4 := HZ3.out.row #[sv r, sv h, sv m, .int .u32 n0, .int .u32 n1, .int .u32 n2, .int .u32 n3, .int .u32 n4]; have hB4 := below_setRow HB3.out (g := w.heap.size) (Nat.le_refl _) #[sv r, sv h, sv m, .int .u32 n0, .int .u32 n1, .int .u32 n2, .int .u32 n3, .int .u32 n4]; generalize World.setRow _ _ _ = w4 at *; have c4 : w4.cell? ⟨w.heap.size + 1, 0, none⟩ = some (.int .i64 0) := (by rw [hY4.cell]; rfl); have f4 := hY4.free 0; have HY4 := Lib.hid hY4; have HZ4 := Lib.hid hZ4; have HB4 := Lib.hid hB4; clear hY4 hZ4 hB4))
      have hZ5 := HZ4.out.far (p := ⟨w.heap.size + 1, 0, none⟩) (by simp) (.int .i64 0)
      have hY5 := HY4.out.set 0 (.int .i64 0)
      replace hY5 : Has _ (w.heap.size + 1) 28 #[.int .i64 0] := hY5
      have hB5 := HB4.out.setCell (p := ⟨w.heap.size + 1, 0, none⟩) (by simp) (.int .i64 0)
      clear c4 f4
      generalize World.setCell _ _ _ = w5 at *
      have z0 : w5.cell? ⟨w.heap.size, 0, none⟩ = some (sv r) := by rw [hZ5.cell]; rfl
      have z1 : w5.cell? ⟨w.heap.size, 1, none⟩ = some (sv h) := by rw [hZ5.cell]; rfl
      have z2 : w5.cell? ⟨w.heap.size, 2, none⟩ = some (sv m) := by rw [hZ5.cell]; rfl
      have z3 : w5.cell? ⟨w.heap.size, 3, none⟩ = some (.int .u32 n0) := by rw [hZ5.cell]; rfl
      have z4 : w5.cell? ⟨w.heap.size, 4, none⟩ = some (.int .u32 n1) := by rw [hZ5.cell]; rfl
      have z5 : w5.cell? ⟨w.heap.size, 5, none⟩ = some (.int .u32 n2) := by rw [hZ5.cell]; rfl
      have z6 : w5.cell? ⟨w.heap.size, 6, none⟩ = some (.int .u32 n3) := by rw [hZ5.cell]; rfl
      have z7 : w5.cell? ⟨w.heap.size, 7, none⟩ = some (.int .u32 n4) := by rw [hZ5.cell]; rfl
      have y0 : w5.cell? ⟨w.heap.size + 1, 0, none⟩ = some (.int .i64 0) := by rw [hY5.cell]; rfl
      have HB5 := Lib.hid hB5
      clear hZ5 hY5 hB5
      refine leaves_cons (f := 20) (args := #[.pointer (some ⟨w.heap.size, 0, none⟩), .pointer (some ⟨w.heap.size + 1, 0, none⟩)]) (by simp) (by simp [go_sem]) ?_
      refine (catch_idle _ _ _).mono ?_
      rintro e u' w'' ⟨rfl, rfl, rfl⟩
      simp [Leaves, settle, results, Tryz.results6, go_sem, z0, z1, z2, z3, z4, z5, z6, z7, y0]
      exact ⟨rfl, HB5.out⟩
end
end Go.Proofs.YtopcklpmeaghmaaGreatDoor
