/- Texts of the proofs, merged. -/
import Derived.Test.YtcillepoibpfiaaDoorG36
import Derived.Test.YtcillepoibpfiaaDoorG22
import Derived.Test.YtcillepoibpfiaaDoorG42
/- RrsetOrder: three records: the walk, by what Cmp tells of the first two (-1). -/
namespace Go.Proofs.YtcillepoibpfiaaDoor
open Go.RowKit

theorem below_on6m {a b c : World} (h : Below a.heap.size a b) (k : Below b.heap.size b c) : Below a.heap.size a c := h.trans (k.mono h.size)
set_option maxHeartbeats 8000000 in
set_option maxRecDepth 1000000 in
theorem order_m (w : World) (hL : LayR w) (a b c : Rv) (ha : a.nums ∧ a.short) (hb : b.nums ∧ b.short) (hc : c.nums ∧ c.short)
    (hx : Rr.cmpR a.fold.rc b.fold.rc = -1) :
    Calls Tryd.prog 7 #[a.val, b.val, c.val] w fun e w' => e = .returned (.bool true) ∧ Below w.heap.size w w' := by
  have hy : Rr.cmpR b.fold.rc a.fold.rc = 1 := by have := Rr.od_cmpR.neg a.fold.rc b.fold.rc; omega
  have hz := Rr.od_cmpR.range b.fold.rc c.fold.rc
  have hu := Rr.od_cmpR.range a.fold.rc c.fold.rc
  have ht : Rr.cmpR a.fold.rc b.fold.rc ≤ 0 → Rr.cmpR b.fold.rc c.fold.rc ≤ 0 → Rr.cmpR a.fold.rc c.fold.rc ≤ 0 := Rr.od_cmpR.trans _ _ _
  rw [hx] at ht
  have hE : rvB a.fold b.fold = false := by
    cases h : rvB a.fold b.fold with
    | false => rfl
    | true =>
      have e := Rr.cmpR_zero.2 (congrArg Rv.rc ((rvB_iff _ _).1 h))
      omega
  obtain ⟨X, hX⟩ : ∃ X, a.fold = X := ⟨_, rfl⟩
  obtain ⟨Y, hY⟩ : ∃ Y, b.fold = Y := ⟨_, rfl⟩
  obtain ⟨Z, hZ⟩ : ∃ Z, c.fold = Z := ⟨_, rfl⟩
  have hB0 : Below w.heap.size w (((w.alloc (.cells #[.string a.nm, .int .u16 a.ty, .int .u16 a.cl, .int .u32 a.ttl, .string a.d.raw, .string a.d.host, .string a.d.mail, .int .u32 a.d.n0, .int .u32 a.d.n1, .int .u32 a.d.n2, .int .u32 a.d.n3, .int .u32 a.d.n4] 29)).alloc (.cells #[.string b.nm, .int .u16 b.ty, .int .u16 b.cl, .int .u32 b.ttl, .string b.d.raw, .string b.d.host, .string b.d.mail, .int .u32 b.d.n0, .int .u32 b.d.n1, .int .u32 b.d.n2, .int .u32 b.d.n3, .int .u32 b.d.n4] 29)).alloc (.cells #[.string c.nm, .int .u16 c.ty, .int .u16 c.cl, .int .u32 c.ttl, .string c.d.raw, .string c.d.host, .string c.d.mail, .int .u32 c.d.n0, .int .u32 c.d.n1, .int .u32 c.d.n2, .int .u32 c.d.n3, .int .u32 c.d.n4] 29)) := (((Below.refl _ _).alloc (Nat.le_refl _) _).alloc (by simp) _).alloc (by simp; omega) _
  have hA0 := hL.below hB0 (Nat.le_refl _)
  have hXa : Has (((w.alloc (.cells #[.string a.nm, .int .u16 a.ty, .int .u16 a.cl, .int .u32 a.ttl, .string a.d.raw, .string a.d.host, .string a.d.mail, .int .u32 a.d.n0, .int .u32 a.d.n1, .int .u32 a.d.n2, .int .u32 a.d.n3, .int .u32 a.d.n4] 29)).alloc (.cells #[.string b.nm, .int .u16 b.ty, .int .u16 b.cl, .int .u32 b.ttl, .string b.d.raw, .string b.d.host, .string b.d.mail, .int .u32 b.d.n0, .int .u32 b.d.n1, .int .u32 b.d.n2, .int .u32 b.d.n3, .int .u32 b.d.n4] 29)).alloc (.cells #[.string c.nm, .int .u16 c.ty, .int .u16 c.cl, .int .u32 c.ttl, .string c.d.raw, .string c.d.host, .string c.d.mail, .int .u32 c.d.n0, .int .u32 c.d.n1, .int .u32 c.d.n2, .int .u32 c.d.n3, .int .u32 c.d.n4] 29)) w.heap.size 29 #[.string a.nm, .int .u16 a.ty, .int .u16 a.cl, .int .u32 a.ttl, .string a.d.raw, .string a.d.host, .string a.d.mail, .int .u32 a.d.n0, .int .u32 a.d.n1, .int .u32 a.d.n2, .int .u32 a.d.n3, .int .u32 a.d.n4] := ((Has.fresh w _ _).alloc _).alloc _
  have hXb : Has (((w.alloc (.cells #[.string a.nm, .int .u16 a.ty, .int .u16 a.cl, .int .u32 a.ttl, .string a.d.raw, .string a.d.host, .string a.d.mail, .int .u32 a.d.n0, .int .u32 a.d.n1, .int .u32 a.d.n2, .int .u32 a.d.n3, .int .u32 a.d.n4] 29)).alloc (.cells #[.string b.nm, .int .u16 b.ty, .int .u16 b.cl, .int .u32 b.ttl, .string b.d.raw, .string b.d.host, .string b.d.mail, .int .u32 b.d.n0, .int .u32 b.d.n1, .int .u32 b.d.n2, .int .u32 b.d.n3, .int .u32 b.d.n4] 29)).alloc (.cells #[.string c.nm, .int .u16 c.ty, .int .u16 c.cl, .int .u32 c.ttl, .string c.d.raw, .string c.d.host, .string c.d.mail, .int .u32 c.d.n0, .int .u32 c.d.n1, .int .u32 c.d.n2, .int .u32 c.d.n3, .int .u32 c.d.n4] 29)) (w.heap.size + 1) 29 #[.string b.nm, .int .u16 b.ty, .int .u16 b.cl, .int .u32 b.ttl, .string b.d.raw, .string b.d.host, .string b.d.mail, .int .u32 b.d.n0, .int .u32 b.d.n1, .int .u32 b.d.n2, .int .u32 b.d.n3, .int .u32 b.d.n4] := by
    have h := Has.fresh (w.alloc (.cells #[.string a.nm, .int .u16 a.ty, .int .u16 a.cl, .int .u32 a.ttl, .string a.d.raw, .string a.d.host, .string a.d.mail, .int .u32 a.d.n0, .int .u32 a.d.n1, .int .u32 a.d.n2, .int .u32 a.d.n3, .int .u32 a.d.n4] 29)) 29 #[.string b.nm, .int .u16 b.ty, .int .u16 b.cl, .int .u32 b.ttl, .string b.d.raw, .string b.d.host, .string b.d.mail, .int .u32 b.d.n0, .int .u32 b.d.n1, .int .u32 b.d.n2, .int .u32 b.d.n3, .int .u32 b.d.n4]
    have e : (w.alloc (.cells #[.string a.nm, .int .u16 a.ty, .int .u16 a.cl, .int .u32 a.ttl, .string a.d.raw, .string a.d.host, .string a.d.mail, .int .u32 a.d.n0, .int .u32 a.d.n1, .int .u32 a.d.n2, .int .u32 a.d.n3, .int .u32 a.d.n4] 29)).heap.size = w.heap.size + 1 := by simp
    rw [e] at h
    exact h.alloc _
  have hXc : Has (((w.alloc (.cells #[.string a.nm, .int .u16 a.ty, .int .u16 a.cl, .int .u32 a.ttl, .string a.d.raw, .string a.d.host, .string a.d.mail, .int .u32 a.d.n0, .int .u32 a.d.n1, .int .u32 a.d.n2, .int .u32 a.d.n3, .int .u32 a.d.n4] 29)).alloc (.cells #[.string b.nm, .int .u16 b.ty, .int .u16 b.cl, .int .u32 b.ttl, .string b.d.raw, .string b.d.host, .string b.d.mail, .int .u32 b.d.n0, .int .u32 b.d.n1, .int .u32 b.d.n2, .int .u32 b.d.n3, .int .u32 b.d.n4] 29)).alloc (.cells #[.string c.nm, .int .u16 c.ty, .int .u16 c.cl, .int .u32 c.ttl, .string c.d.raw, .string c.d.host, .string c.d.mail, .int .u32 c.d.n0, .int .u32 c.d.n1, .int .u32 c.d.n2, .int .u32 c.d.n3, .int .u32 c.d.n4] 29)) (w.heap.size + 2) 29 #[.string c.nm, .int .u16 c.ty, .int .u16 c.cl, .int .u32 c.ttl, .string c.d.raw, .string c.d.host, .string c.d.mail, .int .u32 c.d.n0, .int .u32 c.d.n1, .int .u32 c.d.n2, .int .u32 c.d.n3, .int .u32 c.d.n4] := by
    have h := Has.fresh ((w.alloc (.cells #[.string a.nm, .int .u16 a.ty, .int .u16 a.cl, .int .u32 a.ttl, .string a.d.raw, .string a.d.host, .string a.d.mail, .int .u32 a.d.n0, .int .u32 a.d.n1, .int .u32 a.d.n2, .int .u32 a.d.n3, .int .u32 a.d.n4] 29)).alloc (.cells #[.string b.nm, .int .u16 b.ty, .int .u16 b.cl, .int .u32 b.ttl, .string b.d.raw, .string b.d.host, .string b.d.mail, .int .u32 b.d.n0, .int .u32 b.d.n1, .int .u32 b.d.n2, .int .u32 b.d.n3, .int .u32 b.d.n4] 29)) 29 #[.string c.nm, .int .u16 c.ty, .int .u16 c.cl, .int .u32 c.ttl, .string c.d.raw, .string c.d.host, .string c.d.mail, .int .u32 c.d.n0, .int .u32 c.d.n1, .int .u32 c.d.n2, .int .u32 c.d.n3, .int .u32 c.d.n4]
    have e : ((w.alloc (.cells #[.string a.nm, .int .u16 a.ty, .int .u16 a.cl, .int .u32 a.ttl, .string a.d.raw, .string a.d.host, .string a.d.mail, .int .u32 a.d.n0, .int .u32 a.d.n1, .int .u32 a.d.n2, .int .u32 a.d.n3, .int .u32 a.d.n4] 29)).alloc (.cells #[.string b.nm, .int .u16 b.ty, .int .u16 b.cl, .int .u32 b.ttl, .string b.d.raw, .string b.d.host, .string b.d.mail, .int .u32 b.d.n0, .int .u32 b.d.n1, .int .u32 b.d.n2, .int .u32 b.d.n3, .int .u32 b.d.n4] 29)).heap.size = w.heap.size + 2 := by simp
    rw [e] at h
    exact h
  generalize hwb : ((w.alloc (.cells #[.string a.nm, .int .u16 a.ty, .int .u16 a.cl, .int .u32 a.ttl, .string a.d.raw, .string a.d.host, .string a.d.mail, .int .u32 a.d.n0, .int .u32 a.d.n1, .int .u32 a.d.n2, .int .u32 a.d.n3, .int .u32 a.d.n4] 29)).alloc (.cells #[.string b.nm, .int .u16 b.ty, .int .u16 b.cl, .int .u32 b.ttl, .string b.d.raw, .string b.d.host, .string b.d.mail, .int .u32 b.d.n0, .int .u32 b.d.n1, .int .u32 b.d.n2, .int .u32 b.d.n3, .int .u32 b.d.n4] 29)).alloc (.cells #[.string c.nm, .int .u16 c.ty, .int .u16 c.cl, .int .u32 c.ttl, .string c.d.raw, .string c.d.host, .string c.d.mail, .int .u32 c.d.n0, .int .u32 c.d.n1, .int .u32 c.d.n2, .int .u32 c.d.n3, .int .u32 c.d.n4] 29) = wb at *
  have HAB := Lib.hid (fun (W : World) (h : Below wb.heap.size wb W) => (show Calls Tryd.prog 18 #[.agg #[.string a.nm, .int .u16 a.ty, .int .u16 a.cl, .int .u32 a.ttl, .string a.d.raw, .string a.d.host, .string a.d.mail, .int .u32 a.d.n0, .int .u32 a.d.n1, .int .u32 a.d.n2, .int .u32 a.d.n3, .int .u32 a.d.n4], .agg #[.string b.nm, .int .u16 b.ty, .int .u16 b.cl, .int .u32 b.ttl, .string b.d.raw, .string b.d.host, .string b.d.mail, .int .u32 b.d.n0, .int .u32 b.d.n1, .int .u32 b.d.n2, .int .u32 b.d.n3, .int .u32 b.d.n4]] W _ from rrCmp_any a b W (hA0.below h (Nat.le_refl _)) ha hb))
  have HBA := Lib.hid (fun (W : World) (h : Below wb.heap.size wb W) => (show Calls Tryd.prog 18 #[.agg #[.string b.nm, .int .u16 b.ty, .int .u16 b.cl, .int .u32 b.ttl, .string b.d.raw, .string b.d.host, .string b.d.mail, .int .u32 b.d.n0, .int .u32 b.d.n1, .int .u32 b.d.n2, .int .u32 b.d.n3, .int .u32 b.d.n4], .agg #[.string a.nm, .int .u16 a.ty, .int .u16 a.cl, .int .u32 a.ttl, .string a.d.raw, .string a.d.host, .string a.d.mail, .int .u32 a.d.n0, .int .u32 a.d.n1, .int .u32 a.d.n2, .int .u32 a.d.n3, .int .u32 a.d.n4]] W _ from rrCmp_any b a W (hA0.below h (Nat.le_refl _)) hb ha))
  have HBC := Lib.hid (fun (W : World) (h : Below wb.heap.size wb W) => (show Calls Tryd.prog 18 #[.agg #[.string b.nm, .int .u16 b.ty, .int .u16 b.cl, .int .u32 b.ttl, .string b.d.raw, .string b.d.host, .string b.d.mail, .int .u32 b.d.n0, .int .u32 b.d.n1, .int .u32 b.d.n2, .int .u32 b.d.n3, .int .u32 b.d.n4], .agg #[.string c.nm, .int .u16 c.ty, .int .u16 c.cl, .int .u32 c.ttl, .string c.d.raw, .string c.d.host, .string c.d.mail, .int .u32 c.d.n0, .int .u32 c.d.n1, .int .u32 c.d.n2, .int .u32 c.d.n3, .int .u32 c.d.n4]] W _ from rrCmp_any b c W (hA0.below h (Nat.le_refl _)) hb hc))
  have HAC := Lib.hid (fun (W : World) (h : Below wb.heap.size wb W) => (show Calls Tryd.prog 18 #[.agg #[.string a.nm, .int .u16 a.ty, .int .u16 a.cl, .int .u32 a.ttl, .string a.d.raw, .string a.d.host, .string a.d.mail, .int .u32 a.d.n0, .int .u32 a.d.n1, .int .u32 a.d.n2, .int .u32 a.d.n3, .int .u32 a.d.n4], .agg #[.string c.nm, .int .u16 c.ty, .int .u16 c.cl, .int .u32 c.ttl, .string c.d.raw, .string c.d.host, .string c.d.mail, .int .u32 c.d.n0, .int .u32 c.d.n1, .int .u32 c.d.n2, .int .u32 c.d.n3, .int .u32 c.d.n4]] W _ from rrCmp_any a c W (hA0.below h (Nat.le_refl _)) ha hc))
  have HFA := Lib.hid (fun (W : World) (h : Below wb.heap.size wb W) => (show Calls Tryd.prog 15 #[.agg #[.string a.nm, .int .u16 a.ty, .int .u16 a.cl, .int .u32 a.ttl, .string a.d.raw, .string a.d.host, .string a.d.mail, .int .u32 a.d.n0, .int .u32 a.d.n1, .int .u32 a.d.n2, .int .u32 a.d.n3, .int .u32 a.d.n4]] W (fun e w' => e = .returned (.agg a.fold.cells) ∧ Below W.heap.size W w') from rrFold_any a W (hA0.below h (Nat.le_refl _)) ha.1.1 ha.2))
  have HFB := Lib.hid (fun (W : World) (h : Below wb.heap.size wb W) => (show Calls Tryd.prog 15 #[.agg #[.string b.nm, .int .u16 b.ty, .int .u16 b.cl, .int .u32 b.ttl, .string b.d.raw, .string b.d.host, .string b.d.mail, .int .u32 b.d.n0, .int .u32 b.d.n1, .int .u32 b.d.n2, .int .u32 b.d.n3, .int .u32 b.d.n4]] W (fun e w' => e = .returned (.agg b.fold.cells) ∧ Below W.heap.size W w') from rrFold_any b W (hA0.below h (Nat.le_refl _)) hb.1.1 hb.2))
  have HW := Lib.hid (fun (W : World) (h : Below wb.heap.size wb W) => rrWakes W (hA0.below h (Nat.le_refl _)))
  rw [hx] at HAB
  rw [hy] at HBA
  have eA : a.val = .agg #[.string a.nm, .int .u16 a.ty, .int .u16 a.cl, .int .u32 a.ttl, .string a.d.raw, .string a.d.host, .string a.d.mail, .int .u32 a.d.n0, .int .u32 a.d.n1, .int .u32 a.d.n2, .int .u32 a.d.n3, .int .u32 a.d.n4] := rfl
  have eB : b.val = .agg #[.string b.nm, .int .u16 b.ty, .int .u16 b.cl, .int .u32 b.ttl, .string b.d.raw, .string b.d.host, .string b.d.mail, .int .u32 b.d.n0, .int .u32 b.d.n1, .int .u32 b.d.n2, .int .u32 b.d.n3, .int .u32 b.d.n4] := rfl
  have eC : c.val = .agg #[.string c.nm, .int .u16 c.ty, .int .u16 c.cl, .int .u32 c.ttl, .string c.d.raw, .string c.d.host, .string c.d.mail, .int .u32 c.d.n0, .int .u32 c.d.n1, .int .u32 c.d.n2, .int .u32 c.d.n3, .int .u32 c.d.n4] := rfl
  rw [eA, eB, eC]
  rw [hX] at HFA hE
  rw [hY] at HFB hE
  have pe : ∀ W, (Op.equalIn 10000 29 (.agg X.cells) (.agg Y.cells)).run Tryd.prog W = .ok false W := fun W => by
    have h := rvRun W X Y 9995
    rw [hE] at h
    exact h
  generalize X.cells = XC at *
  generalize Y.cells = YC at *
  generalize Rr.cmpR b.fold.rc c.fold.rc = z at *
  generalize Rr.cmpR a.fold.rc c.fold.rc = u at *
  have HT := Lib.hid ht
  clear ht hE hX hY hZ hL hA0 ha hb hc hx hy eA eB eC
  have HK := Lib.hid (fun (W : World) (hb : Below wb.heap.size wb W) => (show (W.cell? ⟨w.heap.size, 0, none⟩ = some (.string a.nm) ∧ W.cell? ⟨w.heap.size, 1, none⟩ = some (.int .u16 a.ty) ∧ W.cell? ⟨w.heap.size, 2, none⟩ = some (.int .u16 a.cl) ∧ W.cell? ⟨w.heap.size, 3, none⟩ = some (.int .u32 a.ttl) ∧ W.cell? ⟨w.heap.size, 4, none⟩ = some (.string a.d.raw) ∧ W.cell? ⟨w.heap.size, 5, none⟩ = some (.string a.d.host) ∧ W.cell? ⟨w.heap.size, 6, none⟩ = some (.string a.d.mail) ∧ W.cell? ⟨w.heap.size, 7, none⟩ = some (.int .u32 a.d.n0) ∧ W.cell? ⟨w.heap.size, 8, none⟩ = some (.int .u32 a.d.n1) ∧ W.cell? ⟨w.heap.size, 9, none⟩ = some (.int .u32 a.d.n2) ∧ W.cell? ⟨w.heap.size, 10, none⟩ = some (.int .u32 a.d.n3) ∧ W.cell? ⟨w.heap.size, 11, none⟩ = some (.int .u32 a.d.n4) ∧ W.cell? ⟨w.heap.size + 1, 0, none⟩ = some (.string b.nm) ∧ W.cell? ⟨w.heap.size + 1, 1, none⟩ = some (.int .u16 b.ty) ∧ W.cell? ⟨w.heap.size + 1, 2, none⟩ = some (.int .u16 b.cl) ∧ W.cell? ⟨w.heap.size + 1, 3, none⟩ = some (.int .u32 b.ttl) ∧ W.cell? ⟨w.heap.size + 1, 4, none⟩ = some (.string b.d.raw) ∧ W.cell? ⟨w.heap.size + 1, 5, none⟩ = some (.string b.d.host) ∧ W.cell? ⟨w.heap.size + 1, 6, none⟩ = some (.string b.d.mail) ∧ W.cell? ⟨w.heap.size + 1, 7, none⟩ = some (.int .u32 b.d.n0) ∧ W.cell? ⟨w.heap.size + 1, 8, none⟩ = some (.int .u32 b.d.n1) ∧ W.cell? ⟨w.heap.size + 1, 9, none⟩ = some (.int .u32 b.d.n2) ∧ W.cell? ⟨w.heap.size + 1, 10, none⟩ = some (.int .u32 b.d.n3) ∧ W.cell? ⟨w.heap.size + 1, 11, none⟩ = some (.int .u32 b.d.n4) ∧ W.cell? ⟨w.heap.size + 2, 0, none⟩ = some (.string c.nm) ∧ W.cell? ⟨w.heap.size + 2, 1, none⟩ = some (.int .u16 c.ty) ∧ W.cell? ⟨w.heap.size + 2, 2, none⟩ = some (.int .u16 c.cl) ∧ W.cell? ⟨w.heap.size + 2, 3, none⟩ = some (.int .u32 c.ttl) ∧ W.cell? ⟨w.heap.size + 2, 4, none⟩ = some (.string c.d.raw) ∧ W.cell? ⟨w.heap.size + 2, 5, none⟩ = some (.string c.d.host) ∧ W.cell? ⟨w.heap.size + 2, 6, none⟩ = some (.string c.d.mail) ∧ W.cell? ⟨w.heap.size + 2, 7, none⟩ = some (.int .u32 c.d.n0) ∧ W.cell? ⟨w.heap.size + 2, 8, none⟩ = some (.int .u32 c.d.n1) ∧ W.cell? ⟨w.heap.size + 2, 9, none⟩ = some (.int .u32 c.d.n2) ∧ W.cell? ⟨w.heap.size + 2, 10, none⟩ = some (.int .u32 c.d.n3) ∧ W.cell? ⟨w.heap.size + 2, 11, none⟩ = some (.int .u32 c.d.n4)) ∧ Below wb.heap.size wb W from ⟨by
    have h1 := hXa.below hb hXa.lt
    have h2 := hXb.below hb hXb.lt
    have h3 := hXc.below hb hXc.lt
    exact ⟨by rw [h1.cell]; rfl, by rw [h1.cell]; rfl, by rw [h1.cell]; rfl, by rw [h1.cell]; rfl, by rw [h1.cell]; rfl, by rw [h1.cell]; rfl, by rw [h1.cell]; rfl, by rw [h1.cell]; rfl, by rw [h1.cell]; rfl, by rw [h1.cell]; rfl, by rw [h1.cell]; rfl, by rw [h1.cell]; rfl, by rw [h2.cell]; rfl, by rw [h2.cell]; rfl, by rw [h2.cell]; rfl, by rw [h2.cell]; rfl, by rw [h2.cell]; rfl, by rw [h2.cell]; rfl, by rw [h2.cell]; rfl, by rw [h2.cell]; rfl, by rw [h2.cell]; rfl, by rw [h2.cell]; rfl, by rw [h2.cell]; rfl, by rw [h2.cell]; rfl, by rw [h3.cell]; rfl, by rw [h3.cell]; rfl, by rw [h3.cell]; rfl, by rw [h3.cell]; rfl, by rw [h3.cell]; rfl, by rw [h3.cell]; rfl, by rw [h3.cell]; rfl, by rw [h3.cell]; rfl, by rw [h3.cell]; rfl, by rw [h3.cell]; rfl, by rw [h3.cell]; rfl, by rw [h3.cell]; rfl⟩, hb⟩))
  have HB0 := Lib.hid hB0
  have HWB := Lib.hid hwb
  have hk := HK.out wb (Below.refl _ _)
  clear hXa hXb hXc hB0 hwb
  have HZ := Lib.hid hz
  have HU := Lib.hid hu
  clear hz hu
  have HK2 := Lib.hid (fun (W : World) (hb : Below wb.heap.size wb W) => (show (W.cell? ⟨w.heap.size, 0, none⟩ = some (.string a.nm) ∧ W.cell? ⟨w.heap.size, 1, none⟩ = some (.int .u16 a.ty) ∧ W.cell? ⟨w.heap.size, 2, none⟩ = some (.int .u16 a.cl) ∧ W.cell? ⟨w.heap.size, 3, none⟩ = some (.int .u32 a.ttl) ∧ W.cell? ⟨w.heap.size, 4, none⟩ = some (.string a.d.raw) ∧ W.cell? ⟨w.heap.size, 5, none⟩ = some (.string a.d.host) ∧ W.cell? ⟨w.heap.size, 6, none⟩ = some (.string a.d.mail) ∧ W.cell? ⟨w.heap.size, 7, none⟩ = some (.int .u32 a.d.n0) ∧ W.cell? ⟨w.heap.size, 8, none⟩ = some (.int .u32 a.d.n1) ∧ W.cell? ⟨w.heap.size, 9, none⟩ = some (.int .u32 a.d.n2) ∧ W.cell? ⟨w.heap.size, 10, none⟩ = some (.int .u32 a.d.n3) ∧ W.cell? ⟨w.heap.size, 11, none⟩ = some (.int .u32 a.d.n4) ∧ W.cell? ⟨w.heap.size + 1, 0, none⟩ = some (.string b.nm) ∧ W.cell? ⟨w.heap.size + 1, 1, none⟩ = some (.int .u16 b.ty) ∧ W.cell? ⟨w.heap.size + 1, 2, none⟩ = some (.int .u16 b.cl) ∧ W.cell? ⟨w.heap.size + 1, 3, none⟩ = some (.int .u32 b.ttl) ∧ W.cell? ⟨w.heap.size + 1, 4, none⟩ = some (.string b.d.raw) ∧ W.cell? ⟨w.heap.size + 1, 5, none⟩ = some (.string b.d.host) ∧ W.cell? ⟨w.heap.size + 1, 6, none⟩ = some (.string b.d.mail) ∧ W.cell? ⟨w.heap.size + 1, 7, none⟩ = some (.int .u32 b.d.n0) ∧ W.cell? ⟨w.heap.size + 1, 8, none⟩ = some (.int .u32 b.d.n1) ∧ W.cell? ⟨w.heap.size + 1, 9, none⟩ = some (.int .u32 b.d.n2) ∧ W.cell? ⟨w.heap.size + 1, 10, none⟩ = some (.int .u32 b.d.n3) ∧ W.cell? ⟨w.heap.size + 1, 11, none⟩ = some (.int .u32 b.d.n4)) ∧ Below wb.heap.size wb W from by
    have h := HK.out W hb
    go_split_ands
    refine ⟨⟨by assumption, by assumption, by assumption, by assumption, by assumption, by assumption, by assumption, by assumption, by assumption, by assumption, by assumption, by assumption, by assumption, by assumption, by assumption, by assumption, by assumption, by assumption, by assumption, by assumption, by assumption, by assumption, by assumption, by assumption⟩, by assumption⟩))
  clear hk
  have w0 : IntKind.i64.wrap 0 = 0 := by kernel_rfl
  have w1 : IntKind.i64.wrap 1 = 1 := by kernel_rfl
  have w2 : IntKind.i64.wrap (-1) = -1 := by kernel_rfl
  go_enter Tryd.func7, Tryd.ntmps7
  go_upto_region 1 with fail
  rw [HWB.out]
  obtain ⟨⟨q0, q1, q2, q3, q4, q5, q6, q7, q8, q9, q10, q11, q12, q13, q14, q15, q16, q17, q18, q19, q20, q21, q22, q23⟩, _⟩ := HK2.out wb (Below.refl _ _)
  go_upto_region 2 with (first
    | (go_at_call_of 18 (Value.agg #[.string a.nm, .int .u16 a.ty, .int .u16 a.cl, .int .u32 a.ttl, .string a.d.raw, .string a.d.host, .string a.d.mail, .int .u32 a.d.n0, .int .u32 a.d.n1, .int .u32 a.d.n2, .int .u32 a.d.n3, .int .u32 a.d.n4]); (with_reducible refine (HAB.out _ (Below.refl _ _)).mono ?_); rintro e W1 ⟨rfl, B1⟩; have HW1 : Hid (Below wb.heap.size wb W1) := B1; clear B1))
  clear q0 q1 q2 q3 q4 q5 q6 q7 q8 q9 q10 q11 q12 q13 q14 q15 q16 q17 q18 q19 q20 q21 q22 q23
  clear HWB
  generalize (Value.agg #[.string a.nm, .int .u16 a.ty, .int .u16 a.cl, .int .u32 a.ttl, .string a.d.raw, .string a.d.host, .string a.d.mail, .int .u32 a.d.n0, .int .u32 a.d.n1, .int .u32 a.d.n2, .int .u32 a.d.n3, .int .u32 a.d.n4]) = va
  generalize (Value.agg #[.string b.nm, .int .u16 b.ty, .int .u16 b.cl, .int .u32 b.ttl, .string b.d.raw, .string b.d.host, .string b.d.mail, .int .u32 b.d.n0, .int .u32 b.d.n1, .int .u32 b.d.n2, .int .u32 b.d.n3, .int .u32 b.d.n4]) = vb
  generalize (Value.agg #[.string c.nm, .int .u16 c.ty, .int .u16 c.cl, .int .u32 c.ttl, .string c.d.raw, .string c.d.host, .string c.d.mail, .int .u32 c.d.n0, .int .u32 c.d.n1, .int .u32 c.d.n2, .int .u32 c.d.n3, .int .u32 c.d.n4]) = vc
  refine wp_region_noPanic ?_
  refine wp_region_held_drew (S := (fun W => (W.cell? ⟨w.heap.size, 0, none⟩ = some (.string a.nm) ∧ W.cell? ⟨w.heap.size, 1, none⟩ = some (.int .u16 a.ty) ∧ W.cell? ⟨w.heap.size, 2, none⟩ = some (.int .u16 a.cl) ∧ W.cell? ⟨w.heap.size, 3, none⟩ = some (.int .u32 a.ttl) ∧ W.cell? ⟨w.heap.size, 4, none⟩ = some (.string a.d.raw) ∧ W.cell? ⟨w.heap.size, 5, none⟩ = some (.string a.d.host) ∧ W.cell? ⟨w.heap.size, 6, none⟩ = some (.string a.d.mail) ∧ W.cell? ⟨w.heap.size, 7, none⟩ = some (.int .u32 a.d.n0) ∧ W.cell? ⟨w.heap.size, 8, none⟩ = some (.int .u32 a.d.n1) ∧ W.cell? ⟨w.heap.size, 9, none⟩ = some (.int .u32 a.d.n2) ∧ W.cell? ⟨w.heap.size, 10, none⟩ = some (.int .u32 a.d.n3) ∧ W.cell? ⟨w.heap.size, 11, none⟩ = some (.int .u32 a.d.n4) ∧ W.cell? ⟨w.heap.size + 1, 0, none⟩ = some (.string b.nm) ∧ W.cell? ⟨w.heap.size + 1, 1, none⟩ = some (.int .u16 b.ty) ∧ W.cell? ⟨w.heap.size + 1, 2, none⟩ = some (.int .u16 b.cl) ∧ W.cell? ⟨w.heap.size + 1, 3, none⟩ = some (.int .u32 b.ttl) ∧ W.cell? ⟨w.heap.size + 1, 4, none⟩ = some (.string b.d.raw) ∧ W.cell? ⟨w.heap.size + 1, 5, none⟩ = some (.string b.d.host) ∧ W.cell? ⟨w.heap.size + 1, 6, none⟩ = some (.string b.d.mail) ∧ W.cell? ⟨w.heap.size + 1, 7, none⟩ = some (.int .u32 b.d.n0) ∧ W.cell? ⟨w.heap.size + 1, 8, none⟩ = some (.int .u32 b.d.n1) ∧ W.cell? ⟨w.heap.size + 1, 9, none⟩ = some (.int .u32 b.d.n2) ∧ W.cell? ⟨w.heap.size + 1, 10, none⟩ = some (.int .u32 b.d.n3) ∧ W.cell? ⟨w.heap.size + 1, 11, none⟩ = some (.int .u32 b.d.n4)) ∧ Below wb.heap.size wb W)) (by kernel_rfl) ?hax1 (fun hHeld => ?_)
  case hax1 =>
    try dsimp only
    (first | assumption | exact HK2.out _ (below_on6m HW1.out (Below.refl _ _).drew) | exact HK2.out _ HW1.out)
  refine wpAnyH_take (i := 0) (oi := { dst := some 11, op := Go.Op.move (Go.Operand.tmp 7), type := 3, pos := "outright.go:11", after := #[], guard := none }) (v := ?vax2) rfl (by kernel_rfl) (by kernel_rfl) (by kernel_rfl) (fun _ _ _ h => h) (Or.inl ⟨by rfl, ?hax2⟩) (by assumption) ?_
  case hax2 =>
    intro w hSw
    try dsimp only at hSw
    go_simp
    try with_reducible rfl
  try simp only [Act.put, List.setIfInBounds_toArray, List.set_cons_zero, List.set_cons_succ]
  refine wpAnyH_take (i := 1) (oi := { dst := some 12, op := Go.Op.load 29 (Go.Operand.tmp 4), type := 29, pos := "outright.go:11", after := #[], guard := none }) (v := ?vax3) rfl (by kernel_rfl) (by kernel_rfl) (by kernel_rfl) (fun _ _ _ h => h) (Or.inl ⟨by rfl, ?hax3⟩) (by assumption) ?_
  case hax3 =>
    intro w hSw
    try dsimp only at hSw
    go_simp
    try with_reducible rfl
  try simp only [Act.put, List.setIfInBounds_toArray, List.set_cons_zero, List.set_cons_succ]
  refine wpAnyH_take (i := 2) (oi := { dst := some 13, op := Go.Op.load 29 (Go.Operand.tmp 3), type := 29, pos := "outright.go:11", after := #[], guard := none }) (v := ?vax4) rfl (by kernel_rfl) (by kernel_rfl) (by kernel_rfl) (fun _ _ _ h => h) (Or.inl ⟨by rfl, ?hax4⟩) (by assumption) ?_
  case hax4 =>
    intro w hSw
    try dsimp only at hSw
    go_simp
    try with_reducible rfl
  try simp only [Act.put, List.setIfInBounds_toArray, List.set_cons_zero, List.set_cons_succ]
  refine wpAnyH_ready (rs := [3]) (by kernel_rfl) (by simp) ?_
  refine AllReadyH.cons (o := { dst := some 14, op := Go.Op.call { callee := Go.Callee.value (Go.Operand.func 18), args := #[Go.Operand.tmp 12, Go.Operand.tmp 13], argTypes := #[29, 29] }, type := 3, pos := "outright.go:11", after := #[{ on := 1, ground := Go.Ground.data }, { on := 2, ground := Go.Ground.data }], guard := none }) rfl (fun K hK => ?_) AllReadyH.nil
  go_simp
  (first | (go_at_call_of 18 (Value.agg #[.string b.nm, .int .u16 b.ty, .int .u16 b.cl, .int .u32 b.ttl, .string b.d.raw, .string b.d.host, .string b.d.mail, .int .u32 b.d.n0, .int .u32 b.d.n1, .int .u32 b.d.n2, .int .u32 b.d.n3, .int .u32 b.d.n4]); (with_reducible refine (HBA.out _ (by go_split_ands; assumption)).mono ?_); rintro e W1 ⟨rfl, B1⟩; generalize (Value.agg #[.string a.nm, .int .u16 a.ty, .int .u16 a.cl, .int .u32 a.ttl, .string a.d.raw, .string a.d.host, .string a.d.mail, .int .u32 a.d.n0, .int .u32 a.d.n1, .int .u32 a.d.n2, .int .u32 a.d.n3, .int .u32 a.d.n4]) = v1; generalize (Value.agg #[.string b.nm, .int .u16 b.ty, .int .u16 b.cl, .int .u32 b.ttl, .string b.d.raw, .string b.d.host, .string b.d.mail, .int .u32 b.d.n0, .int .u32 b.d.n1, .int .u32 b.d.n2, .int .u32 b.d.n3, .int .u32 b.d.n4]) = v2; have HW1 : Hid (Below wb.heap.size wb W1) := (by go_split_ands; exact below_on6m (by assumption) B1); clear B1) | (go_at_call_of 15 (Value.agg #[.string a.nm, .int .u16 a.ty, .int .u16 a.cl, .int .u32 a.ttl, .string a.d.raw, .string a.d.host, .string a.d.mail, .int .u32 a.d.n0, .int .u32 a.d.n1, .int .u32 a.d.n2, .int .u32 a.d.n3, .int .u32 a.d.n4]); (with_reducible refine (HFA.out _ (by go_split_ands; assumption)).mono ?_); rintro e W1 ⟨rfl, B1⟩; generalize (Value.agg #[.string a.nm, .int .u16 a.ty, .int .u16 a.cl, .int .u32 a.ttl, .string a.d.raw, .string a.d.host, .string a.d.mail, .int .u32 a.d.n0, .int .u32 a.d.n1, .int .u32 a.d.n2, .int .u32 a.d.n3, .int .u32 a.d.n4]) = v1; have HW1 : Hid (Below wb.heap.size wb W1) := (by go_split_ands; exact below_on6m (by assumption) B1); clear B1) | (go_at_call_of 15 (Value.agg #[.string b.nm, .int .u16 b.ty, .int .u16 b.cl, .int .u32 b.ttl, .string b.d.raw, .string b.d.host, .string b.d.mail, .int .u32 b.d.n0, .int .u32 b.d.n1, .int .u32 b.d.n2, .int .u32 b.d.n3, .int .u32 b.d.n4]); (with_reducible refine (HFB.out _ (by go_split_ands; assumption)).mono ?_); rintro e W1 ⟨rfl, B1⟩; have HW1 : Hid (Below wb.heap.size wb W1) := (by go_split_ands; exact below_on6m (by assumption) B1); clear B1))
  try go_wp2_with fail
  refine hK.out _ _ ?hax5 (fun hHeld => ?_)
  case hax5 =>
    try dsimp only
    (first | assumption | exact HK2.out _ (below_on6m HW1.out (Below.refl _ _).drew) | exact HK2.out _ HW1.out)
  clear hK K
  try simp only [Act.put, List.setIfInBounds_toArray, List.set_cons_zero, List.set_cons_succ]
  refine wpAnyH_take (i := 4) (oi := { dst := some 15, op := Go.Op.unOp Go.UnOp.neg 3 (Go.Operand.tmp 14), type := 3, pos := "outright.go:11", after := #[{ on := 3, ground := Go.Ground.data }], guard := none }) (v := ?vax6) rfl (by kernel_rfl) (by kernel_rfl) (by kernel_rfl) (fun _ _ _ h => h) (Or.inl ⟨by rfl, ?hax6⟩) (by assumption) ?_
  case hax6 =>
    intro w hSw
    try dsimp only at hSw
    go_simp
    try with_reducible rfl
  try simp only [Act.put, List.setIfInBounds_toArray, List.set_cons_zero, List.set_cons_succ]
  refine wpAnyH_take (i := 5) (oi := { dst := some 16, op := Go.Op.binOp Go.BinOp.neq 3 (Go.Operand.tmp 11) (Go.Operand.tmp 15) 3, type := 4, pos := "outright.go:11", after := #[{ on := 0, ground := Go.Ground.data }, { on := 4, ground := Go.Ground.data }], guard := none }) (v := ?vax7) rfl (by kernel_rfl) (by kernel_rfl) (by kernel_rfl) (fun _ _ _ h => h) (Or.inl ⟨by rfl, ?hax7⟩) (by assumption) ?_
  case hax7 =>
    intro w hSw
    try dsimp only at hSw
    go_simp
    try with_reducible rfl
  try simp only [Act.put, List.setIfInBounds_toArray, List.set_cons_zero, List.set_cons_succ]
  refine wpAnyH_take (i := 6) (oi := { dst := some 17, op := Go.Op.move (Go.Operand.tmp 16), type := 4, pos := "outright.go:11", after := #[{ on := 5, ground := Go.Ground.data }, { on := 3, ground := Go.Ground.chain }], guard := none }) (v := ?vax8) rfl (by kernel_rfl) (by kernel_rfl) (by kernel_rfl) (fun _ _ _ h => h) (Or.inl ⟨by rfl, ?hax8⟩) (by assumption) ?_
  case hax8 =>
    intro w hSw
    try dsimp only at hSw
    go_simp
    try with_reducible rfl
  try simp only [Act.put, List.setIfInBounds_toArray, List.set_cons_zero, List.set_cons_succ]
  refine wpAnyH_take (i := 7) (oi := { dst := some 18, op := Go.Op.move (Go.Operand.tmp 7), type := 3, pos := "outright.go:11", after := #[{ on := 6, ground := Go.Ground.guard }], guard := some (6, false) }) (v := ?vax9) rfl (by kernel_rfl) (by kernel_rfl) (by kernel_rfl) (fun _ _ _ h => h) (Or.inl ⟨by rfl, ?hax9⟩) (by assumption) ?_
  case hax9 =>
    intro w hSw
    try dsimp only at hSw
    go_simp
    try with_reducible rfl
  try simp only [Act.put, List.setIfInBounds_toArray, List.set_cons_zero, List.set_cons_succ]
  refine wpAnyH_take (i := 8) (oi := { dst := some 19, op := Go.Op.binOp Go.BinOp.lss 3 (Go.Operand.tmp 18) (Go.Operand.const (Go.Value.int Go.IntKind.i64 (-1))) 3, type := 4, pos := "outright.go:11", after := #[{ on := 7, ground := Go.Ground.data }, { on := 6, ground := Go.Ground.guard }], guard := some (6, false) }) (v := ?vax10) rfl (by kernel_rfl) (by kernel_rfl) (by kernel_rfl) (fun _ _ _ h => h) (Or.inl ⟨by rfl, ?hax10⟩) (by assumption) ?_
  case hax10 =>
    intro w hSw
    try dsimp only at hSw
    go_simp
    try with_reducible rfl
  try simp only [Act.put, List.setIfInBounds_toArray, List.set_cons_zero, List.set_cons_succ]
  refine wpAnyH_take (i := 9) (oi := { dst := some 20, op := Go.Op.pick (Go.Operand.tmp 17) (Go.Operand.const (Go.Value.bool true)) (Go.Operand.tmp 19), type := 4, pos := "outright.go:11", after := #[{ on := 6, ground := Go.Ground.data }, { on := 8, ground := Go.Ground.data }], guard := none }) (v := ?vax11) rfl (by kernel_rfl) (by kernel_rfl) (by kernel_rfl) (fun _ _ _ h => h) (Or.inl ⟨by rfl, ?hax11⟩) (by assumption) ?_
  case hax11 =>
    intro w hSw
    try dsimp only at hSw
    go_simp
    try with_reducible rfl
  try simp only [Act.put, List.setIfInBounds_toArray, List.set_cons_zero, List.set_cons_succ]
  refine wpAnyH_take (i := 10) (oi := { dst := some 21, op := Go.Op.move (Go.Operand.tmp 20), type := 4, pos := "outright.go:11", after := #[{ on := 9, ground := Go.Ground.data }, { on := 6, ground := Go.Ground.chain }], guard := none }) (v := ?vax12) rfl (by kernel_rfl) (by kernel_rfl) (by kernel_rfl) (fun _ _ _ h => h) (Or.inl ⟨by rfl, ?hax12⟩) (by assumption) ?_
  case hax12 =>
    intro w hSw
    try dsimp only at hSw
    go_simp
    try with_reducible rfl
  try simp only [Act.put, List.setIfInBounds_toArray, List.set_cons_zero, List.set_cons_succ]
  refine wpAnyH_take (i := 11) (oi := { dst := some 22, op := Go.Op.move (Go.Operand.tmp 7), type := 3, pos := "outright.go:11", after := #[{ on := 10, ground := Go.Ground.guard }], guard := some (10, false) }) (v := ?vax13) rfl (by kernel_rfl) (by kernel_rfl) (by kernel_rfl) (fun _ _ _ h => h) (Or.inl ⟨by rfl, ?hax13⟩) (by assumption) ?_
  case hax13 =>
    intro w hSw
    try dsimp only at hSw
    go_simp
    try with_reducible rfl
  try simp only [Act.put, List.setIfInBounds_toArray, List.set_cons_zero, List.set_cons_succ]
  refine wpAnyH_take (i := 12) (oi := { dst := some 23, op := Go.Op.binOp Go.BinOp.gtr 3 (Go.Operand.tmp 22) (Go.Operand.const (Go.Value.int Go.IntKind.i64 1)) 3, type := 4, pos := "outright.go:11", after := #[{ on := 11, ground := Go.Ground.data }, { on := 10, ground := Go.Ground.guard }], guard := some (10, false) }) (v := ?vax14) rfl (by kernel_rfl) (by kernel_rfl) (by kernel_rfl) (fun _ _ _ h => h) (Or.inl ⟨by rfl, ?hax14⟩) (by assumption) ?_
  case hax14 =>
    intro w hSw
    try dsimp only at hSw
    go_simp
    try with_reducible rfl
  try simp only [Act.put, List.setIfInBounds_toArray, List.set_cons_zero, List.set_cons_succ]
  refine wpAnyH_take (i := 13) (oi := { dst := some 24, op := Go.Op.pick (Go.Operand.tmp 21) (Go.Operand.const (Go.Value.bool true)) (Go.Operand.tmp 23), type := 4, pos := "outright.go:11", after := #[{ on := 10, ground := Go.Ground.data }, { on := 12, ground := Go.Ground.data }], guard := none }) (v := ?vax15) rfl (by kernel_rfl) (by kernel_rfl) (by kernel_rfl) (fun _ _ _ h => h) (Or.inl ⟨by rfl, ?hax15⟩) (by assumption) ?_
  case hax15 =>
    intro w hSw
    try dsimp only at hSw
    go_simp
    try with_reducible rfl
  try simp only [Act.put, List.setIfInBounds_toArray, List.set_cons_zero, List.set_cons_succ]
  refine wpAnyH_take (i := 14) (oi := { dst := some 25, op := Go.Op.move (Go.Operand.tmp 24), type := 4, pos := "outright.go:11", after := #[{ on := 13, ground := Go.Ground.data }, { on := 10, ground := Go.Ground.chain }], guard := none }) (v := ?vax16) rfl (by kernel_rfl) (by kernel_rfl) (by kernel_rfl) (fun _ _ _ h => h) (Or.inl ⟨by rfl, ?hax16⟩) (by assumption) ?_
  case hax16 =>
    intro w hSw
    try dsimp only at hSw
    go_simp
    try with_reducible rfl
  try simp only [Act.put, List.setIfInBounds_toArray, List.set_cons_zero, List.set_cons_succ]
  refine wpAnyH_take (i := 15) (oi := { dst := some 26, op := Go.Op.move (Go.Operand.tmp 7), type := 3, pos := "outright.go:11", after := #[{ on := 14, ground := Go.Ground.guard }], guard := some (14, false) }) (v := ?vax17) rfl (by kernel_rfl) (by kernel_rfl) (by kernel_rfl) (fun _ _ _ h => h) (Or.inl ⟨by rfl, ?hax17⟩) (by assumption) ?_
  case hax17 =>
    intro w hSw
    try dsimp only at hSw
    go_simp
    try with_reducible rfl
  try simp only [Act.put, List.setIfInBounds_toArray, List.set_cons_zero, List.set_cons_succ]
  refine wpAnyH_take (i := 16) (oi := { dst := some 27, op := Go.Op.binOp Go.BinOp.eql 3 (Go.Operand.tmp 26) (Go.Operand.const (Go.Value.int Go.IntKind.i64 0)) 3, type := 4, pos := "outright.go:11", after := #[{ on := 15, ground := Go.Ground.data }, { on := 14, ground := Go.Ground.guard }], guard := some (14, false) }) (v := ?vax18) rfl (by kernel_rfl) (by kernel_rfl) (by kernel_rfl) (fun _ _ _ h => h) (Or.inl ⟨by rfl, ?hax18⟩) (by assumption) ?_
  case hax18 =>
    intro w hSw
    try dsimp only at hSw
    go_simp
    try with_reducible rfl
  try simp only [Act.put, List.setIfInBounds_toArray, List.set_cons_zero, List.set_cons_succ]
  refine wpAnyH_take (i := 17) (oi := { dst := some 28, op := Go.Op.load 29 (Go.Operand.tmp 3), type := 29, pos := "outright.go:11", after := #[{ on := 14, ground := Go.Ground.guard }], guard := some (14, false) }) (v := ?vax19) rfl (by kernel_rfl) (by kernel_rfl) (by kernel_rfl) (fun _ _ _ h => h) (Or.inl ⟨by rfl, ?hax19⟩) (by assumption) ?_
  case hax19 =>
    intro w hSw
    try dsimp only at hSw
    go_simp
    try with_reducible rfl
  try simp only [Act.put, List.setIfInBounds_toArray, List.set_cons_zero, List.set_cons_succ]
  refine wpAnyH_take (i := 19) (oi := { dst := some 30, op := Go.Op.load 29 (Go.Operand.tmp 4), type := 29, pos := "outright.go:11", after := #[{ on := 14, ground := Go.Ground.guard }], guard := some (14, false) }) (v := ?vax20) rfl (by kernel_rfl) (by kernel_rfl) (by kernel_rfl) (fun _ _ _ h => h) (Or.inl ⟨by rfl, ?hax20⟩) (by assumption) ?_
  case hax20 =>
    intro w hSw
    try dsimp only at hSw
    go_simp
    try with_reducible rfl
  try simp only [Act.put, List.setIfInBounds_toArray, List.set_cons_zero, List.set_cons_succ]
  refine wpAnyH_ready (rs := [18]) (by kernel_rfl) (by simp) ?_
  refine AllReadyH.cons (o := { dst := some 29, op := Go.Op.call { callee := Go.Callee.value (Go.Operand.func 15), args := #[Go.Operand.tmp 28], argTypes := #[29] }, type := 29, pos := "outright.go:11", after := #[{ on := 17, ground := Go.Ground.data }, { on := 14, ground := Go.Ground.chain }, { on := 14, ground := Go.Ground.guard }], guard := some (14, false) }) rfl (fun K hK => ?_) AllReadyH.nil
  go_simp
  (first | (go_at_call_of 18 (Value.agg #[.string b.nm, .int .u16 b.ty, .int .u16 b.cl, .int .u32 b.ttl, .string b.d.raw, .string b.d.host, .string b.d.mail, .int .u32 b.d.n0, .int .u32 b.d.n1, .int .u32 b.d.n2, .int .u32 b.d.n3, .int .u32 b.d.n4]); (with_reducible refine (HBA.out _ (by go_split_ands; assumption)).mono ?_); rintro e W1 ⟨rfl, B1⟩; generalize (Value.agg #[.string a.nm, .int .u16 a.ty, .int .u16 a.cl, .int .u32 a.ttl, .string a.d.raw, .string a.d.host, .string a.d.mail, .int .u32 a.d.n0, .int .u32 a.d.n1, .int .u32 a.d.n2, .int .u32 a.d.n3, .int .u32 a.d.n4]) = v1; generalize (Value.agg #[.string b.nm, .int .u16 b.ty, .int .u16 b.cl, .int .u32 b.ttl, .string b.d.raw, .string b.d.host, .string b.d.mail, .int .u32 b.d.n0, .int .u32 b.d.n1, .int .u32 b.d.n2, .int .u32 b.d.n3, .int .u32 b.d.n4]) = v2; have HW1 : Hid (Below wb.heap.size wb W1) := (by go_split_ands; exact below_on6m (by assumption) B1); clear B1) | (go_at_call_of 15 (Value.agg #[.string a.nm, .int .u16 a.ty, .int .u16 a.cl, .int .u32 a.ttl, .string a.d.raw, .string a.d.host, .string a.d.mail, .int .u32 a.d.n0, .int .u32 a.d.n1, .int .u32 a.d.n2, .int .u32 a.d.n3, .int .u32 a.d.n4]); (with_reducible refine (HFA.out _ (by go_split_ands; assumption)).mono ?_); rintro e W1 ⟨rfl, B1⟩; generalize (Value.agg #[.string a.nm, .int .u16 a.ty, .int .u16 a.cl, .int .u32 a.ttl, .string a.d.raw, .string a.d.host, .string a.d.mail, .int .u32 a.d.n0, .int .u32 a.d.n1, .int .u32 a.d.n2, .int .u32 a.d.n3, .int .u32 a.d.n4]) = v1; have HW1 : Hid (Below wb.heap.size wb W1) := (by go_split_ands; exact below_on6m (by assumption) B1); clear B1) | (go_at_call_of 15 (Value.agg #[.string b.nm, .int .u16 b.ty, .int .u16 b.cl, .int .u32 b.ttl, .string b.d.raw, .string b.d.host, .string b.d.mail, .int .u32 b.d.n0, .int .u32 b.d.n1, .int .u32 b.d.n2, .int .u32 b.d.n3, .int .u32 b.d.n4]); (with_reducible refine (HFB.out _ (by go_split_ands; assumption)).mono ?_); rintro e W1 ⟨rfl, B1⟩; have HW1 : Hid (Below wb.heap.size wb W1) := (by go_split_ands; exact below_on6m (by assumption) B1); clear B1))
  try go_wp2_with fail
  refine hK.out _ _ ?hax21 (fun hHeld => ?_)
  case hax21 =>
    try dsimp only
    (first | assumption | exact HK2.out _ (below_on6m HW1.out (Below.refl _ _).drew) | exact HK2.out _ HW1.out)
  clear hK K
  try simp only [Act.put, List.setIfInBounds_toArray, List.set_cons_zero, List.set_cons_succ]
  refine wpAnyH_ready (rs := [20]) (by kernel_rfl) (by simp) ?_
  refine AllReadyH.cons (o := { dst := some 31, op := Go.Op.call { callee := Go.Callee.value (Go.Operand.func 15), args := #[Go.Operand.tmp 30], argTypes := #[29] }, type := 29, pos := "outright.go:11", after := #[{ on := 19, ground := Go.Ground.data }, { on := 18, ground := Go.Ground.chain }, { on := 14, ground := Go.Ground.guard }], guard := some (14, false) }) rfl (fun K hK => ?_) AllReadyH.nil
  go_simp
  (first | (go_at_call_of 18 (Value.agg #[.string b.nm, .int .u16 b.ty, .int .u16 b.cl, .int .u32 b.ttl, .string b.d.raw, .string b.d.host, .string b.d.mail, .int .u32 b.d.n0, .int .u32 b.d.n1, .int .u32 b.d.n2, .int .u32 b.d.n3, .int .u32 b.d.n4]); (with_reducible refine (HBA.out _ (by go_split_ands; assumption)).mono ?_); rintro e W1 ⟨rfl, B1⟩; generalize (Value.agg #[.string a.nm, .int .u16 a.ty, .int .u16 a.cl, .int .u32 a.ttl, .string a.d.raw, .string a.d.host, .string a.d.mail, .int .u32 a.d.n0, .int .u32 a.d.n1, .int .u32 a.d.n2, .int .u32 a.d.n3, .int .u32 a.d.n4]) = v1; generalize (Value.agg #[.string b.nm, .int .u16 b.ty, .int .u16 b.cl, .int .u32 b.ttl, .string b.d.raw, .string b.d.host, .string b.d.mail, .int .u32 b.d.n0, .int .u32 b.d.n1, .int .u32 b.d.n2, .int .u32 b.d.n3, .int .u32 b.d.n4]) = v2; have HW1 : Hid (Below wb.heap.size wb W1) := (by go_split_ands; exact below_on6m (by assumption) B1); clear B1) | (go_at_call_of 15 (Value.agg #[.string a.nm, .int .u16 a.ty, .int .u16 a.cl, .int .u32 a.ttl, .string a.d.raw, .string a.d.host, .string a.d.mail, .int .u32 a.d.n0, .int .u32 a.d.n1, .int .u32 a.d.n2, .int .u32 a.d.n3, .int .u32 a.d.n4]); (with_reducible refine (HFA.out _ (by go_split_ands; assumption)).mono ?_); rintro e W1 ⟨rfl, B1⟩; generalize (Value.agg #[.string a.nm, .int .u16 a.ty, .int .u16 a.cl, .int .u32 a.ttl, .string a.d.raw, .string a.d.host, .string a.d.mail, .int .u32 a.d.n0, .int .u32 a.d.n1, .int .u32 a.d.n2, .int .u32 a.d.n3, .int .u32 a.d.n4]) = v1; have HW1 : Hid (Below wb.heap.size wb W1) := (by go_split_ands; exact below_on6m (by assumption) B1); clear B1) | (go_at_call_of 15 (Value.agg #[.string b.nm, .int .u16 b.ty, .int .u16 b.cl, .int .u32 b.ttl, .string b.d.raw, .string b.d.host, .string b.d.mail, .int .u32 b.d.n0, .int .u32 b.d.n1, .int .u32 b.d.n2, .int .u32 b.d.n3, .int .u32 b.d.n4]); (with_reducible refine (HFB.out _ (by go_split_ands; assumption)).mono ?_); rintro e W1 ⟨rfl, B1⟩; have HW1 : Hid (Below wb.heap.size wb W1) := (by go_split_ands; exact below_on6m (by assumption) B1); clear B1))
  try go_wp2_with fail
  refine hK.out _ _ ?hax22 (fun hHeld => ?_)
  case hax22 =>
    try dsimp only
    (first | assumption | exact HK2.out _ (below_on6m HW1.out (Below.refl _ _).drew) | exact HK2.out _ HW1.out)
  clear hK K
  try simp only [Act.put, List.setIfInBounds_toArray, List.set_cons_zero, List.set_cons_succ]
  refine wpAnyH_take (i := 21) (oi := { dst := some 32, op := Go.Op.binOp Go.BinOp.eql 29 (Go.Operand.tmp 29) (Go.Operand.tmp 31) 29, type := 4, pos := "outright.go:11", after := #[{ on := 18, ground := Go.Ground.data }, { on := 20, ground := Go.Ground.data }, { on := 14, ground := Go.Ground.guard }], guard := some (14, false) }) (v := ?vax23) rfl (by kernel_rfl) (by kernel_rfl) (by kernel_rfl) (fun _ _ _ h => h) (Or.inl ⟨by rfl, ?hax23⟩) (by assumption) ?_
  case hax23 =>
    intro w hSw
    try dsimp only at hSw
    go_simp
    try with_reducible rfl
  try simp only [Act.put, List.setIfInBounds_toArray, List.set_cons_zero, List.set_cons_succ]
  refine wpAnyH_take (i := 22) (oi := { dst := some 33, op := Go.Op.binOp Go.BinOp.neq 4 (Go.Operand.tmp 27) (Go.Operand.tmp 32) 4, type := 4, pos := "outright.go:11", after := #[{ on := 16, ground := Go.Ground.data }, { on := 21, ground := Go.Ground.data }, { on := 14, ground := Go.Ground.guard }], guard := some (14, false) }) (v := ?vax24) rfl (by kernel_rfl) (by kernel_rfl) (by kernel_rfl) (fun _ _ _ h => h) (Or.inl ⟨by rfl, ?hax24⟩) (by assumption) ?_
  case hax24 =>
    intro w hSw
    try dsimp only at hSw
    go_simp
    try with_reducible rfl
  try simp only [Act.put, List.setIfInBounds_toArray, List.set_cons_zero, List.set_cons_succ]
  refine wpAnyH_take (i := 23) (oi := { dst := some 34, op := Go.Op.pick (Go.Operand.tmp 25) (Go.Operand.const (Go.Value.bool true)) (Go.Operand.tmp 33), type := 4, pos := "outright.go:11", after := #[{ on := 14, ground := Go.Ground.data }, { on := 22, ground := Go.Ground.data }], guard := none }) (v := ?vax25) rfl (by kernel_rfl) (by kernel_rfl) (by kernel_rfl) (fun _ _ _ h => h) (Or.inl ⟨by rfl, ?hax25⟩) (by assumption) ?_
  case hax25 =>
    intro w hSw
    try dsimp only at hSw
    go_simp
    try with_reducible rfl
  try simp only [Act.put, List.setIfInBounds_toArray, List.set_cons_zero, List.set_cons_succ]
  refine wpAnyH_done (by kernel_rfl) ?_ _
  refine NoPanic.normal ?_
  all_goals
    (generalize (Value.agg #[.string b.nm, .int .u16 b.ty, .int .u16 b.cl, .int .u32 b.ttl, .string b.d.raw, .string b.d.host, .string b.d.mail, .int .u32 b.d.n0, .int .u32 b.d.n1, .int .u32 b.d.n2, .int .u32 b.d.n3, .int .u32 b.d.n4]) = v3
     have hk3 := HK.out _ HW1.out
     go_split_ands
     rcases (show z = 1 ∨ (z = -1 ∧ u = -1) ∨ (z = -1 ∧ u = 0) ∨ (z = 0 ∧ u = -1) ∨ (z = 0 ∧ u = 0) from by
       have h1 := HZ.out
       have h2 := HU.out
       have h3 := HT.out (by omega)
       by_cases h : z ≤ 0
       · have h4 := h3 h
         omega
       · omega) with rfl | ⟨rfl, rfl⟩ | ⟨rfl, rfl⟩ | ⟨rfl, rfl⟩ | ⟨rfl, rfl⟩)
  all_goals
    (go_wp2_with (first
      | (go_at_call_of 18 (Value.agg #[.string b.nm, .int .u16 b.ty, .int .u16 b.cl, .int .u32 b.ttl, .string b.d.raw, .string b.d.host, .string b.d.mail, .int .u32 b.d.n0, .int .u32 b.d.n1, .int .u32 b.d.n2, .int .u32 b.d.n3, .int .u32 b.d.n4]); (with_reducible refine (HBC.out _ HW1.out).mono ?_); rintro e W2 ⟨rfl, B2⟩; have HW2 : Hid (Below wb.heap.size wb W2) := below_on6m HW1.out B2; have hk3 := HK.out _ HW2.out; go_split_ands; clear B2)
      | (go_at_call_of 18 (Value.agg #[.string a.nm, .int .u16 a.ty, .int .u16 a.cl, .int .u32 a.ttl, .string a.d.raw, .string a.d.host, .string a.d.mail, .int .u32 a.d.n0, .int .u32 a.d.n1, .int .u32 a.d.n2, .int .u32 a.d.n3, .int .u32 a.d.n4]); (with_reducible refine (HAC.out _ HW2.out).mono ?_); rintro e W3 ⟨rfl, B3⟩; have HW3 : Hid (Below wb.heap.size wb W3) := below_on6m HW2.out B3; clear B3)
      | (go_at_call 17; first | ((with_reducible refine (HW.out _ HW3.out).mono ?_); rintro e W4 ⟨rfl, B4⟩; have HW4 : Hid (Below wb.heap.size wb W4) := below_on6m HW3.out B4; clear B4) | ((with_reducible refine (HW.out _ HW2.out).mono ?_); rintro e W4 ⟨rfl, B4⟩; have HW4 : Hid (Below wb.heap.size wb W4) := below_on6m HW2.out B4; clear B4) | ((with_reducible refine (HW.out _ HW1.out).mono ?_); rintro e W4 ⟨rfl, B4⟩; have HW4 : Hid (Below wb.heap.size wb W4) := below_on6m HW1.out B4; clear B4)))
     go_ret
     exact ⟨rfl, HB0.out.trans (HW4.out.mono HB0.out.size)⟩)
end Go.Proofs.YtcillepoibpfiaaDoor
