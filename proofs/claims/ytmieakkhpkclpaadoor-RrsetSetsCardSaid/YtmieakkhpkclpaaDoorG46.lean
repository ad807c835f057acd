/- Texts of the proofs, merged. -/
import Derived.Test.YtmieakkhpkclpaaDoorG19
import Derived.Test.YtmieakkhpkclpaaDoorG7
import Derived.Deep.CutRange
import Derived.BigQuiet
import Derived.Test.YtmieakkhpkclpaaDoorG39
import Derived.Test.YtmieakkhpkclpaaDoorG38
import Derived.Test.YtmieakkhpkclpaaDoorG26
import Derived.Test.YtmieakkhpkclpaaDoorG22
import Derived.Deep.RegionHeld3
/- number, text, names: the document's order of what records hold. -/
namespace Go.Proofs.YtmieakkhpkclpaaDoor
open Go.RowKit

set_option maxRecDepth 100000 in
theorem number_any (a b : Nat) (w : World) :
    Calls Tryd.prog 61 #[.int .u32 a, .int .u32 b] w fun e w' => e = .returned (.int .i64 (Nm.sgn a b)) ∧ w' = w := by
  rcases Nat.lt_trichotomy a b with h | h | h
  · have HS := Lib.hid (Nm.sgn_lt h)
    have h1 : ((a : Int) == (b : Int)) = false := by rw [beq_eq_false_iff_ne]; omega
    have h2 : (a : Int) < b := by omega
    clear h
    go_enter Tryd.func61, Tryd.ntmps61
    go_wp2
    go_ret
    exact ⟨by rw [HS.out]; rfl, rfl⟩
  · subst h
    have HS := Lib.hid (Nm.sgn_self a)
    go_enter Tryd.func61, Tryd.ntmps61
    go_wp2
    go_ret
    exact ⟨by rw [HS.out]; rfl, rfl⟩
  · have HS := Lib.hid (Nm.sgn_gt h)
    have h1 : ((a : Int) == (b : Int)) = false := by rw [beq_eq_false_iff_ne]; omega
    have h2 : ¬ ((a : Int) < b) := by omega
    clear h
    go_enter Tryd.func61, Tryd.ntmps61
    go_wp2
    go_ret
    exact ⟨by rw [HS.out]; rfl, rfl⟩
set_option maxHeartbeats 1000000 in
set_option maxRecDepth 100000 in
theorem text5_any (a b : ByteArray) (w : World) (ha : a.size ≤ 140737488355328) (_ : b.size ≤ 140737488355328) :
    Calls Tryd.prog 89 #[.string a, .string b] w fun e w' => e = .returned (.int .i64 (Nm.cmpB a.data.toList b.data.toList)) ∧ ∃ n, w' = w.drewN n := by
  have HA : Hid (a.data.toList.length = a.size) := by show _ = _; simp
  have HB : Hid (b.data.toList.length = b.size) := by show _ = _; simp
  by_cases hab : a = b
  · subst hab
    have h0 : Nm.cmpB a.data.toList a.data.toList = 0 := Nm.cmpB_zero.2 rfl
    have H0 := Lib.hid h0
    clear h0 HA HB ha
    go_enter Tryd.func89, Tryd.ntmps89
    go_wp2
    go_ret
    exact ⟨by rw [H0.out]; rfl, 0, rfl⟩
  have hq : (a.toList == b.toList) = false := by rw [strB]; exact decide_eq_false hab
  have HNE := Lib.hid hab
  go_enter Tryd.func89, Tryd.ntmps89
  go_wp2
  go_loopw [5] (fun i wr => ∃ k : Nat, i = .int .i64 k ∧ k ≤ a.size ∧ k ≤ b.size ∧ a.data.toList.take k = b.data.toList.take k ∧ ∃ n, wr = w.drewN n) (fun i _ => a.size - (intOf i).toNat)
  case atStart => exact ⟨0, rfl, Nat.zero_le _, Nat.zero_le _, rfl, 0, rfl⟩
  case round =>
    obtain ⟨k, rfl, hka, hkb, hat, n, rfl⟩ := hrel
    have AT := Lib.hid hat
    clear hat
    by_cases hlt : k < a.size ∧ k < b.size
    · obtain ⟨h1, h2⟩ := hlt
      have h1' : k < a.data.toList.length := by rw [HA.out]; exact h1
      have h2' : k < b.data.toList.length := by rw [HB.out]; exact h2
      have hx := a[k].toNat_lt
      have hy := b[k].toNat_lt
      by_cases he : a[k].toNat = b[k].toNat
      · have hn : ((a[k].toNat : Int) != (b[k].toNat : Int)) = false := by simp [he]
        have HN := Lib.hid (Nm.take_succ_alike AT.out h1' h2' (UInt8.toNat_inj.1 he))
        clear he
        go_wp2
        go_quiet (fail)
        go_wp2
        go_roundw
        case rel => exact ⟨k + 1, by go_num, by omega, by omega, HN.out, _, rfl⟩
        case measure => simp [intOf]; omega
      · have hn : ((a[k].toNat : Int) != (b[k].toNat : Int)) = true := by rw [bne_iff_ne]; omega
        have HD := Lib.hid (Nm.cmpB_differ AT.out h1' h2' (fun e => he (congrArg UInt8.toNat e)))
        by_cases hl : a[k].toNat < b[k].toNat
        · have HS : Hid (Nm.cmpB a.data.toList b.data.toList = -1) := HD.out.trans (Nm.sgn_lt hl)
          clear he
          go_wp2
          go_quiet (fail)
          go_wp2
          go_quiet (fail)
          go_wp2
          go_ret
          refine ⟨by rw [HS.out]; rfl, ?_⟩
          rw [World.drewN_drewN, World.drewN_drewN]
          exact ⟨_, rfl⟩
        · have HS : Hid (Nm.cmpB a.data.toList b.data.toList = 1) := HD.out.trans (Nm.sgn_gt (show b[k].toNat < a[k].toNat by omega))
          have hl2 : b[k].toNat < a[k].toNat := by omega
          clear he hl
          go_wp2
          go_quiet (fail)
          go_wp2
          go_quiet (fail)
          go_wp2
          go_ret
          refine ⟨by rw [HS.out]; rfl, ?_⟩
          rw [World.drewN_drewN, World.drewN_drewN]
          exact ⟨_, rfl⟩
    · have HO := Lib.hid (Nm.cmpB_over AT.out (by rw [HA.out]; exact hka) (by rw [HB.out]; exact hkb) (by rw [HA.out, HB.out]; omega))
      rw [HA.out, HB.out] at HO
      have hend : a.size ≤ k ∨ b.size ≤ k := by omega
      clear hlt
      rcases Nat.lt_trichotomy a.size b.size with hl | hl | hl
      · have HS : Hid (Nm.cmpB a.data.toList b.data.toList = -1) := HO.out.trans (Nm.sgn_lt hl)
        have hka2 : a.size ≤ k := by omega
        go_wp2
        go_ret
        exact ⟨by rw [HS.out]; rfl, _, rfl⟩
      · exact absurd (Nm.cmpB_zero.1 (HO.out.trans (by rw [hl]; exact Nm.sgn_self _))) (fun e => HNE.out (string_eq e))
      · have HS : Hid (Nm.cmpB a.data.toList b.data.toList = 1) := HO.out.trans (Nm.sgn_gt hl)
        have hka2 : b.size ≤ k := by omega
        have h3 : k < a.size := by omega
        go_wp2
        go_ret
        exact ⟨by rw [HS.out]; rfl, _, rfl⟩
end Go.Proofs.YtmieakkhpkclpaaDoor
/- names, CmpKey: the document's order of keys. -/
namespace Go.Proofs.YtmieakkhpkclpaaDoor
open Go.RowKit

set_option maxRecDepth 100000 in
theorem names5_any (a b : ByteArray) (w : World) (ha : a.size ≤ 140737488355328) (hb : b.size ≤ 140737488355328) :
    Calls Tryd.prog 88 #[.string a, .string b] w fun e w' => e = .returned (.int .i64 (Rr.cmpA a.data.toList b.data.toList)) ∧ Below w.heap.size w w' := by
  have H1 := Lib.hid (fun W : World => refCmp_any a b W ha hb)
  have H2 := Lib.hid (fun W : World => text5_any a b W ha hb)
  unfold Rr.cmpA
  generalize Nm.cmpN a.data.toList b.data.toList = x at *
  generalize Nm.cmpB a.data.toList b.data.toList = y at *
  clear ha hb
  by_cases h : x = 0
  · subst h
    have e : Rr.lx 0 y = y := if_pos rfl
    rw [e]
    clear e
    go_enter Tryd.func88, Tryd.ntmps88
    go_wp2_with (first
      | (go_at_call 97; refine (H1.out _).mono ?_; rintro e w1 ⟨rfl, B1⟩; have HB1 := Lib.hid B1; clear B1)
      | (go_at_call 89; refine (H2.out _).mono ?_; rintro e w2 ⟨rfl, n2, rfl⟩; have HB2 := Lib.hid (below_drewN HB1.out n2)))
    go_ret
    exact ⟨rfl, HB2.out⟩
  · have e : Rr.lx x y = x := if_neg h
    rw [e]
    have hq : (x == 0) = false := by simpa using h
    clear e h
    go_enter Tryd.func88, Tryd.ntmps88
    go_wp2_with (first
      | (go_at_call 97; refine (H1.out _).mono ?_; rintro e w1 ⟨rfl, B1⟩; have HB1 := Lib.hid B1; clear B1))
    go_ret
    exact ⟨rfl, HB1.out⟩
set_option maxHeartbeats 1000000 in
set_option maxRecDepth 100000 in
theorem cmpKey5_any (a b : Kv) (w : World) (ha : a.nm.size ≤ 140737488355328 ∧ a.ty ≤ 65535 ∧ a.cl ≤ 65535) (hb : b.nm.size ≤ 140737488355328 ∧ b.ty ≤ 65535 ∧ b.cl ≤ 65535) :
    Calls Tryd.prog 59 #[a.val, b.val] w fun e w' => e = .returned (.int .i64 (Rr.cmpK a.ky b.ky)) ∧ Below w.heap.size w w' := by
  have H1 := Lib.hid (fun W : World => names5_any a.nm b.nm W ha.1 hb.1)
  have H2 := Lib.hid (fun W : World => number_any a.ty b.ty W)
  have H3 := Lib.hid (fun W : World => number_any a.cl b.cl W)
  have u1 : IntKind.u32.wrap (a.ty : Int) = a.ty := by rw [IntKind.wrap_u32]; omega
  have u2 : IntKind.u32.wrap (b.ty : Int) = b.ty := by rw [IntKind.wrap_u32]; omega
  have u3 : IntKind.u32.wrap (a.cl : Int) = a.cl := by rw [IntKind.wrap_u32]; omega
  have u4 : IntKind.u32.wrap (b.cl : Int) = b.cl := by rw [IntKind.wrap_u32]; omega
  clear ha hb
  unfold Rr.cmpK Kv.val
  show Calls _ _ _ _ fun e w' => e = .returned (.int .i64 (Rr.lx (Rr.cmpA a.nm.data.toList b.nm.data.toList) (Rr.lx (Nm.sgn a.ty b.ty) (Nm.sgn a.cl b.cl)))) ∧ Below w.heap.size w w'
  obtain ⟨an, at0, ac⟩ := a
  obtain ⟨bn, bt, bc⟩ := b
  simp only at *
  generalize Rr.cmpA an.data.toList bn.data.toList = x at *
  generalize Nm.sgn at0 bt = y at *
  generalize Nm.sgn ac bc = z at *
  have HA : Hid (Has ((w.alloc (.cells #[.string an, .int .u16 at0, .int .u16 ac] 26)).alloc (.cells #[.string bn, .int .u16 bt, .int .u16 bc] 26)) w.heap.size 26 #[.string an, .int .u16 at0, .int .u16 ac]) := (Has.fresh w _ _).alloc _
  have HBx : Hid (Has ((w.alloc (.cells #[.string an, .int .u16 at0, .int .u16 ac] 26)).alloc (.cells #[.string bn, .int .u16 bt, .int .u16 bc] 26)) (w.heap.size + 1) 26 #[.string bn, .int .u16 bt, .int .u16 bc]) := by
    have h := Has.fresh (w.alloc (.cells #[.string an, .int .u16 at0, .int .u16 ac] 26)) 26 #[.string bn, .int .u16 bt, .int .u16 bc]
    have e : (w.alloc (.cells #[.string an, .int .u16 at0, .int .u16 ac] 26)).heap.size = w.heap.size + 1 := by simp
    rw [e] at h
    exact h
  have HB0 : Hid (Below w.heap.size w ((w.alloc (.cells #[.string an, .int .u16 at0, .int .u16 ac] 26)).alloc (.cells #[.string bn, .int .u16 bt, .int .u16 bc] 26))) := ((Below.refl _ _).alloc (Nat.le_refl _) _).alloc (by simp) _
  obtain ⟨R, hR⟩ : ∃ R, Rr.lx x (Rr.lx y z) = R := ⟨_, rfl⟩
  rw [hR]
  have HR : Hid (x ≠ 0 ∧ R = x ∨ x = 0 ∧ y ≠ 0 ∧ R = y ∨ x = 0 ∧ y = 0 ∧ R = z) := by
    rw [Hid, ← hR]
    unfold Rr.lx
    by_cases h : x = 0 <;> by_cases h2 : y = 0 <;> simp [h, h2]
  clear hR
  go_enter Tryd.func59, Tryd.ntmps59
  go_upto_region 2 with (first
    | (go_at_call 88; refine (H1.out _).mono ?_; rintro e w1 ⟨rfl, B1⟩; have HA1 := Lib.hid (HA.out.below B1 HA.out.lt); have HX1 := Lib.hid (HBx.out.below B1 HBx.out.lt); have HB1 := Lib.hid (HB0.out.trans (B1.mono HB0.out.size)); clear B1))
  have c1 : w1.cell? ⟨w.heap.size, 1, none⟩ = some (.int .u16 at0) := by rw [HA1.out.cell]; rfl
  have c2 : w1.cell? ⟨w.heap.size, 2, none⟩ = some (.int .u16 ac) := by rw [HA1.out.cell]; rfl
  have d1 : w1.cell? ⟨w.heap.size + 1, 1, none⟩ = some (.int .u16 bt) := by rw [HX1.out.cell]; rfl
  have d2 : w1.cell? ⟨w.heap.size + 1, 2, none⟩ = some (.int .u16 bc) := by rw [HX1.out.cell]; rfl
  rcases HR.out with ⟨h1, h2⟩ | ⟨h1, h2, h3⟩ | ⟨h1, h2, h3⟩
  · have hq : (x == 0) = false := by simpa using h1
    clear h1
    have HQ := Lib.hid h2
    clear h2
    go_wp2
    go_ret
    exact ⟨by rw [HQ.out]; rfl, HB1.out⟩
  · subst h1
    have hq : (y == 0) = false := by simpa using h2
    have HQ := Lib.hid h3
    clear h2 h3
    go_wp2_with (go_at_call 61; refine (H2.out _).mono ?_; rintro e w2 ⟨rfl, rfl⟩)
    go_ret
    exact ⟨by rw [HQ.out]; rfl, HB1.out⟩
  · subst h1 h2
    have HQ := Lib.hid h3
    clear h3
    go_wp2_with (first
      | (go_at_call 61; with_reducible refine (H2.out _).mono ?_; rintro e w2 ⟨rfl, rfl⟩)
      | (go_at_call 61; with_reducible refine (H3.out _).mono ?_; rintro e w2 ⟨rfl, rfl⟩))
    go_ret
    exact ⟨by rw [HQ.out]; rfl, HB1.out⟩
end Go.Proofs.YtmieakkhpkclpaaDoor
/- CmpData: the document's order of data. -/
namespace Go.Proofs.YtmieakkhpkclpaaDoor
open Go.RowKit

theorem Has.drewN5 {w : World} {g : Nat} {t : TypeId} {cs : Array Value} (h : Has w g t cs) (n : Nat) : Has (w.drewN n) g t cs := h
theorem n5_quiet {P : Program} {f : FuncId} {args : Array Value} {w : World} {n : Nat} {v : Value} (h : Calls P f args (w.drewN n) fun e w' => e = .returned v ∧ w' = w.drewN n) :
    Calls P f args (w.drewN n) fun e w'' => e = .returned v ∧ ∃ m, w'' = w.drewN m := h.mono fun _ _ ⟨he, hw⟩ => ⟨he, n, hw⟩
set_option maxHeartbeats 2000000 in
set_option maxRecDepth 100000 in
theorem cmpData5_any (a b : Dv) (w : World) (ha : a.host.size ≤ 140737488355328) (hb : b.host.size ≤ 140737488355328) (hma : a.mail.size ≤ 140737488355328) (hmb : b.mail.size ≤ 140737488355328) (hra : a.raw.size ≤ 140737488355328) (hrb : b.raw.size ≤ 140737488355328) :
    Calls Tryd.prog 60 #[a.val, b.val] w fun e w' => e = .returned (.int .i64 (Rr.cmpD a.dt b.dt)) ∧ Below w.heap.size w w' := by
  have H1 := Lib.hid (fun W : World => text5_any a.raw b.raw W hra hrb)
  have H2 := Lib.hid (fun W : World => names5_any a.host b.host W ha hb)
  have H3 := Lib.hid (fun W : World => names5_any a.mail b.mail W hma hmb)
  have H4 := Lib.hid (fun (x y : Nat) (W : World) => number_any x y W)
  have HA : Hid (Has ((w.alloc (.cells a.cells 41)).alloc (.cells b.cells 41)) w.heap.size 41 a.cells) := (Has.fresh w _ _).alloc _
  have HBx : Hid (Has ((w.alloc (.cells a.cells 41)).alloc (.cells b.cells 41)) (w.heap.size + 1) 41 b.cells) := by
    have h := Has.fresh (w.alloc (.cells a.cells 41)) 41 b.cells
    have e : (w.alloc (.cells a.cells 41)).heap.size = w.heap.size + 1 := by simp
    rw [e] at h
    exact h
  have HB0 : Hid (Below w.heap.size w ((w.alloc (.cells a.cells 41)).alloc (.cells b.cells 41))) := ((Below.refl _ _).alloc (Nat.le_refl _) _).alloc (by simp) _
  have hR : Rr.cmpD a.dt b.dt = Rr.lx (Nm.cmpB a.raw.data.toList b.raw.data.toList) (Rr.lx (Rr.cmpA a.host.data.toList b.host.data.toList) (Rr.lx (Rr.cmpA a.mail.data.toList b.mail.data.toList) (Rr.cmpF a.n b.n 5 0))) := by
    rw [cmpF_five]; rfl
  obtain ⟨R, hR2⟩ : ∃ R, Rr.cmpD a.dt b.dt = R := ⟨_, rfl⟩
  rw [hR2] at hR ⊢
  clear hR2
  have hlx : ∀ x y : Int, x ≠ 0 → Rr.lx x y = x := fun x y h => if_neg h
  have hl0 : ∀ y : Int, Rr.lx 0 y = y := fun y => if_pos rfl
  have HD := Lib.hid (fun k (hk : k < 5) => a.cell_n hk)
  have HDb := Lib.hid (fun k (hk : k < 5) => b.cell_n hk)
  generalize Nm.cmpB a.raw.data.toList b.raw.data.toList = x1 at *
  generalize Rr.cmpA a.host.data.toList b.host.data.toList = x2 at *
  generalize Rr.cmpA a.mail.data.toList b.mail.data.toList = x3 at *
  generalize ea : a.n = an at *
  generalize eb : b.n = bn at *
  clear ea eb ha hb hma hmb hra hrb
  obtain ⟨ar, ah, am, a0, a1, a2, a3, a4⟩ := a
  obtain ⟨br, bh, bm, b0, b1, b2, b3, b4⟩ := b
  dsimp only [Dv.val, Dv.cells] at *
  by_cases h1 : x1 = 0
  · subst h1
    rw [hl0] at hR
    by_cases h2 : x2 = 0
    · subst h2
      rw [hl0] at hR
      have HR : Hid (R = Rr.lx x3 (Rr.cmpF an bn (5 - 0) 0)) := hR
      clear hR hlx hl0
      go_enter Tryd.func60, Tryd.ntmps60
      go_wp2_with (first
        | (go_at_call 89; refine (H1.out _).mono ?_; rintro e w1 ⟨rfl, q1, rfl⟩; have hA := HA.out.drewN5 q1; have hBx := HBx.out.drewN5 q1; have HB1 := Lib.hid (below_drewN HB0.out q1); have m1 : (World.drewN _ q1).cell? ⟨w.heap.size, 1, none⟩ = some (.string ah) := (by rw [hA.cell]; rfl); have m2 : (World.drewN _ q1).cell? ⟨w.heap.size + 1, 1, none⟩ = some (.string bh) := (by rw [hBx.cell]; rfl); have HA1 := Lib.hid hA; have HX1 := Lib.hid hBx; clear hA hBx)
        | (go_at_call_of 88 (Value.string ah); refine (H2.out _).mono ?_; rintro e w2 ⟨rfl, B2⟩; have hA := HA1.out.below B2 HA1.out.lt; have hBx := HX1.out.below B2 HX1.out.lt; have HB2 := Lib.hid (HB1.out.trans (B2.mono HB1.out.size)); have m3 : w2.cell? ⟨w.heap.size, 2, none⟩ = some (.string am) := (by rw [hA.cell]; rfl); have m4 : w2.cell? ⟨w.heap.size + 1, 2, none⟩ = some (.string bm) := (by rw [hBx.cell]; rfl); have HA2 := Lib.hid hA; have HX2 := Lib.hid hBx; clear B2 hA hBx)
        | (go_at_call_of 88 (Value.string am); refine (H3.out _).mono ?_; rintro e w3 ⟨rfl, B3⟩; have HA3 := Lib.hid (HA2.out.below B3 HA2.out.lt); have HX3 := Lib.hid (HX2.out.below B3 HX2.out.lt); have HB3 := Lib.hid (HB2.out.trans (B3.mono HB2.out.size)); clear B3))
      go_loopw [5, 6] (fun c i wr => ∃ (k : Nat) (cc : Int), i = .int .i64 k ∧ c = .int .i64 cc ∧ k ≤ 5 ∧ Hid (R = Rr.lx cc (Rr.cmpF an bn (5 - k) k)) ∧ Hid (Has wr w.heap.size 41 #[.string ar, .string ah, .string am, .int .u32 a0, .int .u32 a1, .int .u32 a2, .int .u32 a3, .int .u32 a4] ∧ Has wr (w.heap.size + 1) 41 #[.string br, .string bh, .string bm, .int .u32 b0, .int .u32 b1, .int .u32 b2, .int .u32 b3, .int .u32 b4] ∧ Below w.heap.size w wr)) (fun _ i _ => 5 - (intOf i).toNat)
      case atStart => exact ⟨0, x3, rfl, rfl, by omega, HR.out, HA3.out, HX3.out, HB3.out⟩
      case round =>
        obtain ⟨k, cc, rfl, rfl, hk, HK, HH⟩ := hrel
        by_cases h : k < 5
        · have d1 : decide ((k : Int) < 5) = true := by simp; omega
          have d2 : decide ((5 : Int) ≤ (k : Int)) = false := by simp; omega
          have d3 : (0 : Int) ≤ (k : Int) := by omega
          have d4 : (k : Int) < 5 := by omega
          by_cases hc : cc = 0
          · subst hc
            have HN : Hid (R = Rr.lx (Nm.sgn (an k) (bn k)) (Rr.cmpF an bn (5 - (k + 1)) (k + 1))) := by
              rw [Hid, HK.out, show 5 - k = (5 - (k + 1)) + 1 from by omega]
              exact if_pos rfl
            have cx : wr.cell? ⟨w.heap.size, 3 + k, none⟩ = some (.int .u32 (an k : Nat)) := by rw [HH.out.1.cell]; exact HD.out k h
            have cy : wr.cell? ⟨w.heap.size + 1, 3 + k, none⟩ = some (.int .u32 (bn k : Nat)) := by rw [HH.out.2.1.cell]; exact HDb.out k h
            clear HK
            generalize an k = x at *
            generalize bn k = y at *
            go_wp2
            go_quiet ((go_at_call 61; exact n5_quiet (H4.out _ _ _)))
            go_wp2
            go_roundw
            case rel => exact ⟨k + 1, _, by go_num, rfl, by omega, HN.out, HH.out.1.drewN5 _, HH.out.2.1.drewN5 _, below_drewN HH.out.2.2 _⟩
            case measure => simp [intOf]; omega
          · have hq : (cc == 0) = false := by simpa using hc
            have HN : Hid (R = cc) := HK.out.trans (if_neg hc)
            clear HK hc
            go_wp2
            go_ret
            exact ⟨by rw [HN.out]; rfl, HH.out.2.2⟩
        · obtain rfl : k = 5 := by omega
          have HN : Hid (R = cc) := by
            rw [Hid, HK.out]
            show (if cc = 0 then (0 : Int) else cc) = cc
            split <;> omega
          clear HK h hk
          go_wp2
          go_ret
          exact ⟨by rw [HN.out]; rfl, HH.out.2.2⟩
    · rw [hlx _ _ h2] at hR
      have hq2 : (x2 == 0) = false := by simpa using h2
      have HR : Hid (R = Rr.lx x2 (Rr.cmpF an bn (5 - 0) 0)) := by rw [Hid, hlx _ _ h2, hR]
      clear hR hlx hl0 h2
      go_enter Tryd.func60, Tryd.ntmps60
      go_wp2_with (first
        | (go_at_call 89; refine (H1.out _).mono ?_; rintro e w1 ⟨rfl, q1, rfl⟩; have hA := HA.out.drewN5 q1; have hBx := HBx.out.drewN5 q1; have HB1 := Lib.hid (below_drewN HB0.out q1); have m1 : (World.drewN _ q1).cell? ⟨w.heap.size, 1, none⟩ = some (.string ah) := (by rw [hA.cell]; rfl); have m2 : (World.drewN _ q1).cell? ⟨w.heap.size + 1, 1, none⟩ = some (.string bh) := (by rw [hBx.cell]; rfl); have HA1 := Lib.hid hA; have HX1 := Lib.hid hBx; clear hA hBx)
        | (go_at_call_of 88 (Value.string ah); refine (H2.out _).mono ?_; rintro e w2 ⟨rfl, B2⟩; have hA := HA1.out.below B2 HA1.out.lt; have hBx := HX1.out.below B2 HX1.out.lt; have HB2 := Lib.hid (HB1.out.trans (B2.mono HB1.out.size)); have m3 : w2.cell? ⟨w.heap.size, 2, none⟩ = some (.string am) := (by rw [hA.cell]; rfl); have m4 : w2.cell? ⟨w.heap.size + 1, 2, none⟩ = some (.string bm) := (by rw [hBx.cell]; rfl); have HA2 := Lib.hid hA; have HX2 := Lib.hid hBx; clear B2 hA hBx))
      go_loopw [5, 6] (fun c i wr => ∃ (k : Nat) (cc : Int), i = .int .i64 k ∧ c = .int .i64 cc ∧ k ≤ 5 ∧ Hid (R = Rr.lx cc (Rr.cmpF an bn (5 - k) k)) ∧ Hid (Has wr w.heap.size 41 #[.string ar, .string ah, .string am, .int .u32 a0, .int .u32 a1, .int .u32 a2, .int .u32 a3, .int .u32 a4] ∧ Has wr (w.heap.size + 1) 41 #[.string br, .string bh, .string bm, .int .u32 b0, .int .u32 b1, .int .u32 b2, .int .u32 b3, .int .u32 b4] ∧ Below w.heap.size w wr)) (fun _ i _ => 5 - (intOf i).toNat)
      case atStart => exact ⟨0, x2, rfl, rfl, by omega, HR.out, HA2.out, HX2.out, HB2.out⟩
      case round =>
        obtain ⟨k, cc, rfl, rfl, hk, HK, HH⟩ := hrel
        by_cases h : k < 5
        · have d1 : decide ((k : Int) < 5) = true := by simp; omega
          have d2 : decide ((5 : Int) ≤ (k : Int)) = false := by simp; omega
          have d3 : (0 : Int) ≤ (k : Int) := by omega
          have d4 : (k : Int) < 5 := by omega
          by_cases hc : cc = 0
          · subst hc
            have HN : Hid (R = Rr.lx (Nm.sgn (an k) (bn k)) (Rr.cmpF an bn (5 - (k + 1)) (k + 1))) := by
              rw [Hid, HK.out, show 5 - k = (5 - (k + 1)) + 1 from by omega]
              exact if_pos rfl
            have cx : wr.cell? ⟨w.heap.size, 3 + k, none⟩ = some (.int .u32 (an k : Nat)) := by rw [HH.out.1.cell]; exact HD.out k h
            have cy : wr.cell? ⟨w.heap.size + 1, 3 + k, none⟩ = some (.int .u32 (bn k : Nat)) := by rw [HH.out.2.1.cell]; exact HDb.out k h
            clear HK
            generalize an k = x at *
            generalize bn k = y at *
            go_wp2
            go_quiet ((go_at_call 61; exact n5_quiet (H4.out _ _ _)))
            go_wp2
            go_roundw
            case rel => exact ⟨k + 1, _, by go_num, rfl, by omega, HN.out, HH.out.1.drewN5 _, HH.out.2.1.drewN5 _, below_drewN HH.out.2.2 _⟩
            case measure => simp [intOf]; omega
          · have hq : (cc == 0) = false := by simpa using hc
            have HN : Hid (R = cc) := HK.out.trans (if_neg hc)
            clear HK hc
            go_wp2
            go_ret
            exact ⟨by rw [HN.out]; rfl, HH.out.2.2⟩
        · obtain rfl : k = 5 := by omega
          have HN : Hid (R = cc) := by
            rw [Hid, HK.out]
            show (if cc = 0 then (0 : Int) else cc) = cc
            split <;> omega
          clear HK h hk
          go_wp2
          go_ret
          exact ⟨by rw [HN.out]; rfl, HH.out.2.2⟩
  · rw [hlx _ _ h1] at hR
    have hq1 : (x1 == 0) = false := by simpa using h1
    have HR : Hid (R = Rr.lx x1 (Rr.cmpF an bn (5 - 0) 0)) := by rw [Hid, hlx _ _ h1, hR]
    clear hR hlx hl0 h1
    go_enter Tryd.func60, Tryd.ntmps60
    go_wp2_with (first
      | (go_at_call 89; refine (H1.out _).mono ?_; rintro e w1 ⟨rfl, q1, rfl⟩; have hA := HA.out.drewN5 q1; have hBx := HBx.out.drewN5 q1; have HB1 := Lib.hid (below_drewN HB0.out q1); have m1 : (World.drewN _ q1).cell? ⟨w.heap.size, 1, none⟩ = some (.string ah) := (by rw [hA.cell]; rfl); have m2 : (World.drewN _ q1).cell? ⟨w.heap.size + 1, 1, none⟩ = some (.string bh) := (by rw [hBx.cell]; rfl); have HA1 := Lib.hid hA; have HX1 := Lib.hid hBx; clear hA hBx))
    go_loopw [5, 6] (fun c i wr => ∃ (k : Nat) (cc : Int), i = .int .i64 k ∧ c = .int .i64 cc ∧ k ≤ 5 ∧ Hid (R = Rr.lx cc (Rr.cmpF an bn (5 - k) k)) ∧ Hid (Has wr w.heap.size 41 #[.string ar, .string ah, .string am, .int .u32 a0, .int .u32 a1, .int .u32 a2, .int .u32 a3, .int .u32 a4] ∧ Has wr (w.heap.size + 1) 41 #[.string br, .string bh, .string bm, .int .u32 b0, .int .u32 b1, .int .u32 b2, .int .u32 b3, .int .u32 b4] ∧ Below w.heap.size w wr)) (fun _ i _ => 5 - (intOf i).toNat)
    case atStart => exact ⟨0, x1, rfl, rfl, by omega, HR.out, HA1.out, HX1.out, HB1.out⟩
    case round =>
      obtain ⟨k, cc, rfl, rfl, hk, HK, HH⟩ := hrel
      by_cases h : k < 5
      · have d1 : decide ((k : Int) < 5) = true := by simp; omega
        have d2 : decide ((5 : Int) ≤ (k : Int)) = false := by simp; omega
        have d3 : (0 : Int) ≤ (k : Int) := by omega
        have d4 : (k : Int) < 5 := by omega
        by_cases hc : cc = 0
        · subst hc
          have HN : Hid (R = Rr.lx (Nm.sgn (an k) (bn k)) (Rr.cmpF an bn (5 - (k + 1)) (k + 1))) := by
            rw [Hid, HK.out, show 5 - k = (5 - (k + 1)) + 1 from by omega]
            exact if_pos rfl
          have cx : wr.cell? ⟨w.heap.size, 3 + k, none⟩ = some (.int .u32 (an k : Nat)) := by rw [HH.out.1.cell]; exact HD.out k h
          have cy : wr.cell? ⟨w.heap.size + 1, 3 + k, none⟩ = some (.int .u32 (bn k : Nat)) := by rw [HH.out.2.1.cell]; exact HDb.out k h
          clear HK
          generalize an k = x at *
          generalize bn k = y at *
          go_wp2
          go_quiet ((go_at_call 61; exact n5_quiet (H4.out _ _ _)))
          go_wp2
          go_roundw
          case rel => exact ⟨k + 1, _, by go_num, rfl, by omega, HN.out, HH.out.1.drewN5 _, HH.out.2.1.drewN5 _, below_drewN HH.out.2.2 _⟩
          case measure => simp [intOf]; omega
        · have hq : (cc == 0) = false := by simpa using hc
          have HN : Hid (R = cc) := HK.out.trans (if_neg hc)
          clear HK hc
          go_wp2
          go_ret
          exact ⟨by rw [HN.out]; rfl, HH.out.2.2⟩
      · obtain rfl : k = 5 := by omega
        have HN : Hid (R = cc) := by
          rw [Hid, HK.out]
          show (if cc = 0 then (0 : Int) else cc) = cc
          split <;> omega
        clear HK h hk
        go_wp2
        go_ret
        exact ⟨by rw [HN.out]; rfl, HH.out.2.2⟩
end Go.Proofs.YtmieakkhpkclpaaDoor
/- Cmp: the document's order of records. -/
namespace Go.Proofs.YtmieakkhpkclpaaDoor
open Go.RowKit

theorem below_r5 {a b c : World} (h : Below a.heap.size a b) (k : Below b.heap.size b c) : Below a.heap.size a c := h.trans (k.mono h.size)
set_option maxRecDepth 100000 in
theorem field_data (r : Rv) (W : World) : (Instr.field 43 (.agg r.cells) 4).run Tryd.prog W = .ok (.agg r.d.cells) W := by
  rfl
set_option maxHeartbeats 8000000 in
set_option maxRecDepth 1000000 in
theorem r5Cmp_any (a b : Rv) (w : World) (ha : a.fits ∧ a.near) (hb : b.fits ∧ b.near) :
    Calls Tryd.prog 37 #[a.val, b.val] w fun e w' => e = .returned (.int .i64 (Rr.cmpR a.fold.rc b.fold.rc)) ∧ Below w.heap.size w w' := by
  have sa := ha.2.short
  have sb := hb.2.short
  have fa := rv_fold_short sa
  have fb := rv_fold_short sb
  have ra : a.fold.d.raw.size ≤ 140737488355328 := by have := ha.2.2.1; show a.d.raw.size ≤ _; omega
  have rb : b.fold.d.raw.size ≤ 140737488355328 := by have := hb.2.2.1; show b.d.raw.size ≤ _; omega
  have H1 := Lib.hid (fun W : World => (show Calls Tryd.prog 21 #[.agg a.cells] W _ from keyOfR_any a W sa))
  have H2 := Lib.hid (fun W : World => (show Calls Tryd.prog 21 #[.agg b.cells] W _ from keyOfR_any b W sb))
  have H3 := Lib.hid (fun W : World => cmpKey5_any a.fold.kv b.fold.kv W ⟨fa.1, ha.1.1, ha.1.2.1⟩ ⟨fb.1, hb.1.1, hb.1.2.1⟩)
  have H4 := Lib.hid (fun W : World => (show Calls Tryd.prog 36 #[.agg a.cells] W (fun e w' => e = .returned (.agg a.fold.cells) ∧ Below W.heap.size W w') from r5Fold_any a W ha.1.1 sa))
  have H5 := Lib.hid (fun W : World => (show Calls Tryd.prog 36 #[.agg b.cells] W (fun e w' => e = .returned (.agg b.fold.cells) ∧ Below W.heap.size W w') from r5Fold_any b W hb.1.1 sb))
  have H6 := Lib.hid (fun W : World => (show Calls Tryd.prog 60 #[.agg a.fold.d.cells, .agg b.fold.d.cells] W _ from cmpData5_any a.fold.d b.fold.d W fa.2.1 fb.2.1 fa.2.2 fb.2.2 ra rb))
  have H7 := Lib.hid (fun W : World => number_any a.ttl b.ttl W)
  have hf1 := field_data a.fold
  have hf2 := field_data b.fold
  clear ha hb sa sb fa fb ra rb
  have hlx : ∀ x y : Int, x ≠ 0 → Rr.lx x y = x := fun x y h => if_neg h
  have hl0 : ∀ y : Int, Rr.lx 0 y = y := fun y => if_pos rfl
  change Calls _ _ _ _ fun e w' => e = .returned (.int .i64 (Rr.lx (Rr.cmpK a.fold.kv.ky b.fold.kv.ky) (Rr.lx (Rr.cmpD a.fold.d.dt b.fold.d.dt) (Nm.sgn a.ttl b.ttl)))) ∧ Below w.heap.size w w'
  generalize Rr.cmpK a.fold.kv.ky b.fold.kv.ky = x1 at *
  generalize Rr.cmpD a.fold.d.dt b.fold.d.dt = x2 at *
  generalize Nm.sgn a.ttl b.ttl = x3 at *
  obtain ⟨R, hR⟩ : ∃ R, Rr.lx x1 (Rr.lx x2 x3) = R := ⟨_, rfl⟩
  rw [hR]
  have HR1 : Hid (x1 ≠ 0 → R = x1) := fun h => by rw [← hR, hlx _ _ h]
  have HR2 : Hid (x1 = 0 → x2 ≠ 0 → R = x2) := fun h h2 => by rw [← hR, h, hl0, hlx _ _ h2]
  have HR3 : Hid (x1 = 0 → x2 = 0 → R = x3) := fun h h2 => by rw [← hR, h, hl0, h2, hl0]
  clear hR hlx hl0
  generalize a.fold.d.cells = XD at *
  generalize b.fold.d.cells = YD at *
  generalize a.fold.cells = XC at *
  generalize b.fold.cells = YC at *
  obtain ⟨k1, hk1⟩ : ∃ k : Kv, a.fold.kv = k := ⟨_, rfl⟩
  obtain ⟨k2, hk2⟩ : ∃ k : Kv, b.fold.kv = k := ⟨_, rfl⟩
  rw [hk1] at H1 H3
  rw [hk2] at H2 H3
  clear hk1 hk2
  have HF1 := Lib.hid hf1
  have HF2 := Lib.hid hf2
  clear hf1 hf2
  have HA : Has ((w.alloc (.cells a.cells 43)).alloc (.cells b.cells 43)) w.heap.size 43 a.cells := (Has.fresh w _ _).alloc _
  have HBx : Has ((w.alloc (.cells a.cells 43)).alloc (.cells b.cells 43)) (w.heap.size + 1) 43 b.cells := by
    have h := Has.fresh (w.alloc (.cells a.cells 43)) 43 b.cells
    rw [World.size_alloc] at h
    exact h
  have hB0 : Below w.heap.size w ((w.alloc (.cells a.cells 43)).alloc (.cells b.cells 43)) := ((Below.refl _ _).alloc (Nat.le_refl _) _).alloc (by simp) _
  obtain ⟨anm, aty, acl, attl, ara, aho, ama, an0, an1, an2, an3, an4⟩ := a
  obtain ⟨bnm, bty, bcl, bttl, bra, bho, bma, bn0, bn1, bn2, bn3, bn4⟩ := b
  obtain ⟨kn1, kt1, kc1⟩ := k1
  obtain ⟨kn2, kt2, kc2⟩ := k2
  dsimp only [Rv.val, Rv.cells, Kv.val] at *
  generalize hw0 : (w.alloc (.cells #[.string anm, .int .u16 aty, .int .u16 acl, .int .u32 attl, .string ara, .string aho, .string ama, .int .u32 an0, .int .u32 an1, .int .u32 an2, .int .u32 an3, .int .u32 an4] 43)).alloc (.cells #[.string bnm, .int .u16 bty, .int .u16 bcl, .int .u32 bttl, .string bra, .string bho, .string bma, .int .u32 bn0, .int .u32 bn1, .int .u32 bn2, .int .u32 bn3, .int .u32 bn4] 43) = w0 at *
  have HW0 := Lib.hid hw0
  have HB0 := Lib.hid hB0
  clear hw0 hB0
  have HK := Lib.hid (fun (W : World) (hb : Below w0.heap.size w0 W) => (show (W.cell? ⟨w.heap.size, 0, none⟩ = some (.string anm) ∧ W.cell? ⟨w.heap.size, 1, none⟩ = some (.int .u16 aty) ∧ W.cell? ⟨w.heap.size, 2, none⟩ = some (.int .u16 acl) ∧ W.cell? ⟨w.heap.size, 3, none⟩ = some (.int .u32 attl) ∧ W.cell? ⟨w.heap.size, 4, none⟩ = some (.string ara) ∧ W.cell? ⟨w.heap.size, 5, none⟩ = some (.string aho) ∧ W.cell? ⟨w.heap.size, 6, none⟩ = some (.string ama) ∧ W.cell? ⟨w.heap.size, 7, none⟩ = some (.int .u32 an0) ∧ W.cell? ⟨w.heap.size, 8, none⟩ = some (.int .u32 an1) ∧ W.cell? ⟨w.heap.size, 9, none⟩ = some (.int .u32 an2) ∧ W.cell? ⟨w.heap.size, 10, none⟩ = some (.int .u32 an3) ∧ W.cell? ⟨w.heap.size, 11, none⟩ = some (.int .u32 an4) ∧ W.cell? ⟨w.heap.size + 1, 0, none⟩ = some (.string bnm) ∧ W.cell? ⟨w.heap.size + 1, 1, none⟩ = some (.int .u16 bty) ∧ W.cell? ⟨w.heap.size + 1, 2, none⟩ = some (.int .u16 bcl) ∧ W.cell? ⟨w.heap.size + 1, 3, none⟩ = some (.int .u32 bttl) ∧ W.cell? ⟨w.heap.size + 1, 4, none⟩ = some (.string bra) ∧ W.cell? ⟨w.heap.size + 1, 5, none⟩ = some (.string bho) ∧ W.cell? ⟨w.heap.size + 1, 6, none⟩ = some (.string bma) ∧ W.cell? ⟨w.heap.size + 1, 7, none⟩ = some (.int .u32 bn0) ∧ W.cell? ⟨w.heap.size + 1, 8, none⟩ = some (.int .u32 bn1) ∧ W.cell? ⟨w.heap.size + 1, 9, none⟩ = some (.int .u32 bn2) ∧ W.cell? ⟨w.heap.size + 1, 10, none⟩ = some (.int .u32 bn3) ∧ W.cell? ⟨w.heap.size + 1, 11, none⟩ = some (.int .u32 bn4)) ∧ Below w0.heap.size w0 W from by
    have h1 := HA.below hb HA.lt
    have h2 := HBx.below hb HBx.lt
    exact ⟨⟨by rw [h1.cell]; rfl, by rw [h1.cell]; rfl, by rw [h1.cell]; rfl, by rw [h1.cell]; rfl, by rw [h1.cell]; rfl, by rw [h1.cell]; rfl, by rw [h1.cell]; rfl, by rw [h1.cell]; rfl, by rw [h1.cell]; rfl, by rw [h1.cell]; rfl, by rw [h1.cell]; rfl, by rw [h1.cell]; rfl, by rw [h2.cell]; rfl, by rw [h2.cell]; rfl, by rw [h2.cell]; rfl, by rw [h2.cell]; rfl, by rw [h2.cell]; rfl, by rw [h2.cell]; rfl, by rw [h2.cell]; rfl, by rw [h2.cell]; rfl, by rw [h2.cell]; rfl, by rw [h2.cell]; rfl, by rw [h2.cell]; rfl, by rw [h2.cell]; rfl⟩, hb⟩))
  clear HA HBx
  go_enter Tryd.func37, Tryd.ntmps37
  go_upto_region 1 with fail
  rw [HW0.out]
  clear HW0
  go_cut [5] from 6 to 10 (fun c wx => c = .int .i64 x1 ∧ Hid (Below w0.heap.size w0 wx))
  case first =>
    have hk := HK.out _ (Below.refl _ _)
    go_split_ands
    go_region_held3 (fun W => (W.cell? ⟨w.heap.size, 0, none⟩ = some (.string anm) ∧ W.cell? ⟨w.heap.size, 1, none⟩ = some (.int .u16 aty) ∧ W.cell? ⟨w.heap.size, 2, none⟩ = some (.int .u16 acl) ∧ W.cell? ⟨w.heap.size, 3, none⟩ = some (.int .u32 attl) ∧ W.cell? ⟨w.heap.size, 4, none⟩ = some (.string ara) ∧ W.cell? ⟨w.heap.size, 5, none⟩ = some (.string aho) ∧ W.cell? ⟨w.heap.size, 6, none⟩ = some (.string ama) ∧ W.cell? ⟨w.heap.size, 7, none⟩ = some (.int .u32 an0) ∧ W.cell? ⟨w.heap.size, 8, none⟩ = some (.int .u32 an1) ∧ W.cell? ⟨w.heap.size, 9, none⟩ = some (.int .u32 an2) ∧ W.cell? ⟨w.heap.size, 10, none⟩ = some (.int .u32 an3) ∧ W.cell? ⟨w.heap.size, 11, none⟩ = some (.int .u32 an4) ∧ W.cell? ⟨w.heap.size + 1, 0, none⟩ = some (.string bnm) ∧ W.cell? ⟨w.heap.size + 1, 1, none⟩ = some (.int .u16 bty) ∧ W.cell? ⟨w.heap.size + 1, 2, none⟩ = some (.int .u16 bcl) ∧ W.cell? ⟨w.heap.size + 1, 3, none⟩ = some (.int .u32 bttl) ∧ W.cell? ⟨w.heap.size + 1, 4, none⟩ = some (.string bra) ∧ W.cell? ⟨w.heap.size + 1, 5, none⟩ = some (.string bho) ∧ W.cell? ⟨w.heap.size + 1, 6, none⟩ = some (.string bma) ∧ W.cell? ⟨w.heap.size + 1, 7, none⟩ = some (.int .u32 bn0) ∧ W.cell? ⟨w.heap.size + 1, 8, none⟩ = some (.int .u32 bn1) ∧ W.cell? ⟨w.heap.size + 1, 9, none⟩ = some (.int .u32 bn2) ∧ W.cell? ⟨w.heap.size + 1, 10, none⟩ = some (.int .u32 bn3) ∧ W.cell? ⟨w.heap.size + 1, 11, none⟩ = some (.int .u32 bn4)) ∧ Below w0.heap.size w0 W)
      (first
        | assumption
        | exact HK.out _ (Below.drew (Below.refl _ _))
        | exact HK.out _ HW1.out)
      (first
        | (go_at_call_of 21 (Value.agg #[.string anm, .int .u16 aty, .int .u16 acl, .int .u32 attl, .string ara, .string aho, .string ama, .int .u32 an0, .int .u32 an1, .int .u32 an2, .int .u32 an3, .int .u32 an4]); (with_reducible refine (H1.out _).mono ?_); rintro e W1 ⟨rfl, B1⟩; have HW1 : Hid (Below w0.heap.size w0 W1) := (by go_split_ands; exact below_r5 (by assumption) B1); clear B1)
        | (go_at_call_of 21 (Value.agg #[.string bnm, .int .u16 bty, .int .u16 bcl, .int .u32 bttl, .string bra, .string bho, .string bma, .int .u32 bn0, .int .u32 bn1, .int .u32 bn2, .int .u32 bn3, .int .u32 bn4]); (with_reducible refine (H2.out _).mono ?_); rintro e W1 ⟨rfl, B1⟩; have HW1 : Hid (Below w0.heap.size w0 W1) := (by go_split_ands; exact below_r5 (by assumption) B1); clear B1)
        | (go_at_call 59; (with_reducible refine (H3.out _).mono ?_); rintro e W1 ⟨rfl, B1⟩; have HW1 : Hid (Below w0.heap.size w0 W1) := (by go_split_ands; exact below_r5 (by assumption) B1); clear B1))
    all_goals
      (go_wp2_with fail
       go_meet
       exact ⟨rfl, HW1.out⟩)
  case rest =>
    obtain ⟨rfl, HB1⟩ := hcut
    by_cases h1 : x1 = 0
    · subst h1
      go_upto_region 3 with fail
      go_cut [5] from 13 to 19 (fun c wx => c = .int .i64 x2 ∧ Hid (Below w0.heap.size w0 wx))
      case first =>
        have hf1 := HF1.out
        have hf2 := HF2.out
        have hk := HK.out _ HB1.out
        go_split_ands
        go_region_held3 (fun W => (W.cell? ⟨w.heap.size, 0, none⟩ = some (.string anm) ∧ W.cell? ⟨w.heap.size, 1, none⟩ = some (.int .u16 aty) ∧ W.cell? ⟨w.heap.size, 2, none⟩ = some (.int .u16 acl) ∧ W.cell? ⟨w.heap.size, 3, none⟩ = some (.int .u32 attl) ∧ W.cell? ⟨w.heap.size, 4, none⟩ = some (.string ara) ∧ W.cell? ⟨w.heap.size, 5, none⟩ = some (.string aho) ∧ W.cell? ⟨w.heap.size, 6, none⟩ = some (.string ama) ∧ W.cell? ⟨w.heap.size, 7, none⟩ = some (.int .u32 an0) ∧ W.cell? ⟨w.heap.size, 8, none⟩ = some (.int .u32 an1) ∧ W.cell? ⟨w.heap.size, 9, none⟩ = some (.int .u32 an2) ∧ W.cell? ⟨w.heap.size, 10, none⟩ = some (.int .u32 an3) ∧ W.cell? ⟨w.heap.size, 11, none⟩ = some (.int .u32 an4) ∧ W.cell? ⟨w.heap.size + 1, 0, none⟩ = some (.string bnm) ∧ W.cell? ⟨w.heap.size + 1, 1, none⟩ = some (.int .u16 bty) ∧ W.cell? ⟨w.heap.size + 1, 2, none⟩ = some (.int .u16 bcl) ∧ W.cell? ⟨w.heap.size + 1, 3, none⟩ = some (.int .u32 bttl) ∧ W.cell? ⟨w.heap.size + 1, 4, none⟩ = some (.string bra) ∧ W.cell? ⟨w.heap.size + 1, 5, none⟩ = some (.string bho) ∧ W.cell? ⟨w.heap.size + 1, 6, none⟩ = some (.string bma) ∧ W.cell? ⟨w.heap.size + 1, 7, none⟩ = some (.int .u32 bn0) ∧ W.cell? ⟨w.heap.size + 1, 8, none⟩ = some (.int .u32 bn1) ∧ W.cell? ⟨w.heap.size + 1, 9, none⟩ = some (.int .u32 bn2) ∧ W.cell? ⟨w.heap.size + 1, 10, none⟩ = some (.int .u32 bn3) ∧ W.cell? ⟨w.heap.size + 1, 11, none⟩ = some (.int .u32 bn4)) ∧ Below w0.heap.size w0 W)
          (first
            | assumption
            | exact HK.out _ (Below.drew HB1.out)
            | exact HK.out _ HW1.out)
          (first
            | (go_at_call_of 36 (Value.agg #[.string anm, .int .u16 aty, .int .u16 acl, .int .u32 attl, .string ara, .string aho, .string ama, .int .u32 an0, .int .u32 an1, .int .u32 an2, .int .u32 an3, .int .u32 an4]); (with_reducible refine (H4.out _).mono ?_); rintro e W1 ⟨rfl, B1⟩; have HW1 : Hid (Below w0.heap.size w0 W1) := (by go_split_ands; exact below_r5 (by assumption) B1); clear B1)
            | (go_at_call_of 36 (Value.agg #[.string bnm, .int .u16 bty, .int .u16 bcl, .int .u32 bttl, .string bra, .string bho, .string bma, .int .u32 bn0, .int .u32 bn1, .int .u32 bn2, .int .u32 bn3, .int .u32 bn4]); (with_reducible refine (H5.out _).mono ?_); rintro e W1 ⟨rfl, B1⟩; have HW1 : Hid (Below w0.heap.size w0 W1) := (by go_split_ands; exact below_r5 (by assumption) B1); clear B1)
            | (go_at_call 60; (with_reducible refine (H6.out _).mono ?_); rintro e W1 ⟨rfl, B1⟩; have HW1 : Hid (Below w0.heap.size w0 W1) := (by go_split_ands; exact below_r5 (by assumption) B1); clear B1))
        all_goals
          (go_wp2_with fail
           go_meet
           exact ⟨rfl, HW1.out⟩)
      case rest =>
        obtain ⟨rfl, HB2⟩ := hcut
        by_cases h2 : x2 = 0
        · subst h2
          have hk := HK.out _ HB2.out
          go_split_ands
          go_wp2_with (go_at_call 61; refine (H7.out _).mono ?_; rintro e W3 ⟨rfl, rfl⟩)
          go_ret
          exact ⟨by rw [HR3.out (by first | rfl | trivial) (by first | rfl | trivial)]; rfl, HB0.out.trans (HB2.out.mono HB0.out.size)⟩
        · have hq : (x2 == 0) = false := by simpa using h2
          have HQ := Lib.hid (HR2.out (by first | rfl | trivial) h2)
          clear h2
          go_wp2
          go_ret
          exact ⟨by rw [HQ.out]; rfl, HB0.out.trans (HB2.out.mono HB0.out.size)⟩
    · have hq : (x1 == 0) = false := by simpa using h1
      have HQ := Lib.hid (HR1.out h1)
      clear h1
      go_wp2
      go_ret
      exact ⟨by rw [HQ.out]; rfl, HB0.out.trans (HB1.out.mono HB0.out.size)⟩
end Go.Proofs.YtmieakkhpkclpaaDoor
