/- Texts of the proofs, merged. -/
import Derived.Test.YtmieakkhpkclpaaDoorG18
import Derived.Test.YtmieakkhpkclpaaDoorG6
import Derived.Test.YtmieakkhpkclpaaDoorG7
import Derived.Deep.RegionHeld3
import Derived.BigQuiet
import Derived.Test.YtmieakkhpkclpaaDoorG17
/- The orders of numbers, of texts, of names: the program's. -/
namespace Go.Proofs.YtmieakkhpkclpaaDoor
open Go.RowKit

theorem isNaN_u16 (x : Int) (w : World) : Calls Tryd.prog 57 #[.int .u16 x] w fun e w' => e = .returned (.bool false) ∧ w = w' := by
  go_enter Tryd.func57, Tryd.ntmps57
  go_wp2
  go_ret
  exact ⟨rfl, rfl⟩
theorem isNaN_u32 (x : Int) (w : World) : Calls Tryd.prog 63 #[.int .u32 x] w fun e w' => e = .returned (.bool false) ∧ w = w' := by
  go_enter Tryd.func63, Tryd.ntmps63
  go_wp2
  go_ret
  exact ⟨rfl, rfl⟩
theorem isNaN_name (s : ByteArray) (w : World) : Calls Tryd.prog 86 #[.string s] w fun e w' => e = .returned (.bool false) ∧ w = w' := by
  go_enter Tryd.func86, Tryd.ntmps86
  go_wp2
  go_ret
  exact ⟨rfl, rfl⟩
set_option maxRecDepth 100000 in
theorem cmp_u16 (a b : Nat) (w : World) : Calls Tryd.prog 35 #[.int .u16 a, .int .u16 b] w fun e w' => e = .returned (.int .i64 (Nm.sgn a b)) ∧ w = w' := by
  have H := Lib.hid (fun (x : Int) (W : World) => isNaN_u16 x W)
  rcases Nat.lt_trichotomy a b with h | h | h
  · rw [Nm.sgn_lt h]
    have h1 : decide ((a : Int) < (b : Int)) = true := by simp; omega
    go_enter Tryd.func35, Tryd.ntmps35
    go_wp2_with (go_at_call 57; refine (H.out _ _).mono ?_; rintro e w2 ⟨rfl, rfl⟩)
    go_ret
    exact ⟨rfl, rfl⟩
  · subst h
    rw [Nm.sgn_self]
    go_enter Tryd.func35, Tryd.ntmps35
    go_wp2_with (go_at_call 57; refine (H.out _ _).mono ?_; rintro e w2 ⟨rfl, rfl⟩)
    go_ret
    exact ⟨rfl, rfl⟩
  · rw [Nm.sgn_gt h]
    have h1 : decide ((a : Int) < (b : Int)) = false := by simp; omega
    have h2 : decide ((b : Int) < (a : Int)) = true := by simp; omega
    go_enter Tryd.func35, Tryd.ntmps35
    go_wp2_with (go_at_call 57; refine (H.out _ _).mono ?_; rintro e w2 ⟨rfl, rfl⟩)
    go_ret
    exact ⟨rfl, rfl⟩
set_option maxRecDepth 100000 in
theorem cmp_u32 (a b : Nat) (w : World) : Calls Tryd.prog 39 #[.int .u32 a, .int .u32 b] w fun e w' => e = .returned (.int .i64 (Nm.sgn a b)) ∧ w = w' := by
  have H := Lib.hid (fun (x : Int) (W : World) => isNaN_u32 x W)
  rcases Nat.lt_trichotomy a b with h | h | h
  · rw [Nm.sgn_lt h]
    have h1 : decide ((a : Int) < (b : Int)) = true := by simp; omega
    go_enter Tryd.func39, Tryd.ntmps39
    go_wp2_with (go_at_call 63; refine (H.out _ _).mono ?_; rintro e w2 ⟨rfl, rfl⟩)
    go_ret
    exact ⟨rfl, rfl⟩
  · subst h
    rw [Nm.sgn_self]
    go_enter Tryd.func39, Tryd.ntmps39
    go_wp2_with (go_at_call 63; refine (H.out _ _).mono ?_; rintro e w2 ⟨rfl, rfl⟩)
    go_ret
    exact ⟨rfl, rfl⟩
  · rw [Nm.sgn_gt h]
    have h1 : decide ((a : Int) < (b : Int)) = false := by simp; omega
    have h2 : decide ((b : Int) < (a : Int)) = true := by simp; omega
    go_enter Tryd.func39, Tryd.ntmps39
    go_wp2_with (go_at_call 63; refine (H.out _ _).mono ?_; rintro e w2 ⟨rfl, rfl⟩)
    go_ret
    exact ⟨rfl, rfl⟩
theorem less_cmp : ∀ x y : List UInt8, Op.bytesLess x y = decide (Nm.cmpB x y < 0)
  | [], [] => rfl
  | [], _ :: _ => rfl
  | _ :: _, [] => rfl
  | a :: x, b :: y => by
    have ih := less_cmp x y
    unfold Op.bytesLess Nm.cmpB
    rw [ih]
    by_cases h : a = b
    · subst h
      have : ¬ a < a := UInt8.lt_irrefl a
      simp [this]
    · have hn : a.toNat ≠ b.toNat := fun e => h (UInt8.toNat_inj.1 e)
      have hb : (a == b) = false := by simpa using h
      rw [hb]
      by_cases hl : a.toNat < b.toNat
      · have : a < b := UInt8.lt_iff_toNat_lt.2 hl
        simp [this, h, Nm.sgn, hl]
      · have : ¬ a < b := fun e => hl (UInt8.lt_iff_toNat_lt.1 e)
        have h2 : b.toNat < a.toNat := by omega
        simp [this, h, Nm.sgn, hl, h2]
set_option maxRecDepth 100000 in
theorem cmp_name (a b : ByteArray) (w : World) : Calls Tryd.prog 56 #[.string a, .string b] w fun e w' => e = .returned (.int .i64 (Nm.cmpB a.data.toList b.data.toList)) ∧ w = w' := by
  have H := Lib.hid (fun (x : ByteArray) (W : World) => isNaN_name x W)
  have hl := less_cmp a.toList b.toList
  have hr := Nm.cmpB_range a.toList b.toList
  have hz := Nm.cmpB_zero (a := a.toList) (b := b.toList)
  rw [← ByteArray.toList_eq, ← ByteArray.toList_eq]
  rcases (by omega : Nm.cmpB a.toList b.toList = -1 ∨ Nm.cmpB a.toList b.toList = 0 ∨ Nm.cmpB a.toList b.toList = 1) with h | h | h
  · rw [h] at hl ⊢
    clear hr hz h
    go_enter Tryd.func56, Tryd.ntmps56
    go_wp2_with (go_at_call 86; refine (H.out _ _).mono ?_; rintro e w2 ⟨rfl, rfl⟩)
    go_ret
    exact ⟨rfl, rfl⟩
  · have he : (a.toList == b.toList) = true := by simpa using hz.1 h
    rw [h] at hl ⊢
    clear hr hz h
    go_enter Tryd.func56, Tryd.ntmps56
    go_wp2_with (go_at_call 86; refine (H.out _ _).mono ?_; rintro e w2 ⟨rfl, rfl⟩)
    go_ret
    exact ⟨rfl, rfl⟩
  · have he : (a.toList == b.toList) = false := by rw [beq_eq_false_iff_ne]; intro e; have := hz.2 e; omega
    rw [h] at hl ⊢
    clear hr hz h
    go_enter Tryd.func56, Tryd.ntmps56
    go_wp2_with (go_at_call 86; refine (H.out _ _).mono ?_; rintro e w2 ⟨rfl, rfl⟩)
    go_ret
    exact ⟨rfl, rfl⟩
/-- the program's order of names, and of those that are alike their bytes. -/
theorem cmpName_any (a b : ByteArray) (w : World) (ha : a.size ≤ 140737488355328) (hb : b.size ≤ 140737488355328) :
    Calls Tryd.prog 33 #[.string a, .string b] w fun e w' => e = .returned (.int .i64 (Rr.cmpA a.data.toList b.data.toList)) ∧ Below w.heap.size w w' := by
  have H1 := Lib.hid (Cmp_any a b w ha hb)
  have H2 := Lib.hid (fun W : World => cmp_name a b W)
  unfold Rr.cmpA Rr.lx
  generalize Nm.cmpN a.data.toList b.data.toList = x at *
  generalize Nm.cmpB a.data.toList b.data.toList = y at *
  by_cases h : x = 0
  · subst h
    rw [if_pos rfl]
    go_enter Tryd.func33, Tryd.ntmps33
    go_wp2_with (first
      | (go_at_call 55; refine H1.out.mono ?_; rintro e w1 ⟨rfl, B1⟩; have HB1 := Lib.hid B1; clear B1)
      | (go_at_call 56; refine (H2.out _).mono ?_; rintro e w2 ⟨rfl, rfl⟩))
    go_ret
    exact ⟨rfl, HB1.out⟩
  · rw [if_neg h]
    have hne : (x == 0) = false := by simpa using h
    go_enter Tryd.func33, Tryd.ntmps33
    go_wp2_with (go_at_call 55; refine H1.out.mono ?_; rintro e w1 ⟨rfl, B1⟩; have HB1 := Lib.hid B1; clear B1)
    go_ret
    exact ⟨rfl, HB1.out⟩
end Go.Proofs.YtmieakkhpkclpaaDoor
/- The order of keys: the program's. -/
namespace Go.Proofs.YtmieakkhpkclpaaDoor
open Go.RowKit

set_option maxRecDepth 100000 in
theorem or2 (g : Nat) (x y : Int) (w : World) (c0 : w.cell? ⟨g, 0, none⟩ = some (.int .i64 x)) (c1 : w.cell? ⟨g, 1, none⟩ = some (.int .i64 y)) :
    Calls Tryd.prog 34 #[.slice (some ⟨g, 0, none⟩) 2 2] w fun e w' => e = .returned (.int .i64 (Rr.lx x y)) ∧ w = w' := by
  obtain ⟨R, hR⟩ : ∃ R, Rr.lx x y = R := ⟨_, rfl⟩
  rw [hR]
  have HR := Lib.hid hR
  clear hR
  go_enter Tryd.func34, Tryd.ntmps34
  go_wp2
  go_loopw [8] (fun i wr => ∃ k : Nat, i = .int .i64 k ∧ Hid (k = 0 ∨ (k = 1 ∧ x = 0) ∨ (k = 2 ∧ x = 0 ∧ y = 0)) ∧ w = wr) (fun i _ => 3 - (intOf i).toNat)
  case atStart => exact ⟨0, rfl, .inl rfl, rfl⟩
  case round =>
    obtain ⟨k, rfl, HK, rfl⟩ := hrel
    rcases HK.out with rfl | ⟨rfl, hx⟩ | ⟨rfl, hx, hy⟩
    · by_cases h : x = 0
      · have hne : (x == 0) = true := by simpa using h
        have H := Lib.hid h
        clear h HK
        go_wp2
        go_roundw
        case rel => exact ⟨1, by first | rfl | trivial | simp, .inr (.inl ⟨rfl, H.out⟩), by first | rfl | trivial⟩
        case measure => simp [intOf]
      · have hne : (x == 0) = false := by simpa using h
        have H : Hid (R = x) := by rw [Hid, ← HR.out]; exact if_neg h
        clear h HK
        go_wp2
        go_ret
        exact ⟨by rw [H.out]; rfl, rfl⟩
    · have HX := Lib.hid hx
      clear hx HK
      by_cases h : y = 0
      · have hne : (y == 0) = true := by simpa using h
        have H := Lib.hid h
        clear h
        go_wp2
        go_roundw
        case rel => exact ⟨2, by first | rfl | trivial | simp, .inr (.inr ⟨rfl, HX.out, H.out⟩), by first | rfl | trivial⟩
        case measure => simp [intOf]
      · have hne : (y == 0) = false := by simpa using h
        have H : Hid (R = y) := by rw [Hid, ← HR.out]; exact if_pos HX.out
        clear h
        go_wp2
        go_ret
        exact ⟨by rw [H.out]; rfl, rfl⟩
    · have H : Hid (R = 0) := by rw [Hid, ← HR.out]; exact (if_pos hx).trans hy
      clear hx hy HK
      go_wp2
      go_ret
      exact ⟨by rw [H.out]; rfl, rfl⟩
set_option maxHeartbeats 1000000 in
set_option maxRecDepth 100000 in
theorem cmpKey_any (a b : Kv) (w : World) (ha : a.nm.size ≤ 140737488355328) (hb : b.nm.size ≤ 140737488355328) :
    Calls Tryd.prog 19 #[a.val, b.val] w fun e w' => e = .returned (.int .i64 (Rr.cmpK a.ky b.ky)) ∧ Below w.heap.size w w' := by
  have H1 := Lib.hid (fun (W : World) => cmpName_any a.nm b.nm W ha hb)
  have H2 := Lib.hid (fun (x y : Nat) (W : World) => cmp_u16 x y W)
  have H3 := Lib.hid or2
  unfold Rr.cmpK Kv.val
  show Calls _ _ _ _ fun e w' => e = .returned (.int .i64 (Rr.lx (Rr.cmpA a.nm.data.toList b.nm.data.toList) (Rr.lx (Nm.sgn a.ty b.ty) (Nm.sgn a.cl b.cl)))) ∧ Below w.heap.size w w'
  obtain ⟨an, at', ac⟩ := a
  obtain ⟨bn, bt, bc⟩ := b
  simp only at *
  generalize Rr.cmpA an.data.toList bn.data.toList = x at *
  have HA : Hid (Has ((w.alloc (.cells #[.string an, .int .u16 at', .int .u16 ac] 26)).alloc (.cells #[.string bn, .int .u16 bt, .int .u16 bc] 26)) w.heap.size 26 #[.string an, .int .u16 at', .int .u16 ac]) := (Has.fresh w _ _).alloc _
  have HBx : Hid (Has ((w.alloc (.cells #[.string an, .int .u16 at', .int .u16 ac] 26)).alloc (.cells #[.string bn, .int .u16 bt, .int .u16 bc] 26)) (w.heap.size + 1) 26 #[.string bn, .int .u16 bt, .int .u16 bc]) := by
    have h := Has.fresh (w.alloc (.cells #[.string an, .int .u16 at', .int .u16 ac] 26)) 26 #[.string bn, .int .u16 bt, .int .u16 bc]
    have e : (w.alloc (.cells #[.string an, .int .u16 at', .int .u16 ac] 26)).heap.size = w.heap.size + 1 := by simp
    rw [e] at h
    exact h
  have HB0 : Hid (Below w.heap.size w ((w.alloc (.cells #[.string an, .int .u16 at', .int .u16 ac] 26)).alloc (.cells #[.string bn, .int .u16 bt, .int .u16 bc] 26))) := ((Below.refl _ _).alloc (Nat.le_refl _) _).alloc (by simp) _
  by_cases h : x = 0
  · subst h
    rw [show Rr.lx 0 (Rr.lx (Nm.sgn at' bt) (Nm.sgn ac bc)) = Rr.lx (Nm.sgn at' bt) (Nm.sgn ac bc) from if_pos rfl]
    go_enter Tryd.func19, Tryd.ntmps19
    go_wp2_with (go_at_call 33; refine (H1.out _).mono ?_; rintro e w1 ⟨rfl, B1⟩; have hA := HA.out.below B1 (by simp; omega); have hBx := HBx.out.below B1 (by simp); have HB1 := Lib.hid (HB0.out.trans (B1.mono HB0.out.size)); have a1 : w1.cell? ⟨w.heap.size, 1, none⟩ = some (.int .u16 at') := (by rw [hA.cell]; rfl); have a2 : w1.cell? ⟨w.heap.size, 2, none⟩ = some (.int .u16 ac) := (by rw [hA.cell]; rfl); have b1 : w1.cell? ⟨w.heap.size + 1, 1, none⟩ = some (.int .u16 bt) := (by rw [hBx.cell]; rfl); have b2 : w1.cell? ⟨w.heap.size + 1, 2, none⟩ = some (.int .u16 bc) := (by rw [hBx.cell]; rfl); have HA2 : Hid (w.heap.size + 1 < w1.heap.size) := hBx.lt; clear B1 hA hBx)
    have hlt : w.heap.size + 1 < w1.heap.size := HA2.out
    go_region_held3 (fun W => W.cell? ⟨w.heap.size, 1, none⟩ = some (.int .u16 at') ∧ W.cell? ⟨w.heap.size, 2, none⟩ = some (.int .u16 ac) ∧ W.cell? ⟨w.heap.size + 1, 1, none⟩ = some (.int .u16 bt) ∧ W.cell? ⟨w.heap.size + 1, 2, none⟩ = some (.int .u16 bc)) (go_keep) (first
      | (go_at_call 35; refine (H2.out _ _ _).mono ?_; rintro e w2 ⟨rfl, rfl⟩)
      | (go_at_call 34; refine Calls.mono (H3.out w1.heap.size (Nm.sgn at' bt) (Nm.sgn ac bc) _ ?_ ?_) ?_; exact (Has.fresh w1 _ _).cell 0; exact (Has.fresh w1 _ _).cell 1; rintro e w2 ⟨rfl, rfl⟩))
    go_wp2
    go_ret
    exact ⟨rfl, (HB1.out.alloc HB1.out.size _).drew⟩
  · rw [show Rr.lx x (Rr.lx (Nm.sgn at' bt) (Nm.sgn ac bc)) = x from if_neg h]
    have hne : (x != 0) = true := by simpa using h
    have hne2 : (x == 0) = false := by simpa using h
    have H := Lib.hid h
    clear h
    go_enter Tryd.func19, Tryd.ntmps19
    go_wp2_with (go_at_call 33; refine (H1.out _).mono ?_; rintro e w1 ⟨rfl, B1⟩; have HB1 := Lib.hid (HB0.out.trans (B1.mono HB0.out.size)); clear B1)
    go_ret
    exact ⟨rfl, HB1.out⟩
end Go.Proofs.YtmieakkhpkclpaaDoor
/- The order of data: the program's. -/
namespace Go.Proofs.YtmieakkhpkclpaaDoor
open Go.RowKit

/-- numbers, one by one. -/
def Rr.cmpF (x y : Nat → Nat) : Nat → Nat → Int
  | 0, _ => 0
  | n + 1, k => Rr.lx (Nm.sgn (x k) (y k)) (Rr.cmpF x y n (k + 1))
set_option maxHeartbeats 1000000 in
set_option maxRecDepth 100000 in
theorem cmpU_any (g o g2 o2 : Nat) (x y : Nat → Nat) (w : World) (hx : ∀ k, k < 5 → w.cell? ⟨g, o + k, none⟩ = some (.int .u32 (x k : Nat))) (hy : ∀ k, k < 5 → w.cell? ⟨g2, o2 + k, none⟩ = some (.int .u32 (y k : Nat))) :
    Calls Tryd.prog 44 #[.slice (some ⟨g, o, none⟩) 5 5, .slice (some ⟨g2, o2, none⟩) 5 5] w fun e w' => e = .returned (.int .i64 (Rr.cmpF x y 5 0)) ∧ w = w' := by
  have H := Lib.hid (fun (a b : Nat) (W : World) => cmp_u32 a b W)
  have HX := Lib.hid hx
  have HY := Lib.hid hy
  clear hx hy
  obtain ⟨R, hR⟩ : ∃ R, Rr.cmpF x y 5 0 = R := ⟨_, rfl⟩
  rw [hR]
  have HR := Lib.hid hR
  clear hR
  go_enter Tryd.func44, Tryd.ntmps44
  go_wp2
  go_loopw [11] (fun i wr => ∃ k : Nat, i = .int .i64 k ∧ k ≤ 5 ∧ Hid (R = Rr.cmpF x y (5 - k) k) ∧ w = wr) (fun i _ => 5 - (intOf i).toNat)
  case atStart => exact ⟨0, rfl, by omega, HR.out.symm, rfl⟩
  case round =>
    obtain ⟨k, rfl, hk, HK, rfl⟩ := hrel
    by_cases h : k < 5
    · have h1 : decide ((k : Int) < 5) = true := by simp; omega
      have h2 : decide ((5 : Int) ≤ (k : Int)) = false := by simp; omega
      have h0 : (0 : Int) ≤ (k : Int) := by omega
      have h3 : (k : Int) < 5 := by omega
      have cx := HX.out k h
      have cy := HY.out k h
      have HN : Hid (R = Rr.lx (Nm.sgn (x k) (y k)) (Rr.cmpF x y (5 - (k + 1)) (k + 1))) := by
        rw [Hid, HK.out, show 5 - k = (5 - (k + 1)) + 1 from by omega]; rfl
      clear HK
      generalize x k = a at *
      generalize y k = b at *
      by_cases hs : Nm.sgn a b = 0
      · have HN2 : Hid (R = Rr.cmpF x y (5 - (k + 1)) (k + 1)) := by rw [Hid, HN.out, Rr.lx, if_pos hs]
        have hne : (Nm.sgn a b != 0) = false := by simpa using hs
        have hne2 : (Nm.sgn a b == 0) = true := by simpa using hs
        clear hs HN
        go_wp2_with (go_at_call 39; refine (H.out _ _ _).mono ?_; rintro e w2 ⟨rfl, rfl⟩)
        go_roundw
        case rel => exact ⟨k + 1, by go_num, by omega, HN2.out, trivial⟩
        case measure => simp [intOf]; omega
      · have HN2 : Hid (R = Nm.sgn a b) := by rw [Hid, HN.out, Rr.lx, if_neg hs]
        have hne : (Nm.sgn a b != 0) = true := by simpa using hs
        have hne2 : (Nm.sgn a b == 0) = false := by simpa using hs
        clear hs HN
        go_wp2_with (go_at_call 39; refine (H.out _ _ _).mono ?_; rintro e w2 ⟨rfl, rfl⟩)
        go_ret
        exact ⟨by rw [HN2.out]; rfl, rfl⟩
    · have : k = 5 := by omega
      subst this
      have HN : Hid (R = 0) := HK.out
      clear HK h hk
      go_wp2
      go_ret
      exact ⟨by rw [HN.out]; rfl, rfl⟩
theorem cmpF_five (a b : Dv) : Rr.cmpF a.n b.n 5 0 = Rr.cmpI a.dt b.dt := by
  have z : ∀ t : Int, Rr.lx t 0 = t := fun t => by unfold Rr.lx; split <;> omega
  show Rr.lx _ (Rr.lx _ (Rr.lx _ (Rr.lx _ (Rr.lx _ 0)))) = _
  rw [z]
  rfl
set_option maxHeartbeats 1000000 in
set_option maxRecDepth 100000 in
theorem cmpData_any (a b : Dv) (w : World) (ha : a.host.size ≤ 140737488355328) (hb : b.host.size ≤ 140737488355328) (hma : a.mail.size ≤ 140737488355328) (hmb : b.mail.size ≤ 140737488355328) :
    Calls Tryd.prog 28 #[a.val, b.val] w fun e w' => e = .returned (.int .i64 (Rr.cmpD a.dt b.dt)) ∧ Below w.heap.size w w' := by
  have H1 := Lib.hid (fun W : World => (show Calls Tryd.prog 43 #[.string a.raw, .string b.raw] W fun e w' => e = .returned (.int .i64 (Nm.cmpB a.raw.data.toList b.raw.data.toList)) ∧ w' = W from by
    have := Tryd.strings_Compare a.raw b.raw W
    rwa [compareBytes_eq] at this))
  have H2 := Lib.hid (fun W : World => cmpName_any a.host b.host W ha hb)
  have H3 := Lib.hid (fun W : World => cmpName_any a.mail b.mail W hma hmb)
  have H4 : Hid (∀ W : World, (∀ k, k < 5 → W.cell? ⟨w.heap.size, 3 + k, none⟩ = some (.int .u32 (a.n k : Nat))) → (∀ k, k < 5 → W.cell? ⟨w.heap.size + 1, 3 + k, none⟩ = some (.int .u32 (b.n k : Nat))) →
      Calls Tryd.prog 44 #[.slice (some ⟨w.heap.size, 3, none⟩) 5 5, .slice (some ⟨w.heap.size + 1, 3, none⟩) 5 5] W fun e w' => e = .returned (.int .i64 (Rr.cmpI a.dt b.dt)) ∧ W = w') := fun W hx hy => by
    rw [← cmpF_five]
    exact cmpU_any _ _ _ _ _ _ W hx hy
  have HA : Hid (Has ((w.alloc (.cells a.cells 41)).alloc (.cells b.cells 41)) w.heap.size 41 a.cells) := (Has.fresh w _ _).alloc _
  have HBx : Hid (Has ((w.alloc (.cells a.cells 41)).alloc (.cells b.cells 41)) (w.heap.size + 1) 41 b.cells) := by
    have h := Has.fresh (w.alloc (.cells a.cells 41)) 41 b.cells
    have e : (w.alloc (.cells a.cells 41)).heap.size = w.heap.size + 1 := by simp
    rw [e] at h
    exact h
  have HB0 : Hid (Below w.heap.size w ((w.alloc (.cells a.cells 41)).alloc (.cells b.cells 41))) := ((Below.refl _ _).alloc (Nat.le_refl _) _).alloc (by simp) _
  unfold Rr.cmpD
  have hlx : ∀ x y : Int, x ≠ 0 → Rr.lx x y = x := fun x y h => if_neg h
  have hl0 : ∀ y : Int, Rr.lx 0 y = y := fun y => if_pos rfl
  change Calls _ _ _ _ fun e w' => e = .returned (.int .i64 (Rr.lx (Nm.cmpB a.raw.data.toList b.raw.data.toList) (Rr.lx (Rr.cmpA a.host.data.toList b.host.data.toList) (Rr.lx (Rr.cmpA a.mail.data.toList b.mail.data.toList) (Rr.cmpI a.dt b.dt))))) ∧ Below w.heap.size w w'
  have HD := Lib.hid (fun k (hk : k < 5) => a.cell_n hk)
  have HDb := Lib.hid (fun k (hk : k < 5) => b.cell_n hk)
  generalize Nm.cmpB a.raw.data.toList b.raw.data.toList = x1 at *
  generalize Rr.cmpA a.host.data.toList b.host.data.toList = x2 at *
  generalize Rr.cmpA a.mail.data.toList b.mail.data.toList = x3 at *
  generalize Rr.cmpI a.dt b.dt = x4 at *
  generalize ea : a.n = an at *
  generalize eb : b.n = bn at *
  clear ea eb
  obtain ⟨ar, ah, am, a0, a1, a2, a3, a4⟩ := a
  obtain ⟨br, bh, bm, b0, b1, b2, b3, b4⟩ := b
  dsimp only [Dv.val, Dv.cells] at *
  by_cases h1 : x1 = 0
  · subst h1
    rw [hl0]
    by_cases h2 : x2 = 0
    · subst h2
      rw [hl0]
      by_cases h3 : x3 = 0
      · subst h3
        rw [hl0]
        clear hlx hl0
        go_enter Tryd.func28, Tryd.ntmps28
        go_wp2_with (first
          | (go_at_call 43; refine (H1.out _).mono ?_; rintro e w1 ⟨rfl, rfl⟩)
          | (go_at_call_of 33 (Value.string ah); refine (H2.out _).mono ?_; rintro e w1 ⟨rfl, B1⟩; have hA := HA.out.below B1 (by simp; omega); have hBx := HBx.out.below B1 (by simp); have HB1 := Lib.hid (HB0.out.trans (B1.mono HB0.out.size)); have m1 : w1.cell? ⟨w.heap.size, 2, none⟩ = some (.string am) := (by rw [hA.cell]; rfl); have m2 : w1.cell? ⟨w.heap.size + 1, 2, none⟩ = some (.string bm) := (by rw [hBx.cell]; rfl); have HA1 := Lib.hid hA; have HBx1 := Lib.hid hBx; clear B1 hA hBx)
          | (go_at_call_of 33 (Value.string am); refine (H3.out _).mono ?_; rintro e w2 ⟨rfl, B2⟩; have hA := HA1.out.below B2 HA1.out.lt; have hBx := HBx1.out.below B2 HBx1.out.lt; have HB2 := Lib.hid (HB1.out.trans (B2.mono HB1.out.size)); have HX := Lib.hid (fun k (hk : k < 5) => (hA.cell (3 + k)).trans (HD.out k hk)); have HY := Lib.hid (fun k (hk : k < 5) => (hBx.cell (3 + k)).trans (HDb.out k hk)); clear B2 hA hBx))
        go_quiet ((go_at_call 44; exact quiet_eq (H4.out _ HX.out HY.out)))
        go_wp2
        go_ret
        exact ⟨rfl, below_drewN HB2.out _⟩
      · rw [hlx _ _ h3]
        have hne : (x3 != 0) = true := by simpa using h3
        have hne2 : (x3 == 0) = false := by simpa using h3
        clear h3 hlx hl0
        go_enter Tryd.func28, Tryd.ntmps28
        go_wp2_with (first
          | (go_at_call 43; refine (H1.out _).mono ?_; rintro e w1 ⟨rfl, rfl⟩)
          | (go_at_call_of 33 (Value.string ah); refine (H2.out _).mono ?_; rintro e w1 ⟨rfl, B1⟩; have hA := HA.out.below B1 (by simp; omega); have hBx := HBx.out.below B1 (by simp); have HB1 := Lib.hid (HB0.out.trans (B1.mono HB0.out.size)); have m1 : w1.cell? ⟨w.heap.size, 2, none⟩ = some (.string am) := (by rw [hA.cell]; rfl); have m2 : w1.cell? ⟨w.heap.size + 1, 2, none⟩ = some (.string bm) := (by rw [hBx.cell]; rfl); have HA1 := Lib.hid hA; have HBx1 := Lib.hid hBx; clear B1 hA hBx)
          | (go_at_call_of 33 (Value.string am); refine (H3.out _).mono ?_; rintro e w2 ⟨rfl, B2⟩; have hA := HA1.out.below B2 HA1.out.lt; have hBx := HBx1.out.below B2 HBx1.out.lt; have HB2 := Lib.hid (HB1.out.trans (B2.mono HB1.out.size)); have HX := Lib.hid (fun k (hk : k < 5) => (hA.cell (3 + k)).trans (HD.out k hk)); have HY := Lib.hid (fun k (hk : k < 5) => (hBx.cell (3 + k)).trans (HDb.out k hk)); clear B2 hA hBx))
        go_ret
        exact ⟨rfl, HB2.out⟩
    · rw [hlx _ _ h2]
      have hne : (x2 != 0) = true := by simpa using h2
      have hne2 : (x2 == 0) = false := by simpa using h2
      clear h2 hlx hl0
      go_enter Tryd.func28, Tryd.ntmps28
      go_wp2_with (first
        | (go_at_call 43; refine (H1.out _).mono ?_; rintro e w1 ⟨rfl, rfl⟩)
        | (go_at_call_of 33 (Value.string ah); refine (H2.out _).mono ?_; rintro e w1 ⟨rfl, B1⟩; have hA := HA.out.below B1 (by simp; omega); have hBx := HBx.out.below B1 (by simp); have HB1 := Lib.hid (HB0.out.trans (B1.mono HB0.out.size)); have m1 : w1.cell? ⟨w.heap.size, 2, none⟩ = some (.string am) := (by rw [hA.cell]; rfl); have m2 : w1.cell? ⟨w.heap.size + 1, 2, none⟩ = some (.string bm) := (by rw [hBx.cell]; rfl); have HA1 := Lib.hid hA; have HBx1 := Lib.hid hBx; clear B1 hA hBx))
      go_ret
      exact ⟨rfl, HB1.out⟩
  · rw [hlx _ _ h1]
    have hne : (x1 != 0) = true := by simpa using h1
    have hne2 : (x1 == 0) = false := by simpa using h1
    clear h1 hlx hl0
    go_enter Tryd.func28, Tryd.ntmps28
    go_wp2_with (first
      | (go_at_call 43; refine (H1.out _).mono ?_; rintro e w1 ⟨rfl, rfl⟩))
    go_ret
    exact ⟨rfl, HB0.out⟩
end Go.Proofs.YtmieakkhpkclpaaDoor
/- The order of records in small letters: the program's. -/
namespace Go.Proofs.YtmieakkhpkclpaaDoor
open Go.RowKit

set_option maxRecDepth 100000 in
theorem keyOf_any (r : Rv) (w : World) : Calls Tryd.prog 15 #[r.val] w fun e w' => e = .returned r.kv.val ∧ Below w.heap.size w w' := by
  have HB0 : ∀ c1 c2 : Array Value, Hid (Below w.heap.size w ((w.alloc (.cells c1 43)).alloc (.cells c2 26))) := fun c1 c2 => ((Below.refl _ _).alloc (Nat.le_refl _) _).alloc (by simp) _
  obtain ⟨nm, ty, cl, ttl, ra, ho, ma, n0, n1, n2, n3, n4⟩ := r
  dsimp only [Rv.val, Rv.cells, Rv.kv, Kv.val]
  have hi3 : (Tryd.prog.info? 26).map (·.size) = some 3 := by kernel_rfl
  have HI := Lib.hid hi3
  clear hi3
  have HG : ∀ c1 : Array Value, Hid (Has ((w.alloc (.cells c1 43)).alloc (.cells #[.string nm, .int .u16 ty, .int .u16 cl] 26)) (w.heap.size + 1) 26 #[.string nm, .int .u16 ty, .int .u16 cl]) := fun c1 => by
    have h := Has.fresh (w.alloc (.cells c1 43)) 26 #[.string nm, .int .u16 ty, .int .u16 cl]
    have e : (w.alloc (.cells c1 43)).heap.size = w.heap.size + 1 := by simp
    rw [e] at h
    exact h
  go_enter Tryd.func15, Tryd.ntmps15
  go_wp2
  refine bodyPost_ret (results_cell_row rfl _ _ (w.heap.size + 1) 26 #[.string nm, .int .u16 ty, .int .u16 cl] (0, 0) _ rfl (HG _).out Tryd.underlying26 rfl HI.out) rfl ?_
  exact ⟨rfl, (HB0 _ _).out⟩
end Go.Proofs.YtmieakkhpkclpaaDoor
