/- Texts of the proofs, merged. -/
import Derived.Test.YtmieakkhpkclpaaDoorG55
import Derived.Test.YtmieakkhpkclpaaDoorG57
import Derived.Test.YtmieakkhpkclpaaDoorG56
import Derived.Test.YtmieakkhpkclpaaDoorG48
import Derived.Test.YtmieakkhpkclpaaDoorG51
import Derived.Test.YtmieakkhpkclpaaDoorG36
import Derived.Test.YtmieakkhpkclpaaDoorG31
import Derived.Test.YtmieakkhpkclpaaDoorG58
import Derived.Deep.RegionHeld3
/- RrsetSets: the walk. -/
namespace Go.Proofs.YtmieakkhpkclpaaDoor
open Go.RowKit Go.Sort Go.Shelf

theorem below_on6 {a b c : World} (h : Below a.heap.size a b) (k : Below b.heap.size b c) : Below a.heap.size a c := h.trans (k.mono h.size)
theorem srow_up {W W' : World} {A : Option Addr} {l : List Rv} (h : Srow rcl 12 W 0 W.heap.size A l) (hb : Below W.heap.size W W') : Srow rcl 12 W' 0 W'.heap.size A l := (h.keep hb).more (Nat.le_refl _) hb.size
theorem srow_has {W : World} {g : Nat} {l : List Rv} (h : Has W g 43 (flatK rcl 12 l.toArray)) : Srow rcl 12 W 0 W.heap.size (some ⟨g, 0, none⟩) l := fun _ =>
  ⟨g, 0, rfl, Nat.zero_le _, h.lt, fun j hj => rows_of rcl_len h (xs := l) (by simp) j hj⟩
/-- wakes alone. -/
def tvc (s : Tv) : Array Value := #[.string s.k.nm, .int .u16 s.k.ty, .int .u16 s.k.cl, .int .u32 s.ttl, .slice s.dA s.ds.length s.dc]
set_option maxHeartbeats 4000000 in
set_option maxRecDepth 1000000 in
theorem walk_RrsetSets (w : World) (hL : LayR w) (A : Option Addr) (l : List Rv) (ca : Nat) (_hca : l.length ≤ ca) (hna : A = none → ca = 0) (hSa : Srow rcl 12 w 0 w.heap.size A l) (fa : ∀ r ∈ l, r.fits) (na : ∀ r ∈ l, r.near)
    (s : Tv) (_hf : s.fits) (hl : s.lies w) (_hm : s.near) :
    Calls Tryd.prog 3 #[.slice A l.length ca, s.val] w fun e w' => e = .returned (.bool true) ∧ Below w.heap.size w w' := by
  obtain ⟨⟨kn, kt, kc⟩, ttl, dA, ds, dc⟩ := s
  have hrow : Srow dcl 8 w 0 w.heap.size dA ds := hl.2.2
  have hcd : ds.length ≤ dc := hl.1
  have hv : (⟨⟨kn, kt, kc⟩, ttl, dA, ds, dc⟩ : Tv).val = .agg #[.string kn, .int .u16 kt, .int .u16 kc, .int .u32 ttl, .slice dA ds.length dc] := rfl
  rw [hv]
  have hX0 : Has (w.alloc (.cells #[.string kn, .int .u16 kt, .int .u16 kc, .int .u32 ttl, .slice dA ds.length dc] 30)) w.heap.size 30 #[.string kn, .int .u16 kt, .int .u16 kc, .int .u32 ttl, .slice dA ds.length dc] := Has.fresh w _ _
  have hB0 : Below w.heap.size w (w.alloc (.cells #[.string kn, .int .u16 kt, .int .u16 kc, .int .u32 ttl, .slice dA ds.length dc] 30)) := (Below.refl _ _).alloc (Nat.le_refl _) _
  have c4 : (w.alloc (.cells #[.string kn, .int .u16 kt, .int .u16 kc, .int .u32 ttl, .slice dA ds.length dc] 30)).cell? ⟨w.heap.size, 4, none⟩ = some (.slice dA ds.length dc) := hX0.cell 4
  have HW := Lib.hid (fun (W : World) (h : Below w.heap.size w W) => rrWakes W (hL.below h (Nat.le_refl _)))
  have HB0 := Lib.hid hB0
  clear hv
  by_cases h1 : l.length ≤ 200
  · have d1 : decide ((200 : Int) < (l.length : Int)) = false := by rw [decide_eq_false_iff_not]; omega
    by_cases h2 : ds.length ≤ 200
    · have d2 : decide ((200 : Int) < (ds.length : Int)) = false := by rw [decide_eq_false_iff_not]; omega
      have H1 := Lib.hid (fun (W : World) (h : Below w.heap.size w W) => owned_any l A ca W ((hSa.keep h).more (Nat.le_refl _) h.size) hna (by omega))
      have H2 := Lib.hid (fun (W : World) (h : Below w.heap.size w W) (A' : Option Addr) (c' : Nat) (hS : Srow rcl 12 W 0 W.heap.size A' l) => sets_any l A' c' W (hL.below h (Nat.le_refl _)) hS (fun r hr => ⟨⟨(fa r hr).1, (fa r hr).2.1⟩, (na r hr).short⟩) (by omega))
      have H3 := Lib.hid (fun (W : World) (h : Below w.heap.size w W) => refSets_any l A ca W ((hSa.keep h).more (Nat.le_refl _) h.size) (fun r hr => ⟨fa r hr, na r hr⟩) h1)
      have H5 := Lib.hid (fun (W : World) (h : Below w.heap.size w W) => recordsG_any ⟨kn, kt, kc⟩ ttl dA ds dc W hcd ((hrow.keep h).more (Nat.le_refl _) h.size) (by omega))
      have H6 := Lib.hid (fun (W : World) (h : Below w.heap.size w W) => r5Recs_any ⟨kn, kt, kc⟩ ttl dA ds dc W ((hrow.keep h).more (Nat.le_refl _) h.size) h2)
      have HSA := Lib.hid (fun (W : World) (h : Below w.heap.size w W) => (show Srow rcl 12 W 0 W.heap.size A l from (hSa.keep h).more (Nat.le_refl _) h.size))
      have HN : Hid (l.length ≤ 4294967296) := by unfold Hid; omega
      have HND : Hid ((ds.map fun d => (⟨kn, kt, kc, ttl, d⟩ : Rv)).length ≤ 4294967296) := by rw [Hid, List.length_map]; omega
      have HDL : Hid ((ds.map fun d => (⟨kn, kt, kc, ttl, d⟩ : Rv)).length = ds.length) := List.length_map ..
      have HX0 := Lib.hid hX0
      clear hL hna hSa fa na hrow hcd hl _hf _hm h1 h2 hB0 hX0
      go_enter Tryd.func3, Tryd.ntmps3
      go_upto_region 4 with (
        go_at_call 5
        (with_reducible refine (H1.out _ HB0.out).mono ?_)
        rintro e wb ⟨A1, c1, rfl, _, S1, B1⟩
        have HSB := Lib.hid (S1.more (Nat.zero_le _) (Nat.le_refl _))
        have HBB := Lib.hid (HB0.out.trans (B1.mono HB0.out.size))
        have HXB := Lib.hid (HX0.out.below B1 HX0.out.lt)
        clear B1 S1)
      clear c4 HX0 HB0 H1
      have HK := Lib.hid (fun (W : World) (hb : Below wb.heap.size wb W) => (show (W.cell? ⟨w.heap.size, 0, none⟩ = some (.string kn) ∧ W.cell? ⟨w.heap.size, 1, none⟩ = some (.int .u16 kt) ∧ W.cell? ⟨w.heap.size, 2, none⟩ = some (.int .u16 kc) ∧ W.cell? ⟨w.heap.size, 3, none⟩ = some (.int .u32 ttl) ∧ W.cell? ⟨w.heap.size, 4, none⟩ = some (.slice dA ds.length dc)) ∧ Below wb.heap.size wb W from by
        have h := HXB.out.below hb HXB.out.lt
        exact ⟨⟨h.cell 0, h.cell 1, h.cell 2, h.cell 3, h.cell 4⟩, hb⟩))
      have HBW := Lib.hid (fun (W : World) (hb : Below wb.heap.size wb W) => (show Below w.heap.size w W from HBB.out.trans (hb.mono HBB.out.size)))
      have HSI := Lib.hid (fun (W : World) (hb : Below wb.heap.size wb W) => srow_up HSB.out hb)
      have HD0 : Hid (Below wb.heap.size wb wb.drew) := (Below.refl _ _).drew
      refine wp_region_noPanic ?_
      refine wp_region_held_drew (S := (fun W => (W.cell? ⟨w.heap.size, 0, none⟩ = some (.string kn) ∧ W.cell? ⟨w.heap.size, 1, none⟩ = some (.int .u16 kt) ∧ W.cell? ⟨w.heap.size, 2, none⟩ = some (.int .u16 kc) ∧ W.cell? ⟨w.heap.size, 3, none⟩ = some (.int .u32 ttl) ∧ W.cell? ⟨w.heap.size, 4, none⟩ = some (.slice dA ds.length dc)) ∧ Below wb.heap.size wb W)) (by kernel_rfl) ?hax1 (fun hHeld => ?_)
      case hax1 =>
        try dsimp only
        (first | assumption | exact HK.out _ HW8.out | exact HK.out _ HW7.out | exact HK.out _ HW6.out | exact HK.out _ HW5.out | exact HK.out _ HW4.out | exact HK.out _ HW3.out | exact HK.out _ HW2.out | exact HK.out _ HW1.out | exact HK.out _ (Below.refl _ _).drew)
      refine wpAnyH_take (i := 0) (oi := { dst := some 18, op := Go.Op.move (Go.Operand.tmp 5), type := 22, pos := "law.go:60", after := #[], guard := none }) (v := ?vax2) rfl (by kernel_rfl) (by kernel_rfl) (by kernel_rfl) (fun _ _ _ h => h) (Or.inl ⟨by rfl, ?hax2⟩) (by assumption) ?_
      case hax2 =>
        intro w hSw
        try dsimp only at hSw
        go_simp
        try with_reducible rfl
      try simp only [Act.put, List.setIfInBounds_toArray, List.set_cons_zero, List.set_cons_succ]
      refine wpAnyH_take (i := 2) (oi := { dst := some 20, op := Go.Op.move (Go.Operand.tmp 0), type := 22, pos := "law.go:60", after := #[], guard := none }) (v := ?vax3) rfl (by kernel_rfl) (by kernel_rfl) (by kernel_rfl) (fun _ _ _ h => h) (Or.inl ⟨by rfl, ?hax3⟩) (by assumption) ?_
      case hax3 =>
        intro w hSw
        try dsimp only at hSw
        go_simp
        try with_reducible rfl
      try simp only [Act.put, List.setIfInBounds_toArray, List.set_cons_zero, List.set_cons_succ]
      refine wpAnyH_ready (rs := [1]) (by kernel_rfl) (by simp) ?_
      refine AllReadyH.cons (o := { dst := some 19, op := Go.Op.call { callee := Go.Callee.value (Go.Operand.func 7), args := #[Go.Operand.tmp 18], argTypes := #[22] }, type := 34, pos := "law.go:60", after := #[{ on := 0, ground := Go.Ground.data }], guard := none }) rfl (fun K hK => ?_) AllReadyH.nil
      go_simp
      (first | (go_at_call 7; (with_reducible refine (H2.out _ (HBW.out _ HD0.out) A1 c1 (HSI.out _ HD0.out)).mono ?_); rintro e W1 ⟨l1, v1, rfl, e1, S1, B1⟩; have HW1 := Lib.hid (below_on6 HD0.out B1); have HE1 := Lib.hid e1; have HS1 := Lib.hid (setsAt_keep S1 (Below.refl _ _)); clear B1 e1 S1) | (go_at_call 8; (with_reducible refine (H3.out _ (HBW.out _ HW1.out)).mono ?_); rintro e W2 ⟨l2, v2, rfl, e2, S2, B2⟩; have HW2 := Lib.hid (below_on6 HW1.out B2); have HE2 := Lib.hid e2; have HS2 := Lib.hid (setsAt_keep S2 (Below.refl _ _)); have HS1' := Lib.hid (setsAt_keep HS1.out B2); clear B2 e2 S2) | (go_at_call 6; have h12 : l1.map Sx.st = l2.map Sx.st := HE1.out.trans HE2.out.symm; have h13 := len_sets HE1.out HN.out; have h14 := len_ds HE1.out HN.out; (with_reducible refine (eqSets5_any l1 l2 v1 v2 0 0 _ HS1'.out HS2.out h12 h13 h14).mono ?_); rintro e W3 ⟨rfl, B3⟩; have HW3 := Lib.hid (below_on6 HW2.out B3); clear B3) | (go_at_call_of 9 (Value.slice A1 l.length c1); (with_reducible refine (refEqual_any l A1 A c1 ca _ (HSI.out _ HW3.out) (HSA.out _ (HBW.out _ HW3.out)) HN.out).mono ?_); rintro e W4 ⟨rfl, B4⟩; have HW4 := Lib.hid (below_on6 HW3.out B4); clear B4) | (go_at_call 10; (with_reducible refine (H5.out _ (HBW.out _ HW4.out)).mono ?_); rintro e W5 ⟨g5, rfl, _, X5, B5⟩; have HW5 := Lib.hid (below_on6 HW4.out B5); have HR5 := Lib.hid (srow_has X5); clear B5 X5) | (go_at_call 11; (with_reducible refine (H6.out _ (HBW.out _ HW5.out)).mono ?_); rintro e W6 ⟨v6, rfl, O6, B6⟩; have HW6 := Lib.hid (below_on6 HW5.out B6); have HR5' := Lib.hid (srow_up HR5.out B6); obtain ⟨A6, c6, e6, _, X6⟩ := Own.srow rcl_len O6; rw [HDL.out] at e6; subst e6; have HR6 := Lib.hid (X6.more (Nat.zero_le _) (Nat.le_refl _)); clear B6 O6 X6) | (go_at_call 9; refine ((by have h := refEqual_any _ _ _ ds.length c6 _ HR5'.out HR6.out HND.out; rw [HDL.out] at h; exact h : Calls Tryd.prog 9 #[.slice (some ⟨g5, 0, none⟩) ds.length ds.length, .slice A6 ds.length c6] W6 fun e w' => e = .returned (.bool true) ∧ Below W6.heap.size W6 w')).mono ?_; rintro e W7 ⟨rfl, B7⟩; have HW7 := Lib.hid (below_on6 HW6.out B7); clear B7) | (go_at_call 4; (with_reducible refine (HW.out _ (HBW.out _ HW7.out)).mono ?_); rintro e W8 ⟨rfl, B8⟩; have HW8 := Lib.hid (below_on6 HW7.out B8); clear B8))
      try go_wp2_with fail
      refine hK.out _ _ ?hax4 (fun hHeld => ?_)
      case hax4 =>
        try dsimp only
        (first | assumption | exact HK.out _ HW8.out | exact HK.out _ HW7.out | exact HK.out _ HW6.out | exact HK.out _ HW5.out | exact HK.out _ HW4.out | exact HK.out _ HW3.out | exact HK.out _ HW2.out | exact HK.out _ HW1.out | exact HK.out _ (Below.refl _ _).drew)
      clear hK K
      try simp only [Act.put, List.setIfInBounds_toArray, List.set_cons_zero, List.set_cons_succ]
      refine wpAnyH_ready (rs := [3]) (by kernel_rfl) (by simp) ?_
      refine AllReadyH.cons (o := { dst := some 21, op := Go.Op.call { callee := Go.Callee.value (Go.Operand.func 8), args := #[Go.Operand.tmp 20], argTypes := #[22] }, type := 34, pos := "law.go:60", after := #[{ on := 2, ground := Go.Ground.data }, { on := 1, ground := Go.Ground.chain }], guard := none }) rfl (fun K hK => ?_) AllReadyH.nil
      go_simp
      (first | (go_at_call 7; (with_reducible refine (H2.out _ (HBW.out _ HD0.out) A1 c1 (HSI.out _ HD0.out)).mono ?_); rintro e W1 ⟨l1, v1, rfl, e1, S1, B1⟩; have HW1 := Lib.hid (below_on6 HD0.out B1); have HE1 := Lib.hid e1; have HS1 := Lib.hid (setsAt_keep S1 (Below.refl _ _)); clear B1 e1 S1) | (go_at_call 8; (with_reducible refine (H3.out _ (HBW.out _ HW1.out)).mono ?_); rintro e W2 ⟨l2, v2, rfl, e2, S2, B2⟩; have HW2 := Lib.hid (below_on6 HW1.out B2); have HE2 := Lib.hid e2; have HS2 := Lib.hid (setsAt_keep S2 (Below.refl _ _)); have HS1' := Lib.hid (setsAt_keep HS1.out B2); clear B2 e2 S2) | (go_at_call 6; have h12 : l1.map Sx.st = l2.map Sx.st := HE1.out.trans HE2.out.symm; have h13 := len_sets HE1.out HN.out; have h14 := len_ds HE1.out HN.out; (with_reducible refine (eqSets5_any l1 l2 v1 v2 0 0 _ HS1'.out HS2.out h12 h13 h14).mono ?_); rintro e W3 ⟨rfl, B3⟩; have HW3 := Lib.hid (below_on6 HW2.out B3); clear B3) | (go_at_call_of 9 (Value.slice A1 l.length c1); (with_reducible refine (refEqual_any l A1 A c1 ca _ (HSI.out _ HW3.out) (HSA.out _ (HBW.out _ HW3.out)) HN.out).mono ?_); rintro e W4 ⟨rfl, B4⟩; have HW4 := Lib.hid (below_on6 HW3.out B4); clear B4) | (go_at_call 10; (with_reducible refine (H5.out _ (HBW.out _ HW4.out)).mono ?_); rintro e W5 ⟨g5, rfl, _, X5, B5⟩; have HW5 := Lib.hid (below_on6 HW4.out B5); have HR5 := Lib.hid (srow_has X5); clear B5 X5) | (go_at_call 11; (with_reducible refine (H6.out _ (HBW.out _ HW5.out)).mono ?_); rintro e W6 ⟨v6, rfl, O6, B6⟩; have HW6 := Lib.hid (below_on6 HW5.out B6); have HR5' := Lib.hid (srow_up HR5.out B6); obtain ⟨A6, c6, e6, _, X6⟩ := Own.srow rcl_len O6; rw [HDL.out] at e6; subst e6; have HR6 := Lib.hid (X6.more (Nat.zero_le _) (Nat.le_refl _)); clear B6 O6 X6) | (go_at_call 9; refine ((by have h := refEqual_any _ _ _ ds.length c6 _ HR5'.out HR6.out HND.out; rw [HDL.out] at h; exact h : Calls Tryd.prog 9 #[.slice (some ⟨g5, 0, none⟩) ds.length ds.length, .slice A6 ds.length c6] W6 fun e w' => e = .returned (.bool true) ∧ Below W6.heap.size W6 w')).mono ?_; rintro e W7 ⟨rfl, B7⟩; have HW7 := Lib.hid (below_on6 HW6.out B7); clear B7) | (go_at_call 4; (with_reducible refine (HW.out _ (HBW.out _ HW7.out)).mono ?_); rintro e W8 ⟨rfl, B8⟩; have HW8 := Lib.hid (below_on6 HW7.out B8); clear B8))
      try go_wp2_with fail
      refine hK.out _ _ ?hax5 (fun hHeld => ?_)
      case hax5 =>
        try dsimp only
        (first | assumption | exact HK.out _ HW8.out | exact HK.out _ HW7.out | exact HK.out _ HW6.out | exact HK.out _ HW5.out | exact HK.out _ HW4.out | exact HK.out _ HW3.out | exact HK.out _ HW2.out | exact HK.out _ HW1.out | exact HK.out _ (Below.refl _ _).drew)
      clear hK K
      try simp only [Act.put, List.setIfInBounds_toArray, List.set_cons_zero, List.set_cons_succ]
      refine wpAnyH_ready (rs := [4]) (by kernel_rfl) (by simp) ?_
      refine AllReadyH.cons (o := { dst := some 22, op := Go.Op.call { callee := Go.Callee.value (Go.Operand.func 6), args := #[Go.Operand.tmp 19, Go.Operand.tmp 21], argTypes := #[34, 34] }, type := 4, pos := "law.go:60", after := #[{ on := 1, ground := Go.Ground.data }, { on := 3, ground := Go.Ground.data }, { on := 3, ground := Go.Ground.chain }], guard := none }) rfl (fun K hK => ?_) AllReadyH.nil
      go_simp
      (first | (go_at_call 7; (with_reducible refine (H2.out _ (HBW.out _ HD0.out) A1 c1 (HSI.out _ HD0.out)).mono ?_); rintro e W1 ⟨l1, v1, rfl, e1, S1, B1⟩; have HW1 := Lib.hid (below_on6 HD0.out B1); have HE1 := Lib.hid e1; have HS1 := Lib.hid (setsAt_keep S1 (Below.refl _ _)); clear B1 e1 S1) | (go_at_call 8; (with_reducible refine (H3.out _ (HBW.out _ HW1.out)).mono ?_); rintro e W2 ⟨l2, v2, rfl, e2, S2, B2⟩; have HW2 := Lib.hid (below_on6 HW1.out B2); have HE2 := Lib.hid e2; have HS2 := Lib.hid (setsAt_keep S2 (Below.refl _ _)); have HS1' := Lib.hid (setsAt_keep HS1.out B2); clear B2 e2 S2) | (go_at_call 6; have h12 : l1.map Sx.st = l2.map Sx.st := HE1.out.trans HE2.out.symm; have h13 := len_sets HE1.out HN.out; have h14 := len_ds HE1.out HN.out; (with_reducible refine (eqSets5_any l1 l2 v1 v2 0 0 _ HS1'.out HS2.out h12 h13 h14).mono ?_); rintro e W3 ⟨rfl, B3⟩; have HW3 := Lib.hid (below_on6 HW2.out B3); clear B3) | (go_at_call_of 9 (Value.slice A1 l.length c1); (with_reducible refine (refEqual_any l A1 A c1 ca _ (HSI.out _ HW3.out) (HSA.out _ (HBW.out _ HW3.out)) HN.out).mono ?_); rintro e W4 ⟨rfl, B4⟩; have HW4 := Lib.hid (below_on6 HW3.out B4); clear B4) | (go_at_call 10; (with_reducible refine (H5.out _ (HBW.out _ HW4.out)).mono ?_); rintro e W5 ⟨g5, rfl, _, X5, B5⟩; have HW5 := Lib.hid (below_on6 HW4.out B5); have HR5 := Lib.hid (srow_has X5); clear B5 X5) | (go_at_call 11; (with_reducible refine (H6.out _ (HBW.out _ HW5.out)).mono ?_); rintro e W6 ⟨v6, rfl, O6, B6⟩; have HW6 := Lib.hid (below_on6 HW5.out B6); have HR5' := Lib.hid (srow_up HR5.out B6); obtain ⟨A6, c6, e6, _, X6⟩ := Own.srow rcl_len O6; rw [HDL.out] at e6; subst e6; have HR6 := Lib.hid (X6.more (Nat.zero_le _) (Nat.le_refl _)); clear B6 O6 X6) | (go_at_call 9; refine ((by have h := refEqual_any _ _ _ ds.length c6 _ HR5'.out HR6.out HND.out; rw [HDL.out] at h; exact h : Calls Tryd.prog 9 #[.slice (some ⟨g5, 0, none⟩) ds.length ds.length, .slice A6 ds.length c6] W6 fun e w' => e = .returned (.bool true) ∧ Below W6.heap.size W6 w')).mono ?_; rintro e W7 ⟨rfl, B7⟩; have HW7 := Lib.hid (below_on6 HW6.out B7); clear B7) | (go_at_call 4; (with_reducible refine (HW.out _ (HBW.out _ HW7.out)).mono ?_); rintro e W8 ⟨rfl, B8⟩; have HW8 := Lib.hid (below_on6 HW7.out B8); clear B8))
      try go_wp2_with fail
      refine hK.out _ _ ?hax6 (fun hHeld => ?_)
      case hax6 =>
        try dsimp only
        (first | assumption | exact HK.out _ HW8.out | exact HK.out _ HW7.out | exact HK.out _ HW6.out | exact HK.out _ HW5.out | exact HK.out _ HW4.out | exact HK.out _ HW3.out | exact HK.out _ HW2.out | exact HK.out _ HW1.out | exact HK.out _ (Below.refl _ _).drew)
      clear hK K
      try simp only [Act.put, List.setIfInBounds_toArray, List.set_cons_zero, List.set_cons_succ]
      refine wpAnyH_take (i := 5) (oi := { dst := some 23, op := Go.Op.move (Go.Operand.tmp 22), type := 4, pos := "law.go:60", after := #[{ on := 4, ground := Go.Ground.data }, { on := 4, ground := Go.Ground.chain }], guard := none }) (v := ?vax7) rfl (by kernel_rfl) (by kernel_rfl) (by kernel_rfl) (fun _ _ _ h => h) (Or.inl ⟨by rfl, ?hax7⟩) (by assumption) ?_
      case hax7 =>
        intro w hSw
        try dsimp only at hSw
        go_simp
        try with_reducible rfl
      try simp only [Act.put, List.setIfInBounds_toArray, List.set_cons_zero, List.set_cons_succ]
      refine wpAnyH_take (i := 6) (oi := { dst := some 24, op := Go.Op.move (Go.Operand.tmp 5), type := 22, pos := "law.go:60", after := #[{ on := 5, ground := Go.Ground.guard }], guard := some (5, true) }) (v := ?vax8) rfl (by kernel_rfl) (by kernel_rfl) (by kernel_rfl) (fun _ _ _ h => h) (Or.inl ⟨by rfl, ?hax8⟩) (by assumption) ?_
      case hax8 =>
        intro w hSw
        try dsimp only at hSw
        go_simp
        try with_reducible rfl
      try simp only [Act.put, List.setIfInBounds_toArray, List.set_cons_zero, List.set_cons_succ]
      refine wpAnyH_take (i := 7) (oi := { dst := some 25, op := Go.Op.move (Go.Operand.tmp 0), type := 22, pos := "law.go:60", after := #[{ on := 5, ground := Go.Ground.guard }], guard := some (5, true) }) (v := ?vax9) rfl (by kernel_rfl) (by kernel_rfl) (by kernel_rfl) (fun _ _ _ h => h) (Or.inl ⟨by rfl, ?hax9⟩) (by assumption) ?_
      case hax9 =>
        intro w hSw
        try dsimp only at hSw
        go_simp
        try with_reducible rfl
      try simp only [Act.put, List.setIfInBounds_toArray, List.set_cons_zero, List.set_cons_succ]
      refine wpAnyH_ready (rs := [8]) (by kernel_rfl) (by simp) ?_
      refine AllReadyH.cons (o := { dst := some 26, op := Go.Op.call { callee := Go.Callee.value (Go.Operand.func 9), args := #[Go.Operand.tmp 24, Go.Operand.tmp 25], argTypes := #[22, 22] }, type := 4, pos := "law.go:60", after := #[{ on := 6, ground := Go.Ground.data }, { on := 7, ground := Go.Ground.data }, { on := 5, ground := Go.Ground.chain }, { on := 5, ground := Go.Ground.guard }], guard := some (5, true) }) rfl (fun K hK => ?_) AllReadyH.nil
      go_simp
      (first | (go_at_call 7; (with_reducible refine (H2.out _ (HBW.out _ HD0.out) A1 c1 (HSI.out _ HD0.out)).mono ?_); rintro e W1 ⟨l1, v1, rfl, e1, S1, B1⟩; have HW1 := Lib.hid (below_on6 HD0.out B1); have HE1 := Lib.hid e1; have HS1 := Lib.hid (setsAt_keep S1 (Below.refl _ _)); clear B1 e1 S1) | (go_at_call 8; (with_reducible refine (H3.out _ (HBW.out _ HW1.out)).mono ?_); rintro e W2 ⟨l2, v2, rfl, e2, S2, B2⟩; have HW2 := Lib.hid (below_on6 HW1.out B2); have HE2 := Lib.hid e2; have HS2 := Lib.hid (setsAt_keep S2 (Below.refl _ _)); have HS1' := Lib.hid (setsAt_keep HS1.out B2); clear B2 e2 S2) | (go_at_call 6; have h12 : l1.map Sx.st = l2.map Sx.st := HE1.out.trans HE2.out.symm; have h13 := len_sets HE1.out HN.out; have h14 := len_ds HE1.out HN.out; (with_reducible refine (eqSets5_any l1 l2 v1 v2 0 0 _ HS1'.out HS2.out h12 h13 h14).mono ?_); rintro e W3 ⟨rfl, B3⟩; have HW3 := Lib.hid (below_on6 HW2.out B3); clear B3) | (go_at_call_of 9 (Value.slice A1 l.length c1); (with_reducible refine (refEqual_any l A1 A c1 ca _ (HSI.out _ HW3.out) (HSA.out _ (HBW.out _ HW3.out)) HN.out).mono ?_); rintro e W4 ⟨rfl, B4⟩; have HW4 := Lib.hid (below_on6 HW3.out B4); clear B4) | (go_at_call 10; (with_reducible refine (H5.out _ (HBW.out _ HW4.out)).mono ?_); rintro e W5 ⟨g5, rfl, _, X5, B5⟩; have HW5 := Lib.hid (below_on6 HW4.out B5); have HR5 := Lib.hid (srow_has X5); clear B5 X5) | (go_at_call 11; (with_reducible refine (H6.out _ (HBW.out _ HW5.out)).mono ?_); rintro e W6 ⟨v6, rfl, O6, B6⟩; have HW6 := Lib.hid (below_on6 HW5.out B6); have HR5' := Lib.hid (srow_up HR5.out B6); obtain ⟨A6, c6, e6, _, X6⟩ := Own.srow rcl_len O6; rw [HDL.out] at e6; subst e6; have HR6 := Lib.hid (X6.more (Nat.zero_le _) (Nat.le_refl _)); clear B6 O6 X6) | (go_at_call 9; refine ((by have h := refEqual_any _ _ _ ds.length c6 _ HR5'.out HR6.out HND.out; rw [HDL.out] at h; exact h : Calls Tryd.prog 9 #[.slice (some ⟨g5, 0, none⟩) ds.length ds.length, .slice A6 ds.length c6] W6 fun e w' => e = .returned (.bool true) ∧ Below W6.heap.size W6 w')).mono ?_; rintro e W7 ⟨rfl, B7⟩; have HW7 := Lib.hid (below_on6 HW6.out B7); clear B7) | (go_at_call 4; (with_reducible refine (HW.out _ (HBW.out _ HW7.out)).mono ?_); rintro e W8 ⟨rfl, B8⟩; have HW8 := Lib.hid (below_on6 HW7.out B8); clear B8))
      try go_wp2_with fail
      refine hK.out _ _ ?hax10 (fun hHeld => ?_)
      case hax10 =>
        try dsimp only
        (first | assumption | exact HK.out _ HW8.out | exact HK.out _ HW7.out | exact HK.out _ HW6.out | exact HK.out _ HW5.out | exact HK.out _ HW4.out | exact HK.out _ HW3.out | exact HK.out _ HW2.out | exact HK.out _ HW1.out | exact HK.out _ (Below.refl _ _).drew)
      clear hK K
      try simp only [Act.put, List.setIfInBounds_toArray, List.set_cons_zero, List.set_cons_succ]
      refine wpAnyH_take (i := 9) (oi := { dst := some 27, op := Go.Op.pick (Go.Operand.tmp 23) (Go.Operand.tmp 26) (Go.Operand.const (Go.Value.bool false)), type := 4, pos := "law.go:60", after := #[{ on := 5, ground := Go.Ground.data }, { on := 8, ground := Go.Ground.data }], guard := none }) (v := ?vax11) rfl (by kernel_rfl) (by kernel_rfl) (by kernel_rfl) (fun _ _ _ h => h) (Or.inl ⟨by rfl, ?hax11⟩) (by assumption) ?_
      case hax11 =>
        intro w hSw
        try dsimp only at hSw
        go_simp
        try with_reducible rfl
      try simp only [Act.put, List.setIfInBounds_toArray, List.set_cons_zero, List.set_cons_succ]
      refine wpAnyH_take (i := 10) (oi := { dst := some 28, op := Go.Op.move (Go.Operand.tmp 27), type := 4, pos := "law.go:60", after := #[{ on := 9, ground := Go.Ground.data }, { on := 8, ground := Go.Ground.chain }], guard := none }) (v := ?vax12) rfl (by kernel_rfl) (by kernel_rfl) (by kernel_rfl) (fun _ _ _ h => h) (Or.inl ⟨by rfl, ?hax12⟩) (by assumption) ?_
      case hax12 =>
        intro w hSw
        try dsimp only at hSw
        go_simp
        try with_reducible rfl
      try simp only [Act.put, List.setIfInBounds_toArray, List.set_cons_zero, List.set_cons_succ]
      refine wpAnyH_take (i := 11) (oi := { dst := some 29, op := Go.Op.load 30 (Go.Operand.tmp 3), type := 30, pos := "law.go:60", after := #[{ on := 10, ground := Go.Ground.guard }], guard := some (10, true) }) (v := ?vax13) rfl (by kernel_rfl) (by kernel_rfl) (by kernel_rfl) (fun _ _ _ h => h) (Or.inl ⟨by rfl, ?hax13⟩) (by assumption) ?_
      case hax13 =>
        intro w hSw
        try dsimp only at hSw
        go_simp
        try with_reducible rfl
      try simp only [Act.put, List.setIfInBounds_toArray, List.set_cons_zero, List.set_cons_succ]
      refine wpAnyH_take (i := 13) (oi := { dst := some 31, op := Go.Op.load 30 (Go.Operand.tmp 3), type := 30, pos := "law.go:60", after := #[{ on := 10, ground := Go.Ground.guard }], guard := some (10, true) }) (v := ?vax14) rfl (by kernel_rfl) (by kernel_rfl) (by kernel_rfl) (fun _ _ _ h => h) (Or.inl ⟨by rfl, ?hax14⟩) (by assumption) ?_
      case hax14 =>
        intro w hSw
        try dsimp only at hSw
        go_simp
        try with_reducible rfl
      try simp only [Act.put, List.setIfInBounds_toArray, List.set_cons_zero, List.set_cons_succ]
      refine wpAnyH_ready (rs := [12]) (by kernel_rfl) (by simp) ?_
      refine AllReadyH.cons (o := { dst := some 30, op := Go.Op.call { callee := Go.Callee.value (Go.Operand.func 10), args := #[Go.Operand.tmp 29], argTypes := #[30] }, type := 22, pos := "law.go:60", after := #[{ on := 11, ground := Go.Ground.data }, { on := 10, ground := Go.Ground.chain }, { on := 10, ground := Go.Ground.guard }], guard := some (10, true) }) rfl (fun K hK => ?_) AllReadyH.nil
      go_simp
      (first | (go_at_call 7; (with_reducible refine (H2.out _ (HBW.out _ HD0.out) A1 c1 (HSI.out _ HD0.out)).mono ?_); rintro e W1 ⟨l1, v1, rfl, e1, S1, B1⟩; have HW1 := Lib.hid (below_on6 HD0.out B1); have HE1 := Lib.hid e1; have HS1 := Lib.hid (setsAt_keep S1 (Below.refl _ _)); clear B1 e1 S1) | (go_at_call 8; (with_reducible refine (H3.out _ (HBW.out _ HW1.out)).mono ?_); rintro e W2 ⟨l2, v2, rfl, e2, S2, B2⟩; have HW2 := Lib.hid (below_on6 HW1.out B2); have HE2 := Lib.hid e2; have HS2 := Lib.hid (setsAt_keep S2 (Below.refl _ _)); have HS1' := Lib.hid (setsAt_keep HS1.out B2); clear B2 e2 S2) | (go_at_call 6; have h12 : l1.map Sx.st = l2.map Sx.st := HE1.out.trans HE2.out.symm; have h13 := len_sets HE1.out HN.out; have h14 := len_ds HE1.out HN.out; (with_reducible refine (eqSets5_any l1 l2 v1 v2 0 0 _ HS1'.out HS2.out h12 h13 h14).mono ?_); rintro e W3 ⟨rfl, B3⟩; have HW3 := Lib.hid (below_on6 HW2.out B3); clear B3) | (go_at_call_of 9 (Value.slice A1 l.length c1); (with_reducible refine (refEqual_any l A1 A c1 ca _ (HSI.out _ HW3.out) (HSA.out _ (HBW.out _ HW3.out)) HN.out).mono ?_); rintro e W4 ⟨rfl, B4⟩; have HW4 := Lib.hid (below_on6 HW3.out B4); clear B4) | (go_at_call 10; (with_reducible refine (H5.out _ (HBW.out _ HW4.out)).mono ?_); rintro e W5 ⟨g5, rfl, _, X5, B5⟩; have HW5 := Lib.hid (below_on6 HW4.out B5); have HR5 := Lib.hid (srow_has X5); clear B5 X5) | (go_at_call 11; (with_reducible refine (H6.out _ (HBW.out _ HW5.out)).mono ?_); rintro e W6 ⟨v6, rfl, O6, B6⟩; have HW6 := Lib.hid (below_on6 HW5.out B6); have HR5' := Lib.hid (srow_up HR5.out B6); obtain ⟨A6, c6, e6, _, X6⟩ := Own.srow rcl_len O6; rw [HDL.out] at e6; subst e6; have HR6 := Lib.hid (X6.more (Nat.zero_le _) (Nat.le_refl _)); clear B6 O6 X6) | (go_at_call 9; refine ((by have h := refEqual_any _ _ _ ds.length c6 _ HR5'.out HR6.out HND.out; rw [HDL.out] at h; exact h : Calls Tryd.prog 9 #[.slice (some ⟨g5, 0, none⟩) ds.length ds.length, .slice A6 ds.length c6] W6 fun e w' => e = .returned (.bool true) ∧ Below W6.heap.size W6 w')).mono ?_; rintro e W7 ⟨rfl, B7⟩; have HW7 := Lib.hid (below_on6 HW6.out B7); clear B7) | (go_at_call 4; (with_reducible refine (HW.out _ (HBW.out _ HW7.out)).mono ?_); rintro e W8 ⟨rfl, B8⟩; have HW8 := Lib.hid (below_on6 HW7.out B8); clear B8))
      try go_wp2_with fail
      refine hK.out _ _ ?hax15 (fun hHeld => ?_)
      case hax15 =>
        try dsimp only
        (first | assumption | exact HK.out _ HW8.out | exact HK.out _ HW7.out | exact HK.out _ HW6.out | exact HK.out _ HW5.out | exact HK.out _ HW4.out | exact HK.out _ HW3.out | exact HK.out _ HW2.out | exact HK.out _ HW1.out | exact HK.out _ (Below.refl _ _).drew)
      clear hK K
      try simp only [Act.put, List.setIfInBounds_toArray, List.set_cons_zero, List.set_cons_succ]
      refine wpAnyH_ready (rs := [14]) (by kernel_rfl) (by simp) ?_
      refine AllReadyH.cons (o := { dst := some 32, op := Go.Op.call { callee := Go.Callee.value (Go.Operand.func 11), args := #[Go.Operand.tmp 31], argTypes := #[30] }, type := 22, pos := "law.go:60", after := #[{ on := 13, ground := Go.Ground.data }, { on := 12, ground := Go.Ground.chain }, { on := 10, ground := Go.Ground.guard }], guard := some (10, true) }) rfl (fun K hK => ?_) AllReadyH.nil
      go_simp
      (first | (go_at_call 7; (with_reducible refine (H2.out _ (HBW.out _ HD0.out) A1 c1 (HSI.out _ HD0.out)).mono ?_); rintro e W1 ⟨l1, v1, rfl, e1, S1, B1⟩; have HW1 := Lib.hid (below_on6 HD0.out B1); have HE1 := Lib.hid e1; have HS1 := Lib.hid (setsAt_keep S1 (Below.refl _ _)); clear B1 e1 S1) | (go_at_call 8; (with_reducible refine (H3.out _ (HBW.out _ HW1.out)).mono ?_); rintro e W2 ⟨l2, v2, rfl, e2, S2, B2⟩; have HW2 := Lib.hid (below_on6 HW1.out B2); have HE2 := Lib.hid e2; have HS2 := Lib.hid (setsAt_keep S2 (Below.refl _ _)); have HS1' := Lib.hid (setsAt_keep HS1.out B2); clear B2 e2 S2) | (go_at_call 6; have h12 : l1.map Sx.st = l2.map Sx.st := HE1.out.trans HE2.out.symm; have h13 := len_sets HE1.out HN.out; have h14 := len_ds HE1.out HN.out; (with_reducible refine (eqSets5_any l1 l2 v1 v2 0 0 _ HS1'.out HS2.out h12 h13 h14).mono ?_); rintro e W3 ⟨rfl, B3⟩; have HW3 := Lib.hid (below_on6 HW2.out B3); clear B3) | (go_at_call_of 9 (Value.slice A1 l.length c1); (with_reducible refine (refEqual_any l A1 A c1 ca _ (HSI.out _ HW3.out) (HSA.out _ (HBW.out _ HW3.out)) HN.out).mono ?_); rintro e W4 ⟨rfl, B4⟩; have HW4 := Lib.hid (below_on6 HW3.out B4); clear B4) | (go_at_call 10; (with_reducible refine (H5.out _ (HBW.out _ HW4.out)).mono ?_); rintro e W5 ⟨g5, rfl, _, X5, B5⟩; have HW5 := Lib.hid (below_on6 HW4.out B5); have HR5 := Lib.hid (srow_has X5); clear B5 X5) | (go_at_call 11; (with_reducible refine (H6.out _ (HBW.out _ HW5.out)).mono ?_); rintro e W6 ⟨v6, rfl, O6, B6⟩; have HW6 := Lib.hid (below_on6 HW5.out B6); have HR5' := Lib.hid (srow_up HR5.out B6); obtain ⟨A6, c6, e6, _, X6⟩ := Own.srow rcl_len O6; rw [HDL.out] at e6; subst e6; have HR6 := Lib.hid (X6.more (Nat.zero_le _) (Nat.le_refl _)); clear B6 O6 X6) | (go_at_call 9; refine ((by have h := refEqual_any _ _ _ ds.length c6 _ HR5'.out HR6.out HND.out; rw [HDL.out] at h; exact h : Calls Tryd.prog 9 #[.slice (some ⟨g5, 0, none⟩) ds.length ds.length, .slice A6 ds.length c6] W6 fun e w' => e = .returned (.bool true) ∧ Below W6.heap.size W6 w')).mono ?_; rintro e W7 ⟨rfl, B7⟩; have HW7 := Lib.hid (below_on6 HW6.out B7); clear B7) | (go_at_call 4; (with_reducible refine (HW.out _ (HBW.out _ HW7.out)).mono ?_); rintro e W8 ⟨rfl, B8⟩; have HW8 := Lib.hid (below_on6 HW7.out B8); clear B8))
      try go_wp2_with fail
      refine hK.out _ _ ?hax16 (fun hHeld => ?_)
      case hax16 =>
        try dsimp only
        (first | assumption | exact HK.out _ HW8.out | exact HK.out _ HW7.out | exact HK.out _ HW6.out | exact HK.out _ HW5.out | exact HK.out _ HW4.out | exact HK.out _ HW3.out | exact HK.out _ HW2.out | exact HK.out _ HW1.out | exact HK.out _ (Below.refl _ _).drew)
      clear hK K
      try simp only [Act.put, List.setIfInBounds_toArray, List.set_cons_zero, List.set_cons_succ]
      refine wpAnyH_ready (rs := [15]) (by kernel_rfl) (by simp) ?_
      refine AllReadyH.cons (o := { dst := some 33, op := Go.Op.call { callee := Go.Callee.value (Go.Operand.func 9), args := #[Go.Operand.tmp 30, Go.Operand.tmp 32], argTypes := #[22, 22] }, type := 4, pos := "law.go:60", after := #[{ on := 12, ground := Go.Ground.data }, { on := 14, ground := Go.Ground.data }, { on := 14, ground := Go.Ground.chain }, { on := 10, ground := Go.Ground.guard }], guard := some (10, true) }) rfl (fun K hK => ?_) AllReadyH.nil
      go_simp
      (first | (go_at_call 7; (with_reducible refine (H2.out _ (HBW.out _ HD0.out) A1 c1 (HSI.out _ HD0.out)).mono ?_); rintro e W1 ⟨l1, v1, rfl, e1, S1, B1⟩; have HW1 := Lib.hid (below_on6 HD0.out B1); have HE1 := Lib.hid e1; have HS1 := Lib.hid (setsAt_keep S1 (Below.refl _ _)); clear B1 e1 S1) | (go_at_call 8; (with_reducible refine (H3.out _ (HBW.out _ HW1.out)).mono ?_); rintro e W2 ⟨l2, v2, rfl, e2, S2, B2⟩; have HW2 := Lib.hid (below_on6 HW1.out B2); have HE2 := Lib.hid e2; have HS2 := Lib.hid (setsAt_keep S2 (Below.refl _ _)); have HS1' := Lib.hid (setsAt_keep HS1.out B2); clear B2 e2 S2) | (go_at_call 6; have h12 : l1.map Sx.st = l2.map Sx.st := HE1.out.trans HE2.out.symm; have h13 := len_sets HE1.out HN.out; have h14 := len_ds HE1.out HN.out; (with_reducible refine (eqSets5_any l1 l2 v1 v2 0 0 _ HS1'.out HS2.out h12 h13 h14).mono ?_); rintro e W3 ⟨rfl, B3⟩; have HW3 := Lib.hid (below_on6 HW2.out B3); clear B3) | (go_at_call_of 9 (Value.slice A1 l.length c1); (with_reducible refine (refEqual_any l A1 A c1 ca _ (HSI.out _ HW3.out) (HSA.out _ (HBW.out _ HW3.out)) HN.out).mono ?_); rintro e W4 ⟨rfl, B4⟩; have HW4 := Lib.hid (below_on6 HW3.out B4); clear B4) | (go_at_call 10; (with_reducible refine (H5.out _ (HBW.out _ HW4.out)).mono ?_); rintro e W5 ⟨g5, rfl, _, X5, B5⟩; have HW5 := Lib.hid (below_on6 HW4.out B5); have HR5 := Lib.hid (srow_has X5); clear B5 X5) | (go_at_call 11; (with_reducible refine (H6.out _ (HBW.out _ HW5.out)).mono ?_); rintro e W6 ⟨v6, rfl, O6, B6⟩; have HW6 := Lib.hid (below_on6 HW5.out B6); have HR5' := Lib.hid (srow_up HR5.out B6); obtain ⟨A6, c6, e6, _, X6⟩ := Own.srow rcl_len O6; rw [HDL.out] at e6; subst e6; have HR6 := Lib.hid (X6.more (Nat.zero_le _) (Nat.le_refl _)); clear B6 O6 X6) | (go_at_call 9; refine ((by have h := refEqual_any _ _ _ ds.length c6 _ HR5'.out HR6.out HND.out; rw [HDL.out] at h; exact h : Calls Tryd.prog 9 #[.slice (some ⟨g5, 0, none⟩) ds.length ds.length, .slice A6 ds.length c6] W6 fun e w' => e = .returned (.bool true) ∧ Below W6.heap.size W6 w')).mono ?_; rintro e W7 ⟨rfl, B7⟩; have HW7 := Lib.hid (below_on6 HW6.out B7); clear B7) | (go_at_call 4; (with_reducible refine (HW.out _ (HBW.out _ HW7.out)).mono ?_); rintro e W8 ⟨rfl, B8⟩; have HW8 := Lib.hid (below_on6 HW7.out B8); clear B8))
      try go_wp2_with fail
      refine hK.out _ _ ?hax17 (fun hHeld => ?_)
      case hax17 =>
        try dsimp only
        (first | assumption | exact HK.out _ HW8.out | exact HK.out _ HW7.out | exact HK.out _ HW6.out | exact HK.out _ HW5.out | exact HK.out _ HW4.out | exact HK.out _ HW3.out | exact HK.out _ HW2.out | exact HK.out _ HW1.out | exact HK.out _ (Below.refl _ _).drew)
      clear hK K
      try simp only [Act.put, List.setIfInBounds_toArray, List.set_cons_zero, List.set_cons_succ]
      refine wpAnyH_take (i := 16) (oi := { dst := some 34, op := Go.Op.pick (Go.Operand.tmp 28) (Go.Operand.tmp 33) (Go.Operand.const (Go.Value.bool false)), type := 4, pos := "law.go:60", after := #[{ on := 10, ground := Go.Ground.data }, { on := 15, ground := Go.Ground.data }], guard := none }) (v := ?vax18) rfl (by kernel_rfl) (by kernel_rfl) (by kernel_rfl) (fun _ _ _ h => h) (Or.inl ⟨by rfl, ?hax18⟩) (by assumption) ?_
      case hax18 =>
        intro w hSw
        try dsimp only at hSw
        go_simp
        try with_reducible rfl
      try simp only [Act.put, List.setIfInBounds_toArray, List.set_cons_zero, List.set_cons_succ]
      refine wpAnyH_take (i := 17) (oi := { dst := some 35, op := Go.Op.move (Go.Operand.tmp 34), type := 4, pos := "law.go:60", after := #[{ on := 16, ground := Go.Ground.data }, { on := 15, ground := Go.Ground.chain }], guard := none }) (v := ?vax19) rfl (by kernel_rfl) (by kernel_rfl) (by kernel_rfl) (fun _ _ _ h => h) (Or.inl ⟨by rfl, ?hax19⟩) (by assumption) ?_
      case hax19 =>
        intro w hSw
        try dsimp only at hSw
        go_simp
        try with_reducible rfl
      try simp only [Act.put, List.setIfInBounds_toArray, List.set_cons_zero, List.set_cons_succ]
      refine wpAnyH_ready (rs := [18]) (by kernel_rfl) (by simp) ?_
      refine AllReadyH.cons (o := { dst := some 36, op := Go.Op.call { callee := Go.Callee.value (Go.Operand.func 4), args := #[], argTypes := #[] }, type := 4, pos := "law.go:60", after := #[{ on := 17, ground := Go.Ground.chain }, { on := 17, ground := Go.Ground.guard }], guard := some (17, true) }) rfl (fun K hK => ?_) AllReadyH.nil
      go_simp
      (first | (go_at_call 7; (with_reducible refine (H2.out _ (HBW.out _ HD0.out) A1 c1 (HSI.out _ HD0.out)).mono ?_); rintro e W1 ⟨l1, v1, rfl, e1, S1, B1⟩; have HW1 := Lib.hid (below_on6 HD0.out B1); have HE1 := Lib.hid e1; have HS1 := Lib.hid (setsAt_keep S1 (Below.refl _ _)); clear B1 e1 S1) | (go_at_call 8; (with_reducible refine (H3.out _ (HBW.out _ HW1.out)).mono ?_); rintro e W2 ⟨l2, v2, rfl, e2, S2, B2⟩; have HW2 := Lib.hid (below_on6 HW1.out B2); have HE2 := Lib.hid e2; have HS2 := Lib.hid (setsAt_keep S2 (Below.refl _ _)); have HS1' := Lib.hid (setsAt_keep HS1.out B2); clear B2 e2 S2) | (go_at_call 6; have h12 : l1.map Sx.st = l2.map Sx.st := HE1.out.trans HE2.out.symm; have h13 := len_sets HE1.out HN.out; have h14 := len_ds HE1.out HN.out; (with_reducible refine (eqSets5_any l1 l2 v1 v2 0 0 _ HS1'.out HS2.out h12 h13 h14).mono ?_); rintro e W3 ⟨rfl, B3⟩; have HW3 := Lib.hid (below_on6 HW2.out B3); clear B3) | (go_at_call_of 9 (Value.slice A1 l.length c1); (with_reducible refine (refEqual_any l A1 A c1 ca _ (HSI.out _ HW3.out) (HSA.out _ (HBW.out _ HW3.out)) HN.out).mono ?_); rintro e W4 ⟨rfl, B4⟩; have HW4 := Lib.hid (below_on6 HW3.out B4); clear B4) | (go_at_call 10; (with_reducible refine (H5.out _ (HBW.out _ HW4.out)).mono ?_); rintro e W5 ⟨g5, rfl, _, X5, B5⟩; have HW5 := Lib.hid (below_on6 HW4.out B5); have HR5 := Lib.hid (srow_has X5); clear B5 X5) | (go_at_call 11; (with_reducible refine (H6.out _ (HBW.out _ HW5.out)).mono ?_); rintro e W6 ⟨v6, rfl, O6, B6⟩; have HW6 := Lib.hid (below_on6 HW5.out B6); have HR5' := Lib.hid (srow_up HR5.out B6); obtain ⟨A6, c6, e6, _, X6⟩ := Own.srow rcl_len O6; rw [HDL.out] at e6; subst e6; have HR6 := Lib.hid (X6.more (Nat.zero_le _) (Nat.le_refl _)); clear B6 O6 X6) | (go_at_call 9; refine ((by have h := refEqual_any _ _ _ ds.length c6 _ HR5'.out HR6.out HND.out; rw [HDL.out] at h; exact h : Calls Tryd.prog 9 #[.slice (some ⟨g5, 0, none⟩) ds.length ds.length, .slice A6 ds.length c6] W6 fun e w' => e = .returned (.bool true) ∧ Below W6.heap.size W6 w')).mono ?_; rintro e W7 ⟨rfl, B7⟩; have HW7 := Lib.hid (below_on6 HW6.out B7); clear B7) | (go_at_call 4; (with_reducible refine (HW.out _ (HBW.out _ HW7.out)).mono ?_); rintro e W8 ⟨rfl, B8⟩; have HW8 := Lib.hid (below_on6 HW7.out B8); clear B8))
      try go_wp2_with fail
      refine hK.out _ _ ?hax20 (fun hHeld => ?_)
      case hax20 =>
        try dsimp only
        (first | assumption | exact HK.out _ HW8.out | exact HK.out _ HW7.out | exact HK.out _ HW6.out | exact HK.out _ HW5.out | exact HK.out _ HW4.out | exact HK.out _ HW3.out | exact HK.out _ HW2.out | exact HK.out _ HW1.out | exact HK.out _ (Below.refl _ _).drew)
      clear hK K
      try simp only [Act.put, List.setIfInBounds_toArray, List.set_cons_zero, List.set_cons_succ]
      refine wpAnyH_take (i := 19) (oi := { dst := some 37, op := Go.Op.pick (Go.Operand.tmp 35) (Go.Operand.tmp 36) (Go.Operand.const (Go.Value.bool false)), type := 4, pos := "law.go:60", after := #[{ on := 17, ground := Go.Ground.data }, { on := 18, ground := Go.Ground.data }], guard := none }) (v := ?vax21) rfl (by kernel_rfl) (by kernel_rfl) (by kernel_rfl) (fun _ _ _ h => h) (Or.inl ⟨by rfl, ?hax21⟩) (by assumption) ?_
      case hax21 =>
        intro w hSw
        try dsimp only at hSw
        go_simp
        try with_reducible rfl
      try simp only [Act.put, List.setIfInBounds_toArray, List.set_cons_zero, List.set_cons_succ]
      refine wpAnyH_take (i := 20) (oi := { dst := some 4, op := Go.Op.assign (Go.Operand.tmp 37), type := 4, pos := "law.go:60", after := #[{ on := 19, ground := Go.Ground.data }, { on := 18, ground := Go.Ground.chain }, { on := 0, ground := Go.Ground.phase }, { on := 1, ground := Go.Ground.phase }, { on := 2, ground := Go.Ground.phase }, { on := 3, ground := Go.Ground.phase }, { on := 4, ground := Go.Ground.phase }, { on := 5, ground := Go.Ground.phase }, { on := 6, ground := Go.Ground.phase }, { on := 7, ground := Go.Ground.phase }, { on := 8, ground := Go.Ground.phase }, { on := 9, ground := Go.Ground.phase }, { on := 10, ground := Go.Ground.phase }, { on := 11, ground := Go.Ground.phase }, { on := 12, ground := Go.Ground.phase }, { on := 13, ground := Go.Ground.phase }, { on := 14, ground := Go.Ground.phase }, { on := 15, ground := Go.Ground.phase }, { on := 16, ground := Go.Ground.phase }, { on := 17, ground := Go.Ground.phase }, { on := 18, ground := Go.Ground.phase }, { on := 19, ground := Go.Ground.phase }], guard := none }) (v := ?vax22) rfl (by kernel_rfl) (by kernel_rfl) (by kernel_rfl) (fun _ _ _ h => h) (Or.inl ⟨by rfl, ?hax22⟩) (by assumption) ?_
      case hax22 =>
        intro w hSw
        try dsimp only at hSw
        go_simp
        try with_reducible rfl
      try simp only [Act.put, List.setIfInBounds_toArray, List.set_cons_zero, List.set_cons_succ]
      refine wpAnyH_done (by kernel_rfl) ?_ _
      refine NoPanic.normal ?_
      all_goals
        (go_wp2
         go_ret
         exact ⟨rfl, HBW.out _ HW8.out⟩)
    · have d2 : decide ((200 : Int) < (ds.length : Int)) = true := by rw [decide_eq_true_iff]; omega
      clear hL hna hSa fa na hrow hcd hl _hf _hm h1 h2 hB0 hX0
      go_enter Tryd.func3, Tryd.ntmps3
      go_wp2_with (go_at_call 4; (with_reducible refine (HW.out _ HB0.out).mono ?_); rintro e w5 ⟨rfl, B5⟩; have HB5 := Lib.hid (HB0.out.trans (B5.mono HB0.out.size)); clear B5)
      go_ret
      exact ⟨rfl, HB5.out⟩
  · have d1 : decide ((200 : Int) < (l.length : Int)) = true := by rw [decide_eq_true_iff]; omega
    clear hL hna hSa fa na hrow hcd hl _hf _hm h1 hB0 hX0
    go_enter Tryd.func3, Tryd.ntmps3
    go_wp2_with (go_at_call 4; (with_reducible refine (HW.out _ HB0.out).mono ?_); rintro e w5 ⟨rfl, B5⟩; have HB5 := Lib.hid (HB0.out.trans (B5.mono HB0.out.size)); clear B5)
    go_ret
    exact ⟨rfl, HB5.out⟩
end Go.Proofs.YtmieakkhpkclpaaDoor
