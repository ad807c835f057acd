/- CacheApart: what other questions do leaves a kept answer as it is. For every input. -/
import Derived.Test.YtnhoaceickojeaaCaApA
import Derived.Test.YtnhoaceickojeaaFold
import Derived.Deep.LoopGhost
import Derived.Deep.RegionHeld3
namespace Go.Proofs.Ytnhoaceickojeaa.Ca
open Go.RowKit

set_option maxHeartbeats 4000000 in
set_option maxRecDepth 100000 in
theorem walk_CacheApart (w : World) (q : Kv) (hq : q.ty ≤ 65535 ∧ q.cl ≤ 65535) (hm : q.nm.size ≤ 140737488351232) (x : Aw) (hx : AOk x w) (_hm2 : ANear x) (A : Option Addr) (ss : List Stv) (c : Nat) (hS : Srow stcl 10 w 0 w.heap.size A ss) (hF : ∀ s ∈ ss, SOk w s) (hN : ss.length * 80 ≤ 140737488351232 ∧ ∀ s ∈ ss, SNear s) (now : Int) (_hn : (Lit.int .i64 now).wf = true) :
    Calls Try.prog 5 #[q.val, x.val, .slice A ss.length c, .int .i64 now] w fun e w' => e = .returned (.bool true) ∧ Below w.heap.size w w' := by
  obtain ⟨W2, hW2⟩ : ∃ W2, W2 = (w.alloc (.cells #[.string q.nm, .int .u16 (q.ty : Int), .int .u16 (q.cl : Int)] 35)).alloc (.cells x.cells 38) := ⟨_, rfl⟩
  have HQ2 : Hid (Has W2 w.heap.size 35 (kc q)) := by rw [hW2]; exact (Has.fresh w _ _).alloc _
  have HA2 : Hid (Has W2 (w.heap.size + 1) 38 x.cells) := by
    have h := Has.fresh (w.alloc (.cells #[.string q.nm, .int .u16 (q.ty : Int), .int .u16 (q.cl : Int)] 35)) 38 x.cells
    rw [World.size_alloc] at h
    rw [hW2]
    exact h
  have HZ2 : Hid (W2.heap.size = w.heap.size + 2) := by rw [hW2]; simp [Hid]
  have HB2 : Hid (Below w.heap.size w W2) := by rw [hW2]; exact ((Below.refl _ _).alloc (Nat.le_refl _) _).alloc (by simp) _
  have HKq : Hid (KvOk q) := ⟨by omega, hq.1, hq.2⟩
  have hx2 := hx.lies.below HB2.out
  have HXl := Lib.hid hx.lies
  have HHv := Lib.hid (heavy_any ss A c W2 (hS.keep HB2.out |>.more (Nat.le_refl _) (by have := HZ2.out; omega)) (fun s hs => (hF s hs).ans.lies.below HB2.out) (by omega))
  have hi10 : (Try.prog.info? 40).map (·.size) = some 10 := by kernel_rfl
  have HI := Lib.hid hi10
  have HS := Lib.hid hS
  have HF := Lib.hid hF
  have HX2 := Lib.hid hx2
  obtain ⟨a0, a1, a2, a3, a4⟩ := a_cells (show Has W2 (w.heap.size + 1) 38 #[.int .u16 (x.a.rc : Int), .bool x.a.aa, .slice x.A1 x.a.an.length x.c1, .slice x.A2 x.a.au.length x.c2, .slice x.A3 x.a.ex.length x.c3] from HA2.out)
  obtain ⟨q0, q1, q2⟩ := q_cells (show Has W2 w.heap.size 35 #[.string q.nm, .int .u16 (q.ty : Int), .int .u16 (q.cl : Int)] from HQ2.out)
  clear hS hF hN hi10 hx hx2 hq
  unfold Kv.val Aw.val
  go_enter Try.func5, Try.ntmps5
  go_upto_region 1 with (fail)
  unfold Aw.cells at hW2 ⊢
  rw [← hW2]
  clear hW2
  have HLg := Lib.hid fun W (hb : Below W2.heap.size W2 W) => large_any x W (HX2.out.below hb)
  unfold Aw.val Aw.cells at HLg
  cases hhv : heavyB ss with
  | true =>
    rw [hhv] at HHv
    clear hhv HLg
    go_wp2_with (go_at_call 8; refine HHv.out.mono ?_; rintro e w1 ⟨rfl, hb1⟩)
    go_ret
    exact ⟨rfl, HB2.out.trans (hb1.mono HB2.out.size)⟩
  | false =>
    rw [hhv] at HHv
    obtain ⟨_, hfw⟩ := heavy_few hhv
    have HFw := Lib.hid hfw
    clear hhv hfw
    by_cases h60 : 60 < ss.length
    · have d1 : decide ((60 : Int) < (ss.length : Int)) = true := decide_eq_true (by omega)
      clear h60 HLg
      go_wp2_with (go_at_call 8; refine HHv.out.mono ?_; rintro e w1 ⟨rfl, hb1⟩)
      go_ret
      exact ⟨rfl, HB2.out.trans (hb1.mono HB2.out.size)⟩
    · have d1 : decide ((60 : Int) < (ss.length : Int)) = false := decide_eq_false (by omega)
      have HL60 := Lib.hid h60
      clear h60
      cases hlg : largeB x.a with
      | true =>
        rw [hlg] at HLg
        clear hlg
        go_wp2_with (first
          | (go_at_call 8; refine HHv.out.mono ?_; rintro e w1 ⟨rfl, hb1⟩; have b0 := keep_cell hb1 a0; have b1 := keep_cell hb1 a1; have b2 := keep_cell hb1 a2; have b3 := keep_cell hb1 a3; have b4 := keep_cell hb1 a4; have k0 := keep_cell hb1 q0)
          | (go_at_call 23; refine (HLg.out _ hb1).mono ?_; rintro e w3 ⟨rfl, hb3⟩; have j0 := keep_cell hb3 k0))
        go_ret
        exact ⟨rfl, HB2.out.trans ((hb1.trans (hb3.mono hb1.size)).mono HB2.out.size)⟩
      | false =>
        rw [hlg] at HLg
        have HFw2 := Lib.hid (large_few hlg)
        clear hlg
        by_cases h20 : 2000 < q.nm.size
        · have d2 : decide ((2000 : Int) < (q.nm.size : Int)) = true := decide_eq_true (by omega)
          clear h20
          go_wp2_with (first
          | (go_at_call 8; refine HHv.out.mono ?_; rintro e w1 ⟨rfl, hb1⟩; have b0 := keep_cell hb1 a0; have b1 := keep_cell hb1 a1; have b2 := keep_cell hb1 a2; have b3 := keep_cell hb1 a3; have b4 := keep_cell hb1 a4; have k0 := keep_cell hb1 q0)
          | (go_at_call 23; refine (HLg.out _ hb1).mono ?_; rintro e w3 ⟨rfl, hb3⟩; have j0 := keep_cell hb3 k0))
          go_ret
          exact ⟨rfl, HB2.out.trans ((hb1.trans (hb3.mono hb1.size)).mono HB2.out.size)⟩
        · have d2 : decide ((2000 : Int) < (q.nm.size : Int)) = false := decide_eq_false (by omega)
          clear h20
          go_upto_region 3 with (first
          | (go_at_call 8; refine HHv.out.mono ?_; rintro e w1 ⟨rfl, hb1⟩; have b0 := keep_cell hb1 a0; have b1 := keep_cell hb1 a1; have b2 := keep_cell hb1 a2; have b3 := keep_cell hb1 a3; have b4 := keep_cell hb1 a4; have k0 := keep_cell hb1 q0)
          | (go_at_call 23; refine (HLg.out _ hb1).mono ?_; rintro e w3 ⟨rfl, hb3⟩; have j0 := keep_cell hb3 k0))
          have hb23 := hb1.trans (hb3.mono hb1.size)
          have hz3 : w.heap.size + 2 ≤ w3.heap.size := by have := hb23.size; have := HZ2.out; omega
          have HTn := Lib.hid fun W4 W5 (s1 : St W4 w3.heap.size (w3.heap.size + 1) w3.heap.size 100 []) b1 z1 (s2 : St W5 W4.heap.size (W4.heap.size + 1) W4.heap.size 100 []) b2 => two_new (q := q) (x := x) (HB2.out.trans (hb23.mono HB2.out.size)) hz3 (HQ2.out.below hb23 HQ2.out.lt) (HA2.out.below hb23 HA2.out.lt) s1 b1 z1 s2 b2
          clear b0 b1 b2 b3 b4 k0 j0 a0 a1 a2 a3 a4 q0 q1 q2 hb1 hb3 hb23 HLg HHv HB2 HA2 HQ2 HX2 d1 d2 hz3 HZ2
          clear w1
          have HN3 := Lib.hid (new100 w3)
          go_upto_region 4 with (go_at_call 9; refine HN3.out.mono ?_; rintro e w4 ⟨rfl, hs4, hb4, hz4⟩)
          have HN4 := Lib.hid (new100 w4)
          have HT5 := Lib.hid fun W5 (s2 : St W5 w4.heap.size (w4.heap.size + 1) w4.heap.size 100 []) b2 => HTn.out w4 W5 hs4 hb4 hz4 s2 b2
          clear HN3 HTn hs4 hb4 hz4
          go_upto_region 7 with (go_at_call 9; refine HN4.out.mono ?_; rintro e w5 ⟨rfl, hs5, hb5, hz5⟩)
          have HT := Lib.hid (HT5.out w5 hs5 hb5)
          clear HN4 HT5 hs5 hb5 hz5
          obtain ⟨lo, hlo⟩ : ∃ lo, w3.heap.size = lo := ⟨_, rfl⟩
          obtain ⟨lo', hlo'⟩ : ∃ lo, w4.heap.size = lo := ⟨_, rfl⟩
          rw [hlo, hlo'] at HT ⊢
          clear hlo hlo' w3 w4 W2
          obtain ⟨cc, hcc⟩ : ∃ cc, lo + 1 = cc := ⟨_, rfl⟩
          obtain ⟨dd, hdd⟩ : ∃ cc, lo' + 1 = cc := ⟨_, rfl⟩
          rw [hcc, hdd] at HT ⊢
          clear hcc hdd
          obtain ⟨P, hP⟩ : ∃ P, putOk q x.a = P := ⟨_, rfl⟩
          have HP1 := Lib.hid fun W (hb : Below w5.heap.size w5 W) => two_put0C (HT.out.below hb) HKq.out HXl.out HFw2.out
          have HP2 := Lib.hid fun W6 lc (h : Two w W6 q x lo lo' cc lo dd lo' lc []) => two_put0D h HKq.out HXl.out HFw2.out
          rw [hP] at HP1 HP2
          unfold Kv.val Aw.val Aw.cells at HP1 HP2
          obtain ⟨k0, k1, k2, k3, k4, k5, k6, k7⟩ := HT.out.cells
          clear hP HT
          go_region_held3 (fun W => W.cell? ⟨w.heap.size, 0, none⟩ = some (.string q.nm) ∧ W.cell? ⟨w.heap.size, 1, none⟩ = some (.int .u16 (q.ty : Int)) ∧ W.cell? ⟨w.heap.size, 2, none⟩ = some (.int .u16 (q.cl : Int)) ∧ W.cell? ⟨w.heap.size + 1, 0, none⟩ = some (.int .u16 (x.a.rc : Int)) ∧ W.cell? ⟨w.heap.size + 1, 1, none⟩ = some (.bool x.a.aa) ∧ W.cell? ⟨w.heap.size + 1, 2, none⟩ = some (.slice x.A1 x.a.an.length x.c1) ∧ W.cell? ⟨w.heap.size + 1, 3, none⟩ = some (.slice x.A2 x.a.au.length x.c2) ∧ W.cell? ⟨w.heap.size + 1, 4, none⟩ = some (.slice x.A3 x.a.ex.length x.c3))
            (first
              | (exact ⟨k0, k1, k2, k3, k4, k5, k6, k7⟩)
              | (exact ⟨i0, i1, i2, i3, i4, i5, i6, i7⟩)
              | (exact ⟨j0, j1, j2, j3, j4, j5, j6, j7⟩)
              | (go_keep; done))
            (first
              | (go_split_ands; go_at_call 13
                 refine (HP2.out _ lc HT6.out).mono ?_
                 rintro e W7 ⟨rfl, ld, hT7, hp7⟩
                 have HT7 := Lib.hid hT7
                 have HA7 := Lib.hid hp7
                 obtain ⟨i0, i1, i2, i3, i4, i5, i6, i7⟩ := HT7.out.cells
                 clear hT7 hp7)
              | (go_split_ands; go_at_call 13
                 refine (HP1.out _ (Below.refl _ _).drew).mono ?_
                 rintro e W6 ⟨rfl, lc, hT6, hp6⟩
                 have HT6 := Lib.hid hT6
                 have HA6 := Lib.hid hp6
                 obtain ⟨j0, j1, j2, j3, j4, j5, j6, j7⟩ := HT6.out.cells
                 clear hT6 hp6))
          rename_i hHeld
          clear hHeld i0 i1 i2 i3 i4 i5 i6 i7 j0 j1 j2 j3 j4 j5 j6 j7 k0 k1 k2 k3 k4 k5 k6 k7 HP1 HP2
          clear HT6
          rename_i y0 y1 y2 y3 y4 y5 y6 y7 z0 z1 z2 z3 z4 z5 z6 z7
          clear y0 y1 y2 y3 y4 y5 y6 y7 z0 z1 z2 z3 z4 z5 z6 z7
          clear W6 w5
          have hl60 := HL60.out
          go_wp2
          go_loopw [13, 14] (fun s13 s14 wr => ∃ (k T : Nat) (l : List Nd), s13 = .int .i64 T ∧ s14 = .int .i64 k ∧ k ≤ ss.length ∧ T ≤ k * 1023 ∧ Hid (Two w wr q x lo lo' cc lo dd lo' l ld) ∧ Hid (Ap q x.a T k (l.map Nd.e))) (fun _ s14 _ => ss.length - (intOf s14).toNat)
          case atStart => exact ⟨0, 0, lc, rfl, rfl, by omega, by omega, HT7.out, HA6.out⟩
          case round =>
            obtain ⟨k, T, l, rfl, rfl, hk, hTk, HC, HAp⟩ := hrel
            by_cases hlt : k < ss.length
            · obtain ⟨g, o, rfl, _, hg, hc⟩ := HS.out.at_ hlt
              have hc2 := range_below HC.out.be hg hc
              obtain ⟨e0, e1, e2, e3, e4, e5, e6, e7, e8, e9⟩ := step_cells hc2
              have hok := HF.out _ (List.getElem_mem hlt)
              have hfw := HFw.out _ (List.getElem_mem hlt)
              have HKv : Hid (KvOk ss[k].q) := ⟨by have := hfw.2; omega, hok.ty, hok.cl⟩
              have HLi := Lib.hid hok.ans.lies
              have HFe := Lib.hid hfw.1
              have HG := Lib.hid hg
              have HCs := Lib.hid hc
              clear hc hc2 hg hok hfw
              generalize ss[k] = s at *
              obtain ⟨u, hu, hu2⟩ := and1023 s.now
              obtain ⟨wo, hwo⟩ : ∃ z, z = wr := ⟨_, rfl⟩
              subst hwo
              obtain ⟨T2, hT2⟩ : ∃ T2 : Nat, T + u = T2 := ⟨_, rfl⟩
              have hwt : IntKind.i64.wrap ((T : Int) + (u : Int)) = (T2 : Int) := by rw [IntKind.wrap_i64]; omega
              go_upto_region 15 with (fail)
              obtain ⟨W3, hW3⟩ : ∃ W3, W3 = wo.alloc (.cells #[.string s.q.nm, .int .u16 (s.q.ty : Int), .int .u16 (s.q.cl : Int)] 35) := ⟨_, rfl⟩
              have hb3 : Below wo.heap.size wo W3 := by rw [hW3]; exact (Below.refl _ _).alloc (Nat.le_refl _) _
              have HX3 : Hid (Has W3 wo.heap.size 35 #[.string s.q.nm, .int .u16 (s.q.ty : Int), .int .u16 (s.q.cl : Int)]) := by rw [hW3]; exact Has.fresh wo _ _
              have HT3 := Lib.hid (HC.out.below hb3)
              have hnf : wo.heap.size ∉ cc :: lo :: bs l := fun e => by have := HC.out.sc.lt _ (foot_bs _ e); omega
              have HNf := Lib.hid hnf
              have hgf : g ∉ cc :: lo :: bs l := fun e => by have := HC.out.sc.low _ (foot_bs _ e); have := HC.out.lq; have := HG.out; omega
              have HGf := Lib.hid hgf
              rw [← hW3]
              clear hW3 hnf hgf e0 e1 e2 e3 e4 e5 e6 e7 e8 e9 hb3 HC
              obtain ⟨f1, hf1⟩ : ∃ f, foldB s.q.nm = f := ⟨_, rfl⟩
              obtain ⟨f2, hf2⟩ : ∃ f, foldB q.nm = f := ⟨_, rfl⟩
              have HF1 := Lib.hid fun W => foldB_any s.q.nm HKv.out.1 W
              have HF2 := Lib.hid fun W => foldB_any q.nm HKq.out.1 W
              rw [hf1] at HF1
              rw [hf2] at HF2
              obtain ⟨B1, hB1⟩ : ∃ B, (f1.toList == f2.toList) = B := ⟨_, rfl⟩
              obtain ⟨B2, hB2⟩ : ∃ B, ((s.q.ty : Int) == (q.ty : Int)) = B := ⟨_, rfl⟩
              obtain ⟨B3, hB3⟩ : ∃ B, ((s.q.cl : Int) == (q.cl : Int)) = B := ⟨_, rfl⟩
              have hne : (B1 && (B2 && B3)) = false → foldK s.q ≠ foldK q := fun hb e => by
                unfold foldK at e
                rw [hf1, hf2] at e
                injection e with e1 e2 e3
                subst e1
                rw [← hB1, ← hB2, ← hB3, e2, e3] at hb
                simp at hb
              obtain ⟨R, hR⟩ : ∃ R, (B1 && (B2 && B3)) = R := ⟨_, rfl⟩
              rw [hR] at hne
              have HNe := Lib.hid hne
              clear hne hf1 hf2
              obtain ⟨x0, x1, x2⟩ := q_cells HX3.out
              obtain ⟨k0, k1, k2, _⟩ := HT3.out.cells
              rename_i hrest
              clear hrest
              go_cut [107] from 68 to 128 (fun s107 wx => s107 = .bool R ∧ Hid (Below W3.heap.size W3 wx))
              case first =>
                cases B1 with
                | false =>
                  obtain rfl : R = false := hR.symm
                  refine wp_region_held_drew (S := (fun W => W.cell? ⟨wo.heap.size, 0, none⟩ = some (.string s.q.nm) ∧ W.cell? ⟨wo.heap.size, 1, none⟩ = some (.int .u16 (s.q.ty : Int)) ∧ W.cell? ⟨wo.heap.size, 2, none⟩ = some (.int .u16 (s.q.cl : Int)) ∧ W.cell? ⟨w.heap.size, 0, none⟩ = some (.string q.nm) ∧ W.cell? ⟨w.heap.size, 1, none⟩ = some (.int .u16 (q.ty : Int)) ∧ W.cell? ⟨w.heap.size, 2, none⟩ = some (.int .u16 (q.cl : Int)))) (by kernel_rfl) ?hz1 (fun hHeld => ?_)
                  case hz1 => exact ⟨x0, x1, x2, k0, k1, k2⟩
                  refine wpAnyH_take (i := 0) (oi := { dst := some 87, op := Go.Op.fieldAddr 35 (Go.Operand.tmp 15) 0, type := 0, pos := "outright.go:97", after := #[], guard := none }) (v := ?vz2) rfl (by kernel_rfl) (by kernel_rfl) (by kernel_rfl) (fun _ _ _ h => h) (Or.inl ⟨by rfl, ?hz2⟩) (by assumption) ?_
                  case hz2 =>
                    intro w hSw
                    try dsimp only at hSw
                    go_simp
                    try with_reducible rfl
                  try simp only [Act.put, List.setIfInBounds_toArray, List.set_cons_zero, List.set_cons_succ]
                  refine wpAnyH_take (i := 1) (oi := { dst := some 88, op := Go.Op.load 32 (Go.Operand.tmp 87), type := 32, pos := "outright.go:97", after := #[{ on := 0, ground := Go.Ground.data }], guard := none }) (v := ?vz3) rfl (by kernel_rfl) (by kernel_rfl) (by kernel_rfl) (fun _ _ _ h => h) (Or.inl ⟨by rfl, ?hz3⟩) (by assumption) ?_
                  case hz3 =>
                    intro w hSw
                    try dsimp only at hSw
                    go_simp
                    try with_reducible rfl
                  try simp only [Act.put, List.setIfInBounds_toArray, List.set_cons_zero, List.set_cons_succ]
                  refine wpAnyH_take (i := 3) (oi := { dst := some 90, op := Go.Op.fieldAddr 35 (Go.Operand.tmp 4) 0, type := 0, pos := "outright.go:97", after := #[], guard := none }) (v := ?vz4) rfl (by kernel_rfl) (by kernel_rfl) (by kernel_rfl) (fun _ _ _ h => h) (Or.inl ⟨by rfl, ?hz4⟩) (by assumption) ?_
                  case hz4 =>
                    intro w hSw
                    try dsimp only at hSw
                    go_simp
                    try with_reducible rfl
                  try simp only [Act.put, List.setIfInBounds_toArray, List.set_cons_zero, List.set_cons_succ]
                  refine wpAnyH_take (i := 4) (oi := { dst := some 91, op := Go.Op.load 32 (Go.Operand.tmp 90), type := 32, pos := "outright.go:97", after := #[{ on := 3, ground := Go.Ground.data }], guard := none }) (v := ?vz5) rfl (by kernel_rfl) (by kernel_rfl) (by kernel_rfl) (fun _ _ _ h => h) (Or.inl ⟨by rfl, ?hz5⟩) (by assumption) ?_
                  case hz5 =>
                    intro w hSw
                    try dsimp only at hSw
                    go_simp
                    try with_reducible rfl
                  try simp only [Act.put, List.setIfInBounds_toArray, List.set_cons_zero, List.set_cons_succ]
                  refine wpAnyH_ready (rs := [2]) (by kernel_rfl) (by simp) ?_
                  refine AllReadyH.cons (o := { dst := some 89, op := Go.Op.call { callee := Go.Callee.value (Go.Operand.func 25), args := #[Go.Operand.tmp 88], argTypes := #[32] }, type := 32, pos := "outright.go:97", after := #[{ on := 1, ground := Go.Ground.data }], guard := none }) rfl (fun K hK => ?_) AllReadyH.nil
                  go_simp
                  go_split_ands
                  go_at_call 25
                  refine (HF1.out _).mono ?_
                  rintro e W4 ⟨rfl, hb4⟩
                  have y0 : W4.cell? ⟨wo.heap.size, 0, none⟩ = some (.string s.q.nm) := keep_cell hb4 (by assumption)
                  have y1 : W4.cell? ⟨wo.heap.size, 1, none⟩ = some (.int .u16 (s.q.ty : Int)) := keep_cell hb4 (by assumption)
                  have y2 : W4.cell? ⟨wo.heap.size, 2, none⟩ = some (.int .u16 (s.q.cl : Int)) := keep_cell hb4 (by assumption)
                  have y3 : W4.cell? ⟨w.heap.size, 0, none⟩ = some (.string q.nm) := keep_cell hb4 (by assumption)
                  have y4 : W4.cell? ⟨w.heap.size, 1, none⟩ = some (.int .u16 (q.ty : Int)) := keep_cell hb4 (by assumption)
                  have y5 : W4.cell? ⟨w.heap.size, 2, none⟩ = some (.int .u16 (q.cl : Int)) := keep_cell hb4 (by assumption)
                  have HB4 := Lib.hid hb4
                  clear hb4
                  try go_wp2_with fail
                  refine hK.out _ _ ?hz6 (fun hHeld => ?_)
                  case hz6 =>
                    try dsimp only
                    exact ⟨y0, y1, y2, y3, y4, y5⟩
                  clear hK K
                  try simp only [Act.put, List.setIfInBounds_toArray, List.set_cons_zero, List.set_cons_succ]
                  refine wpAnyH_ready (rs := [5]) (by kernel_rfl) (by simp) ?_
                  refine AllReadyH.cons (o := { dst := some 92, op := Go.Op.call { callee := Go.Callee.value (Go.Operand.func 25), args := #[Go.Operand.tmp 91], argTypes := #[32] }, type := 32, pos := "outright.go:97", after := #[{ on := 4, ground := Go.Ground.data }, { on := 2, ground := Go.Ground.chain }], guard := none }) rfl (fun K hK => ?_) AllReadyH.nil
                  go_simp
                  go_split_ands
                  go_at_call 25
                  refine (HF2.out _).mono ?_
                  rintro e W5 ⟨rfl, hb5⟩
                  have v0 : W5.cell? ⟨wo.heap.size, 0, none⟩ = some (.string s.q.nm) := keep_cell hb5 (by assumption)
                  have v1 : W5.cell? ⟨wo.heap.size, 1, none⟩ = some (.int .u16 (s.q.ty : Int)) := keep_cell hb5 (by assumption)
                  have v2 : W5.cell? ⟨wo.heap.size, 2, none⟩ = some (.int .u16 (s.q.cl : Int)) := keep_cell hb5 (by assumption)
                  have v3 : W5.cell? ⟨w.heap.size, 0, none⟩ = some (.string q.nm) := keep_cell hb5 (by assumption)
                  have v4 : W5.cell? ⟨w.heap.size, 1, none⟩ = some (.int .u16 (q.ty : Int)) := keep_cell hb5 (by assumption)
                  have v5 : W5.cell? ⟨w.heap.size, 2, none⟩ = some (.int .u16 (q.cl : Int)) := keep_cell hb5 (by assumption)
                  have HB5 := Lib.hid hb5
                  clear hb5
                  try go_wp2_with fail
                  refine hK.out _ _ ?hz7 (fun hHeld => ?_)
                  case hz7 =>
                    try dsimp only
                    exact ⟨v0, v1, v2, v3, v4, v5⟩
                  clear hK K
                  try simp only [Act.put, List.setIfInBounds_toArray, List.set_cons_zero, List.set_cons_succ]
                  refine wpAnyH_take (i := 6) (oi := { dst := some 93, op := Go.Op.binOp Go.BinOp.eql 32 (Go.Operand.tmp 89) (Go.Operand.tmp 92) 32, type := 4, pos := "outright.go:97", after := #[{ on := 2, ground := Go.Ground.data }, { on := 5, ground := Go.Ground.data }], guard := none }) (v := ?vz8) rfl (by kernel_rfl) (by kernel_rfl) (by kernel_rfl) (fun _ _ _ h => h) (Or.inl ⟨by rfl, ?hz8⟩) (by assumption) ?_
                  case hz8 =>
                    intro w hSw
                    try dsimp only at hSw
                    go_simp
                    try with_reducible rfl
                  try simp only [Act.put, List.setIfInBounds_toArray, List.set_cons_zero, List.set_cons_succ]
                  refine wpAnyH_take (i := 7) (oi := { dst := some 94, op := Go.Op.move (Go.Operand.tmp 93), type := 4, pos := "outright.go:97", after := #[{ on := 6, ground := Go.Ground.data }, { on := 5, ground := Go.Ground.chain }], guard := none }) (v := ?vz9) rfl (by kernel_rfl) (by kernel_rfl) (by kernel_rfl) (fun _ _ _ h => h) (Or.inl ⟨by rfl, ?hz9⟩) (by assumption) ?_
                  case hz9 =>
                    intro w hSw
                    try dsimp only at hSw
                    go_simp
                    try with_reducible rfl
                  try simp only [Act.put, List.setIfInBounds_toArray, List.set_cons_zero, List.set_cons_succ]
                  refine wpAnyH_take (i := 8) (oi := { dst := some 95, op := Go.Op.fieldAddr 35 (Go.Operand.tmp 15) 1, type := 0, pos := "outright.go:97", after := #[{ on := 7, ground := Go.Ground.guard }], guard := some (7, true) }) (v := undef) rfl (by kernel_rfl) (by kernel_rfl) (by kernel_rfl) (fun _ _ _ h => h) (Or.inr ⟨by rfl, rfl⟩) (by assumption) ?_
                  try simp only [Act.put, List.setIfInBounds_toArray, List.set_cons_zero, List.set_cons_succ]
                  refine wpAnyH_take (i := 9) (oi := { dst := some 96, op := Go.Op.load 33 (Go.Operand.tmp 95), type := 33, pos := "outright.go:97", after := #[{ on := 8, ground := Go.Ground.data }, { on := 7, ground := Go.Ground.guard }], guard := some (7, true) }) (v := undef) rfl (by kernel_rfl) (by kernel_rfl) (by kernel_rfl) (fun _ _ _ h => h) (Or.inr ⟨by rfl, rfl⟩) (by assumption) ?_
                  try simp only [Act.put, List.setIfInBounds_toArray, List.set_cons_zero, List.set_cons_succ]
                  refine wpAnyH_take (i := 10) (oi := { dst := some 97, op := Go.Op.fieldAddr 35 (Go.Operand.tmp 4) 1, type := 0, pos := "outright.go:97", after := #[{ on := 7, ground := Go.Ground.guard }], guard := some (7, true) }) (v := undef) rfl (by kernel_rfl) (by kernel_rfl) (by kernel_rfl) (fun _ _ _ h => h) (Or.inr ⟨by rfl, rfl⟩) (by assumption) ?_
                  try simp only [Act.put, List.setIfInBounds_toArray, List.set_cons_zero, List.set_cons_succ]
                  refine wpAnyH_take (i := 11) (oi := { dst := some 98, op := Go.Op.load 33 (Go.Operand.tmp 97), type := 33, pos := "outright.go:97", after := #[{ on := 10, ground := Go.Ground.data }, { on := 7, ground := Go.Ground.guard }], guard := some (7, true) }) (v := undef) rfl (by kernel_rfl) (by kernel_rfl) (by kernel_rfl) (fun _ _ _ h => h) (Or.inr ⟨by rfl, rfl⟩) (by assumption) ?_
                  try simp only [Act.put, List.setIfInBounds_toArray, List.set_cons_zero, List.set_cons_succ]
                  refine wpAnyH_take (i := 12) (oi := { dst := some 99, op := Go.Op.binOp Go.BinOp.eql 33 (Go.Operand.tmp 96) (Go.Operand.tmp 98) 33, type := 4, pos := "outright.go:97", after := #[{ on := 9, ground := Go.Ground.data }, { on := 11, ground := Go.Ground.data }, { on := 7, ground := Go.Ground.guard }], guard := some (7, true) }) (v := undef) rfl (by kernel_rfl) (by kernel_rfl) (by kernel_rfl) (fun _ _ _ h => h) (Or.inr ⟨by rfl, rfl⟩) (by assumption) ?_
                  try simp only [Act.put, List.setIfInBounds_toArray, List.set_cons_zero, List.set_cons_succ]
                  refine wpAnyH_take (i := 13) (oi := { dst := some 100, op := Go.Op.pick (Go.Operand.tmp 94) (Go.Operand.tmp 99) (Go.Operand.const (Go.Value.bool false)), type := 4, pos := "outright.go:97", after := #[{ on := 7, ground := Go.Ground.data }, { on := 12, ground := Go.Ground.data }], guard := none }) (v := ?vz10) rfl (by kernel_rfl) (by kernel_rfl) (by kernel_rfl) (fun _ _ _ h => h) (Or.inl ⟨by rfl, ?hz10⟩) (by assumption) ?_
                  case hz10 =>
                    intro w hSw
                    try dsimp only at hSw
                    go_simp
                    try with_reducible rfl
                  try simp only [Act.put, List.setIfInBounds_toArray, List.set_cons_zero, List.set_cons_succ]
                  refine wpAnyH_take (i := 14) (oi := { dst := some 101, op := Go.Op.move (Go.Operand.tmp 100), type := 4, pos := "outright.go:97", after := #[{ on := 13, ground := Go.Ground.data }, { on := 7, ground := Go.Ground.chain }], guard := none }) (v := ?vz11) rfl (by kernel_rfl) (by kernel_rfl) (by kernel_rfl) (fun _ _ _ h => h) (Or.inl ⟨by rfl, ?hz11⟩) (by assumption) ?_
                  case hz11 =>
                    intro w hSw
                    try dsimp only at hSw
                    go_simp
                    try with_reducible rfl
                  try simp only [Act.put, List.setIfInBounds_toArray, List.set_cons_zero, List.set_cons_succ]
                  refine wpAnyH_take (i := 15) (oi := { dst := some 102, op := Go.Op.fieldAddr 35 (Go.Operand.tmp 15) 2, type := 0, pos := "outright.go:97", after := #[{ on := 14, ground := Go.Ground.guard }], guard := some (14, true) }) (v := undef) rfl (by kernel_rfl) (by kernel_rfl) (by kernel_rfl) (fun _ _ _ h => h) (Or.inr ⟨by rfl, rfl⟩) (by assumption) ?_
                  try simp only [Act.put, List.setIfInBounds_toArray, List.set_cons_zero, List.set_cons_succ]
                  refine wpAnyH_take (i := 16) (oi := { dst := some 103, op := Go.Op.load 33 (Go.Operand.tmp 102), type := 33, pos := "outright.go:97", after := #[{ on := 15, ground := Go.Ground.data }, { on := 14, ground := Go.Ground.guard }], guard := some (14, true) }) (v := undef) rfl (by kernel_rfl) (by kernel_rfl) (by kernel_rfl) (fun _ _ _ h => h) (Or.inr ⟨by rfl, rfl⟩) (by assumption) ?_
                  try simp only [Act.put, List.setIfInBounds_toArray, List.set_cons_zero, List.set_cons_succ]
                  refine wpAnyH_take (i := 17) (oi := { dst := some 104, op := Go.Op.fieldAddr 35 (Go.Operand.tmp 4) 2, type := 0, pos := "outright.go:97", after := #[{ on := 14, ground := Go.Ground.guard }], guard := some (14, true) }) (v := undef) rfl (by kernel_rfl) (by kernel_rfl) (by kernel_rfl) (fun _ _ _ h => h) (Or.inr ⟨by rfl, rfl⟩) (by assumption) ?_
                  try simp only [Act.put, List.setIfInBounds_toArray, List.set_cons_zero, List.set_cons_succ]
                  refine wpAnyH_take (i := 18) (oi := { dst := some 105, op := Go.Op.load 33 (Go.Operand.tmp 104), type := 33, pos := "outright.go:97", after := #[{ on := 17, ground := Go.Ground.data }, { on := 14, ground := Go.Ground.guard }], guard := some (14, true) }) (v := undef) rfl (by kernel_rfl) (by kernel_rfl) (by kernel_rfl) (fun _ _ _ h => h) (Or.inr ⟨by rfl, rfl⟩) (by assumption) ?_
                  try simp only [Act.put, List.setIfInBounds_toArray, List.set_cons_zero, List.set_cons_succ]
                  refine wpAnyH_take (i := 19) (oi := { dst := some 106, op := Go.Op.binOp Go.BinOp.eql 33 (Go.Operand.tmp 103) (Go.Operand.tmp 105) 33, type := 4, pos := "outright.go:97", after := #[{ on := 16, ground := Go.Ground.data }, { on := 18, ground := Go.Ground.data }, { on := 14, ground := Go.Ground.guard }], guard := some (14, true) }) (v := undef) rfl (by kernel_rfl) (by kernel_rfl) (by kernel_rfl) (fun _ _ _ h => h) (Or.inr ⟨by rfl, rfl⟩) (by assumption) ?_
                  try simp only [Act.put, List.setIfInBounds_toArray, List.set_cons_zero, List.set_cons_succ]
                  refine wpAnyH_take (i := 20) (oi := { dst := some 107, op := Go.Op.pick (Go.Operand.tmp 101) (Go.Operand.tmp 106) (Go.Operand.const (Go.Value.bool false)), type := 4, pos := "outright.go:97", after := #[{ on := 14, ground := Go.Ground.data }, { on := 19, ground := Go.Ground.data }], guard := none }) (v := ?vz12) rfl (by kernel_rfl) (by kernel_rfl) (by kernel_rfl) (fun _ _ _ h => h) (Or.inl ⟨by rfl, ?hz12⟩) (by assumption) ?_
                  case hz12 =>
                    intro w hSw
                    try dsimp only at hSw
                    go_simp
                    try with_reducible rfl
                  try simp only [Act.put, List.setIfInBounds_toArray, List.set_cons_zero, List.set_cons_succ]
                  refine wpAnyH_done (by kernel_rfl) ?_ _
                  clear hHeld
                  go_wp2
                  go_meet
                  case rel => exact ⟨rfl, (Below.refl _ _).drew.trans (HB4.out.trans (HB5.out.mono HB4.out.size))⟩
                | true =>
                  cases B2 with
                  | false =>
                    obtain rfl : R = false := hR.symm
                    refine wp_region_held_drew (S := (fun W => W.cell? ⟨wo.heap.size, 0, none⟩ = some (.string s.q.nm) ∧ W.cell? ⟨wo.heap.size, 1, none⟩ = some (.int .u16 (s.q.ty : Int)) ∧ W.cell? ⟨wo.heap.size, 2, none⟩ = some (.int .u16 (s.q.cl : Int)) ∧ W.cell? ⟨w.heap.size, 0, none⟩ = some (.string q.nm) ∧ W.cell? ⟨w.heap.size, 1, none⟩ = some (.int .u16 (q.ty : Int)) ∧ W.cell? ⟨w.heap.size, 2, none⟩ = some (.int .u16 (q.cl : Int)))) (by kernel_rfl) ?hz13 (fun hHeld => ?_)
                    case hz13 => exact ⟨x0, x1, x2, k0, k1, k2⟩
                    refine wpAnyH_take (i := 0) (oi := { dst := some 87, op := Go.Op.fieldAddr 35 (Go.Operand.tmp 15) 0, type := 0, pos := "outright.go:97", after := #[], guard := none }) (v := ?vz14) rfl (by kernel_rfl) (by kernel_rfl) (by kernel_rfl) (fun _ _ _ h => h) (Or.inl ⟨by rfl, ?hz14⟩) (by assumption) ?_
                    case hz14 =>
                      intro w hSw
                      try dsimp only at hSw
                      go_simp
                      try with_reducible rfl
                    try simp only [Act.put, List.setIfInBounds_toArray, List.set_cons_zero, List.set_cons_succ]
                    refine wpAnyH_take (i := 1) (oi := { dst := some 88, op := Go.Op.load 32 (Go.Operand.tmp 87), type := 32, pos := "outright.go:97", after := #[{ on := 0, ground := Go.Ground.data }], guard := none }) (v := ?vz15) rfl (by kernel_rfl) (by kernel_rfl) (by kernel_rfl) (fun _ _ _ h => h) (Or.inl ⟨by rfl, ?hz15⟩) (by assumption) ?_
                    case hz15 =>
                      intro w hSw
                      try dsimp only at hSw
                      go_simp
                      try with_reducible rfl
                    try simp only [Act.put, List.setIfInBounds_toArray, List.set_cons_zero, List.set_cons_succ]
                    refine wpAnyH_take (i := 3) (oi := { dst := some 90, op := Go.Op.fieldAddr 35 (Go.Operand.tmp 4) 0, type := 0, pos := "outright.go:97", after := #[], guard := none }) (v := ?vz16) rfl (by kernel_rfl) (by kernel_rfl) (by kernel_rfl) (fun _ _ _ h => h) (Or.inl ⟨by rfl, ?hz16⟩) (by assumption) ?_
                    case hz16 =>
                      intro w hSw
                      try dsimp only at hSw
                      go_simp
                      try with_reducible rfl
                    try simp only [Act.put, List.setIfInBounds_toArray, List.set_cons_zero, List.set_cons_succ]
                    refine wpAnyH_take (i := 4) (oi := { dst := some 91, op := Go.Op.load 32 (Go.Operand.tmp 90), type := 32, pos := "outright.go:97", after := #[{ on := 3, ground := Go.Ground.data }], guard := none }) (v := ?vz17) rfl (by kernel_rfl) (by kernel_rfl) (by kernel_rfl) (fun _ _ _ h => h) (Or.inl ⟨by rfl, ?hz17⟩) (by assumption) ?_
                    case hz17 =>
                      intro w hSw
                      try dsimp only at hSw
                      go_simp
                      try with_reducible rfl
                    try simp only [Act.put, List.setIfInBounds_toArray, List.set_cons_zero, List.set_cons_succ]
                    refine wpAnyH_ready (rs := [2]) (by kernel_rfl) (by simp) ?_
                    refine AllReadyH.cons (o := { dst := some 89, op := Go.Op.call { callee := Go.Callee.value (Go.Operand.func 25), args := #[Go.Operand.tmp 88], argTypes := #[32] }, type := 32, pos := "outright.go:97", after := #[{ on := 1, ground := Go.Ground.data }], guard := none }) rfl (fun K hK => ?_) AllReadyH.nil
                    go_simp
                    go_split_ands
                    go_at_call 25
                    refine (HF1.out _).mono ?_
                    rintro e W4 ⟨rfl, hb4⟩
                    have y0 : W4.cell? ⟨wo.heap.size, 0, none⟩ = some (.string s.q.nm) := keep_cell hb4 (by assumption)
                    have y1 : W4.cell? ⟨wo.heap.size, 1, none⟩ = some (.int .u16 (s.q.ty : Int)) := keep_cell hb4 (by assumption)
                    have y2 : W4.cell? ⟨wo.heap.size, 2, none⟩ = some (.int .u16 (s.q.cl : Int)) := keep_cell hb4 (by assumption)
                    have y3 : W4.cell? ⟨w.heap.size, 0, none⟩ = some (.string q.nm) := keep_cell hb4 (by assumption)
                    have y4 : W4.cell? ⟨w.heap.size, 1, none⟩ = some (.int .u16 (q.ty : Int)) := keep_cell hb4 (by assumption)
                    have y5 : W4.cell? ⟨w.heap.size, 2, none⟩ = some (.int .u16 (q.cl : Int)) := keep_cell hb4 (by assumption)
                    have HB4 := Lib.hid hb4
                    clear hb4
                    try go_wp2_with fail
                    refine hK.out _ _ ?hz18 (fun hHeld => ?_)
                    case hz18 =>
                      try dsimp only
                      exact ⟨y0, y1, y2, y3, y4, y5⟩
                    clear hK K
                    try simp only [Act.put, List.setIfInBounds_toArray, List.set_cons_zero, List.set_cons_succ]
                    refine wpAnyH_ready (rs := [5]) (by kernel_rfl) (by simp) ?_
                    refine AllReadyH.cons (o := { dst := some 92, op := Go.Op.call { callee := Go.Callee.value (Go.Operand.func 25), args := #[Go.Operand.tmp 91], argTypes := #[32] }, type := 32, pos := "outright.go:97", after := #[{ on := 4, ground := Go.Ground.data }, { on := 2, ground := Go.Ground.chain }], guard := none }) rfl (fun K hK => ?_) AllReadyH.nil
                    go_simp
                    go_split_ands
                    go_at_call 25
                    refine (HF2.out _).mono ?_
                    rintro e W5 ⟨rfl, hb5⟩
                    have v0 : W5.cell? ⟨wo.heap.size, 0, none⟩ = some (.string s.q.nm) := keep_cell hb5 (by assumption)
                    have v1 : W5.cell? ⟨wo.heap.size, 1, none⟩ = some (.int .u16 (s.q.ty : Int)) := keep_cell hb5 (by assumption)
                    have v2 : W5.cell? ⟨wo.heap.size, 2, none⟩ = some (.int .u16 (s.q.cl : Int)) := keep_cell hb5 (by assumption)
                    have v3 : W5.cell? ⟨w.heap.size, 0, none⟩ = some (.string q.nm) := keep_cell hb5 (by assumption)
                    have v4 : W5.cell? ⟨w.heap.size, 1, none⟩ = some (.int .u16 (q.ty : Int)) := keep_cell hb5 (by assumption)
                    have v5 : W5.cell? ⟨w.heap.size, 2, none⟩ = some (.int .u16 (q.cl : Int)) := keep_cell hb5 (by assumption)
                    have HB5 := Lib.hid hb5
                    clear hb5
                    try go_wp2_with fail
                    refine hK.out _ _ ?hz19 (fun hHeld => ?_)
                    case hz19 =>
                      try dsimp only
                      exact ⟨v0, v1, v2, v3, v4, v5⟩
                    clear hK K
                    try simp only [Act.put, List.setIfInBounds_toArray, List.set_cons_zero, List.set_cons_succ]
                    refine wpAnyH_take (i := 6) (oi := { dst := some 93, op := Go.Op.binOp Go.BinOp.eql 32 (Go.Operand.tmp 89) (Go.Operand.tmp 92) 32, type := 4, pos := "outright.go:97", after := #[{ on := 2, ground := Go.Ground.data }, { on := 5, ground := Go.Ground.data }], guard := none }) (v := ?vz20) rfl (by kernel_rfl) (by kernel_rfl) (by kernel_rfl) (fun _ _ _ h => h) (Or.inl ⟨by rfl, ?hz20⟩) (by assumption) ?_
                    case hz20 =>
                      intro w hSw
                      try dsimp only at hSw
                      go_simp
                      try with_reducible rfl
                    try simp only [Act.put, List.setIfInBounds_toArray, List.set_cons_zero, List.set_cons_succ]
                    refine wpAnyH_take (i := 7) (oi := { dst := some 94, op := Go.Op.move (Go.Operand.tmp 93), type := 4, pos := "outright.go:97", after := #[{ on := 6, ground := Go.Ground.data }, { on := 5, ground := Go.Ground.chain }], guard := none }) (v := ?vz21) rfl (by kernel_rfl) (by kernel_rfl) (by kernel_rfl) (fun _ _ _ h => h) (Or.inl ⟨by rfl, ?hz21⟩) (by assumption) ?_
                    case hz21 =>
                      intro w hSw
                      try dsimp only at hSw
                      go_simp
                      try with_reducible rfl
                    try simp only [Act.put, List.setIfInBounds_toArray, List.set_cons_zero, List.set_cons_succ]
                    refine wpAnyH_take (i := 8) (oi := { dst := some 95, op := Go.Op.fieldAddr 35 (Go.Operand.tmp 15) 1, type := 0, pos := "outright.go:97", after := #[{ on := 7, ground := Go.Ground.guard }], guard := some (7, true) }) (v := ?vz22) rfl (by kernel_rfl) (by kernel_rfl) (by kernel_rfl) (fun _ _ _ h => h) (Or.inl ⟨by rfl, ?hz22⟩) (by assumption) ?_
                    case hz22 =>
                      intro w hSw
                      try dsimp only at hSw
                      go_simp
                      try with_reducible rfl
                    try simp only [Act.put, List.setIfInBounds_toArray, List.set_cons_zero, List.set_cons_succ]
                    refine wpAnyH_take (i := 9) (oi := { dst := some 96, op := Go.Op.load 33 (Go.Operand.tmp 95), type := 33, pos := "outright.go:97", after := #[{ on := 8, ground := Go.Ground.data }, { on := 7, ground := Go.Ground.guard }], guard := some (7, true) }) (v := ?vz23) rfl (by kernel_rfl) (by kernel_rfl) (by kernel_rfl) (fun _ _ _ h => h) (Or.inl ⟨by rfl, ?hz23⟩) (by assumption) ?_
                    case hz23 =>
                      intro w hSw
                      try dsimp only at hSw
                      go_simp
                      try with_reducible rfl
                    try simp only [Act.put, List.setIfInBounds_toArray, List.set_cons_zero, List.set_cons_succ]
                    refine wpAnyH_take (i := 10) (oi := { dst := some 97, op := Go.Op.fieldAddr 35 (Go.Operand.tmp 4) 1, type := 0, pos := "outright.go:97", after := #[{ on := 7, ground := Go.Ground.guard }], guard := some (7, true) }) (v := ?vz24) rfl (by kernel_rfl) (by kernel_rfl) (by kernel_rfl) (fun _ _ _ h => h) (Or.inl ⟨by rfl, ?hz24⟩) (by assumption) ?_
                    case hz24 =>
                      intro w hSw
                      try dsimp only at hSw
                      go_simp
                      try with_reducible rfl
                    try simp only [Act.put, List.setIfInBounds_toArray, List.set_cons_zero, List.set_cons_succ]
                    refine wpAnyH_take (i := 11) (oi := { dst := some 98, op := Go.Op.load 33 (Go.Operand.tmp 97), type := 33, pos := "outright.go:97", after := #[{ on := 10, ground := Go.Ground.data }, { on := 7, ground := Go.Ground.guard }], guard := some (7, true) }) (v := ?vz25) rfl (by kernel_rfl) (by kernel_rfl) (by kernel_rfl) (fun _ _ _ h => h) (Or.inl ⟨by rfl, ?hz25⟩) (by assumption) ?_
                    case hz25 =>
                      intro w hSw
                      try dsimp only at hSw
                      go_simp
                      try with_reducible rfl
                    try simp only [Act.put, List.setIfInBounds_toArray, List.set_cons_zero, List.set_cons_succ]
                    refine wpAnyH_take (i := 12) (oi := { dst := some 99, op := Go.Op.binOp Go.BinOp.eql 33 (Go.Operand.tmp 96) (Go.Operand.tmp 98) 33, type := 4, pos := "outright.go:97", after := #[{ on := 9, ground := Go.Ground.data }, { on := 11, ground := Go.Ground.data }, { on := 7, ground := Go.Ground.guard }], guard := some (7, true) }) (v := ?vz26) rfl (by kernel_rfl) (by kernel_rfl) (by kernel_rfl) (fun _ _ _ h => h) (Or.inl ⟨by rfl, ?hz26⟩) (by assumption) ?_
                    case hz26 =>
                      intro w hSw
                      try dsimp only at hSw
                      go_simp
                      try with_reducible rfl
                    try simp only [Act.put, List.setIfInBounds_toArray, List.set_cons_zero, List.set_cons_succ]
                    refine wpAnyH_take (i := 13) (oi := { dst := some 100, op := Go.Op.pick (Go.Operand.tmp 94) (Go.Operand.tmp 99) (Go.Operand.const (Go.Value.bool false)), type := 4, pos := "outright.go:97", after := #[{ on := 7, ground := Go.Ground.data }, { on := 12, ground := Go.Ground.data }], guard := none }) (v := ?vz27) rfl (by kernel_rfl) (by kernel_rfl) (by kernel_rfl) (fun _ _ _ h => h) (Or.inl ⟨by rfl, ?hz27⟩) (by assumption) ?_
                    case hz27 =>
                      intro w hSw
                      try dsimp only at hSw
                      go_simp
                      try with_reducible rfl
                    try simp only [Act.put, List.setIfInBounds_toArray, List.set_cons_zero, List.set_cons_succ]
                    refine wpAnyH_take (i := 14) (oi := { dst := some 101, op := Go.Op.move (Go.Operand.tmp 100), type := 4, pos := "outright.go:97", after := #[{ on := 13, ground := Go.Ground.data }, { on := 7, ground := Go.Ground.chain }], guard := none }) (v := ?vz28) rfl (by kernel_rfl) (by kernel_rfl) (by kernel_rfl) (fun _ _ _ h => h) (Or.inl ⟨by rfl, ?hz28⟩) (by assumption) ?_
                    case hz28 =>
                      intro w hSw
                      try dsimp only at hSw
                      go_simp
                      try with_reducible rfl
                    try simp only [Act.put, List.setIfInBounds_toArray, List.set_cons_zero, List.set_cons_succ]
                    refine wpAnyH_take (i := 15) (oi := { dst := some 102, op := Go.Op.fieldAddr 35 (Go.Operand.tmp 15) 2, type := 0, pos := "outright.go:97", after := #[{ on := 14, ground := Go.Ground.guard }], guard := some (14, true) }) (v := undef) rfl (by kernel_rfl) (by kernel_rfl) (by kernel_rfl) (fun _ _ _ h => h) (Or.inr ⟨by rfl, rfl⟩) (by assumption) ?_
                    try simp only [Act.put, List.setIfInBounds_toArray, List.set_cons_zero, List.set_cons_succ]
                    refine wpAnyH_take (i := 16) (oi := { dst := some 103, op := Go.Op.load 33 (Go.Operand.tmp 102), type := 33, pos := "outright.go:97", after := #[{ on := 15, ground := Go.Ground.data }, { on := 14, ground := Go.Ground.guard }], guard := some (14, true) }) (v := undef) rfl (by kernel_rfl) (by kernel_rfl) (by kernel_rfl) (fun _ _ _ h => h) (Or.inr ⟨by rfl, rfl⟩) (by assumption) ?_
                    try simp only [Act.put, List.setIfInBounds_toArray, List.set_cons_zero, List.set_cons_succ]
                    refine wpAnyH_take (i := 17) (oi := { dst := some 104, op := Go.Op.fieldAddr 35 (Go.Operand.tmp 4) 2, type := 0, pos := "outright.go:97", after := #[{ on := 14, ground := Go.Ground.guard }], guard := some (14, true) }) (v := undef) rfl (by kernel_rfl) (by kernel_rfl) (by kernel_rfl) (fun _ _ _ h => h) (Or.inr ⟨by rfl, rfl⟩) (by assumption) ?_
                    try simp only [Act.put, List.setIfInBounds_toArray, List.set_cons_zero, List.set_cons_succ]
                    refine wpAnyH_take (i := 18) (oi := { dst := some 105, op := Go.Op.load 33 (Go.Operand.tmp 104), type := 33, pos := "outright.go:97", after := #[{ on := 17, ground := Go.Ground.data }, { on := 14, ground := Go.Ground.guard }], guard := some (14, true) }) (v := undef) rfl (by kernel_rfl) (by kernel_rfl) (by kernel_rfl) (fun _ _ _ h => h) (Or.inr ⟨by rfl, rfl⟩) (by assumption) ?_
                    try simp only [Act.put, List.setIfInBounds_toArray, List.set_cons_zero, List.set_cons_succ]
                    refine wpAnyH_take (i := 19) (oi := { dst := some 106, op := Go.Op.binOp Go.BinOp.eql 33 (Go.Operand.tmp 103) (Go.Operand.tmp 105) 33, type := 4, pos := "outright.go:97", after := #[{ on := 16, ground := Go.Ground.data }, { on := 18, ground := Go.Ground.data }, { on := 14, ground := Go.Ground.guard }], guard := some (14, true) }) (v := undef) rfl (by kernel_rfl) (by kernel_rfl) (by kernel_rfl) (fun _ _ _ h => h) (Or.inr ⟨by rfl, rfl⟩) (by assumption) ?_
                    try simp only [Act.put, List.setIfInBounds_toArray, List.set_cons_zero, List.set_cons_succ]
                    refine wpAnyH_take (i := 20) (oi := { dst := some 107, op := Go.Op.pick (Go.Operand.tmp 101) (Go.Operand.tmp 106) (Go.Operand.const (Go.Value.bool false)), type := 4, pos := "outright.go:97", after := #[{ on := 14, ground := Go.Ground.data }, { on := 19, ground := Go.Ground.data }], guard := none }) (v := ?vz29) rfl (by kernel_rfl) (by kernel_rfl) (by kernel_rfl) (fun _ _ _ h => h) (Or.inl ⟨by rfl, ?hz29⟩) (by assumption) ?_
                    case hz29 =>
                      intro w hSw
                      try dsimp only at hSw
                      go_simp
                      try with_reducible rfl
                    try simp only [Act.put, List.setIfInBounds_toArray, List.set_cons_zero, List.set_cons_succ]
                    refine wpAnyH_done (by kernel_rfl) ?_ _
                    clear hHeld
                    go_wp2
                    go_meet
                    case rel => exact ⟨rfl, (Below.refl _ _).drew.trans (HB4.out.trans (HB5.out.mono HB4.out.size))⟩
                  | true =>
                    cases B3 with
                    | false =>
                      obtain rfl : R = false := hR.symm
                      refine wp_region_held_drew (S := (fun W => W.cell? ⟨wo.heap.size, 0, none⟩ = some (.string s.q.nm) ∧ W.cell? ⟨wo.heap.size, 1, none⟩ = some (.int .u16 (s.q.ty : Int)) ∧ W.cell? ⟨wo.heap.size, 2, none⟩ = some (.int .u16 (s.q.cl : Int)) ∧ W.cell? ⟨w.heap.size, 0, none⟩ = some (.string q.nm) ∧ W.cell? ⟨w.heap.size, 1, none⟩ = some (.int .u16 (q.ty : Int)) ∧ W.cell? ⟨w.heap.size, 2, none⟩ = some (.int .u16 (q.cl : Int)))) (by kernel_rfl) ?hz30 (fun hHeld => ?_)
                      case hz30 => exact ⟨x0, x1, x2, k0, k1, k2⟩
                      refine wpAnyH_take (i := 0) (oi := { dst := some 87, op := Go.Op.fieldAddr 35 (Go.Operand.tmp 15) 0, type := 0, pos := "outright.go:97", after := #[], guard := none }) (v := ?vz31) rfl (by kernel_rfl) (by kernel_rfl) (by kernel_rfl) (fun _ _ _ h => h) (Or.inl ⟨by rfl, ?hz31⟩) (by assumption) ?_
                      case hz31 =>
                        intro w hSw
                        try dsimp only at hSw
                        go_simp
                        try with_reducible rfl
                      try simp only [Act.put, List.setIfInBounds_toArray, List.set_cons_zero, List.set_cons_succ]
                      refine wpAnyH_take (i := 1) (oi := { dst := some 88, op := Go.Op.load 32 (Go.Operand.tmp 87), type := 32, pos := "outright.go:97", after := #[{ on := 0, ground := Go.Ground.data }], guard := none }) (v := ?vz32) rfl (by kernel_rfl) (by kernel_rfl) (by kernel_rfl) (fun _ _ _ h => h) (Or.inl ⟨by rfl, ?hz32⟩) (by assumption) ?_
                      case hz32 =>
                        intro w hSw
                        try dsimp only at hSw
                        go_simp
                        try with_reducible rfl
                      try simp only [Act.put, List.setIfInBounds_toArray, List.set_cons_zero, List.set_cons_succ]
                      refine wpAnyH_take (i := 3) (oi := { dst := some 90, op := Go.Op.fieldAddr 35 (Go.Operand.tmp 4) 0, type := 0, pos := "outright.go:97", after := #[], guard := none }) (v := ?vz33) rfl (by kernel_rfl) (by kernel_rfl) (by kernel_rfl) (fun _ _ _ h => h) (Or.inl ⟨by rfl, ?hz33⟩) (by assumption) ?_
                      case hz33 =>
                        intro w hSw
                        try dsimp only at hSw
                        go_simp
                        try with_reducible rfl
                      try simp only [Act.put, List.setIfInBounds_toArray, List.set_cons_zero, List.set_cons_succ]
                      refine wpAnyH_take (i := 4) (oi := { dst := some 91, op := Go.Op.load 32 (Go.Operand.tmp 90), type := 32, pos := "outright.go:97", after := #[{ on := 3, ground := Go.Ground.data }], guard := none }) (v := ?vz34) rfl (by kernel_rfl) (by kernel_rfl) (by kernel_rfl) (fun _ _ _ h => h) (Or.inl ⟨by rfl, ?hz34⟩) (by assumption) ?_
                      case hz34 =>
                        intro w hSw
                        try dsimp only at hSw
                        go_simp
                        try with_reducible rfl
                      try simp only [Act.put, List.setIfInBounds_toArray, List.set_cons_zero, List.set_cons_succ]
                      refine wpAnyH_ready (rs := [2]) (by kernel_rfl) (by simp) ?_
                      refine AllReadyH.cons (o := { dst := some 89, op := Go.Op.call { callee := Go.Callee.value (Go.Operand.func 25), args := #[Go.Operand.tmp 88], argTypes := #[32] }, type := 32, pos := "outright.go:97", after := #[{ on := 1, ground := Go.Ground.data }], guard := none }) rfl (fun K hK => ?_) AllReadyH.nil
                      go_simp
                      go_split_ands
                      go_at_call 25
                      refine (HF1.out _).mono ?_
                      rintro e W4 ⟨rfl, hb4⟩
                      have y0 : W4.cell? ⟨wo.heap.size, 0, none⟩ = some (.string s.q.nm) := keep_cell hb4 (by assumption)
                      have y1 : W4.cell? ⟨wo.heap.size, 1, none⟩ = some (.int .u16 (s.q.ty : Int)) := keep_cell hb4 (by assumption)
                      have y2 : W4.cell? ⟨wo.heap.size, 2, none⟩ = some (.int .u16 (s.q.cl : Int)) := keep_cell hb4 (by assumption)
                      have y3 : W4.cell? ⟨w.heap.size, 0, none⟩ = some (.string q.nm) := keep_cell hb4 (by assumption)
                      have y4 : W4.cell? ⟨w.heap.size, 1, none⟩ = some (.int .u16 (q.ty : Int)) := keep_cell hb4 (by assumption)
                      have y5 : W4.cell? ⟨w.heap.size, 2, none⟩ = some (.int .u16 (q.cl : Int)) := keep_cell hb4 (by assumption)
                      have HB4 := Lib.hid hb4
                      clear hb4
                      try go_wp2_with fail
                      refine hK.out _ _ ?hz35 (fun hHeld => ?_)
                      case hz35 =>
                        try dsimp only
                        exact ⟨y0, y1, y2, y3, y4, y5⟩
                      clear hK K
                      try simp only [Act.put, List.setIfInBounds_toArray, List.set_cons_zero, List.set_cons_succ]
                      refine wpAnyH_ready (rs := [5]) (by kernel_rfl) (by simp) ?_
                      refine AllReadyH.cons (o := { dst := some 92, op := Go.Op.call { callee := Go.Callee.value (Go.Operand.func 25), args := #[Go.Operand.tmp 91], argTypes := #[32] }, type := 32, pos := "outright.go:97", after := #[{ on := 4, ground := Go.Ground.data }, { on := 2, ground := Go.Ground.chain }], guard := none }) rfl (fun K hK => ?_) AllReadyH.nil
                      go_simp
                      go_split_ands
                      go_at_call 25
                      refine (HF2.out _).mono ?_
                      rintro e W5 ⟨rfl, hb5⟩
                      have v0 : W5.cell? ⟨wo.heap.size, 0, none⟩ = some (.string s.q.nm) := keep_cell hb5 (by assumption)
                      have v1 : W5.cell? ⟨wo.heap.size, 1, none⟩ = some (.int .u16 (s.q.ty : Int)) := keep_cell hb5 (by assumption)
                      have v2 : W5.cell? ⟨wo.heap.size, 2, none⟩ = some (.int .u16 (s.q.cl : Int)) := keep_cell hb5 (by assumption)
                      have v3 : W5.cell? ⟨w.heap.size, 0, none⟩ = some (.string q.nm) := keep_cell hb5 (by assumption)
                      have v4 : W5.cell? ⟨w.heap.size, 1, none⟩ = some (.int .u16 (q.ty : Int)) := keep_cell hb5 (by assumption)
                      have v5 : W5.cell? ⟨w.heap.size, 2, none⟩ = some (.int .u16 (q.cl : Int)) := keep_cell hb5 (by assumption)
                      have HB5 := Lib.hid hb5
                      clear hb5
                      try go_wp2_with fail
                      refine hK.out _ _ ?hz36 (fun hHeld => ?_)
                      case hz36 =>
                        try dsimp only
                        exact ⟨v0, v1, v2, v3, v4, v5⟩
                      clear hK K
                      try simp only [Act.put, List.setIfInBounds_toArray, List.set_cons_zero, List.set_cons_succ]
                      refine wpAnyH_take (i := 6) (oi := { dst := some 93, op := Go.Op.binOp Go.BinOp.eql 32 (Go.Operand.tmp 89) (Go.Operand.tmp 92) 32, type := 4, pos := "outright.go:97", after := #[{ on := 2, ground := Go.Ground.data }, { on := 5, ground := Go.Ground.data }], guard := none }) (v := ?vz37) rfl (by kernel_rfl) (by kernel_rfl) (by kernel_rfl) (fun _ _ _ h => h) (Or.inl ⟨by rfl, ?hz37⟩) (by assumption) ?_
                      case hz37 =>
                        intro w hSw
                        try dsimp only at hSw
                        go_simp
                        try with_reducible rfl
                      try simp only [Act.put, List.setIfInBounds_toArray, List.set_cons_zero, List.set_cons_succ]
                      refine wpAnyH_take (i := 7) (oi := { dst := some 94, op := Go.Op.move (Go.Operand.tmp 93), type := 4, pos := "outright.go:97", after := #[{ on := 6, ground := Go.Ground.data }, { on := 5, ground := Go.Ground.chain }], guard := none }) (v := ?vz38) rfl (by kernel_rfl) (by kernel_rfl) (by kernel_rfl) (fun _ _ _ h => h) (Or.inl ⟨by rfl, ?hz38⟩) (by assumption) ?_
                      case hz38 =>
                        intro w hSw
                        try dsimp only at hSw
                        go_simp
                        try with_reducible rfl
                      try simp only [Act.put, List.setIfInBounds_toArray, List.set_cons_zero, List.set_cons_succ]
                      refine wpAnyH_take (i := 8) (oi := { dst := some 95, op := Go.Op.fieldAddr 35 (Go.Operand.tmp 15) 1, type := 0, pos := "outright.go:97", after := #[{ on := 7, ground := Go.Ground.guard }], guard := some (7, true) }) (v := ?vz39) rfl (by kernel_rfl) (by kernel_rfl) (by kernel_rfl) (fun _ _ _ h => h) (Or.inl ⟨by rfl, ?hz39⟩) (by assumption) ?_
                      case hz39 =>
                        intro w hSw
                        try dsimp only at hSw
                        go_simp
                        try with_reducible rfl
                      try simp only [Act.put, List.setIfInBounds_toArray, List.set_cons_zero, List.set_cons_succ]
                      refine wpAnyH_take (i := 9) (oi := { dst := some 96, op := Go.Op.load 33 (Go.Operand.tmp 95), type := 33, pos := "outright.go:97", after := #[{ on := 8, ground := Go.Ground.data }, { on := 7, ground := Go.Ground.guard }], guard := some (7, true) }) (v := ?vz40) rfl (by kernel_rfl) (by kernel_rfl) (by kernel_rfl) (fun _ _ _ h => h) (Or.inl ⟨by rfl, ?hz40⟩) (by assumption) ?_
                      case hz40 =>
                        intro w hSw
                        try dsimp only at hSw
                        go_simp
                        try with_reducible rfl
                      try simp only [Act.put, List.setIfInBounds_toArray, List.set_cons_zero, List.set_cons_succ]
                      refine wpAnyH_take (i := 10) (oi := { dst := some 97, op := Go.Op.fieldAddr 35 (Go.Operand.tmp 4) 1, type := 0, pos := "outright.go:97", after := #[{ on := 7, ground := Go.Ground.guard }], guard := some (7, true) }) (v := ?vz41) rfl (by kernel_rfl) (by kernel_rfl) (by kernel_rfl) (fun _ _ _ h => h) (Or.inl ⟨by rfl, ?hz41⟩) (by assumption) ?_
                      case hz41 =>
                        intro w hSw
                        try dsimp only at hSw
                        go_simp
                        try with_reducible rfl
                      try simp only [Act.put, List.setIfInBounds_toArray, List.set_cons_zero, List.set_cons_succ]
                      refine wpAnyH_take (i := 11) (oi := { dst := some 98, op := Go.Op.load 33 (Go.Operand.tmp 97), type := 33, pos := "outright.go:97", after := #[{ on := 10, ground := Go.Ground.data }, { on := 7, ground := Go.Ground.guard }], guard := some (7, true) }) (v := ?vz42) rfl (by kernel_rfl) (by kernel_rfl) (by kernel_rfl) (fun _ _ _ h => h) (Or.inl ⟨by rfl, ?hz42⟩) (by assumption) ?_
                      case hz42 =>
                        intro w hSw
                        try dsimp only at hSw
                        go_simp
                        try with_reducible rfl
                      try simp only [Act.put, List.setIfInBounds_toArray, List.set_cons_zero, List.set_cons_succ]
                      refine wpAnyH_take (i := 12) (oi := { dst := some 99, op := Go.Op.binOp Go.BinOp.eql 33 (Go.Operand.tmp 96) (Go.Operand.tmp 98) 33, type := 4, pos := "outright.go:97", after := #[{ on := 9, ground := Go.Ground.data }, { on := 11, ground := Go.Ground.data }, { on := 7, ground := Go.Ground.guard }], guard := some (7, true) }) (v := ?vz43) rfl (by kernel_rfl) (by kernel_rfl) (by kernel_rfl) (fun _ _ _ h => h) (Or.inl ⟨by rfl, ?hz43⟩) (by assumption) ?_
                      case hz43 =>
                        intro w hSw
                        try dsimp only at hSw
                        go_simp
                        try with_reducible rfl
                      try simp only [Act.put, List.setIfInBounds_toArray, List.set_cons_zero, List.set_cons_succ]
                      refine wpAnyH_take (i := 13) (oi := { dst := some 100, op := Go.Op.pick (Go.Operand.tmp 94) (Go.Operand.tmp 99) (Go.Operand.const (Go.Value.bool false)), type := 4, pos := "outright.go:97", after := #[{ on := 7, ground := Go.Ground.data }, { on := 12, ground := Go.Ground.data }], guard := none }) (v := ?vz44) rfl (by kernel_rfl) (by kernel_rfl) (by kernel_rfl) (fun _ _ _ h => h) (Or.inl ⟨by rfl, ?hz44⟩) (by assumption) ?_
                      case hz44 =>
                        intro w hSw
                        try dsimp only at hSw
                        go_simp
                        try with_reducible rfl
                      try simp only [Act.put, List.setIfInBounds_toArray, List.set_cons_zero, List.set_cons_succ]
                      refine wpAnyH_take (i := 14) (oi := { dst := some 101, op := Go.Op.move (Go.Operand.tmp 100), type := 4, pos := "outright.go:97", after := #[{ on := 13, ground := Go.Ground.data }, { on := 7, ground := Go.Ground.chain }], guard := none }) (v := ?vz45) rfl (by kernel_rfl) (by kernel_rfl) (by kernel_rfl) (fun _ _ _ h => h) (Or.inl ⟨by rfl, ?hz45⟩) (by assumption) ?_
                      case hz45 =>
                        intro w hSw
                        try dsimp only at hSw
                        go_simp
                        try with_reducible rfl
                      try simp only [Act.put, List.setIfInBounds_toArray, List.set_cons_zero, List.set_cons_succ]
                      refine wpAnyH_take (i := 15) (oi := { dst := some 102, op := Go.Op.fieldAddr 35 (Go.Operand.tmp 15) 2, type := 0, pos := "outright.go:97", after := #[{ on := 14, ground := Go.Ground.guard }], guard := some (14, true) }) (v := ?vz46) rfl (by kernel_rfl) (by kernel_rfl) (by kernel_rfl) (fun _ _ _ h => h) (Or.inl ⟨by rfl, ?hz46⟩) (by assumption) ?_
                      case hz46 =>
                        intro w hSw
                        try dsimp only at hSw
                        go_simp
                        try with_reducible rfl
                      try simp only [Act.put, List.setIfInBounds_toArray, List.set_cons_zero, List.set_cons_succ]
                      refine wpAnyH_take (i := 16) (oi := { dst := some 103, op := Go.Op.load 33 (Go.Operand.tmp 102), type := 33, pos := "outright.go:97", after := #[{ on := 15, ground := Go.Ground.data }, { on := 14, ground := Go.Ground.guard }], guard := some (14, true) }) (v := ?vz47) rfl (by kernel_rfl) (by kernel_rfl) (by kernel_rfl) (fun _ _ _ h => h) (Or.inl ⟨by rfl, ?hz47⟩) (by assumption) ?_
                      case hz47 =>
                        intro w hSw
                        try dsimp only at hSw
                        go_simp
                        try with_reducible rfl
                      try simp only [Act.put, List.setIfInBounds_toArray, List.set_cons_zero, List.set_cons_succ]
                      refine wpAnyH_take (i := 17) (oi := { dst := some 104, op := Go.Op.fieldAddr 35 (Go.Operand.tmp 4) 2, type := 0, pos := "outright.go:97", after := #[{ on := 14, ground := Go.Ground.guard }], guard := some (14, true) }) (v := ?vz48) rfl (by kernel_rfl) (by kernel_rfl) (by kernel_rfl) (fun _ _ _ h => h) (Or.inl ⟨by rfl, ?hz48⟩) (by assumption) ?_
                      case hz48 =>
                        intro w hSw
                        try dsimp only at hSw
                        go_simp
                        try with_reducible rfl
                      try simp only [Act.put, List.setIfInBounds_toArray, List.set_cons_zero, List.set_cons_succ]
                      refine wpAnyH_take (i := 18) (oi := { dst := some 105, op := Go.Op.load 33 (Go.Operand.tmp 104), type := 33, pos := "outright.go:97", after := #[{ on := 17, ground := Go.Ground.data }, { on := 14, ground := Go.Ground.guard }], guard := some (14, true) }) (v := ?vz49) rfl (by kernel_rfl) (by kernel_rfl) (by kernel_rfl) (fun _ _ _ h => h) (Or.inl ⟨by rfl, ?hz49⟩) (by assumption) ?_
                      case hz49 =>
                        intro w hSw
                        try dsimp only at hSw
                        go_simp
                        try with_reducible rfl
                      try simp only [Act.put, List.setIfInBounds_toArray, List.set_cons_zero, List.set_cons_succ]
                      refine wpAnyH_take (i := 19) (oi := { dst := some 106, op := Go.Op.binOp Go.BinOp.eql 33 (Go.Operand.tmp 103) (Go.Operand.tmp 105) 33, type := 4, pos := "outright.go:97", after := #[{ on := 16, ground := Go.Ground.data }, { on := 18, ground := Go.Ground.data }, { on := 14, ground := Go.Ground.guard }], guard := some (14, true) }) (v := ?vz50) rfl (by kernel_rfl) (by kernel_rfl) (by kernel_rfl) (fun _ _ _ h => h) (Or.inl ⟨by rfl, ?hz50⟩) (by assumption) ?_
                      case hz50 =>
                        intro w hSw
                        try dsimp only at hSw
                        go_simp
                        try with_reducible rfl
                      try simp only [Act.put, List.setIfInBounds_toArray, List.set_cons_zero, List.set_cons_succ]
                      refine wpAnyH_take (i := 20) (oi := { dst := some 107, op := Go.Op.pick (Go.Operand.tmp 101) (Go.Operand.tmp 106) (Go.Operand.const (Go.Value.bool false)), type := 4, pos := "outright.go:97", after := #[{ on := 14, ground := Go.Ground.data }, { on := 19, ground := Go.Ground.data }], guard := none }) (v := ?vz51) rfl (by kernel_rfl) (by kernel_rfl) (by kernel_rfl) (fun _ _ _ h => h) (Or.inl ⟨by rfl, ?hz51⟩) (by assumption) ?_
                      case hz51 =>
                        intro w hSw
                        try dsimp only at hSw
                        go_simp
                        try with_reducible rfl
                      try simp only [Act.put, List.setIfInBounds_toArray, List.set_cons_zero, List.set_cons_succ]
                      refine wpAnyH_done (by kernel_rfl) ?_ _
                      clear hHeld
                      go_wp2
                      go_meet
                      case rel => exact ⟨rfl, (Below.refl _ _).drew.trans (HB4.out.trans (HB5.out.mono HB4.out.size))⟩
                    | true =>
                      obtain rfl : R = true := hR.symm
                      refine wp_region_held_drew (S := (fun W => W.cell? ⟨wo.heap.size, 0, none⟩ = some (.string s.q.nm) ∧ W.cell? ⟨wo.heap.size, 1, none⟩ = some (.int .u16 (s.q.ty : Int)) ∧ W.cell? ⟨wo.heap.size, 2, none⟩ = some (.int .u16 (s.q.cl : Int)) ∧ W.cell? ⟨w.heap.size, 0, none⟩ = some (.string q.nm) ∧ W.cell? ⟨w.heap.size, 1, none⟩ = some (.int .u16 (q.ty : Int)) ∧ W.cell? ⟨w.heap.size, 2, none⟩ = some (.int .u16 (q.cl : Int)))) (by kernel_rfl) ?hz52 (fun hHeld => ?_)
                      case hz52 => exact ⟨x0, x1, x2, k0, k1, k2⟩
                      refine wpAnyH_take (i := 0) (oi := { dst := some 87, op := Go.Op.fieldAddr 35 (Go.Operand.tmp 15) 0, type := 0, pos := "outright.go:97", after := #[], guard := none }) (v := ?vz53) rfl (by kernel_rfl) (by kernel_rfl) (by kernel_rfl) (fun _ _ _ h => h) (Or.inl ⟨by rfl, ?hz53⟩) (by assumption) ?_
                      case hz53 =>
                        intro w hSw
                        try dsimp only at hSw
                        go_simp
                        try with_reducible rfl
                      try simp only [Act.put, List.setIfInBounds_toArray, List.set_cons_zero, List.set_cons_succ]
                      refine wpAnyH_take (i := 1) (oi := { dst := some 88, op := Go.Op.load 32 (Go.Operand.tmp 87), type := 32, pos := "outright.go:97", after := #[{ on := 0, ground := Go.Ground.data }], guard := none }) (v := ?vz54) rfl (by kernel_rfl) (by kernel_rfl) (by kernel_rfl) (fun _ _ _ h => h) (Or.inl ⟨by rfl, ?hz54⟩) (by assumption) ?_
                      case hz54 =>
                        intro w hSw
                        try dsimp only at hSw
                        go_simp
                        try with_reducible rfl
                      try simp only [Act.put, List.setIfInBounds_toArray, List.set_cons_zero, List.set_cons_succ]
                      refine wpAnyH_take (i := 3) (oi := { dst := some 90, op := Go.Op.fieldAddr 35 (Go.Operand.tmp 4) 0, type := 0, pos := "outright.go:97", after := #[], guard := none }) (v := ?vz55) rfl (by kernel_rfl) (by kernel_rfl) (by kernel_rfl) (fun _ _ _ h => h) (Or.inl ⟨by rfl, ?hz55⟩) (by assumption) ?_
                      case hz55 =>
                        intro w hSw
                        try dsimp only at hSw
                        go_simp
                        try with_reducible rfl
                      try simp only [Act.put, List.setIfInBounds_toArray, List.set_cons_zero, List.set_cons_succ]
                      refine wpAnyH_take (i := 4) (oi := { dst := some 91, op := Go.Op.load 32 (Go.Operand.tmp 90), type := 32, pos := "outright.go:97", after := #[{ on := 3, ground := Go.Ground.data }], guard := none }) (v := ?vz56) rfl (by kernel_rfl) (by kernel_rfl) (by kernel_rfl) (fun _ _ _ h => h) (Or.inl ⟨by rfl, ?hz56⟩) (by assumption) ?_
                      case hz56 =>
                        intro w hSw
                        try dsimp only at hSw
                        go_simp
                        try with_reducible rfl
                      try simp only [Act.put, List.setIfInBounds_toArray, List.set_cons_zero, List.set_cons_succ]
                      refine wpAnyH_ready (rs := [2]) (by kernel_rfl) (by simp) ?_
                      refine AllReadyH.cons (o := { dst := some 89, op := Go.Op.call { callee := Go.Callee.value (Go.Operand.func 25), args := #[Go.Operand.tmp 88], argTypes := #[32] }, type := 32, pos := "outright.go:97", after := #[{ on := 1, ground := Go.Ground.data }], guard := none }) rfl (fun K hK => ?_) AllReadyH.nil
                      go_simp
                      go_split_ands
                      go_at_call 25
                      refine (HF1.out _).mono ?_
                      rintro e W4 ⟨rfl, hb4⟩
                      have y0 : W4.cell? ⟨wo.heap.size, 0, none⟩ = some (.string s.q.nm) := keep_cell hb4 (by assumption)
                      have y1 : W4.cell? ⟨wo.heap.size, 1, none⟩ = some (.int .u16 (s.q.ty : Int)) := keep_cell hb4 (by assumption)
                      have y2 : W4.cell? ⟨wo.heap.size, 2, none⟩ = some (.int .u16 (s.q.cl : Int)) := keep_cell hb4 (by assumption)
                      have y3 : W4.cell? ⟨w.heap.size, 0, none⟩ = some (.string q.nm) := keep_cell hb4 (by assumption)
                      have y4 : W4.cell? ⟨w.heap.size, 1, none⟩ = some (.int .u16 (q.ty : Int)) := keep_cell hb4 (by assumption)
                      have y5 : W4.cell? ⟨w.heap.size, 2, none⟩ = some (.int .u16 (q.cl : Int)) := keep_cell hb4 (by assumption)
                      have HB4 := Lib.hid hb4
                      clear hb4
                      try go_wp2_with fail
                      refine hK.out _ _ ?hz57 (fun hHeld => ?_)
                      case hz57 =>
                        try dsimp only
                        exact ⟨y0, y1, y2, y3, y4, y5⟩
                      clear hK K
                      try simp only [Act.put, List.setIfInBounds_toArray, List.set_cons_zero, List.set_cons_succ]
                      refine wpAnyH_ready (rs := [5]) (by kernel_rfl) (by simp) ?_
                      refine AllReadyH.cons (o := { dst := some 92, op := Go.Op.call { callee := Go.Callee.value (Go.Operand.func 25), args := #[Go.Operand.tmp 91], argTypes := #[32] }, type := 32, pos := "outright.go:97", after := #[{ on := 4, ground := Go.Ground.data }, { on := 2, ground := Go.Ground.chain }], guard := none }) rfl (fun K hK => ?_) AllReadyH.nil
                      go_simp
                      go_split_ands
                      go_at_call 25
                      refine (HF2.out _).mono ?_
                      rintro e W5 ⟨rfl, hb5⟩
                      have v0 : W5.cell? ⟨wo.heap.size, 0, none⟩ = some (.string s.q.nm) := keep_cell hb5 (by assumption)
                      have v1 : W5.cell? ⟨wo.heap.size, 1, none⟩ = some (.int .u16 (s.q.ty : Int)) := keep_cell hb5 (by assumption)
                      have v2 : W5.cell? ⟨wo.heap.size, 2, none⟩ = some (.int .u16 (s.q.cl : Int)) := keep_cell hb5 (by assumption)
                      have v3 : W5.cell? ⟨w.heap.size, 0, none⟩ = some (.string q.nm) := keep_cell hb5 (by assumption)
                      have v4 : W5.cell? ⟨w.heap.size, 1, none⟩ = some (.int .u16 (q.ty : Int)) := keep_cell hb5 (by assumption)
                      have v5 : W5.cell? ⟨w.heap.size, 2, none⟩ = some (.int .u16 (q.cl : Int)) := keep_cell hb5 (by assumption)
                      have HB5 := Lib.hid hb5
                      clear hb5
                      try go_wp2_with fail
                      refine hK.out _ _ ?hz58 (fun hHeld => ?_)
                      case hz58 =>
                        try dsimp only
                        exact ⟨v0, v1, v2, v3, v4, v5⟩
                      clear hK K
                      try simp only [Act.put, List.setIfInBounds_toArray, List.set_cons_zero, List.set_cons_succ]
                      refine wpAnyH_take (i := 6) (oi := { dst := some 93, op := Go.Op.binOp Go.BinOp.eql 32 (Go.Operand.tmp 89) (Go.Operand.tmp 92) 32, type := 4, pos := "outright.go:97", after := #[{ on := 2, ground := Go.Ground.data }, { on := 5, ground := Go.Ground.data }], guard := none }) (v := ?vz59) rfl (by kernel_rfl) (by kernel_rfl) (by kernel_rfl) (fun _ _ _ h => h) (Or.inl ⟨by rfl, ?hz59⟩) (by assumption) ?_
                      case hz59 =>
                        intro w hSw
                        try dsimp only at hSw
                        go_simp
                        try with_reducible rfl
                      try simp only [Act.put, List.setIfInBounds_toArray, List.set_cons_zero, List.set_cons_succ]
                      refine wpAnyH_take (i := 7) (oi := { dst := some 94, op := Go.Op.move (Go.Operand.tmp 93), type := 4, pos := "outright.go:97", after := #[{ on := 6, ground := Go.Ground.data }, { on := 5, ground := Go.Ground.chain }], guard := none }) (v := ?vz60) rfl (by kernel_rfl) (by kernel_rfl) (by kernel_rfl) (fun _ _ _ h => h) (Or.inl ⟨by rfl, ?hz60⟩) (by assumption) ?_
                      case hz60 =>
                        intro w hSw
                        try dsimp only at hSw
                        go_simp
                        try with_reducible rfl
                      try simp only [Act.put, List.setIfInBounds_toArray, List.set_cons_zero, List.set_cons_succ]
                      refine wpAnyH_take (i := 8) (oi := { dst := some 95, op := Go.Op.fieldAddr 35 (Go.Operand.tmp 15) 1, type := 0, pos := "outright.go:97", after := #[{ on := 7, ground := Go.Ground.guard }], guard := some (7, true) }) (v := ?vz61) rfl (by kernel_rfl) (by kernel_rfl) (by kernel_rfl) (fun _ _ _ h => h) (Or.inl ⟨by rfl, ?hz61⟩) (by assumption) ?_
                      case hz61 =>
                        intro w hSw
                        try dsimp only at hSw
                        go_simp
                        try with_reducible rfl
                      try simp only [Act.put, List.setIfInBounds_toArray, List.set_cons_zero, List.set_cons_succ]
                      refine wpAnyH_take (i := 9) (oi := { dst := some 96, op := Go.Op.load 33 (Go.Operand.tmp 95), type := 33, pos := "outright.go:97", after := #[{ on := 8, ground := Go.Ground.data }, { on := 7, ground := Go.Ground.guard }], guard := some (7, true) }) (v := ?vz62) rfl (by kernel_rfl) (by kernel_rfl) (by kernel_rfl) (fun _ _ _ h => h) (Or.inl ⟨by rfl, ?hz62⟩) (by assumption) ?_
                      case hz62 =>
                        intro w hSw
                        try dsimp only at hSw
                        go_simp
                        try with_reducible rfl
                      try simp only [Act.put, List.setIfInBounds_toArray, List.set_cons_zero, List.set_cons_succ]
                      refine wpAnyH_take (i := 10) (oi := { dst := some 97, op := Go.Op.fieldAddr 35 (Go.Operand.tmp 4) 1, type := 0, pos := "outright.go:97", after := #[{ on := 7, ground := Go.Ground.guard }], guard := some (7, true) }) (v := ?vz63) rfl (by kernel_rfl) (by kernel_rfl) (by kernel_rfl) (fun _ _ _ h => h) (Or.inl ⟨by rfl, ?hz63⟩) (by assumption) ?_
                      case hz63 =>
                        intro w hSw
                        try dsimp only at hSw
                        go_simp
                        try with_reducible rfl
                      try simp only [Act.put, List.setIfInBounds_toArray, List.set_cons_zero, List.set_cons_succ]
                      refine wpAnyH_take (i := 11) (oi := { dst := some 98, op := Go.Op.load 33 (Go.Operand.tmp 97), type := 33, pos := "outright.go:97", after := #[{ on := 10, ground := Go.Ground.data }, { on := 7, ground := Go.Ground.guard }], guard := some (7, true) }) (v := ?vz64) rfl (by kernel_rfl) (by kernel_rfl) (by kernel_rfl) (fun _ _ _ h => h) (Or.inl ⟨by rfl, ?hz64⟩) (by assumption) ?_
                      case hz64 =>
                        intro w hSw
                        try dsimp only at hSw
                        go_simp
                        try with_reducible rfl
                      try simp only [Act.put, List.setIfInBounds_toArray, List.set_cons_zero, List.set_cons_succ]
                      refine wpAnyH_take (i := 12) (oi := { dst := some 99, op := Go.Op.binOp Go.BinOp.eql 33 (Go.Operand.tmp 96) (Go.Operand.tmp 98) 33, type := 4, pos := "outright.go:97", after := #[{ on := 9, ground := Go.Ground.data }, { on := 11, ground := Go.Ground.data }, { on := 7, ground := Go.Ground.guard }], guard := some (7, true) }) (v := ?vz65) rfl (by kernel_rfl) (by kernel_rfl) (by kernel_rfl) (fun _ _ _ h => h) (Or.inl ⟨by rfl, ?hz65⟩) (by assumption) ?_
                      case hz65 =>
                        intro w hSw
                        try dsimp only at hSw
                        go_simp
                        try with_reducible rfl
                      try simp only [Act.put, List.setIfInBounds_toArray, List.set_cons_zero, List.set_cons_succ]
                      refine wpAnyH_take (i := 13) (oi := { dst := some 100, op := Go.Op.pick (Go.Operand.tmp 94) (Go.Operand.tmp 99) (Go.Operand.const (Go.Value.bool false)), type := 4, pos := "outright.go:97", after := #[{ on := 7, ground := Go.Ground.data }, { on := 12, ground := Go.Ground.data }], guard := none }) (v := ?vz66) rfl (by kernel_rfl) (by kernel_rfl) (by kernel_rfl) (fun _ _ _ h => h) (Or.inl ⟨by rfl, ?hz66⟩) (by assumption) ?_
                      case hz66 =>
                        intro w hSw
                        try dsimp only at hSw
                        go_simp
                        try with_reducible rfl
                      try simp only [Act.put, List.setIfInBounds_toArray, List.set_cons_zero, List.set_cons_succ]
                      refine wpAnyH_take (i := 14) (oi := { dst := some 101, op := Go.Op.move (Go.Operand.tmp 100), type := 4, pos := "outright.go:97", after := #[{ on := 13, ground := Go.Ground.data }, { on := 7, ground := Go.Ground.chain }], guard := none }) (v := ?vz67) rfl (by kernel_rfl) (by kernel_rfl) (by kernel_rfl) (fun _ _ _ h => h) (Or.inl ⟨by rfl, ?hz67⟩) (by assumption) ?_
                      case hz67 =>
                        intro w hSw
                        try dsimp only at hSw
                        go_simp
                        try with_reducible rfl
                      try simp only [Act.put, List.setIfInBounds_toArray, List.set_cons_zero, List.set_cons_succ]
                      refine wpAnyH_take (i := 15) (oi := { dst := some 102, op := Go.Op.fieldAddr 35 (Go.Operand.tmp 15) 2, type := 0, pos := "outright.go:97", after := #[{ on := 14, ground := Go.Ground.guard }], guard := some (14, true) }) (v := ?vz68) rfl (by kernel_rfl) (by kernel_rfl) (by kernel_rfl) (fun _ _ _ h => h) (Or.inl ⟨by rfl, ?hz68⟩) (by assumption) ?_
                      case hz68 =>
                        intro w hSw
                        try dsimp only at hSw
                        go_simp
                        try with_reducible rfl
                      try simp only [Act.put, List.setIfInBounds_toArray, List.set_cons_zero, List.set_cons_succ]
                      refine wpAnyH_take (i := 16) (oi := { dst := some 103, op := Go.Op.load 33 (Go.Operand.tmp 102), type := 33, pos := "outright.go:97", after := #[{ on := 15, ground := Go.Ground.data }, { on := 14, ground := Go.Ground.guard }], guard := some (14, true) }) (v := ?vz69) rfl (by kernel_rfl) (by kernel_rfl) (by kernel_rfl) (fun _ _ _ h => h) (Or.inl ⟨by rfl, ?hz69⟩) (by assumption) ?_
                      case hz69 =>
                        intro w hSw
                        try dsimp only at hSw
                        go_simp
                        try with_reducible rfl
                      try simp only [Act.put, List.setIfInBounds_toArray, List.set_cons_zero, List.set_cons_succ]
                      refine wpAnyH_take (i := 17) (oi := { dst := some 104, op := Go.Op.fieldAddr 35 (Go.Operand.tmp 4) 2, type := 0, pos := "outright.go:97", after := #[{ on := 14, ground := Go.Ground.guard }], guard := some (14, true) }) (v := ?vz70) rfl (by kernel_rfl) (by kernel_rfl) (by kernel_rfl) (fun _ _ _ h => h) (Or.inl ⟨by rfl, ?hz70⟩) (by assumption) ?_
                      case hz70 =>
                        intro w hSw
                        try dsimp only at hSw
                        go_simp
                        try with_reducible rfl
                      try simp only [Act.put, List.setIfInBounds_toArray, List.set_cons_zero, List.set_cons_succ]
                      refine wpAnyH_take (i := 18) (oi := { dst := some 105, op := Go.Op.load 33 (Go.Operand.tmp 104), type := 33, pos := "outright.go:97", after := #[{ on := 17, ground := Go.Ground.data }, { on := 14, ground := Go.Ground.guard }], guard := some (14, true) }) (v := ?vz71) rfl (by kernel_rfl) (by kernel_rfl) (by kernel_rfl) (fun _ _ _ h => h) (Or.inl ⟨by rfl, ?hz71⟩) (by assumption) ?_
                      case hz71 =>
                        intro w hSw
                        try dsimp only at hSw
                        go_simp
                        try with_reducible rfl
                      try simp only [Act.put, List.setIfInBounds_toArray, List.set_cons_zero, List.set_cons_succ]
                      refine wpAnyH_take (i := 19) (oi := { dst := some 106, op := Go.Op.binOp Go.BinOp.eql 33 (Go.Operand.tmp 103) (Go.Operand.tmp 105) 33, type := 4, pos := "outright.go:97", after := #[{ on := 16, ground := Go.Ground.data }, { on := 18, ground := Go.Ground.data }, { on := 14, ground := Go.Ground.guard }], guard := some (14, true) }) (v := ?vz72) rfl (by kernel_rfl) (by kernel_rfl) (by kernel_rfl) (fun _ _ _ h => h) (Or.inl ⟨by rfl, ?hz72⟩) (by assumption) ?_
                      case hz72 =>
                        intro w hSw
                        try dsimp only at hSw
                        go_simp
                        try with_reducible rfl
                      try simp only [Act.put, List.setIfInBounds_toArray, List.set_cons_zero, List.set_cons_succ]
                      refine wpAnyH_take (i := 20) (oi := { dst := some 107, op := Go.Op.pick (Go.Operand.tmp 101) (Go.Operand.tmp 106) (Go.Operand.const (Go.Value.bool false)), type := 4, pos := "outright.go:97", after := #[{ on := 14, ground := Go.Ground.data }, { on := 19, ground := Go.Ground.data }], guard := none }) (v := ?vz73) rfl (by kernel_rfl) (by kernel_rfl) (by kernel_rfl) (fun _ _ _ h => h) (Or.inl ⟨by rfl, ?hz73⟩) (by assumption) ?_
                      case hz73 =>
                        intro w hSw
                        try dsimp only at hSw
                        go_simp
                        try with_reducible rfl
                      try simp only [Act.put, List.setIfInBounds_toArray, List.set_cons_zero, List.set_cons_succ]
                      refine wpAnyH_done (by kernel_rfl) ?_ _
                      clear hHeld
                      go_wp2
                      go_meet
                      case rel => exact ⟨rfl, (Below.refl _ _).drew.trans (HB4.out.trans (HB5.out.mono HB4.out.size))⟩
              case rest =>
                obtain ⟨rfl, HB⟩ := hcut
                clear x0 x1 x2 k0 k1 k2 hB1 hB2 hB3 hR HF1 HF2
                have HT4 := Lib.hid (HT3.out.below HB.out)
                have HX4 := Lib.hid (HX3.out.below HB.out HX3.out.lt)
                clear HT3 HX3 HB
                clear W3
                have hz1 : ∀ z : Nat, z ≤ 100 → decide ((100 : Int) < (z : Int)) = false := fun z hz => decide_eq_false (by omega)
                have hA4 := HAp.out.later (i' := k) (show T ≤ T2 by omega) (Nat.le_refl _)
                cases R with
                | true =>
                  go_wp2
                  go_roundw
                  case rel => exact ⟨k + 1, T2, l, rfl, by go_num, by omega, by omega, HT4.out, hA4.later (Nat.le_refl _) (by omega)⟩
                  case measure => simp [intOf]; omega
                | false =>
                  have hne := HNe.out rfl
                  obtain ⟨e0, e1, e2, e3, e4, e5, e6, e7, e8, e9⟩ := step_cells (range_below HT4.out.be HG.out HCs.out)
                  obtain ⟨x0, x1, x2⟩ := q_cells HX4.out
                  obtain ⟨pp, hpp⟩ : ∃ pp, s.put = pp := ⟨_, rfl⟩
                  rw [hpp] at e0
                  clear hpp
                  have ht5 : T2 ≤ 100000 := by omega
                  cases pp with
                  | true =>
                    have HP := Lib.hid fun W (hb : Below wc.heap.size wc W) => two_putC (HT4.out.below hb) s.q HKv.out s.x HLi.out HFe.out T2 ht5
                    have HA5 := Lib.hid (hA4.put (x := s.q) (b := s.x.a) hne (by omega))
                    unfold Kv.val Aw.val Aw.cells at HP
                    clear hA4 hne HNe
                    go_upto_region 17 with (fail)
                    go_region_held3 (fun W => W.cell? ⟨wo.heap.size, 0, none⟩ = some (.string s.q.nm) ∧ W.cell? ⟨wo.heap.size, 1, none⟩ = some (.int .u16 (s.q.ty : Int)) ∧ W.cell? ⟨wo.heap.size, 2, none⟩ = some (.int .u16 (s.q.cl : Int)) ∧ W.cell? ⟨g, o + k * 10 + 4, none⟩ = some (.int .u16 (s.x.a.rc : Int)) ∧ W.cell? ⟨g, o + k * 10 + 5, none⟩ = some (.bool s.x.a.aa) ∧ W.cell? ⟨g, o + k * 10 + 6, none⟩ = some (.slice s.x.A1 s.x.a.an.length s.x.c1) ∧ W.cell? ⟨g, o + k * 10 + 7, none⟩ = some (.slice s.x.A2 s.x.a.au.length s.x.c2) ∧ W.cell? ⟨g, o + k * 10 + 8, none⟩ = some (.slice s.x.A3 s.x.a.ex.length s.x.c3))
                      (first
                        | (exact ⟨x0, x1, x2, e4, e5, e6, e7, e8⟩)
                        | (exact ⟨hK5 _ _ _ HNf.out x0, hK5 _ _ _ HNf.out x1, hK5 _ _ _ HNf.out x2, hK5 _ _ _ HGf.out e4, hK5 _ _ _ HGf.out e5, hK5 _ _ _ HGf.out e6, hK5 _ _ _ HGf.out e7, hK5 _ _ _ HGf.out e8⟩)
                        | (go_keep; done))
                      (first
                        | (go_split_ands; go_at_call 13
                           refine (HP.out _ (Below.refl _ _).drew).mono ?_
                           rintro e W5 ⟨rfl, l5, hT5, hm5, hK5, _⟩))
                    rename_i hHeld
                    clear hHeld
                    have HL5 := Lib.hid (two_len2 hT5)
                    have HT5 := Lib.hid hT5
                    have hA6 : Hid (Ap q x.a T2 (k + 1) (l5.map Nd.e)) := by rw [hm5]; exact HA5.out
                    clear hT5 hm5 hK5 HA5 HP
                    go_wp2_with (go_at_call 19; refine HL5.out.mono ?_; rintro e w' ⟨⟨z, rfl, hz⟩, rfl⟩; have hz2 := hz1 z hz)
                    go_roundw
                    case rel => exact ⟨k + 1, T2, l5, rfl, by go_num, by omega, by omega, HT5.out, hA6.out⟩
                    case measure => simp [intOf]; omega
                  | false =>
                    have HGt := Lib.hid (two_getC HT4.out s.q HKv.out T2 ht5)
                    have HA5 := Lib.hid (hA4.get (x := s.q) hne)
                    unfold Kv.val at HGt
                    clear hA4 hne HNe
                    go_upto_region 19 with (go_at_call 17; refine HGt.out.mono ?_; rintro e W5 ⟨y, rfl, _, _, _, l5, hT5, hm5, _⟩)
                    have HL5 := Lib.hid (two_len2 hT5)
                    have HT5 := Lib.hid hT5
                    have hA6 : Hid (Ap q x.a T2 (k + 1) (l5.map Nd.e)) := by rw [hm5]; exact HA5.out
                    clear hT5 hm5 HA5 HGt
                    go_wp2_with (go_at_call 19; refine HL5.out.mono ?_; rintro e w' ⟨⟨z, rfl, hz⟩, rfl⟩; have hz2 := hz1 z hz)
                    go_roundw
                    case rel => exact ⟨k + 1, T2, l5, rfl, by go_num, by omega, by omega, HT5.out, hA6.out⟩
                    case measure => simp [intOf]; omega
            · obtain rfl : k = ss.length := by omega
              obtain ⟨u, hu, hu2⟩ := and1023 now
              obtain ⟨T2, hT2⟩ : ∃ T2 : Nat, T + u = T2 := ⟨_, rfl⟩
              have hwt : IntKind.i64.wrap ((T : Int) + (u : Int)) = (T2 : Int) := by rw [IntKind.wrap_i64]; omega
              have ht5 : T2 ≤ 100000 := by omega
              have hgc := (HAp.out.later (show T ≤ T2 by omega) (Nat.le_refl _)).tells
              have hgd := (HA7.out.later (Nat.zero_le T2) (Nat.le_refl _)).tells
              obtain ⟨G, hG⟩ : ∃ G, (if putOk q x.a = true ∧ T2 < life x.a * 10 then some (told T2 (apE q x.a)) else none) = G := ⟨_, rfl⟩
              have hGf : (G.getD za).few := by
                rw [← hG]
                split
                · exact few_told HFw2.out
                · exact za_few
              rw [hG] at hgc hgd
              have HGf := Lib.hid hGf
              have HGd := Lib.hid fun W l' (h : Two w W q x lo lo' cc lo dd lo' l' ld) => two_getD h q HKq.out T2 ht5
              have HGc := Lib.hid (two_getC HC.out q HKq.out T2 ht5)
              have HDl : Hid (∀ k ∈ dd :: lo' :: bs ld, k < wr.heap.size) := fun k hk => HC.out.sd.lt k (foot_bs k hk)
              rw [hgc] at HGc
              rw [hgd] at HGd
              unfold Kv.val at HGc HGd
              obtain ⟨k0, k1, k2, _⟩ := HC.out.cells
              rename_i hrest
              clear hrest hgc hgd hG hGf hT2 hu2 ht5 HAp HA7 hk hTk hlt
              obtain ⟨I, hI⟩ : ∃ I, G.isSome = I := ⟨_, rfl⟩
              rw [hI] at HGc HGd
              clear hI
              go_upto_region 23 with (go_at_call 17; refine HGc.out.mono ?_; rintro e W5 ⟨y, rfl, hyl, hya, hyw, l5, hT5, _, _⟩; have HYa := Lib.hid hya; clear hya; unfold Aw.val Aw.cells)
              obtain ⟨W6, hW6⟩ : ∃ W6, W6 = W5.alloc (.cells #[.int .u16 (y.a.rc : Int), .bool y.a.aa, .slice y.A1 y.a.an.length y.c1, .slice y.A2 y.a.au.length y.c2, .slice y.A3 y.a.ex.length y.c3] 38) := ⟨_, rfl⟩
              have hb6 : Below W5.heap.size W5 W6 := by rw [hW6]; exact (Below.refl _ _).alloc (Nat.le_refl _) _
              have HY6 : Hid (Has W6 W5.heap.size 38 #[.int .u16 (y.a.rc : Int), .bool y.a.aa, .slice y.A1 y.a.an.length y.c1, .slice y.A2 y.a.au.length y.c2, .slice y.A3 y.a.ex.length y.c3]) := by rw [hW6]; exact Has.fresh W5 _ _
              rw [← hW6]
              clear hW6
              have HT6 := Lib.hid (hT5.below hb6)
              have HYl := Lib.hid (hyl.below hb6)
              have HYw := Lib.hid (hyw _ HDl.out)
              have HYn : Hid (W5.heap.size ∉ dd :: lo' :: bs ld) := fun e => by have := hT5.sd.lt _ (foot_bs _ e); omega
              have HGd6 := Lib.hid (HGd.out W6 l5 HT6.out)
              obtain ⟨j0, j1, j2, _⟩ := HT6.out.cells
              rename_i hrest
              clear hrest hyl hyw hT5 hb6 HGd HGc HDl k0 k1 k2 HC
              go_upto_region 24 with (go_at_call 17; refine HGd6.out.mono ?_; rintro e W7 ⟨v, rfl, hvl, hva, l7, hT7, _, hc7⟩; have HVa := Lib.hid hva; clear hva; unfold Aw.val Aw.cells)
              obtain ⟨W8, hW8⟩ : ∃ W8, W8 = W7.alloc (.cells #[.int .u16 (v.a.rc : Int), .bool v.a.aa, .slice v.A1 v.a.an.length v.c1, .slice v.A2 v.a.au.length v.c2, .slice v.A3 v.a.ex.length v.c3] 38) := ⟨_, rfl⟩
              have hb8 : Below W7.heap.size W7 W8 := by rw [hW8]; exact (Below.refl _ _).alloc (Nat.le_refl _) _
              have HV8 : Hid (Has W8 W7.heap.size 38 #[.int .u16 (v.a.rc : Int), .bool v.a.aa, .slice v.A1 v.a.an.length v.c1, .slice v.A2 v.a.au.length v.c2, .slice v.A3 v.a.ex.length v.c3]) := by rw [hW8]; exact Has.fresh W7 _ _
              rw [← hW8]
              clear hW8
              have hy7 := hc7.has HY6.out HYn.out
              have hy8 := hy7.below hb8 hy7.lt
              have hyl8 := (HYl.out.tch hc7 HYw.out).below hb8
              have HSm := Lib.hid (sameA_any y v W8 hyl8 (hvl.below hb8) (HVa.out.trans HYa.out.symm) (by rw [HYa.out]; exact HGf.out))
              unfold Aw.val Aw.cells at HSm
              have HB8 := Lib.hid (hT7.below hb8).be
              obtain ⟨a0, a1, a2, a3, a4⟩ := a_cells hy8
              obtain ⟨b0, b1, b2, b3, b4⟩ := a_cells HV8.out
              clear hvl HVa hT7 hc7 hb8 hy7 hy8 hyl8 HY6 HV8 HYl HYw HYn HYa HGf HGd6 HT6 j0 j1 j2
              have HKs := Lib.hid fun W => keeps_any W
              cases I with
              | true =>
                go_wp2_with (first
                  | (go_at_call 11; refine (HKs.out _).mono ?_; rintro e W10 ⟨rfl, hb10⟩)
                  | (go_at_call 15; refine HSm.out.mono ?_; rintro e W9 ⟨rfl, hb9⟩))
                go_ret
                exact ⟨rfl, HB8.out.trans ((hb9.mono HB8.out.size).trans (hb10.mono (Nat.le_trans HB8.out.size hb9.size)))⟩
              | false =>
                go_wp2_with (first
                  | (go_at_call 11; refine (HKs.out _).mono ?_; rintro e W10 ⟨rfl, hb10⟩)
                  | (go_at_call 15; refine HSm.out.mono ?_; rintro e W9 ⟨rfl, hb9⟩))
                go_ret
                exact ⟨rfl, HB8.out.trans ((hb9.mono HB8.out.size).trans (hb10.mono (Nat.le_trans HB8.out.size hb9.size)))⟩
end Go.Proofs.Ytnhoaceickojeaa.Ca
