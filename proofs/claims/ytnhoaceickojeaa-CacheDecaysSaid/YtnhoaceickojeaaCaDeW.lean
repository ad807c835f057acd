/- CacheDecays: what is told is as it was put, and so many seconds older. For every input. -/
import Derived.Test.YtnhoaceickojeaaCaDeA
import Derived.Deep.LoopGhost
namespace Go.Proofs.Ytnhoaceickojeaa.Ca
open Go.RowKit

set_option maxHeartbeats 4000000 in
set_option maxRecDepth 100000 in
theorem walk_CacheDecays (w : World) (q : Kv) (hq : q.ty ≤ 65535 ∧ q.cl ≤ 65535) (hm : q.nm.size ≤ 140737488351232) (x : Aw) (hx : AOk x w) (_hm2 : ANear x) (at0 : Int) (_hn : (Lit.int .i64 at0).wf = true) (A : Option Addr) (ns : List Nat) (c : Nat) (hS : Srow ucl 1 w 0 w.heap.size A ns) (hF : ∀ n ∈ ns, n ≤ 4294967295) (hN : ns.length * 4 ≤ 140737488351232) :
    Calls Try.prog 4 #[q.val, x.val, .int .i64 at0, .slice A ns.length c] w fun e w' => e = .returned (.bool true) ∧ Below w.heap.size w w' := by
  obtain ⟨W2, hW2⟩ : ∃ W2, W2 = (w.alloc (.cells #[.string q.nm, .int .u16 (q.ty : Int), .int .u16 (q.cl : Int)] 35)).alloc (.cells x.cells 38) := ⟨_, rfl⟩
  have HQ2 : Hid (Has W2 w.heap.size 35 (kc q)) := by rw [hW2]; exact (Has.fresh w _ _).alloc _
  have HA2 : Hid (Has W2 (w.heap.size + 1) 38 x.cells) := by
    have h := Has.fresh (w.alloc (.cells #[.string q.nm, .int .u16 (q.ty : Int), .int .u16 (q.cl : Int)] 35)) 38 x.cells
    rw [World.size_alloc] at h
    rw [hW2]
    exact h
  have HZ2 : Hid (W2.heap.size = w.heap.size + 2) := by rw [hW2]; simp [Hid]
  have HB2 : Hid (Below w.heap.size w W2) := by rw [hW2]; exact ((Below.refl _ _).alloc (Nat.le_refl _) _).alloc (by simp) _
  have HKq : Hid (KvOk q) := ⟨by omega, hq.1, hq.2⟩
  have hx2 := hx.lies.below HB2.out
  have HXl := Lib.hid hx.lies
  have HXr := Lib.hid hx.rc
  have HS := Lib.hid hS
  have HF := Lib.hid hF
  have HX2 := Lib.hid hx2
  obtain ⟨a0, a1, a2, a3, a4⟩ := a_cells (show Has W2 (w.heap.size + 1) 38 #[.int .u16 (x.a.rc : Int), .bool x.a.aa, .slice x.A1 x.a.an.length x.c1, .slice x.A2 x.a.au.length x.c2, .slice x.A3 x.a.ex.length x.c3] from HA2.out)
  obtain ⟨q0, q1, q2⟩ := q_cells (show Has W2 w.heap.size 35 #[.string q.nm, .int .u16 (q.ty : Int), .int .u16 (q.cl : Int)] from HQ2.out)
  clear hS hF hx hx2 hq
  unfold Kv.val Aw.val
  go_enter Try.func4, Try.ntmps4
  go_upto_region 1 with (fail)
  unfold Aw.cells at hW2 ⊢
  rw [← hW2]
  clear hW2
  have HLg := Lib.hid (large_any x W2 HX2.out)
  unfold Aw.val Aw.cells at HLg
  cases hlg : largeB x.a with
  | true =>
    rw [hlg] at HLg
    clear hlg
    go_wp2_with (go_at_call 23; refine HLg.out.mono ?_; rintro e w3 ⟨rfl, hb3⟩)
    go_ret
    exact ⟨rfl, HB2.out.trans (hb3.mono HB2.out.size)⟩
  | false =>
    rw [hlg] at HLg
    have HFw := Lib.hid (large_few hlg)
    clear hlg
    by_cases h20 : 2000 < q.nm.size
    · have d2 : decide ((2000 : Int) < (q.nm.size : Int)) = true := decide_eq_true (by omega)
      clear h20
      go_wp2_with (go_at_call 23; refine HLg.out.mono ?_; rintro e w3 ⟨rfl, hb3⟩; have j0 := keep_cell hb3 q0)
      go_ret
      exact ⟨rfl, HB2.out.trans (hb3.mono HB2.out.size)⟩
    · have d2 : decide ((2000 : Int) < (q.nm.size : Int)) = false := decide_eq_false (by omega)
      clear h20
      by_cases h40 : 40 < ns.length
      · have d1 : decide ((40 : Int) < (ns.length : Int)) = true := decide_eq_true (by omega)
        clear h40
        go_wp2_with (go_at_call 23; refine HLg.out.mono ?_; rintro e w3 ⟨rfl, hb3⟩; have j0 := keep_cell hb3 q0)
        go_ret
        exact ⟨rfl, HB2.out.trans (hb3.mono HB2.out.size)⟩
      · have d1 : decide ((40 : Int) < (ns.length : Int)) = false := decide_eq_false (by omega)
        obtain ⟨t, ht, ht2⟩ := and40 at0
        go_upto_region 4 with (go_at_call 23; refine HLg.out.mono ?_; rintro e w3 ⟨rfl, hb3⟩; have j0 := keep_cell hb3 q0)
        have hz3 : w.heap.size + 2 ≤ w3.heap.size := by have := hb3.size; have := HZ2.out; omega
        have hq3 := HQ2.out.below hb3 HQ2.out.lt
        have ha3 := HA2.out.below hb3 HA2.out.lt
        have hb3w := HB2.out.trans (hb3.mono HB2.out.size)
        have HT5 := Lib.hid fun W4 (s1 : St W4 w3.heap.size (w3.heap.size + 1) w3.heap.size 3 []) (b1 : Below w3.heap.size w3 W4) => (show One w W4 q x w3.heap.size (w3.heap.size + 1) w3.heap.size [] from ⟨s1, hq3.below b1 hq3.lt, ha3.below b1 ha3.lt, hz3, hb3w.trans (b1.mono hb3w.size)⟩)
        clear j0 a0 a1 a2 a3 a4 q0 q1 q2 hb3 HLg HB2 HA2 HQ2 HX2 d1 d2 hz3 HZ2 hq3 ha3 hb3w ht
        have HN3 := Lib.hid (new3 w3)
        go_upto_region 7 with (go_at_call 9; refine HN3.out.mono ?_; rintro e w4 ⟨rfl, hs4, hb4, hz4⟩)
        have HT := Lib.hid (HT5.out w4 hs4 hb4)
        clear HN3 HT5 hs4 hb4 hz4
        obtain ⟨lo, hlo⟩ : ∃ lo, w3.heap.size = lo := ⟨_, rfl⟩
        rw [hlo] at HT ⊢
        clear hlo w3 W2
        obtain ⟨cc, hcc⟩ : ∃ cc, lo + 1 = cc := ⟨_, rfl⟩
        rw [hcc] at HT ⊢
        clear hcc
        have HPt := Lib.hid (one_put HT.out HKq.out HXl.out HFw.out t (by omega))
        obtain ⟨k0, k1, k2, k3, k4, k5, k6, k7⟩ := HT.out.cells
        unfold Kv.val Aw.val Aw.cells at HPt
        cases hok : putOk q x.a with
        | false =>
          rw [hok] at HPt
          clear hok
          go_upto_region 8 with (go_at_call 13; refine HPt.out.mono ?_; rintro e w5 ⟨rfl, l5, hT5, hl5⟩)
          have hl5' : l5.map Nd.e = [] := hl5
          have HGt := Lib.hid (one_get hT5 HKq.out t (by omega))
          rw [hl5'] at HGt
          obtain ⟨j0, j1, j2, _⟩ := hT5.cells
          rename_i hrest
          unfold Kv.val at HGt
          clear hl5 hl5' hT5 hrest HPt k0 k1 k2 k3 k4 k5 k6 k7
          have hg0 : (getA t q []).isSome = false := rfl
          have hg1 : getR t q [] = [] := rfl
          rw [hg0, hg1] at HGt
          clear hg0 hg1
          go_upto_region 9 with (go_at_call 17; refine HGt.out.mono ?_; rintro e w6 ⟨y, rfl, hyl, hya, l6, hT6, hm6⟩; clear hyl hya; unfold Aw.val Aw.cells)
          obtain ⟨W7, hW7⟩ : ∃ W7, W7 = w6.alloc (.cells #[.int .u16 (y.a.rc : Int), .bool y.a.aa, .slice y.A1 y.a.an.length y.c1, .slice y.A2 y.a.au.length y.c2, .slice y.A3 y.a.ex.length y.c3] 38) := ⟨_, rfl⟩
          have hT7 := hT6.below (show Below w6.heap.size w6 W7 by rw [hW7]; exact (Below.refl _ _).alloc (Nat.le_refl _) _)
          have HL7 := Lib.hid (one_len hT7)
          have hl6 : l6.length = 0 := by have := congrArg List.length hm6; simpa using this
          rw [hl6] at HL7
          have HB7 := Lib.hid hT7.be
          have HKs := Lib.hid fun W => keeps_any W
          rw [← hW7]
          clear hW7 hT6 hm6 hl6 hT7 HGt
          go_wp2_with (first
            | (go_at_call 19; refine HL7.out.mono ?_; rintro e w' ⟨rfl, rfl⟩)
            | (go_at_call 11; refine (HKs.out _).mono ?_; rintro e W10 ⟨rfl, hb10⟩))
          go_ret
          exact ⟨rfl, HB7.out.trans (hb10.mono HB7.out.size)⟩
        | true =>
          rw [hok] at HPt
          have hrc := ok_rc hok
          have HOk := Lib.hid hok
          clear hok
          go_upto_region 10 with (go_at_call 13; refine HPt.out.mono ?_; rintro e w5 ⟨rfl, l5, hT5, hl5⟩)
          have HD5 : Hid (De q x.a t (l5.map Nd.e) false) := .inr ⟨hl5, rfl, HOk.out⟩
          have HT5 := Lib.hid hT5
          obtain ⟨j0, j1, j2, j3, j4, j5, j6, j7⟩ := hT5.cells
          clear hl5 hT5 HPt k0 k1 k2 k3 k4 k5 k6 k7 HT
          obtain ⟨NEG, hNEG⟩ : ∃ B, (decide (x.a.rc = 3) || decide (x.a.an.length = 0)) = B := ⟨_, rfl⟩
          have hneg : NEG = true → x.a.rc = 3 ∨ x.a.an.length = 0 := fun h => by rw [h] at hNEG; simpa using hNEG
          have HNg := Lib.hid hneg
          have hcs : (x.a.rc = 3 ∧ NEG = true) ∨ (x.a.rc = 0 ∧ x.a.an.length = 0 ∧ NEG = true) ∨ (x.a.rc = 0 ∧ x.a.an.length ≠ 0 ∧ NEG = false) := by
            rcases hrc with h | h
            · by_cases hl : x.a.an.length = 0
              · exact .inr (.inl ⟨h, hl, by rw [← hNEG, hl]; simp⟩)
              · exact .inr (.inr ⟨h, hl, by rw [← hNEG, h, decide_eq_false hl]; rfl⟩)
            · exact .inl ⟨h, by rw [← hNEG, h]; rfl⟩
          clear hneg hNEG
          have HRc := Lib.hid hrc
          have HCs := Lib.hid hcs
          clear hrc hcs
          go_cut [79] from 72 to 212 (fun s79 wx => s79 = .bool false ∧ wx = w5)
          case first =>
            rcases HRc.out with h | h
            · have b0 : ((x.a.rc : Int) == 0) = true := by rw [h]; rfl
              have c0 : ((x.a.rc : Int) != 0) = false := by rw [h]; rfl
              clear h
              go_wp2
              go_meet
              case rel => exact ⟨rfl, rfl⟩
            · have b0 : ((x.a.rc : Int) == 0) = false := by rw [h]; rfl
              have b3 : ((x.a.rc : Int) == 3) = true := by rw [h]; rfl
              have c0 : ((x.a.rc : Int) != 0) = true := by rw [h]; rfl
              have c3 : ((x.a.rc : Int) != 3) = false := by rw [h]; rfl
              clear h
              go_wp2
              go_meet
              case rel => exact ⟨rfl, rfl⟩
          case rest =>
            obtain ⟨rfl, rfl⟩ := hcut
            go_upto_region 12 with (fail)
            go_cut [13] from 80 to 212 (fun s13 wx => s13 = .bool NEG ∧ wx = wc)
            case first =>
              rcases HCs.out with ⟨h, rfl⟩ | ⟨h, hl, rfl⟩ | ⟨h, hl, rfl⟩
              · have b3 : ((x.a.rc : Int) == 3) = true := by rw [h]; rfl
                clear h
                go_wp2
                go_meet
                case rel => exact ⟨rfl, rfl⟩
              · have b3 : ((x.a.rc : Int) == 3) = false := by rw [h]; rfl
                have bl : ((x.a.an.length : Int) == 0) = true := by rw [hl]; rfl
                clear h hl
                go_wp2
                go_meet
                case rel => exact ⟨rfl, rfl⟩
              · have b3 : ((x.a.rc : Int) == 3) = false := by rw [h]; rfl
                have bl : ((x.a.an.length : Int) == 0) = false := beq_eq_false_iff_ne.2 (by omega)
                clear h hl
                go_wp2
                go_meet
                case rel => exact ⟨rfl, rfl⟩
            case rest =>
              obtain ⟨rfl, rfl⟩ := hcut
              clear HCs HRc j0 j1 j2 j3 j4 j5 j6 j7
              go_wp2
              go_loopw [14, 15, 16] (fun s14 s15 s16 wr => ∃ (k T : Nat) (gone : Bool) (l : List Nd), s14 = .bool gone ∧ s15 = .int .i64 T ∧ s16 = .int .i64 k ∧ k ≤ ns.length ∧ t ≤ T ∧ T ≤ t + k * 4294967295 ∧ Hid (One w wr q x lo cc lo l) ∧ Hid (De q x.a t (l.map Nd.e) gone)) (fun _ _ s16 _ => ns.length - (intOf s16).toNat)
              case atStart => exact ⟨0, t, false, l5, rfl, rfl, rfl, by omega, by omega, by omega, HT5.out, HD5.out⟩
              case round =>
                obtain ⟨k, T, gone, l, rfl, rfl, rfl, hk, hT1, hT2, HC, HDe⟩ := hrel
                by_cases hlt : k < ns.length
                · obtain ⟨g, o, rfl, _, hg, hc⟩ := HS.out.at_ hlt
                  have hn := HF.out _ (List.getElem_mem hlt)
                  have e0 : wr.cell? ⟨g, o + k * 1, none⟩ = some (.int .u32 (ns[k] : Int)) := (range_below HC.out.be hg hc) 0 _ rfl
                  rw [Nat.mul_one] at e0
                  clear hg hc
                  generalize ns[k] = n at *
                  obtain ⟨T2, hT2e⟩ : ∃ T2 : Nat, T + n = T2 := ⟨_, rfl⟩
                  have hwc : IntKind.i64.wrap (n : Int) = (n : Int) := by rw [IntKind.wrap_i64]; omega
                  have hwt : IntKind.i64.wrap ((T : Int) + (n : Int)) = (T2 : Int) := by rw [IntKind.wrap_i64]; omega
                  have ht2 : t ≤ T2 ∧ T2 ≤ 10000000000000 := by omega
                  have ht3 : T2 ≤ t + (k + 1) * 4294967295 := by omega
                  have HGt := Lib.hid (one_get HC.out HKq.out T2 ht2.2)
                  obtain ⟨k0, k1, k2, _⟩ := HC.out.cells
                  rename_i hrest
                  clear hrest hT1 hT2 hT2e hn
                  obtain ⟨AG, hAG⟩ : ∃ G : Nat, (T2 - t) / 10 = G := ⟨_, rfl⟩
                  obtain ⟨DF, hDF⟩ : ∃ G : Nat, T2 - t = G := ⟨_, rfl⟩
                  have hws : IntKind.i64.wrap ((T2 : Int) - (t : Int)) = (DF : Int) := by rw [IntKind.wrap_i64]; omega
                  have hqt : Int.tdiv (DF : Int) 10 = (AG : Int) := by
                    rw [← hAG, hDF]
                    rw [Int.tdiv_eq_ediv_of_nonneg (by omega)]
                    omega
                  have hqw : IntKind.i64.wrap (AG : Int) = (AG : Int) := by rw [IntKind.wrap_i64]; omega
                  unfold Kv.val at HGt
                  rcases de_get (now := T2) HDe.out with ⟨hg1, hd1⟩ | ⟨hg1, hd1, hgf, hok2, hlt2⟩
                  · have hi : (getA T2 q (l.map Nd.e)).isSome = false := by rw [hg1]; rfl
                    rw [hi] at HGt
                    have HD1 := Lib.hid hd1
                    clear hd1 hg1 hi
                    go_upto_region 20 with (go_at_call 17; refine HGt.out.mono ?_; rintro e w6 ⟨y, rfl, hyl, hya, l6, hT6, hm6⟩; clear hyl hya; unfold Aw.val Aw.cells)
                    obtain ⟨W7, hW7⟩ : ∃ W7, W7 = w6.alloc (.cells #[.int .u16 (y.a.rc : Int), .bool y.a.aa, .slice y.A1 y.a.an.length y.c1, .slice y.A2 y.a.au.length y.c2, .slice y.A3 y.a.ex.length y.c3] 38) := ⟨_, rfl⟩
                    have HT7 := Lib.hid (hT6.below (show Below w6.heap.size w6 W7 by rw [hW7]; exact (Below.refl _ _).alloc (Nat.le_refl _) _))
                    rw [← hW7]
                    clear hW7 hT6
                    rw [← hm6] at HD1
                    clear HGt k0 k1 k2 e0
                    go_cut [113] from 110 to 198 (fun s113 wx => s113 = .bool false ∧ wx = W7)
                    case first =>
                      cases gone with
                      | true =>
                        go_wp2
                        go_meet
                        case rel => exact ⟨rfl, rfl⟩
                      | false =>
                        go_wp2
                        go_meet
                        case rel => exact ⟨rfl, rfl⟩
                    case rest =>
                      obtain ⟨rfl, rfl⟩ := hcut
                      go_wp2
                      go_roundw
                      case rel => exact ⟨k + 1, T2, true, l6, rfl, rfl, by go_num, by omega, ht2.1, ht3, HT7.out, HD1.out⟩
                      case measure => simp [intOf]; omega
                  · subst hgf
                    clear HGt
                    have HGt := Lib.hid (one_told HC.out HKq.out ht2.2 hg1)
                    have hal : AG < life x.a := by rw [← hAG]; omega
                    have hlf := life_le x.a
                    have HD1 := Lib.hid hd1
                    have HNf : Hid (NEG = true → (x.a.au.any fun r => decide (r.ty = 6) && decide (AG < r.d.n4)) = true) := fun h => neg_found hal (HNg.out h)
                    rw [hAG] at HGt
                    unfold Kv.val at HGt
                    clear hd1 hg1 hok2 hlt2
                    go_upto_region 20 with (go_at_call 17; refine HGt.out.mono ?_; rintro e w6 ⟨Y1, d1, Y2, d2, Y3, d3, rfl, hrows, l6, hT6, hm6⟩)
                    obtain ⟨W7, hW7⟩ : ∃ W7, W7 = w6.alloc (.cells #[.int .u16 (x.a.rc : Int), .bool false, .slice Y1 x.a.an.length d1, .slice Y2 x.a.au.length d2, .slice Y3 x.a.ex.length d3] 38) := ⟨_, rfl⟩
                    have hb7 : Below w6.heap.size w6 W7 := by rw [hW7]; exact (Below.refl _ _).alloc (Nat.le_refl _) _
                    have HY7 : Hid (Has W7 w6.heap.size 38 #[.int .u16 (x.a.rc : Int), .bool false, .slice Y1 x.a.an.length d1, .slice Y2 x.a.au.length d2, .slice Y3 x.a.ex.length d3]) := by rw [hW7]; exact Has.fresh w6 _ _
                    have HT7 := Lib.hid (hT6.below hb7)
                    rw [← hW7]
                    obtain ⟨r1, r2, r3⟩ := hrows
                    obtain ⟨o1, o2, o3⟩ := olders (d1 := d1) (d2 := d2) (d3 := d3) HXl.out HT7.out.be HFw.out hal ((r1.keep hb7).more (Nat.le_refl _) hb7.size) ((r2.keep hb7).more (Nat.le_refl _) hb7.size) ((r3.keep hb7).more (Nat.le_refl _) hb7.size)
                    have HO1 := Lib.hid o1
                    have HO2 := Lib.hid o2
                    have HO3 := Lib.hid o3
                    rw [← hm6] at HD1
                    obtain ⟨y0, y1, y2, y3, y4⟩ := a_cells HY7.out
                    obtain ⟨_, _, _, j3, j4, j5, j6, j7⟩ := HT7.out.cells
                    clear hW7 hT6 r1 r2 r3 o1 o2 o3 HGt k0 k1 k2 e0 hb7
                    have hau : IntKind.u32.wrap (AG : Int) = (AG : Int) := by rw [IntKind.wrap_u32]; omega
                    have hge : decide ((4294967296 : Int) ≤ (AG : Int)) = false := decide_eq_false (by omega)
                    clear hal hlf
                    go_upto_region 25 with (fail)
                    go_upto_region 27 with (first
                      | (go_at_call 24; refine (HO3.out _ (hb8.trans (hb9.mono hb8.size))).mono ?_; rintro e W10 ⟨rfl, hb10⟩)
                      | (go_at_call 24; refine (HO2.out _ hb8).mono ?_; rintro e W9 ⟨rfl, hb9⟩; have p4 := keep_cell hb9 n4; have q4 := keep_cell hb9 m4)
                      | (go_at_call 24; refine (HO1.out _ (Below.refl _ _)).mono ?_; rintro e W8 ⟨rfl, hb8⟩; have n3 := keep_cell hb8 y3; have n4 := keep_cell hb8 y4; have m3 := keep_cell hb8 j6; have m4 := keep_cell hb8 j7))
                    have hbA := hb8.trans ((hb9.trans (hb10.mono hb9.size)).mono hb8.size)
                    have HTA := Lib.hid (HT7.out.below hbA)
                    clear hbA hb8 hb9 hb10 y0 y1 y2 y3 y4 j3 j4 j5 j6 j7 n3 n4 m3 m4 p4 q4 HO1 HO2 HO3 HY7 HT7 hge
                    cases NEG with
                    | false =>
                      go_wp2
                      go_roundw
                      case rel => exact ⟨k + 1, T2, false, l6, rfl, rfl, by go_num, by omega, ht2.1, ht3, HTA.out, HD1.out⟩
                      case measure => simp [intOf]; omega
                    | true =>
                      have HFd := Lib.hid (HNf.out rfl)
                      obtain ⟨_, _, _, _, _, _, z6, _⟩ := HTA.out.cells
                      have hlen := HFw.out.l2
                      have HRows := Lib.hid (HXl.out.below HTA.out.be).s2
                      clear HNf
                      go_wp2
                      go_loop [20, 21] (fun s20 s21 => ∃ (j : Nat) (fd : Bool), s20 = .bool fd ∧ s21 = .int .i64 j ∧ j ≤ x.a.au.length ∧ Hid ((fd || ((x.a.au.drop j).any fun r => decide (r.ty = 6) && decide (AG < r.d.n4))) = true)) (fun _ s21 => x.a.au.length - (intOf s21).toNat)
                      case atStart => exact ⟨0, false, rfl, rfl, by omega, HFd.out⟩
                      case round =>
                        obtain ⟨j, fd, rfl, rfl, hj, HJ⟩ := hrel
                        by_cases hjl : j < x.a.au.length
                        · obtain ⟨g', o', hA', _, _, hcr⟩ := HRows.out.at_ hjl
                          have hst := HJ.out
                          rw [List.drop_eq_getElem_cons hjl, List.any_cons] at hst
                          have v1 : W10.cell? ⟨g', o' + j * 12 + 1, none⟩ = some (.int .u16 (x.a.au[j].ty : Int)) := hcr 1 _ rfl
                          have v2 : W10.cell? ⟨g', o' + j * 12 + 11, none⟩ = some (.int .u32 (x.a.au[j].d.n4 : Int)) := hcr 11 _ rfl
                          have v3 : W10.cell? ⟨w.heap.size + 1, 3, none⟩ = some (.slice (some ⟨g', o', none⟩) x.a.au.length x.c2) := by rw [← hA']; exact z6
                          clear hcr hA'
                          generalize x.a.au[j] = r at *
                          obtain ⟨n4, hn4⟩ : ∃ n, r.d.n4 = n := ⟨_, rfl⟩
                          obtain ⟨ty, hty⟩ : ∃ n, r.ty = n := ⟨_, rfl⟩
                          rw [hn4] at hst v2
                          rw [hty] at hst v1
                          clear hn4 hty
                          generalize x.a.au.length = N at *
                          cases fd with
                          | true =>
                            clear hst v1 v2 z6
                            go_wp2
                            go_round
                            case rel => exact ⟨j + 1, true, rfl, by go_num, by omega, rfl⟩
                            case measure => simp [intOf]; omega
                          | false =>
                            by_cases h6 : ty = 6
                            · have bt : ((ty : Int) == 6) = true := by rw [h6]; rfl
                              by_cases hag : AG < n4
                              · have bl : decide (AG < n4) = true := decide_eq_true hag
                                clear hst h6 hag z6
                                go_wp2
                                go_round
                                case rel => exact ⟨j + 1, true, rfl, by go_num, by omega, rfl⟩
                                case measure => simp [intOf]; omega
                              · have bl : decide (AG < n4) = false := decide_eq_false hag
                                have hst2 := hst
                                rw [bl, Bool.and_false, Bool.false_or] at hst2
                                have HST := Lib.hid hst2
                                clear hst hst2 h6 hag z6
                                go_wp2
                                go_round
                                case rel => exact ⟨j + 1, false, rfl, by go_num, by omega, HST.out⟩
                                case measure => simp [intOf]; omega
                            · have bt : ((ty : Int) == 6) = false := beq_eq_false_iff_ne.2 (by omega)
                              rw [decide_eq_false h6, Bool.false_and, Bool.false_or] at hst
                              have HST := Lib.hid hst
                              clear hst h6 z6 v2
                              go_wp2
                              go_round
                              case rel => exact ⟨j + 1, false, rfl, by go_num, by omega, HST.out⟩
                              case measure => simp [intOf]; omega
                        · obtain rfl : j = x.a.au.length := by omega
                          have hfd : fd = true := by have h := HJ.out; rw [List.drop_length] at h; simpa using h
                          subst hfd
                          go_wp2
                          go_roundw
                          case rel => exact ⟨k + 1, T2, false, l6, rfl, rfl, by go_num, by omega, ht2.1, ht3, HTA.out, HD1.out⟩
                          case measure => simp [intOf]; omega
                · obtain rfl : k = ns.length := by omega
                  obtain ⟨TE, hTE⟩ : ∃ T : Nat, t + 21474836480 = T := ⟨_, rfl⟩
                  have hwt : IntKind.i64.wrap ((t : Int) + 21474836480) = (TE : Int) := by rw [IntKind.wrap_i64]; omega
                  have HGt := Lib.hid (one_get HC.out HKq.out TE (by omega))
                  have hno : (getA TE q (l.map Nd.e)).isSome = false := by
                    rcases de_get (now := TE) HDe.out with ⟨h, _⟩ | ⟨_, _, _, _, h⟩
                    · rw [h]; rfl
                    · have := life_le x.a; omega
                  rw [hno] at HGt
                  obtain ⟨k0, k1, k2, _⟩ := HC.out.cells
                  rename_i hrest
                  unfold Kv.val at HGt
                  clear hrest hno hTE hT1 hT2
                  go_upto_region 36 with (go_at_call 17; refine HGt.out.mono ?_; rintro e w6 ⟨y, rfl, hyl, hya, l6, hT6, hm6⟩; clear hyl hya hm6; unfold Aw.val Aw.cells)
                  obtain ⟨W7, hW7⟩ : ∃ W7, W7 = w6.alloc (.cells #[.int .u16 (y.a.rc : Int), .bool y.a.aa, .slice y.A1 y.a.an.length y.c1, .slice y.A2 y.a.au.length y.c2, .slice y.A3 y.a.ex.length y.c3] 38) := ⟨_, rfl⟩
                  have HB7 := Lib.hid (hT6.below (show Below w6.heap.size w6 W7 by rw [hW7]; exact (Below.refl _ _).alloc (Nat.le_refl _) _)).be
                  rw [← hW7]
                  have HKs := Lib.hid fun W => keeps_any W
                  clear hW7 hT6 HGt k0 k1 k2
                  go_wp2_with (go_at_call 11; refine (HKs.out _).mono ?_; rintro e W10 ⟨rfl, hb10⟩)
                  go_ret
                  exact ⟨rfl, HB7.out.trans (hb10.mono HB7.out.size)⟩
end Go.Proofs.Ytnhoaceickojeaa.Ca
