/- CacheRoom: there are never more entries than there is room for; what was put or told last is kept; a key stands once. For every input. -/
import Derived.Test.YtnhoaceickojeaaCaF
import Derived.Test.YtnhoaceickojeaaFold
import Derived.Deep.LoopGhost
namespace Go.Proofs.Ytnhoaceickojeaa.Ca
open Go.RowKit

theorem room_own {w : World} {b g i : Nat} {v : Value} {xs : List Kv} {u : Value} (h : Own kcl 3 w b 35 v xs) (hs : ∀ q, v.ownBlock = some q → q ≠ g) : Own kcl 3 (w.setCell ⟨g, i, none⟩ u) b 35 v xs := by
  refine ⟨h.1, ?_⟩
  rcases h.2 with h0 | ⟨q, cap, cur, rfl, hb, hg, rest⟩
  · exact .inl h0
  · exact .inr ⟨q, cap, cur, rfl, hb, (heap_setCell_other w ⟨g, i, none⟩ q u (hs q rfl)).trans hg, rest⟩
theorem room_dn (w : World) (n : Nat) : Tch [] w (w.drewN n) := Tch.of_below (below_drewN (Below.refl _ _) n)
set_option maxHeartbeats 4000000 in
set_option maxRecDepth 100000 in
theorem walk_CacheRoom (w : World) (entries : Int) (_hn : (Lit.int .i64 entries).wf = true) (A : Option Addr) (ss : List Stv) (c : Nat) (hS : Srow stcl 10 w 0 w.heap.size A ss) (hF : ∀ s ∈ ss, SOk w s) (hN : ss.length * 80 ≤ 140737488351232 ∧ ∀ s ∈ ss, SNear s) :
    Calls Try.prog 6 #[.int .i64 entries, .slice A ss.length c] w fun e w' => e = .returned (.bool true) ∧ Below w.heap.size w w' := by
  have HHv := Lib.hid (heavy_any ss A c w hS (fun s hs => (hF s hs).ans.lies) (by omega))
  have hi10 : (Try.prog.info? 40).map (·.size) = some 10 := by kernel_rfl
  have HI := Lib.hid hi10
  have HS := Lib.hid hS
  have HF := Lib.hid hF
  clear hS hF hN hi10
  cases hhv : heavyB ss with
  | true =>
    rw [hhv] at HHv
    clear hhv
    go_enter Try.func6, Try.ntmps6
    go_wp2_with (go_at_call 8; refine HHv.out.mono ?_; rintro e w1 ⟨rfl, hb1⟩)
    go_ret
    exact ⟨rfl, hb1⟩
  | false =>
    rw [hhv] at HHv
    obtain ⟨h150, hfw⟩ := heavy_few hhv
    have HFw := Lib.hid hfw
    clear hhv hfw
    have hu0 : 0 ≤ IntKind.u64.wrap entries ∧ IntKind.u64.wrap entries < 18446744073709551616 := by rw [IntKind.wrap_u64]; omega
    obtain ⟨U, hU⟩ : ∃ U, IntKind.u64.wrap entries = U := ⟨_, rfl⟩
    rw [hU] at hu0
    obtain ⟨hu1, hu2⟩ := hu0
    obtain ⟨N, hN⟩ : ∃ N : Nat, (N : Int) = 1 + U % 5 := ⟨(1 + U % 5).toNat, by omega⟩
    have hN5 : 1 ≤ N ∧ N ≤ 5 := by omega
    go_enter Try.func6, Try.ntmps6
    go_upto_region 4 with (go_at_call 8; refine HHv.out.mono ?_; rintro e w1 ⟨rfl, hb1⟩)
    rw [← hN]
    have HNw := Lib.hid (St.new N (by unfold newOk; simp; omega) w1)
    have HB1 := Lib.hid hb1
    clear hb1 HHv hU hN
    go_upto_region 8 with (go_at_call 9; refine HNw.out.mono ?_; rintro e w2 ⟨rfl, hst, hb2, hs2⟩; have HSt := Lib.hid hst; have HB2 := Lib.hid (HB1.out.trans (hb2.mono HB1.out.size)); clear hst hb2 hs2)
    obtain ⟨lo, hlo⟩ : ∃ lo, w1.heap.size = lo := ⟨_, rfl⟩
    have hwl : w.heap.size ≤ lo := by rw [← hlo]; exact HB1.out.size
    rw [hlo] at HSt ⊢
    have HLo := Lib.hid hwl
    clear HNw HB1 hlo hwl
    obtain ⟨cc, hcc⟩ : ∃ cc, lo + 1 = cc := ⟨_, rfl⟩
    rw [hcc] at HSt ⊢
    clear hcc
    go_loopw [8] (fun i wr => ∃ (k : Nat) (l : List Nd), i = .int .i64 k ∧ k ≤ ss.length ∧ Hid (St wr lo cc lo N l) ∧ Hid (Below w.heap.size w wr)) (fun i _ => ss.length - (intOf i).toNat)
    case atStart => exact ⟨0, [], rfl, by omega, HSt.out, HB2.out⟩
    case round =>
      obtain ⟨k, l, rfl, hk, HC, HB⟩ := hrel
      by_cases hlt : k < ss.length
      · obtain ⟨g, o, rfl, _, hg, hc⟩ := HS.out.at_ hlt
        have hc2 := Lib.hid (range_below HB.out hg hc)
        have hok := HF.out _ (List.getElem_mem hlt)
        have hfw := HFw.out _ (List.getElem_mem hlt)
        have HKv : Hid (KvOk ss[k].q) := ⟨by have := hfw.2; omega, hok.ty, hok.cl⟩
        have HLi := Lib.hid hok.ans.lies
        have HFe := Lib.hid hfw.1
        clear hc hg hok hfw
        generalize ss[k] = s at *
        obtain ⟨wo, hwo⟩ : ∃ z, z = wr := ⟨_, rfl⟩
        subst hwo
        have hzz := HB.out.size
        go_upto_if 43 with (first
          | (refine wpList_load_mid rfl 40 (.tmp 40) rfl g _ rfl (stcl s) _ hc2.out Try.underlying40 rfl HI.out ?_)
          | (refine wpList_store_boxed rfl 40 (.tmp 9) (.tmp 41) rfl 40 _ (stcl s).toArray rfl rfl HI.out rfl (stcl_one s) ?_; intro w3 hY g3 hs3; obtain ⟨b0, b1, b2, b3, b4, b5, b6, b7, b8, b9⟩ := step_size w3 s hY; have HY := Lib.hid hY; have HG3 := Lib.hid g3; have HS3 := Lib.hid hs3; clear hY g3 hs3))
        have h3 : St w3 lo cc lo N l := HC.out.tch (S := []) (Tch.of_grown HG3.out (fun k e => by cases e)) (by simp)
        have hB3 : Below w.heap.size w w3 := HB.out.grown HG3.out HB.out.size (fun k e => by cases e)
        have hfar : wo.heap.size ∉ foot cc lo l := fun e => by have := HC.out.lt _ e; omega
        have hpu := room_put h3 HLo.out s HLi.out rfl hB3 HKv.out HFe.out
        have hge := room_get h3 s HKv.out
        unfold Kv.val at hpu hge
        unfold Aw.val Aw.cells at hpu
        have HPu := Lib.hid hpu
        have HGe := Lib.hid hge
        have H3 := Lib.hid h3
        have HB3 := Lib.hid hB3
        have HFar := Lib.hid hfar
        clear h3 hB3 hfar hpu hge HC HG3
        obtain ⟨pp, hpp⟩ : ∃ pp, s.put = pp := ⟨_, rfl⟩
        rw [hpp] at b0 ⊢
        clear hpp b0
        go_cut [10] from 32 to 116 (fun s10 wx => ∃ done, s10 = .bool done ∧ Hid (Did w3 wx lo cc lo N s.q l done))
        case first =>
          cases pp with
          | true =>
            go_wp2_with (go_at_call 13; refine HPu.out.mono ?_; rintro e w4 ⟨done, rfl, hd4⟩; have HD4 := Lib.hid hd4; clear hd4)
            go_meet
            case rel => exact ⟨done, rfl, HD4.out⟩
          | false =>
            go_wp2_with (go_at_call 17; refine HGe.out.mono ?_; rintro e w4 ⟨v, done, rfl, hd4⟩; have HD4 := Lib.hid hd4; clear hd4)
            go_meet
            case rel => exact ⟨done, rfl, HD4.out⟩
        case rest =>
          obtain ⟨done, rfl, HD⟩ := hcut
          obtain ⟨wd, hwd⟩ : ∃ z, z = wc := ⟨_, rfl⟩
          subst hwd
          obtain ⟨l2, hst2, hlast, hT2, hft2⟩ := HD.out.ex
          have hBc : Below w.heap.size w wd := HB3.out.trans (hT2.below (fun k hk => Nat.le_trans HLo.out (H3.out.low k (foot_bs k hk))) HB3.out.size)
          have hYc := hT2.has HY.out (fun e => HFar.out (foot_bs _ e))
          have hfc : wo.heap.size ∉ foot cc lo l2 := fun e => by
            rcases hft2 _ e with e | e
            · exact HFar.out e
            · have := HS3.out; omega
          obtain ⟨sn2, hC2, _⟩ := hst2.cm
          have hl2 := hst2.len
          have HKy := Lib.hid (keys_any hC2 (by omega))
          have HLn := Lib.hid (fun W hb => len_any (hC2.below (w' := W) hb))
          have HND := Lib.hid hst2.nodup
          have HLast := Lib.hid hlast
          have HSt2 := Lib.hid hst2
          have HBc := Lib.hid hBc
          have HYc := Lib.hid hYc
          have HFc := Lib.hid hfc
          have HFo := Lib.hid (fun W => refFold_any s.q.nm W HKv.out.1)
          clear hst2 hlast hT2 hft2 hBc hYc hfc hC2 HD HPu HGe H3 HB3 HFar b1 b2 b3 b4 b5 b6 b7 b8 b9 HY
          generalize wo.heap.size = b at *
          go_upto_region 16 with (go_at_call 21; refine HKy.out.mono ?_; rintro e w5 ⟨v, rfl, hO5, hb5⟩)
          obtain ⟨ad, cp, rfl, _⟩ := ownK_form hO5
          have hlk : (l2.map fun d => d.e.key).length = l2.length := List.length_map _
          rw [hlk] at hO5 ⊢
          obtain ⟨n, hn⟩ : ∃ n, l2.length = n := ⟨_, rfl⟩
          rw [hn] at hO5 HLn hl2 ⊢
          have HNn := Lib.hid hn
          have HL5 := Lib.hid (HLn.out w5 hb5)
          have HO5 := Lib.hid hO5
          have HB5 := Lib.hid hb5
          have hnN : decide (N < n) = false := decide_eq_false (by omega)
          have hY5 := HYc.out.below hb5 HYc.out.lt
          obtain ⟨b0, b1, b2, b3, _⟩ := step_size w5 s hY5
          have fb := hY5.free 1
          have HY5 := Lib.hid hY5
          clear hn hO5 hb5 hlk hY5 HKy HLn b0
          go_upto_region 19 with (first
            | (go_at_call 19; refine HL5.out.mono ?_; rintro e w' ⟨rfl, rfl⟩)
            | (go_at_call 25; refine (HFo.out _).mono ?_; rintro e w6 ⟨rfl, hb6⟩; have c1 := keep_cell hb6 b1; have c2 := keep_cell hb6 b2; have c3 := keep_cell hb6 b3; have f6 : w6.frozen? ⟨b, 1, none⟩ = false := (hb6.frozen (p := ⟨b, 1, none⟩) HY5.out.lt).trans fb; have HB6 := Lib.hid hb6; clear hb6))
          obtain ⟨fn, hfn⟩ : ∃ fn : ByteArray, (⟨(Nm.fold s.q.nm.data.toList).toArray⟩ : ByteArray) = fn := ⟨_, rfl⟩
          have hfk : foldK s.q = ⟨fn, s.q.ty, s.q.cl⟩ := by unfold foldK foldB; rw [hfn]
          rw [hfn]
          have d1 : (w6.setCell ⟨b, 1, none⟩ (.string fn)).cell? ⟨b, 1, none⟩ = some (.string fn) := cell_set_same _ c1
          have d2 : (w6.setCell ⟨b, 1, none⟩ (.string fn)).cell? ⟨b, 2, none⟩ = some (.int .u16 (s.q.ty : Int)) := (cell_set_off _ (by decide)).trans c2
          have d3 : (w6.setCell ⟨b, 1, none⟩ (.string fn)).cell? ⟨b, 3, none⟩ = some (.int .u16 (s.q.cl : Int)) := (cell_set_off _ (by decide)).trans c3
          have hblt := HYc.out.lt
          have hO7 : Own kcl 3 (w6.setCell ⟨b, 1, none⟩ (.string fn)) wd.heap.size 35 (.slice ad n cp) (l2.map fun d => d.e.key) := by
            refine room_own (own_below HO5.out HB6.out (Nat.le_refl _)) fun q hq e => ?_
            have := (World.ownsRow.lt HO5.out q hq).1
            have e2 : q = b := e
            omega
          have hB7 : Below w.heap.size w (w6.setCell ⟨b, 1, none⟩ (.string fn)) := ((HBc.out.trans (HB5.out.mono HBc.out.size)).trans (HB6.out.mono (Nat.le_trans HBc.out.size HB5.out.size))).setCell (p := ⟨b, 1, none⟩) hzz _
          have hst7 : St (w6.setCell ⟨b, 1, none⟩ (.string fn)) lo cc lo N l2 := ((HSt2.out.below HB5.out).below HB6.out).tch (Tch.set [b] _ ⟨b, 1, none⟩ _ (by simp)) (fun k hk e => by simp at e; subst e; exact HFc.out hk)
          obtain ⟨A7, c7, hv7, _, hS7⟩ := hO7.srow kcl_len
          injection hv7 with hv7 hn7 hc7
          subst hv7 hc7
          have HS7 := Lib.hid hS7
          have HB7 := Lib.hid hB7
          have HSt7 := Lib.hid hst7
          have HFk := Lib.hid hfk
          clear hfn hfk c1 c2 c3 f6 hblt hO7 hB7 hst7 hS7 hn7 HB6 HFo b1 b2 b3 fb HL5 HO5 HB5 HY5 HSt2 HBc HYc HFc
          generalize (w6.setCell ⟨b, 1, none⟩ (.string fn)) = W7 at *
          go_cut [96] from 32 to 116 (fun s96 wx => s96 = .bool false ∧ Hid (Tch [] W7 wx))
          case first =>
            cases done with
            | false =>
              clear HLast d1 d2 d3
              go_quiet (fail)
              go_wp2_with fail
              go_meet
              case rel => exact ⟨rfl, room_dn _ _⟩
            | true =>
              obtain ⟨P, y, hl, hky⟩ := HLast.out rfl
              obtain ⟨p, hp⟩ : ∃ p, P.length = p := ⟨_, rfl⟩
              have hnp : n = p + 1 := by rw [← HNn.out, hl, List.length_append, hp]; rfl
              have hpk : p < (l2.map fun d => d.e.key).length := by rw [List.length_map, HNn.out]; omega
              have hkp : (l2.map fun d => d.e.key)[p] = ⟨fn, s.q.ty, s.q.cl⟩ := by
                rw [← HFk.out, ← hky]
                subst hl hp
                simp
              obtain ⟨gg, oo, rfl, _, _, hcc⟩ := HS7.out.at_ hpk
              rw [hkp] at hcc
              have e0 : W7.cell? ⟨gg, oo + p * 3, none⟩ = some (.string fn) := hcc 0 _ rfl
              have e1 : W7.cell? ⟨gg, oo + p * 3 + 1, none⟩ = some (.int .u16 (s.q.ty : Int)) := hcc 1 _ rfl
              have e2 : W7.cell? ⟨gg, oo + p * 3 + 2, none⟩ = some (.int .u16 (s.q.cl : Int)) := hcc 2 _ rfl
              have hn0 : ((n : Int) == 0) = false := beq_eq_false_iff_ne.2 (by omega)
              have hwn : IntKind.i64.wrap ((n : Int) - 1) = (p : Int) := by rw [IntKind.wrap_i64]; omega
              have hp0 : (0 : Int) ≤ (p : Int) := by omega
              have hp1 : (p : Int) < (n : Int) := by omega
              have hqe := qRun_eq ⟨fn, s.q.ty, s.q.cl⟩
              unfold kc at hqe
              dsimp only at hqe
              clear hl hky hp hpk hkp hcc hnp
              go_quiet (fail)
              go_wp2_with fail
              go_meet
              case rel => exact ⟨rfl, room_dn _ _⟩
          case rest =>
            obtain ⟨rfl, HTc⟩ := hcut
            clear d1 d2 d3 HLast HFk hnN
            go_wp2
            go_loopw [12, 13] (fun s12 _ wj => ∃ j : Nat, s12 = .int .i64 j ∧ j ≤ n ∧ Hid (Tch [] W7 wj)) (fun s12 _ _ => n - (intOf s12).toNat)
            case atStart => exact ⟨0, rfl, by omega, HTc.out⟩
            case round =>
              obtain ⟨j, rfl, hj, HTj⟩ := hrel
              by_cases hjn : j < n
              · obtain ⟨wq, hwq⟩ : ∃ z, z = wr := ⟨_, rfl⟩
                subst hwq
                go_wp2
                go_loopw [13] (fun s13 wi => ∃ t : Nat, s13 = .int .i64 t ∧ t ≤ j ∧ Hid (Tch [] W7 wi)) (fun s13 _ => j - (intOf s13).toNat)
                case atStart => exact ⟨0, rfl, by omega, HTj.out⟩
                case round =>
                  obtain ⟨t, rfl, ht, HTt⟩ := hrel
                  by_cases htj : t < j
                  · have hjk : j < (l2.map fun d => d.e.key).length := by rw [List.length_map, HNn.out]; exact hjn
                    have htk : t < (l2.map fun d => d.e.key).length := by rw [List.length_map, HNn.out]; omega
                    have hne : (l2.map fun d => d.e.key)[j] ≠ (l2.map fun d => d.e.key)[t] := fun e => (List.pairwise_iff_getElem.1 HND.out) t j htk hjk htj e.symm
                    obtain ⟨gg, oo, hA7, _, _, hcj⟩ := HS7.out.at_ hjk
                    obtain ⟨gg', oo', hA8, _, _, hct⟩ := HS7.out.at_ htk
                    rw [hA7] at hA8
                    injection hA8 with hA8
                    injection hA8 with hA8 hA9
                    subst hA8 hA9 hA7
                    obtain ⟨K1, hK1⟩ : ∃ K, (l2.map fun d => d.e.key)[j] = K := ⟨_, rfl⟩
                    obtain ⟨K2, hK2⟩ : ∃ K, (l2.map fun d => d.e.key)[t] = K := ⟨_, rfl⟩
                    rw [hK1] at hne hcj
                    rw [hK2] at hne hct
                    have hqn := qRun_ne hne
                    unfold kc at hqn
                    have x0 : wr.cell? ⟨gg, oo + j * 3, none⟩ = some (.string K1.nm) := HTt.out.cell (by simp) (hcj 0 _ rfl)
                    have x1 : wr.cell? ⟨gg, oo + j * 3 + 1, none⟩ = some (.int .u16 (K1.ty : Int)) := HTt.out.cell (by simp) (hcj 1 _ rfl)
                    have x2 : wr.cell? ⟨gg, oo + j * 3 + 2, none⟩ = some (.int .u16 (K1.cl : Int)) := HTt.out.cell (by simp) (hcj 2 _ rfl)
                    have z0 : wr.cell? ⟨gg, oo + t * 3, none⟩ = some (.string K2.nm) := HTt.out.cell (by simp) (hct 0 _ rfl)
                    have z1 : wr.cell? ⟨gg, oo + t * 3 + 1, none⟩ = some (.int .u16 (K2.ty : Int)) := HTt.out.cell (by simp) (hct 1 _ rfl)
                    have z2 : wr.cell? ⟨gg, oo + t * 3 + 2, none⟩ = some (.int .u16 (K2.cl : Int)) := HTt.out.cell (by simp) (hct 2 _ rfl)
                    have hj0 : (0 : Int) ≤ (j : Int) := by omega
                    have hj1 : (j : Int) < (n : Int) := by omega
                    have ht0 : (0 : Int) ≤ (t : Int) := by omega
                    have ht1 : (t : Int) < (n : Int) := by omega
                    clear hjk htk hne hcj hct hK1 hK2
                    go_wp2
                    go_quiet (fail)
                    go_wp2
                    go_roundw
                    case rel => exact ⟨t + 1, by go_num, by omega, HTt.out.trans (room_dn _ _)⟩
                    case measure => simp [intOf]; omega
                  · obtain rfl : t = j := by omega
                    go_wp2
                    go_roundw
                    case rel => exact ⟨t + 1, by go_num, by omega, HTt.out⟩
                    case measure => simp [intOf]; omega
              · obtain rfl : j = n := by omega
                go_wp2
                go_roundw
                case rel => exact ⟨k + 1, l2, by go_num, by omega, HSt7.out.tch HTj.out (by simp), HB7.out.trans (HTj.out.below (by simp) HB7.out.size)⟩
                case measure => simp [intOf]; omega
      · obtain rfl : k = ss.length := by omega
        have HK := Lib.hid (keeps_any wr)
        go_wp2_with (go_at_call 11; refine HK.out.mono ?_; rintro e w9 ⟨rfl, hb9⟩; have HB9 := Lib.hid (HB.out.trans (hb9.mono HB.out.size)); clear hb9)
        go_ret
        exact ⟨rfl, HB9.out⟩
end Go.Proofs.Ytnhoaceickojeaa.Ca
