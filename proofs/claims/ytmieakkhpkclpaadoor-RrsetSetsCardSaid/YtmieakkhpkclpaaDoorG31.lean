/- Texts of the proofs, merged. -/
import Derived.Test.YtmieakkhpkclpaaDoorG29
import Derived.Test.YtmieakkhpkclpaaDoorG26
/- Records as sets: the program's, walked. -/
namespace Go.Proofs.YtmieakkhpkclpaaDoor
open Go.RowKit Go.Sort Go.Shelf Go.WideMaps Go.MapKept

set_option maxHeartbeats 8000000 in
set_option maxRecDepth 100000 in
theorem sets_any (rs : List Rv) (A : Option Addr) (c : Nat) (w : World) (hL : LayR w) (hS : Srow rcl 12 w 0 w.heap.size A rs) (hr : ∀ r ∈ rs, r.nums ∧ r.short) (hn : rs.length ≤ 4294967296) :
    Calls Tryd.prog 7 #[.slice A rs.length c] w fun e w' => ∃ (l : List Sx) (v : Value), e = .returned v ∧ l.map Sx.st = Rr.sets ((rs.map Rv.fold).map Rv.rc) ∧ SetsAt w' w.heap.size w'.heap.size v l ∧ Below w.heap.size w w' := by
  have hfr : ∀ r ∈ rs.map Rv.fold, r.nums ∧ r.short := fun r h => by
    obtain ⟨q, hq, rfl⟩ := List.mem_map.1 h
    exact ⟨rv_fold_nums (hr q hq).1, rv_fold_short (hr q hq).2⟩
  have HFR := Lib.hid hfr
  have HFO := Lib.hid (fun (W : World) (hB : Below w.heap.size w W) => folded_any rs A c W (hL.below hB (Nat.le_refl _)) ((hS.keep hB).more (Nat.le_refl _) hB.size) hr hn)
  have hlen : (rs.map Rv.fold).length = rs.length := List.length_map ..
  clear hfr hL hS hr
  generalize hR : rs.map Rv.fold = R at *
  have HRR := Lib.hid hR
  clear hR
  rw [← hlen] at HFO hn ⊢
  generalize rs.length = n0 at *
  subst hlen
  have hi12 : (Tryd.prog.info? 43).map (·.size) = some 12 := by kernel_rfl
  have HI := Lib.hid hi12
  have hi3 : (Tryd.prog.info? 26).map (·.size) = some 3 := by kernel_rfl
  have HI3 := Lib.hid hi3
  clear hi12 hi3
  obtain ⟨ti, ht1, ht2, ht3, ht4⟩ : ∃ i, Tryd.prog.info? 43 = some i ∧ i.zero = some (.agg (rcl default).toArray) ∧ i.size = 12 ∧ i.bytes = 96 := ⟨_, rfl, by kernel_rfl, by kernel_rfl, by kernel_rfl⟩
  have HT := Lib.hid (And.intro ht1 (And.intro ht2 (And.intro ht3 ht4)))
  clear ht1 ht2 ht3 ht4
  have HKO := Lib.hid (fun (r : Rv) (W : World) => (show Calls Tryd.prog 15 #[.agg r.cells] W (fun e w' => e = .returned (.agg #[.string r.nm, .int .u16 r.ty, .int .u16 r.cl]) ∧ Below W.heap.size W w') from keyOf_any r W))
  have hmk : ∀ W : World, (Instr.makeMap 45 none).run Tryd.prog W = .ok (.map (some W.heap.size)) (W.alloc (.map #[] 0)) := fun _ => rfl
  go_enter Tryd.func7, Tryd.ntmps7
  have HM0 : Hid ((w.alloc (.map #[] 0)).heap[w.heap.size]? = some (.map #[] 0)) := heap_alloc_new w _
  have HB0 : Hid (Below w.heap.size w (w.alloc (.map #[] 0))) := (Below.refl _ _).alloc (Nat.le_refl _) _
  have HS0 : Hid (w.heap.size < (w.alloc (.map #[] 0)).heap.size) := by simp [Hid]
  go_wp2_with (go_at_call 14; refine (HFO.out _ HB0.out).mono ?_; rintro e w1 ⟨gf, rfl, hgf, hX1, B1⟩; have HX1 := Lib.hid hX1; have HGF := Lib.hid (Nat.lt_of_lt_of_le HS0.out hgf); have HM1 := Lib.hid ((B1.block w.heap.size HS0.out).trans HM0.out); have HB1 := Lib.hid (HB0.out.trans (B1.mono HB0.out.size)); clear hX1 B1 hgf)
  have HLA : Hid (∃ b0, LA R w w1 w.heap.size gf b0 0 []) := ⟨gf + 1, by rw [List.take_zero]; exact Gat.nil, by simp, Gm.nil HM1.out (by have := HGF.out; omega), HX1.out, HB1.out, ⟨Nat.le_refl _, HGF.out, Nat.lt_succ_self _, HX1.out.lt⟩, Nat.le_refl _⟩
  clear hmk
  obtain ⟨b0, hla⟩ := HLA.out
  have HLA0 := Lib.hid hla
  clear HLA hla HM0 HB0 HS0 HX1 HM1 HB1 HGF
  go_loopw [14] (fun i wr => ∃ (k : Nat) (E : List En), i = .int .i64 k ∧ k ≤ R.length ∧ Hid (LA R w wr w.heap.size gf b0 k E)) (fun i _ => R.length - (intOf i).toNat)
  case atStart => exact ⟨0, [], rfl, Nat.zero_le _, HLA0⟩
  case round =>
    obtain ⟨k, E, rfl, hk, HA⟩ := hrel
    by_cases hlt : k < R.length
    · have hrk := row_at rcl_len HA.out.has (i := k) (by simpa using hlt)
      rw [List.getElem_toArray] at hrk
      have HRK := Lib.hid hrk
      have HGK := Lib.hid (show R[k]? = some R[k] from List.getElem?_eq_getElem hlt)
      have hfr := HFR.out _ (List.getElem_mem hlt)
      have HKOK := Lib.hid (rv_kv_ok hfr.1 hfr.2)
      clear hrk hfr
      generalize R[k] = r at *
      have HV := Lib.hid (kv_cells r.kv)
      go_wp2_with (first
        | (refine wpList_load_mid rfl 43 (.tmp 16) rfl gf (k * 12) rfl (rcl r) _ HRK.out Tryd.underlying43 rfl HI.out ?_)
        | (refine wpList_store_boxed rfl 43 (.tmp 5) (.tmp 17) rfl 43 _ r.cells rfl rfl HI.out rfl (rv_one r) ?_; intro w2 hY g2 hs2; have HY2 := Lib.hid hY; have HA2 := Lib.hid (HA.out.next g2); have hw2 : wr.heap.size < w2.heap.size := (by omega); clear hY g2 hs2)
        | (refine wpList_load_row rfl 43 (.tmp 5) rfl wr.heap.size rfl 43 r.cells (0, 0) _ HY2.out Tryd.underlying43 rfl HI.out ?_)
        | (go_at_call 15; refine (HKO.out r _).mono ?_; rintro e w3 ⟨rfl, B3⟩; have HY3 := Lib.hid (HY2.out.below B3 hw2); have HA3 := Lib.hid (HA2.out.next (below_grown B3)); have HY4 : Hid (Has (w3.alloc (.cells #[.string r.nm, .int .u16 r.ty, .int .u16 r.cl] 26)) wr.heap.size 43 r.cells) := HY3.out.alloc _; have HA4 : Hid (LA R w (w3.alloc (.cells #[.string r.nm, .int .u16 r.ty, .int .u16 r.cl] 26)) w.heap.size gf b0 k E) := HA3.out.next (World.grownBy_alloc _ _ _); have hw3 := B3.size; clear B3)
        | (refine wpList_load_row rfl 43 (.tmp 5) rfl wr.heap.size rfl 43 r.cells (0, 0) _ HY4.out Tryd.underlying43 rfl HI.out ?_; generalize (w3.alloc (.cells #[.string r.nm, .int .u16 r.ty, .int .u16 r.cl] 26)) = w4 at HY4 HA4 ⊢)
        | (refine wpList_build_one rfl 22 43 (.tmp 23) rfl 12 r.cells ti _ Tryd.underlying22 HT.out.1 HT.out.2.1 HT.out.2.2.1 (by omega) (by omega) rfl (fill_rec r) ?_; intro w5 hN g5 hs5; have HN5 := Lib.hid hN; have HA5 := Lib.hid (HA4.out.next g5); have hw5 : w4.heap.size < w5.heap.size := (by omega); clear hN g5 hs5)
        | (refine wpList_mapEntry rfl 45 (.tmp 20) (.tmp 21) rfl _ _ rfl rfl (HA5.out.entry r HKOK.out) ?_; rintro v w6 ⟨E1, j, en, rfl, hB6, g6, hs6⟩; have HB6 := Lib.hid hB6; have hneq : w4.heap.size ≠ w.heap.size := (by have := HA4.out.lo; have := HA4.out.gm.low; omega); have HN6 := Lib.hid (HN5.out.grown g6 (fun e => hneq (by injection e))); clear hB6 g6 hneq)
        | (refine wpList_append_struct rfl (.tmp 22) (.tmp 24) 22 rfl rcl_len rcl_one 43 ti _ 96 Tryd.underlying22 HT.out.1 HT.out.2.1 HT.out.2.2.1 HT.out.2.2.2 rfl (by omega) b0 en.v en.rs rfl HB6.out.own r w4.heap.size 1 rfl (fun i u hu => by rw [Nat.zero_add, HN6.out.cell]; rw [← hu, Array.getElem?_toList]) (by have := HB6.out.rsLen; unfold maxLen; omega) (by have := HB6.out.rsLen; omega) HB6.out.lo.2.2.2 ?_; intro v' w7 hO g7 hw7; have HO7 := Lib.hid hO; have HG7 := Lib.hid g7; have HW7 := Lib.hid hw7; clear hO g7 hw7)
        | (refine wpList_entryStore rfl 45 (.tmp 20) (.tmp 27) (.tmp 26) rfl _ _ _ rfl rfl rfl (HB6.out.store HGK.out HO7.out HG7.out HW7.out) ?_; rintro w8 ⟨E2, hA8⟩; have HA8 := Lib.hid hA8; clear hA8))
      go_roundw
      case rel => exact ⟨k + 1, E2, by go_num, by omega, HA8⟩
      case measure => simp [intOf]; omega
    · obtain rfl : k = R.length := by omega
      clear hlt hk HFO HKO HLA0 HI
      have hlen0 := HA.out.len
      have hml : ∀ ty, (Builtin.len_ #[45] ty #[.map (some w.heap.size)]).run Tryd.prog wr = .ok (.int .i64 (E.length : Nat)) wr := fun ty => by
        have := mp_len HA.out.gm.mp ty
        rwa [pairs_len] at this
      obtain ⟨ts, hts1, hts2, hts3, hts4⟩ : ∃ i, Tryd.prog.info? 30 = some i ∧ i.zero = some (.agg (Sx.cells ⟨⟨⟨#[]⟩, 0, 0⟩, 0, .slice none 0 0, []⟩).toArray) ∧ i.size = 5 ∧ i.bytes = 56 := ⟨_, rfl, by kernel_rfl, by kernel_rfl, by kernel_rfl⟩
      have HTS := Lib.hid (And.intro hts1 (And.intro hts2 (And.intro hts3 hts4)))
      clear hts1 hts2 hts3 hts4
      have hwlo := HA.out.lo
      go_wp2_with (first
        | (refine wpList_make_structs rfl (.const (.int .i64 0)) (.tmp 30) 34 rfl scl_len ⟨⟨⟨#[]⟩, 0, 0⟩, 0, .slice none 0 0, []⟩ 30 ts _ 56 Tryd.underlying34 HTS.out.1 HTS.out.2.1 rfl HTS.out.2.2.1 HTS.out.2.2.2 .i64 .i64 _ _ 0 E.length rfl rfl rfl rfl (Nat.zero_le _) (by omega) (by omega) ?_; intro w9 hX9 B9 hs9; have HX9 := Lib.hid hX9; have HA9 := Lib.hid (HA.out.next (below_grown B9)); have hw9 : wr.heap.size < w9.heap.size := (by omega); clear hX9 B9 hs9 hml)
        | (refine wpList_range rfl 45 (.tmp 32) rfl _ rfl (R := fun v W => v = .pointer (some ⟨w9.heap.size, 0, none⟩) ∧ W = w9.alloc (.mapIter (some w.heap.size) E.length #[] E.length)) ⟨_, _, (by have := mp_range HA9.out.gm.mp; rwa [pairs_len] at this), rfl, rfl⟩ ?_; rintro v w10 ⟨rfl, hw10⟩; have HA10 : Hid (LA R w w10 w.heap.size gf b0 R.length E) := HA9.out.next (by rw [hw10]; exact World.grownBy_alloc w9 _ none); have HX10 : Hid (Has w10 wr.heap.size 30 (flatK Sx.cells 5 (Array.replicate E.length ⟨⟨⟨#[]⟩, 0, 0⟩, 0, .slice none 0 0, []⟩))) := (by rw [Hid, hw10]; exact HX9.out.alloc _); have HI10 : Hid (w10.heap[w9.heap.size]? = some (.mapIter (some w.heap.size) E.length #[] E.length)) := (by rw [Hid, hw10]; exact heap_alloc_new w9 _); have hs10 : w10.heap.size = w9.heap.size + 1 := (by rw [hw10]; simp); have HS10 := Lib.hid hs10; clear hs10 hw10))
      have hle : R.length ≤ 4294967296 := hn
      have HLC : Hid (LC R w w10 w.heap.size gf b0 E w9.heap.size wr.heap.size [] [] (.slice (some ⟨wr.heap.size, 0, none⟩) 0 E.length)) :=
        ⟨HA10.out, HI10.out, List.nodup_nil, by simp, has_row HX10.out (Nat.le_refl _) (by unfold maxLen; omega) (by simp), rfl, by simp, by simp, by simp, ⟨by omega, by omega, by omega, by rw [HS10.out]; omega, by simp [Value.ownBlock]; omega, fun e he g hg => ((HA.out.gm.own e he).lt g hg).2⟩⟩
      have HEK := Lib.hid HA.out.ok
      have HER := Lib.hid (fun (e : En) (he : e ∈ E) (r : Rv) (hr : r ∈ e.rs) => (show r ∈ R by
        have h1 := HA.out.gat.own e he
        rw [h1, List.take_of_length_le (Nat.le_refl _)] at hr
        exact (List.mem_filter.1 hr).1))
      clear HA10 HI10 HX10 HS10 HX9 HA9 HA
      have hitb : wr.heap.size < w9.heap.size := hw9
      generalize w9.heap.size = it at *
      generalize wr.heap.size = b2 at *
      simp only [Act.put, List.setIfInBounds_toArray, List.set_cons_succ, List.set_cons_zero]
      go_loopw [7] (fun s7 wx => ∃ (seen : List Nat) (out : List Sx), Hid (LC R w wx w.heap.size gf b0 E it b2 seen out s7)) (fun s7 _ => E.length - lenOf s7)
      case atStart => exact ⟨[], [], HLC⟩
      case round =>
        obtain ⟨seen, out, HC⟩ := hrel
        obtain ⟨u, w11, hrun, hcase⟩ := HC.out.next 0
        have hol : out.length ≤ E.length := by rw [HC.out.len]; exact nodup_lt _ _ HC.out.nodup HC.out.lt
        rcases hcase with ⟨rfl, rfl, hall⟩ | ⟨j, e, rfl, he, hj, hent, hla, hit, g11, hs11⟩
        · have HALL := Lib.hid hall
          have HSS := Lib.hid (sortS_any out _ b2 w11 HC.out.own HC.out.good (by omega))
          clear hall HLC HER HEK
          go_wp2_with (first
            | (refine wpList_next rfl (.tmp 33) false rfl _ rfl (R := fun v W => v = .tuple #[.bool false] ∧ W = w11) ⟨_, _, hrun, rfl, rfl⟩ ?_; rintro v w12 ⟨rfl, rfl⟩)
            | (go_at_call 17; refine HSS.out.mono ?_; rintro e w13 ⟨rfl, l, Al, cl, hp, hu, hv, hc, hsr, g13⟩; have HEND := Lib.hid (HC.out.ends HALL.out g13 hp hu hv hc hsr); clear hp hu hc hsr g13 hv))
          go_ret
          obtain ⟨h1, h2, h3⟩ := HEND.out
          exact ⟨l, _, rfl, h1, h2, h3⟩
        · have hem := List.mem_of_getElem? he
          have hek := HEK.out e hem
          have hrs := HER.out e hem
          have hown := hla.gm.own e hem
          obtain ⟨Ae, ce, hve, hce, hsre⟩ := Own.srow rcl_len hown
          have hln : e.rs.length ≤ 4294967296 := by
            have h1 := hla.gat.own e hem
            rw [h1, List.take_of_length_le (Nat.le_refl _)]
            have := own1_len R e.k
            omega
          have hlo := hla.lo
          have HSO : Hid (∀ W : World, w11.grownBy W none → Calls Tryd.prog 16 #[.agg #[.string e.k.nm, .int .u16 e.k.ty, .int .u16 e.k.cl], e.v] W fun e' w' => ∃ s : Sx, e' = .returned (.agg s.cells.toArray) ∧ s.of_ e ∧ s.good ∧ SetAt w' W.heap.size w'.heap.size s ∧ Below W.heap.size W w') := fun W hW => by
            rw [hve]
            refine Calls.mono (setOf_any e.k e.rs Ae ce W ((hsre.grown hW (by simp)).more (Nat.zero_le _) hW.size) (fun r hr => (HFR.out r (hrs r hr)).2) hln) ?_
            rintro e' w' ⟨s, a1, a2, a3, a4, a5, a6⟩
            refine ⟨s, a1, ⟨a2, a3⟩, ⟨by rw [a2]; exact hek.1, ?_, fun d hd => ?_⟩, a5, a6⟩
            · obtain ⟨g, c, b1, _⟩ := a5
              rw [b1]
              rfl
            · obtain ⟨r, hr, rfl⟩ := a4 d hd
              exact (HFR.out r (hrs r hr)).2.2
          rw [kv_cells] at hrun hent
          have HPUT := Lib.hid (fun (W1 : World) (g : w11.grownBy W1 none) (s : Sx) (hs : s.of_ e) (hg : s.good) (W2 : World) (hd : SetAt W2 w11.heap.size W2.heap.size s) (g2 : w11.grownBy W2 none) (W3 : World) (v' : Value) ho g3 hv => HC.out.put he hj g11 hit hla g2 s hs hg hd (w3 := W3) (v' := v') ho g3 hv)
          have hol2 : (out.length : Nat) + 1 ≤ E.length := by
            have h1 := nodup_lt E.length (seen ++ [j]) (by rw [List.nodup_append]; exact ⟨HC.out.nodup, by simp, fun a ha b hb e' => hj (by rw [← List.mem_singleton.1 hb, ← e']; exact ha)⟩) (fun x hx => by
              rcases List.mem_append.1 hx with hx | hx
              · exact HC.out.lt x hx
              · rw [List.mem_singleton.1 hx]; exact (List.getElem?_eq_some_iff.1 he).1)
            rw [List.length_append, List.length_singleton] at h1
            rw [HC.out.len]
            exact h1
          have HOW := Lib.hid HC.out.own
          have HOL := Lib.hid hol2
          have HLO := Lib.hid HC.out.lo
          clear hek hrs hown hve hce hsre hln hem he hj hla hit HLC hol hol2
          generalize e.v = ev at *
          have HPO := Lib.hid (fun (W2 : World) (g : w11.grownBy W2 none) => (HOW.out.kept g11 (show u7.ownBlock = none ∨ u7.ownBlock ≠ some it from .inr HLO.out.2.2.2.2.1)).kept g (show u7.ownBlock = none ∨ u7.ownBlock ≠ none from (Classical.em _)))
          have HN := Lib.hid hrun
          have HE := Lib.hid hent
          have HME : Hid (lenOf u7 = out.length) := by
            obtain ⟨Av, cv, hv7, _⟩ := ownK_form HOW.out
            rw [Hid, hv7]
            rfl
          have HBL := Lib.hid (show b2 ≤ w11.heap.size by have := HLO.out.2.2.1; have := HLO.out.2.2.2.1; rw [hs11]; omega)
          have hle2 := HOL.out
          clear hrun hent g11 hs11 hlo
          go_wp2_with (first
            | (refine wpList_next rfl (.tmp 33) false rfl _ rfl (R := fun v W => v = .tuple #[.bool true, .agg #[.string e.k.nm, .int .u16 e.k.ty, .int .u16 e.k.cl], ev] ∧ W = w11) ⟨_, _, HN.out, rfl, rfl⟩ ?_; rintro v w12 ⟨rfl, rfl⟩)
            | (refine wpList_entry rfl (.tmp 33) rfl _ rfl _ HE.out ?_)
            | (go_at_call 16; refine (HSO.out _ (World.grownBy_alloc _ _ _)).mono ?_; rintro e' w14 ⟨s, rfl, hof, hgo, hat, B14⟩; have HOF := Lib.hid hof; have HGO := Lib.hid hgo; have HAT : Hid (SetAt w14 w12.heap.size w14.heap.size s) := setAt_lo hat (by simp); have HG14 : Hid (w12.grownBy w14 none) := grown_two (World.grownBy_alloc _ _ _) (below_grown B14); have hof2 : True := trivial; clear hof hgo hat B14)
            | (refine wpList_build_one rfl 34 30 (.tmp 42) rfl 5 s.cells.toArray ts _ Tryd.underlying34 HTS.out.1 HTS.out.2.1 HTS.out.2.2.1 (by omega) (by omega) rfl (fill_set s) ?_; intro w15 hN g15 hs15; have HN15 := Lib.hid hN; have HG15 : Hid (w12.grownBy w15 none) := grown_two HG14.out g15; have HAT15 : Hid (SetAt w15 w12.heap.size w15.heap.size s) := setAt_keep HAT.out g15; clear hN g15 hs15)
            | (refine wpList_append_struct2 rfl (.tmp 39) (.tmp 43) 34 rfl scl_len 30 ts _ 56 Tryd.underlying34 HTS.out.1 HTS.out.2.1 HTS.out.2.2.1 HTS.out.2.2.2 rfl (by omega) b2 u7 out rfl (HPO.out _ HG15.out) s (scl_one HGO.out.2.1) w14.heap.size 1 rfl (fun i u hu => by rw [Nat.zero_add, HN15.out.cell]; simpa using hu) (by unfold maxLen; omega) (by omega) (Nat.le_trans HBL.out HG15.out.size) ?_; intro v' w16 hO g16 hw16; have HLC2 := Lib.hid (HPUT.out w15 HG15.out s HOF.out HGO.out w15 HAT15.out HG15.out w16 v' hO g16 hw16); have HM2 : Hid (lenOf v' = out.length + 1) := (by obtain ⟨Av, cv, hv7, _⟩ := ownK_form hO; rw [Hid, hv7]; simp [lenOf]); clear hO g16 hw16))
          go_roundw
          case rel => exact ⟨seen ++ [j], out ++ [s], HLC2⟩
          case measure => rw [HM2.out, HME.out]; omega
end Go.Proofs.YtmieakkhpkclpaaDoor
