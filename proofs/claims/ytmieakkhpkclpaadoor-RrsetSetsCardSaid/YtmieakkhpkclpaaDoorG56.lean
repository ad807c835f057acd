/- Texts of the proofs, merged. -/
import Derived.Test.YtmieakkhpkclpaaDoorG49
import Derived.Test.YtmieakkhpkclpaaDoorG30
/- A set's records: the program's. -/
namespace Go.Proofs.YtmieakkhpkclpaaDoor
open Go.RowKit Go.Sort Go.Shelf

set_option maxHeartbeats 2000000 in
set_option maxRecDepth 100000 in
theorem records_any (s : Sx) (lo : Nat) (w : World) (hat : SetAt w lo w.heap.size s) (hn : s.ds.length ≤ 4294967296) :
    Calls Tryd.prog 10 #[.agg s.cells.toArray] w fun e w' => ∃ g, e = .returned (.slice (some ⟨g, 0, none⟩) s.ds.length s.ds.length) ∧ w.heap.size ≤ g ∧ Has w' g 43 (flatK rcl 12 s.recs.toArray) ∧ Below w.heap.size w w' := by
  obtain ⟨gd, cd, e1, hcd, _, hgd, hrow⟩ := hat
  have hi12 : (Tryd.prog.info? 43).map (·.size) = some 12 := by kernel_rfl
  have HI := Lib.hid hi12
  have hi8 : (Tryd.prog.info? 41).map (·.size) = some 8 := by kernel_rfl
  have HI8 := Lib.hid hi8
  clear hi12 hi8
  obtain ⟨ti, ht1, ht2, ht3, ht4⟩ : ∃ i, Tryd.prog.info? 43 = some i ∧ i.zero = some (.agg (rcl default).toArray) ∧ i.size = 12 ∧ i.bytes = 96 := ⟨_, rfl, by kernel_rfl, by kernel_rfl, by kernel_rfl⟩
  have HT := Lib.hid (And.intro ht1 (And.intro ht2 (And.intro ht3 ht4)))
  clear ht1 ht2 ht3 ht4
  obtain ⟨⟨kn, kt, kc⟩, ttl, v, ds⟩ := s
  simp only at e1 hcd hrow hn
  subst e1
  have HROW := Lib.hid hrow
  clear hrow
  have hR : Sx.recs ⟨⟨kn, kt, kc⟩, ttl, .slice (some ⟨gd, 0, none⟩) ds.length cd, ds⟩ = ds.map (fun d => (⟨kn, kt, kc, ttl, d⟩ : Rv)) := rfl
  rw [hR]
  clear hR
  dsimp only [Sx.cells]
  have HS0 : Hid (Has (w.alloc (.cells #[.string kn, .int .u16 kt, .int .u16 kc, .int .u32 ttl, .slice (some ⟨gd, 0, none⟩) ds.length cd] 30)) w.heap.size 30 #[.string kn, .int .u16 kt, .int .u16 kc, .int .u32 ttl, .slice (some ⟨gd, 0, none⟩) ds.length cd]) := Has.fresh w _ _
  have HB0 : Hid (Below w.heap.size w (w.alloc (.cells #[.string kn, .int .u16 kt, .int .u16 kc, .int .u32 ttl, .slice (some ⟨gd, 0, none⟩) ds.length cd] 30))) := (Below.refl _ _).alloc (Nat.le_refl _) _
  go_enter Tryd.func10, Tryd.ntmps10
  go_wp2_with (refine wpList_make_structs rfl (.tmp 8) (.tmp 8) 22 rfl rcl_len default 43 ti _ 96 Tryd.underlying22 HT.out.1 HT.out.2.1 rfl HT.out.2.2.1 HT.out.2.2.2 .i64 .i64 _ _ ds.length ds.length rfl rfl rfl rfl (Nat.le_refl _) (by omega) (by omega) ?_
               generalize w.alloc _ = wa at HS0 HB0 ⊢
               intro w1 hX1 B1 hs1
               have HS1 := Lib.hid (HS0.out.below B1 HS0.out.lt)
               have HB1 := Lib.hid (HB0.out.trans (B1.mono HB0.out.size))
               have HGL : Hid (w.heap.size < wa.heap.size) := HS0.out.lt
               have HGW : Hid (wa.heap.size < w1.heap.size) := (by rw [Hid, hs1]; omega)
               generalize wa.heap.size = gl at hX1 HGL HGW ⊢
               have HX1 := Lib.hid hX1
               have c4 : w1.cell? ⟨w.heap.size, 4, none⟩ = some (.slice (some ⟨gd, 0, none⟩) ds.length cd) := HS1.out.cell 4
               clear hX1 B1 hs1 HS0 HB0)
  clear c4
  go_loopw [13] (fun i wr => ∃ k : Nat, i = .int .i64 k ∧ k ≤ ds.length ∧ Hid (Has wr gl 43 (flatK rcl 12 (upTo (fun d => (⟨kn, kt, kc, ttl, d⟩ : Rv)) ds k))) ∧ Hid (Has wr w.heap.size 30 #[.string kn, .int .u16 kt, .int .u16 kc, .int .u32 ttl, .slice (some ⟨gd, 0, none⟩) ds.length cd]) ∧ Hid (Below w.heap.size w wr) ∧ Hid (gl < wr.heap.size)) (fun i _ => ds.length - (intOf i).toNat)
  case atStart => exact ⟨0, rfl, by omega, by rw [upTo_zero]; exact HX1, HS1, HB1, HGW⟩
  case round =>
    obtain ⟨k, rfl, hk, HX, HS, HB, HG⟩ := hrel
    have hg2 := HG.out
    have hgl := HGL.out
    have hwr := HB.out.size
    by_cases hlt : k < ds.length
    · have hc1 := range_below HB.out hgd (HROW.out k hlt)
      rw [Nat.zero_add] at hc1
      have hc2 := Lib.hid hc1
      clear hc1
      have hst := upTo_set (f := fun d => (⟨kn, kt, kc, ttl, d⟩ : Rv)) ds hlt
      have hkd : k < (upTo (fun d => (⟨kn, kt, kc, ttl, d⟩ : Rv)) ds k).size := by rw [upTo_size ds hk]; exact hlt
      have HKD := Lib.hid hkd
      have HST := Lib.hid hst
      clear hst hkd
      generalize ds[k] = d at *
      obtain ⟨ra, ho, ma, n0, n1, n2, n3, n4⟩ := d
      go_wp2_with (first
        | (refine wpList_load_mid rfl 41 (.tmp 16) rfl gd _ rfl (dcl ⟨ra, ho, ma, n0, n1, n2, n3, n4⟩) _ hc2.out Tryd.underlying41 rfl HI8.out ?_)
        | (refine wpList_store_boxed rfl 41 (.tmp 5) (.tmp 17) rfl 41 _ #[.string ra, .string ho, .string ma, .int .u32 n0, .int .u32 n1, .int .u32 n2, .int .u32 n3, .int .u32 n4] rfl rfl HI8.out rfl (dv_one ⟨ra, ho, ma, n0, n1, n2, n3, n4⟩) ?_
           intro w2 hY g2 hs2
           have HY2 := Lib.hid hY
           have HX2 := Lib.hid (HX.out.grown g2 (by simp))
           have HS2 := Lib.hid (HS.out.grown g2 (by simp))
           have HB2 := Lib.hid (grown_none g2 HB.out hwr)
           obtain ⟨k0, k1, k2, k3, _⟩ := five HS2.out
           clear hY g2)
        | (refine wpList_load_row rfl 41 (.tmp 5) rfl wr.heap.size rfl 41 #[.string ra, .string ho, .string ma, .int .u32 n0, .int .u32 n1, .int .u32 n2, .int .u32 n3, .int .u32 n4] (0, 0) _ HY2.out Tryd.underlying41 rfl HI8.out ?_)
        | (refine wpList_store_elem rfl 43 (.tmp 33) (.tmp 32) rfl rcl_len rcl_one gl k 43 _ (⟨kn, kt, kc, ttl, ⟨ra, ho, ma, n0, n1, n2, n3, n4⟩⟩ : Rv) HX2.out HKD.out rfl rfl HI.out ?_
           rw [HST.out]
           intro w4 hX4 g4 hs4
           have HX4 := Lib.hid hX4
           have HS4 := Lib.hid (HS2.out.grown g4 (by simp; omega))
           have HB4 := Lib.hid (HB2.out.grown g4 (by omega) (fun k e => by injection e with e; omega))
           clear hX4 g4))
      go_roundw
      case rel => exact ⟨k + 1, by go_num, by omega, HX4, HS4, HB4, by rw [Hid]; omega⟩
      case measure => simp [intOf]; omega
    · obtain rfl : k = ds.length := by omega
      rw [upTo_all] at HX
      go_wp2
      go_ret
      exact ⟨gl, rfl, Nat.le_of_lt HGL.out, HX.out, HB.out⟩
end Go.Proofs.YtmieakkhpkclpaaDoor
/- Two lists of sets that are one: the statement's equal. -/
namespace Go.Proofs.YtmieakkhpkclpaaDoor
open Go.RowKit Go.Sort Go.Shelf

theorem sets_at {la lb : List Sx} (h : la.map Sx.st = lb.map Sx.st) {i : Nat} (h1 : i < la.length) (h2 : i < lb.length) : la[i].k = lb[i].k ∧ la[i].ttl = lb[i].ttl ∧ la[i].ds = lb[i].ds := by
  have e : (la.map Sx.st)[i]'(by rw [List.length_map]; exact h1) = (lb.map Sx.st)[i]'(by rw [List.length_map]; exact h2) := List.getElem_of_eq h _
  rw [List.getElem_map, List.getElem_map] at e
  exact sx_eq e
end Go.Proofs.YtmieakkhpkclpaaDoor
/- Two lists of sets that are one: the document's EqualSets. -/
namespace Go.Proofs.YtmieakkhpkclpaaDoor
open Go.RowKit Go.Sort Go.Shelf

set_option maxHeartbeats 4000000 in
set_option maxRecDepth 100000 in
theorem eqSets5_any (la lb : List Sx) (va vb : Value) (lo lo2 : Nat) (w : World) (ha : SetsAt w lo w.heap.size va la) (hb : SetsAt w lo2 w.heap.size vb lb) (he : la.map Sx.st = lb.map Sx.st) (hn : la.length ≤ 4294967296) (hd : ∀ s ∈ la, s.ds.length ≤ 4294967296) :
    Calls Tryd.prog 6 #[va, vb] w fun e w' => e = .returned (.bool true) ∧ Below w.heap.size w w' := by
  obtain ⟨A, c, rfl, hca, hSa, hga⟩ := ha
  obtain ⟨B, c2, rfl, hcb, hSb, hgb⟩ := hb
  have hlen : lb.length = la.length := by have := congrArg List.length he; simpa using this.symm
  have HEQ := Lib.hid (fun (i : Nat) (h1 : i < la.length) (h2 : i < lb.length) => sets_at he h1 h2)
  have hi8 : (Tryd.prog.info? 41).map (·.size) = some 8 := by kernel_rfl
  have HI8 := Lib.hid hi8
  have HSA := Lib.hid hSa
  have HSB := Lib.hid hSb
  have HGA := Lib.hid hga
  have HGB := Lib.hid hgb
  have HD := Lib.hid hd
  have HL := Lib.hid hlen
  rw [hlen]
  clear hca hSa hga hcb hSb hgb he hd hi8 hlen
  go_enter Tryd.func6, Tryd.ntmps6
  go_wp2
  go_loopw [5] (fun s5 wr => ∃ i q : Nat, s5 = .int .i64 i ∧ i ≤ la.length ∧ wr = w.drewN q) (fun s5 _ => la.length - (intOf s5).toNat)
  case atStart => exact ⟨0, 0, rfl, Nat.zero_le _, rfl⟩
  case round =>
    obtain ⟨i, q, rfl, hi, rfl⟩ := hrel
    by_cases hlt : i < la.length
    · have hlb : i < lb.length := by rw [HL.out]; exact hlt
      obtain ⟨e1, e2, e3⟩ := HEQ.out i hlt hlb
      obtain ⟨g, o, rfl, _, _, hc⟩ := HSA.out.at_ hlt
      obtain ⟨g2, o2, rfl, _, _, hc2⟩ := HSB.out.at_ hlb
      obtain ⟨ga, ca, v1, hca, _, hga, r1⟩ := (HGA.out la[i] (List.getElem_mem hlt)).1
      obtain ⟨gb, cb, v2, hcb, _, hgb, r2⟩ := (HGB.out lb[i] (List.getElem_mem hlb)).1
      have hds := HD.out la[i] (List.getElem_mem hlt)
      generalize la[i] = s at *
      generalize lb[i] = t at *
      obtain ⟨⟨an, at', ac⟩, attl, av, ads⟩ := s
      obtain ⟨⟨bn, bt, bc⟩, bttl, bv, bds⟩ := t
      simp only [Kv.mk.injEq] at e1 e2 e3 v1 v2 hds r1 r2 hca hcb
      obtain ⟨e4, e5, e6⟩ := e1
      subst e2 e3 e4 e5 e6 v1 v2
      have i0 : (0 : Int) ≤ (i : Int) := by omega
      have i1 : (i : Int) < (la.length : Int) := by omega
      have a0 : (w.drewN q).cell? ⟨g, o + i * 5 + 0, none⟩ = some (.string an) := hc 0 _ rfl
      have a1 : (w.drewN q).cell? ⟨g, o + i * 5 + 1, none⟩ = some (.int .u16 at') := hc 1 _ rfl
      have a2 : (w.drewN q).cell? ⟨g, o + i * 5 + 2, none⟩ = some (.int .u16 ac) := hc 2 _ rfl
      have a3 : (w.drewN q).cell? ⟨g, o + i * 5 + 3, none⟩ = some (.int .u32 attl) := hc 3 _ rfl
      have a4 : (w.drewN q).cell? ⟨g, o + i * 5 + 4, none⟩ = some (.slice (some ⟨ga, 0, none⟩) ads.length ca) := hc 4 _ rfl
      have b0 : (w.drewN q).cell? ⟨g2, o2 + i * 5 + 0, none⟩ = some (.string an) := hc2 0 _ rfl
      have b1 : (w.drewN q).cell? ⟨g2, o2 + i * 5 + 1, none⟩ = some (.int .u16 at') := hc2 1 _ rfl
      have b2 : (w.drewN q).cell? ⟨g2, o2 + i * 5 + 2, none⟩ = some (.int .u16 ac) := hc2 2 _ rfl
      have b3 : (w.drewN q).cell? ⟨g2, o2 + i * 5 + 3, none⟩ = some (.int .u32 attl) := hc2 3 _ rfl
      have b4 : (w.drewN q).cell? ⟨g2, o2 + i * 5 + 4, none⟩ = some (.slice (some ⟨gb, 0, none⟩) ads.length cb) := hc2 4 _ rfl
      rw [Nat.add_zero] at a0 b0
      have hqs : (an.toList == an.toList) = true := beq_self_eq_true _
      have R1 := Lib.hid (fun (k : Nat) (h : k < ads.length) (W : World) (hW : ∃ n, W = (w.drewN q).drewN n) => (show W.rangeAt ga (k * 8) (dcl ads[k]) from by have := range_drewN (w := w.drewN q) (r1 k h) W hW; rwa [Nat.zero_add] at this))
      have R2 := Lib.hid (fun (k : Nat) (h : k < ads.length) (W : World) (hW : ∃ n, W = (w.drewN q).drewN n) => (show W.rangeAt gb (k * 8) (dcl ads[k]) from by have := range_drewN (w := w.drewN q) (r2 k h) W hW; rwa [Nat.zero_add] at this))
      have HQ : Hid (∀ n, (w.drewN q).drewN n = w.drewN (q + n)) := fun n => World.drewN_drewN ..
      clear hc hc2 r1 r2 hca hcb hga hgb
      generalize w.drewN q = wq at *
      go_wp2_with fail
      go_quiet (fail)
      go_wp2_with fail
      clear a0 a1 a2 a3 b0 b1 b2 b3
      go_loopw [6] (fun s6 wr => ∃ k p : Nat, s6 = .int .i64 k ∧ k ≤ ads.length ∧ wr = wq.drewN p) (fun s6 _ => ads.length - (intOf s6).toNat)
      case atStart => exact ⟨0, nq, rfl, Nat.zero_le _, rfl⟩
      case round =>
        obtain ⟨k, p, rfl, hk, rfl⟩ := hrel
        have x4 : (wq.drewN p).cell? ⟨g, o + i * 5 + 4, none⟩ = some (.slice (some ⟨ga, 0, none⟩) ads.length ca) := a4
        have y4 : (wq.drewN p).cell? ⟨g2, o2 + i * 5 + 4, none⟩ = some (.slice (some ⟨gb, 0, none⟩) ads.length cb) := b4
        have k0 : (0 : Int) ≤ (k : Int) := by omega
        by_cases hlk : k < ads.length
        · have k1 : (k : Int) < (ads.length : Int) := by omega
          have D1 := Lib.hid (fun (W : World) (hW : ∃ n, W = (wq.drewN p).drewN n) => R1.out k hlk W (by obtain ⟨n, rfl⟩ := hW; exact ⟨p + n, by rw [World.drewN_drewN]⟩))
          have D2 := Lib.hid (fun (W : World) (hW : ∃ n, W = (wq.drewN p).drewN n) => R2.out k hlk W (by obtain ⟨n, rfl⟩ := hW; exact ⟨p + n, by rw [World.drewN_drewN]⟩))
          generalize ads[k] = d at *
          have HP : Hid (∀ n, (wq.drewN p).drewN n = wq.drewN (p + n)) := fun n => World.drewN_drewN ..
          generalize wq.drewN p = wp at *
          go_wp2_with fail
          refine wp_region_quiet_lit (by kernel_rfl) (by kernel_rfl) ?_
          repeat (first
            | (refine wpQuiet_load_mid rfl 41 (.tmp 73) rfl ga (k * 8) rfl (dcl d) _ D1.out Tryd.underlying41 rfl HI8.out ?_)
            | (refine wpQuiet_load_mid rfl 41 (.tmp 81) rfl gb (k * 8) rfl (dcl d) _ D2.out Tryd.underlying41 rfl HI8.out ?_)
            | (refine wpQuiet_neq_data rfl (.tmp 74) (.tmp 82) rfl d d rfl rfl true (decide_eq_true rfl) ?_)
            | quiet_step (fail))
          refine wpQuiet_nil ?_
          rintro _ ⟨np, rfl⟩
          go_wp2_with fail
          go_roundw
          case rel => exact ⟨k + 1, p + np, by go_num, by omega, HP.out np⟩
          case measure => simp [intOf]; omega
        · obtain rfl : k = ads.length := by omega
          go_wp2_with fail
          go_roundw
          case rel => exact ⟨i + 1, q + p, by go_num, by omega, HQ.out p⟩
          case measure => simp [intOf]; omega
    · obtain rfl : i = la.length := by omega
      go_wp2_with fail
      go_ret
      exact ⟨rfl, below_drewN (Below.refl _ _) q⟩
end Go.Proofs.YtmieakkhpkclpaaDoor
