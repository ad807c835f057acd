/- Texts of the proofs, merged. -/
import Derived.Test.YtmieakkhpkclpaaDoorG54
import Derived.Deep.CutRange
import Derived.Deep.CutBlock
import Derived.BigQuiet
/- Sets: the document's, walked. -/
namespace Go.Proofs.YtmieakkhpkclpaaDoor
open Go.RowKit Go.Sort Go.Shelf

set_option maxRecDepth 100000 in
theorem info_set5 : ∃ i z, Tryd.prog.info? 30 = some i ∧ i.zero = some z ∧ i.size = 5 ∧ i.bytes = 56 ∧ z.cells.size = 5 := by
  refine ⟨_, _, rfl, rfl, ?_, ?_, ?_⟩ <;> kernel_rfl
set_option maxRecDepth 100000 in
theorem info_data8 : ∃ i z, Tryd.prog.info? 41 = some i ∧ i.zero = some z ∧ i.size = 8 ∧ i.bytes = 72 ∧ z.cells.size = 8 := by
  refine ⟨_, _, rfl, rfl, ?_, ?_, ?_⟩ <;> kernel_rfl
/-- ahead of a record. -/
def S5L (w1 wr : World) (S : List Rv) (i : Nat) (v : Value) : Prop := ∃ out, SR wr w1.heap.size v out ∧ SM S i out ∧ out.length ≤ i ∧ (∀ s ∈ out, s.ds.length ≤ i) ∧ Below w1.heap.size w1 wr
/-- with the set that it belongs to as the last one. -/
def S5N (w1 wr : World) (S : List Rv) (i : Nat) (v : Value) (pre : List Sx) (x : Sx) (r : Rv) : Prop := SR wr w1.heap.size v (pre ++ [x]) ∧ SN S i pre x r ∧ pre.length ≤ i ∧ (∀ s ∈ pre ++ [x], s.ds.length ≤ i) ∧ Below w1.heap.size w1 wr
set_option maxHeartbeats 16000000 in
set_option maxRecDepth 1000000 in
theorem refSets_any (l : List Rv) (A : Option Addr) (c : Nat) (w : World) (hS : Srow rcl 12 w 0 w.heap.size A l) (hq : ∀ r ∈ l, r.fits ∧ r.near) (hn : l.length ≤ 200) :
    Calls Tryd.prog 8 #[.slice A l.length c] w fun e w' => ∃ (out : List Sx) (v : Value), e = .returned v ∧ out.map Sx.st = Rr.sets (fcs l) ∧ SetsAt w' w.heap.size w'.heap.size v out ∧ Below w.heap.size w w' := by
  have HSO := Lib.hid (r5Sort_any l A c w hS hq hn)
  have HQ := Lib.hid hq
  have hi12 : (Tryd.prog.info? 43).map (·.size) = some 12 := by kernel_rfl
  have HI := Lib.hid hi12
  have hi8 : (Tryd.prog.info? 41).map (·.size) = some 8 := by kernel_rfl
  have HI8 := Lib.hid hi8
  clear hS hq hi12 hi8
  go_enter Tryd.func8, Tryd.ntmps8
  go_wp2_with (
    go_at_call 20
    refine HSO.out.mono ?_
    rintro e w1 ⟨v1, S, rfl, hsr, hown, B1⟩
    obtain ⟨AS, cS, rfl, _, hrow⟩ := Own.srow rcl_len hown
    have HSR := Lib.hid hsr
    have HRW := Lib.hid hrow
    have HB1 := Lib.hid B1
    clear hsr hown hrow B1)
  have hSl : S.length ≤ 200 := by rw [HSR.out.len]; exact hn
  go_loopw [3, 5, 6, 7] (fun s3 s5 _ _ wr => ∃ i : Nat, s5 = .int .i64 i ∧ i ≤ S.length ∧ Hid (S5L w1 wr S i s3)) (fun _ s5 _ _ _ => S.length - (intOf s5).toNat)
  case atStart => exact ⟨0, rfl, Nat.zero_le _, [], SR.nil _ _, SM.nil S, Nat.le_refl _, (fun s h => by cases h), Below.refl _ _⟩
  case round =>
    obtain ⟨i, rfl, hi, HO⟩ := hrel
    by_cases hlt : i < S.length
    · have hlti : (i : Int) < (S.length : Int) := by omega
      have i0 : (0 : Int) ≤ (i : Int) := by omega
      obtain ⟨out, hR, hM, hol, hdl, hB⟩ := HO.out
      clear HO
      obtain ⟨aO, cO, hv3, _⟩ := ownK_form hR.own
      subst hv3
      obtain ⟨m, hm⟩ : ∃ m, m = out.length := ⟨_, rfl⟩
      rw [← hm] at hR ⊢
      have HMM := Lib.hid hm
      clear hm
      obtain ⟨gS, oS, hA, _, hgS, hcS⟩ := HRW.out.at_ hlt
      subst hA
      have hrS : S[i]? = some S[i] := List.getElem?_eq_getElem hlt
      have hrm : S[i].fold = S[i] := folded_of HSR.out.1 _ (List.getElem_mem hlt)
      have hrn : S[i].fits ∧ S[i].near := by
        obtain ⟨p, hp, e⟩ := List.mem_map.1 (HSR.out.1.mem_iff.1 (List.getElem_mem hlt))
        have := HQ.out p hp
        rw [← e]
        exact ⟨rv_fold_fits this.1, rv_fold_near this.2⟩
      have HKO := Lib.hid (fun W : World => (show Calls Tryd.prog 21 #[.agg S[i].cells] W (fun e w' => e = .returned S[i].kv.val ∧ Below W.heap.size W w') from by have h := keyOfR_any S[i] W hrn.2.short; rw [hrm] at h; exact h))
      have HRS := Lib.hid hrS
      have HSH := Lib.hid hrn.2.short
      have HDS := Lib.hid (show S[i].d.short from hrn.2.short.2)
      have HRC : Hid (∀ W, Below w1.heap.size w1 W → W.rangeAt gS (oS + i * 12) (rcl S[i])) := fun W hW => range_below hW hgS hcS
      clear hrS hrm hrn hcS
      generalize S[i] = r at *
      obtain ⟨rn, rt, rk, rl, ⟨d0, d1, d2, n0, n1, n2, n3, n4⟩⟩ := r
      have HKP : Hid (∀ W : World, Calls Tryd.prog 21 #[.agg #[.string rn, .int .u16 rt, .int .u16 rk, .int .u32 rl, .string d0, .string d1, .string d2, .int .u32 n0, .int .u32 n1, .int .u32 n2, .int .u32 n3, .int .u32 n4]] W (fun e w' => e = .returned (.agg #[.string rn, .int .u16 rt, .int .u16 rk]) ∧ Below W.heap.size W w')) := HKO.out
      clear HKO
      have HC := Lib.hid (HRC.out wr hB)
      have HR := Lib.hid hR
      have HM := Lib.hid hM
      have HOL := Lib.hid hol
      have HDL := Lib.hid hdl
      have HB := Lib.hid hB
      clear hR hM hol hdl hB
      go_upto_region 7 with (first
        | (refine wpList_load_mid rfl 43 (.tmp 18) rfl gS _ rfl (rcl (⟨rn, rt, rk, rl, ⟨d0, d1, d2, n0, n1, n2, n3, n4⟩⟩ : Rv)) _ HC.out Tryd.underlying43 rfl HI.out ?_)
        | (go_at_call 21
           refine (HKP.out _).mono ?_
           rintro e w4 ⟨rfl, B⟩
           have HR5 := Lib.hid ((HR.out.up B).up ((Below.refl w4.heap.size w4).alloc (Nat.le_refl _) (.cells #[.string rn, .int .u16 rt, .int .u16 rk] 26)))
           have HB5 := Lib.hid ((HB.out.trans (B.mono HB.out.size)).alloc (Nat.le_trans HB.out.size B.size) (.cells #[.string rn, .int .u16 rt, .int .u16 rk] 26))
           have HK5 := Lib.hid (Has.fresh w4 26 #[.string rn, .int .u16 rt, .int .u16 rk])
           clear B))
      clear HR HB HC
      generalize w4.heap.size = gk at *
      generalize w4.alloc (.cells #[.string rn, .int .u16 rt, .int .u16 rk] 26) = w5 at *
      go_cut [34] from 10 to 107 (fun c wx => ∃ bb : Bool, c = .bool bb ∧ Hid ((bb = true → ∀ y, out.getLast? = some y → y.k ≠ (⟨rn, rt, rk, rl, ⟨d0, d1, d2, n0, n1, n2, n3, n4⟩⟩ : Rv).kv) ∧ (bb = false → ∃ pre y, out = pre ++ [y] ∧ y.k = (⟨rn, rt, rk, rl, ⟨d0, d1, d2, n0, n1, n2, n3, n4⟩⟩ : Rv).kv)) ∧ ∃ n, wx = w5.drewN n)
      case first =>
        have k0 : w5.cell? ⟨gk, 0, none⟩ = some (.string rn) := HK5.out.cell 0
        have k1 : w5.cell? ⟨gk, 1, none⟩ = some (.int .u16 rt) := HK5.out.cell 1
        have k2 : w5.cell? ⟨gk, 2, none⟩ = some (.int .u16 rk) := HK5.out.cell 2
        rcases nil_or_last out with h0 | ⟨pre, y, h0⟩
        · subst h0
          have hm0 : m = 0 := HMM.out
          have z0 : ((m : Int) == 0) = true := beq_iff_eq.2 (by omega)
          clear hm0
          go_quiet (fail)
          go_wp2_with fail
          go_meet
          exact ⟨true, rfl, ⟨fun _ y h => (by cases h), fun h => (by cases h)⟩, _, rfl⟩
        · subst h0
          obtain ⟨g, c3, hv3, _, _, hc, _⟩ := HR5.out.last_form
          have hm1 : m = pre.length + 1 := by have := HMM.out; rw [List.length_append, List.length_singleton] at this; exact this
          rw [← hm1] at hv3
          injection hv3 with e1 _ e3
          subst e1 e3
          obtain ⟨⟨yn, yt, yk⟩, yl, yv, yd⟩ := y
          have y0 : w5.cell? ⟨g, pre.length * 5, none⟩ = some (.string yn) := hc 0 _ rfl
          have y1 : w5.cell? ⟨g, pre.length * 5 + 1, none⟩ = some (.int .u16 yt) := hc 1 _ rfl
          have y2 : w5.cell? ⟨g, pre.length * 5 + 2, none⟩ = some (.int .u16 yk) := hc 2 _ rfl
          have pk : ∀ W, (Op.equalIn 10000 26 (.agg #[.string yn, .int .u16 yt, .int .u16 yk]) (.agg #[.string rn, .int .u16 rt, .int .u16 rk])).run Tryd.prog W = .ok (kvB ⟨yn, yt, yk⟩ ⟨rn, rt, rk⟩) W := fun W => kvRun W ⟨yn, yt, yk⟩ ⟨rn, rt, rk⟩ 9995
          have HIF := Lib.hid (kvB_iff ⟨yn, yt, yk⟩ ⟨rn, rt, rk⟩)
          have z0 : ((m : Int) == 0) = false := beq_eq_false_iff_ne.2 (by omega)
          have z1 : (m : Int) - 1 = (pre.length : Int) := by omega
          have z2 : (pre.length : Int) < (m : Int) := by omega
          have hpl : pre.length ≤ 200 := by have := HOL.out; rw [List.length_append, List.length_singleton] at this; omega
          clear hm1
          generalize kvB ⟨yn, yt, yk⟩ ⟨rn, rt, rk⟩ = q1 at *
          clear hc
          go_quiet (fail)
          go_wp2_with fail
          go_meet
          refine ⟨!q1, rfl, ⟨fun h y hy => ?_, fun h => ?_⟩, _, rfl⟩
          · rw [List.getLast?_concat] at hy
            injection hy with hy
            subst hy
            intro e
            have := HIF.out.2 e
            rw [this] at h
            cases h
          · exact ⟨pre, _, rfl, HIF.out.1 (by simpa using h)⟩
      case rest =>
      obtain ⟨bb, rfl, HBK, nq, hwx⟩ := hcut
      rename World => wq
      have HR6 : Hid (SR wq w1.heap.size (.slice aO m cO) out) := by rw [Hid, hwx]; exact HR5.out.drewN nq
      have HB6 : Hid (Below w1.heap.size w1 wq) := by rw [Hid, hwx]; exact below_drewN HB5.out nq
      have HK6 : Hid (Has wq gk 26 #[.string rn, .int .u16 rt, .int .u16 rk]) := by rw [Hid, hwx]; exact HK5.out
      clear hwx HR5 HB5 HK5
      go_upto_if 34 with fail
      go_cut [3] from 10 to 107 (fun v3 wx => ∃ pre x, Hid (S5N w1 wx S i v3 pre x (⟨rn, rt, rk, rl, ⟨d0, d1, d2, n0, n1, n2, n3, n4⟩⟩ : Rv)))
      case first =>
        cases bb
        · obtain ⟨pre, y, h0, hyk⟩ := HBK.out.2 rfl
          subst h0
          have hol := HOL.out
          rw [List.length_append, List.length_singleton] at hol
          go_wp2_with fail
          go_meet
          exact ⟨pre, y, HR6.out, HM.out.last HRS.out hyk, by omega, HDL.out, HB6.out⟩
        · have HNK := Lib.hid (HBK.out.1 rfl)
          clear HBK
          have hown := HR6.out.own
          rw [← HMM.out] at hown
          have hm2 : m ≤ 200 := by have := HMM.out; have := HOL.out; omega
          obtain ⟨i5, z5, hi5, hz5, hs5, hb5, hc5⟩ := info_set5
          obtain ⟨v7, w7, hr7, ho7, hg7, hv7⟩ := run_append_where (P := Tryd.prog) (w := wq.drew.alloc (.cells #[.string rn, .int .u16 rt, .int .u16 rk, .int .u32 rl, .slice none 0 0] 30)) w1.heap.size 34 34 30 i5 z5 5 56 Tryd.underlying34 hi5 hz5 hs5 hb5 hc5 (by decide) (.slice aO m cO) m (fl Sx.cells out)
            ((own_drewN hown 1).alloc _) ⟨wq.heap.size, 0, none⟩ 1 1 (Sx.cells ⟨(⟨rn, rt, rk, rl, ⟨d0, d1, d2, n0, n1, n2, n3, n4⟩⟩ : Rv).kv, rl, .slice none 0 0, []⟩) rfl (r5_new wq.drew _ _) (by simp [Sx.cells, Value.oneCell']) (by decide) (by unfold maxLen; omega) (by omega) (by have := HB6.out.size; simp; omega)
          have HP7 : Hid (SR w7 w1.heap.size v7 (out ++ [⟨(⟨rn, rt, rk, rl, ⟨d0, d1, d2, n0, n1, n2, n3, n4⟩⟩ : Rv).kv, rl, .slice none 0 0, []⟩])) := by
            have h := (HR6.out.drewN 1).up ((Below.refl (wq.drewN 1).heap.size (wq.drewN 1)).alloc (Nat.le_refl _) (.cells #[.string rn, .int .u16 rt, .int .u16 rk, .int .u32 rl, .slice none 0 0] 30))
            exact h.push (by rw [fl_append, fl_one, ← HMM.out]; exact ho7) hg7 hv7
          have HB7 : Hid (Below w1.heap.size w1 w7) := (HB6.out.drew.alloc (by have := HB6.out.size; simpa using this) _).grown hg7 (by have := HB6.out.size; simp; omega) (fun q e => (hown.lt q e).1)
          have HN7 := Lib.hid (HM.out.push (r := (⟨rn, rt, rk, rl, ⟨d0, d1, d2, n0, n1, n2, n3, n4⟩⟩ : Rv)) HRS.out HSH.out.1 HNK.out (.slice none 0 0))
          have HR7 := Lib.hid hr7
          have k0 : wq.cell? ⟨gk, 0, none⟩ = some (.string rn) := HK6.out.cell 0
          have k1 : wq.cell? ⟨gk, 1, none⟩ = some (.int .u16 rt) := HK6.out.cell 1
          have k2 : wq.cell? ⟨gk, 2, none⟩ = some (.int .u16 rk) := HK6.out.cell 2
          have r3 : wq.cell? ⟨gS, oS + i * 12 + 3, none⟩ = some (.int .u32 rl) := HRC.out wq HB6.out 3 _ rfl
          clear hr7 ho7 hg7 hv7 hown
          go_upto_region 8 with fail
          go_region_law (refine r5_append_run (.tmp 35) (.tmp 43) _ _ rfl _ _ rfl rfl HR7.out ?_)
          all_goals
            go_wp2_with fail
            go_meet
            exact ⟨out, _, HP7.out, HN7.out, HOL.out, (fun s hs => by
              rcases List.mem_append.1 hs with hs | hs
              · exact HDL.out s hs
              · rw [List.mem_singleton.1 hs]; exact Nat.zero_le _), HB7.out⟩
      case rest =>
      obtain ⟨pre, x, HN⟩ := hcut
      rename World => wn
      clear HR6 HB6 HK6 HM HOL HDL HBK HMM
      obtain ⟨hSR, hSN, hpl, hdl, hbe⟩ := HN.out
      clear HN
      obtain ⟨g, c3, hv3, hgb, hgl, hce, hfz⟩ := hSR.last_form
      subst hv3
      obtain ⟨m2, hm2⟩ : ∃ m, m = pre.length + 1 := ⟨_, rfl⟩
      rw [← hm2] at hSR ⊢
      have z1 : (m2 : Int) - 1 = (pre.length : Int) := by omega
      have z2 : (pre.length : Int) < (m2 : Int) := by omega
      have hplb : pre.length ≤ 200 := by omega
      have hm2b : m2 ≤ 201 := by omega
      have HM2 := Lib.hid hm2
      have HSR2 := Lib.hid hSR
      have HSN := Lib.hid hSN
      have HPL := Lib.hid hpl
      have HDL := Lib.hid hdl
      have HBE := Lib.hid hbe
      have HGB := Lib.hid hgb
      have t3 : wn.cell? ⟨g, pre.length * 5 + 3, none⟩ = some (.int .u32 x.ttl) := hce 3 _ rfl
      have r3 : wn.cell? ⟨gS, oS + i * 12 + 3, none⟩ = some (.int .u32 rl) := HRC.out wn hbe 3 _ rfl
      have f3 := hfz (pre.length * 5 + 3)
      clear hSR hSN hpl hdl hbe hgb hgl hce hfz hm2
      go_upto_region 10 with fail
      go_cut [59] from 10 to 107 (fun c wx => ∃ dc : Bool, c = .bool dc ∧ Hid (dc = true ↔ rl < x.ttl) ∧ ∃ n, wx = wn.drewN n)
      case first =>
        by_cases hl2 : rl < x.ttl
        · have hI : (rl : Int) < (x.ttl : Int) := by omega
          have HL2 := Lib.hid hl2
          clear hl2
          go_quiet (fail)
          go_wp2_with fail
          go_meet
          exact ⟨true, rfl, ⟨fun _ => HL2.out, fun _ => rfl⟩, _, rfl⟩
        · have hI : ¬ (rl : Int) < (x.ttl : Int) := by omega
          have HL2 := Lib.hid hl2
          clear hl2
          go_quiet (fail)
          go_wp2_with fail
          go_meet
          exact ⟨false, rfl, ⟨fun h => (by cases h), fun h => absurd h HL2.out⟩, _, rfl⟩
      case rest =>
      obtain ⟨dc, rfl, HDC, nq2, hwx⟩ := hcut
      rename World => wt
      have HR7 : Hid (SR wt w1.heap.size (.slice (some ⟨g, 0, none⟩) m2 c3) (pre ++ [x])) := by rw [Hid, hwx]; exact HSR2.out.drewN nq2
      have HB7 : Hid (Below w1.heap.size w1 wt) := by rw [Hid, hwx]; exact below_drewN HBE.out nq2
      have t3' : wt.cell? ⟨g, pre.length * 5 + 3, none⟩ = some (.int .u32 x.ttl) := by rw [hwx]; exact t3
      have r3' : wt.cell? ⟨gS, oS + i * 12 + 3, none⟩ = some (.int .u32 rl) := by rw [hwx]; exact r3
      have f3' : wt.frozen? ⟨g, pre.length * 5 + 3, none⟩ = false := by rw [hwx]; exact f3
      clear hwx HSR2 HBE t3 r3 f3
      go_upto_if 59 with fail
      go_cut [7] from 10 to 107 (fun p wx => p = .pointer (some ⟨g, pre.length * 5, none⟩) ∧ Hid (SR wx w1.heap.size (.slice (some ⟨g, 0, none⟩) m2 c3) (pre ++ [⟨x.k, min x.ttl rl, x.v, x.ds⟩]) ∧ Below w1.heap.size w1 wx))
      case first =>
        cases dc
        · have HMN : Hid (min x.ttl rl = x.ttl) := Nat.min_eq_left (Nat.le_of_not_lt (fun h => by have := HDC.out.2 h; cases this))
          go_wp2_with fail
          go_meet
          exact ⟨rfl, by rw [HMN.out]; exact HR7.out, HB7.out⟩
        · have HMN : Hid (min x.ttl rl = rl) := Nat.min_eq_right (Nat.le_of_lt (HDC.out.1 rfl))
          have HST : Hid (SR (wt.setCell ⟨g, pre.length * 5 + 3, none⟩ (.int .u32 rl)) w1.heap.size (.slice (some ⟨g, 0, none⟩) m2 c3) (pre ++ [⟨x.k, rl, x.v, x.ds⟩])) := by
            have h := HR7.out
            rw [HM2.out] at h
            rw [Hid, HM2.out]
            exact (h.ttl rl).1
          go_wp2_with fail
          go_meet
          exact ⟨rfl, by rw [HMN.out]; exact HST.out, HB7.out.setCell (p := ⟨g, pre.length * 5 + 3, none⟩) HGB.out _⟩
      case rest =>
      obtain ⟨rfl, HU⟩ := hcut
      rename World => wu
      clear t3' r3' f3' HR7 HB7
      obtain ⟨tm, htm⟩ : ∃ tm, tm = min x.ttl rl := ⟨_, rfl⟩
      rw [← htm] at HU
      have HTM := Lib.hid htm
      clear htm
      go_upto_region 12 with fail
      go_cut [93] from 10 to 107 (fun c wx => ∃ bb2 : Bool, c = .bool bb2 ∧ Hid ((bb2 = true → cpD x.ds (⟨d0, d1, d2, n0, n1, n2, n3, n4⟩ : Dv) = x.ds ++ [(⟨d0, d1, d2, n0, n1, n2, n3, n4⟩ : Dv)]) ∧ (bb2 = false → cpD x.ds (⟨d0, d1, d2, n0, n1, n2, n3, n4⟩ : Dv) = x.ds)) ∧ ∃ n, wx = wu.drewN n)
      case first =>
        have hform := HU.out.1
        rw [HM2.out] at hform
        obtain ⟨g9, c9, e9, _, _, hce, _⟩ := hform.last_form
        injection e9 with e9 e9b e9c
        injection e9 with e9
        injection e9 with e9 e9d e9f
        subst e9
        clear e9b e9c
        have y4 : wu.cell? ⟨g, pre.length * 5 + 4, none⟩ = some x.v := hce 4 _ rfl
        have hrr := HRC.out wu HU.out.2
        have q4 : wu.cell? ⟨gS, oS + i * 12 + 4, none⟩ = some (.string d0) := hrr 4 _ rfl
        have q5 : wu.cell? ⟨gS, oS + i * 12 + 4 + 1, none⟩ = some (.string d1) := hrr 5 _ rfl
        have q6 : wu.cell? ⟨gS, oS + i * 12 + 4 + 2, none⟩ = some (.string d2) := hrr 6 _ rfl
        have q7 : wu.cell? ⟨gS, oS + i * 12 + 4 + 3, none⟩ = some (.int .u32 n0) := hrr 7 _ rfl
        have q8 : wu.cell? ⟨gS, oS + i * 12 + 4 + 4, none⟩ = some (.int .u32 n1) := hrr 8 _ rfl
        have q9 : wu.cell? ⟨gS, oS + i * 12 + 4 + 5, none⟩ = some (.int .u32 n2) := hrr 9 _ rfl
        have q10 : wu.cell? ⟨gS, oS + i * 12 + 4 + 6, none⟩ = some (.int .u32 n3) := hrr 10 _ rfl
        have q11 : wu.cell? ⟨gS, oS + i * 12 + 4 + 7, none⟩ = some (.int .u32 n4) := hrr 11 _ rfl
        rcases hform.data_form with ⟨h0, A9, c8, hv⟩ | ⟨dp, dl, gd, cd, h0, hv, hdc⟩
        · have hv' : x.v = .slice A9 0 c8 := hv
          have h0' : x.ds = [] := h0
          rw [hv'] at y4
          have HD0 := Lib.hid h0'
          clear hform hce hrr hv h0 hv' h0'
          go_quiet (fail)
          go_wp2_with fail
          go_meet
          exact ⟨true, rfl, ⟨fun _ => by rw [HD0.out]; rfl, fun h => (by cases h)⟩, _, rfl⟩
        · have hv' : x.v = .slice (some ⟨gd, 0, none⟩) (dp.length + 1) cd := hv
          have h0' : x.ds = dp ++ [dl] := h0
          rw [hv'] at y4
          have hdb : dp.length + 1 ≤ 200 := by have := HDL.out x (by simp); rw [h0', List.length_append, List.length_singleton] at this; omega
          obtain ⟨md, hmd⟩ : ∃ m, m = dp.length + 1 := ⟨_, rfl⟩
          rw [← hmd] at y4 hdb
          have w1' : ((md : Int) == 0) = false := beq_eq_false_iff_ne.2 (by omega)
          have w2' : (md : Int) - 1 = (dp.length : Int) := by omega
          have w3' : (dp.length : Int) < (md : Int) := by omega
          have w4' : dp.length ≤ 200 := by omega
          have HD0 := Lib.hid h0'
          obtain ⟨e0, e1, e2, k0, k1, k2, k3, k4⟩ := dl
          have p0 : wu.cell? ⟨gd, dp.length * 8, none⟩ = some (.string e0) := hdc 0 _ rfl
          have p1 : wu.cell? ⟨gd, dp.length * 8 + 1, none⟩ = some (.string e1) := hdc 1 _ rfl
          have p2 : wu.cell? ⟨gd, dp.length * 8 + 2, none⟩ = some (.string e2) := hdc 2 _ rfl
          have p3 : wu.cell? ⟨gd, dp.length * 8 + 3, none⟩ = some (.int .u32 k0) := hdc 3 _ rfl
          have p4 : wu.cell? ⟨gd, dp.length * 8 + 4, none⟩ = some (.int .u32 k1) := hdc 4 _ rfl
          have p5 : wu.cell? ⟨gd, dp.length * 8 + 5, none⟩ = some (.int .u32 k2) := hdc 5 _ rfl
          have p6 : wu.cell? ⟨gd, dp.length * 8 + 6, none⟩ = some (.int .u32 k3) := hdc 6 _ rfl
          have p7 : wu.cell? ⟨gd, dp.length * 8 + 7, none⟩ = some (.int .u32 k4) := hdc 7 _ rfl
          have pd : ∀ W, (Op.equalIn 10000 41 (.agg #[.string e0, .string e1, .string e2, .int .u32 k0, .int .u32 k1, .int .u32 k2, .int .u32 k3, .int .u32 k4]) (.agg #[.string d0, .string d1, .string d2, .int .u32 n0, .int .u32 n1, .int .u32 n2, .int .u32 n3, .int .u32 n4])).run Tryd.prog W = .ok (dvB ⟨e0, e1, e2, k0, k1, k2, k3, k4⟩ (⟨d0, d1, d2, n0, n1, n2, n3, n4⟩ : Dv)) W := fun W => dvRun W ⟨e0, e1, e2, k0, k1, k2, k3, k4⟩ (⟨d0, d1, d2, n0, n1, n2, n3, n4⟩ : Dv) 9996
          have HIF := Lib.hid (dvB_iff ⟨e0, e1, e2, k0, k1, k2, k3, k4⟩ (⟨d0, d1, d2, n0, n1, n2, n3, n4⟩ : Dv))
          generalize dvB ⟨e0, e1, e2, k0, k1, k2, k3, k4⟩ (⟨d0, d1, d2, n0, n1, n2, n3, n4⟩ : Dv) = q1 at *
          clear hform hce hrr hv h0 hv' h0' hdc hmd
          go_quiet (fail)
          go_wp2_with fail
          go_meet
          refine ⟨!q1, rfl, ⟨fun h => ?_, fun h => ?_⟩, _, rfl⟩
          · rw [HD0.out]
            refine cpD_other (fun e => ?_)
            have := HIF.out.2 e
            rw [this] at h
            cases h
          · rw [HD0.out, HIF.out.1 (by simpa using h)]
            exact cpD_same
      case rest =>
      obtain ⟨bb2, rfl, HCP, nq3, hwx⟩ := hcut
      rename World => wv
      have HR8 : Hid (SR wv w1.heap.size (.slice (some ⟨g, 0, none⟩) m2 c3) (pre ++ [⟨x.k, tm, x.v, x.ds⟩])) := by rw [Hid, hwx]; exact HU.out.1.drewN nq3
      have HB8 : Hid (Below w1.heap.size w1 wv) := by rw [Hid, hwx]; exact below_drewN HU.out.2 nq3
      clear hwx HU
      go_upto_if 93 with fail
      cases bb2
      · go_wp2_with fail
        go_roundw
        case rel =>
          refine ⟨i + 1, by go_num, by omega, pre ++ [⟨x.k, tm, x.v, x.ds⟩], HR8.out, HSN.out.next HDS.out ⟨x.k, tm, x.v, x.ds⟩ rfl HTM.out (HCP.out.2 rfl).symm, by have := HPL.out; simp; omega, fun s hs => ?_, HB8.out⟩
          rcases List.mem_append.1 hs with hs | hs
          · have := HDL.out s (List.mem_append_left _ hs)
            omega
          · rw [List.mem_singleton.1 hs]
            have := HDL.out x (by simp)
            exact Nat.le_succ_of_le this
        case measure => simp [intOf]; omega
      · have hform := HR8.out
        rw [HM2.out] at hform
        obtain ⟨g9, c9, e9, _, _, hce, hfz⟩ := hform.last_form
        injection e9 with e9 e9b e9c
        injection e9 with e9
        injection e9 with e9 e9d e9f
        subst e9
        clear e9b e9c
        have hdat := hform.dat ⟨x.k, tm, x.v, x.ds⟩ (by simp)
        have hdat' : wv.ownsRow w1.heap.size 41 8 x.v x.ds.length (fl dcl x.ds) := hdat
        have hdb : x.ds.length ≤ 200 := by have := HDL.out x (by simp); omega
        have hc4 : wv.cell? ⟨g, pre.length * 5 + 4, none⟩ = some x.v := hce 4 _ rfl
        have hle := HB8.out.size
        obtain ⟨aD, cD, hvD, _⟩ := ownK_form hdat'
        obtain ⟨i8, z8, hi8, hz8, hs8, hb8, hc8⟩ := info_data8
        have hdr : (wv.drew.alloc (.cells #[.string d0, .string d1, .string d2, .int .u32 n0, .int .u32 n1, .int .u32 n2, .int .u32 n3, .int .u32 n4] 41)).ownsRow w1.heap.size 41 8 x.v x.ds.length (fl dcl x.ds) := (own_drewN hdat' 1).alloc _
        obtain ⟨v9, w9, hr9, ho9, hg9, hv9⟩ := run_append_where (P := Tryd.prog) (w := wv.drew.alloc (.cells #[.string d0, .string d1, .string d2, .int .u32 n0, .int .u32 n1, .int .u32 n2, .int .u32 n3, .int .u32 n4] 41)) w1.heap.size 28 28 41 i8 z8 8 72 Tryd.underlying28 hi8 hz8 hs8 hb8 hc8 (by decide) x.v x.ds.length (fl dcl x.ds)
          hdr ⟨wv.heap.size, 0, none⟩ 1 1 (dcl (⟨d0, d1, d2, n0, n1, n2, n3, n4⟩ : Dv)) rfl (r5_new wv.drew _ _) (by simp [dcl, Dv.cells, Value.oneCell']) (by decide) (by unfold maxLen; omega) (by omega) (by simp; omega)
        obtain ⟨aX, cX, hvX, _⟩ := ownK_form ho9
        subst hvX
        have hra := (hform.drewN 1).up ((Below.refl (wv.drewN 1).heap.size (wv.drewN 1)).alloc (Nat.le_refl _) (.cells #[.string d0, .string d1, .string d2, .int .u32 n0, .int .u32 n1, .int .u32 n2, .int .u32 n3, .int .u32 n4] 41))
        have hsd := hra.data (d := (⟨d0, d1, d2, n0, n1, n2, n3, n4⟩ : Dv)) (by rw [fl_append, fl_one]; exact ho9) hg9 hv9
        have hne : some g ≠ x.v.ownBlock := fun e => hform.last_off g e.symm rfl
        have d4 : w9.cell? ⟨g, pre.length * 5 + 4, none⟩ = some x.v := hg9.cell (a := ⟨g, pre.length * 5 + 4, none⟩) (by have := (hra.last_form); obtain ⟨g8, c7, e8, _, _, hce8, _⟩ := this; injection e8 with e8 _ _; injection e8 with e8; injection e8 with e8 _ _; subst e8; exact hce8 4 _ rfl) hne
        have f4 : w9.frozen? ⟨g, pre.length * 5 + 4, none⟩ = false := by
          obtain ⟨g8, c7, e8, _, _, _, hfz8⟩ := hsd.1.last_form
          injection e8 with e8 _ _
          injection e8 with e8
          injection e8 with e8 _ _
          subst e8
          simpa using hfz8 (pre.length * 5 + 4)
        have e4 : (wv.alloc (.cells #[.string d0, .string d1, .string d2, .int .u32 n0, .int .u32 n1, .int .u32 n2, .int .u32 n3, .int .u32 n4] 41)).cell? ⟨g, pre.length * 5 + 4, none⟩ = some x.v := by
          obtain ⟨g8, c7, e8, _, _, hce8, _⟩ := (hform.up ((Below.refl wv.heap.size wv).alloc (Nat.le_refl _) (.cells #[.string d0, .string d1, .string d2, .int .u32 n0, .int .u32 n1, .int .u32 n2, .int .u32 n3, .int .u32 n4] 41))).last_form
          injection e8 with e8 _ _
          injection e8 with e8
          injection e8 with e8 _ _
          subst e8
          exact hce8 4 _ rfl
        have HB9 : Hid (Below w1.heap.size w1 w9) := (HB8.out.drew.alloc (by simpa using hle) _).grown hg9 (by simp; omega) (fun q e => (hdat'.lt q e).1)
        have HSD : Hid (SR (w9.setCell ⟨g, pre.length * 5 + 4, none⟩ (.slice aX (x.ds.length + 1) cX)) w1.heap.size (.slice (some ⟨g, 0, none⟩) m2 c3) (pre ++ [⟨x.k, tm, .slice aX (x.ds.length + 1) cX, x.ds ++ [(⟨d0, d1, d2, n0, n1, n2, n3, n4⟩ : Dv)]⟩])) := by rw [Hid, HM2.out]; exact hsd.1
        have HR9 := Lib.hid hr9
        have hrr := HRC.out wv HB8.out
        have q4 : wv.cell? ⟨gS, oS + i * 12 + 4, none⟩ = some (.string d0) := hrr 4 _ rfl
        have q5 : wv.cell? ⟨gS, oS + i * 12 + 4 + 1, none⟩ = some (.string d1) := hrr 5 _ rfl
        have q6 : wv.cell? ⟨gS, oS + i * 12 + 4 + 2, none⟩ = some (.string d2) := hrr 6 _ rfl
        have q7 : wv.cell? ⟨gS, oS + i * 12 + 4 + 3, none⟩ = some (.int .u32 n0) := hrr 7 _ rfl
        have q8 : wv.cell? ⟨gS, oS + i * 12 + 4 + 4, none⟩ = some (.int .u32 n1) := hrr 8 _ rfl
        have q9 : wv.cell? ⟨gS, oS + i * 12 + 4 + 5, none⟩ = some (.int .u32 n2) := hrr 9 _ rfl
        have q10 : wv.cell? ⟨gS, oS + i * 12 + 4 + 6, none⟩ = some (.int .u32 n3) := hrr 10 _ rfl
        have q11 : wv.cell? ⟨gS, oS + i * 12 + 4 + 7, none⟩ = some (.int .u32 n4) := hrr 11 _ rfl
        rw [hvD] at HR9 hc4 d4 e4
        have HVD := Lib.hid hvD
        clear hr9 ho9 hg9 hv9 hra hsd hne hform hdat hdat' hdr hce hfz hrr hvD
        go_upto_region 13 with fail
        go_region_law (refine r5_append_run (.tmp 98) (.tmp 104) _ _ rfl _ _ rfl rfl HR9.out ?_)
        all_goals
          go_wp2_with fail
          go_roundw
          case rel =>
            refine ⟨i + 1, by go_num, by omega, pre ++ [⟨x.k, tm, .slice aX (x.ds.length + 1) cX, x.ds ++ [(⟨d0, d1, d2, n0, n1, n2, n3, n4⟩ : Dv)]⟩], HSD.out, HSN.out.next HDS.out ⟨x.k, tm, .slice aX (x.ds.length + 1) cX, x.ds ++ [(⟨d0, d1, d2, n0, n1, n2, n3, n4⟩ : Dv)]⟩ rfl HTM.out (HCP.out.1 rfl).symm, by have := HPL.out; simp; omega, fun s hs => ?_, HB9.out.setCell (p := ⟨g, pre.length * 5 + 4, none⟩) HGB.out _⟩
            rcases List.mem_append.1 hs with hs | hs
            · have := HDL.out s (List.mem_append_left _ hs)
              omega
            · rw [List.mem_singleton.1 hs]
              have := HDL.out x (by simp)
              show (x.ds ++ [(⟨d0, d1, d2, n0, n1, n2, n3, n4⟩ : Dv)]).length ≤ i + 1
              simp
              omega
          case measure => simp [intOf]; omega
    · obtain rfl : i = S.length := by omega
      obtain ⟨out, hR, hM, _, _, hB⟩ := HO.out
      have HX := Lib.hid (hM.all HSR.out)
      have HE := Lib.hid (hR.ends (lo := w.heap.size) HB1.out.size hM.ok hM.some_)
      have HBZ := Lib.hid (HB1.out.trans (hB.mono HB1.out.size))
      clear HO hR hM hB
      go_wp2_with fail
      go_ret
      exact ⟨out, _, rfl, HX.out, HE.out, HBZ.out⟩
end Go.Proofs.YtmieakkhpkclpaaDoor
