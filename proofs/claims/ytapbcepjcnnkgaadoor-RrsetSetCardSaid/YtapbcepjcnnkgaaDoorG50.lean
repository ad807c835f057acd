/- Texts of the proofs, merged. -/
import Derived.Test.YtapbcepjcnnkgaaDoorG49
/- RrsetSet: the walk. -/
namespace Go.Proofs.YtapbcepjcnnkgaaDoor
open Go.RowKit Go.Sort Go.Shelf

set_option maxHeartbeats 8000000 in
set_option maxRecDepth 1000000 in
theorem set_long (w : World) (hL : LayR w) (A : Option Addr) (l : List Rv) (c : Nat) (at' : Int) (hn : 200 < l.length) :
    Calls Tryd.prog 4 #[.slice A l.length c, .int .u8 at'] w fun e w' => e = .returned (.bool true) ∧ Below w.heap.size w w' := by
  have HW := Lib.hid (rrWakes w hL)
  have d1 : decide ((200 : Int) < (l.length : Int)) = true := by rw [decide_eq_true_iff]; omega
  clear hL hn
  go_enter Tryd.func4, Tryd.ntmps4
  go_wp2_with (go_at_call 5; (with_reducible refine HW.out.mono ?_); rintro e w5 ⟨rfl, B5⟩; have HB5 := Lib.hid B5; clear B5)
  go_ret
  exact ⟨rfl, HB5.out⟩
set_option maxHeartbeats 16000000 in
set_option maxRecDepth 1000000 in
theorem set_short (w : World) (hL : LayR w) (A : Option Addr) (l : List Rv) (c : Nat) (_hc : l.length ≤ c) (hna : A = none → c = 0) (hS : Srow rcl 12 w 0 w.heap.size A l) (fl' : ∀ r ∈ l, r.nums ∧ r.short) (at' : Nat) (ha : at' ≤ 255) (hn : l.length ≤ 200) :
    Calls Tryd.prog 4 #[.slice A l.length c, .int .u8 at'] w fun e w' => e = .returned (.bool true) ∧ Below w.heap.size w w' := by
  have d1 : decide ((200 : Int) < (l.length : Int)) = false := by rw [decide_eq_false_iff_not]; omega
  have HLAY := Lib.hid (fun (W : World) (h : Below w.heap.size w W) => hL.below h (Nat.le_refl _))
  have HWK := Lib.hid (fun (W : World) (h : Below w.heap.size w W) => rrWakes W (hL.below h (Nat.le_refl _)))
  have HL0 := Lib.hid (fun (W : World) (h : Below w.heap.size w W) => (show Rdx rcl 12 W A c l from Rdx.keep ⟨_hc, hna, hS⟩ h))
  have HTU := Lib.hid (turned_any l A c at' w hS hn ha)
  have HOW := Lib.hid (fun (xs : List Rv) (A : Option Addr) (c : Nat) (W : World) (h : Rdx rcl 12 W A c xs) (hx : xs.length ≤ 4294967296) => owned_any xs A c W h.row h.nil hx)
  have HSO := Lib.hid (fun (xs : List Rv) (A : Option Addr) (c : Nat) (W : World) (hb : Below w.heap.size w W) (h : Srow rcl 12 W 0 W.heap.size A xs) (hx : ∀ r ∈ xs, r.nums ∧ r.short) (hxl : xs.length ≤ 4294967296) => rrSort_any xs A c W (HLAY.out W hb) h hx hxl)
  have HSE := Lib.hid (fun (xs : List Rv) (A : Option Addr) (c : Nat) (W : World) (hb : Below w.heap.size w W) (h : Srow rcl 12 W 0 W.heap.size A xs) (hx : ∀ r ∈ xs, r.nums ∧ r.short) (hxl : xs.length ≤ 4294967296) => sets_any xs A c W (HLAY.out W hb) h hx hxl)
  have HCM := Lib.hid (fun (a b : Rv) (W : World) (hb : Below w.heap.size w W) (h1 : a.nums ∧ a.short) (h2 : b.nums ∧ b.short) => (show Calls Tryd.prog 15 #[.agg a.cells, .agg b.cells] W (fun e w' => e = .returned (.int .i64 (Rr.cmpR a.fold.rc b.fold.rc)) ∧ Below W.heap.size W w') from rrCmp_any a b W (HLAY.out W hb) h1 h2))
  obtain ⟨other, hot⟩ : ∃ o, turnB l l.length at' = o := ⟨_, rfl⟩
  have hol : other.length = l.length := by rw [← hot]; exact turnB_len l _ at' (Nat.le_refl _)
  have hop : other.Perm l := by rw [← hot]; exact turnB_all l at'
  rw [hot] at HTU
  have HFL : Hid (∀ r ∈ l, r.nums ∧ r.short) := fl'
  have HFO : Hid (∀ r ∈ other, r.nums ∧ r.short) := fun r h => fl' r (hop.mem_iff.1 h)
  have HOP := Lib.hid hop
  have HOL := Lib.hid hol
  have hi12 : (Tryd.prog.info? 44).map (·.size) = some 12 := by kernel_rfl
  have HI := Lib.hid hi12
  have s0 : IntKind.i64.wrap (at' : Int) = (at' : Int) := IntWalk.i64_in _ (by omega)
  have s9 : wrap64 (at' : Int) = (at' : Int) := by simp only [wrap64]; omega
  clear hL hna hS fl' hot hol hop hi12
  go_enter Tryd.func4, Tryd.ntmps4
  go_wp2_with (first
    | (go_at_call 13
       refine HTU.out.mono ?_
       rintro e w1 ⟨v1, rfl, ho, B⟩
       obtain ⟨Ao, co, rfl, ro⟩ := Rdx.own rcl_len ho
       rw [HOL.out]
       have HRO1 := Lib.hid ro
       have HB1 := Lib.hid B
       clear ho B ro)
    | (go_at_call_of 6 (Value.slice A l.length c)
       refine (HOW.out l A c _ (HL0.out _ HB1.out) (by omega)).mono ?_
       rintro e w2 ⟨A2, c2, rfl, _, S2, B⟩
       have HR2 := Lib.hid (S2.more (Nat.zero_le _) (Nat.le_refl _))
       have HRO2 := Lib.hid (HRO1.out.keep B)
       have HB2 := Lib.hid (HB1.out.trans (B.mono HB1.out.size))
       clear S2 B)
    | (go_at_call_of 14 (Value.slice A2 l.length c2)
       refine (HSO.out l A2 c2 _ HB2.out HR2.out HFL.out (by omega)).mono ?_
       rintro e w3 ⟨ga, la, rfl, h1, h2, S, B⟩
       have HSa := Lib.hid h1
       have HFa := Lib.hid h2
       have HRa3 : Hid (Rdx rcl 12 w3 (some ⟨ga, 0, none⟩) l.length la) := ⟨by rw [h1.len]; exact Nat.le_refl _, (fun h => by cases h), S.more (Nat.zero_le _) (Nat.le_refl _)⟩
       have HRO3 := Lib.hid (HRO2.out.keep B)
       have HB3 := Lib.hid (HB2.out.trans (B.mono HB2.out.size))
       clear h1 h2 S B)
    | (go_at_call_of 6 (Value.slice Ao l.length co)
       have h4 := HOW.out other Ao co _ HRO3.out (by rw [HOL.out]; omega)
       rw [HOL.out] at h4
       refine h4.mono ?_
       rintro e w4 ⟨A4, c4, rfl, _, S2, B⟩
       have HR4 := Lib.hid (S2.more (Nat.zero_le _) (Nat.le_refl _))
       have HRa4 := Lib.hid (HRa3.out.keep B)
       have HRO4 := Lib.hid (HRO3.out.keep B)
       have HB4 := Lib.hid (HB3.out.trans (B.mono HB3.out.size))
       clear S2 B h4)
    | (go_at_call_of 14 (Value.slice A4 l.length c4)
       have h5 := HSO.out other A4 c4 _ HB4.out HR4.out HFO.out (by rw [HOL.out]; omega)
       rw [HOL.out] at h5
       refine h5.mono ?_
       rintro e w5 ⟨gb, lb, rfl, h1, h2, S, B⟩
       obtain rfl : lb = la := h1.one HSa.out HOP.out
       have HRb5 := Lib.hid (S.more (Nat.zero_le _) (Nat.le_refl _))
       have HRa5 := Lib.hid (HRa4.out.keep B)
       have HRO5 := Lib.hid (HRO4.out.keep B)
       have HB5 := Lib.hid (HB4.out.trans (B.mono HB4.out.size))
       clear h1 h2 S B h5)
    | (go_at_call_of 6 (Value.slice (some ⟨ga, 0, none⟩) l.length l.length)
       have h6 := HOW.out lb (some ⟨ga, 0, none⟩) l.length _ HRa5.out (by rw [HSa.out.len]; omega)
       rw [HSa.out.len] at h6
       refine h6.mono ?_
       rintro e w6 ⟨A6, c6, rfl, _, S2, B⟩
       have HR6 := Lib.hid (S2.more (Nat.zero_le _) (Nat.le_refl _))
       have HRb6 := Lib.hid ((HRb5.out.keep B).more (Nat.le_refl _) B.size)
       have HRa6 := Lib.hid (HRa5.out.keep B)
       have HRO6 := Lib.hid (HRO5.out.keep B)
       have HB6 := Lib.hid (HB5.out.trans (B.mono HB5.out.size))
       clear S2 B h6)
    | (go_at_call_of 14 (Value.slice A6 l.length c6)
       have h7 := HSO.out lb A6 c6 _ HB6.out HR6.out HFa.out (by rw [HSa.out.len]; omega)
       rw [HSa.out.len] at h7
       refine h7.mono ?_
       rintro e w7 ⟨gc, lc, rfl, h1, h2, S, B⟩
       obtain rfl : lb = lc := HSa.out.again h1
       have HRc7 := Lib.hid (S.more (Nat.zero_le _) (Nat.le_refl _))
       have HRb7 := Lib.hid ((HRb6.out.keep B).more (Nat.le_refl _) B.size)
       have HRa7 := Lib.hid HRa6.out.row
       have HRa7 := Lib.hid ((HRa7.out.keep B).more (Nat.le_refl _) B.size)
       have HRO7 := Lib.hid (HRO6.out.keep B)
       have HB7 := Lib.hid (HB6.out.trans (B.mono HB6.out.size))
       clear h1 h2 S B h7))
  clear HRO1 HRO2 HRO3 HRO4 HRO5 HRO6 HR2 HR4 HR6 HRa3 HRa4 HRa5 HRa6 HRb5 HRb6 HB1 HB2 HB3 HB4 HB5 HB6 HTU HSO
  go_loopw [9] (fun s9 wr => ∃ i : Nat, s9 = .int .i64 i ∧ i ≤ l.length ∧ Hid (Below w7.heap.size w7 wr)) (fun s9 _ => l.length - (intOf s9).toNat)
  case atStart => exact ⟨0, rfl, Nat.zero_le _, Below.refl _ _⟩
  case round =>
    obtain ⟨i, rfl, hi, HB⟩ := hrel
    by_cases hlt : i < l.length
    · have hlb : i < lb.length := by rw [HSa.out.len]; exact hlt
      have i0 : (0 : Int) ≤ (i : Int) := by omega
      have i1 : (i : Int) < (l.length : Int) := by omega
      have rowAt : ∀ g, Srow rcl 12 w7 0 w7.heap.size (some ⟨g, 0, none⟩) lb → ∀ j (h : j < lb.length), g < w7.heap.size ∧ w7.rangeAt g (j * 12) (rcl lb[j]) := fun g hS j hj => by
        obtain ⟨g', o', hA, _, hg, hc⟩ := hS.at_ hj
        injection hA with hA
        injection hA with e1 e2 _
        subst e1 e2
        rw [Nat.zero_add] at hc
        exact ⟨hg, hc⟩
      obtain ⟨hga, ra⟩ := rowAt ga HRa7.out i hlb
      obtain ⟨hgb, rb⟩ := rowAt gb HRb7.out i hlb
      obtain ⟨hgc, rc⟩ := rowAt gc HRc7.out i hlb
      have hwr := HB.out.size
      have RA := Lib.hid (range_below HB.out hga ra)
      have RB := Lib.hid (range_below HB.out hgb rb)
      have RC := Lib.hid (range_below HB.out hgc rc)
      have pe : ∀ W (r : Rv), (Op.equalIn 10000 44 (.agg r.cells) (.agg r.cells)).run Tryd.prog W = .ok true W := fun W r => by
        have h := rvRun W r r 9995
        rw [(rvB_iff r r).2 rfl] at h
        exact h
      rcases Nat.eq_zero_or_pos i with h0 | h0
      · clear ra rb rc rowAt
        generalize lb[i] = r at *
        have HPE := Lib.hid (pe · r)
        obtain ⟨nm, ty, cl, ttl, ⟨r0, r1, r2, n0, n1, n2, n3, n4⟩⟩ := r
        have hpe := HPE.out
        dsimp only [Rv.cells] at hpe
        clear pe HPE
        have HB0 := Lib.hid HB.out
        have a0 := RA.out 0 _ rfl
        have a1 := RA.out 1 _ rfl
        have a2 := RA.out 2 _ rfl
        have a3 := RA.out 3 _ rfl
        have a4 := RA.out 4 _ rfl
        have a5 := RA.out 5 _ rfl
        have a6 := RA.out 6 _ rfl
        have a7 := RA.out 7 _ rfl
        have a8 := RA.out 8 _ rfl
        have a9 := RA.out 9 _ rfl
        have a10 := RA.out 10 _ rfl
        have a11 := RA.out 11 _ rfl
        have b0 := RB.out 0 _ rfl
        have b1 := RB.out 1 _ rfl
        have b2 := RB.out 2 _ rfl
        have b3 := RB.out 3 _ rfl
        have b4 := RB.out 4 _ rfl
        have b5 := RB.out 5 _ rfl
        have b6 := RB.out 6 _ rfl
        have b7 := RB.out 7 _ rfl
        have b8 := RB.out 8 _ rfl
        have b9 := RB.out 9 _ rfl
        have b10 := RB.out 10 _ rfl
        have b11 := RB.out 11 _ rfl
        have c0 := RC.out 0 _ rfl
        have c1 := RC.out 1 _ rfl
        have c2 := RC.out 2 _ rfl
        have c3 := RC.out 3 _ rfl
        have c4 := RC.out 4 _ rfl
        have c5 := RC.out 5 _ rfl
        have c6 := RC.out 6 _ rfl
        have c7 := RC.out 7 _ rfl
        have c8 := RC.out 8 _ rfl
        have c9 := RC.out 9 _ rfl
        have c10 := RC.out 10 _ rfl
        have c11 := RC.out 11 _ rfl
        rw [Nat.add_zero] at a0 b0 c0
        have d0 : decide ((0 : Int) < (i : Int)) = false := by rw [decide_eq_false_iff_not]; omega
        have d2 : decide (0 < i) = false := by rw [decide_eq_false_iff_not]; omega
        have d3 : ¬ (0 < i) := by omega
        clear RA RB RC h0
        go_wp2_with fail
        go_quiet (fail)
        go_wp2_with fail
        go_roundw
        case rel => exact ⟨i + 1, by go_num, by omega, below_drewN HB0.out _⟩
        case measure => simp [intOf]; omega
      · obtain ⟨j, hj⟩ : ∃ j, i = j + 1 := ⟨i - 1, by omega⟩
        have hjb : j < lb.length := by omega
        have hst : Rr.cmpR (lb[j]'hjb).fold.rc (lb[i]'hlb).fold.rc ≤ 0 := by subst hj; exact HSa.out.step _
        obtain ⟨_, rp⟩ := rowAt ga HRa7.out j hjb
        have RP := Lib.hid (range_below HB.out hga rp)
        have hcm := fun (W : World) (hb : Below w.heap.size w W) => HCM.out (lb[j]'hjb) (lb[i]'hlb) W hb (HFa.out _ (List.getElem_mem hjb)) (HFa.out _ (List.getElem_mem hlb))
        clear ra rb rc rp rowAt
        generalize lb[j] = p at *
        generalize lb[i] = r at *
        obtain ⟨x, hx⟩ : ∃ x, Rr.cmpR p.fold.rc r.fold.rc = x := ⟨_, rfl⟩
        rw [hx] at hst hcm
        have HPE := Lib.hid (pe · r)
        have HCMP := Lib.hid hcm
        have s1 : IntKind.i64.wrap ((i : Int) - 1) = (j : Int) := by rw [IntWalk.i64_in _ (by omega)]; omega
        have j0 : (0 : Int) ≤ (j : Int) := by omega
        have j1 : (j : Int) < (l.length : Int) := by omega
        have d0 : decide ((0 : Int) < (i : Int)) = true := by rw [decide_eq_true_iff]; omega
        have d2 : decide (0 < i) = true := by rw [decide_eq_true_iff]; omega
        have d5 : decide ((0 : Int) < x) = false := by rw [decide_eq_false_iff_not]; omega
        obtain ⟨nm, ty, cl, ttl, ⟨r0, r1, r2, n0, n1, n2, n3, n4⟩⟩ := r
        obtain ⟨pnm, pty, pcl, pttl, ⟨pr0, pr1, pr2, pn0, pn1, pn2, pn3, pn4⟩⟩ := p
        have hpe := HPE.out
        dsimp only [Rv.cells] at hpe HCMP
        have a0 := RA.out 0 _ rfl
        have a1 := RA.out 1 _ rfl
        have a2 := RA.out 2 _ rfl
        have a3 := RA.out 3 _ rfl
        have a4 := RA.out 4 _ rfl
        have a5 := RA.out 5 _ rfl
        have a6 := RA.out 6 _ rfl
        have a7 := RA.out 7 _ rfl
        have a8 := RA.out 8 _ rfl
        have a9 := RA.out 9 _ rfl
        have a10 := RA.out 10 _ rfl
        have a11 := RA.out 11 _ rfl
        have b0 := RB.out 0 _ rfl
        have b1 := RB.out 1 _ rfl
        have b2 := RB.out 2 _ rfl
        have b3 := RB.out 3 _ rfl
        have b4 := RB.out 4 _ rfl
        have b5 := RB.out 5 _ rfl
        have b6 := RB.out 6 _ rfl
        have b7 := RB.out 7 _ rfl
        have b8 := RB.out 8 _ rfl
        have b9 := RB.out 9 _ rfl
        have b10 := RB.out 10 _ rfl
        have b11 := RB.out 11 _ rfl
        have c0 := RC.out 0 _ rfl
        have c1 := RC.out 1 _ rfl
        have c2 := RC.out 2 _ rfl
        have c3 := RC.out 3 _ rfl
        have c4 := RC.out 4 _ rfl
        have c5 := RC.out 5 _ rfl
        have c6 := RC.out 6 _ rfl
        have c7 := RC.out 7 _ rfl
        have c8 := RC.out 8 _ rfl
        have c9 := RC.out 9 _ rfl
        have c10 := RC.out 10 _ rfl
        have c11 := RC.out 11 _ rfl
        have p0 := RP.out 0 _ rfl
        have p1 := RP.out 1 _ rfl
        have p2 := RP.out 2 _ rfl
        have p3 := RP.out 3 _ rfl
        have p4 := RP.out 4 _ rfl
        have p5 := RP.out 5 _ rfl
        have p6 := RP.out 6 _ rfl
        have p7 := RP.out 7 _ rfl
        have p8 := RP.out 8 _ rfl
        have p9 := RP.out 9 _ rfl
        have p10 := RP.out 10 _ rfl
        have p11 := RP.out 11 _ rfl
        rw [Nat.add_zero] at a0 b0 c0 p0
        have HBd := Lib.hid HB.out.drew
        clear pe HPE hx hcm hst RA RB RC RP h0 hj hjb
        go_upto_region 11 with fail
        go_still_tail 33, (by kernel_rfl)
        change wpList _ _ _ _ _ wr.drew
        clear a0 a1 a2 a3 a4 a5 a6 a7 a8 a9 a10 a11 b0 b1 b2 b3 b4 b5 b6 b7 b8 b9 b10 b11 c0 c1 c2 c3 c4 c5 c6 c7 c8 c9 c10 c11 p0 p1 p2 p3 p4 p5 p6 p7 p8 p9 p10 p11 hpe
        generalize wr.drew = w9 at *
        go_wp2_with (first
          | (go_at_call 15
             refine (HCMP.out _ (HB7.out.trans (HBd.out.mono HB7.out.size))).mono ?_
             rintro e w10 ⟨rfl, B⟩
             have HB10 := Lib.hid (HBd.out.trans (B.mono HBd.out.size))
             clear B))
        go_roundw
        case rel => exact ⟨i + 1, by go_num, by omega, HB10⟩
        case measure => simp [intOf]; omega
    · obtain rfl : i = l.length := by omega
      have HBw := Lib.hid (HB7.out.trans (HB.out.mono HB7.out.size))
      have HROw := Lib.hid (HRO7.out.keep HB.out)
      clear HRa7 HRb7 HRc7 HRO7 HB HB7 HCM hi hlt
      go_wp2_with (first
        | (go_at_call_of 6 (Value.slice A l.length c)
           refine (HOW.out l A c _ (HL0.out _ HBw.out) (by omega)).mono ?_
           rintro e w11 ⟨A11, c11, rfl, _, S2, B⟩
           have HR11 := Lib.hid (S2.more (Nat.zero_le _) (Nat.le_refl _))
           have HRO11 := Lib.hid (HROw.out.keep B)
           have HB11 := Lib.hid (HBw.out.trans (B.mono HBw.out.size))
           clear S2 B)
        | (go_at_call_of 8 (Value.slice A11 l.length c11)
           refine (HSE.out l A11 c11 _ HB11.out HR11.out HFL.out (by omega)).mono ?_
           rintro e w12 ⟨ls, vs, rfl, hls, hat, B⟩
           have HLS : Hid (ls.map Sx.st = Rr.sets (fcs l)) := hls
           have hat2 := setsAt_low hat
           obtain ⟨As, cs, rfl, hcs, hSs, hgs⟩ := hat2
           have HSs := Lib.hid hSs
           have HGs := Lib.hid hgs
           have HCS := Lib.hid hcs
           have HRO12 := Lib.hid (HRO11.out.keep B)
           have HB12 := Lib.hid (HB11.out.trans (B.mono HB11.out.size))
           clear hls hat B hSs hgs hcs))
      clear HBw HROw HR11 HRO11 HB11
      have HFEW := Lib.hid (few_sets HLS.out)
      have HFD := Lib.hid (few_ds HLS.out)
      obtain ⟨ti, ht1, ht2, ht3, ht4⟩ : ∃ i, Tryd.prog.info? 44 = some i ∧ i.zero = some (.agg (rcl default).toArray) ∧ i.size = 12 ∧ i.bytes = 96 := ⟨_, rfl, by kernel_rfl, by kernel_rfl, by kernel_rfl⟩
      have HT := Lib.hid (And.intro ht1 (And.intro ht2 (And.intro ht3 ht4)))
      clear ht1 ht2 ht3 ht4
      have hi5 : (Tryd.prog.info? 30).map (·.size) = some 5 := by kernel_rfl
      have HI5 := Lib.hid hi5
      have hi8 : (Tryd.prog.info? 42).map (·.size) = some 8 := by kernel_rfl
      have HI8 := Lib.hid hi8
      clear hi5 hi8
      go_loopw [11, 12, 13] (fun s11 s12 _ wr => ∃ i : Nat, s12 = .int .i64 i ∧ i ≤ ls.length ∧ Hid (Own rcl 12 wr w12.heap.size 44 s11 ((ls.take i).flatMap Sx.recs)) ∧ Hid (Below w12.heap.size w12 wr)) (fun _ s12 _ _ => ls.length - (intOf s12).toNat)
      case atStart => exact ⟨0, rfl, Nat.zero_le _, ⟨rfl, .inl ⟨rfl, rfl⟩⟩, Below.refl _ _⟩
      case round =>
        obtain ⟨i, rfl, hi, HO, HB⟩ := hrel
        have i0 : (0 : Int) ≤ (i : Int) := by omega
        by_cases hlt : i < ls.length
        · have i1 : (i : Int) < (ls.length : Int) := by omega
          have hfew := HFEW.out
          obtain ⟨g, o, hA, _, hg, hc⟩ := HSs.out.at_ hlt
          obtain ⟨hsat, _⟩ := HGs.out ls[i] (List.getElem_mem hlt)
          obtain ⟨gd, cd, hv, hcd, _, hgd, hrow⟩ := id hsat
          have hdp := ds_some HLS.out (List.getElem_mem hlt)
          have hdn := HFD.out ls[i] (List.getElem_mem hlt)
          have HSAT := Lib.hid hsat
          have RS := Lib.hid (range_below HB.out hg hc)
          have RD := Lib.hid (fun (k : Nat) (h : k < ls[i].ds.length) (W : World) (hW : Below w12.heap.size w12 W) => (show W.rangeAt gd (k * 8) (dcl ls[i].ds[k]) from by have h2 := range_below hW hgd (hrow k h); rwa [Nat.zero_add] at h2))
          have HCD := Lib.hid (fun (k : Nat) (h : k + 1 < ls[i].ds.length) => ds_step HLS.out (List.getElem_mem hlt) h)
          have HDS : Hid (∀ d ∈ ls[i].ds, d.short) := (HGs.out ls[i] (List.getElem_mem hlt)).2.2.2
          have HTK : Hid ((ls.take (i + 1)).flatMap Sx.recs = (ls.take i).flatMap Sx.recs ++ ls[i].recs) := by rw [Hid, List.take_succ_eq_append_getElem hlt, List.flatMap_append]; simp
          have HLN : Hid (((ls.take i).flatMap Sx.recs).length ≤ 40000) := by
            have h1 := all_len (ls := ls.take i) (n := l.length) (fun s hs => HFD.out s (List.mem_of_mem_take hs))
            rw [List.length_take] at h1
            have h2 := HFEW.out
            have h3 : (min i ls.length) * l.length ≤ 200 * 200 := Nat.mul_le_mul (by omega) hn
            rw [Hid]
            omega
          have HRC := Lib.hid (fun (W : World) (hW : SetAt W 0 W.heap.size ls[i]) => records_any ls[i] 0 W hW (by omega))
          have HKEY := Lib.hid (fun (j : Nat) (hj : i = j + 1) => (show ∃ h : j < ls.length, Rr.cmpK (ls[j]'h).k.ky ls[i].k.ky < 0 ∧ (ls[j]'h).k.nm.size ≤ 140737488355328 ∧ ls[i].k.nm.size ≤ 140737488355328 from by
            subst hj
            exact ⟨by omega, keys_step HLS.out hlt, (HGs.out _ (List.getElem_mem _)).2.1, (HGs.out _ (List.getElem_mem _)).2.1⟩))
          have c4 : wr.cell? ⟨g, o + i * 5 + 4, none⟩ = some ls[i].v := RS.out 4 _ rfl
          rw [hv] at c4
          have q0 : ((ls[i].ds.length : Int) == 0) = false := beq_eq_false_iff_ne.2 (by omega)
          have C4 := Lib.hid c4
          have HBr := HB.out.size
          clear hc hrow hsat hv hcd
          go_upto_region 18 with fail
          go_cut [129] from 104 to 129 (fun v wx => v = .bool false ∧ Hid (Below wr.heap.size wr wx))
          case first =>
            rcases Nat.eq_zero_or_pos i with h0 | h0
            · have d0 : decide ((0 : Int) < (i : Int)) = false := by rw [decide_eq_false_iff_not]; omega
              have d2 : decide (0 < i) = false := by rw [decide_eq_false_iff_not]; omega
              have d3 : ¬ (0 < i) := by omega
              clear h0 HKEY RD HCD HDS HRC
              generalize ls[i] = s at *
              subst hA
              go_quiet (fail)
              go_wp2_with fail
              go_meet
              exact ⟨rfl, below_drewN (Below.refl _ _) _⟩
            · obtain ⟨j, hj⟩ : ∃ j, i = j + 1 := ⟨i - 1, by omega⟩
              obtain ⟨hjl, k1, k2, k3⟩ := HKEY.out j hj
              obtain ⟨g', o', hA', _, hg', hc'⟩ := HSs.out.at_ hjl
              rw [hA] at hA'
              injection hA' with hA'
              injection hA' with e1 e2 _
              subst e1 e2
              have RP := Lib.hid (range_below HB.out hg hc')
              have HCK := Lib.hid (fun W : World => (show Calls Tryd.prog 16 #[(ls[j]'hjl).k.val, ls[i].k.val] W _ from cmpKey_any (ls[j]'hjl).k ls[i].k W k2 k3))
              have s1 : IntKind.i64.wrap ((i : Int) - 1) = (j : Int) := by have := HFEW.out; rw [IntWalk.i64_in _ (by omega)]; omega
              have j0 : (0 : Int) ≤ (j : Int) := by omega
              have j1 : (j : Int) < (ls.length : Int) := by omega
              have d0 : decide ((0 : Int) < (i : Int)) = true := by rw [decide_eq_true_iff]; omega
              have d2 : decide (0 < i) = true := by rw [decide_eq_true_iff]; omega
              have d4 : 0 < i := h0
              clear hc' hj HKEY RD HCD HDS HRC HTK k2 k3 c4
              generalize ls[j] = p at *
              generalize ls[i] = s at *
              generalize s.ds.length = nd at *
              obtain ⟨x, hx⟩ : ∃ x, Rr.cmpK p.k.ky s.k.ky = x := ⟨_, rfl⟩
              rw [hx] at HCK k1
              have d5 : decide ((0 : Int) ≤ x) = false := by rw [decide_eq_false_iff_not]; omega
              obtain ⟨⟨pn, pt, pc⟩, pttl, pv, pds⟩ := p
              obtain ⟨⟨sn, st, sc⟩, sttl, sv', sds⟩ := s
              have HK := Lib.hid (fun (W : World) (hb : Below wr.heap.size wr W) => (show (W.cell? ⟨g, o + j * 5, none⟩ = some (.string pn) ∧ W.cell? ⟨g, o + j * 5 + 1, none⟩ = some (.int .u16 pt) ∧ W.cell? ⟨g, o + j * 5 + 2, none⟩ = some (.int .u16 pc) ∧ W.cell? ⟨g, o + i * 5, none⟩ = some (.string sn) ∧ W.cell? ⟨g, o + i * 5 + 1, none⟩ = some (.int .u16 st) ∧ W.cell? ⟨g, o + i * 5 + 2, none⟩ = some (.int .u16 sc) ∧ W.cell? ⟨g, o + i * 5 + 4, none⟩ = some (.slice (some ⟨gd, 0, none⟩) nd cd)) ∧ Below wr.heap.size wr W from by
                have hgw : g < wr.heap.size := Nat.lt_of_lt_of_le hg HBr
                have h1 := range_below hb hgw RP.out
                have h2 := range_below hb hgw RS.out
                exact ⟨⟨h1 0 _ rfl, h1 1 _ rfl, h1 2 _ rfl, h2 0 _ rfl, h2 1 _ rfl, h2 2 _ rfl, (hb.cell (p := ⟨g, o + i * 5 + 4, none⟩) hgw).trans C4.out⟩, hb⟩))
              subst hA
              dsimp only [Kv.val] at HCK
              clear hx k1 RP RS C4 HSAT
              refine wp_region_noPanic ?_
              refine wp_region_held_drew (S := (fun W => (W.cell? ⟨g, o + j * 5, none⟩ = some (.string pn) ∧ W.cell? ⟨g, o + j * 5 + 1, none⟩ = some (.int .u16 pt) ∧ W.cell? ⟨g, o + j * 5 + 2, none⟩ = some (.int .u16 pc) ∧ W.cell? ⟨g, o + i * 5, none⟩ = some (.string sn) ∧ W.cell? ⟨g, o + i * 5 + 1, none⟩ = some (.int .u16 st) ∧ W.cell? ⟨g, o + i * 5 + 2, none⟩ = some (.int .u16 sc) ∧ W.cell? ⟨g, o + i * 5 + 4, none⟩ = some (.slice (some ⟨gd, 0, none⟩) nd cd)) ∧ Below wr.heap.size wr W)) (by kernel_rfl) ?hax1 (fun hHeld => ?_)
              case hax1 =>
                try dsimp only
                (first | assumption | exact HK.out _ (Below.refl _ _).drew | exact HK.out _ HW1.out)
              refine wpAnyH_take (i := 0) (oi := { dst := some 104, op := Go.Op.move (Go.Operand.tmp 12), type := 3, pos := "outright.go:45", after := #[], guard := none }) (v := ?vax2) rfl (by kernel_rfl) (by kernel_rfl) (by kernel_rfl) (fun _ _ _ h => h) (Or.inl ⟨by rfl, ?hax2⟩) (by assumption) ?_
              case hax2 =>
                intro w hSw
                try dsimp only at hSw
                go_simp
                try with_reducible rfl
              try simp only [Act.put, List.setIfInBounds_toArray, List.set_cons_zero, List.set_cons_succ]
              refine wpAnyH_take (i := 1) (oi := { dst := some 105, op := Go.Op.binOp Go.BinOp.gtr 3 (Go.Operand.tmp 104) (Go.Operand.const (Go.Value.int Go.IntKind.i64 0)) 3, type := 4, pos := "outright.go:45", after := #[{ on := 0, ground := Go.Ground.data }], guard := none }) (v := ?vax3) rfl (by kernel_rfl) (by kernel_rfl) (by kernel_rfl) (fun _ _ _ h => h) (Or.inl ⟨by rfl, ?hax3⟩) (by assumption) ?_
              case hax3 =>
                intro w hSw
                try dsimp only at hSw
                go_simp
                try with_reducible rfl
              try simp only [Act.put, List.setIfInBounds_toArray, List.set_cons_zero, List.set_cons_succ]
              refine wpAnyH_take (i := 2) (oi := { dst := some 106, op := Go.Op.move (Go.Operand.tmp 105), type := 4, pos := "outright.go:45", after := #[{ on := 1, ground := Go.Ground.data }], guard := none }) (v := ?vax4) rfl (by kernel_rfl) (by kernel_rfl) (by kernel_rfl) (fun _ _ _ h => h) (Or.inl ⟨by rfl, ?hax4⟩) (by assumption) ?_
              case hax4 =>
                intro w hSw
                try dsimp only at hSw
                go_simp
                try with_reducible rfl
              try simp only [Act.put, List.setIfInBounds_toArray, List.set_cons_zero, List.set_cons_succ]
              refine wpAnyH_take (i := 3) (oi := { dst := some 107, op := Go.Op.move (Go.Operand.tmp 10), type := 34, pos := "outright.go:45", after := #[{ on := 2, ground := Go.Ground.guard }], guard := some (2, true) }) (v := ?vax5) rfl (by kernel_rfl) (by kernel_rfl) (by kernel_rfl) (fun _ _ _ h => h) (Or.inl ⟨by rfl, ?hax5⟩) (by assumption) ?_
              case hax5 =>
                intro w hSw
                try dsimp only at hSw
                go_simp
                try with_reducible rfl
              try simp only [Act.put, List.setIfInBounds_toArray, List.set_cons_zero, List.set_cons_succ]
              refine wpAnyH_take (i := 4) (oi := { dst := some 108, op := Go.Op.move (Go.Operand.tmp 12), type := 3, pos := "outright.go:45", after := #[{ on := 2, ground := Go.Ground.guard }], guard := some (2, true) }) (v := ?vax6) rfl (by kernel_rfl) (by kernel_rfl) (by kernel_rfl) (fun _ _ _ h => h) (Or.inl ⟨by rfl, ?hax6⟩) (by assumption) ?_
              case hax6 =>
                intro w hSw
                try dsimp only at hSw
                go_simp
                try with_reducible rfl
              try simp only [Act.put, List.setIfInBounds_toArray, List.set_cons_zero, List.set_cons_succ]
              refine wpAnyH_take (i := 5) (oi := { dst := some 109, op := Go.Op.binOp Go.BinOp.sub 3 (Go.Operand.tmp 108) (Go.Operand.const (Go.Value.int Go.IntKind.i64 1)) 3, type := 3, pos := "outright.go:45", after := #[{ on := 4, ground := Go.Ground.data }, { on := 2, ground := Go.Ground.guard }], guard := some (2, true) }) (v := ?vax7) rfl (by kernel_rfl) (by kernel_rfl) (by kernel_rfl) (fun _ _ _ h => h) (Or.inl ⟨by rfl, ?hax7⟩) (by assumption) ?_
              case hax7 =>
                intro w hSw
                try dsimp only at hSw
                go_simp
                try with_reducible rfl
              try simp only [Act.put, List.setIfInBounds_toArray, List.set_cons_zero, List.set_cons_succ]
              refine wpAnyH_take (i := 6) (oi := { dst := some 110, op := Go.Op.indexAddr 34 (Go.Operand.tmp 107) (Go.Operand.tmp 109), type := 0, pos := "outright.go:45", after := #[{ on := 3, ground := Go.Ground.data }, { on := 5, ground := Go.Ground.data }, { on := 2, ground := Go.Ground.guard }], guard := some (2, true) }) (v := ?vax8) rfl (by kernel_rfl) (by kernel_rfl) (by kernel_rfl) (fun _ _ _ h => h) (Or.inl ⟨by rfl, ?hax8⟩) (by assumption) ?_
              case hax8 =>
                intro w hSw
                try dsimp only at hSw
                go_simp
                try with_reducible rfl
              try simp only [Act.put, List.setIfInBounds_toArray, List.set_cons_zero, List.set_cons_succ]
              refine wpAnyH_take (i := 7) (oi := { dst := some 111, op := Go.Op.fieldAddr 30 (Go.Operand.tmp 110) 0, type := 0, pos := "outright.go:45", after := #[{ on := 6, ground := Go.Ground.data }, { on := 2, ground := Go.Ground.guard }], guard := some (2, true) }) (v := ?vax9) rfl (by kernel_rfl) (by kernel_rfl) (by kernel_rfl) (fun _ _ _ h => h) (Or.inl ⟨by rfl, ?hax9⟩) (by assumption) ?_
              case hax9 =>
                intro w hSw
                try dsimp only at hSw
                go_simp
                try with_reducible rfl
              try simp only [Act.put, List.setIfInBounds_toArray, List.set_cons_zero, List.set_cons_succ]
              refine wpAnyH_take (i := 8) (oi := { dst := some 112, op := Go.Op.load 26 (Go.Operand.tmp 111), type := 26, pos := "outright.go:45", after := #[{ on := 7, ground := Go.Ground.data }, { on := 2, ground := Go.Ground.guard }], guard := some (2, true) }) (v := ?vax10) rfl (by kernel_rfl) (by kernel_rfl) (by kernel_rfl) (fun _ _ _ h => h) (Or.inl ⟨by rfl, ?hax10⟩) (by assumption) ?_
              case hax10 =>
                intro w hSw
                try dsimp only at hSw
                go_simp
                try with_reducible rfl
              try simp only [Act.put, List.setIfInBounds_toArray, List.set_cons_zero, List.set_cons_succ]
              refine wpAnyH_take (i := 9) (oi := { dst := some 113, op := Go.Op.move (Go.Operand.tmp 10), type := 34, pos := "outright.go:45", after := #[{ on := 2, ground := Go.Ground.guard }], guard := some (2, true) }) (v := ?vax11) rfl (by kernel_rfl) (by kernel_rfl) (by kernel_rfl) (fun _ _ _ h => h) (Or.inl ⟨by rfl, ?hax11⟩) (by assumption) ?_
              case hax11 =>
                intro w hSw
                try dsimp only at hSw
                go_simp
                try with_reducible rfl
              try simp only [Act.put, List.setIfInBounds_toArray, List.set_cons_zero, List.set_cons_succ]
              refine wpAnyH_take (i := 10) (oi := { dst := some 114, op := Go.Op.move (Go.Operand.tmp 12), type := 3, pos := "outright.go:45", after := #[{ on := 2, ground := Go.Ground.guard }], guard := some (2, true) }) (v := ?vax12) rfl (by kernel_rfl) (by kernel_rfl) (by kernel_rfl) (fun _ _ _ h => h) (Or.inl ⟨by rfl, ?hax12⟩) (by assumption) ?_
              case hax12 =>
                intro w hSw
                try dsimp only at hSw
                go_simp
                try with_reducible rfl
              try simp only [Act.put, List.setIfInBounds_toArray, List.set_cons_zero, List.set_cons_succ]
              refine wpAnyH_take (i := 11) (oi := { dst := some 115, op := Go.Op.indexAddr 34 (Go.Operand.tmp 113) (Go.Operand.tmp 114), type := 0, pos := "outright.go:45", after := #[{ on := 9, ground := Go.Ground.data }, { on := 10, ground := Go.Ground.data }, { on := 2, ground := Go.Ground.guard }], guard := some (2, true) }) (v := ?vax13) rfl (by kernel_rfl) (by kernel_rfl) (by kernel_rfl) (fun _ _ _ h => h) (Or.inl ⟨by rfl, ?hax13⟩) (by assumption) ?_
              case hax13 =>
                intro w hSw
                try dsimp only at hSw
                go_simp
                try with_reducible rfl
              try simp only [Act.put, List.setIfInBounds_toArray, List.set_cons_zero, List.set_cons_succ]
              refine wpAnyH_take (i := 12) (oi := { dst := some 116, op := Go.Op.fieldAddr 30 (Go.Operand.tmp 115) 0, type := 0, pos := "outright.go:45", after := #[{ on := 11, ground := Go.Ground.data }, { on := 2, ground := Go.Ground.guard }], guard := some (2, true) }) (v := ?vax14) rfl (by kernel_rfl) (by kernel_rfl) (by kernel_rfl) (fun _ _ _ h => h) (Or.inl ⟨by rfl, ?hax14⟩) (by assumption) ?_
              case hax14 =>
                intro w hSw
                try dsimp only at hSw
                go_simp
                try with_reducible rfl
              try simp only [Act.put, List.setIfInBounds_toArray, List.set_cons_zero, List.set_cons_succ]
              refine wpAnyH_take (i := 13) (oi := { dst := some 117, op := Go.Op.load 26 (Go.Operand.tmp 116), type := 26, pos := "outright.go:45", after := #[{ on := 12, ground := Go.Ground.data }, { on := 2, ground := Go.Ground.guard }], guard := some (2, true) }) (v := ?vax15) rfl (by kernel_rfl) (by kernel_rfl) (by kernel_rfl) (fun _ _ _ h => h) (Or.inl ⟨by rfl, ?hax15⟩) (by assumption) ?_
              case hax15 =>
                intro w hSw
                try dsimp only at hSw
                go_simp
                try with_reducible rfl
              try simp only [Act.put, List.setIfInBounds_toArray, List.set_cons_zero, List.set_cons_succ]
              refine wpAnyH_ready (rs := [14]) (by kernel_rfl) (by simp) ?_
              refine AllReadyH.cons (o := { dst := some 118, op := Go.Op.call { callee := Go.Callee.value (Go.Operand.func 16), args := #[Go.Operand.tmp 112, Go.Operand.tmp 117], argTypes := #[26, 26] }, type := 3, pos := "outright.go:45", after := #[{ on := 8, ground := Go.Ground.data }, { on := 13, ground := Go.Ground.data }, { on := 2, ground := Go.Ground.chain }, { on := 2, ground := Go.Ground.guard }], guard := some (2, true) }) rfl (fun K hK => ?_) AllReadyH.nil
              go_simp
              (first | (go_at_call 16; (with_reducible refine (HCK.out _).mono ?_); rintro e W1 ⟨rfl, B1⟩; have HW1 : Hid (Below wr.heap.size wr W1) := (by go_split_ands; exact below_r5 (by assumption) B1); clear B1))
              try go_wp2_with fail
              refine hK.out _ _ ?hax16 (fun hHeld => ?_)
              case hax16 =>
                try dsimp only
                (first | assumption | exact HK.out _ (Below.refl _ _).drew | exact HK.out _ HW1.out)
              clear hK K
              try simp only [Act.put, List.setIfInBounds_toArray, List.set_cons_zero, List.set_cons_succ]
              refine wpAnyH_take (i := 15) (oi := { dst := some 119, op := Go.Op.binOp Go.BinOp.geq 3 (Go.Operand.tmp 118) (Go.Operand.const (Go.Value.int Go.IntKind.i64 0)) 3, type := 4, pos := "outright.go:45", after := #[{ on := 14, ground := Go.Ground.data }, { on := 2, ground := Go.Ground.guard }], guard := some (2, true) }) (v := ?vax17) rfl (by kernel_rfl) (by kernel_rfl) (by kernel_rfl) (fun _ _ _ h => h) (Or.inl ⟨by rfl, ?hax17⟩) (by assumption) ?_
              case hax17 =>
                intro w hSw
                try dsimp only at hSw
                go_simp
                try with_reducible rfl
              try simp only [Act.put, List.setIfInBounds_toArray, List.set_cons_zero, List.set_cons_succ]
              refine wpAnyH_take (i := 16) (oi := { dst := some 120, op := Go.Op.pick (Go.Operand.tmp 106) (Go.Operand.tmp 119) (Go.Operand.const (Go.Value.bool false)), type := 4, pos := "outright.go:45", after := #[{ on := 2, ground := Go.Ground.data }, { on := 15, ground := Go.Ground.data }], guard := none }) (v := ?vax18) rfl (by kernel_rfl) (by kernel_rfl) (by kernel_rfl) (fun _ _ _ h => h) (Or.inl ⟨by rfl, ?hax18⟩) (by assumption) ?_
              case hax18 =>
                intro w hSw
                try dsimp only at hSw
                go_simp
                try with_reducible rfl
              try simp only [Act.put, List.setIfInBounds_toArray, List.set_cons_zero, List.set_cons_succ]
              refine wpAnyH_take (i := 17) (oi := { dst := some 121, op := Go.Op.move (Go.Operand.tmp 120), type := 4, pos := "outright.go:45", after := #[{ on := 16, ground := Go.Ground.data }, { on := 14, ground := Go.Ground.chain }], guard := none }) (v := ?vax19) rfl (by kernel_rfl) (by kernel_rfl) (by kernel_rfl) (fun _ _ _ h => h) (Or.inl ⟨by rfl, ?hax19⟩) (by assumption) ?_
              case hax19 =>
                intro w hSw
                try dsimp only at hSw
                go_simp
                try with_reducible rfl
              try simp only [Act.put, List.setIfInBounds_toArray, List.set_cons_zero, List.set_cons_succ]
              refine wpAnyH_take (i := 18) (oi := { dst := some 122, op := Go.Op.move (Go.Operand.tmp 10), type := 34, pos := "outright.go:45", after := #[{ on := 17, ground := Go.Ground.guard }], guard := some (17, false) }) (v := ?vax20) rfl (by kernel_rfl) (by kernel_rfl) (by kernel_rfl) (fun _ _ _ h => h) (Or.inl ⟨by rfl, ?hax20⟩) (by assumption) ?_
              case hax20 =>
                intro w hSw
                try dsimp only at hSw
                go_simp
                try with_reducible rfl
              try simp only [Act.put, List.setIfInBounds_toArray, List.set_cons_zero, List.set_cons_succ]
              refine wpAnyH_take (i := 19) (oi := { dst := some 123, op := Go.Op.move (Go.Operand.tmp 12), type := 3, pos := "outright.go:45", after := #[{ on := 17, ground := Go.Ground.guard }], guard := some (17, false) }) (v := ?vax21) rfl (by kernel_rfl) (by kernel_rfl) (by kernel_rfl) (fun _ _ _ h => h) (Or.inl ⟨by rfl, ?hax21⟩) (by assumption) ?_
              case hax21 =>
                intro w hSw
                try dsimp only at hSw
                go_simp
                try with_reducible rfl
              try simp only [Act.put, List.setIfInBounds_toArray, List.set_cons_zero, List.set_cons_succ]
              refine wpAnyH_take (i := 20) (oi := { dst := some 124, op := Go.Op.indexAddr 34 (Go.Operand.tmp 122) (Go.Operand.tmp 123), type := 0, pos := "outright.go:45", after := #[{ on := 18, ground := Go.Ground.data }, { on := 19, ground := Go.Ground.data }, { on := 17, ground := Go.Ground.guard }], guard := some (17, false) }) (v := ?vax22) rfl (by kernel_rfl) (by kernel_rfl) (by kernel_rfl) (fun _ _ _ h => h) (Or.inl ⟨by rfl, ?hax22⟩) (by assumption) ?_
              case hax22 =>
                intro w hSw
                try dsimp only at hSw
                go_simp
                try with_reducible rfl
              try simp only [Act.put, List.setIfInBounds_toArray, List.set_cons_zero, List.set_cons_succ]
              refine wpAnyH_take (i := 21) (oi := { dst := some 125, op := Go.Op.fieldAddr 30 (Go.Operand.tmp 124) 2, type := 0, pos := "outright.go:45", after := #[{ on := 20, ground := Go.Ground.data }, { on := 17, ground := Go.Ground.guard }], guard := some (17, false) }) (v := ?vax23) rfl (by kernel_rfl) (by kernel_rfl) (by kernel_rfl) (fun _ _ _ h => h) (Or.inl ⟨by rfl, ?hax23⟩) (by assumption) ?_
              case hax23 =>
                intro w hSw
                try dsimp only at hSw
                go_simp
                try with_reducible rfl
              try simp only [Act.put, List.setIfInBounds_toArray, List.set_cons_zero, List.set_cons_succ]
              refine wpAnyH_take (i := 22) (oi := { dst := some 126, op := Go.Op.load 28 (Go.Operand.tmp 125), type := 28, pos := "outright.go:45", after := #[{ on := 21, ground := Go.Ground.data }, { on := 17, ground := Go.Ground.guard }], guard := some (17, false) }) (v := ?vax24) rfl (by kernel_rfl) (by kernel_rfl) (by kernel_rfl) (fun _ _ _ h => h) (Or.inl ⟨by rfl, ?hax24⟩) (by assumption) ?_
              case hax24 =>
                intro w hSw
                try dsimp only at hSw
                go_simp
                try with_reducible rfl
              try simp only [Act.put, List.setIfInBounds_toArray, List.set_cons_zero, List.set_cons_succ]
              refine wpAnyH_take (i := 23) (oi := { dst := some 127, op := Go.Op.call { callee := Go.Callee.builtin Go.Builtin.len, args := #[Go.Operand.tmp 126], argTypes := #[28] }, type := 3, pos := "outright.go:45", after := #[{ on := 22, ground := Go.Ground.data }, { on := 17, ground := Go.Ground.guard }], guard := some (17, false) }) (v := ?vax25) rfl (by kernel_rfl) (by kernel_rfl) (by kernel_rfl) (fun _ _ _ h => h) (Or.inl ⟨by rfl, ?hax25⟩) (by assumption) ?_
              case hax25 =>
                intro w hSw
                try dsimp only at hSw
                go_simp
                try with_reducible rfl
              try simp only [Act.put, List.setIfInBounds_toArray, List.set_cons_zero, List.set_cons_succ]
              refine wpAnyH_take (i := 24) (oi := { dst := some 128, op := Go.Op.binOp Go.BinOp.eql 3 (Go.Operand.tmp 127) (Go.Operand.const (Go.Value.int Go.IntKind.i64 0)) 3, type := 4, pos := "outright.go:45", after := #[{ on := 23, ground := Go.Ground.data }, { on := 17, ground := Go.Ground.guard }], guard := some (17, false) }) (v := ?vax26) rfl (by kernel_rfl) (by kernel_rfl) (by kernel_rfl) (fun _ _ _ h => h) (Or.inl ⟨by rfl, ?hax26⟩) (by assumption) ?_
              case hax26 =>
                intro w hSw
                try dsimp only at hSw
                go_simp
                try with_reducible rfl
              try simp only [Act.put, List.setIfInBounds_toArray, List.set_cons_zero, List.set_cons_succ]
              refine wpAnyH_take (i := 25) (oi := { dst := some 129, op := Go.Op.pick (Go.Operand.tmp 121) (Go.Operand.const (Go.Value.bool true)) (Go.Operand.tmp 128), type := 4, pos := "outright.go:45", after := #[{ on := 17, ground := Go.Ground.data }, { on := 24, ground := Go.Ground.data }], guard := none }) (v := ?vax27) rfl (by kernel_rfl) (by kernel_rfl) (by kernel_rfl) (fun _ _ _ h => h) (Or.inl ⟨by rfl, ?hax27⟩) (by assumption) ?_
              case hax27 =>
                intro w hSw
                try dsimp only at hSw
                go_simp
                try with_reducible rfl
              try simp only [Act.put, List.setIfInBounds_toArray, List.set_cons_zero, List.set_cons_succ]
              refine wpAnyH_done (by kernel_rfl) ?_ _
              refine NoPanic.normal ?_
              all_goals
                (go_wp2_with fail
                 go_meet
                 exact ⟨rfl, HW1.out⟩)
          case rest =>
            obtain ⟨rfl, HX⟩ := hcut
            have HBx := Lib.hid (HB.out.trans (HX.out.mono HBr))
            have HOx := Lib.hid (ownK_below HO.out HX.out (Nat.le_refl _))
            have HKC := Lib.hid (fun (W : World) (hW : Below wc.heap.size wc W) => (show W.cell? ⟨g, o + i * 5 + 4, none⟩ = some (.slice (some ⟨gd, 0, none⟩) ls[i].ds.length cd) from (hW.cell (p := ⟨g, o + i * 5 + 4, none⟩) (Nat.lt_of_lt_of_le hg HBx.out.size)).trans ((HX.out.cell (p := ⟨g, o + i * 5 + 4, none⟩) (Nat.lt_of_lt_of_le hg HBr)).trans C4.out)))
            have HRS := Lib.hid (fun (W : World) (hW : Below wc.heap.size wc W) => (show W.rangeAt g (o + i * 5) ls[i].cells from range_below hW (Nat.lt_of_lt_of_le hg HBx.out.size) (range_below HX.out (Nat.lt_of_lt_of_le hg HBr) RS.out)))
            clear RS C4 c4 q0 HX HB HO HKEY
            generalize ls[i] = s at *
            have cw : wc.cell? ⟨g, o + i * 5 + 4, none⟩ = some (.slice (some ⟨gd, 0, none⟩) s.ds.length cd) := HKC.out _ (Below.refl _ _)
            subst hA
            go_wp2_with fail
            clear cw
            go_loopw [13] (fun s13 wz => ∃ k : Nat, s13 = .int .i64 k ∧ 1 ≤ k ∧ k ≤ s.ds.length ∧ Hid (Below wc.heap.size wc wz)) (fun s13 _ => s.ds.length - (intOf s13).toNat)
            case atStart => exact ⟨1, rfl, Nat.le_refl _, hdp, Below.refl _ _⟩
            case round =>
              obtain ⟨k, rfl, hk1, hk, HZ⟩ := hrel
              have k0 : (0 : Int) ≤ (k : Int) := by omega
              have cz := HKC.out _ HZ.out
              by_cases hlk : k < s.ds.length
              · obtain ⟨m, hm⟩ : ∃ m, k = m + 1 := ⟨k - 1, by omega⟩
                have hml : m < s.ds.length := by omega
                have hcd : Rr.cmpD (s.ds[m]'hml).dt (s.ds[k]'hlk).dt < 0 := by subst hm; exact HCD.out _ _
                have HBz := Lib.hid (HBx.out.trans (HZ.out.mono HBx.out.size))
                have RM := Lib.hid (RD.out m hml _ HBz.out)
                have RK := Lib.hid (RD.out k hlk _ HBz.out)
                have h1 := HDS.out _ (List.getElem_mem hml)
                have h2 := HDS.out _ (List.getElem_mem hlk)
                have hcmp := fun W : World => (show Calls Tryd.prog 17 #[.agg (s.ds[m]'hml).cells, .agg (s.ds[k]'hlk).cells] W _ from cmpData_any (s.ds[m]'hml) (s.ds[k]'hlk) W h1.1 h2.1 h1.2 h2.2)
                have s1 : IntKind.i64.wrap ((k : Int) - 1) = (m : Int) := by rw [IntWalk.i64_in _ (by omega)]; omega
                have m0 : (0 : Int) ≤ (m : Int) := by omega
                have m1 : (m : Int) < (s.ds.length : Int) := by omega
                have kk1 : (k : Int) < (s.ds.length : Int) := by omega
                clear h1 h2 hm
                generalize s.ds[m] = a at *
                generalize s.ds[k] = b at *
                obtain ⟨x, hx⟩ : ∃ x, Rr.cmpD a.dt b.dt = x := ⟨_, rfl⟩
                rw [hx] at hcd hcmp
                have HCMP := Lib.hid hcmp
                have d5 : decide ((0 : Int) ≤ x) = false := by rw [decide_eq_false_iff_not]; omega
                obtain ⟨a0, a1, a2, a3, a4, a5, a6, a7⟩ := a
                obtain ⟨b0, b1, b2, b3, b4, b5, b6, b7⟩ := b
                dsimp only [Dv.cells] at HCMP
                have p0 := RM.out 0 _ rfl
                have p1 := RM.out 1 _ rfl
                have p2 := RM.out 2 _ rfl
                have p3 := RM.out 3 _ rfl
                have p4 := RM.out 4 _ rfl
                have p5 := RM.out 5 _ rfl
                have p6 := RM.out 6 _ rfl
                have p7 := RM.out 7 _ rfl
                have r0 := RK.out 0 _ rfl
                have r1 := RK.out 1 _ rfl
                have r2 := RK.out 2 _ rfl
                have r3 := RK.out 3 _ rfl
                have r4 := RK.out 4 _ rfl
                have r5 := RK.out 5 _ rfl
                have r6 := RK.out 6 _ rfl
                have r7 := RK.out 7 _ rfl
                rw [Nat.add_zero] at p0 r0
                have HZd := Lib.hid HZ.out.drew
                clear hx hcd hcmp RM RK
                go_upto_region 23 with fail
                go_still_tail 17, (by kernel_rfl)
                change wpList _ _ _ _ _ wr.drew
                clear p0 p1 p2 p3 p4 p5 p6 p7 r0 r1 r2 r3 r4 r5 r6 r7 cz
                generalize wr.drew = w9 at *
                go_wp2_with (first
                  | (go_at_call 17
                     refine (HCMP.out _).mono ?_
                     rintro e w10 ⟨rfl, B⟩
                     have HZ10 := Lib.hid (HZd.out.trans (B.mono HZd.out.size))
                     clear B))
                go_roundw
                case rel => exact ⟨k + 1, by go_num, by omega, by omega, HZ10⟩
                case measure => simp [intOf]; omega
              · obtain rfl : k = s.ds.length := by omega
                have HBz := Lib.hid (HBx.out.trans (HZ.out.mono HBx.out.size))
                have HOz := Lib.hid (ownK_below HOx.out HZ.out (Nat.le_refl _))
                have RZ := Lib.hid (HRS.out _ HZ.out)
                have HSZ : Hid (SetAt wr 0 wr.heap.size s) := by
                  obtain ⟨g1, c1, a1, a2, a3, a4, a5⟩ := HSAT.out
                  exact ⟨g1, c1, a1, a2, Nat.zero_le _, Nat.lt_of_lt_of_le a4 HBz.out.size, fun j hj => range_below HBz.out a4 (a5 j hj)⟩
                have hrl : s.recs.length = s.ds.length := List.length_map ..
                have HRL := Lib.hid hrl
                clear hrl HKC
                go_wp2_with (first
                  | (refine wpList_load_mid rfl 30 (.tmp 162) rfl g _ rfl s.cells _ RZ.out Tryd.underlying30 rfl HI5.out ?_)
                  | (go_at_call 11
                     refine (HRC.out _ HSZ.out).mono ?_
                     rintro e w20 ⟨gr, rfl, hgr, hX, B⟩
                     have HX := Lib.hid hX
                     have HO20 := Lib.hid (ownK_below HOz.out B (Nat.le_refl _))
                     have HB20 := Lib.hid (HBz.out.trans (B.mono HBz.out.size))
                     have HNW : Hid (∀ j u, (fl rcl s.recs)[j]? = some u → w20.cell? ((⟨gr, 0, none⟩ : Addr).add j) = some u) := fun j u hu => by
                       rw [addr_add, Nat.zero_add, HX.out.cell, ← Array.getElem?_toList, fl_flatK rcl_len]
                       exact hu
                     have HNL : Hid ((fl rcl s.recs).length = s.ds.length * 12) := by rw [Hid, fl_len rcl_len, HRL.out]
                     clear hgr hX B)
                  | (at_builtin
                     refine wpList_append_own _ rfl (.tmp 159) (.tmp 164) _ rfl w12.heap.size 44 ti _ 12 96 Tryd.underlying22 HT.out.1 HT.out.2.1 HT.out.2.2.1 HT.out.2.2.2 rfl (by decide) u11 ((ls.take i).flatMap Sx.recs).length _ rfl HO20.out ⟨gr, 0, none⟩ s.ds.length s.ds.length (fl rcl s.recs) rfl HNL.out HNW.out (rcl_flat_one _) (by have := HLN.out; unfold maxLen; omega) (by have := HLN.out; omega) HB20.out.size ?_
                     intro v30 w30 ho hg30 _
                     have HO30 : Hid (Own rcl 12 w30 w12.heap.size 44 v30 ((ls.take (i + 1)).flatMap Sx.recs)) := (by rw [Hid, HTK.out]; show w30.ownsRow _ _ _ _ _ _; rw [List.length_append, fl_append, HRL.out]; exact ho)
                     have HB30 := Lib.hid (HB20.out.grown hg30 HB20.out.size (fun k e => (HO20.out.lt k e).1))
                     clear ho hg30))
                go_roundw
                case rel => exact ⟨i + 1, by go_num, by omega, HO30, HB30⟩
                case measure => simp [intOf]; omega
        · obtain rfl : i = ls.length := by omega
          obtain ⟨Aa, ca, ev, ra⟩ := Rdx.own rcl_len HO.out
          have hal : (ls.flatMap Sx.recs).length ≤ 40000 := by
            have h1 := all_len (ls := ls) (n := l.length) HFD.out
            have h2 := HFEW.out
            have h3 : ls.length * l.length ≤ 200 * 200 := Nat.mul_le_mul (by omega) hn
            omega
          rw [List.take_length] at ev ra
          obtain ⟨al, hal2⟩ : ∃ al, ls.flatMap Sx.recs = al := ⟨_, rfl⟩
          have HFC : Hid (fcs al = Rr.all (fcs l)) := by rw [Hid, ← hal2]; exact all_fcs HLS.out
          have HAO : Hid (∀ r ∈ al, r.nums ∧ r.short) := by rw [← hal2]; exact all_ok HLS.out HFL.out
          rw [hal2] at ev ra hal
          have HRA := Lib.hid ra
          have HSS : Hid (SetsAt wr 0 wr.heap.size (.slice As ls.length cs) ls) := setsAt_keep ⟨As, cs, rfl, HCS.out, HSs.out, HGs.out⟩ HB.out
          have HROx := Lib.hid (HRO12.out.keep HB.out)
          have HBx := Lib.hid (HB12.out.trans (HB.out.mono HB12.out.size))
          have HSM := Lib.hid (fun (W : World) (hb : Below w.heap.size w W) (A1 A2 : Option Addr) (c1 c2 : Nat) (h1 : Srow rcl 12 W 0 W.heap.size A1 al) (h2 : Srow rcl 12 W 0 W.heap.size A2 l) => same_any al l A1 A2 c1 c2 W (HLAY.out W hb) h1 h2 HAO.out HFL.out (by omega) (by omega))
          have hsame : decide ((Rr.sets (fcs al)).map Rr.hd = (Rr.sets (fcs l)).map Rr.hd) = true := by
            rw [decide_eq_true_iff, HFC.out]
            exact Rr.all_same _
          rw [hsame] at HSM
          subst ev
          clear hi hlt ra hal2 HO HSs HGs HCS HRO12 HB HB12 hsame HT HI5 HI8 HI
          go_wp2_with (first
            | (go_at_call_of 6 (Value.slice Aa al.length ca)
               (with_reducible refine (HOW.out al Aa ca _ HRA.out (by omega)).mono ?_)
               rintro e w21 ⟨A21, c21, rfl, _, S2, B⟩
               have HR21 := Lib.hid (S2.more (Nat.zero_le _) (Nat.le_refl _))
               have HRA21 := Lib.hid (HRA.out.keep B)
               have HSS21 := Lib.hid (setsAt_keep HSS.out B)
               have HRO21 := Lib.hid (HROx.out.keep B)
               have HB21 := Lib.hid (HBx.out.trans (B.mono HBx.out.size))
               clear S2 B HRA)
            | (go_at_call_of 8 (Value.slice A21 al.length c21)
               refine (HSE.out al A21 c21 _ HB21.out HR21.out HAO.out (by omega)).mono ?_
               rintro e w22 ⟨lt, vt, rfl, hlt, hat, B⟩
               have HLT : Hid (ls.map Sx.st = lt.map Sx.st) := by
                 have h1 : lt.map Sx.st = Rr.sets (fcs al) := hlt
                 rw [Hid, HLS.out, h1, HFC.out, Rr.all_sets]
               have HST22 := Lib.hid (setsAt_low hat)
               have HRA22 := Lib.hid (HRA21.out.keep B)
               have HSS22 := Lib.hid (setsAt_keep HSS21.out B)
               have HRO22 := Lib.hid (HRO21.out.keep B)
               have HB22 := Lib.hid (HB21.out.trans (B.mono HB21.out.size))
               clear hlt hat B)
            | (go_at_call_of 6 (Value.slice Ao l.length co)
               have h4 := HOW.out other Ao co _ HRO22.out (by rw [HOL.out]; omega)
               rw [HOL.out] at h4
               refine h4.mono ?_
               rintro e w23 ⟨A23, c23, rfl, _, S2, B⟩
               have HR23 := Lib.hid (S2.more (Nat.zero_le _) (Nat.le_refl _))
               have HST23 := Lib.hid (setsAt_keep HST22.out B)
               have HRA23 := Lib.hid (HRA22.out.keep B)
               have HSS23 := Lib.hid (setsAt_keep HSS22.out B)
               have HB23 := Lib.hid (HB22.out.trans (B.mono HB22.out.size))
               clear S2 B h4)
            | (go_at_call_of 8 (Value.slice A23 l.length c23)
               have h5 := HSE.out other A23 c23 _ HB23.out HR23.out HFO.out (by rw [HOL.out]; omega)
               rw [HOL.out] at h5
               refine h5.mono ?_
               rintro e w24 ⟨lu, vu, rfl, hlu, hat, B⟩
               have HLU : Hid (ls.map Sx.st = lu.map Sx.st) := by
                 have h1 : lu.map Sx.st = Rr.sets (fcs other) := hlu
                 rw [Hid, HLS.out, h1, Rr.sets_perm (fcs_perm HOP.out)]
               have HSU24 := Lib.hid (setsAt_low hat)
               have HST24 := Lib.hid (setsAt_keep HST23.out B)
               have HRA24 := Lib.hid (HRA23.out.keep B)
               have HSS24 := Lib.hid (setsAt_keep HSS23.out B)
               have HB24 := Lib.hid (HB23.out.trans (B.mono HB23.out.size))
               clear hlu hat B h5)
            | (go_at_call_of 18 vt
               refine (equal_any ls lt _ vt 0 0 _ HSS24.out HST24.out HLT.out (by have := HFEW.out; omega) (fun s hs => by have := HFD.out s hs; omega)).mono ?_
               rintro e w25 ⟨rfl, B⟩
               have HSU25 := Lib.hid (setsAt_keep HSU24.out B)
               have HRA25 := Lib.hid (HRA24.out.keep B)
               have HSS25 := Lib.hid (setsAt_keep HSS24.out B)
               have HB25 := Lib.hid (HB24.out.trans (B.mono HB24.out.size))
               clear B)
            | (go_at_call_of 18 vu
               refine (equal_any ls lu _ vu 0 0 _ HSS25.out HSU25.out HLU.out (by have := HFEW.out; omega) (fun s hs => by have := HFD.out s hs; omega)).mono ?_
               rintro e w26 ⟨rfl, B⟩
               have HRA26 := Lib.hid (HRA25.out.keep B)
               have HB26 := Lib.hid (HB25.out.trans (B.mono HB25.out.size))
               clear B)
            | (go_at_call_of 6 (Value.slice Aa al.length ca)
               (with_reducible refine (HOW.out al Aa ca _ HRA26.out (by omega)).mono ?_)
               rintro e w27 ⟨A27, c27, rfl, _, S2, B⟩
               have HR27 := Lib.hid (S2.more (Nat.zero_le _) (Nat.le_refl _))
               have HB27 := Lib.hid (HB26.out.trans (B.mono HB26.out.size))
               clear S2 B)
            | (go_at_call_of 6 (Value.slice A l.length c)
               refine (HOW.out l A c _ (HL0.out _ HB27.out) (by omega)).mono ?_
               rintro e w28 ⟨A28, c28, rfl, _, S2, B⟩
               have HR28 := Lib.hid (S2.more (Nat.zero_le _) (Nat.le_refl _))
               have HR27' := Lib.hid ((HR27.out.keep B).more (Nat.le_refl _) B.size)
               have HB28 := Lib.hid (HB27.out.trans (B.mono HB27.out.size))
               clear S2 B)
            | (go_at_call 19
               refine (HSM.out _ HB28.out _ _ _ _ HR27'.out HR28.out).mono ?_
               rintro e w29 ⟨rfl, B⟩
               have HB29 := Lib.hid (HB28.out.trans (B.mono HB28.out.size))
               clear B)
            | (go_at_call 5
               refine (HWK.out _ HB29.out).mono ?_
               rintro e w30 ⟨rfl, B⟩
               have HB30 := Lib.hid (HB29.out.trans (B.mono HB29.out.size))
               clear B))
          go_ret
          exact ⟨rfl, HB30.out⟩
theorem walk_RrsetSet (w : World) (hL : LayR w) (A : Option Addr) (l : List Rv) (c : Nat) (hc : l.length ≤ c) (hna : A = none → c = 0) (hS : Srow rcl 12 w 0 w.heap.size A l) (hf : ∀ r ∈ l, r.fits) (hm : ∀ r ∈ l, r.near) (at' : Int) (ha : (Lit.int .u8 at').wf = true) :
    Calls Tryd.prog 4 #[.slice A l.length c, .int .u8 at'] w fun e w' => e = .returned (.bool true) ∧ Below w.heap.size w w' := by
  by_cases hn : l.length ≤ 200
  · obtain ⟨n, rfl, hn2⟩ : ∃ n : Nat, at' = n ∧ n ≤ 255 := by
      have h1 : IntKind.u8.min = 0 := rfl
      have h2 : IntKind.u8.max = 255 := rfl
      simp only [Lit.wf, Bool.and_eq_true, decide_eq_true_eq] at ha
      exact ⟨at'.toNat, by omega, by omega⟩
    exact set_short w hL A l c hc hna hS (fun r hr => ⟨⟨(hf r hr).1, (hf r hr).2.1⟩, (hm r hr).short⟩) n hn2 hn
  · exact set_long w hL A l c at' (by omega)
end Go.Proofs.YtapbcepjcnnkgaaDoor
