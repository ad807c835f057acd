/- Texts of the proofs, merged. -/
import Derived.Test.YtmieakkhpkclpaaDoorG29
/- slices.Equal at data; two sets compared: the program's. -/
namespace Go.Proofs.YtmieakkhpkclpaaDoor
open Go.RowKit Go.Sort Go.Shelf

set_option maxHeartbeats 2000000 in
set_option maxRecDepth 100000 in
theorem eqD_any (a b : List Dv) (g1 o1 c1 g2 o2 c2 : Nat) (w : World) (h1 : ∀ j (h : j < a.length), w.rangeAt g1 (o1 + j * 8) (dcl a[j])) (h2 : ∀ j (h : j < b.length), w.rangeAt g2 (o2 + j * 8) (dcl b[j])) (hn : a.length ≤ 4294967296) :
    Calls Tryd.prog 24 #[.slice (some ⟨g1, o1, none⟩) a.length c1, .slice (some ⟨g2, o2, none⟩) b.length c2] w fun e w' => e = .returned (.bool (decide (a = b))) ∧ ∃ n, w' = w.drewN n := by
  have H1 := Lib.hid h1
  have H2 := Lib.hid h2
  clear h1 h2
  have hi8 : (Tryd.prog.info? 41).map (·.size) = some 8 := by kernel_rfl
  have HI := Lib.hid hi8
  clear hi8
  by_cases hl : a.length = b.length
  · rw [← hl]
    have HL := Lib.hid hl
    clear hl
    go_enter Tryd.func24, Tryd.ntmps24
    go_wp2
    go_loopw [13] (fun i wr => ∃ k q : Nat, i = .int .i64 k ∧ k ≤ a.length ∧ Hid (a.take k = b.take k) ∧ wr = w.drewN q) (fun i _ => a.length - (intOf i).toNat)
    case atStart => exact ⟨0, 0, rfl, Nat.zero_le _, rfl, rfl⟩
    case round =>
      obtain ⟨k, q, rfl, hk, HT, rfl⟩ := hrel
      by_cases hlt : k < a.length
      · have hlb : k < b.length := by rw [← HL.out]; exact hlt
        have HR1 := Lib.hid (fun (W : World) (h : ∃ n, W = (w.drewN q).drewN n) => (show W.rangeAt g1 (o1 + k * 8) (dcl (a[k]'hlt)) from range_drewN (w := w.drewN q) (H1.out k hlt) W h))
        have HR2 := Lib.hid (fun (W : World) (h : ∃ n, W = (w.drewN q).drewN n) => (show W.rangeAt g2 (o2 + k * 8) (dcl (b[k]'hlb)) from range_drewN (w := w.drewN q) (H2.out k hlb) W h))
        have HA := Lib.hid (List.take_succ_eq_append_getElem hlt)
        have HB := Lib.hid (List.take_succ_eq_append_getElem hlb)
        have HNE : Hid (a[k] ≠ b[k] → a ≠ b) := fun h e => h (by subst e; rfl)
        generalize a[k] = x at *
        generalize b[k] = y at *
        clear hlb
        generalize hwq : w.drewN q = wq at *
        have HWQ := Lib.hid hwq
        clear hwq
        by_cases hxy : x = y
        · have HD : Hid (decide (x = y) = true) := by simp [Hid, hxy]
          have HXY := Lib.hid hxy
          clear hxy
          go_wp2_with fail
          refine wp_region_quiet_lit (by kernel_rfl) (by kernel_rfl) ?_
          repeat (first
            | (refine wpQuiet_load_mid rfl 41 (.tmp 18) rfl g1 (o1 + k * 8) rfl (dcl x) _ HR1.out Tryd.underlying41 rfl HI.out ?_)
            | (refine wpQuiet_load_mid rfl 41 (.tmp 22) rfl g2 (o2 + k * 8) rfl (dcl y) _ HR2.out Tryd.underlying41 rfl HI.out ?_)
            | (refine wpQuiet_neq_data rfl (.tmp 19) (.tmp 23) rfl x y rfl rfl true HD.out ?_)
            | quiet_step (fail))
          refine wpQuiet_nil ?_
          rintro _ ⟨nq, rfl⟩
          go_wp2_with fail
          go_roundw
          case rel => exact ⟨k + 1, q + nq, by go_num, by omega, by rw [Hid, HA.out, HB.out, HT.out, HXY.out], by rw [← HWQ.out, World.drewN_drewN]⟩
          case measure => simp [intOf]; omega
        · have HD : Hid (decide (x = y) = false) := by simp [Hid, hxy]
          have HXY := Lib.hid hxy
          clear hxy
          go_wp2_with fail
          refine wp_region_quiet_lit (by kernel_rfl) (by kernel_rfl) ?_
          repeat (first
            | (refine wpQuiet_load_mid rfl 41 (.tmp 18) rfl g1 (o1 + k * 8) rfl (dcl x) _ HR1.out Tryd.underlying41 rfl HI.out ?_)
            | (refine wpQuiet_load_mid rfl 41 (.tmp 22) rfl g2 (o2 + k * 8) rfl (dcl y) _ HR2.out Tryd.underlying41 rfl HI.out ?_)
            | (refine wpQuiet_neq_data rfl (.tmp 19) (.tmp 23) rfl x y rfl rfl false HD.out ?_)
            | quiet_step (fail))
          refine wpQuiet_nil ?_
          rintro _ ⟨nq, rfl⟩
          go_wp2_with fail
          go_ret
          refine ⟨?_, q + nq, by rw [← HWQ.out, World.drewN_drewN]⟩
          rw [decide_eq_false (HNE.out HXY.out)]
          rfl
      · obtain rfl : k = a.length := by omega
        go_wp2_with fail
        go_ret
        refine ⟨?_, q, rfl⟩
        have h := HT.out
        rw [List.take_of_length_le (Nat.le_refl _), List.take_of_length_le (by rw [← HL.out]; exact Nat.le_refl _)] at h
        rw [decide_eq_true h]
        rfl
  · have hne : ¬ (a.length : Int) = (b.length : Int) := by omega
    have HL := Lib.hid hl
    clear hl
    go_enter Tryd.func24, Tryd.ntmps24
    go_wp2
    go_ret
    refine ⟨?_, 0, rfl⟩
    rw [decide_eq_false (fun e => HL.out (by rw [e]))]
    rfl
/-- two sets have the same key and the same data. -/
def Sx.like (s t : Sx) : Bool := decide (s.k = t.k ∧ s.ds = t.ds)
set_option maxHeartbeats 2000000 in
set_option maxRecDepth 100000 in
theorem like_any (s t : Sx) (w : World) (lo lo2 : Nat) (hs : SetAt w lo w.heap.size s) (ht : SetAt w lo2 w.heap.size t) (hn : s.ds.length ≤ 4294967296) :
    Calls Tryd.prog 23 #[.agg s.cells.toArray, .agg t.cells.toArray] w fun e w' => e = .returned (.bool (s.like t)) ∧ Below w.heap.size w w' := by
  obtain ⟨⟨an, at', ac⟩, attl, av, ads⟩ := s
  obtain ⟨⟨bn, bt, bc⟩, bttl, bv, bds⟩ := t
  obtain ⟨g1, c1, e1, hc1, _, hg1, hr1⟩ := hs
  obtain ⟨g2, c2, e2, hc2, _, hg2, hr2⟩ := ht
  simp only at e1 e2 hc1 hr1 hc2 hr2 hn
  subst e1 e2
  have HEQ := Lib.hid (fun (W : World) (hb : Below w.heap.size w W) => eqD_any ads bds g1 0 c1 g2 0 c2 W (fun j h => range_below hb hg1 (hr1 j h)) (fun j h => range_below hb hg2 (hr2 j h)) hn)
  clear hr1 hr2 hc1 hc2 hg1 hg2
  have HB0 : Hid (Below w.heap.size w ((w.alloc (.cells #[.string an, .int .u16 at', .int .u16 ac, .int .u32 attl, .slice (some ⟨g1, 0, none⟩) ads.length c1] 30)).alloc (.cells #[.string bn, .int .u16 bt, .int .u16 bc, .int .u32 bttl, .slice (some ⟨g2, 0, none⟩) bds.length c2] 30))) := ((Below.refl _ _).alloc (Nat.le_refl _) _).alloc (by simp) _
  have hno : ∀ h : ¬ ((⟨an, at', ac⟩ : Kv) = ⟨bn, bt, bc⟩), Sx.like ⟨⟨an, at', ac⟩, attl, .slice (some ⟨g1, 0, none⟩) ads.length c1, ads⟩ ⟨⟨bn, bt, bc⟩, bttl, .slice (some ⟨g2, 0, none⟩) bds.length c2, bds⟩ = false := fun h => decide_eq_false (fun e => h e.1)
  by_cases h1 : an = bn
  · by_cases h2 : at' = bt
    · by_cases h3 : ac = bc
      · subst h1 h2 h3
        have hyes : Sx.like ⟨⟨an, at', ac⟩, attl, .slice (some ⟨g1, 0, none⟩) ads.length c1, ads⟩ ⟨⟨an, at', ac⟩, bttl, .slice (some ⟨g2, 0, none⟩) bds.length c2, bds⟩ = decide (ads = bds) := by
          unfold Sx.like
          simp
        rw [hyes]
        clear hno hyes
        dsimp only [Sx.cells]
        go_enter Tryd.func23, Tryd.ntmps23
        go_wp2_with (go_at_call 24; refine (HEQ.out _ HB0.out).mono ?_; rintro e w1 ⟨rfl, n, rfl⟩)
        go_ret
        exact ⟨rfl, below_drewN HB0.out n⟩
      · have hq : ((ac : Int) == (bc : Int)) = false := beq_eq_false_iff_ne.2 (by omega)
        rw [hno (fun e => h3 (by injection e))]
        clear hno HEQ h3
        subst h1 h2
        dsimp only [Sx.cells]
        go_enter Tryd.func23, Tryd.ntmps23
        go_wp2
        go_ret
        exact ⟨rfl, HB0.out⟩
    · have hq : ((at' : Int) == (bt : Int)) = false := beq_eq_false_iff_ne.2 (by omega)
      rw [hno (fun e => h2 (by injection e))]
      clear hno HEQ h2
      subst h1
      dsimp only [Sx.cells]
      go_enter Tryd.func23, Tryd.ntmps23
      go_wp2
      go_ret
      exact ⟨rfl, HB0.out⟩
  · have hq : (an.toList == bn.toList) = false := by rw [strB]; simpa using h1
    rw [hno (fun e => h1 (by injection e))]
    clear hno HEQ h1
    dsimp only [Sx.cells]
    go_enter Tryd.func23, Tryd.ntmps23
    go_wp2
    go_ret
    exact ⟨rfl, HB0.out⟩
end Go.Proofs.YtmieakkhpkclpaaDoor
