/- Texts of the proofs, merged. -/
import Derived.Test.YtekafhogiambaaaGreatDoorZt23
namespace Go.Proofs.YtekafhogiambaaaGreatDoor
open Go.RowKit

section
variable {g : Nat} {hi : Nat × Nat} {s : Ma.S} {f x : Tk.Wd} {ws r : List Tk.Wd} {w : World}
set_option linter.unusedSimpArgs false in
set_option linter.unusedVariables false in
set_option maxHeartbeats 8000000 in
set_option maxRecDepth 100000 in
theorem maEnt_no (hno : RdNo) {vw : Value} {er : Ma.Er} (h : MM w g hi s f ws) (hs : Mk s) (bl : Bool) (el : Nat) (hw : Wp w hi.1 vw (x :: r)) (he : Ma.entry s bl x r = .error er) :
    Calls Tryz.prog 23 #[.pointer (some ⟨g, 0, none⟩), .agg #[.bool bl, .int .i64 el, vw]] w fun e w' => Fell w g er e w' := by
  have hgw := h.lt
  have htop := h.top
  have hle := h.le
  have hxl : x.text.length ≤ 262144 := by
    obtain ⟨_, _, _, _, _, h4, _⟩ := hw
    exact h4 x (by simp)
  have hBa := (Below.refl w.heap.size w).alloc (Nat.le_refl _) (.cells #[.bool bl, .int .i64 el, vw] 74)
  have hma := h.keep hBa
  have hwa := hw.keep (hBa.mono (by omega))
  obtain ⟨q, p, cp, rfl, hc, hm, hq, hr, h4, _⟩ := hwa.head
  obtain ⟨x0, x1, x2, x3⟩ := wc_cells hr
  obtain ⟨vr, vw0, hh⟩ := hma.has
  have e4 : (w.alloc (.cells #[.bool bl, .int .i64 el, .slice (some ⟨q, p, none⟩) (r.length + 1) cp] 74)).cell? ⟨g, 4, none⟩ = some (sv f.text) := hh.cell 4
  have e5 : (w.alloc (.cells #[.bool bl, .int .i64 el, .slice (some ⟨q, p, none⟩) (r.length + 1) cp] 74)).cell? ⟨g, 5, none⟩ = some (.bool f.quoted) := hh.cell 5
  have e6 : (w.alloc (.cells #[.bool bl, .int .i64 el, .slice (some ⟨q, p, none⟩) (r.length + 1) cp] 74)).cell? ⟨g, 6, none⟩ = some (.int .i64 f.line) := hh.cell 6
  have e7 : (w.alloc (.cells #[.bool bl, .int .i64 el, .slice (some ⟨q, p, none⟩) (r.length + 1) cp] 74)).cell? ⟨g, 7, none⟩ = some (.int .i64 f.col) := hh.cell 7
  have e8 : (w.alloc (.cells #[.bool bl, .int .i64 el, .slice (some ⟨q, p, none⟩) (r.length + 1) cp] 74)).cell? ⟨g, 8, none⟩ = some vw0 := hh.cell 8
  have g4 := hh.free 4
  have g5 := hh.free 5
  have g6 := hh.free 6
  have g7 := hh.free 7
  have g8 := hh.free 8
  have hqg : q ≠ g := by omega
  have hbx := Has.fresh w 74 #[.bool bl, .int .i64 el, .slice (some ⟨q, p, none⟩) (r.length + 1) cp]
  have b0 : (w.alloc (.cells #[.bool bl, .int .i64 el, .slice (some ⟨q, p, none⟩) (r.length + 1) cp] 74)).cell? ⟨w.heap.size, 0, none⟩ = some (.bool bl) := hbx.cell 0
  have b2 : (w.alloc (.cells #[.bool bl, .int .i64 el, .slice (some ⟨q, p, none⟩) (r.length + 1) cp] 74)).cell? ⟨w.heap.size, 2, none⟩ = some (.slice (some ⟨q, p, none⟩) (r.length + 1) cp) := hbx.cell 2
  have HMA := Lib.hid hma
  have HWA := Lib.hid hwa
  have HS := Lib.hid hs
  have HE := Lib.hid he
  have HBX := Lib.hid hbx
  have HXL := Lib.hid hxl
  have HGN : Hid (g ≠ w.heap.size) := by rw [Hid]; omega
  have HBWA : Hid (Below g w (w.alloc (.cells #[.bool bl, .int .i64 el, .slice (some ⟨q, p, none⟩) (r.length + 1) cp] 74))) := (Below.refl g w).alloc (Nat.le_of_lt hgw) _
  clear h hs hw hma hwa hr h4 hh hBa he hbx hxl
  have e0 : ((((r.length : Nat) : Int) + 1) == 0) = false := beq_eq_false_iff_ne.2 (by omega)
  have el1 : (0 : Int) < ((r.length : Nat) : Int) + 1 := by omega
  obtain ⟨xt, xq, xl, xc⟩ := x
  dsimp only at x0 x1 x2 x3
  go_enter Tryz.func23, Tryz.ntmps23
  go_wp2
  generalize hwa0 : w.alloc (.cells #[.bool bl, .int .i64 el, .slice (some ⟨q, p, none⟩) (r.length + 1) cp] 74) = wa at *
  go_region
  obtain ⟨W1, hW1⟩ : ∃ W1, W1 = ((((((wa.setCell ⟨g, 4, none⟩ (.string ⟨xt.toArray⟩)).setCell ⟨g, 5, none⟩ (.bool xq)).setCell ⟨g, 6, none⟩ (.int .i64 xl)).setCell ⟨g, 7, none⟩ (.int .i64 xc)).setCell ⟨g, 8, none⟩ (.slice (some ⟨q, p, none⟩) (r.length + 1) cp)).drew) := ⟨_, rfl⟩
  obtain ⟨hst, hb1, hoth, hsz⟩ := HMA.out.begun HWA.out hW1
  rw [← hW1]
  clear hW1
  dsimp only [Exit.then]
  rename_i K hK
  have HKK := Lib.hid hK
  clear hK
  have HB1 := Lib.hid (HBWA.out.trans hb1)
  have hbk : Has W1 w.heap.size 74 #[.bool bl, .int .i64 el, .slice (some ⟨q, p, none⟩) (r.length + 1) cp] := (hoth _ (Ne.symm HGN.out)).trans HBX.out
  have HBK := Lib.hid hbk
  have b1 : W1.cell? ⟨w.heap.size, 0, none⟩ = some (.bool bl) := hbk.cell 0
  obtain ⟨vr1, vw1, hh1, hrow, _, _, _, _, _, _⟩ := id hst
  have HROW1 := Lib.hid hrow
  obtain ⟨A3, c3, hvr, _⟩ := ownK_form hrow
  subst hvr
  obtain ⟨N, hN⟩ : ∃ N, s.recs.length = N := ⟨_, rfl⟩
  rw [hN] at hh1
  have HNN := Lib.hid hN
  have d3 : W1.cell? ⟨g, 3, none⟩ = some (.slice A3 N c3) := hh1.cell 3
  have HD3 : Hid (∀ X, Below W1.heap.size W1 X → X.cell? ⟨g, 3, none⟩ = some (.slice A3 N c3)) := fun X hb => (hb.cell (p := ⟨g, 3, none⟩) hh1.lt).trans d3
  have d4 : W1.cell? ⟨g, 4, none⟩ = some (sv xt) := hh1.cell 4
  have d5 : W1.cell? ⟨g, 5, none⟩ = some (.bool xq) := hh1.cell 5
  have d6 : W1.cell? ⟨g, 6, none⟩ = some (.int .i64 xl) := hh1.cell 6
  have d7 : W1.cell? ⟨g, 7, none⟩ = some (.int .i64 xc) := hh1.cell 7
  have HST := Lib.hid hst
  have HKW := Lib.hid (fun W => keyword_any ⟨xt, xq, xl, xc⟩ W HXL.out)
  have HKL : Hid ((Ma.kw ⟨xt, xq, xl, xc⟩).length ≤ 140737488355328) := by
    have h9 : xt.length ≤ 262144 := HXL.out
    rw [Hid]
    unfold Ma.kw
    split
    · simp
    · rw [Nm.fold_length]; show xt.length ≤ _; omega
  obtain ⟨kk, hkk⟩ : ∃ kk, Ma.kw ⟨xt, xq, xl, xc⟩ = kk := ⟨_, rfl⟩
  have hdir : Ma.isDir bl ⟨xt, xq, xl, xc⟩ = (!bl && dollar kk) := by rw [← hkk]; rfl
  have HDIR := Lib.hid hdir
  rw [hkk] at HKW HKL
  have HWS : Hid (wa.heap.size = w.heap.size + 1) := by rw [Hid, ← hwa0]; simp
  clear hst hb1 hoth hsz hbk hh1 hrow hN hkk hdir hwa0 x0 x1 x2 x3 e4 e5 e6 e7 e8 g4 g5 g6 g7 g8 b0 b2
  cases bl with
  | true =>
    by_cases hN4 : N = 4096
    · subst hN4
      have her : er = Ma.at_ ⟨xt, xq, xl, xc⟩ 2 := by
        have := HE.out
        unfold Ma.entry at this
        rw [HDIR.out] at this
        simp only [Bool.not_true, Bool.false_and, Bool.false_eq_true, if_false] at this
        rw [if_pos HNN.out] at this
        injection this with this
        exact this.symm
      subst her
      have HGU : Hid (∀ W, Calls Tryz.prog 40 #[.agg #[sv xt, .bool xq, .int .i64 xl, .int .i64 xc], .int .i64 2] W fun e w' => Fell W W.heap.size (Ma.at_ ⟨xt, xq, xl, xc⟩ 2) e w') := fun W => maGiveUp_any ⟨xt, xq, xl, xc⟩ 2 W
      have HBB := Lib.hid HB1.out
      have HGL := Lib.hid HST.out.lt
      refine HKK.out _ _ ?_
      have HKB := Lib.hid (Below.refl g W1)
      go_wp2_with (go_at_call 40; refine (HGU.out _).mono ?_; rintro e w5 ⟨rfl, hb5⟩; exact ⟨rfl, ⟨rfl, by first | exact HBB.out.trans (hb5.mono (Nat.le_of_lt HGL.out)) | exact HBB.out.drew.trans (hb5.mono (Nat.le_of_lt HGL.out))⟩⟩)
    · have hne : ((N : Int) == 4096) = false := beq_eq_false_iff_ne.2 (by omega)
      have hne2 : ¬ (N : Int) = 4096 := beq_eq_false_iff_ne.1 hne
      refine HKK.out _ _ ?_
      go_wp2
      have hrec : Ma.record s ⟨xt, xq, xl, xc⟩ true (⟨xt, xq, xl, xc⟩ :: r) = .error er := by
        have := HE.out
        unfold Ma.entry at this
        rw [HDIR.out] at this
        simp only [Bool.not_true, Bool.false_and, Bool.false_eq_true, if_false] at this
        rw [if_neg (by rw [HNN.out]; exact hN4)] at this
        cases hq9 : Ma.record s ⟨xt, xq, xl, xc⟩ true (⟨xt, xq, xl, xc⟩ :: r) with
        | error y =>
          rw [hq9] at this
          injection this with this
          rw [this]
        | ok y => rw [hq9] at this; cases this
      have HMD := Lib.hid (HST.out.keep (Below.refl _ W1).drew)
      have HREC : Hid (Calls Tryz.prog 41 #[.pointer (some ⟨g, 0, none⟩), .bool true] W1.drew fun e w' => Fell W1.drew g er e w') := by
        have h9 := maRec_any HMD.out HS.out true (fun _ => by simp) (.inl hno)
        rw [hrec] at h9
        exact h9
      clear hrec
      have HBB := Lib.hid HB1.out
      go_region_with (go_at_call 41; refine HREC.out.mono ?_; rintro e w5 ⟨rfl, hb5⟩; refine (fun (_ : wpAny Tryz.prog .any #[] (fun _ _ _ => True) 0 #[] { tmps := #[], defers := [] } w5) => (show bodyPost Tryz.prog Tryz.f23 (fun e w' => Fell w g er e w') (Exit.panic _) _ _ from ⟨rfl, ⟨rfl, HBB.out.drew.trans hb5⟩⟩)) ?_)
      all_goals trivial
  | false =>
    obtain ⟨dl, hdl⟩ : ∃ dl, dollar kk = dl := ⟨_, rfl⟩
    have HDL := Lib.hid hdl
    have HPRE : Hid (∀ W, Calls Tryz.prog 37 #[sv kk, .string ⟨#[36]⟩] W fun e w' => e = .returned (.bool dl) ∧ w' = W) := fun W => by
      have := hasPre_any kk W HKL.out
      rwa [hdl] at this
    clear hdl
    cases dl with
    | true =>
      have hd : Ma.directive s ⟨xt, xq, xl, xc⟩ r = .error er := by
        have := HE.out
        unfold Ma.entry at this
        rw [HDIR.out, HDL.out] at this
        simpa using this
      have HDR : Hid (∀ W, MM W g hi s ⟨xt, xq, xl, xc⟩ (⟨xt, xq, xl, xc⟩ :: r) → Calls Tryz.prog 39 #[.pointer (some ⟨g, 0, none⟩)] W fun e w' => Fell W g er e w') := fun W hM => by
        have := maDir_any hM HS.out
        rw [hd] at this
        exact this
      clear hd
      refine HKK.out _ _ ?_
      go_wp2_with (first
        | (go_at_call 38; refine (HKW.out _).mono ?_; rintro e w2 ⟨rfl, hb2⟩; have HM2 := Lib.hid (HST.out.keep hb2); have HB2 := Lib.hid (HB1.out.trans (hb2.mono (Nat.le_of_lt HST.out.lt))); clear hb2)
        | (go_at_call 37; refine (HPRE.out _).mono ?_; rintro e w3 ⟨rfl, rfl⟩)
        | (go_at_call 39; refine (HDR.out _ HM2.out).mono ?_; rintro e w4 ⟨rfl, hb4⟩; exact ⟨rfl, ⟨rfl, HB2.out.trans hb4⟩⟩))
    | false =>
      by_cases hN4 : N = 4096
      · subst hN4
        have her : er = Ma.at_ ⟨xt, xq, xl, xc⟩ 2 := by
          have := HE.out
          unfold Ma.entry at this
          rw [HDIR.out, HDL.out] at this
          simp only [Bool.and_false, Bool.false_eq_true, if_false] at this
          rw [if_pos HNN.out] at this
          injection this with this
          exact this.symm
        subst her
        have HGU : Hid (∀ W, Calls Tryz.prog 40 #[.agg #[sv xt, .bool xq, .int .i64 xl, .int .i64 xc], .int .i64 2] W fun e w' => Fell W W.heap.size (Ma.at_ ⟨xt, xq, xl, xc⟩ 2) e w') := fun W => maGiveUp_any ⟨xt, xq, xl, xc⟩ 2 W
        have HGL := Lib.hid HST.out.lt
        have HD4 : Hid (∀ X, Below W1.heap.size W1 X → X.cell? ⟨g, 4, none⟩ = some (sv xt) ∧ X.cell? ⟨g, 5, none⟩ = some (.bool xq) ∧ X.cell? ⟨g, 6, none⟩ = some (.int .i64 xl) ∧ X.cell? ⟨g, 7, none⟩ = some (.int .i64 xc)) := fun X hb => ⟨(hb.cell (p := ⟨g, 4, none⟩) HGL.out).trans d4, (hb.cell (p := ⟨g, 5, none⟩) HGL.out).trans d5, (hb.cell (p := ⟨g, 6, none⟩) HGL.out).trans d6, (hb.cell (p := ⟨g, 7, none⟩) HGL.out).trans d7⟩
        refine HKK.out _ _ ?_
        go_wp2_with (first
          | (go_at_call 38; refine (HKW.out _).mono ?_; rintro e w2 ⟨rfl, hb2⟩; have HM2 := Lib.hid (HST.out.keep hb2); have HB2 := Lib.hid (HB1.out.trans (hb2.mono (Nat.le_of_lt HST.out.lt))); have HBK2 := Lib.hid (HBK.out.below hb2 HBK.out.lt); have e3 := HD3.out _ hb2; have HROW2 := Lib.hid (ownK_below HROW1.out hb2 (Nat.le_refl _)); have eb : w2.cell? ⟨w.heap.size, 0, none⟩ = some (.bool false) := HBK2.out.cell 0; obtain ⟨k4, k5, k6, k7⟩ := HD4.out _ hb2; clear hb2)
          | (go_at_call 37; refine (HPRE.out _).mono ?_; rintro e w3 ⟨rfl, rfl⟩)
          | (go_at_call 40; refine (HGU.out _).mono ?_; rintro e w5 ⟨rfl, hb5⟩; exact ⟨rfl, ⟨rfl, by first | exact HB2.out.trans (hb5.mono (Nat.le_of_lt HM2.out.lt)) | exact HB2.out.drew.trans (hb5.mono (Nat.le_of_lt HM2.out.lt))⟩⟩))
      · have hne : ((N : Int) == 4096) = false := beq_eq_false_iff_ne.2 (by omega)
        have hne2 : ¬ (N : Int) = 4096 := beq_eq_false_iff_ne.1 hne
        refine HKK.out _ _ ?_
        go_wp2_with (first
          | (go_at_call 38; refine (HKW.out _).mono ?_; rintro e w2 ⟨rfl, hb2⟩; have HM2 := Lib.hid (HST.out.keep hb2); have HB2 := Lib.hid (HB1.out.trans (hb2.mono (Nat.le_of_lt HST.out.lt))); have HBK2 := Lib.hid (HBK.out.below hb2 HBK.out.lt); have e3 := HD3.out _ hb2; have HROW2 := Lib.hid (ownK_below HROW1.out hb2 (Nat.le_refl _)); have eb : w2.cell? ⟨w.heap.size, 0, none⟩ = some (.bool false) := HBK2.out.cell 0; clear hb2)
          | (go_at_call 37; refine (HPRE.out _).mono ?_; rintro e w3 ⟨rfl, rfl⟩))
        have hrec : Ma.record s ⟨xt, xq, xl, xc⟩ false (⟨xt, xq, xl, xc⟩ :: r) = .error er := by
          have := HE.out
          unfold Ma.entry at this
          rw [HDIR.out, HDL.out] at this
          simp only [Bool.and_false, Bool.false_eq_true, if_false] at this
          rw [if_neg (by rw [HNN.out]; exact hN4)] at this
          cases hq9 : Ma.record s ⟨xt, xq, xl, xc⟩ false (⟨xt, xq, xl, xc⟩ :: r) with
          | error y =>
            rw [hq9] at this
            injection this with this
            rw [this]
          | ok y => rw [hq9] at this; cases this
        have HMD := Lib.hid (HM2.out.keep (Below.refl _ w3).drew)
        have HREC : Hid (Calls Tryz.prog 41 #[.pointer (some ⟨g, 0, none⟩), .bool false] w3.drew fun e w' => Fell w3.drew g er e w') := by
          have h9 := maRec_any HMD.out HS.out false (fun _ => by simp) (.inl hno)
          rw [hrec] at h9
          exact h9
        clear hrec
        have HBB := Lib.hid HB2.out
        go_region_with (go_at_call 41; refine HREC.out.mono ?_; rintro e w5 ⟨rfl, hb5⟩; refine (fun (_ : wpAny Tryz.prog .any #[] (fun _ _ _ => True) 0 #[] { tmps := #[], defers := [] } w5) => (show bodyPost Tryz.prog Tryz.f23 (fun e w' => Fell w g er e w') (Exit.panic _) _ _ from ⟨rfl, ⟨rfl, HBB.out.drew.trans hb5⟩⟩)) ?_)
        all_goals trivial
end
end Go.Proofs.YtekafhogiambaaaGreatDoor
