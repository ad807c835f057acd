/- The statements' older: of rows that are so many seconds older. -/
import Derived.Test.YtnhoaceickojeaaCaApA
import Derived.Deep.RegionHeld3
import Derived.BigQuiet
namespace Go.Proofs.Ytnhoaceickojeaa.Ca
open Go.RowKit

set_option maxHeartbeats 4000000 in
set_option maxRecDepth 100000 in
theorem older_any (xs : List Rv) (gg : Nat) (A B : Option Addr) (c c2 : Nat) (w : World) (hA : Srow rcl 12 w 0 w.heap.size A ((xs.map foldR).map (agedR gg))) (hB : Srow rcl 12 w 0 w.heap.size B xs) (hn : xs.length ≤ 1000) (hm : ∀ r ∈ xs, gg ≤ r.ttl ∧ r.ttl ≤ 2147483647 ∧ r.nm.size ≤ 140737488355328) :
    Calls Try.prog 24 #[.slice A xs.length c, .slice B xs.length c2, .int .u32 (gg : Int)] w fun e w' => e = .returned (.bool true) ∧ Below w.heap.size w w' := by
  have HA := Lib.hid hA
  have HB := Lib.hid hB
  have HM := Lib.hid hm
  have hi12 : (Try.prog.info? 50).map (·.size) = some 12 := by kernel_rfl
  have HI := Lib.hid hi12
  clear hA hB hi12 hm
  go_enter Try.func24, Try.ntmps24
  go_wp2
  go_loopw [7] (fun s7 wr => ∃ k : Nat, s7 = .int .i64 k ∧ k ≤ xs.length ∧ Hid (Below w.heap.size w wr)) (fun s7 _ => xs.length - (intOf s7).toNat)
  case atStart => exact ⟨0, rfl, Nat.zero_le _, Below.refl _ _⟩
  case round =>
    obtain ⟨k, rfl, hk, HW⟩ := hrel
    by_cases hlt : k < xs.length
    · have hlA : k < ((xs.map foldR).map (agedR gg)).length := by rw [List.length_map, List.length_map]; exact hlt
      obtain ⟨g, o, rfl, _, hg, hc⟩ := HA.out.at_ hlA
      obtain ⟨g2, o2, rfl, _, hg2, hc2⟩ := HB.out.at_ hlt
      rw [List.getElem_map, List.getElem_map] at hc
      have hrm := HM.out _ (List.getElem_mem hlt)
      have i0 : (0 : Int) ≤ (k : Int) := by omega
      have i1 : (k : Int) < (xs.length : Int) := by omega
      generalize xs[k] = r at *
      obtain ⟨f, hf⟩ : ∃ f, foldB r.nm = f := ⟨_, rfl⟩
      obtain ⟨D, hD⟩ : ∃ D, r.ttl - gg = D := ⟨_, rfl⟩
      obtain ⟨h1, h2, h3⟩ := hrm
      have hsub : IntKind.u32.wrap ((r.ttl : Int) - (gg : Int)) = (D : Int) := by rw [IntKind.wrap_u32]; omega
      have hls : decide ((r.ttl : Int) < (gg : Int)) = false := decide_eq_false (by omega)
      have hl2 : decide (r.ttl < gg) = false := decide_eq_false (by omega)
      have HF := Lib.hid fun W => foldB_any r.nm h3 W
      rw [hf] at HF
      have hcc : w.rangeAt g (o + k * 12) (rcl ⟨f, r.ty, r.cl, D, r.d⟩) := by
        have e : agedR gg (foldR r) = ⟨f, r.ty, r.cl, D, r.d⟩ := by rw [← hf, ← hD]; rfl
        rw [e] at hc
        exact hc
      have HC := Lib.hid hcc
      have hc3 := Lib.hid (range_below HW.out hg2 hc2)
      have HG := Lib.hid hg
      clear hc hcc hc2 hg hg2 h1 h2 h3 hf hD
      obtain ⟨wo, hwo⟩ : ∃ z, z = wr := ⟨_, rfl⟩
      subst hwo
      have hws := HW.out.size
      go_upto_region 7 with (first
        | (refine wpList_load_mid rfl 50 (.tmp 22) rfl g2 _ rfl (rcl r) _ hc3.out Try.underlying50 rfl HI.out ?_)
        | (refine wpList_store_boxed rfl 50 (.tmp 8) (.tmp 23) rfl 50 _ r.cells rfl rfl HI.out rfl (rv_one r) ?_; intro w3 hY g3 hs3; have HY := Lib.hid hY; have HG3 := Lib.hid g3; clear hY g3 hs3))
      have hB3 : Below w.heap.size w w3 := HW.out.grown HG3.out hws (fun k e => by cases e)
      have HB3 := Lib.hid hB3
      have hB3' := hB3
      clear hc3 HG3 HW hB3
      have hcw := range_below hB3' HG.out HC.out
      have a0 : w3.cell? ⟨g, o + k * 12, none⟩ = some (.string f) := hcw 0 _ rfl
      have a3 : w3.cell? ⟨g, o + k * 12 + 3, none⟩ = some (.int .u32 (D : Int)) := hcw 3 _ rfl
      have x3 := rv_ttl HY.out
      have x0 : w3.cell? ⟨wo.heap.size, 0, none⟩ = some (.string r.nm) := by rw [HY.out.cell]; rfl
      clear hcw hB3'
      go_region_held3 (fun W => W.cell? ⟨wo.heap.size, 3, none⟩ = some (.int .u32 (r.ttl : Int)) ∧ W.cell? ⟨wo.heap.size, 0, none⟩ = some (.string r.nm) ∧ W.cell? ⟨g, o + k * 12, none⟩ = some (.string f) ∧ W.cell? ⟨g, o + k * 12 + 3, none⟩ = some (.int .u32 (D : Int)))
        (first
          | (exact ⟨x3, x0, a0, a3⟩)
          | (exact ⟨y3, y0, b0, b3⟩)
          | (go_keep; done))
        (first
          | (go_split_ands; go_at_call 25
             refine (HF.out _).mono ?_
             rintro e W4 ⟨rfl, hb4⟩
             have y3 : W4.cell? ⟨wo.heap.size, 3, none⟩ = some (.int .u32 (r.ttl : Int)) := keep_cell hb4 (by assumption)
             have y0 : W4.cell? ⟨wo.heap.size, 0, none⟩ = some (.string r.nm) := keep_cell hb4 (by assumption)
             have b0 : W4.cell? ⟨g, o + k * 12, none⟩ = some (.string f) := keep_cell hb4 (by assumption)
             have b3 : W4.cell? ⟨g, o + k * 12 + 3, none⟩ = some (.int .u32 (D : Int)) := keep_cell hb4 (by assumption)
             have HB4 := Lib.hid hb4
             clear hb4))
      rename_i q0 q1 q2 q3 hHeld
      clear q0 q1 q2 q3 hHeld
      have hdr : Below w3.heap.size w3 W4 := (Below.refl _ _).drew.trans HB4.out
      have hY4 := HY.out.below hdr HY.out.lt
      have HY4 := Lib.hid hY4
      have hB4 := Lib.hid (HB3.out.trans (hdr.mono HB3.out.size))
      have fr3 := hY4.free 3
      have fr0 := hY4.free 0
      clear hdr hY4 x3 x0 a0 a3 HB4 HY HB3 HF
      have hgn : wo.heap.size ≠ g := fun e => by have := HG.out; omega
      have d0 : (W4.setCell ⟨wo.heap.size, 3, none⟩ (.int .u32 (D : Int))).cell? ⟨g, o + k * 12, none⟩ = some (.string f) := (World.cell?_setCell_far _ _ _ _ hgn).trans b0
      go_upto_region 11 with (fail)
      obtain ⟨W6, hW6⟩ : ∃ W6, W6 = (W4.setCell ⟨wo.heap.size, 3, none⟩ (.int .u32 (D : Int))).setCell ⟨wo.heap.size, 0, none⟩ (.string f) := ⟨_, rfl⟩
      have HY6 : Hid (Has W6 wo.heap.size 50 (⟨f, r.ty, r.cl, D, r.d⟩ : Rv).cells) := by
        have h := (HY4.out.set 3 (.int .u32 (D : Int))).set 0 (.string f)
        rw [hW6]
        exact h
      have HB6 : Hid (Below w.heap.size w W6) := by
        rw [hW6]
        exact (hB4.out.setCell (p := ⟨wo.heap.size, 3, none⟩) hws _).setCell (p := ⟨wo.heap.size, 0, none⟩) hws _
      rw [← hW6]
      clear hW6 HY4 hB4 fr3 fr0 y3 y0 b0 b3 d0 hsub hls hl2
      have HA6 := Lib.hid (range_below HB6.out HG.out HC.out)
      have hpe : ∀ W, (Op.equalIn 10000 50 (.agg (⟨f, r.ty, r.cl, D, r.d⟩ : Rv).cells) (.agg (⟨f, r.ty, r.cl, D, r.d⟩ : Rv).cells)).run Try.prog W = .ok true W := fun W => by
        have h := rvRun W ⟨f, r.ty, r.cl, D, r.d⟩ ⟨f, r.ty, r.cl, D, r.d⟩ 9995
        rw [(rvB_iff _ _).2 rfl] at h
        exact h
      have HR6 := Lib.hid (has_range (vs := rcl ⟨f, r.ty, r.cl, D, r.d⟩) HY6.out)
      clear HC HG hgn
      obtain ⟨nm, ty, cl, ttl, ⟨ra', ho, ma, n0, n1, n2, n3, n4⟩⟩ := r
      dsimp only [Rv.cells] at hpe
      have e0 := HA6.out 0 _ rfl
      have e1 := HA6.out 1 _ rfl
      have e2 := HA6.out 2 _ rfl
      have e3 := HA6.out 3 _ rfl
      have e4 := HA6.out 4 _ rfl
      have e5 := HA6.out 5 _ rfl
      have e6 := HA6.out 6 _ rfl
      have e7 := HA6.out 7 _ rfl
      have e8 := HA6.out 8 _ rfl
      have e9 := HA6.out 9 _ rfl
      have e10 := HA6.out 10 _ rfl
      have e11 := HA6.out 11 _ rfl
      have f0 := HR6.out 0 _ rfl
      have f1 := HR6.out 1 _ rfl
      have f2 := HR6.out 2 _ rfl
      have f3 := HR6.out 3 _ rfl
      have f4 := HR6.out 4 _ rfl
      have f5 := HR6.out 5 _ rfl
      have f6 := HR6.out 6 _ rfl
      have f7 := HR6.out 7 _ rfl
      have f8 := HR6.out 8 _ rfl
      have f9 := HR6.out 9 _ rfl
      have f10 := HR6.out 10 _ rfl
      have f11 := HR6.out 11 _ rfl
      rw [Nat.add_zero] at e0
      rw [Nat.zero_add] at f0 f1 f2 f3 f4 f5 f6 f7 f8 f9 f10 f11
      clear HA6 HR6 HY6
      go_quiet (fail)
      go_wp2_with fail
      go_roundw
      case rel => exact ⟨k + 1, by go_num, by omega, HB6.out.trans (below_drewN (Below.refl _ _) _)⟩
      case measure => simp [intOf]; omega
    · obtain rfl : k = xs.length := by omega
      go_wp2_with fail
      go_ret
      exact ⟨rfl, HW.out⟩
end Go.Proofs.Ytnhoaceickojeaa.Ca
