/- TokenOwn's walk. -/
import Derived.Test.YtbmobaomnfchkaaTkOwn
namespace Go.Proofs.Ytbmobaomnfchkaa
open Go.RowKit

theorem Ers.pos {w : World} {b : Nat} {v : Value} {out : List Ex} (h : Ers w b v out) {j : Nat} (hj : j < out.length) : ∃ g cp, v = .slice (some ⟨g, 0, none⟩) out.length cp ∧ b ≤ g ∧ g < w.heap.size ∧ ¬ Wt out g ∧ ∀ i (hi : i < out.length), w.cell? ⟨g, i * 3 + 2, none⟩ = some out[i].v := by
  obtain ⟨g, cp, cur, hv, hc, hb, hlt, hg, ht⟩ := ownK_pos h.own (by omega)
  refine ⟨g, cp, hv, hb, hlt, fun ⟨x, hx, e⟩ => h.off x hx g e (by rw [hv]; rfl), fun i hi => ?_⟩
  rw [cell_of_row w g _ cur _ (0, 0) hg]
  exact take_at ht (by rw [fl_get ec_len out hi (by decide)]; rfl)
set_option maxHeartbeats 4000000 in
set_option maxRecDepth 100000 in
theorem walk_TokenOwn (w : World) (s : ByteArray) (_ : s.size ≤ 140737488351232) : Calls Try.prog 7 #[.string s] w fun e w' => e = .returned (.bool true) ∧ Below w.heap.size w w' := by
  by_cases hs : 20000 < s.size
  · have hs2 : (20000 : Int) < (s.size : Int) := by omega
    clear hs
    go_enter Try.func7, Try.ntmps7
    go_wp2
    go_ret
    exact ⟨rfl, Below.refl _ _⟩
  have hs2 : ¬ (20000 : Int) < (s.size : Int) := by omega
  have HE := Lib.hid (ent_u s (by omega))
  have hfit := Tk.ents_fit s.data.toList
  have hlen : s.data.toList.length = s.size := by simp
  have HF : Hid ((Tk.entsOf (Tk.tells s.data.toList)).length ≤ 1048576 ∧ (∀ x ∈ Tk.entsOf (Tk.tells s.data.toList), x.words.length ≤ 1048576) ∧ ∀ x ∈ Tk.entsOf (Tk.tells s.data.toList), x.words ≠ []) :=
    ⟨by omega, fun x hx => by have := (hfit.2 x hx).2; omega, fun x hx => (hfit.2 x hx).1⟩
  generalize Tk.tells s.data.toList = R at *
  generalize Tk.entsOf R = es at *
  generalize (Tk.lineOf R : Nat) = ln at *
  generalize (Tk.colOf R : Nat) = cl at *
  generalize (Tk.errOf R : Nat) = er at *
  clear hfit hlen hs
  have HS := Lib.hid (fun (v1 v2 : Value) (W : World) (a : EnsAt W v1 es) (b : EnsAt W v2 es) => same_any v1 v2 es W a b HF.out.1 HF.out.2.1)
  go_enter Try.func7, Try.ntmps7
  go_wp2_with (first
    | (go_at_call 8; first
      | (refine (HE.out w).mono ?_; rintro e w1 ⟨B1, ve1, out1, rfl, hE1, hM1⟩; have HB1 := Lib.hid B1; have HE1 := Lib.hid hE1; have HM1 := Lib.hid hM1; clear B1 hE1 hM1)
      | (refine (HE.out _).mono ?_
         rintro e w2 ⟨B2, ve2, out2, rfl, hE2, hM2⟩
         have hb : Below w1.heap.size w1 (w2.alloc (.cells #[.int .i64 ln, .int .i64 cl] 24)) := (((Below.refl w1.heap.size w1).alloc (Nat.le_refl _) (.cells #[.int .i64 ln, .int .i64 cl] 24)).trans (B2.mono (by simp))).alloc (by have := B2.size; simp at this; omega) _
         have HE1' := Lib.hid (HE1.out.below hb (Nat.le_refl _))
         have HE2' := Lib.hid (hE2.below ((Below.refl w2.heap.size w2).alloc (Nat.le_refl _) (.cells #[.int .i64 ln, .int .i64 cl] 24)) (Nat.le_refl _))
         have HBW := Lib.hid (HB1.out.trans (hb.mono HB1.out.size))
         have HSZ : Hid (w1.heap.size < (w1.alloc (.cells #[.int .i64 ln, .int .i64 cl] 24)).heap.size ∧ (w1.alloc (.cells #[.int .i64 ln, .int .i64 cl] 24)).heap.size ≤ w2.heap.size) := ⟨by simp, B2.size⟩
         have HX1 : Hid (∀ k, Wt out1 k → w.heap.size ≤ k ∧ k < w1.heap.size) := fun k ⟨x, hx, e⟩ => ⟨((HE1.out.dat x hx).lt k e).1, ((HE1.out.dat x hx).lt k e).2⟩
         have HM2 := Lib.hid hM2
         clear B2 hE2 hM2 hb HE1 HB1
         generalize (w1.alloc (.cells #[.int .i64 ln, .int .i64 cl] 24)).heap.size = b2 at *))
    | (go_at_call 10
       generalize w2.alloc (.cells #[.int .i64 ln, .int .i64 cl] 24) = w3 at *
       refine (HS.out ve1 ve2 w3 (by have h := HE1'.out.at_; rw [HM1.out] at h; exact h) (by have h := HE2'.out.at_; rw [HM2.out] at h; exact h)).mono ?_
       rintro e w4 ⟨rfl, n, hw⟩
       have HE1 : Hid (Ers w4 w.heap.size ve1 out1) := by rw [Hid, hw]; exact HE1'.out.below (below_drewN (Below.refl w3.heap.size w3) n) (Nat.le_refl _)
       have HE2 : Hid (Ers w4 b2 ve2 out2) := by rw [Hid, hw]; exact HE2'.out.below (below_drewN (Below.refl w3.heap.size w3) n) (Nat.le_refl _)
       have HBZ : Hid (Below w.heap.size w w4) := by rw [Hid, hw]; exact below_drewN HBW.out n
       clear HE1' HE2' HBW hw))
  have HOS := Lib.hid (OwR.start HE1.out (fun x hx => by
    have h := HF.out.2.2 x.en (by rw [← HM1.out]; exact List.mem_map_of_mem (f := Ex.en) hx)
    exact h))
  obtain ⟨ad, cp, rfl, hcp⟩ := ownK_form HE1.out.own
  have hn1 : out1.length ≤ 1048576 := by
    have h := congrArg List.length HM1.out
    have h2 := HF.out.1
    simp at h
    omega
  go_loopw [9] (fun i wr => ∃ j : Nat, i = .int .i64 j ∧ j ≤ out1.length ∧ Hid (OwR out1 w4 wr)) (fun i _ => out1.length - (intOf i).toNat)
  case atStart => exact ⟨0, rfl, Nat.zero_le _, HOS.out⟩
  case round =>
    obtain ⟨j, rfl, hj, HO⟩ := hrel
    by_cases hlt : j < out1.length
    · obtain ⟨g0, cp0, hv0, _, _, hnw, hc0⟩ := HE1.out.pos hlt
      injection hv0 with ha _ hc
      subst ha hc
      have hx := List.getElem_mem hlt
      have hcell := hc0 j hlt
      obtain ⟨g, cq, cur, hxv, hle, hmx, _, _⟩ := HO.out.rows _ hx
      have HXV := Lib.hid hxv
      have HX := Lib.hid hx
      have HWT : Hid (Wt out1 g) := ⟨_, hx, by rw [hxv]; rfl⟩
      have HNW := Lib.hid hnw
      have HC0 : Hid (∀ W, OwR out1 w4 W → W.cell? ⟨g0, j * 3 + 2, none⟩ = some (.slice (some ⟨g, 0, none⟩) out1[j].ws.length cq)) := fun W hW => by
        rw [World.cell?_of_block (hW.block g0 HNW.out), hcell, hxv]
      have d2 := HC0.out _ HO.out
      have HMX := Lib.hid hmx
      have HCL : Hid (∀ W, OwR out1 w4 W → ∀ k i, k < cq → i < 4 → (∃ u, W.cell? ⟨g, k * 4 + i, none⟩ = some u) ∧ W.frozen? ⟨g, k * 4 + i, none⟩ = false) := fun W hW k i hk hi => hW.cells hx hxv rfl hk hi
      clear hcell hc0 hnw hxv hx hmx HXV HX
      have hlti : (j : Int) < (out1.length : Int) := by omega
      generalize out1[j].ws.length = m at *
      have hm0 : (0 : Int) ≤ (m : Int) := by omega
      have hm1 : (m : Int) ≤ (cq : Int) := by omega
      go_wp2
      clear d2
      go_loopw [11] (fun i wr => ∃ k : Nat, i = .int .i64 k ∧ k ≤ m ∧ Hid (OwR out1 w4 wr)) (fun i _ => m - (intOf i).toNat)
      case atStart => exact ⟨0, rfl, Nat.zero_le _, HO⟩
      case round =>
        obtain ⟨k, rfl, hk, HO2⟩ := hrel
        by_cases hkl : k < m
        · obtain ⟨⟨u0, c0⟩, f0⟩ := HCL.out _ HO2.out k 0 (by omega) (by decide)
          obtain ⟨⟨u1, c1⟩, f1⟩ := HCL.out _ HO2.out k 1 (by omega) (by decide)
          obtain ⟨⟨u2, c2⟩, f2⟩ := HCL.out _ HO2.out k 2 (by omega) (by decide)
          obtain ⟨⟨u3, c3⟩, f3⟩ := HCL.out _ HO2.out k 3 (by omega) (by decide)
          rw [Nat.add_zero] at c0 f0
          have hkli : (k : Int) < (m : Int) := by omega
          have hw1 := wrap_succ (show k < cq by omega) HMX.out
          go_wp2
          go_roundw
          case rel => exact ⟨k + 1, by go_num, by omega, (((HO2.out.set HWT.out _ _).set HWT.out _ _).set HWT.out _ _).set HWT.out _ _⟩
          case measure => simp [intOf]; omega
        · obtain rfl : k = m := by omega
          have d2 := HC0.out _ HO2.out
          go_wp2
          clear d2
          go_loopw [12] (fun i wr => ∃ k2 : Nat, i = .int .i64 k2 ∧ k2 ≤ cq ∧ Hid (OwR out1 w4 wr)) (fun i _ => cq - (intOf i).toNat)
          case atStart => exact ⟨k, rfl, by omega, HO2⟩
          case round =>
            obtain ⟨k2, rfl, hk2, HO3⟩ := hrel
            by_cases hk2l : k2 < cq
            · obtain ⟨⟨u2, c2⟩, f2⟩ := HCL.out _ HO3.out k2 2 (by omega) (by decide)
              have hk2i : (k2 : Int) < (cq : Int) := by omega
              have hw2 := wrap_succ hk2l HMX.out
              go_wp2
              go_roundw
              case rel => exact ⟨k2 + 1, by go_num, by omega, HO3.out.set HWT.out _ _⟩
              case measure => simp [intOf]; omega
            · obtain rfl : k2 = cq := by omega
              go_wp2
              go_roundw
              case rel => exact ⟨j + 1, by go_num, by omega, HO3⟩
              case measure => simp [intOf]; omega
    · obtain rfl : j = out1.length := by omega
      have HE2' : Hid (Ers wr b2 ve2 out2) := HO.out.ers HE2.out (fun k hk h => by have := HX1.out k h; have := HSZ.out.1; omega)
      have HBR : Hid (Below w.heap.size w wr) := HBZ.out.trans (HO.out.below (fun k hk h => by have := HX1.out k h; omega))
      go_wp2_with (first
        | (go_at_call 8
           refine (HE.out wr).mono ?_
           rintro e w5 ⟨B5, ve5, out5, rfl, hE5, hM5⟩
           have HA2 : Hid (EnsAt (w5.alloc (.cells #[.int .i64 ln, .int .i64 cl] 24)) ve2 es) := by
             have h := HE2'.out.at_
             rw [HM2.out] at h
             exact (h.below B5).below ((Below.refl w5.heap.size w5).alloc (Nat.le_refl _) _)
           have HA5 : Hid (EnsAt (w5.alloc (.cells #[.int .i64 ln, .int .i64 cl] 24)) ve5 es) := by
             have h := hE5.at_
             rw [hM5] at h
             exact h.below ((Below.refl w5.heap.size w5).alloc (Nat.le_refl _) _)
           have HB5 := Lib.hid ((HBR.out.trans (B5.mono HBR.out.size)).alloc (Nat.le_trans HBR.out.size B5.size) (.cells #[.int .i64 ln, .int .i64 cl] 24))
           clear B5 hE5 hM5)
        | (go_at_call 10
           generalize w5.alloc (.cells #[.int .i64 ln, .int .i64 cl] 24) = w6 at *
           refine (HS.out _ _ w6 HA2.out HA5.out).mono ?_
           rintro e w7 ⟨rfl, n7, hw7⟩
           have HB7 : Hid (Below w.heap.size w w7) := by rw [Hid, hw7]; exact below_drewN HB5.out n7
           clear hw7)
        | (go_at_call 11
           refine (reads_any w7).mono ?_
           rintro e w8 ⟨rfl, B8⟩
           have HB8 := Lib.hid (HB7.out.trans (B8.mono HB7.out.size))
           clear B8))
      go_ret
      exact ⟨rfl, HB8.out⟩
end Go.Proofs.Ytbmobaomnfchkaa
