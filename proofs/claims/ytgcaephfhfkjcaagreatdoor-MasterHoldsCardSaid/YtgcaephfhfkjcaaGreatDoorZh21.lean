/- Texts of the proofs, merged. -/
import Derived.Test.YtgcaephfhfkjcaaGreatDoorZh20
import Derived.Test.YtgcaephfhfkjcaaGreatDoorZh9
import Derived.Test.YtgcaephfhfkjcaaGreatDoorZh14
import Derived.Lib.SlicesS
namespace Go.Proofs.YtgcaephfhfkjcaaGreatDoor
open Go.RowKit

/-- how many words are left. -/
def mlen (w : World) (g : Nat) : Nat := match w.cell? ⟨g, 8, none⟩ with
  | some (.slice _ n _) => n
  | _ => 0
theorem MM.mlen {g : Nat} {hi : Nat × Nat} {s : Ma.S} {f : Tk.Wd} {ws : List Tk.Wd} {w : World} (h : MM w g hi s f ws) : mlen w g = ws.length := by
  obtain ⟨vr, vw, h1, ⟨A, c, rfl, _⟩⟩ := h.wp
  unfold Proofs.YtgcaephfhfkjcaaGreatDoor.mlen
  rw [h1.cell]
  rfl
/-- what ttlAndClass comes to. -/
def TcP (w : World) (g : Nat) (hi : Nat × Nat) (s : Ma.S) (f : Tk.Wd) (R : Ma.Ans (Nat × Nat × List Tk.Wd)) (e : Ending) (w' : World) : Prop := match R with
  | .ok (h, t, ws) => e = .returned (.int .u32 t) ∧ MM w' g hi { s with ttl := h } f ws ∧ Kb g w.heap.size w w'
  | .error x => Fell w g x e w'
theorem num_le {x : Tk.Wd} {v : Nat} (h : Ma.num x = some v) : v ≤ 4294967295 := by
  unfold Ma.num at h
  split at h
  · cases h
  · exact Rd.num_le h
section
variable {g : Nat} {hi : Nat × Nat} {s : Ma.S} {f : Tk.Wd} {ws : List Tk.Wd} {w : World}
set_option linter.unusedSimpArgs false in
set_option maxHeartbeats 8000000 in
set_option maxRecDepth 100000 in
theorem maTc_any (h : MM w g hi s f ws) :
    Calls Tryz.prog 95 #[.pointer (some ⟨g, 0, none⟩)] w fun e w' => TcP w g hi s f (Ma.tc s.fx ws s.ttl s.ttl false false) e w' := by
  obtain ⟨o, ttl, fx, recs⟩ := s
  obtain ⟨R, hR⟩ : ∃ R, Ma.tc fx ws ttl ttl false false = R := ⟨_, rfl⟩
  have hi4 : (Tryz.prog.info? 79).map (·.size) = some 4 := by kernel_rfl
  have HI := Lib.hid hi4
  obtain ⟨vr, vw, hh⟩ := h.has
  have c1 : w.cell? ⟨g, 1, none⟩ = some (.int .u32 ttl) := by rw [hh.cell]; rfl
  have hgw := h.lt
  have HM := Lib.hid h
  have HR := Lib.hid hR
  have HPO : Hid (∀ e w', TcP w g hi ⟨o, ttl, fx, recs⟩ f R e w' → TcP w g hi ⟨o, ttl, fx, recs⟩ f (Ma.tc fx ws ttl ttl false false) e w') := fun e w' h => by rw [hR]; exact h
  clear h hR hi4 hh
  show Calls _ _ _ _ fun e w' => TcP w g hi ⟨o, ttl, fx, recs⟩ f (Ma.tc fx ws ttl ttl false false) e w'
  rw [HR.out]
  clear HPO
  go_enter Tryz.func95, Tryz.ntmps95
  go_wp2
  go_loopw [3, 4, 5] (fun a b c wr => ∃ (hl t : Nat) (bt bc : Bool) (us : List Tk.Wd), a = .int .u32 t ∧ b = .bool bt ∧ c = .bool bc ∧ Hid (Ma.tc fx us hl t bt bc = R) ∧ Hid (MM wr g hi ⟨o, hl, fx, recs⟩ f us) ∧ Hid (Kb g w.heap.size w wr)) (fun _ _ _ wr => mlen wr g)
  case atStart => exact ⟨ttl, ttl, false, false, ws, rfl, rfl, rfl, HR.out, HM.out, Kb.refl _ _ _⟩
  case round =>
    obtain ⟨hl, t, bt, bc, us, rfl, rfl, rfl, HR, HM, HK⟩ := hrel
    obtain ⟨vr, vw, hh, hw⟩ := HM.out.wp
    obtain ⟨wq, hwq⟩ : ∃ x, x = wr := ⟨_, rfl⟩
    subst hwq
    cases us with
    | nil =>
      obtain ⟨A, c, rfl, _⟩ := hw
      have c8 : wq.cell? ⟨g, 8, none⟩ = some (.slice A 0 c) := by rw [hh.cell]; rfl
      have hr := HR.out
      rw [Ma.tc] at hr
      subst hr
      clear hh
      go_wp2
      go_ret
      exact ⟨rfl, HM.out, HK.out⟩
    | cons x rs =>
      obtain ⟨q, p, cp, rfl, hc, hm, hq, hr, h4, hxl⟩ := hw.head
      have c8 : wq.cell? ⟨g, 8, none⟩ = some (.slice (some ⟨q, p, none⟩) (rs.length + 1) cp) := by rw [hh.cell]; rfl
      have hlen : (0 : Int) < (rs.length : Int) + 1 := by omega
      have HL := Lib.hid HM.out.mlen
      have HRG := Lib.hid hr
      obtain ⟨nx, hnx⟩ : ∃ n, Ma.num x = n := ⟨_, rfl⟩
      obtain ⟨cx, hcx⟩ : ∃ n, Ma.isClass x = n := ⟨_, rfl⟩
      obtain ⟨kx, hkx⟩ : ∃ n, Ma.kw x = n := ⟨_, rfl⟩
      have HN := Lib.hid (fun (W : World) (hL : Lay W) => maNumber_any x W hL hxl)
      have HC := Lib.hid (fun (W : World) => maClass_any x W hxl)
      have HW := Lib.hid (fun (W : World) => keyword_any x W hxl)
      have HG := Lib.hid (fun (W : World) => maGiveUp_any x 92 W)
      have HT := Lib.hid (fun (W : World) (v : Nat) (hM : MM W g hi ⟨o, hl, fx, recs⟩ f (x :: rs)) => maTell_any hM x v)
      have HTK := Lib.hid (fun (W : World) (k : Nat) (hM : MM W g hi ⟨o, k, fx, recs⟩ f (x :: rs)) => maTake_any hM)
      rw [hnx] at HN
      rw [hcx] at HC
      rw [hkx] at HW
      have hr2 := HR.out
      rw [Ma.tc, hnx, hcx, hkx] at hr2
      obtain ⟨xt, xq, xl, xc⟩ := x
      have hmb := HM.out.keep ((Below.refl wq.heap.size wq).alloc (Nat.le_refl _) (.cells #[sv xt, .bool xq, .int .i64 xl, .int .i64 xc] 79))
      have HMb := Lib.hid hmb
      have HKb : Hid (Kb g w.heap.size w (wq.alloc (.cells #[sv xt, .bool xq, .int .i64 xl, .int .i64 xc] 79))) := HK.out.alloc HK.out.size _
      have HX := Lib.hid (Has.fresh wq 79 #[sv xt, .bool xq, .int .i64 xl, .int .i64 xc])
      have HLT := Lib.hid HM.out.lt
      have hgq : g ≠ wq.heap.size := by have := HM.out.lt; omega
      have HGQ := Lib.hid hgq
      clear hnx hcx hkx hxl hh hr h4 hmb hw hgq
      cases nx with
      | none =>
        replace HN : Hid (∀ (W : World), Lay W → Calls Tryz.prog 93 #[.agg #[sv xt, .bool xq, .int .i64 xl, .int .i64 xc]] W fun e w' => e = .returned (.tuple #[.int .u32 0, .bool false]) ∧ Below W.heap.size W w') := HN
        cases cx with
        | false =>
          simp only [Option.isSome, Option.getD, Bool.false_eq_true, false_and, if_false, true_and, and_false, and_true, if_true, and_self, reduceCtorEq, reduceIte] at hr2
          subst hr2
          go_wp2_with (first
            | (go_at_call 93; refine (HN.out _ HMb.out.ga.lay).mono ?_; rintro e w1 ⟨rfl, B1⟩; have HM1 := Lib.hid (HMb.out.keep B1); have HX1 := Lib.hid (HX.out.below B1 HX.out.lt); have HK1 := Lib.hid (HKb.out.onB B1); clear B1)
            | (go_at_call 114; refine (HC.out _).mono ?_; rintro e w2 ⟨rfl, B2⟩; have HM2 := Lib.hid (HM1.out.keep B2); have HX2 := Lib.hid (HX1.out.below B2 HX1.out.lt); have HK2 := Lib.hid (HK1.out.onB B2); clear B2)
            | (refine wpList_load_mid rfl 79 (.tmp 23) rfl q _ rfl [sv xt, .bool xq, .int .i64 xl, .int .i64 xc] _ HRG.out Tryz.underlying79 rfl HI.out ?_)
            | (refine wpList_load_row rfl 79 (.tmp 6) rfl wq.heap.size rfl 79 #[sv xt, .bool xq, .int .i64 xl, .int .i64 xc] (0, 0) _ HX1.out Tryz.underlying79 rfl HI.out ?_)
            | (refine wpList_load_row rfl 79 (.tmp 6) rfl wq.heap.size rfl 79 #[sv xt, .bool xq, .int .i64 xl, .int .i64 xc] (0, 0) _ HX2.out Tryz.underlying79 rfl HI.out ?_))
          go_ret
          exact ⟨rfl, HM2.out, HK2.out⟩
        | true =>
          cases bc with
          | true =>
            simp only [Option.isSome, Option.getD, Bool.false_eq_true, false_and, if_false, true_and, and_false, and_true, if_true, and_self, reduceCtorEq, reduceIte] at hr2
            subst hr2
            go_wp2_with (first
              | (go_at_call 93; refine (HN.out _ HMb.out.ga.lay).mono ?_; rintro e w1 ⟨rfl, B1⟩; have HM1 := Lib.hid (HMb.out.keep B1); have HX1 := Lib.hid (HX.out.below B1 HX.out.lt); have HK1 := Lib.hid (HKb.out.onB B1); clear B1)
              | (go_at_call 114; refine (HC.out _).mono ?_; rintro e w2 ⟨rfl, B2⟩; have HM2 := Lib.hid (HM1.out.keep B2); have HX2 := Lib.hid (HX1.out.below B2 HX1.out.lt); have HK2 := Lib.hid (HK1.out.onB B2); clear B2)
              | (refine wpList_load_mid rfl 79 (.tmp 23) rfl q _ rfl [sv xt, .bool xq, .int .i64 xl, .int .i64 xc] _ HRG.out Tryz.underlying79 rfl HI.out ?_)
              | (refine wpList_load_row rfl 79 (.tmp 6) rfl wq.heap.size rfl 79 #[sv xt, .bool xq, .int .i64 xl, .int .i64 xc] (0, 0) _ HX1.out Tryz.underlying79 rfl HI.out ?_)
              | (refine wpList_load_row rfl 79 (.tmp 6) rfl wq.heap.size rfl 79 #[sv xt, .bool xq, .int .i64 xl, .int .i64 xc] (0, 0) _ HX2.out Tryz.underlying79 rfl HI.out ?_))
            go_ret
            exact ⟨rfl, HM2.out, HK2.out⟩
          | false =>
            simp only [Option.isSome, Option.getD, Bool.false_eq_true, false_and, if_false, true_and, and_false, and_true, if_true, and_self, reduceCtorEq, reduceIte] at hr2
            by_cases hin : kx = [105, 110]
            · have hb : (kx != ([105, 110] : List UInt8)) = false := by rw [hin]; rfl
              have hb2 : (kx == ([105, 110] : List UInt8)) = true := by rw [hin]; rfl
              rw [if_pos hin] at hr2
              have HR2 := Lib.hid hr2
              clear hr2 hin
              go_wp2_with (first
                | (go_at_call 93; refine (HN.out _ HMb.out.ga.lay).mono ?_; rintro e w1 ⟨rfl, B1⟩; have HM1 := Lib.hid (HMb.out.keep B1); have HX1 := Lib.hid (HX.out.below B1 HX.out.lt); have HK1 := Lib.hid (HKb.out.onB B1); clear B1)
                | (go_at_call 114; refine (HC.out _).mono ?_; rintro e w2 ⟨rfl, B2⟩; have HM2 := Lib.hid (HM1.out.keep B2); have HX2 := Lib.hid (HX1.out.below B2 HX1.out.lt); have HK2 := Lib.hid (HK1.out.onB B2); clear B2)
                | (go_at_call 52; refine (HW.out _).mono ?_; rintro e w3 ⟨rfl, B3⟩; have HM3 := Lib.hid (HM2.out.keep B3); have HX3 := Lib.hid (HX2.out.below B3 HX2.out.lt); have HK3 := Lib.hid (HK2.out.onB B3); clear B3)
                | (go_at_call 91; refine (HTK.out _ _ HM3.out).mono ?_; rintro e w4 ⟨rfl, M4, K4⟩; have HM4 := Lib.hid M4; have HK4 := Lib.hid (HK3.out.on K4); clear M4 K4)
                | (refine wpList_load_mid rfl 79 (.tmp 23) rfl q _ rfl [sv xt, .bool xq, .int .i64 xl, .int .i64 xc] _ HRG.out Tryz.underlying79 rfl HI.out ?_)
                | (refine wpList_load_row rfl 79 (.tmp 6) rfl wq.heap.size rfl 79 #[sv xt, .bool xq, .int .i64 xl, .int .i64 xc] (0, 0) _ HX1.out Tryz.underlying79 rfl HI.out ?_)
                | (refine wpList_load_row rfl 79 (.tmp 6) rfl wq.heap.size rfl 79 #[sv xt, .bool xq, .int .i64 xl, .int .i64 xc] (0, 0) _ HX2.out Tryz.underlying79 rfl HI.out ?_)
                | (refine wpList_load_row rfl 79 (.tmp 6) rfl wq.heap.size rfl 79 #[sv xt, .bool xq, .int .i64 xl, .int .i64 xc] (0, 0) _ HX3.out Tryz.underlying79 rfl HI.out ?_))
              exact ⟨⟨hl, t, bt, true, rs, rfl, rfl, rfl, HR2.out, HM4.out, HK4.out⟩, by rw [HM4.out.mlen, HL.out]; simp⟩
            · have hb : (kx != ([105, 110] : List UInt8)) = true := bne_iff_ne.2 hin
              have hb2 : (kx == ([105, 110] : List UInt8)) = false := beq_eq_false_iff_ne.2 hin
              rw [if_neg hin] at hr2
              subst hr2
              clear hin
              go_wp2_with (first
                | (go_at_call 93; refine (HN.out _ HMb.out.ga.lay).mono ?_; rintro e w1 ⟨rfl, B1⟩; have HM1 := Lib.hid (HMb.out.keep B1); have HX1 := Lib.hid (HX.out.below B1 HX.out.lt); have HK1 := Lib.hid (HKb.out.onB B1); clear B1)
                | (go_at_call 114; refine (HC.out _).mono ?_; rintro e w2 ⟨rfl, B2⟩; have HM2 := Lib.hid (HM1.out.keep B2); have HX2 := Lib.hid (HX1.out.below B2 HX1.out.lt); have HK2 := Lib.hid (HK1.out.onB B2); clear B2)
                | (go_at_call 52; refine (HW.out _).mono ?_; rintro e w3 ⟨rfl, B3⟩; have HM3 := Lib.hid (HM2.out.keep B3); have HX3 := Lib.hid (HX2.out.below B3 HX2.out.lt); have HK3 := Lib.hid (HK2.out.onB B3); clear B3)
                | (go_at_call 54; refine (HG.out _).mono ?_; rintro e w4 ⟨rfl, B4⟩; exact ⟨rfl, ⟨rfl, (HK3.out.below (Nat.le_of_lt hgw)).trans (B4.mono (Nat.le_of_lt HM3.out.lt))⟩⟩)
                | (refine wpList_load_mid rfl 79 (.tmp 23) rfl q _ rfl [sv xt, .bool xq, .int .i64 xl, .int .i64 xc] _ HRG.out Tryz.underlying79 rfl HI.out ?_)
                | (refine wpList_load_row rfl 79 (.tmp 6) rfl wq.heap.size rfl 79 #[sv xt, .bool xq, .int .i64 xl, .int .i64 xc] (0, 0) _ HX1.out Tryz.underlying79 rfl HI.out ?_)
                | (refine wpList_load_row rfl 79 (.tmp 6) rfl wq.heap.size rfl 79 #[sv xt, .bool xq, .int .i64 xl, .int .i64 xc] (0, 0) _ HX2.out Tryz.underlying79 rfl HI.out ?_)
                | (refine wpList_load_row rfl 79 (.tmp 6) rfl wq.heap.size rfl 79 #[sv xt, .bool xq, .int .i64 xl, .int .i64 xc] (0, 0) _ HX3.out Tryz.underlying79 rfl HI.out ?_))
      | some v =>
        replace HN : Hid (∀ (W : World), Lay W → Calls Tryz.prog 93 #[.agg #[sv xt, .bool xq, .int .i64 xl, .int .i64 xc]] W fun e w' => e = .returned (.tuple #[.int .u32 v, .bool true]) ∧ Below W.heap.size W w') := HN
        cases bt with
        | true =>
          cases cx with
          | false =>
            simp only [Option.isSome, Option.getD, Bool.false_eq_true, false_and, if_false, true_and, and_false, and_true, if_true, and_self, reduceCtorEq, reduceIte] at hr2
            subst hr2
            go_wp2_with (first
              | (go_at_call 93; refine (HN.out _ HMb.out.ga.lay).mono ?_; rintro e w1 ⟨rfl, B1⟩; have HM1 := Lib.hid (HMb.out.keep B1); have HX1 := Lib.hid (HX.out.below B1 HX.out.lt); have HK1 := Lib.hid (HKb.out.onB B1); clear B1)
              | (go_at_call 114; refine (HC.out _).mono ?_; rintro e w2 ⟨rfl, B2⟩; have HM2 := Lib.hid (HM1.out.keep B2); have HX2 := Lib.hid (HX1.out.below B2 HX1.out.lt); have HK2 := Lib.hid (HK1.out.onB B2); clear B2)
              | (refine wpList_load_mid rfl 79 (.tmp 23) rfl q _ rfl [sv xt, .bool xq, .int .i64 xl, .int .i64 xc] _ HRG.out Tryz.underlying79 rfl HI.out ?_)
              | (refine wpList_load_row rfl 79 (.tmp 6) rfl wq.heap.size rfl 79 #[sv xt, .bool xq, .int .i64 xl, .int .i64 xc] (0, 0) _ HX1.out Tryz.underlying79 rfl HI.out ?_)
              | (refine wpList_load_row rfl 79 (.tmp 6) rfl wq.heap.size rfl 79 #[sv xt, .bool xq, .int .i64 xl, .int .i64 xc] (0, 0) _ HX2.out Tryz.underlying79 rfl HI.out ?_))
            go_ret
            exact ⟨rfl, HM2.out, HK2.out⟩
          | true =>
            cases bc with
            | true =>
              simp only [Option.isSome, Option.getD, Bool.false_eq_true, false_and, if_false, true_and, and_false, and_true, if_true, and_self, reduceCtorEq, reduceIte] at hr2
              subst hr2
              go_wp2_with (first
                | (go_at_call 93; refine (HN.out _ HMb.out.ga.lay).mono ?_; rintro e w1 ⟨rfl, B1⟩; have HM1 := Lib.hid (HMb.out.keep B1); have HX1 := Lib.hid (HX.out.below B1 HX.out.lt); have HK1 := Lib.hid (HKb.out.onB B1); clear B1)
                | (go_at_call 114; refine (HC.out _).mono ?_; rintro e w2 ⟨rfl, B2⟩; have HM2 := Lib.hid (HM1.out.keep B2); have HX2 := Lib.hid (HX1.out.below B2 HX1.out.lt); have HK2 := Lib.hid (HK1.out.onB B2); clear B2)
                | (refine wpList_load_mid rfl 79 (.tmp 23) rfl q _ rfl [sv xt, .bool xq, .int .i64 xl, .int .i64 xc] _ HRG.out Tryz.underlying79 rfl HI.out ?_)
                | (refine wpList_load_row rfl 79 (.tmp 6) rfl wq.heap.size rfl 79 #[sv xt, .bool xq, .int .i64 xl, .int .i64 xc] (0, 0) _ HX1.out Tryz.underlying79 rfl HI.out ?_)
                | (refine wpList_load_row rfl 79 (.tmp 6) rfl wq.heap.size rfl 79 #[sv xt, .bool xq, .int .i64 xl, .int .i64 xc] (0, 0) _ HX2.out Tryz.underlying79 rfl HI.out ?_))
              go_ret
              exact ⟨rfl, HM2.out, HK2.out⟩
            | false =>
              simp only [Option.isSome, Option.getD, Bool.false_eq_true, false_and, if_false, true_and, and_false, and_true, if_true, and_self, reduceCtorEq, reduceIte] at hr2
              by_cases hin : kx = [105, 110]
              · have hb : (kx != ([105, 110] : List UInt8)) = false := by rw [hin]; rfl
                have hb2 : (kx == ([105, 110] : List UInt8)) = true := by rw [hin]; rfl
                rw [if_pos hin] at hr2
                have HR2 := Lib.hid hr2
                clear hr2 hin
                go_wp2_with (first
                  | (go_at_call 93; refine (HN.out _ HMb.out.ga.lay).mono ?_; rintro e w1 ⟨rfl, B1⟩; have HM1 := Lib.hid (HMb.out.keep B1); have HX1 := Lib.hid (HX.out.below B1 HX.out.lt); have HK1 := Lib.hid (HKb.out.onB B1); clear B1)
                  | (go_at_call 114; refine (HC.out _).mono ?_; rintro e w2 ⟨rfl, B2⟩; have HM2 := Lib.hid (HM1.out.keep B2); have HX2 := Lib.hid (HX1.out.below B2 HX1.out.lt); have HK2 := Lib.hid (HK1.out.onB B2); clear B2)
                  | (go_at_call 52; refine (HW.out _).mono ?_; rintro e w3 ⟨rfl, B3⟩; have HM3 := Lib.hid (HM2.out.keep B3); have HX3 := Lib.hid (HX2.out.below B3 HX2.out.lt); have HK3 := Lib.hid (HK2.out.onB B3); clear B3)
                  | (go_at_call 91; refine (HTK.out _ _ HM3.out).mono ?_; rintro e w4 ⟨rfl, M4, K4⟩; have HM4 := Lib.hid M4; have HK4 := Lib.hid (HK3.out.on K4); clear M4 K4)
                  | (refine wpList_load_mid rfl 79 (.tmp 23) rfl q _ rfl [sv xt, .bool xq, .int .i64 xl, .int .i64 xc] _ HRG.out Tryz.underlying79 rfl HI.out ?_)
                  | (refine wpList_load_row rfl 79 (.tmp 6) rfl wq.heap.size rfl 79 #[sv xt, .bool xq, .int .i64 xl, .int .i64 xc] (0, 0) _ HX1.out Tryz.underlying79 rfl HI.out ?_)
                  | (refine wpList_load_row rfl 79 (.tmp 6) rfl wq.heap.size rfl 79 #[sv xt, .bool xq, .int .i64 xl, .int .i64 xc] (0, 0) _ HX2.out Tryz.underlying79 rfl HI.out ?_)
                  | (refine wpList_load_row rfl 79 (.tmp 6) rfl wq.heap.size rfl 79 #[sv xt, .bool xq, .int .i64 xl, .int .i64 xc] (0, 0) _ HX3.out Tryz.underlying79 rfl HI.out ?_))
                exact ⟨⟨hl, t, true, true, rs, rfl, rfl, rfl, HR2.out, HM4.out, HK4.out⟩, by rw [HM4.out.mlen, HL.out]; simp⟩
              · have hb : (kx != ([105, 110] : List UInt8)) = true := bne_iff_ne.2 hin
                have hb2 : (kx == ([105, 110] : List UInt8)) = false := beq_eq_false_iff_ne.2 hin
                rw [if_neg hin] at hr2
                subst hr2
                clear hin
                go_wp2_with (first
                  | (go_at_call 93; refine (HN.out _ HMb.out.ga.lay).mono ?_; rintro e w1 ⟨rfl, B1⟩; have HM1 := Lib.hid (HMb.out.keep B1); have HX1 := Lib.hid (HX.out.below B1 HX.out.lt); have HK1 := Lib.hid (HKb.out.onB B1); clear B1)
                  | (go_at_call 114; refine (HC.out _).mono ?_; rintro e w2 ⟨rfl, B2⟩; have HM2 := Lib.hid (HM1.out.keep B2); have HX2 := Lib.hid (HX1.out.below B2 HX1.out.lt); have HK2 := Lib.hid (HK1.out.onB B2); clear B2)
                  | (go_at_call 52; refine (HW.out _).mono ?_; rintro e w3 ⟨rfl, B3⟩; have HM3 := Lib.hid (HM2.out.keep B3); have HX3 := Lib.hid (HX2.out.below B3 HX2.out.lt); have HK3 := Lib.hid (HK2.out.onB B3); clear B3)
                  | (go_at_call 54; refine (HG.out _).mono ?_; rintro e w4 ⟨rfl, B4⟩; exact ⟨rfl, ⟨rfl, (HK3.out.below (Nat.le_of_lt hgw)).trans (B4.mono (Nat.le_of_lt HM3.out.lt))⟩⟩)
                  | (refine wpList_load_mid rfl 79 (.tmp 23) rfl q _ rfl [sv xt, .bool xq, .int .i64 xl, .int .i64 xc] _ HRG.out Tryz.underlying79 rfl HI.out ?_)
                  | (refine wpList_load_row rfl 79 (.tmp 6) rfl wq.heap.size rfl 79 #[sv xt, .bool xq, .int .i64 xl, .int .i64 xc] (0, 0) _ HX1.out Tryz.underlying79 rfl HI.out ?_)
                  | (refine wpList_load_row rfl 79 (.tmp 6) rfl wq.heap.size rfl 79 #[sv xt, .bool xq, .int .i64 xl, .int .i64 xc] (0, 0) _ HX2.out Tryz.underlying79 rfl HI.out ?_)
                  | (refine wpList_load_row rfl 79 (.tmp 6) rfl wq.heap.size rfl 79 #[sv xt, .bool xq, .int .i64 xl, .int .i64 xc] (0, 0) _ HX3.out Tryz.underlying79 rfl HI.out ?_))
        | false =>
          simp only [Option.isSome, Option.getD, Bool.false_eq_true, false_and, if_false, true_and, and_false, and_true, if_true, and_self, reduceCtorEq, reduceIte] at hr2
          by_cases hv : v ≤ 2147483647
          · rw [if_pos hv] at hr2
            have HR2 := Lib.hid hr2
            have HT2 := Lib.hid (fun (W : World) (hM : MM W g hi ⟨o, hl, fx, recs⟩ f (⟨xt, xq, xl, xc⟩ :: rs)) => by have := HT.out W v hM; simp only [if_neg (show ¬ 2147483647 < v by omega)] at this; exact this)
            clear hr2 HT
            go_wp2_with (first
              | (go_at_call 93; refine (HN.out _ HMb.out.ga.lay).mono ?_; rintro e w1 ⟨rfl, B1⟩; have HM1 := Lib.hid (HMb.out.keep B1); have HX1 := Lib.hid (HX.out.below B1 HX.out.lt); have HK1 := Lib.hid (HKb.out.onB B1); clear B1)
              | (go_at_call 113; refine (HT2.out _ HM1.out).mono ?_; rintro e w2 ⟨rfl, M2, K2⟩; have HM2 := Lib.hid M2; have HX2 := Lib.hid (K2.has HX1.out HX1.out.lt (fun e => HGQ.out e.symm)); have HK2 := Lib.hid (HK1.out.on K2); clear M2 K2)
              | (go_at_call 91; refine (HTK.out _ _ HM2.out).mono ?_; rintro e w4 ⟨rfl, M4, K4⟩; have HM4 := Lib.hid M4; have HK4 := Lib.hid (HK2.out.on K4); clear M4 K4)
              | (refine wpList_load_mid rfl 79 (.tmp 23) rfl q _ rfl [sv xt, .bool xq, .int .i64 xl, .int .i64 xc] _ HRG.out Tryz.underlying79 rfl HI.out ?_)
              | (refine wpList_load_row rfl 79 (.tmp 6) rfl wq.heap.size rfl 79 #[sv xt, .bool xq, .int .i64 xl, .int .i64 xc] (0, 0) _ HX1.out Tryz.underlying79 rfl HI.out ?_)
              | (refine wpList_load_row rfl 79 (.tmp 6) rfl wq.heap.size rfl 79 #[sv xt, .bool xq, .int .i64 xl, .int .i64 xc] (0, 0) _ HX2.out Tryz.underlying79 rfl HI.out ?_))
            exact ⟨⟨_, v, true, bc, rs, rfl, rfl, rfl, HR2.out, HM4.out, HK4.out⟩, by rw [HM4.out.mlen, HL.out]; simp⟩
          · rw [if_neg hv] at hr2
            subst hr2
            have HT2 := Lib.hid (fun (W : World) (hM : MM W g hi ⟨o, hl, fx, recs⟩ f (⟨xt, xq, xl, xc⟩ :: rs)) => by have := HT.out W v hM; simp only [if_pos (show 2147483647 < v by omega)] at this; exact this)
            clear HT hv
            go_wp2_with (first
              | (go_at_call 93; refine (HN.out _ HMb.out.ga.lay).mono ?_; rintro e w1 ⟨rfl, B1⟩; have HM1 := Lib.hid (HMb.out.keep B1); have HX1 := Lib.hid (HX.out.below B1 HX.out.lt); have HK1 := Lib.hid (HKb.out.onB B1); clear B1)
              | (go_at_call 113; refine (HT2.out _ HM1.out).mono ?_; rintro e w2 ⟨rfl, B2⟩; exact ⟨rfl, ⟨rfl, (HK1.out.below (Nat.le_of_lt hgw)).trans (B2.mono (Nat.le_of_lt HM1.out.lt))⟩⟩)
              | (refine wpList_load_mid rfl 79 (.tmp 23) rfl q _ rfl [sv xt, .bool xq, .int .i64 xl, .int .i64 xc] _ HRG.out Tryz.underlying79 rfl HI.out ?_)
              | (refine wpList_load_row rfl 79 (.tmp 6) rfl wq.heap.size rfl 79 #[sv xt, .bool xq, .int .i64 xl, .int .i64 xc] (0, 0) _ HX1.out Tryz.underlying79 rfl HI.out ?_))
end
end Go.Proofs.YtgcaephfhfkjcaaGreatDoor
namespace Go.Proofs.YtgcaephfhfkjcaaGreatDoor
open Go.RowKit

theorem setN_cells (v : Value) (o : ByteArray) (d : Rd.Dt) (n k : Nat) (hn : n < 5) : (rdC v o d n).setIfInBounds (5 + n) (.int .u32 k) = rdC v o (Rd.setN d n k) n := by
  rcases (by omega : n = 0 ∨ n = 1 ∨ n = 2 ∨ n = 3 ∨ n = 4) with rfl | rfl | rfl | rfl | rfl <;> rfl
section
variable {g hi n : Nat} {o : ByteArray} {ws : List Rd.W2} {x : Rd.W2} {d : Rd.Dt} {w : World}
theorem Kb.heapOf {g b : Nat} {w w1 w2 : World} (h : Kb g b w w1) (e1 : w2.heap = w1.heap) (e2 : w2.os = w1.os) (e3 : w2.tape = w1.tape) (e4 : w2.output = w1.output) : Kb g b w w2 :=
  ⟨e2.trans h.os, e3.trans h.tape, e4.trans h.output, by rw [e1]; exact h.size, fun k hk hne => by rw [e1]; exact h.block k hk hne⟩
set_option maxHeartbeats 1000000 in
set_option maxRecDepth 100000 in
theorem rdKeep_any (h : St w g hi o ws d n) (hn : n < 5) (k : Nat) :
    Calls Tryz.prog 171 #[.pointer (some ⟨g, 0, none⟩), .int .u32 k] w fun e w' => e = .returned (.tuple #[]) ∧ St w' g hi o ws (Rd.setN d n k) (n + 1) ∧ Kb g w.heap.size w w' := by
  obtain ⟨v, hh⟩ := h.has
  have c10 : w.cell? ⟨g, 10, none⟩ = some (.int .i64 n) := by rw [hh.cell]; rfl
  obtain ⟨u, hu⟩ : ∃ u, (rdC v o d n)[5 + n]'(by show _ < 11; omega) = u := ⟨_, rfl⟩
  have cn : w.cell? ⟨g, 5 + n, none⟩ = some u := by rw [hh.cell, ← hu]; simp
  have f10 := hh.free 10
  have fn := hh.free (5 + n)
  have hni : ((n : Nat) : Int) < 5 := by omega
  have hnj : (0 : Int) ≤ ((n : Nat) : Int) := by omega
  have hw : IntKind.i64.wrap ((n : Int) + 1) = (n : Int) + 1 := by rw [IntKind.wrap_i64]; omega
  have HS := Lib.hid h
  clear h hu hh
  go_enter Tryz.func171, Tryz.ntmps171
  go_wp2
  go_region
  obtain ⟨W1, hW1⟩ : ∃ W1, w.setCell ⟨g, 5 + n, none⟩ (.int .u32 k) = W1 := ⟨_, rfl⟩
  rw [hW1]
  have hk1 := (Kb.refl g w.heap.size w).set (5 + n) (.int .u32 k)
  rw [hW1] at hk1
  have h1 : St W1.drew g hi o ws (Rd.setN d n k) n := HS.out.put (i := 5 + n) (u := .int .u32 k) (by rw [hW1]; rfl) (fun v => setN_cells v o d n k hn)
  have hk2 : Kb g w.heap.size w W1.drew := hk1.heapOf rfl rfl rfl rfl
  obtain ⟨v2, hh2⟩ := h1.has
  have d10 : W1.drew.cell? ⟨g, 10, none⟩ = some (.int .i64 n) := by rw [hh2.cell]; rfl
  have g10 := hh2.free 10
  have H1 := Lib.hid h1
  have HK := Lib.hid hk2
  clear h1 hk2 hk1 hW1 c10 cn f10 fn hh2
  generalize W1.drew = W2 at *
  go_wp2
  go_end0
  exact ⟨rfl, H1.out.put (i := 10) (u := .int .i64 ((n : Int) + 1)) rfl (fun v => rfl), HK.out.set 10 _⟩
set_option maxRecDepth 100000 in
theorem rdNarrow_ok (h : St w g hi o (x :: ws) d n) (hx : x.2 = false) (hn : n < 5) {k : Nat} (hv : Rd.num x.1 65535 = some k) :
    Calls Tryz.prog 148 #[.pointer (some ⟨g, 0, none⟩)] w fun e w' => e = .returned (.tuple #[]) ∧ St w' g hi o ws (Rd.setN d n k) (n + 1) ∧ Kb g w.heap.size w w' := by
  have HN := Lib.hid (rdNumberR_ok h hx 16 (.inr (.inl rfl)) (v := k) hv)
  clear h hv
  go_enter Tryz.func148, Tryz.ntmps148
  go_wp2_with (first
    | (go_at_call 59; refine (width_8 _).mono ?_; rintro e w0 ⟨rfl, rfl⟩)
    | (go_at_call 137; refine HN.out.mono ?_; rintro e w1 ⟨rfl, S1, K1⟩; have HC := Lib.hid (rdKeep_any S1 hn k); have HK := Lib.hid K1; clear S1 K1)
    | (go_at_call 171; refine HC.out.mono ?_; rintro e w2 ⟨rfl, S2, K2⟩; have HS2 := Lib.hid S2; have HK2 := Lib.hid (HK.out.on K2); clear S2 K2))
  go_end0
  exact ⟨rfl, HS2.out, HK2.out⟩
set_option maxRecDepth 100000 in
theorem rdWide_ok (h : St w g hi o (x :: ws) d n) (hx : x.2 = false) (hn : n < 5) {k : Nat} (hv : Rd.num x.1 4294967295 = some k) :
    Calls Tryz.prog 149 #[.pointer (some ⟨g, 0, none⟩)] w fun e w' => e = .returned (.tuple #[]) ∧ St w' g hi o ws (Rd.setN d n k) (n + 1) ∧ Kb g w.heap.size w w' := by
  have HN := Lib.hid (rdNumberR_ok h hx 32 (.inr (.inr rfl)) (v := k) hv)
  clear h hv
  go_enter Tryz.func149, Tryz.ntmps149
  go_wp2_with (first
    | (go_at_call 59; refine (width_9 _).mono ?_; rintro e w0 ⟨rfl, rfl⟩)
    | (go_at_call 137; refine HN.out.mono ?_; rintro e w1 ⟨rfl, S1, K1⟩; have HC := Lib.hid (rdKeep_any S1 hn k); have HK := Lib.hid K1; clear S1 K1)
    | (go_at_call 171; refine HC.out.mono ?_; rintro e w2 ⟨rfl, S2, K2⟩; have HS2 := Lib.hid S2; have HK2 := Lib.hid (HK.out.on K2); clear S2 K2))
  go_end0
  exact ⟨rfl, HS2.out, HK2.out⟩
set_option maxRecDepth 100000 in
theorem rdName_ok (h : St w g hi o (x :: ws) d n) (hx : x.2 = false) (ho : o.size ≤ 140737488355328) {r : List UInt8} (hr : Rd.nameR o.data.toList x.1 = some r) :
    Calls Tryz.prog 170 #[.pointer (some ⟨g, 0, none⟩)] w fun e w' => e = .returned (sv r) ∧ St w' g hi o ws d n ∧ Kb g w.heap.size w w' := by
  have hl := h.one
  have HN := Lib.hid (rdPlain_any h hx)
  clear h
  unfold Rd.nameR at hr
  by_cases h64 : x.1 = [64]
  · rw [if_pos h64] at hr
    injection hr with hr
    have ho2 : sv r = .string o := by rw [← hr]
    rw [ho2]
    rw [h64] at HN
    have hb64 : ((⟨#[64]⟩ : ByteArray).toList == (⟨#[64]⟩ : ByteArray).toList) = true := (Lib.bytes_beq_iff _ _).2 rfl
    go_enter Tryz.func170, Tryz.ntmps170
    go_wp2_with (go_at_call 138; refine HN.out.mono ?_; rintro e w1 ⟨rfl, S1, K1⟩; obtain ⟨v, hh⟩ := S1.has; have c1 : w1.cell? ⟨g, 1, none⟩ = some (.string o) := (by rw [hh.cell]; rfl); have HS := Lib.hid S1; have HK := Lib.hid K1; clear S1 K1 hh)
    go_ret
    exact ⟨rfl, HS.out, HK.out⟩
  · rw [if_neg h64] at hr
    have hpr : (Nm.parse x.1 o.data.toList).2 = 0 ∧ (Nm.parse x.1 o.data.toList).1 = r := by
      by_cases hp : (Nm.parse x.1 o.data.toList).2 = 0
      · rw [if_pos hp] at hr
        injection hr with hr
        exact ⟨hp, hr⟩
      · rw [if_neg hp] at hr; cases hr
    have hR : parseR x.1 o.data.toList = .tuple #[sv r, .int .i64 0] := by
      unfold parseR
      rw [← hpr.2, hpr.1]
      rfl
    have hb64 : (x.1 == ([64] : List UInt8)) = false := beq_eq_false_iff_ne.2 h64
    have HP := Lib.hid (fun (W : World) (hL : Lay W) => by have := Parse_any ⟨x.1.toArray⟩ o W hL (by rw [mk_size]; exact hl) ho; rw [show (⟨x.1.toArray⟩ : ByteArray).data.toList = x.1 from by simp, hR] at this; exact this)
    clear hr hpr hR hl
    go_enter Tryz.func170, Tryz.ntmps170
    go_wp2_with (first
      | (go_at_call 138; refine HN.out.mono ?_; rintro e w1 ⟨rfl, S1, K1⟩; obtain ⟨v, hh⟩ := S1.has; have c1 : w1.cell? ⟨g, 1, none⟩ = some (.string o) := (by rw [hh.cell]; rfl); have HS := Lib.hid S1; have HK := Lib.hid K1; clear S1 K1 hh)
      | (go_at_call 111; refine (HP.out _ HS.out.gl.1).mono ?_; rintro e w2 ⟨rfl, B2⟩; have HB := Lib.hid B2; clear B2))
    go_ret
    exact ⟨rfl, HS.out.keep HB.out, HK.out.onB HB.out⟩
set_option maxRecDepth 100000 in
theorem rdHost_ok (h : St w g hi o (x :: ws) d n) (hx : x.2 = false) (ho : o.size ≤ 140737488355328) {r : List UInt8} (hr : Rd.nameR o.data.toList x.1 = some r) :
    Calls Tryz.prog 146 #[.pointer (some ⟨g, 0, none⟩)] w fun e w' => e = .returned (.tuple #[]) ∧ St w' g hi o ws { d with host := r } n ∧ Kb g w.heap.size w w' := by
  have HN := Lib.hid (rdName_ok h hx ho hr)
  clear h hr
  go_enter Tryz.func146, Tryz.ntmps146
  go_wp2_with (go_at_call 170; refine HN.out.mono ?_; rintro e w1 ⟨rfl, S1, K1⟩; obtain ⟨v, hh⟩ := S1.has; have c3 : w1.cell? ⟨g, 3, none⟩ = some (sv d.host) := (by rw [hh.cell]; rfl); have f3 := hh.free 3; have HS := Lib.hid S1; have HK := Lib.hid K1; clear S1 K1 hh)
  go_end0
  exact ⟨rfl, HS.out.put (i := 3) (u := sv r) rfl (fun v => rfl), HK.out.set 3 _⟩
set_option maxRecDepth 100000 in
theorem rdMail_ok (h : St w g hi o (x :: ws) d n) (hx : x.2 = false) (ho : o.size ≤ 140737488355328) {r : List UInt8} (hr : Rd.nameR o.data.toList x.1 = some r) :
    Calls Tryz.prog 147 #[.pointer (some ⟨g, 0, none⟩)] w fun e w' => e = .returned (.tuple #[]) ∧ St w' g hi o ws { d with mail := r } n ∧ Kb g w.heap.size w w' := by
  have HN := Lib.hid (rdName_ok h hx ho hr)
  clear h hr
  go_enter Tryz.func147, Tryz.ntmps147
  go_wp2_with (go_at_call 170; refine HN.out.mono ?_; rintro e w1 ⟨rfl, S1, K1⟩; obtain ⟨v, hh⟩ := S1.has; have c4 : w1.cell? ⟨g, 4, none⟩ = some (sv d.mail) := (by rw [hh.cell]; rfl); have f4 := hh.free 4; have HS := Lib.hid S1; have HK := Lib.hid K1; clear S1 K1 hh)
  go_end0
  exact ⟨rfl, HS.out.put (i := 4) (u := sv r) rfl (fun v => rfl), HK.out.set 4 _⟩
end
end Go.Proofs.YtgcaephfhfkjcaaGreatDoor
