/- Texts of the proofs, merged. -/
import Derived.Test.YtgcaephfhfkjcaaGreatDoorZh22
import Derived.Test.YtgcaephfhfkjcaaGreatDoorZh18
import Derived.Test.YtgcaephfhfkjcaaGreatDoorZh20
import Derived.Test.YtgcaephfhfkjcaaGreatDoorZh2
import Derived.Lib.SplitLaws
namespace Go.Proofs.YtgcaephfhfkjcaaGreatDoor
open Go.RowKit

/-- what directive comes to. -/
def DrP (w : World) (g : Nat) (hi : Nat × Nat) (f : Tk.Wd) (R : Ma.Ans Ma.S) (e : Ending) (w' : World) : Prop := match R with
  | .ok s => e = .returned (.tuple #[]) ∧ MM w' g hi s f [] ∧ Kb g w.heap.size w w'
  | .error x => Fell w g x e w'
theorem MM.front {g : Nat} {hi : Nat × Nat} {s : Ma.S} {f : Tk.Wd} {ws : List Tk.Wd} {w : World} (h : MM w g hi s f ws) : ∃ A c, w.cell? ⟨g, 8, none⟩ = some (.slice A ws.length c) := by
  obtain ⟨vr, vw, h1, ⟨A, c, rfl, _⟩⟩ := h.wp
  exact ⟨A, c, by rw [h1.cell]; rfl⟩
theorem MM.free {g : Nat} {hi : Nat × Nat} {s : Ma.S} {f : Tk.Wd} {ws : List Tk.Wd} {w : World} (h : MM w g hi s f ws) (i : Nat) : w.frozen? ⟨g, i, none⟩ = false := by
  obtain ⟨vr, vw, h1⟩ := h.has
  exact h1.free i
theorem MM.old0 {g : Nat} {hi : Nat × Nat} {s : Ma.S} {f : Tk.Wd} {ws : List Tk.Wd} {w : World} (h : MM w g hi s f ws) : w.cell? ⟨g, 0, none⟩ = some (sv s.o) ∧ w.cell? ⟨g, 1, none⟩ = some (.int .u32 s.ttl) ∧ w.cell? ⟨g, 2, none⟩ = some (.bool s.fx) := by
  obtain ⟨vr, vw, h1⟩ := h.has
  exact ⟨h1.cell 0, h1.cell 1, h1.cell 2⟩
section
variable {g : Nat} {hi : Nat × Nat} {s : Ma.S} {f k : Tk.Wd} {ws : List Tk.Wd} {w : World}
set_option linter.unusedSimpArgs false in
set_option maxHeartbeats 8000000 in
set_option maxRecDepth 100000 in
theorem maDir_any (h : MM w g hi s f (k :: ws)) (hs : Mk s) :
    Calls Tryz.prog 53 #[.pointer (some ⟨g, 0, none⟩)] w fun e w' => DrP w g hi f (Ma.directive s k ws) e w' := by
  have hi4 : (Tryz.prog.info? 79).map (·.size) = some 4 := by kernel_rfl
  have HI := Lib.hid hi4
  have hgw := h.lt
  have HG := Lib.hid (fun (W : World) => maGiveUp_any k 94 W)
  have hkl := h.wordLen
  have HKW := Lib.hid (fun (W : World) => keyword_any k W hkl)
  have HT := Lib.hid (fun (W : World) (hM : MM W g hi s f (k :: ws)) => maTake_any hM)
  have HM := Lib.hid h
  have HS := Lib.hid hs
  obtain ⟨R, hR⟩ : ∃ R, Ma.directive s k ws = R := ⟨_, rfl⟩
  rw [hR]
  obtain ⟨kx, hkx⟩ : ∃ n, Ma.kw k = n := ⟨_, rfl⟩
  rw [hkx] at HKW
  unfold Ma.directive at hR
  rw [hkx] at hR
  clear hkx h hs hi4 hkl
  obtain ⟨kt, kq, kl, kc⟩ := k
  simp only [wv] at HT
  match ws, HT, HM, hR with
  | [], HT, HM, hR =>
    subst hR
    go_enter Tryz.func53, Tryz.ntmps53
    go_wp2_with (first
      | (go_at_call 91; refine (HT.out _ HM.out).mono ?_; rintro e w1 ⟨rfl, M1, K1⟩; obtain ⟨A1, p1, c1⟩ := M1.front; have HM1 := Lib.hid (M1.keep ((Below.refl w1.heap.size w1).alloc (Nat.le_refl _) (.cells #[sv kt, .bool kq, .int .i64 kl, .int .i64 kc] 79))); obtain ⟨A1, p1, c1⟩ := HM1.out.front; have HK1 := Lib.hid (K1.alloc K1.size (.cells #[sv kt, .bool kq, .int .i64 kl, .int .i64 kc] 79)); have HX1 := Lib.hid (Has.fresh w1 79 #[sv kt, .bool kq, .int .i64 kl, .int .i64 kc]); have hg1 : w1.heap.size ≠ g := (by have := M1.lt; omega); clear M1 K1)
      | (refine wpList_load_row rfl 79 (.tmp 2) rfl w1.heap.size rfl 79 #[sv kt, .bool kq, .int .i64 kl, .int .i64 kc] (0, 0) _ HX1.out Tryz.underlying79 rfl HI.out ?_)
      | (go_at_call 54; refine (HG.out _).mono ?_; rintro e w5 ⟨rfl, BG⟩; exact ⟨rfl, ⟨rfl, (HK1.out.below (Nat.le_of_lt hgw)).trans (BG.mono (Nat.le_of_lt HM1.out.lt))⟩⟩))
  | x :: y :: r, HT, HM, hR =>
    subst hR
    have hne : ((((r.length : Int) + 1 + 1)) != 1) = true := bne_iff_ne.2 (by omega)
    go_enter Tryz.func53, Tryz.ntmps53
    go_wp2_with (first
      | (go_at_call 91; refine (HT.out _ HM.out).mono ?_; rintro e w1 ⟨rfl, M1, K1⟩; obtain ⟨A1, p1, c1⟩ := M1.front; have HM1 := Lib.hid (M1.keep ((Below.refl w1.heap.size w1).alloc (Nat.le_refl _) (.cells #[sv kt, .bool kq, .int .i64 kl, .int .i64 kc] 79))); obtain ⟨A1, p1, c1⟩ := HM1.out.front; have HK1 := Lib.hid (K1.alloc K1.size (.cells #[sv kt, .bool kq, .int .i64 kl, .int .i64 kc] 79)); have HX1 := Lib.hid (Has.fresh w1 79 #[sv kt, .bool kq, .int .i64 kl, .int .i64 kc]); have hg1 : w1.heap.size ≠ g := (by have := M1.lt; omega); clear M1 K1)
      | (refine wpList_load_row rfl 79 (.tmp 2) rfl w1.heap.size rfl 79 #[sv kt, .bool kq, .int .i64 kl, .int .i64 kc] (0, 0) _ HX1.out Tryz.underlying79 rfl HI.out ?_)
      | (go_at_call 54; refine (HG.out _).mono ?_; rintro e w5 ⟨rfl, BG⟩; exact ⟨rfl, ⟨rfl, (HK1.out.below (Nat.le_of_lt hgw)).trans (BG.mono (Nat.le_of_lt HM1.out.lt))⟩⟩))
  | [x], HT, HM, hR =>
    have hxl : x.text.length ≤ 262144 := by
      obtain ⟨_, _, _, ⟨_, _, _, _, _, hl, _⟩⟩ := HM.out.wp
      exact hl x (by simp)
    have HT2 := Lib.hid (fun (W : World) (hM : MM W g hi s f [x]) => maTake_any hM)
    have HN := Lib.hid (fun (W : World) (hM : MM W g hi s f []) => maName_any hM HS.out x hxl)
    have HNU := Lib.hid (fun (W : World) (hL : Lay W) => maNumber_any x W hL hxl)
    obtain ⟨ox, hox⟩ : ∃ n, Ma.name s.o x = n := ⟨_, rfl⟩
    obtain ⟨nx, hnx⟩ : ∃ n, Ma.num x = n := ⟨_, rfl⟩
    dsimp only at hR
    rw [hox] at HN hR
    rw [hnx] at HNU hR
    clear hox hnx hxl HS
    obtain ⟨xt, xq, xl, xc⟩ := x
    simp only [wv] at HT2
    by_cases ho : kx = [36, 111, 114, 105, 103, 105, 110]
    · have hb1 : (kx == ([36, 111, 114, 105, 103, 105, 110] : List UInt8)) = true := by rw [ho]; rfl
      simp only [if_pos ho] at hR
      clear ho
      cases ox with
      | some n =>
        subst hR
        go_enter Tryz.func53, Tryz.ntmps53
        go_wp2_with (first
          | (go_at_call 91; refine (HT.out _ HM.out).mono ?_; rintro e w1 ⟨rfl, M1, K1⟩; have HM1 := Lib.hid (M1.keep ((Below.refl w1.heap.size w1).alloc (Nat.le_refl _) (.cells #[sv kt, .bool kq, .int .i64 kl, .int .i64 kc] 79))); obtain ⟨A1, p1, c1⟩ := HM1.out.front; have HK1 := Lib.hid (K1.alloc K1.size (.cells #[sv kt, .bool kq, .int .i64 kl, .int .i64 kc] 79)); have HX1 := Lib.hid (Has.fresh w1 79 #[sv kt, .bool kq, .int .i64 kl, .int .i64 kc]); have hg1 : w1.heap.size ≠ g := (by have := M1.lt; omega); clear M1 K1)
          | (go_at_call 91; refine (HT2.out _ HM1.out).mono ?_; rintro e w2 ⟨rfl, M2, K2⟩; have HX2 := Lib.hid ((K2.has HX1.out HX1.out.lt hg1).alloc (.cells #[sv xt, .bool xq, .int .i64 xl, .int .i64 xc] 79)); have HM2 := Lib.hid (M2.keep ((Below.refl w2.heap.size w2).alloc (Nat.le_refl _) (.cells #[sv xt, .bool xq, .int .i64 xl, .int .i64 xc] 79))); have k2 := HK1.out.on K2; have HK2 := Lib.hid (k2.alloc k2.size (.cells #[sv xt, .bool xq, .int .i64 xl, .int .i64 xc] 79)); have HY2 := Lib.hid (Has.fresh w2 79 #[sv xt, .bool xq, .int .i64 xl, .int .i64 xc]); have hg2 : w2.heap.size ≠ g := (by have := M2.lt; omega); clear M2 K2 k2)
          | (go_at_call 52; refine (HKW.out _).mono ?_; rintro e w3 ⟨rfl, B3⟩; have HM3 := Lib.hid (HM2.out.keep B3); have HX3 := Lib.hid (HX2.out.below B3 HX2.out.lt); have HY3 := Lib.hid (HY2.out.below B3 HY2.out.lt); have HK3 := Lib.hid (HK2.out.onB B3); clear B3)
          | (refine wpList_load_row rfl 79 (.tmp 2) rfl w1.heap.size rfl 79 #[sv kt, .bool kq, .int .i64 kl, .int .i64 kc] (0, 0) _ HX2.out Tryz.underlying79 rfl HI.out ?_)
          | (refine wpList_load_row rfl 79 (.tmp 3) rfl w2.heap.size rfl 79 #[sv xt, .bool xq, .int .i64 xl, .int .i64 xc] (0, 0) _ HY3.out Tryz.underlying79 rfl HI.out ?_)
          | (go_at_call 92; refine (HN.out _ HM3.out).mono ?_; rintro e w4 ⟨⟨v, rfl, rfl⟩, M4, K4⟩; have HX4 := Lib.hid (K4.has HX3.out HX3.out.lt hg1); have HK4 := Lib.hid (HK3.out.on K4); have HM4 := Lib.hid M4; obtain ⟨d0, d1, d2⟩ := M4.old0; have f0 := M4.free 0; have f1 := M4.free 1; have f2 := M4.free 2; clear M4 K4))
        go_end0
        exact ⟨rfl, HM4.out.put (i := 0) (u := sv n) (fun _ _ => rfl) rfl, HK4.out.set 0 _⟩
      | none =>
        subst hR
        go_enter Tryz.func53, Tryz.ntmps53
        go_wp2_with (first
          | (go_at_call 91; refine (HT.out _ HM.out).mono ?_; rintro e w1 ⟨rfl, M1, K1⟩; have HM1 := Lib.hid (M1.keep ((Below.refl w1.heap.size w1).alloc (Nat.le_refl _) (.cells #[sv kt, .bool kq, .int .i64 kl, .int .i64 kc] 79))); obtain ⟨A1, p1, c1⟩ := HM1.out.front; have HK1 := Lib.hid (K1.alloc K1.size (.cells #[sv kt, .bool kq, .int .i64 kl, .int .i64 kc] 79)); have HX1 := Lib.hid (Has.fresh w1 79 #[sv kt, .bool kq, .int .i64 kl, .int .i64 kc]); have hg1 : w1.heap.size ≠ g := (by have := M1.lt; omega); clear M1 K1)
          | (go_at_call 91; refine (HT2.out _ HM1.out).mono ?_; rintro e w2 ⟨rfl, M2, K2⟩; have HX2 := Lib.hid ((K2.has HX1.out HX1.out.lt hg1).alloc (.cells #[sv xt, .bool xq, .int .i64 xl, .int .i64 xc] 79)); have HM2 := Lib.hid (M2.keep ((Below.refl w2.heap.size w2).alloc (Nat.le_refl _) (.cells #[sv xt, .bool xq, .int .i64 xl, .int .i64 xc] 79))); have k2 := HK1.out.on K2; have HK2 := Lib.hid (k2.alloc k2.size (.cells #[sv xt, .bool xq, .int .i64 xl, .int .i64 xc] 79)); have HY2 := Lib.hid (Has.fresh w2 79 #[sv xt, .bool xq, .int .i64 xl, .int .i64 xc]); have hg2 : w2.heap.size ≠ g := (by have := M2.lt; omega); clear M2 K2 k2)
          | (go_at_call 52; refine (HKW.out _).mono ?_; rintro e w3 ⟨rfl, B3⟩; have HM3 := Lib.hid (HM2.out.keep B3); have HX3 := Lib.hid (HX2.out.below B3 HX2.out.lt); have HY3 := Lib.hid (HY2.out.below B3 HY2.out.lt); have HK3 := Lib.hid (HK2.out.onB B3); clear B3)
          | (refine wpList_load_row rfl 79 (.tmp 2) rfl w1.heap.size rfl 79 #[sv kt, .bool kq, .int .i64 kl, .int .i64 kc] (0, 0) _ HX2.out Tryz.underlying79 rfl HI.out ?_)
          | (refine wpList_load_row rfl 79 (.tmp 3) rfl w2.heap.size rfl 79 #[sv xt, .bool xq, .int .i64 xl, .int .i64 xc] (0, 0) _ HY3.out Tryz.underlying79 rfl HI.out ?_)
          | (go_at_call 92; refine (HN.out _ HM3.out).mono ?_; rintro e w4 ⟨⟨v, rfl, n, rfl⟩, M4, K4⟩; have HX4 := Lib.hid (K4.has HX3.out HX3.out.lt hg1); have HK4 := Lib.hid (HK3.out.on K4); have HM4 := Lib.hid M4; obtain ⟨d0, d1, d2⟩ := M4.old0; have f0 := M4.free 0; have f1 := M4.free 1; have f2 := M4.free 2; clear M4 K4)
          | (refine wpList_load_row rfl 79 (.tmp 2) rfl w1.heap.size rfl 79 #[sv kt, .bool kq, .int .i64 kl, .int .i64 kc] (0, 0) _ (HX4.out.far (p := ⟨g, 0, none⟩) hg1 _) Tryz.underlying79 rfl HI.out ?_)
          | (go_at_call 54; refine (HG.out _).mono ?_; rintro e w5 ⟨rfl, BG⟩; exact ⟨rfl, ⟨rfl, ((HK4.out.set 0 _).below (Nat.le_of_lt hgw)).trans (BG.mono (by have := HM4.out.lt; simp; omega))⟩⟩))
    · have hb1 : (kx == ([36, 111, 114, 105, 103, 105, 110] : List UInt8)) = false := beq_eq_false_iff_ne.2 ho
      simp only [if_neg ho] at hR
      clear ho
      by_cases ht : kx = [36, 116, 116, 108]
      · have hb2 : (kx == ([36, 116, 116, 108] : List UInt8)) = true := by rw [ht]; rfl
        simp only [if_pos ht] at hR
        clear ht
        cases nx with
        | none =>
          replace HNU : Hid (∀ (W : World), Lay W → Calls Tryz.prog 93 #[.agg #[sv xt, .bool xq, .int .i64 xl, .int .i64 xc]] W fun e w' => e = .returned (.tuple #[.int .u32 0, .bool false]) ∧ Below W.heap.size W w') := HNU
          subst hR
          go_enter Tryz.func53, Tryz.ntmps53
          go_wp2_with (first
            | (go_at_call 91; refine (HT.out _ HM.out).mono ?_; rintro e w1 ⟨rfl, M1, K1⟩; have HM1 := Lib.hid (M1.keep ((Below.refl w1.heap.size w1).alloc (Nat.le_refl _) (.cells #[sv kt, .bool kq, .int .i64 kl, .int .i64 kc] 79))); obtain ⟨A1, p1, c1⟩ := HM1.out.front; have HK1 := Lib.hid (K1.alloc K1.size (.cells #[sv kt, .bool kq, .int .i64 kl, .int .i64 kc] 79)); have HX1 := Lib.hid (Has.fresh w1 79 #[sv kt, .bool kq, .int .i64 kl, .int .i64 kc]); have hg1 : w1.heap.size ≠ g := (by have := M1.lt; omega); clear M1 K1)
            | (go_at_call 91; refine (HT2.out _ HM1.out).mono ?_; rintro e w2 ⟨rfl, M2, K2⟩; have HX2 := Lib.hid ((K2.has HX1.out HX1.out.lt hg1).alloc (.cells #[sv xt, .bool xq, .int .i64 xl, .int .i64 xc] 79)); have HM2 := Lib.hid (M2.keep ((Below.refl w2.heap.size w2).alloc (Nat.le_refl _) (.cells #[sv xt, .bool xq, .int .i64 xl, .int .i64 xc] 79))); have k2 := HK1.out.on K2; have HK2 := Lib.hid (k2.alloc k2.size (.cells #[sv xt, .bool xq, .int .i64 xl, .int .i64 xc] 79)); have HY2 := Lib.hid (Has.fresh w2 79 #[sv xt, .bool xq, .int .i64 xl, .int .i64 xc]); have hg2 : w2.heap.size ≠ g := (by have := M2.lt; omega); clear M2 K2 k2)
            | (go_at_call 52; refine (HKW.out _).mono ?_; rintro e w3 ⟨rfl, B3⟩; have HM3 := Lib.hid (HM2.out.keep B3); have HX3 := Lib.hid (HX2.out.below B3 HX2.out.lt); have HY3 := Lib.hid (HY2.out.below B3 HY2.out.lt); have HK3 := Lib.hid (HK2.out.onB B3); clear B3)
            | (refine wpList_load_row rfl 79 (.tmp 2) rfl w1.heap.size rfl 79 #[sv kt, .bool kq, .int .i64 kl, .int .i64 kc] (0, 0) _ HX2.out Tryz.underlying79 rfl HI.out ?_)
            | (refine wpList_load_row rfl 79 (.tmp 3) rfl w2.heap.size rfl 79 #[sv xt, .bool xq, .int .i64 xl, .int .i64 xc] (0, 0) _ HY3.out Tryz.underlying79 rfl HI.out ?_)
            | (go_at_call 93; refine (HNU.out _ HM3.out.ga.lay).mono ?_; rintro e w4 ⟨rfl, B4⟩; have HX4 := Lib.hid (HX3.out.below B4 HX3.out.lt); have HM4 := Lib.hid (HM3.out.keep B4); have HK4 := Lib.hid (HK3.out.onB B4); obtain ⟨d0, d1, d2⟩ := HM4.out.old0; have f0 := HM4.out.free 0; have f1 := HM4.out.free 1; have f2 := HM4.out.free 2; clear B4)
            | (refine wpList_load_row rfl 79 (.tmp 2) rfl w1.heap.size rfl 79 #[sv kt, .bool kq, .int .i64 kl, .int .i64 kc] (0, 0) _ ((HX4.out.far (p := ⟨g, 1, none⟩) hg1 _).far (p := ⟨g, 2, none⟩) hg1 _) Tryz.underlying79 rfl HI.out ?_)
            | (go_at_call 54; refine (HG.out _).mono ?_; rintro e w5 ⟨rfl, BG⟩; exact ⟨rfl, ⟨rfl, (((HK4.out.set 1 _).set 2 _).below (Nat.le_of_lt hgw)).trans (BG.mono (by have := HM4.out.lt; simp; omega))⟩⟩))
        | some v =>
          replace HNU : Hid (∀ (W : World), Lay W → Calls Tryz.prog 93 #[.agg #[sv xt, .bool xq, .int .i64 xl, .int .i64 xc]] W fun e w' => e = .returned (.tuple #[.int .u32 v, .bool true]) ∧ Below W.heap.size W w') := HNU
          by_cases hv : v ≤ 2147483647
          · have hvi : (v : Int) ≤ 2147483647 := by omega
            simp only [if_pos hv] at hR
            subst hR
            clear hv
            go_enter Tryz.func53, Tryz.ntmps53
            go_wp2_with (first
              | (go_at_call 91; refine (HT.out _ HM.out).mono ?_; rintro e w1 ⟨rfl, M1, K1⟩; have HM1 := Lib.hid (M1.keep ((Below.refl w1.heap.size w1).alloc (Nat.le_refl _) (.cells #[sv kt, .bool kq, .int .i64 kl, .int .i64 kc] 79))); obtain ⟨A1, p1, c1⟩ := HM1.out.front; have HK1 := Lib.hid (K1.alloc K1.size (.cells #[sv kt, .bool kq, .int .i64 kl, .int .i64 kc] 79)); have HX1 := Lib.hid (Has.fresh w1 79 #[sv kt, .bool kq, .int .i64 kl, .int .i64 kc]); have hg1 : w1.heap.size ≠ g := (by have := M1.lt; omega); clear M1 K1)
              | (go_at_call 91; refine (HT2.out _ HM1.out).mono ?_; rintro e w2 ⟨rfl, M2, K2⟩; have HX2 := Lib.hid ((K2.has HX1.out HX1.out.lt hg1).alloc (.cells #[sv xt, .bool xq, .int .i64 xl, .int .i64 xc] 79)); have HM2 := Lib.hid (M2.keep ((Below.refl w2.heap.size w2).alloc (Nat.le_refl _) (.cells #[sv xt, .bool xq, .int .i64 xl, .int .i64 xc] 79))); have k2 := HK1.out.on K2; have HK2 := Lib.hid (k2.alloc k2.size (.cells #[sv xt, .bool xq, .int .i64 xl, .int .i64 xc] 79)); have HY2 := Lib.hid (Has.fresh w2 79 #[sv xt, .bool xq, .int .i64 xl, .int .i64 xc]); have hg2 : w2.heap.size ≠ g := (by have := M2.lt; omega); clear M2 K2 k2)
              | (go_at_call 52; refine (HKW.out _).mono ?_; rintro e w3 ⟨rfl, B3⟩; have HM3 := Lib.hid (HM2.out.keep B3); have HX3 := Lib.hid (HX2.out.below B3 HX2.out.lt); have HY3 := Lib.hid (HY2.out.below B3 HY2.out.lt); have HK3 := Lib.hid (HK2.out.onB B3); clear B3)
              | (refine wpList_load_row rfl 79 (.tmp 2) rfl w1.heap.size rfl 79 #[sv kt, .bool kq, .int .i64 kl, .int .i64 kc] (0, 0) _ HX2.out Tryz.underlying79 rfl HI.out ?_)
              | (refine wpList_load_row rfl 79 (.tmp 3) rfl w2.heap.size rfl 79 #[sv xt, .bool xq, .int .i64 xl, .int .i64 xc] (0, 0) _ HY3.out Tryz.underlying79 rfl HI.out ?_)
              | (go_at_call 93; refine (HNU.out _ HM3.out.ga.lay).mono ?_; rintro e w4 ⟨rfl, B4⟩; have HX4 := Lib.hid (HX3.out.below B4 HX3.out.lt); have HM4 := Lib.hid (HM3.out.keep B4); have HK4 := Lib.hid (HK3.out.onB B4); obtain ⟨d0, d1, d2⟩ := HM4.out.old0; have f0 := HM4.out.free 0; have f1 := HM4.out.free 1; have f2 := HM4.out.free 2; clear B4))
            go_end0
            exact ⟨rfl, (HM4.out.put (s' := ⟨s.o, v, s.fx, s.recs⟩) (i := 1) (u := .int .u32 v) (fun _ _ => rfl) rfl).put (i := 2) (u := .bool true) (fun _ _ => rfl) rfl, (HK4.out.set 1 _).set 2 _⟩
          · have hvd : decide ((v : Int) ≤ 2147483647) = false := by simp; omega
            simp only [if_neg hv] at hR
            subst hR
            clear hv
            go_enter Tryz.func53, Tryz.ntmps53
            go_wp2_with (first
              | (go_at_call 91; refine (HT.out _ HM.out).mono ?_; rintro e w1 ⟨rfl, M1, K1⟩; have HM1 := Lib.hid (M1.keep ((Below.refl w1.heap.size w1).alloc (Nat.le_refl _) (.cells #[sv kt, .bool kq, .int .i64 kl, .int .i64 kc] 79))); obtain ⟨A1, p1, c1⟩ := HM1.out.front; have HK1 := Lib.hid (K1.alloc K1.size (.cells #[sv kt, .bool kq, .int .i64 kl, .int .i64 kc] 79)); have HX1 := Lib.hid (Has.fresh w1 79 #[sv kt, .bool kq, .int .i64 kl, .int .i64 kc]); have hg1 : w1.heap.size ≠ g := (by have := M1.lt; omega); clear M1 K1)
              | (go_at_call 91; refine (HT2.out _ HM1.out).mono ?_; rintro e w2 ⟨rfl, M2, K2⟩; have HX2 := Lib.hid ((K2.has HX1.out HX1.out.lt hg1).alloc (.cells #[sv xt, .bool xq, .int .i64 xl, .int .i64 xc] 79)); have HM2 := Lib.hid (M2.keep ((Below.refl w2.heap.size w2).alloc (Nat.le_refl _) (.cells #[sv xt, .bool xq, .int .i64 xl, .int .i64 xc] 79))); have k2 := HK1.out.on K2; have HK2 := Lib.hid (k2.alloc k2.size (.cells #[sv xt, .bool xq, .int .i64 xl, .int .i64 xc] 79)); have HY2 := Lib.hid (Has.fresh w2 79 #[sv xt, .bool xq, .int .i64 xl, .int .i64 xc]); have hg2 : w2.heap.size ≠ g := (by have := M2.lt; omega); clear M2 K2 k2)
              | (go_at_call 52; refine (HKW.out _).mono ?_; rintro e w3 ⟨rfl, B3⟩; have HM3 := Lib.hid (HM2.out.keep B3); have HX3 := Lib.hid (HX2.out.below B3 HX2.out.lt); have HY3 := Lib.hid (HY2.out.below B3 HY2.out.lt); have HK3 := Lib.hid (HK2.out.onB B3); clear B3)
              | (refine wpList_load_row rfl 79 (.tmp 2) rfl w1.heap.size rfl 79 #[sv kt, .bool kq, .int .i64 kl, .int .i64 kc] (0, 0) _ HX2.out Tryz.underlying79 rfl HI.out ?_)
              | (refine wpList_load_row rfl 79 (.tmp 3) rfl w2.heap.size rfl 79 #[sv xt, .bool xq, .int .i64 xl, .int .i64 xc] (0, 0) _ HY3.out Tryz.underlying79 rfl HI.out ?_)
              | (go_at_call 93; refine (HNU.out _ HM3.out.ga.lay).mono ?_; rintro e w4 ⟨rfl, B4⟩; have HX4 := Lib.hid (HX3.out.below B4 HX3.out.lt); have HM4 := Lib.hid (HM3.out.keep B4); have HK4 := Lib.hid (HK3.out.onB B4); obtain ⟨d0, d1, d2⟩ := HM4.out.old0; have f0 := HM4.out.free 0; have f1 := HM4.out.free 1; have f2 := HM4.out.free 2; clear B4)
              | (refine wpList_load_row rfl 79 (.tmp 2) rfl w1.heap.size rfl 79 #[sv kt, .bool kq, .int .i64 kl, .int .i64 kc] (0, 0) _ ((HX4.out.far (p := ⟨g, 1, none⟩) hg1 _).far (p := ⟨g, 2, none⟩) hg1 _) Tryz.underlying79 rfl HI.out ?_)
              | (go_at_call 54; refine (HG.out _).mono ?_; rintro e w5 ⟨rfl, BG⟩; exact ⟨rfl, ⟨rfl, (((HK4.out.set 1 _).set 2 _).below (Nat.le_of_lt hgw)).trans (BG.mono (by have := HM4.out.lt; simp; omega))⟩⟩))
      · have hb2 : (kx == ([36, 116, 116, 108] : List UInt8)) = false := beq_eq_false_iff_ne.2 ht
        simp only [if_neg ht] at hR
        clear ht
        subst hR
        go_enter Tryz.func53, Tryz.ntmps53
        go_wp2_with (first
          | (go_at_call 91; refine (HT.out _ HM.out).mono ?_; rintro e w1 ⟨rfl, M1, K1⟩; have HM1 := Lib.hid (M1.keep ((Below.refl w1.heap.size w1).alloc (Nat.le_refl _) (.cells #[sv kt, .bool kq, .int .i64 kl, .int .i64 kc] 79))); obtain ⟨A1, p1, c1⟩ := HM1.out.front; have HK1 := Lib.hid (K1.alloc K1.size (.cells #[sv kt, .bool kq, .int .i64 kl, .int .i64 kc] 79)); have HX1 := Lib.hid (Has.fresh w1 79 #[sv kt, .bool kq, .int .i64 kl, .int .i64 kc]); have hg1 : w1.heap.size ≠ g := (by have := M1.lt; omega); clear M1 K1)
          | (go_at_call 91; refine (HT2.out _ HM1.out).mono ?_; rintro e w2 ⟨rfl, M2, K2⟩; have HX2 := Lib.hid ((K2.has HX1.out HX1.out.lt hg1).alloc (.cells #[sv xt, .bool xq, .int .i64 xl, .int .i64 xc] 79)); have HM2 := Lib.hid (M2.keep ((Below.refl w2.heap.size w2).alloc (Nat.le_refl _) (.cells #[sv xt, .bool xq, .int .i64 xl, .int .i64 xc] 79))); have k2 := HK1.out.on K2; have HK2 := Lib.hid (k2.alloc k2.size (.cells #[sv xt, .bool xq, .int .i64 xl, .int .i64 xc] 79)); have HY2 := Lib.hid (Has.fresh w2 79 #[sv xt, .bool xq, .int .i64 xl, .int .i64 xc]); have hg2 : w2.heap.size ≠ g := (by have := M2.lt; omega); clear M2 K2 k2)
          | (go_at_call 52; refine (HKW.out _).mono ?_; rintro e w3 ⟨rfl, B3⟩; have HM3 := Lib.hid (HM2.out.keep B3); have HX3 := Lib.hid (HX2.out.below B3 HX2.out.lt); have HY3 := Lib.hid (HY2.out.below B3 HY2.out.lt); have HK3 := Lib.hid (HK2.out.onB B3); clear B3)
          | (refine wpList_load_row rfl 79 (.tmp 2) rfl w1.heap.size rfl 79 #[sv kt, .bool kq, .int .i64 kl, .int .i64 kc] (0, 0) _ HX2.out Tryz.underlying79 rfl HI.out ?_)
          | (refine wpList_load_row rfl 79 (.tmp 3) rfl w2.heap.size rfl 79 #[sv xt, .bool xq, .int .i64 xl, .int .i64 xc] (0, 0) _ HY3.out Tryz.underlying79 rfl HI.out ?_)
          | (refine wpList_load_row rfl 79 (.tmp 2) rfl w1.heap.size rfl 79 #[sv kt, .bool kq, .int .i64 kl, .int .i64 kc] (0, 0) _ HX3.out Tryz.underlying79 rfl HI.out ?_)
          | (go_at_call 54; refine (HG.out _).mono ?_; rintro e w5 ⟨rfl, BG⟩; exact ⟨rfl, ⟨rfl, (HK3.out.below (Nat.le_of_lt hgw)).trans (BG.mono (Nat.le_of_lt HM3.out.lt))⟩⟩))
end
end Go.Proofs.YtgcaephfhfkjcaaGreatDoor
namespace Go.Proofs.YtgcaephfhfkjcaaGreatDoor.Rd

theorem setN_names (d : Dt) (k v : Nat) : (setN d k v).host = d.host ∧ (setN d k v).mail = d.mail := by
  unfold setN
  split <;> exact ⟨rfl, rfl⟩
theorem rdP_small {o : By} {p : Nat} {s s' : RS} (ho : nm o = true) (h : rdP o p s = some s') (hh : s.2.1.host.length ≤ 255) (hm : s.2.1.mail.length ≤ 255) : s'.2.1.host.length ≤ 255 ∧ s'.2.1.mail.length ≤ 255 := by
  unfold rdP at h
  split at h
  · injection h with h
    subst h
    exact ⟨hh, hm⟩
  split at h
  · simp only [Option.bind_eq_some_iff, Option.map_eq_some_iff] at h
    obtain ⟨x, _, r, _, rfl⟩ := h
    exact ⟨hh, hm⟩
  split at h
  · simp only [Option.bind_eq_some_iff, Option.map_eq_some_iff] at h
    obtain ⟨x, _, r, _, rfl⟩ := h
    exact ⟨hh, hm⟩
  split at h
  · split at h
    · cases h
    · simp only [Option.map_eq_some_iff] at h
      obtain ⟨r, _, rfl⟩ := h
      exact ⟨hh, hm⟩
  split at h
  · cases h
  split at h
  · simp only [Option.bind_eq_some_iff, Option.map_eq_some_iff] at h
    obtain ⟨x, _, r, hr, rfl⟩ := h
    exact ⟨Rd.nm_len (nameR_is ho hr), hm⟩
  split at h
  · simp only [Option.bind_eq_some_iff, Option.map_eq_some_iff] at h
    obtain ⟨x, _, r, hr, rfl⟩ := h
    exact ⟨hh, Rd.nm_len (nameR_is ho hr)⟩
  · simp only [Option.bind_eq_some_iff, Option.map_eq_some_iff] at h
    obtain ⟨x, _, v, _, rfl⟩ := h
    obtain ⟨e1, e2⟩ := setN_names s.2.1 s.2.2 v
    show (setN s.2.1 s.2.2 v).host.length ≤ 255 ∧ (setN s.2.1 s.2.2 v).mail.length ≤ 255
    rw [e1, e2]
    exact ⟨hh, hm⟩
theorem rdAll_small {o : By} (ho : nm o = true) : ∀ (ps : List Nat) (s s' : RS), rdAll o ps s = some s' → s.2.1.host.length ≤ 255 → s.2.1.mail.length ≤ 255 → s'.2.1.host.length ≤ 255 ∧ s'.2.1.mail.length ≤ 255
  | [], s, s', h, hh, hm => by
    rw [rdAll] at h
    injection h with h
    subst h
    exact ⟨hh, hm⟩
  | p :: ps, s, s', h, hh, hm => by
    rw [rdAll, Option.bind_eq_some_iff] at h
    obtain ⟨s1, h1, h2⟩ := h
    obtain ⟨a, b⟩ := rdP_small ho h1 hh hm
    exact rdAll_small ho ps s1 s' h2 a b
theorem readR_small {o : By} {t : Nat} {ws : List W2} {d : Dt} (ho : nm o = true) (h : readR o t ws = some d) : d.host.length ≤ 255 ∧ d.mail.length ≤ 255 := by
  have key : ∀ us, knownR o t us = some d → d.host.length ≤ 255 ∧ d.mail.length ≤ 255 := fun us h => by
    unfold knownR at h
    rw [Option.bind_eq_some_iff] at h
    obtain ⟨s, h1, h2⟩ := h
    split at h2
    · injection h2 with h2
      subst h2
      exact rdAll_small ho _ _ _ h1 (Nat.zero_le _) (Nat.zero_le _)
    · cases h2
  unfold readR at h
  split at h
  · exact key _ h
  · split at h
    · split at h
      · rw [Option.map_eq_some_iff] at h
        obtain ⟨raw, _, rfl⟩ := h
        exact ⟨Nat.zero_le _, Nat.zero_le _⟩
      · cases h
    · exact key _ h
theorem tyOf_small {s : By} {t : Nat} (h : tyOf s = some t) : t ≤ 65535 := by
  unfold tyOf at h
  split at h
  · rename_i x hx
    injection h with h
    subst h
    have hm := List.mem_of_find?_eq_some hx
    have : ∀ y ∈ tyTab, y.1 ≤ 65535 := by decide
    exact this x hm
  · split at h
    · exact Rd.num_le h
    · cases h
end Go.Proofs.YtgcaephfhfkjcaaGreatDoor.Rd
namespace Go.Proofs.YtgcaephfhfkjcaaGreatDoor
open Go.RowKit

/-- digits to the base 16, on from a. -/
def Rd.hxa : Nat → List UInt8 → Option Nat
  | a, [] => some a
  | a, c :: r => (Rd.hexD c).bind fun d => Rd.hxa (16 * a + d) r
theorem Rd.hxa_fold : ∀ (s : List UInt8) (a : Nat), (s.foldl (fun v c => match v, Rd.hexD c with
  | some v, some d => some (16 * v + d)
  | _, _ => none) (some a)) = Rd.hxa a s
  | [], _ => rfl
  | c :: r, a => by
    have hn : ∀ r : List UInt8, (r.foldl (fun v c => match v, Rd.hexD c with
      | some v, some d => some (16 * v + d)
      | _, _ => none) (none : Option Nat)) = none := fun r => by induction r with
      | nil => rfl
      | cons c r ih => rw [List.foldl_cons]; exact ih
    rw [List.foldl_cons, Rd.hxa]
    cases hd : Rd.hexD c with
    | none => exact hn r
    | some d => exact Rd.hxa_fold r _
theorem Rd.hexV_hxa (s : List UInt8) : Rd.hexV s = Rd.hxa 0 s := Rd.hxa_fold s 0
theorem Rd.hexD_lt {c : UInt8} {d : Nat} (h : Rd.hexD c = some d) : d < 16 ∧ ((48 ≤ c.toNat ∧ c.toNat ≤ 57 ∧ d = c.toNat - 48) ∨ (97 ≤ c.toNat ∧ c.toNat ≤ 102 ∧ d = c.toNat - 87) ∨ (65 ≤ c.toNat ∧ c.toNat ≤ 70 ∧ d = c.toNat - 55)) := by
  unfold Rd.hexD at h
  split at h
  · injection h with h; omega
  split at h
  · injection h with h; omega
  split at h
  · injection h with h; omega
  · cases h
theorem Rd.hxa_le : ∀ {s : List UInt8} {a v : Nat}, Rd.hxa a s = some v → a ≤ v ∧ v < (a + 1) * 16 ^ s.length
  | [], a, v, h => by injection h with h; subst h; simp
  | c :: r, a, v, h => by
    rw [Rd.hxa] at h
    cases hd : Rd.hexD c with
    | none => rw [hd] at h; cases h
    | some d =>
      rw [hd, Option.bind_some] at h
      obtain ⟨h1, h2⟩ := Rd.hxa_le h
      have hl := (Rd.hexD_lt hd).1
      refine ⟨by omega, Nat.lt_of_lt_of_le h2 ?_⟩
      rw [List.length_cons, Nat.pow_succ, Nat.mul_comm (16 ^ r.length) 16, ← Nat.mul_assoc]
      exact Nat.mul_le_mul_right _ (by omega)
theorem lower_any (c : Int) (w : World) : Calls Tryz.prog 157 #[.int .u8 c] w fun e w' => e = .returned (.int .u8 (bits .or .u8 c 32)) ∧ w = w' := by
  go_enter Tryz.func157, Tryz.ntmps157
  go_wp2
  go_ret
  exact ⟨rfl, rfl⟩
theorem low_small {n : Nat} (h1 : 97 ≤ n) (h2 : n ≤ 102) : bits BinOp.or IntKind.u8 (n : Int) 32 = (n : Int) := by
  rcases (by omega : n = 97 ∨ n = 98 ∨ n = 99 ∨ n = 100 ∨ n = 101 ∨ n = 102) with rfl | rfl | rfl | rfl | rfl | rfl <;> kernel_rfl
theorem low_great {n : Nat} (h1 : 65 ≤ n) (h2 : n ≤ 70) : bits BinOp.or IntKind.u8 (n : Int) 32 = (n : Int) + 32 := by
  rcases (by omega : n = 65 ∨ n = 66 ∨ n = 67 ∨ n = 68 ∨ n = 69 ∨ n = 70) with rfl | rfl | rfl | rfl | rfl | rfl <;> kernel_rfl
set_option maxHeartbeats 4000000 in
set_option maxRecDepth 100000 in
theorem iuint_16 (t : ByteArray) (w : World) (h0 : t.size ≠ 0) (h4 : t.size ≤ 4) {v : Nat} (hv : Rd.hxa 0 t.data.toList = some v) :
    Calls Tryz.prog 133 #[.string t, .int .i64 16, .int .i64 16] w fun e w' => e = .returned (.tuple #[.int .u64 v, .nilIface]) ∧ Below w.heap.size w w' := by
  have hemp : t.toList.isEmpty = false := empty_no h0
  have hcv := Lib.run_convert_string_bytes (P := Tryz.prog) w 9 56 5 t Tryz.underlying9 Tryz.underlying56 Tryz.underlying5
  have hB : ∀ j, j < t.size → (Lib.bytesWorld w 5 t).cell? ⟨w.heap.size, j, none⟩ = some (.int .u8 (t.data.toList.getD j 0).toNat) := fun j hj => Lib.bytesWorld_cell w 5 t j hj
  have hBel := bytesWorld_below w 5 t
  obtain ⟨W1, hW1⟩ : ∃ W1, W1 = Lib.bytesWorld w 5 t := ⟨_, rfl⟩
  rw [← hW1] at hcv hB hBel
  clear hW1
  have HBel := Lib.hid hBel
  clear hBel
  obtain ⟨bs, hL⟩ : ∃ bs, bs = t.data.toList := ⟨_, rfl⟩
  have hLn : bs.length = t.size := by rw [hL, Lib.size_eq]
  rw [← hL] at hB hv
  clear hL
  have hv4 : v < 65536 := by
    have := (Rd.hxa_le hv).2
    have h16 : 16 ^ bs.length ≤ 16 ^ 4 := Nat.pow_le_pow_right (by decide) (by omega)
    omega
  have HV := Lib.hid hv
  clear hv
  have hmv : IntKind.u64.wrap (65536 - 1) = 65535 := by rw [IntKind.wrap_u64]; decide
  go_enter Tryz.func133, Tryz.ntmps133
  go_wp2
  go_loop [12, 13, 101] (fun vu vn vi => ∃ (k acc : Nat) (a : Int), vu = .bool false ∧ vn = .int .u64 a ∧ vi = .int .i64 k ∧ k ≤ t.size ∧ Hid (a = (acc : Int)) ∧ Hid (Rd.hxa acc (bs.drop k) = some v))
    (fun _ _ vi => t.size - (intOf vi).toNat)
  case atStart => exact ⟨0, 0, 0, rfl, rfl, rfl, by omega, rfl, HV.out⟩
  case round =>
    obtain ⟨k, acc, a, rfl, rfl, rfl, hk, HA, HD⟩ := hrel
    have hle := (Rd.hxa_le HD.out).1
    have a0 : 0 ≤ a := by rw [HA.out]; omega
    have a1 : a < 65536 := by rw [HA.out]; omega
    by_cases hkn : k < t.size
    · have hc := hB k hkn
      have hdrop : bs.drop k = bs[k]'(by omega) :: bs.drop (k + 1) := List.drop_eq_getElem_cons (by omega)
      have hget : bs.getD k 0 = bs[k]'(by omega) := by simp [List.getD, List.getElem?_eq_getElem (show k < bs.length by omega)]
      have hdec := HD.out
      rw [hdrop] at hdec
      rw [hget] at hc
      generalize bs[k]'(by omega) = c at hc hdec
      have hc256 : c.toNat < 256 := c.toNat_lt
      rw [Rd.hxa] at hdec
      cases hd : Rd.hexD c with
      | none => rw [hd] at hdec; cases hdec
      | some d =>
        rw [hd, Option.bind_some] at hdec
        have hle2 := (Rd.hxa_le hdec).1
        have HDEC := Lib.hid hdec
        have ha2 : a * 16 + (d : Int) ≤ 65535 := by rw [HA.out]; omega
        obtain ⟨hd16, hcs⟩ := Rd.hexD_lt hd
        have hac : Hid (a * 16 + (d : Int) = ((16 * acc + d : Nat) : Int)) := by rw [Hid, HA.out]; omega
        clear hB hdrop hget hdec hd hle2 HD hle
        rcases hcs with ⟨g1, g2, g3⟩ | ⟨g1, g2, g3⟩ | ⟨g1, g2, g3⟩
        · have G := Lib.hid (show (c.toNat : Int) - 48 = (d : Int) by omega)
          clear g3
          go_wp2_with (go_at_call 157; refine (lower_any _ _).mono ?_; rintro e w' ⟨rfl, rfl⟩)
          exact ⟨⟨k + 1, 16 * acc + d, a * 16 + ((c.toNat : Int) - 48), rfl, rfl, by go_num, by omega, by rw [G.out]; exact hac, HDEC.out⟩, by simp [intOf]; omega⟩
        · have hlow := low_small g1 g2
          have G := Lib.hid (show (c.toNat : Int) - 97 + 10 = (d : Int) by omega)
          clear g3
          go_wp2_with (go_at_call 157; refine (lower_any _ _).mono ?_; rintro e w' ⟨rfl, rfl⟩)
          exact ⟨⟨k + 1, 16 * acc + d, a * 16 + ((c.toNat : Int) - 97 + 10), rfl, rfl, by go_num, by omega, by rw [G.out]; exact hac, HDEC.out⟩, by simp [intOf]; omega⟩
        · have hlow := low_great g1 g2
          have G := Lib.hid (show (c.toNat : Int) + 32 - 97 + 10 = (d : Int) by omega)
          clear g3
          go_wp2_with (go_at_call 157; refine (lower_any _ _).mono ?_; rintro e w' ⟨rfl, rfl⟩)
          exact ⟨⟨k + 1, 16 * acc + d, a * 16 + ((c.toNat : Int) + 32 - 97 + 10), rfl, rfl, by go_num, by omega, by rw [G.out]; exact hac, HDEC.out⟩, by simp [intOf]; omega⟩
    · have hkk : k = t.size := by omega
      subst hkk
      have hdec := HD.out
      rw [List.drop_eq_nil_of_le (by omega)] at hdec
      injection hdec with hdec
      have ha := HA.out
      rw [hdec] at ha
      subst ha
      clear hdec HD HA a0 a1 hle
      go_wp2
      go_ret2
      exact ⟨rfl, HBel.out⟩
set_option maxRecDepth 100000 in
theorem uint_16 (t : ByteArray) (w : World) (h0 : t.size ≠ 0) (h4 : t.size ≤ 4) {v : Nat} (hv : Rd.hxa 0 t.data.toList = some v) :
    Calls Tryz.prog 112 #[.string t, .int .i64 16, .int .i64 16] w fun e w' => e = .returned (.tuple #[.int .u64 v, .nilIface]) ∧ Below w.heap.size w w' := by
  have H := Lib.hid (iuint_16 t w h0 h4 hv)
  clear hv
  go_enter Tryz.func112, Tryz.ntmps112
  go_wp2_with (go_at_call 133; refine H.out.mono ?_; rintro e w1 ⟨rfl, hB⟩)
  go_ret2
  exact ⟨rfl, hB⟩
set_option maxRecDepth 100000 in
theorem rdHex_ok (p : Value) (s : List UInt8) (w : World) {v : Nat} (h : Rd.hexR s = some v) :
    Calls Tryz.prog 140 #[p, sv s] w fun e w' => e = .returned (.int .u16 v) ∧ Below w.heap.size w w' := by
  unfold Rd.hexR at h
  by_cases hb : s.length = 0 ∨ 4 < s.length
  · rw [if_pos hb] at h; cases h
  rw [if_neg hb, Rd.hexV_hxa] at h
  have hz : (⟨s.toArray⟩ : ByteArray).size = s.length := mk_size s
  obtain ⟨t, ht⟩ : ∃ t, (⟨s.toArray⟩ : ByteArray) = t := ⟨_, rfl⟩
  have hd : t.data.toList = s := by rw [← ht]
  rw [ht] at hz
  have h4 : t.size ≤ 4 := by omega
  have hv : v < 65536 := by
    have := (Rd.hxa_le h).2
    have h16 : 16 ^ s.length ≤ 16 ^ 4 := Nat.pow_le_pow_right (by decide) (by omega)
    omega
  have H := Lib.hid (uint_16 t w (by omega) h4 (by rw [hd]; exact h))
  show Calls Tryz.prog 140 #[p, .string ⟨s.toArray⟩] w _
  rw [ht]
  clear h hb ht hd hz
  go_enter Tryz.func140, Tryz.ntmps140
  go_wp2_with (go_at_call 112; refine H.out.mono ?_; rintro e w1 ⟨rfl, hB⟩)
  go_ret
  exact ⟨rfl, hB⟩
end Go.Proofs.YtgcaephfhfkjcaaGreatDoor
namespace Go.Proofs.YtgcaephfhfkjcaaGreatDoor.Rd

theorem at_first (b : UInt8) : ∀ s : By, (∀ c ∈ s, c ≠ b) ∨ ∃ p t, s = p ++ b :: t ∧ ∀ c ∈ p, c ≠ b
  | [] => .inl (fun _ h => by cases h)
  | c :: r => by
    by_cases h : c = b
    · exact .inr ⟨[], r, by rw [h]; rfl, fun _ h => by cases h⟩
    · rcases at_first b r with h1 | ⟨p, t, rfl, h1⟩
      · exact .inl (fun x hx => by rcases List.mem_cons.1 hx with rfl | hx; exact h; exact h1 x hx)
      · exact .inr ⟨c :: p, t, rfl, fun x hx => by rcases List.mem_cons.1 hx with rfl | hx; exact h; exact h1 x hx⟩
theorem idx_cons {b c : UInt8} {r : By} (h : c ≠ b) : Lib.index (c :: r) [b] = if Lib.index r [b] == -1 then -1 else Lib.index r [b] + 1 := by
  have hp : ([b] : By).isPrefixOf (c :: r) = false := by
    have : (b == c) = false := beq_eq_false_iff_ne.2 (fun e => h e.symm)
    simp [List.isPrefixOf, this]
  rw [Lib.index, hp]
  rfl
theorem idx_no {b : UInt8} : ∀ {s : By}, (∀ c ∈ s, c ≠ b) → Lib.index s [b] = -1
  | [], _ => rfl
  | c :: r, h => by rw [idx_cons (h c (by simp)), idx_no (fun x hx => h x (by simp [hx]))]; rfl
theorem idx_at {b : UInt8} {t : By} : ∀ {p : By}, (∀ c ∈ p, c ≠ b) → Lib.index (p ++ b :: t) [b] = (p.length : Int)
  | [], _ => by rw [List.nil_append, Lib.index, if_pos (by simp [List.isPrefixOf])]; rfl
  | c :: r, h => by
    rw [List.cons_append, idx_cons (h c (by simp)), idx_at (fun x hx => h x (by simp [hx])), if_neg (by simp), List.length_cons]
    omega
theorem splitK_eq (b : UInt8) : ∀ (n : Nat) (s : By), s.length ≤ n → Lib.splitK [b] 0 (Lib.count s [b]) s = splitB b s
  | 0, s, h => by
    have : s = [] := List.length_eq_zero_iff.1 (by omega)
    subst this
    rfl
  | n + 1, s, h => by
    rcases at_first b s with h1 | ⟨p, t, rfl, h1⟩
    · rw [Lib.count_miss (idx_no h1), splitB_no h1]
      rfl
    · have hi := idx_at (t := t) h1
      have hd : (p ++ b :: t).drop (p.length + ([b] : By).length) = t := by
        rw [List.length_singleton, List.drop_append, List.drop_eq_nil_of_le (by omega), List.nil_append, show p.length + 1 - p.length = 1 by omega]
        rfl
      rw [Lib.count_hit (by simp) hi, hd, Nat.add_comm 1, Lib.splitK, hi, if_neg (by simp), Int.toNat_natCast, hd, splitB_cons t h1, Nat.add_zero, splitK_eq b n t (by simp at h; omega)]
      congr 1
      simp
theorem split_lib (s : ByteArray) (b : UInt8) : (Lib.splitB ⟨#[b]⟩ 0 (Lib.countB s ⟨#[b]⟩) s).map (·.data.toList) = splitB b s.data.toList := by
  rw [Lib.splitB_data]
  exact splitK_eq b _ _ (Nat.le_refl _)
theorem cut2_lib : ∀ s : By, Lib.cut s [58, 58] = cut2 s
  | [] => rfl
  | [c] => by simp [cut2, Lib.cut, Lib.index, List.isPrefixOf]
  | c :: d :: r => by
    have ih := cut2_lib (d :: r)
    by_cases h : c = 58 ∧ d = 58
    · obtain ⟨rfl, rfl⟩ := h
      simp [cut2, Lib.cut, Lib.index, List.isPrefixOf]
    · have hp : ([58, 58] : By).isPrefixOf (c :: d :: r) = false := by
        by_cases hc : c = 58
        · have hd : ¬ d = 58 := fun e => h ⟨hc, e⟩
          have : ((58 : UInt8) == d) = false := beq_eq_false_iff_ne.2 (fun e => hd e.symm)
          simp [List.isPrefixOf, this]
        · have : ((58 : UInt8) == c) = false := beq_eq_false_iff_ne.2 (fun e => hc e.symm)
          simp [List.isPrefixOf, this]
      have e : Lib.index (c :: d :: r) [58, 58] = if Lib.index (d :: r) [58, 58] == -1 then -1 else Lib.index (d :: r) [58, 58] + 1 := by
        rw [Lib.index, hp]
        rfl
      rw [cut2, if_neg h, ← ih]
      unfold Lib.cut
      rw [e]
      have hge := Lib.index_ge (d :: r) [58, 58]
      generalize Lib.index (d :: r) [58, 58] = i at *
      by_cases h0 : 0 ≤ i
      · obtain ⟨k, rfl⟩ := Int.eq_ofNat_of_zero_le h0
        have e1 : ((k : Int) == -1) = false := beq_eq_false_iff_ne.2 (by omega)
        have e3 : (if ((k : Int) == -1) = true then (-1 : Int) else (k : Int) + 1) = (k : Int) + 1 := by rw [e1]; rfl
        rw [e3, if_pos (by omega), if_pos (by omega)]
        have e2 : ((k : Int) + 1).toNat = k + 1 := by omega
        rw [e2, Int.toNat_natCast]
        simp
      · have e1 : i = -1 := by omega
        subst e1
        rfl
end Go.Proofs.YtgcaephfhfkjcaaGreatDoor.Rd
