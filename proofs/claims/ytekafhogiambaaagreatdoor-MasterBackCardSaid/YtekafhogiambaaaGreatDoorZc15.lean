/- Texts of the proofs, merged. -/
import Derived.Test.YtekafhogiambaaaGreatDoorZc14
set_option maxRecDepth 100000
namespace Go.Proofs.YtekafhogiambaaaGreatDoor
open Go.RowKit
def DrP (w : World) (g : Nat) (hi : Nat × Nat) (f : Tk.Wd) (R : Ma.Ans Ma.S) (e : Ending) (w' : World) : Prop:=match R with
 | .ok s=>e = .returned (.tuple #[]) ∧ MM w' g hi s f [] ∧ Kb g w.heap.size w w'
 | .error x=>Fell w g x e w'
theorem MM.front {g : Nat} {hi : Nat × Nat} {s : Ma.S} {f : Tk.Wd} {ws : List Tk.Wd} {w : World} (h : MM w g hi s f ws) : ∃ A c,w.cell? ⟨g,8,none⟩ = some (.slice A ws.length c):=by
 obtain ⟨vr,vw,h1,⟨A,c,rfl,_⟩⟩:=h.wp
 exact ⟨A,c,by rw [h1.cell];rfl⟩
theorem MM.free {g : Nat} {hi : Nat × Nat} {s : Ma.S} {f : Tk.Wd} {ws : List Tk.Wd} {w : World} (h : MM w g hi s f ws) (i : Nat) : w.frozen? ⟨g,i,none⟩ = false:=by
 obtain ⟨vr,vw,h1⟩:=h.has
 exact h1.free i
theorem MM.old0 {g : Nat} {hi : Nat × Nat} {s : Ma.S} {f : Tk.Wd} {ws : List Tk.Wd} {w : World} (h : MM w g hi s f ws) : w.cell? ⟨g,0,none⟩ = some (sv s.o) ∧ w.cell? ⟨g,1,none⟩ = some (.int .u32 s.ttl) ∧ w.cell? ⟨g,2,none⟩ = some (.bool s.fx):=by
 obtain ⟨vr,vw,h1⟩:=h.has
 exact ⟨h1.cell 0,h1.cell 1,h1.cell 2⟩
section
variable {g : Nat} {hi : Nat × Nat} {s : Ma.S} {f k : Tk.Wd} {ws : List Tk.Wd} {w : World}
set_option linter.unusedSimpArgs false in
set_option maxHeartbeats 8000000 in
theorem maDir_any (h : MM w g hi s f (k :: ws)) (hs : Mk s) :
 Calls Tryz.prog 39 #[.pointer (some ⟨g,0,none⟩)] w fun e w' => DrP w g hi f (Ma.directive s k ws) e w':=by
 have hi4 : (Tryz.prog.info? 69).map (·.size) = some 4:=by kernel_rfl
 have HI:=Lib.hid hi4
 have hgw:=h.lt
 have HG:=Lib.hid (fun (W : World)=>maGiveUp_any k 94 W)
 have hkl:=h.wordLen
 have HKW:=Lib.hid (fun (W : World)=>keyword_any k W hkl)
 have HT:=Lib.hid (fun (W : World) (hM : MM W g hi s f (k :: ws))=>maTake_any hM)
 have HM:=Lib.hid h
 have HS:=Lib.hid hs
 obtain ⟨R,hR⟩ : ∃ R,Ma.directive s k ws = R:=⟨_,rfl⟩
 rw [hR]
 obtain ⟨kx,hkx⟩ : ∃ n,Ma.kw k = n:=⟨_,rfl⟩
 rw [hkx] at HKW
 unfold Ma.directive at hR
 rw [hkx] at hR
 clear hkx h hs hi4 hkl
 obtain ⟨kt,kq,kl,kc⟩:=k
 simp only [wv] at HT
 match ws,HT,HM,hR with
 | [],HT,HM,hR =>
  subst hR
  go_enter Tryz.func39,Tryz.ntmps39
  go_wp2_with (first
   | (go_at_call 71;refine (HT.out _ HM.out).mono ?_;rintro e w1 ⟨rfl,M1,K1⟩;obtain ⟨A1,p1,c1⟩:=M1.front;have HM1:=Lib.hid (M1.keep ((Below.refl w1.heap.size w1).alloc (Nat.le_refl _) (.cells #[sv kt,.bool kq,.int .i64 kl,.int .i64 kc] 69)));obtain ⟨A1,p1,c1⟩:=HM1.out.front;have HK1:=Lib.hid (K1.alloc K1.size (.cells #[sv kt,.bool kq,.int .i64 kl,.int .i64 kc] 69));have HX1:=Lib.hid (Has.fresh w1 69 #[sv kt,.bool kq,.int .i64 kl,.int .i64 kc]);have hg1 : w1.heap.size ≠ g:=(by have:=M1.lt;omega);clear M1 K1)
   | (refine wpList_load_row rfl 69 (.tmp 2) rfl w1.heap.size rfl 69 #[sv kt,.bool kq,.int .i64 kl,.int .i64 kc] (0,0) _ HX1.out Tryz.underlying69 rfl HI.out ?_)
   | (go_at_call 40;refine (HG.out _).mono ?_;rintro e w5 ⟨rfl,BG⟩;exact ⟨rfl,⟨rfl,(HK1.out.below (Nat.le_of_lt hgw)).trans (BG.mono (Nat.le_of_lt HM1.out.lt))⟩⟩))
 | x :: y :: r,HT,HM,hR =>
  subst hR
  have hne : ((((r.length : Int) + 1 + 1)) != 1) = true:=bne_iff_ne.2 (by omega)
  go_enter Tryz.func39,Tryz.ntmps39
  go_wp2_with (first
   | (go_at_call 71;refine (HT.out _ HM.out).mono ?_;rintro e w1 ⟨rfl,M1,K1⟩;obtain ⟨A1,p1,c1⟩:=M1.front;have HM1:=Lib.hid (M1.keep ((Below.refl w1.heap.size w1).alloc (Nat.le_refl _) (.cells #[sv kt,.bool kq,.int .i64 kl,.int .i64 kc] 69)));obtain ⟨A1,p1,c1⟩:=HM1.out.front;have HK1:=Lib.hid (K1.alloc K1.size (.cells #[sv kt,.bool kq,.int .i64 kl,.int .i64 kc] 69));have HX1:=Lib.hid (Has.fresh w1 69 #[sv kt,.bool kq,.int .i64 kl,.int .i64 kc]);have hg1 : w1.heap.size ≠ g:=(by have:=M1.lt;omega);clear M1 K1)
   | (refine wpList_load_row rfl 69 (.tmp 2) rfl w1.heap.size rfl 69 #[sv kt,.bool kq,.int .i64 kl,.int .i64 kc] (0,0) _ HX1.out Tryz.underlying69 rfl HI.out ?_)
   | (go_at_call 40;refine (HG.out _).mono ?_;rintro e w5 ⟨rfl,BG⟩;exact ⟨rfl,⟨rfl,(HK1.out.below (Nat.le_of_lt hgw)).trans (BG.mono (Nat.le_of_lt HM1.out.lt))⟩⟩))
 | [x],HT,HM,hR =>
  have hxl : x.text.length ≤ 262144:=by
   obtain ⟨_,_,_,⟨_,_,_,_,_,hl,_⟩⟩:=HM.out.wp
   exact hl x (by simp)
  have HT2:=Lib.hid (fun (W : World) (hM : MM W g hi s f [x])=>maTake_any hM)
  have HN:=Lib.hid (fun (W : World) (hM : MM W g hi s f [])=>maName_any hM HS.out x hxl)
  have HNU:=Lib.hid (fun (W : World) (hL : Lay W)=>maNumber_any x W hL hxl)
  obtain ⟨ox,hox⟩ : ∃ n,Ma.name s.o x = n:=⟨_,rfl⟩
  obtain ⟨nx,hnx⟩ : ∃ n,Ma.num x = n:=⟨_,rfl⟩
  dsimp only at hR
  rw [hox] at HN hR
  rw [hnx] at HNU hR
  clear hox hnx hxl HS
  obtain ⟨xt,xq,xl,xc⟩:=x
  simp only [wv] at HT2
  by_cases ho : kx = [36,111,114,105,103,105,110]
  · have hb1 : (kx == ([36,111,114,105,103,105,110] : List UInt8)) = true:=by rw [ho];rfl
    simp only [if_pos ho] at hR
    clear ho
    cases ox with
    | some n =>
     subst hR
     go_enter Tryz.func39,Tryz.ntmps39
     go_wp2_with (first
      | (go_at_call 71;refine (HT.out _ HM.out).mono ?_;rintro e w1 ⟨rfl,M1,K1⟩;have HM1:=Lib.hid (M1.keep ((Below.refl w1.heap.size w1).alloc (Nat.le_refl _) (.cells #[sv kt,.bool kq,.int .i64 kl,.int .i64 kc] 69)));obtain ⟨A1,p1,c1⟩:=HM1.out.front;have HK1:=Lib.hid (K1.alloc K1.size (.cells #[sv kt,.bool kq,.int .i64 kl,.int .i64 kc] 69));have HX1:=Lib.hid (Has.fresh w1 69 #[sv kt,.bool kq,.int .i64 kl,.int .i64 kc]);have hg1 : w1.heap.size ≠ g:=(by have:=M1.lt;omega);clear M1 K1)
      | (go_at_call 71;refine (HT2.out _ HM1.out).mono ?_;rintro e w2 ⟨rfl,M2,K2⟩;have HX2:=Lib.hid ((K2.has HX1.out HX1.out.lt hg1).alloc (.cells #[sv xt,.bool xq,.int .i64 xl,.int .i64 xc] 69));have HM2:=Lib.hid (M2.keep ((Below.refl w2.heap.size w2).alloc (Nat.le_refl _) (.cells #[sv xt,.bool xq,.int .i64 xl,.int .i64 xc] 69)));have k2:=HK1.out.on K2;have HK2:=Lib.hid (k2.alloc k2.size (.cells #[sv xt,.bool xq,.int .i64 xl,.int .i64 xc] 69));have HY2:=Lib.hid (Has.fresh w2 69 #[sv xt,.bool xq,.int .i64 xl,.int .i64 xc]);have hg2 : w2.heap.size ≠ g:=(by have:=M2.lt;omega);clear M2 K2 k2)
      | (go_at_call 38;refine (HKW.out _).mono ?_;rintro e w3 ⟨rfl,B3⟩;have HM3:=Lib.hid (HM2.out.keep B3);have HX3:=Lib.hid (HX2.out.below B3 HX2.out.lt);have HY3:=Lib.hid (HY2.out.below B3 HY2.out.lt);have HK3:=Lib.hid (HK2.out.onB B3);clear B3)
      | (refine wpList_load_row rfl 69 (.tmp 2) rfl w1.heap.size rfl 69 #[sv kt,.bool kq,.int .i64 kl,.int .i64 kc] (0,0) _ HX2.out Tryz.underlying69 rfl HI.out ?_)
      | (refine wpList_load_row rfl 69 (.tmp 3) rfl w2.heap.size rfl 69 #[sv xt,.bool xq,.int .i64 xl,.int .i64 xc] (0,0) _ HY3.out Tryz.underlying69 rfl HI.out ?_)
      | (go_at_call 72;refine (HN.out _ HM3.out).mono ?_;rintro e w4 ⟨⟨v,rfl,rfl⟩,M4,K4⟩;have HX4:=Lib.hid (K4.has HX3.out HX3.out.lt hg1);have HK4:=Lib.hid (HK3.out.on K4);have HM4:=Lib.hid M4;obtain ⟨d0,d1,d2⟩:=M4.old0;have f0:=M4.free 0;have f1:=M4.free 1;have f2:=M4.free 2;clear M4 K4))
     go_end0
     exact ⟨rfl,HM4.out.put (i:=0) (u:=sv n) (fun _ _=>rfl) rfl,HK4.out.set 0 _⟩
    | none =>
     subst hR
     go_enter Tryz.func39,Tryz.ntmps39
     go_wp2_with (first
      | (go_at_call 71;refine (HT.out _ HM.out).mono ?_;rintro e w1 ⟨rfl,M1,K1⟩;have HM1:=Lib.hid (M1.keep ((Below.refl w1.heap.size w1).alloc (Nat.le_refl _) (.cells #[sv kt,.bool kq,.int .i64 kl,.int .i64 kc] 69)));obtain ⟨A1,p1,c1⟩:=HM1.out.front;have HK1:=Lib.hid (K1.alloc K1.size (.cells #[sv kt,.bool kq,.int .i64 kl,.int .i64 kc] 69));have HX1:=Lib.hid (Has.fresh w1 69 #[sv kt,.bool kq,.int .i64 kl,.int .i64 kc]);have hg1 : w1.heap.size ≠ g:=(by have:=M1.lt;omega);clear M1 K1)
      | (go_at_call 71;refine (HT2.out _ HM1.out).mono ?_;rintro e w2 ⟨rfl,M2,K2⟩;have HX2:=Lib.hid ((K2.has HX1.out HX1.out.lt hg1).alloc (.cells #[sv xt,.bool xq,.int .i64 xl,.int .i64 xc] 69));have HM2:=Lib.hid (M2.keep ((Below.refl w2.heap.size w2).alloc (Nat.le_refl _) (.cells #[sv xt,.bool xq,.int .i64 xl,.int .i64 xc] 69)));have k2:=HK1.out.on K2;have HK2:=Lib.hid (k2.alloc k2.size (.cells #[sv xt,.bool xq,.int .i64 xl,.int .i64 xc] 69));have HY2:=Lib.hid (Has.fresh w2 69 #[sv xt,.bool xq,.int .i64 xl,.int .i64 xc]);have hg2 : w2.heap.size ≠ g:=(by have:=M2.lt;omega);clear M2 K2 k2)
      | (go_at_call 38;refine (HKW.out _).mono ?_;rintro e w3 ⟨rfl,B3⟩;have HM3:=Lib.hid (HM2.out.keep B3);have HX3:=Lib.hid (HX2.out.below B3 HX2.out.lt);have HY3:=Lib.hid (HY2.out.below B3 HY2.out.lt);have HK3:=Lib.hid (HK2.out.onB B3);clear B3)
      | (refine wpList_load_row rfl 69 (.tmp 2) rfl w1.heap.size rfl 69 #[sv kt,.bool kq,.int .i64 kl,.int .i64 kc] (0,0) _ HX2.out Tryz.underlying69 rfl HI.out ?_)
      | (refine wpList_load_row rfl 69 (.tmp 3) rfl w2.heap.size rfl 69 #[sv xt,.bool xq,.int .i64 xl,.int .i64 xc] (0,0) _ HY3.out Tryz.underlying69 rfl HI.out ?_)
      | (go_at_call 72;refine (HN.out _ HM3.out).mono ?_;rintro e w4 ⟨⟨v,rfl,n,rfl⟩,M4,K4⟩;have HX4:=Lib.hid (K4.has HX3.out HX3.out.lt hg1);have HK4:=Lib.hid (HK3.out.on K4);have HM4:=Lib.hid M4;obtain ⟨d0,d1,d2⟩:=M4.old0;have f0:=M4.free 0;have f1:=M4.free 1;have f2:=M4.free 2;clear M4 K4)
      | (refine wpList_load_row rfl 69 (.tmp 2) rfl w1.heap.size rfl 69 #[sv kt,.bool kq,.int .i64 kl,.int .i64 kc] (0,0) _ (HX4.out.far (p:=⟨g,0,none⟩) hg1 _) Tryz.underlying69 rfl HI.out ?_)
      | (go_at_call 40;refine (HG.out _).mono ?_;rintro e w5 ⟨rfl,BG⟩;exact ⟨rfl,⟨rfl,((HK4.out.set 0 _).below (Nat.le_of_lt hgw)).trans (BG.mono (by have:=HM4.out.lt;simp;omega))⟩⟩))
  · have hb1 : (kx == ([36,111,114,105,103,105,110] : List UInt8)) = false:=beq_eq_false_iff_ne.2 ho
    simp only [if_neg ho] at hR
    clear ho
    by_cases ht : kx = [36,116,116,108]
    · have hb2 : (kx == ([36,116,116,108] : List UInt8)) = true:=by rw [ht];rfl
      simp only [if_pos ht] at hR
      clear ht
      cases nx with
      | none =>
       replace HNU : Hid (∀ (W : World),Lay W → Calls Tryz.prog 73 #[.agg #[sv xt,.bool xq,.int .i64 xl,.int .i64 xc]] W fun e w' => e = .returned (.tuple #[.int .u32 0,.bool false]) ∧ Below W.heap.size W w'):=HNU
       subst hR
       go_enter Tryz.func39,Tryz.ntmps39
       go_wp2_with (first
        | (go_at_call 71;refine (HT.out _ HM.out).mono ?_;rintro e w1 ⟨rfl,M1,K1⟩;have HM1:=Lib.hid (M1.keep ((Below.refl w1.heap.size w1).alloc (Nat.le_refl _) (.cells #[sv kt,.bool kq,.int .i64 kl,.int .i64 kc] 69)));obtain ⟨A1,p1,c1⟩:=HM1.out.front;have HK1:=Lib.hid (K1.alloc K1.size (.cells #[sv kt,.bool kq,.int .i64 kl,.int .i64 kc] 69));have HX1:=Lib.hid (Has.fresh w1 69 #[sv kt,.bool kq,.int .i64 kl,.int .i64 kc]);have hg1 : w1.heap.size ≠ g:=(by have:=M1.lt;omega);clear M1 K1)
        | (go_at_call 71;refine (HT2.out _ HM1.out).mono ?_;rintro e w2 ⟨rfl,M2,K2⟩;have HX2:=Lib.hid ((K2.has HX1.out HX1.out.lt hg1).alloc (.cells #[sv xt,.bool xq,.int .i64 xl,.int .i64 xc] 69));have HM2:=Lib.hid (M2.keep ((Below.refl w2.heap.size w2).alloc (Nat.le_refl _) (.cells #[sv xt,.bool xq,.int .i64 xl,.int .i64 xc] 69)));have k2:=HK1.out.on K2;have HK2:=Lib.hid (k2.alloc k2.size (.cells #[sv xt,.bool xq,.int .i64 xl,.int .i64 xc] 69));have HY2:=Lib.hid (Has.fresh w2 69 #[sv xt,.bool xq,.int .i64 xl,.int .i64 xc]);have hg2 : w2.heap.size ≠ g:=(by have:=M2.lt;omega);clear M2 K2 k2)
        | (go_at_call 38;refine (HKW.out _).mono ?_;rintro e w3 ⟨rfl,B3⟩;have HM3:=Lib.hid (HM2.out.keep B3);have HX3:=Lib.hid (HX2.out.below B3 HX2.out.lt);have HY3:=Lib.hid (HY2.out.below B3 HY2.out.lt);have HK3:=Lib.hid (HK2.out.onB B3);clear B3)
        | (refine wpList_load_row rfl 69 (.tmp 2) rfl w1.heap.size rfl 69 #[sv kt,.bool kq,.int .i64 kl,.int .i64 kc] (0,0) _ HX2.out Tryz.underlying69 rfl HI.out ?_)
        | (refine wpList_load_row rfl 69 (.tmp 3) rfl w2.heap.size rfl 69 #[sv xt,.bool xq,.int .i64 xl,.int .i64 xc] (0,0) _ HY3.out Tryz.underlying69 rfl HI.out ?_)
        | (go_at_call 73;refine (HNU.out _ HM3.out.ga.lay).mono ?_;rintro e w4 ⟨rfl,B4⟩;have HX4:=Lib.hid (HX3.out.below B4 HX3.out.lt);have HM4:=Lib.hid (HM3.out.keep B4);have HK4:=Lib.hid (HK3.out.onB B4);obtain ⟨d0,d1,d2⟩:=HM4.out.old0;have f0:=HM4.out.free 0;have f1:=HM4.out.free 1;have f2:=HM4.out.free 2;clear B4)
        | (refine wpList_load_row rfl 69 (.tmp 2) rfl w1.heap.size rfl 69 #[sv kt,.bool kq,.int .i64 kl,.int .i64 kc] (0,0) _ ((HX4.out.far (p:=⟨g,1,none⟩) hg1 _).far (p:=⟨g,2,none⟩) hg1 _) Tryz.underlying69 rfl HI.out ?_)
        | (go_at_call 40;refine (HG.out _).mono ?_;rintro e w5 ⟨rfl,BG⟩;exact ⟨rfl,⟨rfl,(((HK4.out.set 1 _).set 2 _).below (Nat.le_of_lt hgw)).trans (BG.mono (by have:=HM4.out.lt;simp;omega))⟩⟩))
      | some v =>
       replace HNU : Hid (∀ (W : World),Lay W → Calls Tryz.prog 73 #[.agg #[sv xt,.bool xq,.int .i64 xl,.int .i64 xc]] W fun e w' => e = .returned (.tuple #[.int .u32 v,.bool true]) ∧ Below W.heap.size W w'):=HNU
       by_cases hv : v ≤ 2147483647
       · have hvi : (v : Int) ≤ 2147483647:=by omega
         simp only [if_pos hv] at hR
         subst hR
         clear hv
         go_enter Tryz.func39,Tryz.ntmps39
         go_wp2_with (first
          | (go_at_call 71;refine (HT.out _ HM.out).mono ?_;rintro e w1 ⟨rfl,M1,K1⟩;have HM1:=Lib.hid (M1.keep ((Below.refl w1.heap.size w1).alloc (Nat.le_refl _) (.cells #[sv kt,.bool kq,.int .i64 kl,.int .i64 kc] 69)));obtain ⟨A1,p1,c1⟩:=HM1.out.front;have HK1:=Lib.hid (K1.alloc K1.size (.cells #[sv kt,.bool kq,.int .i64 kl,.int .i64 kc] 69));have HX1:=Lib.hid (Has.fresh w1 69 #[sv kt,.bool kq,.int .i64 kl,.int .i64 kc]);have hg1 : w1.heap.size ≠ g:=(by have:=M1.lt;omega);clear M1 K1)
          | (go_at_call 71;refine (HT2.out _ HM1.out).mono ?_;rintro e w2 ⟨rfl,M2,K2⟩;have HX2:=Lib.hid ((K2.has HX1.out HX1.out.lt hg1).alloc (.cells #[sv xt,.bool xq,.int .i64 xl,.int .i64 xc] 69));have HM2:=Lib.hid (M2.keep ((Below.refl w2.heap.size w2).alloc (Nat.le_refl _) (.cells #[sv xt,.bool xq,.int .i64 xl,.int .i64 xc] 69)));have k2:=HK1.out.on K2;have HK2:=Lib.hid (k2.alloc k2.size (.cells #[sv xt,.bool xq,.int .i64 xl,.int .i64 xc] 69));have HY2:=Lib.hid (Has.fresh w2 69 #[sv xt,.bool xq,.int .i64 xl,.int .i64 xc]);have hg2 : w2.heap.size ≠ g:=(by have:=M2.lt;omega);clear M2 K2 k2)
          | (go_at_call 38;refine (HKW.out _).mono ?_;rintro e w3 ⟨rfl,B3⟩;have HM3:=Lib.hid (HM2.out.keep B3);have HX3:=Lib.hid (HX2.out.below B3 HX2.out.lt);have HY3:=Lib.hid (HY2.out.below B3 HY2.out.lt);have HK3:=Lib.hid (HK2.out.onB B3);clear B3)
          | (refine wpList_load_row rfl 69 (.tmp 2) rfl w1.heap.size rfl 69 #[sv kt,.bool kq,.int .i64 kl,.int .i64 kc] (0,0) _ HX2.out Tryz.underlying69 rfl HI.out ?_)
          | (refine wpList_load_row rfl 69 (.tmp 3) rfl w2.heap.size rfl 69 #[sv xt,.bool xq,.int .i64 xl,.int .i64 xc] (0,0) _ HY3.out Tryz.underlying69 rfl HI.out ?_)
          | (go_at_call 73;refine (HNU.out _ HM3.out.ga.lay).mono ?_;rintro e w4 ⟨rfl,B4⟩;have HX4:=Lib.hid (HX3.out.below B4 HX3.out.lt);have HM4:=Lib.hid (HM3.out.keep B4);have HK4:=Lib.hid (HK3.out.onB B4);obtain ⟨d0,d1,d2⟩:=HM4.out.old0;have f0:=HM4.out.free 0;have f1:=HM4.out.free 1;have f2:=HM4.out.free 2;clear B4))
         go_end0
         exact ⟨rfl,(HM4.out.put (s':=⟨s.o,v,s.fx,s.recs⟩) (i:=1) (u:=.int .u32 v) (fun _ _=>rfl) rfl).put (i:=2) (u:=.bool true) (fun _ _=>rfl) rfl,(HK4.out.set 1 _).set 2 _⟩
       · have hvd : decide ((v : Int) ≤ 2147483647) = false:=by simp;omega
         simp only [if_neg hv] at hR
         subst hR
         clear hv
         go_enter Tryz.func39,Tryz.ntmps39
         go_wp2_with (first
          | (go_at_call 71;refine (HT.out _ HM.out).mono ?_;rintro e w1 ⟨rfl,M1,K1⟩;have HM1:=Lib.hid (M1.keep ((Below.refl w1.heap.size w1).alloc (Nat.le_refl _) (.cells #[sv kt,.bool kq,.int .i64 kl,.int .i64 kc] 69)));obtain ⟨A1,p1,c1⟩:=HM1.out.front;have HK1:=Lib.hid (K1.alloc K1.size (.cells #[sv kt,.bool kq,.int .i64 kl,.int .i64 kc] 69));have HX1:=Lib.hid (Has.fresh w1 69 #[sv kt,.bool kq,.int .i64 kl,.int .i64 kc]);have hg1 : w1.heap.size ≠ g:=(by have:=M1.lt;omega);clear M1 K1)
          | (go_at_call 71;refine (HT2.out _ HM1.out).mono ?_;rintro e w2 ⟨rfl,M2,K2⟩;have HX2:=Lib.hid ((K2.has HX1.out HX1.out.lt hg1).alloc (.cells #[sv xt,.bool xq,.int .i64 xl,.int .i64 xc] 69));have HM2:=Lib.hid (M2.keep ((Below.refl w2.heap.size w2).alloc (Nat.le_refl _) (.cells #[sv xt,.bool xq,.int .i64 xl,.int .i64 xc] 69)));have k2:=HK1.out.on K2;have HK2:=Lib.hid (k2.alloc k2.size (.cells #[sv xt,.bool xq,.int .i64 xl,.int .i64 xc] 69));have HY2:=Lib.hid (Has.fresh w2 69 #[sv xt,.bool xq,.int .i64 xl,.int .i64 xc]);have hg2 : w2.heap.size ≠ g:=(by have:=M2.lt;omega);clear M2 K2 k2)
          | (go_at_call 38;refine (HKW.out _).mono ?_;rintro e w3 ⟨rfl,B3⟩;have HM3:=Lib.hid (HM2.out.keep B3);have HX3:=Lib.hid (HX2.out.below B3 HX2.out.lt);have HY3:=Lib.hid (HY2.out.below B3 HY2.out.lt);have HK3:=Lib.hid (HK2.out.onB B3);clear B3)
          | (refine wpList_load_row rfl 69 (.tmp 2) rfl w1.heap.size rfl 69 #[sv kt,.bool kq,.int .i64 kl,.int .i64 kc] (0,0) _ HX2.out Tryz.underlying69 rfl HI.out ?_)
          | (refine wpList_load_row rfl 69 (.tmp 3) rfl w2.heap.size rfl 69 #[sv xt,.bool xq,.int .i64 xl,.int .i64 xc] (0,0) _ HY3.out Tryz.underlying69 rfl HI.out ?_)
          | (go_at_call 73;refine (HNU.out _ HM3.out.ga.lay).mono ?_;rintro e w4 ⟨rfl,B4⟩;have HX4:=Lib.hid (HX3.out.below B4 HX3.out.lt);have HM4:=Lib.hid (HM3.out.keep B4);have HK4:=Lib.hid (HK3.out.onB B4);obtain ⟨d0,d1,d2⟩:=HM4.out.old0;have f0:=HM4.out.free 0;have f1:=HM4.out.free 1;have f2:=HM4.out.free 2;clear B4)
          | (refine wpList_load_row rfl 69 (.tmp 2) rfl w1.heap.size rfl 69 #[sv kt,.bool kq,.int .i64 kl,.int .i64 kc] (0,0) _ ((HX4.out.far (p:=⟨g,1,none⟩) hg1 _).far (p:=⟨g,2,none⟩) hg1 _) Tryz.underlying69 rfl HI.out ?_)
          | (go_at_call 40;refine (HG.out _).mono ?_;rintro e w5 ⟨rfl,BG⟩;exact ⟨rfl,⟨rfl,(((HK4.out.set 1 _).set 2 _).below (Nat.le_of_lt hgw)).trans (BG.mono (by have:=HM4.out.lt;simp;omega))⟩⟩))
    · have hb2 : (kx == ([36,116,116,108] : List UInt8)) = false:=beq_eq_false_iff_ne.2 ht
      simp only [if_neg ht] at hR
      clear ht
      subst hR
      go_enter Tryz.func39,Tryz.ntmps39
      go_wp2_with (first
       | (go_at_call 71;refine (HT.out _ HM.out).mono ?_;rintro e w1 ⟨rfl,M1,K1⟩;have HM1:=Lib.hid (M1.keep ((Below.refl w1.heap.size w1).alloc (Nat.le_refl _) (.cells #[sv kt,.bool kq,.int .i64 kl,.int .i64 kc] 69)));obtain ⟨A1,p1,c1⟩:=HM1.out.front;have HK1:=Lib.hid (K1.alloc K1.size (.cells #[sv kt,.bool kq,.int .i64 kl,.int .i64 kc] 69));have HX1:=Lib.hid (Has.fresh w1 69 #[sv kt,.bool kq,.int .i64 kl,.int .i64 kc]);have hg1 : w1.heap.size ≠ g:=(by have:=M1.lt;omega);clear M1 K1)
       | (go_at_call 71;refine (HT2.out _ HM1.out).mono ?_;rintro e w2 ⟨rfl,M2,K2⟩;have HX2:=Lib.hid ((K2.has HX1.out HX1.out.lt hg1).alloc (.cells #[sv xt,.bool xq,.int .i64 xl,.int .i64 xc] 69));have HM2:=Lib.hid (M2.keep ((Below.refl w2.heap.size w2).alloc (Nat.le_refl _) (.cells #[sv xt,.bool xq,.int .i64 xl,.int .i64 xc] 69)));have k2:=HK1.out.on K2;have HK2:=Lib.hid (k2.alloc k2.size (.cells #[sv xt,.bool xq,.int .i64 xl,.int .i64 xc] 69));have HY2:=Lib.hid (Has.fresh w2 69 #[sv xt,.bool xq,.int .i64 xl,.int .i64 xc]);have hg2 : w2.heap.size ≠ g:=(by have:=M2.lt;omega);clear M2 K2 k2)
       | (go_at_call 38;refine (HKW.out _).mono ?_;rintro e w3 ⟨rfl,B3⟩;have HM3:=Lib.hid (HM2.out.keep B3);have HX3:=Lib.hid (HX2.out.below B3 HX2.out.lt);have HY3:=Lib.hid (HY2.out.below B3 HY2.out.lt);have HK3:=Lib.hid (HK2.out.onB B3);clear B3)
       | (refine wpList_load_row rfl 69 (.tmp 2) rfl w1.heap.size rfl 69 #[sv kt,.bool kq,.int .i64 kl,.int .i64 kc] (0,0) _ HX2.out Tryz.underlying69 rfl HI.out ?_)
       | (refine wpList_load_row rfl 69 (.tmp 3) rfl w2.heap.size rfl 69 #[sv xt,.bool xq,.int .i64 xl,.int .i64 xc] (0,0) _ HY3.out Tryz.underlying69 rfl HI.out ?_)
       | (refine wpList_load_row rfl 69 (.tmp 2) rfl w1.heap.size rfl 69 #[sv kt,.bool kq,.int .i64 kl,.int .i64 kc] (0,0) _ HX3.out Tryz.underlying69 rfl HI.out ?_)
       | (go_at_call 40;refine (HG.out _).mono ?_;rintro e w5 ⟨rfl,BG⟩;exact ⟨rfl,⟨rfl,(HK3.out.below (Nat.le_of_lt hgw)).trans (BG.mono (Nat.le_of_lt HM3.out.lt))⟩⟩))
end
end Go.Proofs.YtekafhogiambaaaGreatDoor
