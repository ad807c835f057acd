/- Texts of the proofs, merged. -/
import Derived.Test.YtekafhogiambaaaGreatDoorZc12
import Derived.WalkKit
import Derived.Laws.Bits64b
import Derived.Test.YtekafhogiambaaaGreatDoorZc3
import Derived.Test.YtekafhogiambaaaGreatDoorZc2
import Derived.Test.YtekafhogiambaaaGreatDoorZc4
import Derived.Lib.ConvBytes
import Derived.Test.YtekafhogiambaaaGreatDoorZc7
set_option maxRecDepth 100000
namespace Go.Proofs.YtekafhogiambaaaGreatDoor
open Go.RowKit
def mlen (w : World) (g : Nat) : Nat:=match w.cell? ⟨g,8,none⟩ with
 | some (.slice _ n _)=>n
 | _=>0
theorem MM.mlen {g : Nat} {hi : Nat × Nat} {s : Ma.S} {f : Tk.Wd} {ws : List Tk.Wd} {w : World} (h : MM w g hi s f ws) : mlen w g = ws.length:=by
 obtain ⟨vr,vw,h1,⟨A,c,rfl,_⟩⟩:=h.wp
 unfold Proofs.YtekafhogiambaaaGreatDoor.mlen
 rw [h1.cell]
 rfl
def TcP (w : World) (g : Nat) (hi : Nat × Nat) (s : Ma.S) (f : Tk.Wd) (R : Ma.Ans (Nat × Nat × List Tk.Wd)) (e : Ending) (w' : World) : Prop:=match R with
 | .ok (h,t,ws)=>e = .returned (.int .u32 t) ∧ MM w' g hi { s with ttl:=h } f ws ∧ Kb g w.heap.size w w'
 | .error x=>Fell w g x e w'
theorem num_le {x : Tk.Wd} {v : Nat} (h : Ma.num x = some v) : v ≤ 4294967295:=by
 unfold Ma.num at h
 split at h
 · cases h
 · exact Rd.num_le h
section
variable {g : Nat} {hi : Nat × Nat} {s : Ma.S} {f : Tk.Wd} {ws : List Tk.Wd} {w : World}
set_option linter.unusedSimpArgs false in
set_option maxHeartbeats 8000000 in
theorem maTc_any (h : MM w g hi s f ws) :
 Calls Tryz.prog 75 #[.pointer (some ⟨g,0,none⟩)] w fun e w' => TcP w g hi s f (Ma.tc s.fx ws s.ttl s.ttl false false) e w':=by
 obtain ⟨o,ttl,fx,recs⟩:=s
 obtain ⟨R,hR⟩ : ∃ R,Ma.tc fx ws ttl ttl false false = R:=⟨_,rfl⟩
 have hi4 : (Tryz.prog.info? 69).map (·.size) = some 4:=by kernel_rfl
 have HI:=Lib.hid hi4
 obtain ⟨vr,vw,hh⟩:=h.has
 have c1 : w.cell? ⟨g,1,none⟩ = some (.int .u32 ttl):=by rw [hh.cell];rfl
 have hgw:=h.lt
 have HM:=Lib.hid h
 have HR:=Lib.hid hR
 have HPO : Hid (∀ e w',TcP w g hi ⟨o,ttl,fx,recs⟩ f R e w' → TcP w g hi ⟨o,ttl,fx,recs⟩ f (Ma.tc fx ws ttl ttl false false) e w'):=fun e w' h=>by rw [hR];exact h
 clear h hR hi4 hh
 show Calls _ _ _ _ fun e w' => TcP w g hi ⟨o,ttl,fx,recs⟩ f (Ma.tc fx ws ttl ttl false false) e w'
 rw [HR.out]
 clear HPO
 go_enter Tryz.func75,Tryz.ntmps75
 go_wp2
 go_loopw [3,4,5] (fun a b c wr => ∃ (hl t : Nat) (bt bc : Bool) (us : List Tk.Wd),a = .int .u32 t ∧ b = .bool bt ∧ c = .bool bc ∧ Hid (Ma.tc fx us hl t bt bc = R) ∧ Hid (MM wr g hi ⟨o,hl,fx,recs⟩ f us) ∧ Hid (Kb g w.heap.size w wr)) (fun _ _ _ wr=>mlen wr g)
 case atStart=>exact ⟨ttl,ttl,false,false,ws,rfl,rfl,rfl,HR.out,HM.out,Kb.refl _ _ _⟩
 case round =>
  obtain ⟨hl,t,bt,bc,us,rfl,rfl,rfl,HR,HM,HK⟩:=hrel
  obtain ⟨vr,vw,hh,hw⟩:=HM.out.wp
  obtain ⟨wq,hwq⟩ : ∃ x,x = wr:=⟨_,rfl⟩
  subst hwq
  cases us with
  | nil =>
   obtain ⟨A,c,rfl,_⟩:=hw
   have c8 : wq.cell? ⟨g,8,none⟩ = some (.slice A 0 c):=by rw [hh.cell];rfl
   have hr:=HR.out
   rw [Ma.tc] at hr
   subst hr
   clear hh
   go_wp2
   go_ret
   exact ⟨rfl,HM.out,HK.out⟩
  | cons x rs =>
   obtain ⟨q,p,cp,rfl,hc,hm,hq,hr,h4,hxl⟩:=hw.head
   have c8 : wq.cell? ⟨g,8,none⟩ = some (.slice (some ⟨q,p,none⟩) (rs.length + 1) cp):=by rw [hh.cell];rfl
   have hlen : (0 : Int) < (rs.length : Int) + 1:=by omega
   have HL:=Lib.hid HM.out.mlen
   have HRG:=Lib.hid hr
   obtain ⟨nx,hnx⟩ : ∃ n,Ma.num x = n:=⟨_,rfl⟩
   obtain ⟨cx,hcx⟩ : ∃ n,Ma.isClass x = n:=⟨_,rfl⟩
   obtain ⟨kx,hkx⟩ : ∃ n,Ma.kw x = n:=⟨_,rfl⟩
   have HN:=Lib.hid (fun (W : World) (hL : Lay W)=>maNumber_any x W hL hxl)
   have HC:=Lib.hid (fun (W : World)=>maClass_any x W hxl)
   have HW:=Lib.hid (fun (W : World)=>keyword_any x W hxl)
   have HG:=Lib.hid (fun (W : World)=>maGiveUp_any x 92 W)
   have HT:=Lib.hid (fun (W : World) (v : Nat) (hM : MM W g hi ⟨o,hl,fx,recs⟩ f (x :: rs))=>maTell_any hM x v)
   have HTK:=Lib.hid (fun (W : World) (k : Nat) (hM : MM W g hi ⟨o,k,fx,recs⟩ f (x :: rs))=>maTake_any hM)
   rw [hnx] at HN
   rw [hcx] at HC
   rw [hkx] at HW
   have hr2:=HR.out
   rw [Ma.tc,hnx,hcx,hkx] at hr2
   obtain ⟨xt,xq,xl,xc⟩:=x
   have hmb:=HM.out.keep ((Below.refl wq.heap.size wq).alloc (Nat.le_refl _) (.cells #[sv xt,.bool xq,.int .i64 xl,.int .i64 xc] 69))
   have HMb:=Lib.hid hmb
   have HKb : Hid (Kb g w.heap.size w (wq.alloc (.cells #[sv xt,.bool xq,.int .i64 xl,.int .i64 xc] 69))):=HK.out.alloc HK.out.size _
   have HX:=Lib.hid (Has.fresh wq 69 #[sv xt,.bool xq,.int .i64 xl,.int .i64 xc])
   have HLT:=Lib.hid HM.out.lt
   have hgq : g ≠ wq.heap.size:=by have:=HM.out.lt;omega
   have HGQ:=Lib.hid hgq
   clear hnx hcx hkx hxl hh hr h4 hmb hw hgq
   cases nx with
   | none =>
    replace HN : Hid (∀ (W : World),Lay W → Calls Tryz.prog 73 #[.agg #[sv xt,.bool xq,.int .i64 xl,.int .i64 xc]] W fun e w' => e = .returned (.tuple #[.int .u32 0,.bool false]) ∧ Below W.heap.size W w'):=HN
    cases cx with
    | false =>
     simp only [Option.isSome,Option.getD,Bool.false_eq_true,false_and,if_false,true_and,and_false,and_true,if_true,and_self,reduceCtorEq,reduceIte] at hr2
     subst hr2
     go_wp2_with (first
      | (go_at_call 73;refine (HN.out _ HMb.out.ga.lay).mono ?_;rintro e w1 ⟨rfl,B1⟩;have HM1:=Lib.hid (HMb.out.keep B1);have HX1:=Lib.hid (HX.out.below B1 HX.out.lt);have HK1:=Lib.hid (HKb.out.onB B1);clear B1)
      | (go_at_call 93;refine (HC.out _).mono ?_;rintro e w2 ⟨rfl,B2⟩;have HM2:=Lib.hid (HM1.out.keep B2);have HX2:=Lib.hid (HX1.out.below B2 HX1.out.lt);have HK2:=Lib.hid (HK1.out.onB B2);clear B2)
      | (refine wpList_load_mid rfl 69 (.tmp 23) rfl q _ rfl [sv xt,.bool xq,.int .i64 xl,.int .i64 xc] _ HRG.out Tryz.underlying69 rfl HI.out ?_)
      | (refine wpList_load_row rfl 69 (.tmp 6) rfl wq.heap.size rfl 69 #[sv xt,.bool xq,.int .i64 xl,.int .i64 xc] (0,0) _ HX1.out Tryz.underlying69 rfl HI.out ?_)
      | (refine wpList_load_row rfl 69 (.tmp 6) rfl wq.heap.size rfl 69 #[sv xt,.bool xq,.int .i64 xl,.int .i64 xc] (0,0) _ HX2.out Tryz.underlying69 rfl HI.out ?_))
     go_ret
     exact ⟨rfl,HM2.out,HK2.out⟩
    | true =>
     cases bc with
     | true =>
      simp only [Option.isSome,Option.getD,Bool.false_eq_true,false_and,if_false,true_and,and_false,and_true,if_true,and_self,reduceCtorEq,reduceIte] at hr2
      subst hr2
      go_wp2_with (first
       | (go_at_call 73;refine (HN.out _ HMb.out.ga.lay).mono ?_;rintro e w1 ⟨rfl,B1⟩;have HM1:=Lib.hid (HMb.out.keep B1);have HX1:=Lib.hid (HX.out.below B1 HX.out.lt);have HK1:=Lib.hid (HKb.out.onB B1);clear B1)
       | (go_at_call 93;refine (HC.out _).mono ?_;rintro e w2 ⟨rfl,B2⟩;have HM2:=Lib.hid (HM1.out.keep B2);have HX2:=Lib.hid (HX1.out.below B2 HX1.out.lt);have HK2:=Lib.hid (HK1.out.onB B2);clear B2)
       | (refine wpList_load_mid rfl 69 (.tmp 23) rfl q _ rfl [sv xt,.bool xq,.int .i64 xl,.int .i64 xc] _ HRG.out Tryz.underlying69 rfl HI.out ?_)
       | (refine wpList_load_row rfl 69 (.tmp 6) rfl wq.heap.size rfl 69 #[sv xt,.bool xq,.int .i64 xl,.int .i64 xc] (0,0) _ HX1.out Tryz.underlying69 rfl HI.out ?_)
       | (refine wpList_load_row rfl 69 (.tmp 6) rfl wq.heap.size rfl 69 #[sv xt,.bool xq,.int .i64 xl,.int .i64 xc] (0,0) _ HX2.out Tryz.underlying69 rfl HI.out ?_))
      go_ret
      exact ⟨rfl,HM2.out,HK2.out⟩
     | false =>
      simp only [Option.isSome,Option.getD,Bool.false_eq_true,false_and,if_false,true_and,and_false,and_true,if_true,and_self,reduceCtorEq,reduceIte] at hr2
      by_cases hin : kx = [105,110]
      · have hb : (kx != ([105,110] : List UInt8)) = false:=by rw [hin];rfl
        have hb2 : (kx == ([105,110] : List UInt8)) = true:=by rw [hin];rfl
        rw [if_pos hin] at hr2
        have HR2:=Lib.hid hr2
        clear hr2 hin
        go_wp2_with (first
         | (go_at_call 73;refine (HN.out _ HMb.out.ga.lay).mono ?_;rintro e w1 ⟨rfl,B1⟩;have HM1:=Lib.hid (HMb.out.keep B1);have HX1:=Lib.hid (HX.out.below B1 HX.out.lt);have HK1:=Lib.hid (HKb.out.onB B1);clear B1)
         | (go_at_call 93;refine (HC.out _).mono ?_;rintro e w2 ⟨rfl,B2⟩;have HM2:=Lib.hid (HM1.out.keep B2);have HX2:=Lib.hid (HX1.out.below B2 HX1.out.lt);have HK2:=Lib.hid (HK1.out.onB B2);clear B2)
         | (go_at_call 38;refine (HW.out _).mono ?_;rintro e w3 ⟨rfl,B3⟩;have HM3:=Lib.hid (HM2.out.keep B3);have HX3:=Lib.hid (HX2.out.below B3 HX2.out.lt);have HK3:=Lib.hid (HK2.out.onB B3);clear B3)
         | (go_at_call 71;refine (HTK.out _ _ HM3.out).mono ?_;rintro e w4 ⟨rfl,M4,K4⟩;have HM4:=Lib.hid M4;have HK4:=Lib.hid (HK3.out.on K4);clear M4 K4)
         | (refine wpList_load_mid rfl 69 (.tmp 23) rfl q _ rfl [sv xt,.bool xq,.int .i64 xl,.int .i64 xc] _ HRG.out Tryz.underlying69 rfl HI.out ?_)
         | (refine wpList_load_row rfl 69 (.tmp 6) rfl wq.heap.size rfl 69 #[sv xt,.bool xq,.int .i64 xl,.int .i64 xc] (0,0) _ HX1.out Tryz.underlying69 rfl HI.out ?_)
         | (refine wpList_load_row rfl 69 (.tmp 6) rfl wq.heap.size rfl 69 #[sv xt,.bool xq,.int .i64 xl,.int .i64 xc] (0,0) _ HX2.out Tryz.underlying69 rfl HI.out ?_)
         | (refine wpList_load_row rfl 69 (.tmp 6) rfl wq.heap.size rfl 69 #[sv xt,.bool xq,.int .i64 xl,.int .i64 xc] (0,0) _ HX3.out Tryz.underlying69 rfl HI.out ?_))
        exact ⟨⟨hl,t,bt,true,rs,rfl,rfl,rfl,HR2.out,HM4.out,HK4.out⟩,by rw [HM4.out.mlen,HL.out];simp⟩
      · have hb : (kx != ([105,110] : List UInt8)) = true:=bne_iff_ne.2 hin
        have hb2 : (kx == ([105,110] : List UInt8)) = false:=beq_eq_false_iff_ne.2 hin
        rw [if_neg hin] at hr2
        subst hr2
        clear hin
        go_wp2_with (first
         | (go_at_call 73;refine (HN.out _ HMb.out.ga.lay).mono ?_;rintro e w1 ⟨rfl,B1⟩;have HM1:=Lib.hid (HMb.out.keep B1);have HX1:=Lib.hid (HX.out.below B1 HX.out.lt);have HK1:=Lib.hid (HKb.out.onB B1);clear B1)
         | (go_at_call 93;refine (HC.out _).mono ?_;rintro e w2 ⟨rfl,B2⟩;have HM2:=Lib.hid (HM1.out.keep B2);have HX2:=Lib.hid (HX1.out.below B2 HX1.out.lt);have HK2:=Lib.hid (HK1.out.onB B2);clear B2)
         | (go_at_call 38;refine (HW.out _).mono ?_;rintro e w3 ⟨rfl,B3⟩;have HM3:=Lib.hid (HM2.out.keep B3);have HX3:=Lib.hid (HX2.out.below B3 HX2.out.lt);have HK3:=Lib.hid (HK2.out.onB B3);clear B3)
         | (go_at_call 40;refine (HG.out _).mono ?_;rintro e w4 ⟨rfl,B4⟩;exact ⟨rfl,⟨rfl,(HK3.out.below (Nat.le_of_lt hgw)).trans (B4.mono (Nat.le_of_lt HM3.out.lt))⟩⟩)
         | (refine wpList_load_mid rfl 69 (.tmp 23) rfl q _ rfl [sv xt,.bool xq,.int .i64 xl,.int .i64 xc] _ HRG.out Tryz.underlying69 rfl HI.out ?_)
         | (refine wpList_load_row rfl 69 (.tmp 6) rfl wq.heap.size rfl 69 #[sv xt,.bool xq,.int .i64 xl,.int .i64 xc] (0,0) _ HX1.out Tryz.underlying69 rfl HI.out ?_)
         | (refine wpList_load_row rfl 69 (.tmp 6) rfl wq.heap.size rfl 69 #[sv xt,.bool xq,.int .i64 xl,.int .i64 xc] (0,0) _ HX2.out Tryz.underlying69 rfl HI.out ?_)
         | (refine wpList_load_row rfl 69 (.tmp 6) rfl wq.heap.size rfl 69 #[sv xt,.bool xq,.int .i64 xl,.int .i64 xc] (0,0) _ HX3.out Tryz.underlying69 rfl HI.out ?_))
   | some v =>
    replace HN : Hid (∀ (W : World),Lay W → Calls Tryz.prog 73 #[.agg #[sv xt,.bool xq,.int .i64 xl,.int .i64 xc]] W fun e w' => e = .returned (.tuple #[.int .u32 v,.bool true]) ∧ Below W.heap.size W w'):=HN
    cases bt with
    | true =>
     cases cx with
     | false =>
      simp only [Option.isSome,Option.getD,Bool.false_eq_true,false_and,if_false,true_and,and_false,and_true,if_true,and_self,reduceCtorEq,reduceIte] at hr2
      subst hr2
      go_wp2_with (first
       | (go_at_call 73;refine (HN.out _ HMb.out.ga.lay).mono ?_;rintro e w1 ⟨rfl,B1⟩;have HM1:=Lib.hid (HMb.out.keep B1);have HX1:=Lib.hid (HX.out.below B1 HX.out.lt);have HK1:=Lib.hid (HKb.out.onB B1);clear B1)
       | (go_at_call 93;refine (HC.out _).mono ?_;rintro e w2 ⟨rfl,B2⟩;have HM2:=Lib.hid (HM1.out.keep B2);have HX2:=Lib.hid (HX1.out.below B2 HX1.out.lt);have HK2:=Lib.hid (HK1.out.onB B2);clear B2)
       | (refine wpList_load_mid rfl 69 (.tmp 23) rfl q _ rfl [sv xt,.bool xq,.int .i64 xl,.int .i64 xc] _ HRG.out Tryz.underlying69 rfl HI.out ?_)
       | (refine wpList_load_row rfl 69 (.tmp 6) rfl wq.heap.size rfl 69 #[sv xt,.bool xq,.int .i64 xl,.int .i64 xc] (0,0) _ HX1.out Tryz.underlying69 rfl HI.out ?_)
       | (refine wpList_load_row rfl 69 (.tmp 6) rfl wq.heap.size rfl 69 #[sv xt,.bool xq,.int .i64 xl,.int .i64 xc] (0,0) _ HX2.out Tryz.underlying69 rfl HI.out ?_))
      go_ret
      exact ⟨rfl,HM2.out,HK2.out⟩
     | true =>
      cases bc with
      | true =>
       simp only [Option.isSome,Option.getD,Bool.false_eq_true,false_and,if_false,true_and,and_false,and_true,if_true,and_self,reduceCtorEq,reduceIte] at hr2
       subst hr2
       go_wp2_with (first
        | (go_at_call 73;refine (HN.out _ HMb.out.ga.lay).mono ?_;rintro e w1 ⟨rfl,B1⟩;have HM1:=Lib.hid (HMb.out.keep B1);have HX1:=Lib.hid (HX.out.below B1 HX.out.lt);have HK1:=Lib.hid (HKb.out.onB B1);clear B1)
        | (go_at_call 93;refine (HC.out _).mono ?_;rintro e w2 ⟨rfl,B2⟩;have HM2:=Lib.hid (HM1.out.keep B2);have HX2:=Lib.hid (HX1.out.below B2 HX1.out.lt);have HK2:=Lib.hid (HK1.out.onB B2);clear B2)
        | (refine wpList_load_mid rfl 69 (.tmp 23) rfl q _ rfl [sv xt,.bool xq,.int .i64 xl,.int .i64 xc] _ HRG.out Tryz.underlying69 rfl HI.out ?_)
        | (refine wpList_load_row rfl 69 (.tmp 6) rfl wq.heap.size rfl 69 #[sv xt,.bool xq,.int .i64 xl,.int .i64 xc] (0,0) _ HX1.out Tryz.underlying69 rfl HI.out ?_)
        | (refine wpList_load_row rfl 69 (.tmp 6) rfl wq.heap.size rfl 69 #[sv xt,.bool xq,.int .i64 xl,.int .i64 xc] (0,0) _ HX2.out Tryz.underlying69 rfl HI.out ?_))
       go_ret
       exact ⟨rfl,HM2.out,HK2.out⟩
      | false =>
       simp only [Option.isSome,Option.getD,Bool.false_eq_true,false_and,if_false,true_and,and_false,and_true,if_true,and_self,reduceCtorEq,reduceIte] at hr2
       by_cases hin : kx = [105,110]
       · have hb : (kx != ([105,110] : List UInt8)) = false:=by rw [hin];rfl
         have hb2 : (kx == ([105,110] : List UInt8)) = true:=by rw [hin];rfl
         rw [if_pos hin] at hr2
         have HR2:=Lib.hid hr2
         clear hr2 hin
         go_wp2_with (first
          | (go_at_call 73;refine (HN.out _ HMb.out.ga.lay).mono ?_;rintro e w1 ⟨rfl,B1⟩;have HM1:=Lib.hid (HMb.out.keep B1);have HX1:=Lib.hid (HX.out.below B1 HX.out.lt);have HK1:=Lib.hid (HKb.out.onB B1);clear B1)
          | (go_at_call 93;refine (HC.out _).mono ?_;rintro e w2 ⟨rfl,B2⟩;have HM2:=Lib.hid (HM1.out.keep B2);have HX2:=Lib.hid (HX1.out.below B2 HX1.out.lt);have HK2:=Lib.hid (HK1.out.onB B2);clear B2)
          | (go_at_call 38;refine (HW.out _).mono ?_;rintro e w3 ⟨rfl,B3⟩;have HM3:=Lib.hid (HM2.out.keep B3);have HX3:=Lib.hid (HX2.out.below B3 HX2.out.lt);have HK3:=Lib.hid (HK2.out.onB B3);clear B3)
          | (go_at_call 71;refine (HTK.out _ _ HM3.out).mono ?_;rintro e w4 ⟨rfl,M4,K4⟩;have HM4:=Lib.hid M4;have HK4:=Lib.hid (HK3.out.on K4);clear M4 K4)
          | (refine wpList_load_mid rfl 69 (.tmp 23) rfl q _ rfl [sv xt,.bool xq,.int .i64 xl,.int .i64 xc] _ HRG.out Tryz.underlying69 rfl HI.out ?_)
          | (refine wpList_load_row rfl 69 (.tmp 6) rfl wq.heap.size rfl 69 #[sv xt,.bool xq,.int .i64 xl,.int .i64 xc] (0,0) _ HX1.out Tryz.underlying69 rfl HI.out ?_)
          | (refine wpList_load_row rfl 69 (.tmp 6) rfl wq.heap.size rfl 69 #[sv xt,.bool xq,.int .i64 xl,.int .i64 xc] (0,0) _ HX2.out Tryz.underlying69 rfl HI.out ?_)
          | (refine wpList_load_row rfl 69 (.tmp 6) rfl wq.heap.size rfl 69 #[sv xt,.bool xq,.int .i64 xl,.int .i64 xc] (0,0) _ HX3.out Tryz.underlying69 rfl HI.out ?_))
         exact ⟨⟨hl,t,true,true,rs,rfl,rfl,rfl,HR2.out,HM4.out,HK4.out⟩,by rw [HM4.out.mlen,HL.out];simp⟩
       · have hb : (kx != ([105,110] : List UInt8)) = true:=bne_iff_ne.2 hin
         have hb2 : (kx == ([105,110] : List UInt8)) = false:=beq_eq_false_iff_ne.2 hin
         rw [if_neg hin] at hr2
         subst hr2
         clear hin
         go_wp2_with (first
          | (go_at_call 73;refine (HN.out _ HMb.out.ga.lay).mono ?_;rintro e w1 ⟨rfl,B1⟩;have HM1:=Lib.hid (HMb.out.keep B1);have HX1:=Lib.hid (HX.out.below B1 HX.out.lt);have HK1:=Lib.hid (HKb.out.onB B1);clear B1)
          | (go_at_call 93;refine (HC.out _).mono ?_;rintro e w2 ⟨rfl,B2⟩;have HM2:=Lib.hid (HM1.out.keep B2);have HX2:=Lib.hid (HX1.out.below B2 HX1.out.lt);have HK2:=Lib.hid (HK1.out.onB B2);clear B2)
          | (go_at_call 38;refine (HW.out _).mono ?_;rintro e w3 ⟨rfl,B3⟩;have HM3:=Lib.hid (HM2.out.keep B3);have HX3:=Lib.hid (HX2.out.below B3 HX2.out.lt);have HK3:=Lib.hid (HK2.out.onB B3);clear B3)
          | (go_at_call 40;refine (HG.out _).mono ?_;rintro e w4 ⟨rfl,B4⟩;exact ⟨rfl,⟨rfl,(HK3.out.below (Nat.le_of_lt hgw)).trans (B4.mono (Nat.le_of_lt HM3.out.lt))⟩⟩)
          | (refine wpList_load_mid rfl 69 (.tmp 23) rfl q _ rfl [sv xt,.bool xq,.int .i64 xl,.int .i64 xc] _ HRG.out Tryz.underlying69 rfl HI.out ?_)
          | (refine wpList_load_row rfl 69 (.tmp 6) rfl wq.heap.size rfl 69 #[sv xt,.bool xq,.int .i64 xl,.int .i64 xc] (0,0) _ HX1.out Tryz.underlying69 rfl HI.out ?_)
          | (refine wpList_load_row rfl 69 (.tmp 6) rfl wq.heap.size rfl 69 #[sv xt,.bool xq,.int .i64 xl,.int .i64 xc] (0,0) _ HX2.out Tryz.underlying69 rfl HI.out ?_)
          | (refine wpList_load_row rfl 69 (.tmp 6) rfl wq.heap.size rfl 69 #[sv xt,.bool xq,.int .i64 xl,.int .i64 xc] (0,0) _ HX3.out Tryz.underlying69 rfl HI.out ?_))
    | false =>
     simp only [Option.isSome,Option.getD,Bool.false_eq_true,false_and,if_false,true_and,and_false,and_true,if_true,and_self,reduceCtorEq,reduceIte] at hr2
     by_cases hv : v ≤ 2147483647
     · rw [if_pos hv] at hr2
       have HR2:=Lib.hid hr2
       have HT2:=Lib.hid (fun (W : World) (hM : MM W g hi ⟨o,hl,fx,recs⟩ f (⟨xt,xq,xl,xc⟩ :: rs))=>by have:=HT.out W v hM;simp only [if_neg (show ¬ 2147483647 < v by omega)] at this;exact this)
       clear hr2 HT
       go_wp2_with (first
        | (go_at_call 73;refine (HN.out _ HMb.out.ga.lay).mono ?_;rintro e w1 ⟨rfl,B1⟩;have HM1:=Lib.hid (HMb.out.keep B1);have HX1:=Lib.hid (HX.out.below B1 HX.out.lt);have HK1:=Lib.hid (HKb.out.onB B1);clear B1)
        | (go_at_call 92;refine (HT2.out _ HM1.out).mono ?_;rintro e w2 ⟨rfl,M2,K2⟩;have HM2:=Lib.hid M2;have HX2:=Lib.hid (K2.has HX1.out HX1.out.lt (fun e=>HGQ.out e.symm));have HK2:=Lib.hid (HK1.out.on K2);clear M2 K2)
        | (go_at_call 71;refine (HTK.out _ _ HM2.out).mono ?_;rintro e w4 ⟨rfl,M4,K4⟩;have HM4:=Lib.hid M4;have HK4:=Lib.hid (HK2.out.on K4);clear M4 K4)
        | (refine wpList_load_mid rfl 69 (.tmp 23) rfl q _ rfl [sv xt,.bool xq,.int .i64 xl,.int .i64 xc] _ HRG.out Tryz.underlying69 rfl HI.out ?_)
        | (refine wpList_load_row rfl 69 (.tmp 6) rfl wq.heap.size rfl 69 #[sv xt,.bool xq,.int .i64 xl,.int .i64 xc] (0,0) _ HX1.out Tryz.underlying69 rfl HI.out ?_)
        | (refine wpList_load_row rfl 69 (.tmp 6) rfl wq.heap.size rfl 69 #[sv xt,.bool xq,.int .i64 xl,.int .i64 xc] (0,0) _ HX2.out Tryz.underlying69 rfl HI.out ?_))
       exact ⟨⟨_,v,true,bc,rs,rfl,rfl,rfl,HR2.out,HM4.out,HK4.out⟩,by rw [HM4.out.mlen,HL.out];simp⟩
     · rw [if_neg hv] at hr2
       subst hr2
       have HT2:=Lib.hid (fun (W : World) (hM : MM W g hi ⟨o,hl,fx,recs⟩ f (⟨xt,xq,xl,xc⟩ :: rs))=>by have:=HT.out W v hM;simp only [if_pos (show 2147483647 < v by omega)] at this;exact this)
       clear HT hv
       go_wp2_with (first
        | (go_at_call 73;refine (HN.out _ HMb.out.ga.lay).mono ?_;rintro e w1 ⟨rfl,B1⟩;have HM1:=Lib.hid (HMb.out.keep B1);have HX1:=Lib.hid (HX.out.below B1 HX.out.lt);have HK1:=Lib.hid (HKb.out.onB B1);clear B1)
        | (go_at_call 92;refine (HT2.out _ HM1.out).mono ?_;rintro e w2 ⟨rfl,B2⟩;exact ⟨rfl,⟨rfl,(HK1.out.below (Nat.le_of_lt hgw)).trans (B2.mono (Nat.le_of_lt HM1.out.lt))⟩⟩)
        | (refine wpList_load_mid rfl 69 (.tmp 23) rfl q _ rfl [sv xt,.bool xq,.int .i64 xl,.int .i64 xc] _ HRG.out Tryz.underlying69 rfl HI.out ?_)
        | (refine wpList_load_row rfl 69 (.tmp 6) rfl wq.heap.size rfl 69 #[sv xt,.bool xq,.int .i64 xl,.int .i64 xc] (0,0) _ HX1.out Tryz.underlying69 rfl HI.out ?_))
end
end Go.Proofs.YtekafhogiambaaaGreatDoor
namespace Go.Proofs.YtekafhogiambaaaGreatDoor
open Go.RowKit
theorem ofInt_nat (n : Nat) : BitVec.ofInt 32 (n : Int) = BitVec.ofNat 32 n:=by
 apply BitVec.eq_of_toNat_eq
 simp
theorem wrap_u32 (n : Nat) (h : n < 4294967296) : IntKind.u32.wrap (n : Int) = n:=by
 have:=IntWalk.u32_in (n : Int) (by omega)
 exact this
theorem or32 (a b : Nat) (ha : a < 16777216) (hb : b < 256) : bits .or .u32 ((a : Int) * 256) (b : Int) = ((a * 256 + b : Nat) : Int):=by
 have e : ((a : Int) * 256) = ((a * 256 : Nat) : Int):=by omega
 unfold bits
 rw [e]
 show IntKind.u32.wrap (((BitVec.ofInt 32 ((a * 256 : Nat) : Int)) ||| (BitVec.ofInt 32 (b : Int))).toNat : Int) = _
 rw [ofInt_nat,ofInt_nat,BitVec.toNat_or,BitVec.toNat_ofNat,BitVec.toNat_ofNat,Nat.mod_eq_of_lt (by omega),Nat.mod_eq_of_lt (by omega)]
 have h:=Nat.shiftLeft_add_eq_or_of_lt (i:=8) (b:=b) (by omega) a
 rw [Nat.shiftLeft_eq] at h
 have h2 : a * 256 ||| b = a * 256 + b:=h.symm
 rw [h2]
 exact wrap_u32 _ (by omega)
theorem or32_0 (b : Nat) (hb : b < 256) : bits .or .u32 0 (b : Int) = (b : Int):=by
 have:=or32 0 b (by omega) hb
 simpa using this
end Go.Proofs.YtekafhogiambaaaGreatDoor
namespace Go.Proofs.YtekafhogiambaaaGreatDoor
open Go.RowKit
theorem tight_any (A : Option Addr) (n c : Nat) (w : World) (hc : n ≤ c) :
 Calls Tryz.prog 161 #[.slice A n c] w fun e w' => e = .returned (.slice A n n) ∧ w = w':=by
 go_enter Tryz.func161,Tryz.ntmps161
 go_wp2
 go_ret
 exact ⟨rfl,rfl⟩
theorem u8v {x : Int} {n : Nat} (h : x = ((n % 256 : Nat) : Int)) : Value.int .u8 x = .int .u8 ((UInt8.ofNat n).toNat : Int):=by rw [h];simp
theorem bv_beb1 (v : Nat) {a : Int} (ha : a = ((v % 256 : Nat) : Int)) : [Value.int .u8 a] = bv (Oc.beb 1 v):=by
 rw [u8v ha];simp [bv,Oc.beb]
theorem bv_beb2 (v : Nat) {a b : Int} (ha : a = ((v / 256 % 256 : Nat) : Int)) (hb : b = ((v % 256 : Nat) : Int)) : [Value.int .u8 a,Value.int .u8 b] = bv (Oc.beb 2 v):=by
 rw [u8v ha,u8v hb];simp [bv,Oc.beb]
set_option maxHeartbeats 400000 in
theorem len_u8 (w : World) : Calls Tryz.prog 130 #[.int .u32 255] w fun e w' => e = .returned (.int .i64 8) ∧ w = w':=by
 go_enter Tryz.func130,Tryz.ntmps130
 go_wp2
 go_ret
 refine ⟨?_,rfl⟩
 kernel_rfl
theorem width_u8 (w : World) : Calls Tryz.prog 151 #[] w fun e w' => e = .returned (.int .i64 1) ∧ w = w':=by
 go_enter Tryz.func151,Tryz.ntmps151
 go_wp2_with (go_at_call 130;refine (len_u8 _).mono ?_;rintro e w' ⟨rfl,rfl⟩)
 go_ret
 exact ⟨rfl,rfl⟩
set_option maxHeartbeats 400000 in
theorem len_u16 (w : World) : Calls Tryz.prog 130 #[.int .u32 65535] w fun e w' => e = .returned (.int .i64 16) ∧ w = w':=by
 go_enter Tryz.func130,Tryz.ntmps130
 go_wp2
 go_ret
 refine ⟨?_,rfl⟩
 kernel_rfl
theorem width_u16 (w : World) : Calls Tryz.prog 102 #[] w fun e w' => e = .returned (.int .i64 2) ∧ w = w':=by
 go_enter Tryz.func102,Tryz.ntmps102
 go_wp2_with (go_at_call 130;refine (len_u16 _).mono ?_;rintro e w' ⟨rfl,rfl⟩)
 go_ret
 exact ⟨rfl,rfl⟩
set_option maxHeartbeats 400000 in
theorem len_u32 (w : World) : Calls Tryz.prog 130 #[.int .u32 4294967295] w fun e w' => e = .returned (.int .i64 32) ∧ w = w':=by
 go_enter Tryz.func130,Tryz.ntmps130
 go_wp2
 go_ret
 refine ⟨?_,rfl⟩
 kernel_rfl
theorem width_u32 (w : World) : Calls Tryz.prog 164 #[] w fun e w' => e = .returned (.int .i64 4) ∧ w = w':=by
 go_enter Tryz.func164,Tryz.ntmps164
 go_wp2_with (go_at_call 130;refine (len_u32 _).mono ?_;rintro e w' ⟨rfl,rfl⟩)
 go_ret
 exact ⟨rfl,rfl⟩
set_option maxHeartbeats 400000 in
theorem put_u8 (A : Option Addr) (l : List UInt8) (c v : Nat) (w : World) (hc : l.length ≤ c) (hm : l.length ≤ 140737488355300) (hv : v < 256) (lo : Nat) (hr : Bs w lo w.heap.size A l) :
 Calls Tryz.prog 162 #[.slice A l.length c,.int .u8 v] w fun e w' => ∃ g cp,e = .returned (.slice (some ⟨g,0,none⟩) (l.length + 1) (l.length + 1)) ∧ w'.ownsRow w.heap.size 5 1 (.slice (some ⟨g,0,none⟩) (l.length + 1) cp) (l.length + 1) (bv (l ++ Oc.beb 1 v)) ∧ Below w.heap.size w w':=by
 obtain ⟨i0,hi,hz0,hz1,hz2⟩:=info_parts Tryz.infoByte
 have HR:=Lib.hid hr
 clear hr
 go_enter Tryz.func162,Tryz.ntmps162
 go_wp2_with (first
  | (go_at_call 161;refine (tight_any _ _ _ _ hc).mono ?_;rintro e w' ⟨rfl,rfl⟩)
  | (go_at_call 151;refine (width_u8 _).mono ?_;rintro e w' ⟨rfl,rfl⟩))
 refine wp_loop_rounds 2 ?_
 rw [rounds_succ]
 go_wp2_with (at_builtin;refine wpList_append_full rfl (.tmp 15) (.tmp 22) _ rfl _ i0 _ Tryz.underlying51 hi hz0 hz1 hz2 rfl lo w.heap.size A l rfl HR.out (Nat.le_refl _) _ rfl _ rfl (by omega) ?_;intro v1 w1 O1 B1)
 obtain ⟨g,cp,rfl,hcp,hgl,hgs⟩:=own_pos O1 (by omega)
 rw [rounds_succ]
 go_wp2_with (go_at_call 161;refine (tight_any _ _ _ _ hcp).mono ?_;rintro e w' ⟨rfl,rfl⟩)
 go_ret
 refine ⟨g,cp,rfl,own_to O1 rfl ?_,B1⟩
 rw [bv_append]
 try simp only [List.append_assoc,List.cons_append,List.nil_append]
 congr 1
 exact bv_beb1 v (by omega)
set_option maxHeartbeats 400000 in
theorem put_u16 (A : Option Addr) (l : List UInt8) (c v : Nat) (w : World) (hc : l.length ≤ c) (hm : l.length ≤ 140737488355300) (hv : v < 65536) (lo : Nat) (hr : Bs w lo w.heap.size A l) :
 Calls Tryz.prog 147 #[.slice A l.length c,.int .u16 v] w fun e w' => ∃ g cp,e = .returned (.slice (some ⟨g,0,none⟩) (l.length + 2) (l.length + 2)) ∧ w'.ownsRow w.heap.size 5 1 (.slice (some ⟨g,0,none⟩) (l.length + 2) cp) (l.length + 2) (bv (l ++ Oc.beb 2 v)) ∧ Below w.heap.size w w':=by
 obtain ⟨i0,hi,hz0,hz1,hz2⟩:=info_parts Tryz.infoByte
 have HR:=Lib.hid hr
 clear hr
 go_enter Tryz.func147,Tryz.ntmps147
 go_wp2_with (first
  | (go_at_call 161;refine (tight_any _ _ _ _ hc).mono ?_;rintro e w' ⟨rfl,rfl⟩)
  | (go_at_call 102;refine (width_u16 _).mono ?_;rintro e w' ⟨rfl,rfl⟩))
 refine wp_loop_rounds 3 ?_
 rw [rounds_succ]
 go_wp2_with (at_builtin;refine wpList_append_full rfl (.tmp 15) (.tmp 22) _ rfl _ i0 _ Tryz.underlying51 hi hz0 hz1 hz2 rfl lo w.heap.size A l rfl HR.out (Nat.le_refl _) _ rfl _ rfl (by omega) ?_;intro v1 w1 O1 B1)
 rw [rounds_succ]
 go_wp2_with (at_builtin;refine wpList_append_one rfl (.tmp 15) (.tmp 22) _ rfl _ i0 _ Tryz.underlying51 hi hz0 hz1 hz2 rfl w.heap.size w v1 (l.length + 1) _ rfl O1 B1 (Nat.le_refl _) _ rfl _ rfl (by omega) ?_;intro v2 w2 O2 B2)
 obtain ⟨g,cp,rfl,hcp,hgl,hgs⟩:=own_pos O2 (by omega)
 rw [rounds_succ]
 go_wp2_with (go_at_call 161;refine (tight_any _ _ _ _ hcp).mono ?_;rintro e w' ⟨rfl,rfl⟩)
 go_ret
 refine ⟨g,cp,rfl,own_to O2 rfl ?_,B2⟩
 rw [bv_append]
 try simp only [List.append_assoc,List.cons_append,List.nil_append]
 congr 1
 exact bv_beb2 v (by omega) (by omega)
theorem num_step (l : List UInt8) (at_ j : Nat) (h : at_ + j < l.length) : Oc.num ((l.drop at_).take (j + 1)) = Oc.num ((l.drop at_).take j) * 256 + (l[at_ + j]'h).toNat:=by
 rw [Oc.num_take_succ _ _ (by rw [List.length_drop];omega),List.getElem_drop]
def takeV (K : IntKind) (k : Nat) (l : List UInt8) (z : Int) : Value :=
 if z < 0 ∨ (l.length : Int) < z then .tuple #[.int K 0,.int .i64 0,.int .i64 1]
 else if (l.length : Int) < z + k then .tuple #[.int K 0,.int .i64 0,.int .i64 6]
 else .tuple #[.int K (Oc.num ((l.drop z.toNat).take k)),.int .i64 (z + k),.int .i64 0]
set_option maxHeartbeats 1000000 in
theorem take_u8_ok (A : Option Addr) (l : List UInt8) (c n : Nat) (w : World) (hc : l.length ≤ c) (hm : l.length ≤ 211106232532992) (lo hi : Nat) (hr : Bs w lo hi A l) (hk : n + 1 ≤ l.length) :
 Calls Tryz.prog 129 #[.slice A l.length c,.int .i64 n] w fun e w' => e = .returned (.tuple #[.int .u8 (Oc.num ((l.drop n).take 1)),.int .i64 (n + 1),.int .i64 0]) ∧ w = w':=by
 obtain ⟨g0,o0,rfl,_,_,hcell⟩:=hr (by omega)
 have h0 : w.cell? ⟨g0,o0 + n,none⟩ = _:=hcell n (by omega)
 have b0:=(l[n]'(by omega)).toNat_lt
 have s0:=num_step l n 0 (by omega)
 have q0:=Oc.num_take_lt (l.drop n) 1
 have z0 : Oc.num ((l.drop n).take 0) = 0:=by simp [Oc.num]
 rw [z0] at s0
 clear hcell hr z0
 simp only [Nat.add_zero] at s0 b0
 generalize (l[n]'(by omega)).toNat = x0 at *
 generalize Oc.num ((l.drop n).take 1) = p1 at *
 have r1 : (0 : Nat) < 256:=by omega
 have o0 : bits .or .u32 0 (x0 : Int) = (p1 : Int):=by rw [or32_0 x0 (by omega)];omega
 clear s0
 go_enter Tryz.func129,Tryz.ntmps129
 go_wp2_with (go_at_call 151;refine (width_u8 _).mono ?_;rintro e w' ⟨rfl,rfl⟩)
 refine wp_loop_rounds 2 ?_
 rw [rounds_succ]
 go_wp2
 rw [rounds_succ]
 go_wp2
 go_ret3
 exact ⟨rfl,rfl⟩
set_option maxHeartbeats 1000000 in
theorem take_u8 (A : Option Addr) (l : List UInt8) (c : Nat) (z : Int) (w : World) (hc : l.length ≤ c) (hm : l.length ≤ 211106232532992) (lo hi : Nat) (hr : Bs w lo hi A l) :
 Calls Tryz.prog 129 #[.slice A l.length c,.int .i64 z] w fun e w' => e = .returned (takeV .u8 1 l z) ∧ w = w':=by
 unfold takeV
 by_cases h0 : z < 0
 · rw [if_pos (.inl h0)]
   go_enter Tryz.func129,Tryz.ntmps129
   go_wp2
   go_ret3
   exact ⟨rfl,rfl⟩
 · obtain ⟨n,rfl⟩ : ∃ n : Nat,z = n:=⟨z.toNat,by omega⟩
   by_cases h1 : l.length < n
   · rw [if_pos (.inr (by omega))]
     go_enter Tryz.func129,Tryz.ntmps129
     go_wp2
     go_ret3
     exact ⟨rfl,rfl⟩
   · rw [if_neg (by omega)]
     by_cases h2 : l.length < n + 1
     · rw [if_pos (by omega)]
       go_enter Tryz.func129,Tryz.ntmps129
       go_wp2_with (go_at_call 151;refine (width_u8 _).mono ?_;rintro e w' ⟨rfl,rfl⟩)
       go_ret3
       exact ⟨rfl,rfl⟩
     · rw [if_neg (by omega)]
       exact take_u8_ok A l c n w hc hm lo hi hr (by omega)
set_option maxHeartbeats 1000000 in
theorem take_u16_ok (A : Option Addr) (l : List UInt8) (c n : Nat) (w : World) (hc : l.length ≤ c) (hm : l.length ≤ 211106232532992) (lo hi : Nat) (hr : Bs w lo hi A l) (hk : n + 2 ≤ l.length) :
 Calls Tryz.prog 82 #[.slice A l.length c,.int .i64 n] w fun e w' => e = .returned (.tuple #[.int .u16 (Oc.num ((l.drop n).take 2)),.int .i64 (n + 2),.int .i64 0]) ∧ w = w':=by
 obtain ⟨g0,o0,rfl,_,_,hcell⟩:=hr (by omega)
 have h0 : w.cell? ⟨g0,o0 + n,none⟩ = _:=hcell n (by omega)
 have b0:=(l[n]'(by omega)).toNat_lt
 have s0:=num_step l n 0 (by omega)
 have q0:=Oc.num_take_lt (l.drop n) 1
 have h1 : w.cell? ⟨g0,o0 + n + 1,none⟩ = _:=hcell (n + 1) (by omega)
 have b1:=(l[n + 1]'(by omega)).toNat_lt
 have s1:=num_step l n 1 (by omega)
 have q1:=Oc.num_take_lt (l.drop n) 2
 have z0 : Oc.num ((l.drop n).take 0) = 0:=by simp [Oc.num]
 rw [z0] at s0
 clear hcell hr z0
 simp only [Nat.add_zero] at s0 b0
 generalize (l[n]'(by omega)).toNat = x0 at *
 generalize (l[n + 1]'(by omega)).toNat = x1 at *
 generalize Oc.num ((l.drop n).take 1) = p1 at *
 generalize Oc.num ((l.drop n).take 2) = p2 at *
 have r1 : (0 : Nat) < 256:=by omega
 have o0 : bits .or .u32 0 (x0 : Int) = (p1 : Int):=by rw [or32_0 x0 (by omega)];omega
 have o1 : bits .or .u32 ((p1 : Int) * 256) (x1 : Int) = (p2 : Int):=by rw [or32 p1 x1 (by omega) (by omega)];omega
 clear s0 s1
 go_enter Tryz.func82,Tryz.ntmps82
 go_wp2_with (go_at_call 102;refine (width_u16 _).mono ?_;rintro e w' ⟨rfl,rfl⟩)
 refine wp_loop_rounds 3 ?_
 rw [rounds_succ]
 go_wp2
 rw [rounds_succ]
 go_wp2
 rw [rounds_succ]
 go_wp2
 go_ret3
 exact ⟨rfl,rfl⟩
set_option maxHeartbeats 1000000 in
theorem take_u16 (A : Option Addr) (l : List UInt8) (c : Nat) (z : Int) (w : World) (hc : l.length ≤ c) (hm : l.length ≤ 211106232532992) (lo hi : Nat) (hr : Bs w lo hi A l) :
 Calls Tryz.prog 82 #[.slice A l.length c,.int .i64 z] w fun e w' => e = .returned (takeV .u16 2 l z) ∧ w = w':=by
 unfold takeV
 by_cases h0 : z < 0
 · rw [if_pos (.inl h0)]
   go_enter Tryz.func82,Tryz.ntmps82
   go_wp2
   go_ret3
   exact ⟨rfl,rfl⟩
 · obtain ⟨n,rfl⟩ : ∃ n : Nat,z = n:=⟨z.toNat,by omega⟩
   by_cases h1 : l.length < n
   · rw [if_pos (.inr (by omega))]
     go_enter Tryz.func82,Tryz.ntmps82
     go_wp2
     go_ret3
     exact ⟨rfl,rfl⟩
   · rw [if_neg (by omega)]
     by_cases h2 : l.length < n + 2
     · rw [if_pos (by omega)]
       go_enter Tryz.func82,Tryz.ntmps82
       go_wp2_with (go_at_call 102;refine (width_u16 _).mono ?_;rintro e w' ⟨rfl,rfl⟩)
       go_ret3
       exact ⟨rfl,rfl⟩
     · rw [if_neg (by omega)]
       exact take_u16_ok A l c n w hc hm lo hi hr (by omega)
set_option maxHeartbeats 1000000 in
theorem take_u32_ok (A : Option Addr) (l : List UInt8) (c n : Nat) (w : World) (hc : l.length ≤ c) (hm : l.length ≤ 140737488355328) (lo hi : Nat) (hr : Bs w lo hi A l) (hk : n + 4 ≤ l.length) :
 Calls Tryz.prog 158 #[.slice A l.length c,.int .i64 n] w fun e w' => e = .returned (.tuple #[.int .u32 (Oc.num ((l.drop n).take 4)),.int .i64 (n + 4),.int .i64 0]) ∧ w = w':=by
 obtain ⟨g0,o0,rfl,_,_,hcell⟩:=hr (by omega)
 have h0 : w.cell? ⟨g0,o0 + n,none⟩ = _:=hcell n (by omega)
 have b0:=(l[n]'(by omega)).toNat_lt
 have s0:=num_step l n 0 (by omega)
 have q0:=Oc.num_take_lt (l.drop n) 1
 have h1 : w.cell? ⟨g0,o0 + n + 1,none⟩ = _:=hcell (n + 1) (by omega)
 have b1:=(l[n + 1]'(by omega)).toNat_lt
 have s1:=num_step l n 1 (by omega)
 have q1:=Oc.num_take_lt (l.drop n) 2
 have h2 : w.cell? ⟨g0,o0 + n + 2,none⟩ = _:=hcell (n + 2) (by omega)
 have b2:=(l[n + 2]'(by omega)).toNat_lt
 have s2:=num_step l n 2 (by omega)
 have q2:=Oc.num_take_lt (l.drop n) 3
 have h3 : w.cell? ⟨g0,o0 + n + 3,none⟩ = _:=hcell (n + 3) (by omega)
 have b3:=(l[n + 3]'(by omega)).toNat_lt
 have s3:=num_step l n 3 (by omega)
 have q3:=Oc.num_take_lt (l.drop n) 4
 have z0 : Oc.num ((l.drop n).take 0) = 0:=by simp [Oc.num]
 rw [z0] at s0
 clear hcell hr z0
 simp only [Nat.add_zero] at s0 b0
 generalize (l[n]'(by omega)).toNat = x0 at *
 generalize (l[n + 1]'(by omega)).toNat = x1 at *
 generalize (l[n + 2]'(by omega)).toNat = x2 at *
 generalize (l[n + 3]'(by omega)).toNat = x3 at *
 generalize Oc.num ((l.drop n).take 1) = p1 at *
 generalize Oc.num ((l.drop n).take 2) = p2 at *
 generalize Oc.num ((l.drop n).take 3) = p3 at *
 generalize Oc.num ((l.drop n).take 4) = p4 at *
 have r1 : (0 : Nat) < 256:=by omega
 have o0 : bits .or .u32 0 (x0 : Int) = (p1 : Int):=by rw [or32_0 x0 (by omega)];omega
 have o1 : bits .or .u32 ((p1 : Int) * 256) (x1 : Int) = (p2 : Int):=by rw [or32 p1 x1 (by omega) (by omega)];omega
 have o2 : bits .or .u32 ((p2 : Int) * 256) (x2 : Int) = (p3 : Int):=by rw [or32 p2 x2 (by omega) (by omega)];omega
 have o3 : bits .or .u32 ((p3 : Int) * 256) (x3 : Int) = (p4 : Int):=by rw [or32 p3 x3 (by omega) (by omega)];omega
 clear s0 s1 s2 s3
 go_enter Tryz.func158,Tryz.ntmps158
 go_wp2_with (go_at_call 164;refine (width_u32 _).mono ?_;rintro e w' ⟨rfl,rfl⟩)
 refine wp_loop_rounds 5 ?_
 rw [rounds_succ]
 go_wp2
 rw [rounds_succ]
 go_wp2
 rw [rounds_succ]
 go_wp2
 rw [rounds_succ]
 go_wp2
 rw [rounds_succ]
 go_wp2
 go_ret3
 exact ⟨rfl,rfl⟩
set_option maxHeartbeats 1000000 in
theorem take_u32 (A : Option Addr) (l : List UInt8) (c : Nat) (z : Int) (w : World) (hc : l.length ≤ c) (hm : l.length ≤ 140737488355328) (lo hi : Nat) (hr : Bs w lo hi A l) :
 Calls Tryz.prog 158 #[.slice A l.length c,.int .i64 z] w fun e w' => e = .returned (takeV .u32 4 l z) ∧ w = w':=by
 unfold takeV
 by_cases h0 : z < 0
 · rw [if_pos (.inl h0)]
   go_enter Tryz.func158,Tryz.ntmps158
   go_wp2
   go_ret3
   exact ⟨rfl,rfl⟩
 · obtain ⟨n,rfl⟩ : ∃ n : Nat,z = n:=⟨z.toNat,by omega⟩
   by_cases h1 : l.length < n
   · rw [if_pos (.inr (by omega))]
     go_enter Tryz.func158,Tryz.ntmps158
     go_wp2
     go_ret3
     exact ⟨rfl,rfl⟩
   · rw [if_neg (by omega)]
     by_cases h2 : l.length < n + 4
     · rw [if_pos (by omega)]
       go_enter Tryz.func158,Tryz.ntmps158
       go_wp2_with (go_at_call 164;refine (width_u32 _).mono ?_;rintro e w' ⟨rfl,rfl⟩)
       go_ret3
       exact ⟨rfl,rfl⟩
     · rw [if_neg (by omega)]
       exact take_u32_ok A l c n w hc hm lo hi hr (by omega)
end Go.Proofs.YtekafhogiambaaaGreatDoor
namespace Go.Proofs.YtekafhogiambaaaGreatDoor
open Go.RowKit
set_option maxHeartbeats 1000000 in
theorem putText_long (A : Option Addr) (n c : Nat) (s : ByteArray) (w : World) (hs : 255 < s.size) (hm : s.size ≤ 140737488355328) :
 Calls Tryz.prog 148 #[.slice A n c,.string s] w fun e w' => e = .returned (.tuple #[.slice none 0 0,.int .i64 2]) ∧ w = w':=by
 go_enter Tryz.func148,Tryz.ntmps148
 go_wp2
 go_ret2
 exact ⟨rfl,rfl⟩
set_option maxHeartbeats 1000000 in
theorem putText_ok (A : Option Addr) (l : List UInt8) (c : Nat) (s : ByteArray) (w : World) (hc : l.length ≤ c) (hm : l.length ≤ 140737488355000) (hs : s.size ≤ 255) (lo : Nat) (hr : Bs w lo w.heap.size A l) :
 Calls Tryz.prog 148 #[.slice A l.length c,.string s] w fun e w' => ∃ g cp,e = .returned (.tuple #[.slice (some ⟨g,0,none⟩) (l.length + 1 + s.size) (l.length + 1 + s.size),.int .i64 0]) ∧
  w'.ownsRow w.heap.size 5 1 (.slice (some ⟨g,0,none⟩) (l.length + 1 + s.size) cp) (l.length + 1 + s.size) (bv (l ++ Oc.beb 1 s.size ++ s.data.toList)) ∧ Below w.heap.size w w':=by
 obtain ⟨i0,hi,hz0,hz1,hz2⟩:=info_parts Tryz.infoByte
 have HR:=Lib.hid hr
 clear hr
 go_enter Tryz.func148,Tryz.ntmps148
 go_wp2_with (first
  | (go_at_call 162;refine (put_u8 A l c s.size _ hc (by omega) (by omega) lo HR.out).mono ?_;rintro e w1 ⟨g1,cp1,rfl,O1,B1⟩;have C1:=Lib.hid (show Cut w1 w.heap.size 5 (.slice (some ⟨g1,0,none⟩) (l.length + 1) (l.length + 1)) (l.length + 1) (bv (l ++ Oc.beb 1 s.size)) from ⟨g1,_,cp1,rfl,Nat.le_refl _,O1,.inl rfl⟩);have HB1:=Lib.hid B1;clear O1 B1)
  | (at_builtin;refine wpList_append_run rfl (.tmp 13) (.tmp 14) _ _ rfl _ _ rfl rfl (run_append_string_full _ _ _ _ i0 Tryz.underlying51 Tryz.underlying9 hi hz0 hz1 hz2 _ _ _ _ C1.out s (by omega) HB1.out.size) ?_;rintro v2 w2 ⟨C2,B2⟩;obtain ⟨g2,cp2,cq2,rfl,hcp2,O2,_⟩:=C2)
  | (go_at_call 161;refine (tight_any _ _ _ _ hcp2).mono ?_;rintro e w' ⟨rfl,rfl⟩))
 go_ret2
 refine ⟨g2,cq2,rfl,own_to O2 rfl (by simp [bv]),HB1.out.trans B2⟩
def takeTextV (l : List UInt8) (z : Int) : Value :=
 if z < 0 ∨ (l.length : Int) < z then .tuple #[.string ⟨#[]⟩,.int .i64 0,.int .i64 1]
 else if (l.length : Int) < z + 1 + Oc.num ((l.drop z.toNat).take 1) ∨ (l.length : Int) < z + 1 then .tuple #[.string ⟨#[]⟩,.int .i64 0,.int .i64 6]
 else .tuple #[sv ((l.drop (z.toNat + 1)).take (Oc.num ((l.drop z.toNat).take 1))),.int .i64 (z + 1 + Oc.num ((l.drop z.toNat).take 1)),.int .i64 0]
theorem takeV_arg {K : IntKind} {k : Nat} {l : List UInt8} {z : Int} (h : z < 0 ∨ (l.length : Int) < z) : takeV K k l z = .tuple #[.int K 0,.int .i64 0,.int .i64 1]:=by unfold takeV;rw [if_pos h]
theorem takeV_short {K : IntKind} {k : Nat} {l : List UInt8} {z : Int} (h : ¬ (z < 0 ∨ (l.length : Int) < z)) (h2 : (l.length : Int) < z + k) : takeV K k l z = .tuple #[.int K 0,.int .i64 0,.int .i64 6]:=by unfold takeV;rw [if_neg h,if_pos h2]
theorem takeV_ok {K : IntKind} {k : Nat} {l : List UInt8} {n : Nat} (h2 : n + k ≤ l.length) : takeV K k l n = .tuple #[.int K (Oc.num ((l.drop n).take k)),.int .i64 (n + k),.int .i64 0]:=by
 unfold takeV;rw [if_neg (by omega),if_neg (by omega)];simp
set_option maxHeartbeats 1000000 in
theorem takeText_ok (g0 o0 : Nat) (l : List UInt8) (c n m : Nat) (w : World) (hc : l.length ≤ c) (hm : l.length ≤ 211106232532992) (lo hi : Nat) (hr : Bs w lo hi (some ⟨g0,o0,none⟩) l) (hk : n + 1 + m ≤ l.length)
 (ht : Calls Tryz.prog 129 #[.slice (some ⟨g0,o0,none⟩) l.length c,.int .i64 n] w fun e w' => e = .returned (.tuple #[.int .u8 m,.int .i64 (n + 1),.int .i64 0]) ∧ w = w') (hm2 : m < 256) :
 Calls Tryz.prog 100 #[.slice (some ⟨g0,o0,none⟩) l.length c,.int .i64 n] w fun e w' => e = .returned (.tuple #[sv ((l.drop (n + 1)).take m),.int .i64 (n + 1 + m),.int .i64 0]) ∧ w = w':=by
 have HT:=Lib.hid ht
 clear ht
 have HR:=Lib.hid (hr.sub (n + 1) m hk)
 clear hr
 by_cases hcn : c = n + 1
 · obtain rfl : m = 0:=by omega
   subst hcn
   go_enter Tryz.func100,Tryz.ntmps100
   go_wp2_with (first
    | (go_at_call 129;refine HT.out.mono ?_;rintro e w1 ⟨rfl,rfl⟩)
    | (refine wpList_convert_bs rfl 51 9 (.tmp 32) rfl 5 Tryz.underlying51 Tryz.underlying5 Tryz.underlying9 lo hi _ _ _ [] (by simp) rfl Bs.nil ?_))
   go_ret3
   exact ⟨by simp,rfl⟩
 · have hcn2 : n + 1 < c:=by omega
   go_enter Tryz.func100,Tryz.ntmps100
   go_wp2_with (first
    | (go_at_call 129;refine HT.out.mono ?_;rintro e w1 ⟨rfl,rfl⟩)
    | (refine wpList_convert_bs rfl 51 9 (.tmp 32) rfl 5 Tryz.underlying51 Tryz.underlying5 Tryz.underlying9 lo hi _ _ _ ((l.drop (n + 1)).take m) (by rw [List.length_take,List.length_drop];omega) rfl HR.out ?_))
   go_ret3
   exact ⟨rfl,rfl⟩
set_option maxHeartbeats 1000000 in
theorem takeText (A : Option Addr) (l : List UInt8) (c : Nat) (z : Int) (w : World) (hc : l.length ≤ c) (hm : l.length ≤ 211106232532992) (lo hi : Nat) (hr : Bs w lo hi A l) :
 Calls Tryz.prog 100 #[.slice A l.length c,.int .i64 z] w fun e w' => e = .returned (takeTextV l z) ∧ w = w':=by
 have HT:=fun w=>take_u8 A l c z w hc (by omega) lo hi
 unfold takeTextV
 by_cases h0 : z < 0 ∨ (l.length : Int) < z
 · rw [if_pos h0]
   have HT1:=Lib.hid (fun (w : World) (hr : Bs w lo hi A l)=>HT w hr)
   rw [takeV_arg h0] at HT1
   clear HT h0
   have HR:=Lib.hid hr
   clear hr
   go_enter Tryz.func100,Tryz.ntmps100
   go_wp2_with (first
    | (go_at_call 129;refine (HT1.out _ HR.out).mono ?_;rintro e w1 ⟨rfl,rfl⟩))
   go_ret3
   exact ⟨rfl,rfl⟩
 · rw [if_neg h0]
   by_cases h1 : (l.length : Int) < z + 1
   · rw [if_pos (.inr h1)]
     have HT1:=Lib.hid (fun (w : World) (hr : Bs w lo hi A l)=>HT w hr)
     rw [takeV_short h0 h1] at HT1
     clear HT h0 h1
     have HR:=Lib.hid hr
     clear hr
     go_enter Tryz.func100,Tryz.ntmps100
     go_wp2_with (first
      | (go_at_call 129;refine (HT1.out _ HR.out).mono ?_;rintro e w1 ⟨rfl,rfl⟩))
     go_ret3
     exact ⟨rfl,rfl⟩
   · obtain ⟨n,rfl⟩ : ∃ n : Nat,z = n:=⟨z.toNat,by omega⟩
     obtain ⟨g0,o0,rfl,_,_,_⟩:=hr (by omega)
     have HT1:=Lib.hid (fun (w : World) (hr : Bs w lo hi (some ⟨g0,o0,none⟩) l)=>HT w hr)
     rw [takeV_ok (k:=1) (by omega)] at HT1
     clear HT
     have hx:=Oc.num_take_lt (l.drop n) 1
     rw [show (n : Int).toNat = n from rfl]
     generalize Oc.num ((l.drop n).take 1) = m at *
     by_cases h2 : (l.length : Int) < n + 1 + m
     · rw [if_pos (.inl h2)]
       have h3 : (l.length : Int) - (n + 1) < m:=by omega
       have HR:=Lib.hid hr
       clear hr
       go_enter Tryz.func100,Tryz.ntmps100
       go_wp2_with (first
        | (go_at_call 129;refine (HT1.out _ HR.out).mono ?_;rintro e w1 ⟨rfl,rfl⟩))
       go_ret3
       exact ⟨rfl,rfl⟩
     · rw [if_neg (by omega)]
       exact takeText_ok g0 o0 l c n m w hc hm lo hi hr (by omega) (HT1.out w hr) (by omega)
end Go.Proofs.YtekafhogiambaaaGreatDoor
namespace Go.Proofs.YtekafhogiambaaaGreatDoor
open Go.RowKit
theorem wpList_convert_text {P : Program} {w : World} {ops : Array Oper} {rest : List Oper} {o : Oper} {a : Act} {Q : Exit → Act → World → Prop} (hgd : o.guard = none) (src dst : TypeId) (x : Operand) (ho : o.op = .convert src dst x)
 (e : TypeId) {u : TypeDesc} (hs : P.underlying src = some u) (hd : P.underlying dst = some (.slice e)) (he : P.underlying e = some (.int .u8)) (s : ByteArray) (hx : a.eval x = .string s)
 (h : ∀ (c : Nat) (w1 : World),s.size ≤ c → Bs w1 w.heap.size (w.heap.size + 1) (some ⟨w.heap.size,0,none⟩) s.data.toList → Below w.heap.size w w1 → w1.heap.size = w.heap.size + 1 →
  wpList P ops Q rest (a.put o.dst (.slice (some ⟨w.heap.size,0,none⟩) s.size c)) w1) : wpList P ops Q (o :: rest) a w:=by
 refine wpList_plain hgd fun _ hK=>?_
 unfold Oper.wp execOp
 simp only [ho,hx,Sem.run_bind,Sem.run_pure,Result.andThen_ok,Lib.run_convert_string_bytes w src dst e s hs hd he]
 refine hK _ _ (h _ _ (grownCap_ge w s.size 0 e) (fun _=>⟨w.heap.size,0,rfl,Nat.le_refl _,by omega,fun j hj=>?_⟩) ⟨rfl,rfl,rfl,by rw [Lib.bytesWorld_size];omega,fun j hj=>Lib.bytesWorld_at_old w e s j hj⟩ (Lib.bytesWorld_size w e s))
 rw [Nat.zero_add,Lib.bytesWorld_cell w e s j (by simpa using hj)]
 have : (s.data.toList.getD j 0) = s.data.toList[j]:=by rw [List.getD_eq_getElem?_getD,List.getElem?_eq_getElem hj];rfl
 rw [this]
theorem tx_at {l : List UInt8} {k : Nat} (hk : k < l.length) : l.drop k = l[k] :: l.drop (k + 1):=List.drop_eq_getElem_cons hk
theorem takeTextV_no {l : List UInt8} {k : Nat} (hk : k < l.length) (h : l.length < k + 1 + (l[k]).toNat) : takeTextV l k = .tuple #[.string ⟨#[]⟩,.int .i64 0,.int .i64 6]:=by
 have e : Oc.num ((l.drop k).take 1) = (l[k]).toNat:=by rw [tx_at hk,List.take_succ_cons,List.take_zero];simp [Oc.num]
 unfold takeTextV
 rw [if_neg (by omega),if_pos (by left;simp only [Int.toNat_natCast];rw [e];omega)]
theorem takeTextV_yes {l : List UInt8} {k : Nat} (hk : k < l.length) (h : ¬ l.length < k + 1 + (l[k]).toNat) : takeTextV l k = .tuple #[sv ((l.drop (k + 1)).take (l[k]).toNat),.int .i64 ((k + 1 + (l[k]).toNat : Nat) : Int),.int .i64 0]:=by
 have e : Oc.num ((l.drop k).take 1) = (l[k]).toNat:=by rw [tx_at hk,List.take_succ_cons,List.take_zero];simp [Oc.num]
 unfold takeTextV
 rw [if_neg (by omega),if_neg (by simp only [Int.toNat_natCast];rw [e];omega)]
 simp only [Int.toNat_natCast,e]
 congr 3
set_option maxHeartbeats 1000000 in
theorem textsOf_any (s : ByteArray) (w : World) (hs : s.size ≤ 8796093022208) :
 Calls Tryz.prog 78 #[.string s] w (TextsPost w (Rd.tx s.data.toList)):=by
 obtain ⟨i0,hi,hz0,hz1,hz2⟩:=info_parts Tryz.infoString
 obtain ⟨l,hl⟩ : ∃ l,s.data.toList = l:=⟨_,rfl⟩
 have hlen : s.size = l.length:=by rw [← hl];simp
 rw [hl]
 have HL:=Lib.hid hl
 clear hl
 go_enter Tryz.func78,Tryz.ntmps78
 go_wp2_with (refine wpList_convert_text rfl 9 51 (.tmp 10) rfl 5 Tryz.underlying9 Tryz.underlying51 Tryz.underlying5 s rfl ?_;intro c w1 hc hb1 hB1 hz;rw [HL.out] at hb1;have HBS:=Lib.hid hb1;have HB1:=Lib.hid hB1;have HZ:=Lib.hid hz;clear hb1 hB1 hz)
 have hw : w.heap.size + 1 = w1.heap.size:=HZ.out.symm
 have HW:=Lib.hid hw
 have hwl : w.heap.size < w1.heap.size:=by omega
 clear hw
 have HT : ∀ (k : Nat) (W : World),Below w1.heap.size w1 W → Hid (Calls Tryz.prog 100 #[.slice (some ⟨w.heap.size,0,none⟩) l.length c,.int .i64 k] W fun e w' => e = .returned (takeTextV l k) ∧ W = w'):=fun k W hb=>takeText _ l c k W (by omega) (by omega) w.heap.size (w.heap.size + 1) (HBS.out.keep (hb.mono (by rw [HW.out];exact Nat.le_refl _)))
 go_loopw [4,6] (fun v i wr => ∃ (k : Nat) (acc : List (List UInt8)),i = .int .i64 k ∧ k ≤ l.length ∧ acc.length ≤ k ∧ Hid (Rd.tx l = (Rd.tx (l.drop k)).map (acc ++ ·)) ∧ Hid (wr.ownsRow w1.heap.size 9 1 v acc.length (svs acc)) ∧ Hid (Below w1.heap.size w1 wr)) (fun _ i _=>l.length - (intOf i).toNat)
 case atStart=>exact ⟨0, [],rfl,Nat.zero_le _,Nat.le_refl _,by simp [Hid],World.ownsRow_nil _ _ _ _,Below.refl _ _⟩
 case round =>
  obtain ⟨k,acc,rfl,hk,hka,HX,HO,HB⟩:=hrel
  have hbs:=HB.out.size
  have HTK:=HT k wr HB.out
  by_cases hlt : k < l.length
  · have hm8 : (l[k]).toNat < 256:=(l[k]).toNat_lt
    by_cases hsh : l.length < k + 1 + (l[k]).toNat
    · have HN : Hid (Rd.tx l = none):=by
       have:=HX.out
       rw [tx_at hlt,Rd.tx_bad (by simp;omega)] at this
       exact this
      rw [takeTextV_no hlt hsh] at HTK
      go_wp2_with (go_at_call 100;refine HTK.out.mono ?_;rintro e w2 ⟨rfl,rfl⟩)
      go_ret2
      exact texts_no (HB1.out.trans (HB.out.mono (by omega))) HN.out
    · have HN : Hid (Rd.tx l = (Rd.tx (l.drop (k + 1 + (l[k]).toNat))).map ((acc ++ [(l.drop (k + 1)).take (l[k]).toNat]) ++ ·)):=by
       have:=HX.out
       rw [tx_at hlt,Rd.tx_cons (by simp;omega),Option.map_map,List.drop_drop] at this
       refine this.trans ?_
       congr 1
       funext x
       simp
      rw [takeTextV_yes hlt hsh] at HTK
      obtain ⟨ad,cp,hv⟩:=own_form HO.out
      subst hv
      generalize (l.drop (k + 1)).take (l[k]).toNat = x at *
      generalize hm : (l[k]).toNat = m at *
      clear hm
      go_wp2_with (first
       | (go_at_call 100;refine HTK.out.mono ?_;rintro e w2 ⟨rfl,rfl⟩)
       | (at_builtin;refine wpList_append_own _ rfl (.tmp 25) (.tmp 27) _ rfl w1.heap.size 9 i0 _ 1 16 Tryz.underlying45 hi hz0 hz1 hz2 rfl (by decide) _ acc.length (svs acc) rfl (HO.out.alloc _) ⟨wr.heap.size,0,none⟩ 1 1 [sv x] rfl rfl ?c1 ?c2 ?c3 ?c4 ?c5 (fun v' w4 hown1 hg1 _=>?_)))
      case c1=>exact cell_one_new _ _ _
      case c2=>simp [Value.oneCell']
      case c3=>unfold maxLen;omega
      case c4=>omega
      case c5=>simp;omega
      go_roundw
      case rel=>exact ⟨k + 1 + m,acc ++ [x],rfl,by omega,by simp;omega,HN.out,by rw [List.length_append,svs_append];exact hown1,(HB.out.alloc hbs _).grown hg1 (by simp;omega) (fun j hj=>(HO.out.lt j hj).1)⟩
      case measure=>simp [intOf];omega
  · obtain rfl : k = l.length:=by omega
    have HN : Hid (Rd.tx l = some acc):=by
     have:=HX.out
     rw [List.drop_length,Rd.tx_nil] at this
     rw [this]
     simp [Hid]
    obtain ⟨ad,cp,hv⟩:=own_form HO.out
    subst hv
    go_wp2
    go_ret2
    exact texts_yes (HB1.out.trans (HB.out.mono (by omega))) HN.out (by simp) (own_mono HO.out (by omega))
end Go.Proofs.YtekafhogiambaaaGreatDoor
namespace Go.Proofs.YtekafhogiambaaaGreatDoor
open Go.RowKit
def fitR (p : Nat) (l : List UInt8) : Bool :=
 if p = 1 then l.length == 4 else if p = 2 then l.length == 16
 else if p = 3 then (match Rd.tx l with | some (_ :: _)=>decide (l.length ≤ 65535) | _=>false)
 else decide (l.length ≤ 65535)
theorem fitR_fit {p : Nat} {d : Rd.Dt} {n : Nat} (h1 : 1 ≤ p) (h4 : p ≤ 4) : fitR p d.raw = Rd.fit p d n:=by
 unfold fitR Rd.fit
 rcases (by omega : p = 1 ∨ p = 2 ∨ p = 3 ∨ p = 4) with rfl | rfl | rfl | rfl <;> rfl
set_option maxHeartbeats 1000000 in
theorem fits_3 (s : ByteArray) (w : World) (hs : s.size ≤ 8796093022208) :
 Calls Tryz.prog 45 #[.int .u8 3,.string s] w fun e w' => e = .returned (.bool (fitR 3 s.data.toList)) ∧ Below w.heap.size w w':=by
 have hl : s.data.toList.length = s.size:=by simp
 have hres : fitR 3 s.data.toList = match Rd.tx s.data.toList with | some (_ :: _)=>decide (s.size ≤ 65535) | _=>false:=by rw [← hl];rfl
 obtain ⟨R,hR⟩ : ∃ R,fitR 3 s.data.toList = R:=⟨_,rfl⟩
 rw [hR] at hres ⊢
 have key : ∃ d : Bool,(∀ W : World,Calls Tryz.prog 78 #[.string s] W fun e w' => ∃ v,e = .returned (.tuple #[v,.bool d]) ∧ Below W.heap.size W w') ∧ R = (d && decide (s.size ≤ 65535)):=by
  have HT:=fun W : World=>textsOf_any s W hs
  rcases htx : Rd.tx s.data.toList with _ | ls
  · rw [htx] at HT hres
    exact ⟨false,fun W=>(HT W).mono fun e w' ⟨v,hb,he⟩=>⟨v,he,hb⟩,by rw [hres];rfl⟩
  · rw [htx] at HT hres
    cases ls with
    | nil=>exact ⟨false,fun W=>(HT W).mono fun e w' ⟨v,hb,he,_⟩=>⟨v,he,hb⟩,by rw [hres];rfl⟩
    | cons x r=>exact ⟨true,fun W=>(HT W).mono fun e w' ⟨v,hb,he,_⟩=>⟨v,by rw [he];simp,hb⟩,by rw [hres];rfl⟩
 obtain ⟨d,hT,hd⟩:=key
 have HT:=Lib.hid hT
 have HD:=Lib.hid hd
 clear hT hd hres hR hl
 cases d with
 | true =>
  go_enter Tryz.func45,Tryz.ntmps45
  go_wp2_with (go_at_call 78;refine (HT.out _).mono ?_;rintro e' w2 ⟨v,rfl,hb⟩)
  go_ret
  refine ⟨ret_bool ?_,hb⟩
  rw [HD.out,Bool.eq_iff_iff];simp;omega
 | false =>
  go_enter Tryz.func45,Tryz.ntmps45
  go_wp2_with (go_at_call 78;refine (HT.out _).mono ?_;rintro e' w2 ⟨v,rfl,hb⟩)
  go_ret
  refine ⟨ret_bool ?_,hb⟩
  rw [HD.out];rfl
set_option maxHeartbeats 1000000 in
theorem fits_any (p : Nat) (s : ByteArray) (w : World) (h1 : 1 ≤ p) (h4 : p ≤ 4) (hs : s.size ≤ 8796093022208) :
 Calls Tryz.prog 45 #[.int .u8 p,.string s] w fun e w' => e = .returned (.bool (fitR p s.data.toList)) ∧ Below w.heap.size w w':=by
 have hl : s.data.toList.length = s.size:=by simp
 rcases (by omega : p = 1 ∨ p = 2 ∨ p = 3 ∨ p = 4) with rfl | rfl | rfl | rfl
 · go_enter Tryz.func45,Tryz.ntmps45
   go_wp2
   go_ret
   refine ⟨ret_bool ?_,Below.refl _ _⟩
   show _ = (s.data.toList.length == 4)
   rw [hl,Bool.eq_iff_iff,beq_iff_eq,beq_iff_eq];omega
 · go_enter Tryz.func45,Tryz.ntmps45
   go_wp2
   go_ret
   refine ⟨ret_bool ?_,Below.refl _ _⟩
   show _ = (s.data.toList.length == 16)
   rw [hl,Bool.eq_iff_iff,beq_iff_eq,beq_iff_eq];omega
 · exact fits_3 s w hs
 · go_enter Tryz.func45,Tryz.ntmps45
   go_wp2
   go_ret
   refine ⟨ret_bool ?_,Below.refl _ _⟩
   show _ = decide (s.data.toList.length ≤ 65535)
   rw [hl,Bool.eq_iff_iff];simp;omega
theorem width_8 (w : World) : Calls Tryz.prog 46 #[.int .u8 8] w fun e w' => e = .returned (.int .i64 16) ∧ w = w':=by
 go_enter Tryz.func46,Tryz.ntmps46
 go_wp2
 go_ret
 exact ⟨rfl,rfl⟩
theorem width_9 (w : World) : Calls Tryz.prog 46 #[.int .u8 9] w fun e w' => e = .returned (.int .i64 32) ∧ w = w':=by
 go_enter Tryz.func46,Tryz.ntmps46
 go_wp2
 go_ret
 exact ⟨rfl,rfl⟩
end Go.Proofs.YtekafhogiambaaaGreatDoor
