/- Texts of the proofs, merged. -/
import Derived.Test.YtekafhogiambaaaGreatDoorZc27
set_option maxRecDepth 100000
namespace Go.Proofs.YtekafhogiambaaaGreatDoor
open Go.RowKit
section
variable {g : Nat} {hi : Nat × Nat} {s : Ma.S} {f x : Tk.Wd} {ws r : List Tk.Wd} {w : World}
set_option maxHeartbeats 8000000 in
theorem maEnt_ok {vw : Value} {s' : Ma.S} (h : MM w g hi s f ws) (hs : Mk s) (bl : Bool) (el : Nat) (hw : Wp w hi.1 vw (x :: r)) (he : Ma.entry s bl x r = .ok s') :
 Calls Tryz.prog 23 #[.pointer (some ⟨g,0,none⟩),.agg #[.bool bl,.int .i64 el,vw]] w fun e w' => e = .returned (.tuple #[]) ∧ (∃ b f' us,MM w' g (hi.1,b) s' f' us) ∧ Below g w w':=by
 have hgw:=h.lt
 have htop:=h.top
 have hle:=h.le
 have hxl : x.text.length ≤ 262144:=by
  obtain ⟨_,_,_,_,_,h4,_⟩:=hw
  exact h4 x (by simp)
 have hBa:=(Below.refl w.heap.size w).alloc (Nat.le_refl _) (.cells #[.bool bl,.int .i64 el,vw] 74)
 have hma:=h.keep hBa
 have hwa:=hw.keep (hBa.mono (by omega))
 obtain ⟨q,p,cp,rfl,hc,hm,hq,hr,h4,_⟩:=hwa.head
 obtain ⟨x0,x1,x2,x3⟩:=wc_cells hr
 obtain ⟨vr,vw0,hh⟩:=hma.has
 have e4 : (w.alloc (.cells #[.bool bl,.int .i64 el,.slice (some ⟨q,p,none⟩) (r.length + 1) cp] 74)).cell? ⟨g,4,none⟩ = some (sv f.text):=hh.cell 4
 have e5 : (w.alloc (.cells #[.bool bl,.int .i64 el,.slice (some ⟨q,p,none⟩) (r.length + 1) cp] 74)).cell? ⟨g,5,none⟩ = some (.bool f.quoted):=hh.cell 5
 have e6 : (w.alloc (.cells #[.bool bl,.int .i64 el,.slice (some ⟨q,p,none⟩) (r.length + 1) cp] 74)).cell? ⟨g,6,none⟩ = some (.int .i64 f.line):=hh.cell 6
 have e7 : (w.alloc (.cells #[.bool bl,.int .i64 el,.slice (some ⟨q,p,none⟩) (r.length + 1) cp] 74)).cell? ⟨g,7,none⟩ = some (.int .i64 f.col):=hh.cell 7
 have e8 : (w.alloc (.cells #[.bool bl,.int .i64 el,.slice (some ⟨q,p,none⟩) (r.length + 1) cp] 74)).cell? ⟨g,8,none⟩ = some vw0:=hh.cell 8
 have g4:=hh.free 4
 have g5:=hh.free 5
 have g6:=hh.free 6
 have g7:=hh.free 7
 have g8:=hh.free 8
 have hqg : q ≠ g:=by omega
 have hbx:=Has.fresh w 74 #[.bool bl,.int .i64 el,.slice (some ⟨q,p,none⟩) (r.length + 1) cp]
 have b0 : (w.alloc (.cells #[.bool bl,.int .i64 el,.slice (some ⟨q,p,none⟩) (r.length + 1) cp] 74)).cell? ⟨w.heap.size,0,none⟩ = some (.bool bl):=hbx.cell 0
 have b2 : (w.alloc (.cells #[.bool bl,.int .i64 el,.slice (some ⟨q,p,none⟩) (r.length + 1) cp] 74)).cell? ⟨w.heap.size,2,none⟩ = some (.slice (some ⟨q,p,none⟩) (r.length + 1) cp):=hbx.cell 2
 have HMA:=Lib.hid hma
 have HWA:=Lib.hid hwa
 have HS:=Lib.hid hs
 have HE:=Lib.hid he
 have HBX:=Lib.hid hbx
 have HXL:=Lib.hid hxl
 have HGN : Hid (g ≠ w.heap.size):=by rw [Hid];omega
 have HBWA : Hid (Below g w (w.alloc (.cells #[.bool bl,.int .i64 el,.slice (some ⟨q,p,none⟩) (r.length + 1) cp] 74))):=(Below.refl g w).alloc (Nat.le_of_lt hgw) _
 clear h hs hw hma hwa hr h4 hh hBa he hbx hxl
 have e0 : ((((r.length : Nat) : Int) + 1) == 0) = false:=beq_eq_false_iff_ne.2 (by omega)
 have el1 : (0 : Int) < ((r.length : Nat) : Int) + 1:=by omega
 obtain ⟨xt,xq,xl,xc⟩:=x
 dsimp only at x0 x1 x2 x3
 go_enter Tryz.func23,Tryz.ntmps23
 go_wp2
 generalize hwa0 : w.alloc (.cells #[.bool bl,.int .i64 el,.slice (some ⟨q,p,none⟩) (r.length + 1) cp] 74) = wa at *
 go_region
 obtain ⟨W1,hW1⟩ : ∃ W1,W1 = ((((((wa.setCell ⟨g,4,none⟩ (.string ⟨xt.toArray⟩)).setCell ⟨g,5,none⟩ (.bool xq)).setCell ⟨g,6,none⟩ (.int .i64 xl)).setCell ⟨g,7,none⟩ (.int .i64 xc)).setCell ⟨g,8,none⟩ (.slice (some ⟨q,p,none⟩) (r.length + 1) cp)).drew):=⟨_,rfl⟩
 obtain ⟨hst,hb1,hoth,hsz⟩:=HMA.out.begun HWA.out hW1
 rw [← hW1]
 clear hW1
 dsimp only [Exit.then]
 rename_i K hK
 have HKK:=Lib.hid hK
 clear hK
 have HB1:=Lib.hid (HBWA.out.trans hb1)
 have hbk : Has W1 w.heap.size 74 #[.bool bl,.int .i64 el,.slice (some ⟨q,p,none⟩) (r.length + 1) cp]:=(hoth _ (Ne.symm HGN.out)).trans HBX.out
 have HBK:=Lib.hid hbk
 have b1 : W1.cell? ⟨w.heap.size,0,none⟩ = some (.bool bl):=hbk.cell 0
 obtain ⟨vr1,vw1,hh1,hrow,_,_,_,_,_,_⟩:=id hst
 have HROW1:=Lib.hid hrow
 obtain ⟨A3,c3,hvr,_⟩:=ownK_form hrow
 subst hvr
 obtain ⟨N,hN⟩ : ∃ N,s.recs.length = N:=⟨_,rfl⟩
 rw [hN] at hh1
 have HNN:=Lib.hid hN
 have d3 : W1.cell? ⟨g,3,none⟩ = some (.slice A3 N c3):=hh1.cell 3
 have HD3 : Hid (∀ X,Below W1.heap.size W1 X → X.cell? ⟨g,3,none⟩ = some (.slice A3 N c3)):=fun X hb=>(hb.cell (p:=⟨g,3,none⟩) hh1.lt).trans d3
 have d4 : W1.cell? ⟨g,4,none⟩ = some (sv xt):=hh1.cell 4
 have d5 : W1.cell? ⟨g,5,none⟩ = some (.bool xq):=hh1.cell 5
 have d6 : W1.cell? ⟨g,6,none⟩ = some (.int .i64 xl):=hh1.cell 6
 have d7 : W1.cell? ⟨g,7,none⟩ = some (.int .i64 xc):=hh1.cell 7
 have HST:=Lib.hid hst
 have HKW:=Lib.hid (fun W=>keyword_any ⟨xt,xq,xl,xc⟩ W HXL.out)
 have HKL : Hid ((Ma.kw ⟨xt,xq,xl,xc⟩).length ≤ 140737488355328):=by
  have h9 : xt.length ≤ 262144:=HXL.out
  rw [Hid]
  unfold Ma.kw
  split
  · simp
  · rw [Nm.fold_length];show xt.length ≤ _;omega
 obtain ⟨kk,hkk⟩ : ∃ kk,Ma.kw ⟨xt,xq,xl,xc⟩ = kk:=⟨_,rfl⟩
 have hdir : Ma.isDir bl ⟨xt,xq,xl,xc⟩ = (!bl && dollar kk):=by rw [← hkk];rfl
 have HDIR:=Lib.hid hdir
 rw [hkk] at HKW HKL
 have HWS : Hid (wa.heap.size = w.heap.size + 1):=by rw [Hid,← hwa0];simp
 clear hst hb1 hoth hsz hbk hh1 hrow hN hkk hdir hwa0 x0 x1 x2 x3 e4 e5 e6 e7 e8 g4 g5 g6 g7 g8 b0 b2
 cases bl with
 | true =>
  have hne : ((N : Int) == 4096) = false:=by
   have:=HE.out
   unfold Ma.entry at this
   rw [HDIR.out] at this
   simp only [Bool.not_true,Bool.false_and,Bool.false_eq_true,if_false] at this
   split at this
   · cases this
   · rename_i h9
     have:=HNN.out
     exact beq_eq_false_iff_ne.2 (by omega)
  have hne2 : ¬ (N : Int) = 4096:=beq_eq_false_iff_ne.1 hne
  have hne3 : ¬ N = 4096:=by omega
  refine HKK.out _ _ ?_
  go_wp2
  have hrec : ∃ h c,Ma.record s ⟨xt,xq,xl,xc⟩ true (⟨xt,xq,xl,xc⟩ :: r) = .ok (h,c) ∧ s' = { s with ttl:=h,recs:=s.recs ++ [c] }:=by
   have:=HE.out
   unfold Ma.entry at this
   rw [HDIR.out] at this
   simp only [Bool.not_true,Bool.false_and,Bool.false_eq_true,if_false] at this
   split at this
   · cases this
   · cases hq9 : Ma.record s ⟨xt,xq,xl,xc⟩ true (⟨xt,xq,xl,xc⟩ :: r) with
     | error y=>rw [hq9] at this;cases this
     | ok y =>
      rw [hq9] at this
      obtain ⟨h,c⟩:=y
      simp only [Except.ok.injEq] at this
      exact ⟨h,c,rfl,this.symm⟩
  obtain ⟨th,cc,hrec,hs'⟩:=hrec
  have HSS:=Lib.hid hs'
  have HMD:=Lib.hid (HST.out.keep (Below.refl _ W1).drew)
  obtain ⟨a0,a1,a2,a3,b0,b1,b2,m0,m1,m2,m3,m4,hcs⟩ : ∃ a0 a1 a2 a3 b0 b1 b2 m0 m1 m2 m3 m4,(rvOf cc).cells = #[.string a0,.int .u16 a1,.int .u16 a2,.int .u32 a3,.string b0,.string b1,.string b2,.int .u32 m0,.int .u32 m1,.int .u32 m2,.int .u32 m3,.int .u32 m4]:=⟨_,_,_,_,_,_,_,_,_,_,_,_,rfl⟩
  have HREC : Hid (Calls Tryz.prog 41 #[.pointer (some ⟨g,0,none⟩),.bool true] W1.drew fun e w' => e = .returned (.agg #[.string a0,.int .u16 a1,.int .u16 a2,.int .u32 a3,.string b0,.string b1,.string b2,.int .u32 m0,.int .u32 m1,.int .u32 m2,.int .u32 m3,.int .u32 m4]) ∧ (∃ us,MM w' g hi { s with ttl:=th } ⟨xt,xq,xl,xc⟩ us) ∧ Kb g W1.drew.heap.size W1.drew w'):=by
   have h9:=maRec_any HMD.out HS.out true (fun _=>by simp) (.inr ⟨_,hrec⟩)
   rw [hrec] at h9
   refine h9.mono fun e w' h=>⟨?_,h.2⟩
   rw [h.1,Rv.val,hcs]
  have HROW : Hid (W1.drew.ownsRow (g + 1) 39 12 (.slice A3 N c3) N (fl mcl s.recs)):=by
   have h9:=tk_drew HROW1.out
   rw [HNN.out] at h9
   exact h9
  have HGX:=Lib.hid HST.out.lt
  have HRL:=Lib.hid HS.out.recs
  have HMORE : Hid (∀ w5 us,MM w5 g hi { s with ttl:=th } ⟨xt,xq,xl,xc⟩ us → ∀ A c,w5.ownsRow (g + 1) 39 12 (.slice A N c) N (fl mcl s.recs) → ∃ A2 c2 w2,(Builtin.append_ #[23,23] 23 #[.slice A N c,.slice (some ⟨w5.heap.size,0,none⟩) 1 1]).run Tryz.prog (w5.alloc (.cells (rvOf cc).cells 39)) = .ok (.slice A2 (N + 1) c2) w2 ∧
   (∃ b f' us',MM (w2.setCell ⟨g,3,none⟩ (.slice A2 (N + 1) c2)) g (hi.1,b) s' f' us') ∧ Below (g + 1) w5 w2 ∧ (∃ u,w2.cell? ⟨g,3,none⟩ = some u) ∧ w2.frozen? ⟨g,3,none⟩ = false):=fun w5 us hm A c hv=>by
   obtain ⟨A2,c2,w2,hr1,hm1,hb1,vr,vw,hg1⟩:=hm.more (c:=cc) (v:=.slice A N c) HRL.out (by unfold Own;rw [HNN.out];exact hv)
   rw [show ({ s with ttl:=th } : Ma.S).recs.length = N from HNN.out] at hr1 hm1
   refine ⟨A2,c2,w2,hr1,⟨_,_,_,by rw [HSS.out];exact hm1⟩,hb1,⟨_,hg1.cell 3⟩,hg1.free 3⟩
  rw [hcs] at HMORE
  clear hrec hs' hcs
  have HARM : Hid (∀ w5 us,MM w5 g hi { s with ttl:=th } ⟨xt,xq,xl,xc⟩ us → Kb g W1.drew.heap.size W1.drew w5 → ∃ A5 c5,w5.cell? ⟨g,3,none⟩ = some (.slice A5 N c5) ∧ (w5.alloc (.cells #[.string a0,.int .u16 a1,.int .u16 a2,.int .u32 a3,.string b0,.string b1,.string b2,.int .u32 m0,.int .u32 m1,.int .u32 m2,.int .u32 m3,.int .u32 m4] 39)).cell? ⟨g,3,none⟩ = some (.slice A5 N c5) ∧ w5.ownsRow (g + 1) 39 12 (.slice A5 N c5) N (fl mcl s.recs) ∧ w5.ownsRow (g + 1) 39 12 (.slice A3 N c3) N (fl mcl s.recs)):=fun w5 us hm hk=>by
   obtain ⟨vr5,vw5,q1,q2,_⟩:=hm
   have q3 : w5.ownsRow (g + 1) 39 12 vr5 s.recs.length (fl mcl s.recs):=q2
   rw [HNN.out] at q3
   obtain ⟨A5,c5,e5,_⟩:=ownK_form q3
   subst e5
   exact ⟨A5,c5,q1.cell 3,(q1.alloc _).cell 3,q3,rec_kb HROW.out hk (Nat.le_refl _)⟩
  have HBB:=Lib.hid HB1.out
  go_region_law (first
   | (go_simp;refine HREC.out.mono ?_;rintro e w5 ⟨rfl,⟨us,hm5⟩,hk5⟩;obtain ⟨A5,c5,e5,e55,hr5,hr3⟩:=HARM.out _ _ hm5 hk5;obtain ⟨A8,c8,w8,hr8,hm8,hb8,⟨u8,e8⟩,f8⟩:=HMORE.out _ _ hm5 _ _ hr3;obtain ⟨A9,c9,w9,hr9,hm9,hb9,⟨u9,e9⟩,f9⟩:=HMORE.out _ _ hm5 _ _ hr5;have HR8:=Lib.hid hr8;have HR9:=Lib.hid hr9;have HM8:=Lib.hid hm8;have HM9:=Lib.hid hm9;have HB8:=Lib.hid hb8;have HB9:=Lib.hid hb9;have HK5:=Lib.hid hk5;clear hm5 hk5 hr5 hr3 hr8 hr9 hm8 hm9 hb8 hb9;dsimp only)
   | (refine append_run (.tmp 44) (.tmp 49) _ _ rfl _ _ rfl rfl HR8.out ?_)
   | (refine append_run (.tmp 44) (.tmp 49) _ _ rfl _ _ rfl rfl HR9.out ?_))
  all_goals
   go_end0
   refine ⟨rfl,?_,?_⟩
   · first
      | exact HM8.out
      | exact HM9.out
   · first
      | exact (((HBB.out.drew.trans (HK5.out.below (Nat.le_of_lt HGX.out))).trans (HB8.out.mono (Nat.le_succ g))).setCell (p:=⟨g,3,none⟩) (Nat.le_refl g) _)
      | exact (((HBB.out.drew.trans (HK5.out.below (Nat.le_of_lt HGX.out))).trans (HB9.out.mono (Nat.le_succ g))).setCell (p:=⟨g,3,none⟩) (Nat.le_refl g) _)
 | false =>
  obtain ⟨dl,hdl⟩ : ∃ dl,dollar kk = dl:=⟨_,rfl⟩
  have HDL:=Lib.hid hdl
  have HPRE : Hid (∀ W,Calls Tryz.prog 37 #[sv kk,.string ⟨#[36]⟩] W fun e w' => e = .returned (.bool dl) ∧ w' = W):=fun W=>by
   have:=hasPre_any kk W HKL.out
   rwa [hdl] at this
  clear hdl
  cases dl with
  | true =>
   have hd : Ma.directive s ⟨xt,xq,xl,xc⟩ r = .ok s':=by
    have:=HE.out
    unfold Ma.entry at this
    rw [HDIR.out,HDL.out] at this
    simpa using this
   have HDR : Hid (∀ W,MM W g hi s ⟨xt,xq,xl,xc⟩ (⟨xt,xq,xl,xc⟩ :: r) → Calls Tryz.prog 39 #[.pointer (some ⟨g,0,none⟩)] W fun e w' => e = .returned (.tuple #[]) ∧ MM w' g hi s' ⟨xt,xq,xl,xc⟩ [] ∧ Kb g W.heap.size W w'):=fun W hM=>by
    have:=maDir_any hM HS.out
    rw [hd] at this
    exact this
   clear hd
   refine HKK.out _ _ ?_
   go_wp2_with (first
    | (go_at_call 38;refine (HKW.out _).mono ?_;rintro e w2 ⟨rfl,hb2⟩;have HM2:=Lib.hid (HST.out.keep hb2);have HB2:=Lib.hid (HB1.out.trans (hb2.mono (Nat.le_of_lt HST.out.lt)));clear hb2)
    | (go_at_call 37;refine (HPRE.out _).mono ?_;rintro e w3 ⟨rfl,rfl⟩)
    | (go_at_call 39;refine (HDR.out _ HM2.out).mono ?_;rintro e w4 ⟨rfl,hm4,hk4⟩;have HM4:=Lib.hid hm4;have HB4:=Lib.hid (HB2.out.trans (hk4.below (Nat.le_of_lt HM2.out.lt)));clear hm4 hk4))
   refine bodyPost_ret (results_none rfl _ _ _) rfl ?_
   exact ⟨rfl,⟨hi.2,_,_,HM4.out⟩,HB4.out⟩
  | false =>
   have hne : ((N : Int) == 4096) = false:=by
    have:=HE.out
    unfold Ma.entry at this
    rw [HDIR.out,HDL.out] at this
    simp only [Bool.and_false,Bool.false_eq_true,if_false] at this
    split at this
    · cases this
    · rename_i h9
      have:=HNN.out
      exact beq_eq_false_iff_ne.2 (by omega)
   refine HKK.out _ _ ?_
   go_wp2_with (first
    | (go_at_call 38;refine (HKW.out _).mono ?_;rintro e w2 ⟨rfl,hb2⟩;have HM2:=Lib.hid (HST.out.keep hb2);have HB2:=Lib.hid (HB1.out.trans (hb2.mono (Nat.le_of_lt HST.out.lt)));have HBK2:=Lib.hid (HBK.out.below hb2 HBK.out.lt);have e3:=HD3.out _ hb2;have HROW2:=Lib.hid (ownK_below HROW1.out hb2 (Nat.le_refl _));have eb : w2.cell? ⟨w.heap.size,0,none⟩ = some (.bool false):=HBK2.out.cell 0;clear hb2)
    | (go_at_call 37;refine (HPRE.out _).mono ?_;rintro e w3 ⟨rfl,rfl⟩))
   have hrec : ∃ h c,Ma.record s ⟨xt,xq,xl,xc⟩ false (⟨xt,xq,xl,xc⟩ :: r) = .ok (h,c) ∧ s' = { s with ttl:=h,recs:=s.recs ++ [c] }:=by
    have:=HE.out
    unfold Ma.entry at this
    rw [HDIR.out,HDL.out] at this
    simp only [Bool.and_false,Bool.false_eq_true,if_false] at this
    split at this
    · cases this
    · cases hq9 : Ma.record s ⟨xt,xq,xl,xc⟩ false (⟨xt,xq,xl,xc⟩ :: r) with
      | error y=>rw [hq9] at this;cases this
      | ok y =>
       rw [hq9] at this
       obtain ⟨h,c⟩:=y
       simp only [Except.ok.injEq] at this
       exact ⟨h,c,rfl,this.symm⟩
   obtain ⟨th,cc,hrec,hs'⟩:=hrec
   have HSS:=Lib.hid hs'
   have HMD:=Lib.hid (HM2.out.keep (Below.refl _ w3).drew)
   obtain ⟨a0,a1,a2,a3,b0,b1,b2,m0,m1,m2,m3,m4,hcs⟩ : ∃ a0 a1 a2 a3 b0 b1 b2 m0 m1 m2 m3 m4,(rvOf cc).cells = #[.string a0,.int .u16 a1,.int .u16 a2,.int .u32 a3,.string b0,.string b1,.string b2,.int .u32 m0,.int .u32 m1,.int .u32 m2,.int .u32 m3,.int .u32 m4]:=⟨_,_,_,_,_,_,_,_,_,_,_,_,rfl⟩
   have HREC : Hid (Calls Tryz.prog 41 #[.pointer (some ⟨g,0,none⟩),.bool false] w3.drew fun e w' => e = .returned (.agg #[.string a0,.int .u16 a1,.int .u16 a2,.int .u32 a3,.string b0,.string b1,.string b2,.int .u32 m0,.int .u32 m1,.int .u32 m2,.int .u32 m3,.int .u32 m4]) ∧ (∃ us,MM w' g hi { s with ttl:=th } ⟨xt,xq,xl,xc⟩ us) ∧ Kb g w3.drew.heap.size w3.drew w'):=by
    have h9:=maRec_any HMD.out HS.out false (fun _=>by simp) (.inr ⟨_,hrec⟩)
    rw [hrec] at h9
    refine h9.mono fun e w' h=>⟨?_,h.2⟩
    rw [h.1,Rv.val,hcs]
   have HROW : Hid (w3.drew.ownsRow (g + 1) 39 12 (.slice A3 N c3) N (fl mcl s.recs)):=by
    have h9:=tk_drew HROW2.out
    rw [HNN.out] at h9
    exact h9
   have HGX:=Lib.hid HM2.out.lt
   have HRL:=Lib.hid HS.out.recs
   have HMORE : Hid (∀ w5 us,MM w5 g hi { s with ttl:=th } ⟨xt,xq,xl,xc⟩ us → ∀ A c,w5.ownsRow (g + 1) 39 12 (.slice A N c) N (fl mcl s.recs) → ∃ A2 c2 w2,(Builtin.append_ #[23,23] 23 #[.slice A N c,.slice (some ⟨w5.heap.size,0,none⟩) 1 1]).run Tryz.prog (w5.alloc (.cells (rvOf cc).cells 39)) = .ok (.slice A2 (N + 1) c2) w2 ∧
    (∃ b f' us',MM (w2.setCell ⟨g,3,none⟩ (.slice A2 (N + 1) c2)) g (hi.1,b) s' f' us') ∧ Below (g + 1) w5 w2 ∧ (∃ u,w2.cell? ⟨g,3,none⟩ = some u) ∧ w2.frozen? ⟨g,3,none⟩ = false):=fun w5 us hm A c hv=>by
    obtain ⟨A2,c2,w2,hr1,hm1,hb1,vr,vw,hg1⟩:=hm.more (c:=cc) (v:=.slice A N c) HRL.out (by unfold Own;rw [HNN.out];exact hv)
    rw [show ({ s with ttl:=th } : Ma.S).recs.length = N from HNN.out] at hr1 hm1
    refine ⟨A2,c2,w2,hr1,⟨_,_,_,by rw [HSS.out];exact hm1⟩,hb1,⟨_,hg1.cell 3⟩,hg1.free 3⟩
   rw [hcs] at HMORE
   clear hrec hs' hcs
   have HARM : Hid (∀ w5 us,MM w5 g hi { s with ttl:=th } ⟨xt,xq,xl,xc⟩ us → Kb g w3.drew.heap.size w3.drew w5 → ∃ A5 c5,w5.cell? ⟨g,3,none⟩ = some (.slice A5 N c5) ∧ (w5.alloc (.cells #[.string a0,.int .u16 a1,.int .u16 a2,.int .u32 a3,.string b0,.string b1,.string b2,.int .u32 m0,.int .u32 m1,.int .u32 m2,.int .u32 m3,.int .u32 m4] 39)).cell? ⟨g,3,none⟩ = some (.slice A5 N c5) ∧ w5.ownsRow (g + 1) 39 12 (.slice A5 N c5) N (fl mcl s.recs) ∧ w5.ownsRow (g + 1) 39 12 (.slice A3 N c3) N (fl mcl s.recs)):=fun w5 us hm hk=>by
    obtain ⟨vr5,vw5,q1,q2,_⟩:=hm
    have q3 : w5.ownsRow (g + 1) 39 12 vr5 s.recs.length (fl mcl s.recs):=q2
    rw [HNN.out] at q3
    obtain ⟨A5,c5,e5,_⟩:=ownK_form q3
    subst e5
    exact ⟨A5,c5,q1.cell 3,(q1.alloc _).cell 3,q3,rec_kb HROW.out hk (Nat.le_refl _)⟩
   have HBB:=Lib.hid HB2.out
   go_region_law (first
    | (go_simp;refine HREC.out.mono ?_;rintro e w5 ⟨rfl,⟨us,hm5⟩,hk5⟩;obtain ⟨A5,c5,e5,e55,hr5,hr3⟩:=HARM.out _ _ hm5 hk5;obtain ⟨A8,c8,w8,hr8,hm8,hb8,⟨u8,e8⟩,f8⟩:=HMORE.out _ _ hm5 _ _ hr3;obtain ⟨A9,c9,w9,hr9,hm9,hb9,⟨u9,e9⟩,f9⟩:=HMORE.out _ _ hm5 _ _ hr5;have HR8:=Lib.hid hr8;have HR9:=Lib.hid hr9;have HM8:=Lib.hid hm8;have HM9:=Lib.hid hm9;have HB8:=Lib.hid hb8;have HB9:=Lib.hid hb9;have HK5:=Lib.hid hk5;clear hm5 hk5 hr5 hr3 hr8 hr9 hm8 hm9 hb8 hb9;dsimp only)
    | (refine append_run (.tmp 44) (.tmp 49) _ _ rfl _ _ rfl rfl HR8.out ?_)
    | (refine append_run (.tmp 44) (.tmp 49) _ _ rfl _ _ rfl rfl HR9.out ?_))
   all_goals
    go_end0
    refine ⟨rfl,?_,?_⟩
    · first
       | exact HM8.out
       | exact HM9.out
    · first
       | exact (((HBB.out.drew.trans (HK5.out.below (Nat.le_of_lt HGX.out))).trans (HB8.out.mono (Nat.le_succ g))).setCell (p:=⟨g,3,none⟩) (Nat.le_refl g) _)
       | exact (((HBB.out.drew.trans (HK5.out.below (Nat.le_of_lt HGX.out))).trans (HB9.out.mono (Nat.le_succ g))).setCell (p:=⟨g,3,none⟩) (Nat.le_refl g) _)
end
end Go.Proofs.YtekafhogiambaaaGreatDoor
