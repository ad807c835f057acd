/- Texts of the proofs, merged. -/
import Derived.Test.YtekafhogiambaaaGreatDoorZc44
import Derived.Deep.CutRange
set_option maxRecDepth 100000
namespace Go.Proofs.YtekafhogiambaaaGreatDoor
open Go.RowKit
set_option linter.unusedVariables false in
set_option maxHeartbeats 1200000 in
theorem walk_backA {w : World} (hLA : LayA w) (hG : Ga w w.heap.size) (o : ByteArray) (ho : o.size ≤ 140737488355328) (A : Option Addr) (rs : List Rv) (c : Nat) (hS : Srow rcl 12 w 0 w.heap.size A rs) (hf : ∀ r ∈ rs,r.fits) (ot : ByteArray) (hot : ot.size ≤ 140737488355328) (ttl : Nat) (text : ByteArray) (hg : Rd.nm ot.data.toList = true ∧ ttl ≤ 2147483647) :
 Calls Tryz.prog 3 #[.string o,.slice A rs.length c,.string ot,.int .u32 ttl,.string text] w fun e w' => e = .returned (.bool true) ∧ Below w.heap.size w w':=by
 have hnO : Rd.nm ot.data.toList = true:=hg.1
 have hsO : (ot : ByteArray).size ≤ 140737488355328:=hot
 have htT : (ttl : Nat) ≤ 2147483647:=hg.2
 obtain ⟨N,hN⟩ : ∃ N,rs.length = N:=⟨_,rfl⟩
 have HN:=Lib.hid hN
 have HHV:=heavy_any o rs A c w hS
 rw [hN] at HHV
 have HHV:=Lib.hid HHV
 have HIS:=Lib.hid (fun W : World=>rdIs_any ot W hot)
 have HP : Hid (∀ (t : ByteArray) (W : World),t.size ≤ 262144 → Below w.heap.size w W → Calls Tryz.prog 8 #[.string t,.string ot,.int .u32 ttl] W fun e w' => ∃ (A : Option Addr) (n c l k x : Nat),e = .returned (.tuple #[.slice A n c,.agg #[.int .i64 l,.int .i64 k],.int .i64 x]) ∧ Below W.heap.size W w' ∧ PaO ⟨ot.data.toList,ttl,false, []⟩ t.data.toList A n c l k x W.heap.size w'):=fun t W ht hB =>
  parse_any ht hnO hsO htT ((hG.below hB).more hB.size)
 have HP0 : Hid (∀ (t : ByteArray) (W : World),t.size ≤ 262144 → Below w.heap.size w W → Calls Tryz.prog 8 #[.string t,.string ⟨#[0]⟩,.int .u32 0] W fun e w' => ∃ (A : Option Addr) (n c l k x : Nat),e = .returned (.tuple #[.slice A n c,.agg #[.int .i64 l,.int .i64 k],.int .i64 x]) ∧ Below W.heap.size W w' ∧ PaO ⟨[0],0,false, []⟩ t.data.toList A n c l k x W.heap.size w'):=fun t W ht hB =>
  parse_any ht (by decide) (by decide) (by decide) ((hG.below hB).more hB.size)
 have HRD : Hid (∀ (W : World),Below w.heap.size w W → Calls Tryz.prog 10 #[] W fun e w' => e = .returned (.bool true) ∧ Below W.heap.size W w'):=fun W hB=>maReads_any W ((hG.below hB).more hB.size)
 have HLA:=Lib.hid hLA
 have HS:=Lib.hid hS
 obtain ⟨S,K,hV,hcase⟩:=Mb.printV_form (o:=o.data.toList) (l:=rs)
 have HPR : Hid (rs.length ≤ 40 → (∀ r ∈ rs,Mp.Light r) → ∀ W,Below w.heap.size w W → Calls Tryz.prog 7 #[.string o,.slice A N c] W fun e w' => e = .returned (.tuple #[.string S,.int .i64 K]) ∧ Below W.heap.size W w'):=fun h40 hl W hB=>by
  have h:=mPrint_any o rs A c W ho (hLA.below hB (Nat.le_refl _)) ((hS.keep hB).more (Nat.le_refl _) hB.size) (by omega) (fun r hr=>Mb.fine_light (hl r hr) (hf r hr))
  rw [hV,hN] at h
  exact h
 have HC:=Lib.hid hcase
 have HF:=Lib.hid hf
 rw [hN]
 clear hLA hG hS hV hcase hf hN
 by_cases ho2 : 2000 < ot.size
 · have d1 : (2000 : Int) < (ot.size : Int):=by omega
   go_enter Tryz.func3,Tryz.ntmps3
   go_wp2_with (go_at_call 5;refine HHV.out.mono ?_;rintro e w1 ⟨B1,hh⟩;have HB1:=Lib.hid B1;clear B1;rcases hh with rfl | ⟨rfl,hh⟩)
   all_goals
    go_ret
    exact ⟨rfl,HB1.out⟩
 have d1 : ¬ (2000 : Int) < (ot.size : Int):=by omega
 by_cases ht2 : 6000 < text.size
 · have d2 : (6000 : Int) < (text.size : Int):=by omega
   go_enter Tryz.func3,Tryz.ntmps3
   go_wp2_with (go_at_call 5;refine HHV.out.mono ?_;rintro e w1 ⟨B1,hh⟩;have HB1:=Lib.hid B1;clear B1;rcases hh with rfl | ⟨rfl,hh⟩)
   all_goals
    go_ret
    exact ⟨rfl,HB1.out⟩
 have d2 : ¬ (6000 : Int) < (text.size : Int):=by omega
 go_enter Tryz.func3,Tryz.ntmps3
 go_upto_region 3 with (go_at_call 5;refine HHV.out.mono ?_;rintro e w1 ⟨B1,hh⟩;have HB1:=Lib.hid B1;clear B1;rcases hh with rfl | ⟨rfl,h40,_,hlt⟩)
 · go_wp2
   go_ret
   exact ⟨rfl,HB1.out⟩
 rw [hg.1] at HIS
 have ht0 : ¬ (2147483647 : Int) < (ttl : Int):=by omega
 go_upto_region 6 with (go_at_call 6;refine (HIS.out _).mono ?_;rintro e w2 ⟨rfl,B2⟩;have HB2:=Lib.hid (HB1.out.trans (B2.mono HB1.out.size));clear B2)
 go_upto_region 7 with (go_at_call 7;refine (HPR.out h40 hlt _ HB2.out).mono ?_;rintro e w3 ⟨rfl,B3⟩;have HB3:=Lib.hid (HB2.out.trans (B3.mono HB2.out.size));clear B3)
 rcases HC.out with ⟨hK,hS3,hno,hbad,hz3⟩ | ⟨hK,hS3,_⟩
 · have hKi : ((K : Int) == 0) = true:=by rw [hK];rfl
   have hpr : ∀ r ∈ rs,Mb.Pr r:=fun r hr=>⟨(HF.out r hr).1,(HF.out r hr).2.2.2,Mp.bad_mem hbad r hr⟩
   obtain ⟨es4,h4,t1,_,_,t2⟩:=Mb.print_parse (o:=o.data.toList) (other:=ot.data.toList) hno hnO ttl hpr (by omega)
   rw [← hS3] at t1
   have HT1:=Lib.hid t1
   have HT2:=Lib.hid t2
   have HPRR:=Lib.hid hpr
   clear t1 t2 hS3 hK hno hbad hpr
   go_upto_region 9 with (go_at_call 8;refine (HP.out S _ hz3 HB3.out).mono ?_;rintro e w4 ⟨A4,n4,c4,l4,k4,x4,rfl,B4,P4⟩;have HB4:=Lib.hid (HB3.out.trans (B4.mono HB3.out.size));have HQ4:=Lib.hid P4;clear B4 P4)
   have hb4:=HB4.out.alloc HB4.out.size (.cells #[.int .i64 l4,.int .i64 k4] 31)
   have hbx4:=(Below.refl w4.heap.size w4).alloc (Nat.le_refl _) (.cells #[.int .i64 l4,.int .i64 k4] 31)
   generalize World.alloc w4 (.cells #[.int .i64 l4,.int .i64 k4] 31) = W4 at *
   obtain ⟨y1,y2,y3⟩:=pao_ok HQ4.out HT1.out HT2.out
   have hx4 : ((x4 : Int) != 0) = false:=by rw [y1];rfl
   have hn4 : n4 = N:=by rw [y2,← HN.out];exact List.length_map _
   have hnn : ((n4 : Int) != (N : Int)) = false:=by rw [hn4];simp
   have hs4:=((Mh.srow_own y3).keep hbx4).more (Nat.le_refl _) hbx4.size
   have hsl:=(HS.out.keep hb4).more (Nat.le_refl _) hb4.size
   have HW4:=Lib.hid hb4
   have HSG:=Lib.hid hs4
   have HSL:=Lib.hid hsl
   have HN4:=Lib.hid hn4
   clear hb4 hbx4 y1 y2 y3 hs4 hsl hn4
   go_wp2
   go_loopw [16] (fun i wr => ∃ k : Nat,i = .int .i64 k ∧ k ≤ N ∧ Hid (Below W4.heap.size W4 wr)) (fun i _=>N - (intOf i).toNat)
   case atStart=>exact ⟨0,rfl,Nat.zero_le _,Below.refl _ _⟩
   case round =>
    obtain ⟨k,rfl,hk,HBR⟩:=hrel
    by_cases hlt2 : k < N
    · have hkr : k < rs.length:=by rw [HN.out];exact hlt2
      have hki : (k : Int) < (N : Int):=by omega
      have hki4 : (k : Int) < (n4 : Int):=by rw [HN4.out];exact hki
      have hk0 : (0 : Int) ≤ (k : Int):=by omega
      have hwk : IntKind.i64.wrap ((k : Int) + 1) = ((k + 1 : Nat) : Int):=by rw [IntKind.wrap_i64];have:=HN.out;omega
      obtain ⟨ga,oa,rfl,_,hga,hca⟩:=HSL.out.at_ hkr
      obtain ⟨gb,ob,rfl,_,hgb,hcb⟩:=HSG.out.at_ (j:=k) (by rw [List.length_map,List.length_map];exact hkr)
      rw [List.getElem_map,List.getElem_map,Mb.rv_back (HPRR.out _ (List.getElem_mem hkr))] at hcb
      have hty:=(HF.out _ (List.getElem_mem hkr)).1
      have hsh:=(Mb.fine_pr (HPRR.out _ (List.getElem_mem hkr))).2.2.2.1
      generalize rs[k]'hkr = rk at *
      have HFD:=Lib.hid (fun W : World=>r5Fold_any rk W hty hsh)
      have pa:=rec_run rk.fold
      obtain ⟨a0,a1,a2,a3,a4,a5,a6,a7,a8,a9,a10,a11,hfc⟩ : ∃ a0 a1 a2 a3 a4 a5 a6 a7 a8 a9 a10 a11,rk.fold.cells = #[.string a0,.int .u16 a1,.int .u16 a2,.int .u32 a3,.string a4,.string a5,.string a6,.int .u32 a7,.int .u32 a8,.int .u32 a9,.int .u32 a10,.int .u32 a11]:=⟨_,_,_,_,_,_,_,_,_,_,_,_,rfl⟩
      have hrc : rcl rk.fold = [.string a0,.int .u16 a1,.int .u16 a2,.int .u32 a3,.string a4,.string a5,.string a6,.int .u32 a7,.int .u32 a8,.int .u32 a9,.int .u32 a10,.int .u32 a11]:=by unfold rcl;rw [hfc]
      rw [hrc] at hcb
      rw [Rv.val,hfc] at pa
      obtain ⟨b0,b1,b2,b3,b4,b5,b6,b7,b8,b9,b10,b11,hfb⟩ : ∃ b0 b1 b2 b3 b4 b5 b6 b7 b8 b9 b10 b11,rk.cells = #[.string b0,.int .u16 b1,.int .u16 b2,.int .u32 b3,.string b4,.string b5,.string b6,.int .u32 b7,.int .u32 b8,.int .u32 b9,.int .u32 b10,.int .u32 b11]:=⟨_,_,_,_,_,_,_,_,_,_,_,_,rfl⟩
      have hrb : rcl rk = [.string b0,.int .u16 b1,.int .u16 b2,.int .u32 b3,.string b4,.string b5,.string b6,.int .u32 b7,.int .u32 b8,.int .u32 b9,.int .u32 b10,.int .u32 b11]:=by unfold rcl;rw [hfb]
      rw [hrb] at hca
      have HFD2 : Hid (∀ W,Calls Tryz.prog 9 #[.agg #[.string b0,.int .u16 b1,.int .u16 b2,.int .u32 b3,.string b4,.string b5,.string b6,.int .u32 b7,.int .u32 b8,.int .u32 b9,.int .u32 b10,.int .u32 b11]] W fun e w' => e = .returned (.agg #[.string a0,.int .u16 a1,.int .u16 a2,.int .u32 a3,.string a4,.string a5,.string a6,.int .u32 a7,.int .u32 a8,.int .u32 a9,.int .u32 a10,.int .u32 a11]) ∧ Below W.heap.size W w'):=fun W=>by
       have h:=HFD.out W
       rw [Rv.val,Rv.val,hfc,hfb] at h
       exact h
      clear hfc hrc hfb hrb HFD hty hsh
      have HRA:=Lib.hid hca
      have HRB:=Lib.hid hcb
      have hla:=hga
      have hlb:=hgb
      clear hca hcb
      have rowB : ∀ X,Below W4.heap.size W4 X → X.cell? ⟨gb,ob + k * 12,none⟩ = some (.string a0) ∧ X.cell? ⟨gb,ob + k * 12 + 1,none⟩ = some (.int .u16 a1) ∧ X.cell? ⟨gb,ob + k * 12 + 2,none⟩ = some (.int .u16 a2) ∧ X.cell? ⟨gb,ob + k * 12 + 3,none⟩ = some (.int .u32 a3) ∧ X.cell? ⟨gb,ob + k * 12 + 4,none⟩ = some (.string a4) ∧ X.cell? ⟨gb,ob + k * 12 + 5,none⟩ = some (.string a5) ∧ X.cell? ⟨gb,ob + k * 12 + 6,none⟩ = some (.string a6) ∧ X.cell? ⟨gb,ob + k * 12 + 7,none⟩ = some (.int .u32 a7) ∧ X.cell? ⟨gb,ob + k * 12 + 8,none⟩ = some (.int .u32 a8) ∧ X.cell? ⟨gb,ob + k * 12 + 9,none⟩ = some (.int .u32 a9) ∧ X.cell? ⟨gb,ob + k * 12 + 10,none⟩ = some (.int .u32 a10) ∧ X.cell? ⟨gb,ob + k * 12 + 11,none⟩ = some (.int .u32 a11):=fun X hX=>by
       have h:=range_below hX hgb HRB.out
       exact ⟨h 0 _ rfl,h 1 _ rfl,h 2 _ rfl,h 3 _ rfl,h 4 _ rfl,h 5 _ rfl,h 6 _ rfl,h 7 _ rfl,h 8 _ rfl,h 9 _ rfl,h 10 _ rfl,h 11 _ rfl⟩
      have rowA : ∀ X,Below W4.heap.size W4 X → X.cell? ⟨ga,oa + k * 12,none⟩ = some (.string b0) ∧ X.cell? ⟨ga,oa + k * 12 + 1,none⟩ = some (.int .u16 b1) ∧ X.cell? ⟨ga,oa + k * 12 + 2,none⟩ = some (.int .u16 b2) ∧ X.cell? ⟨ga,oa + k * 12 + 3,none⟩ = some (.int .u32 b3) ∧ X.cell? ⟨ga,oa + k * 12 + 4,none⟩ = some (.string b4) ∧ X.cell? ⟨ga,oa + k * 12 + 5,none⟩ = some (.string b5) ∧ X.cell? ⟨ga,oa + k * 12 + 6,none⟩ = some (.string b6) ∧ X.cell? ⟨ga,oa + k * 12 + 7,none⟩ = some (.int .u32 b7) ∧ X.cell? ⟨ga,oa + k * 12 + 8,none⟩ = some (.int .u32 b8) ∧ X.cell? ⟨ga,oa + k * 12 + 9,none⟩ = some (.int .u32 b9) ∧ X.cell? ⟨ga,oa + k * 12 + 10,none⟩ = some (.int .u32 b10) ∧ X.cell? ⟨ga,oa + k * 12 + 11,none⟩ = some (.int .u32 b11):=fun X hX=>by
       have h:=range_below hX hga HRA.out
       exact ⟨h 0 _ rfl,h 1 _ rfl,h 2 _ rfl,h 3 _ rfl,h 4 _ rfl,h 5 _ rfl,h 6 _ rfl,h 7 _ rfl,h 8 _ rfl,h 9 _ rfl,h 10 _ rfl,h 11 _ rfl⟩
      have ROWB:=Lib.hid rowB
      obtain ⟨f0,f1,f2,f3,f4,f5,f6,f7,f8,f9,f10,f11⟩:=rowA _ HBR.out.drew
      obtain ⟨g0,g1,g2,g3,g4,g5,g6,g7,g8,g9,g10,g11⟩:=rowB _ HBR.out.drew
      have hsr:=HBR.out.size
      clear rowA rowB
      go_upto_region 14 with fail
      go_region_with (go_at_call 9;refine (HFD2.out _).mono ?_;rintro e w5 ⟨rfl,B5⟩;have HBS:=Lib.hid (HBR.out.drew.trans (B5.mono hsr));obtain ⟨z0,z1,z2,z3,z4,z5,z6,z7,z8,z9,z10,z11⟩:=ROWB.out _ HBS.out;clear B5)
      all_goals
       simp only [Act.put,List.getElem_toArray,List.getElem_cons_succ,List.getElem_cons_zero,List.setIfInBounds_toArray,List.set_cons_zero,List.set_cons_succ]
       go_wp2
       exact ⟨⟨k + 1,by go_num,by omega,HBS.out⟩,by simp [intOf];omega⟩
    · obtain rfl : k = N:=by omega
      have hki : ¬ ((k : Int) < (k : Int)):=by omega
      have HB5:=Lib.hid (HW4.out.trans (HBR.out.mono HW4.out.size))
      clear HSG HSL
      go_upto_region 19 with (go_at_call 8;refine (HP.out text _ (by omega) HB5.out).mono ?_;rintro e w6 ⟨A6,n6,c6,l6,k6,x6,rfl,B6,P6⟩;have HB6:=Lib.hid (HB5.out.trans (B6.mono HB5.out.size));have HQ6:=Lib.hid P6;clear B6 P6)
      have hb6:=HB6.out.alloc HB6.out.size (.cells #[.int .i64 l6,.int .i64 k6] 31)
      have hbx6:=(Below.refl w6.heap.size w6).alloc (Nat.le_refl _) (.cells #[.int .i64 l6,.int .i64 k6] 31)
      generalize World.alloc w6 (.cells #[.int .i64 l6,.int .i64 k6] 31) = W6 at *
      have HW6:=Lib.hid hb6
      have HX6:=Lib.hid hbx6
      clear hb6 hbx6
      by_cases hx6 : x6 = 0
      · have hx6i : ((x6 : Int) != 0) = false:=by simp;omega
        obtain ⟨s6,es6,he6,hn6,ho6⟩:=pao_zero HQ6.out hx6
        obtain ⟨q1,q2,q3,q4⟩:=Mb.parse_print hnO htT he6
        obtain ⟨S6,K6,hV6,hc6⟩:=Mb.printV_form (o:=ot.data.toList) (l:=s6.recs.map rvOf)
        have hs6:=Mh.srow_own ho6
        have HPR6 : Hid (∀ W,Below w6.heap.size w6 W → Calls Tryz.prog 7 #[.string ot,.slice A6 n6 c6] W fun e w' => e = .returned (.tuple #[.string S6,.int .i64 K6]) ∧ Below W.heap.size W w'):=fun W hB=>by
         have hBw:=HB6.out.trans (hB.mono HB6.out.size)
         have h:=mPrint_any ot (s6.recs.map rvOf) A6 c6 W hsO (HLA.out.below hBw (Nat.le_refl _)) ((hs6.keep hB).more (Nat.le_refl _) hB.size) (by rw [List.length_map];exact q1) (fun r hr=>Mb.fine_pr (q3 r hr))
         rw [hV6,List.length_map,← hn6] at h
         exact h
        have HQ2:=Lib.hid q2
        have HQ3:=Lib.hid q3
        have HQ4:=Lib.hid q4
        have HQ1:=Lib.hid q1
        have HN6:=Lib.hid hn6
        have HS6:=Lib.hid hs6
        have HC6:=Lib.hid hc6
        clear hx6 he6 hn6 ho6 q1 q2 q3 q4 hV6 hs6 hc6
        go_upto_region 22 with (go_at_call 7;refine (HPR6.out _ HX6.out).mono ?_;rintro e w7 ⟨rfl,B7⟩;have HB7:=Lib.hid (HW6.out.trans (B7.mono HW6.out.size));have HX7:=Lib.hid (HX6.out.trans (B7.mono HX6.out.size));clear B7)
        rcases HC6.out with ⟨hK6,hS6,_,_,hz6⟩ | ⟨hK6,hS6,hk2⟩
        · have hK6i : ((K6 : Int) != 0) = false:=by simp;omega
          obtain ⟨es8,h8,t1,_,_,t2⟩:=Mb.print_parse (o:=ot.data.toList) (other := [0]) hnO (by decide) 0 (l:=s6.recs.map rvOf) HQ3.out (by rw [List.length_map];exact HQ1.out)
          rw [← hS6] at t1
          rw [HQ4.out] at t2
          have HT1:=Lib.hid t1
          have HT2:=Lib.hid t2
          clear t1 t2 hS6 hK6
          go_upto_region 25 with (go_at_call 8;refine (HP0.out S6 _ hz6 HB7.out).mono ?_;rintro e w8 ⟨A8,n8,c8,l8,k8,x8,rfl,B8,P8⟩;have HB8:=Lib.hid (HB7.out.trans (B8.mono HB7.out.size));have HX8:=Lib.hid (HX7.out.trans (B8.mono HX7.out.size));have HQ8:=Lib.hid P8;clear B8 P8)
          have hb8:=HB8.out.alloc HB8.out.size (.cells #[.int .i64 l8,.int .i64 k8] 31)
          have hbx8:=(Below.refl w8.heap.size w8).alloc (Nat.le_refl _) (.cells #[.int .i64 l8,.int .i64 k8] 31)
          have hbx9:=HX8.out.alloc HX8.out.size (.cells #[.int .i64 l8,.int .i64 k8] 31)
          generalize World.alloc w8 (.cells #[.int .i64 l8,.int .i64 k8] 31) = W8 at *
          have HW8:=Lib.hid hb8
          have HX9:=Lib.hid hbx9
          have HXX8:=Lib.hid hbx8
          clear hb8 hbx8 hbx9
          obtain ⟨y1,y2,y3⟩:=pao_ok HQ8.out HT1.out HT2.out
          have hx8 : ((x8 : Int) == 0) = true:=by rw [y1];rfl
          have hs8:=Mh.srow_own y3
          have HEQ : Hid (∀ W : World,Below W8.heap.size W8 W → Calls Tryz.prog 11 #[.slice A6 n6 c6,.slice A8 n8 c8] W fun e w' => e = .returned (.bool true) ∧ Below W.heap.size W w'):=fun W hB=>by
           have hb1:=HX9.out.trans (hB.mono HX9.out.size)
           have hb2:=HXX8.out.trans (hB.mono HXX8.out.size)
           have h:=Mh.equal_any (w:=W) (A:=A6) (B:=A8) (c:=c6) (c2:=c8) (rs:=s6.recs) ((HS6.out.keep hb1).more (Nat.le_refl _) hb1.size) ((hs8.keep hb2).more (Nat.le_refl _) hb2.size) (by have:=HQ1.out;omega)
           rw [← HN6.out] at h
           rw [show n8 = n6 from by rw [y2,HN6.out]]
           exact h
          clear y1 y2 y3 hs8
          go_wp2_with (first
           | (go_at_call 11;refine (HEQ.out _ (Below.refl _ _)).mono ?_;rintro e w9 ⟨rfl,B9⟩;have HB9:=Lib.hid (HW8.out.trans (B9.mono HW8.out.size));clear B9)
           | (go_at_call 10;refine (HRD.out _ HB9.out).mono ?_;rintro e w10 ⟨rfl,B10⟩;have HB10:=Lib.hid (HB9.out.trans (B10.mono HB9.out.size));clear B10))
          go_ret
          exact ⟨rfl,HB10.out⟩
        · have hK6i : ((K6 : Int) != 0) = true:=by simp;omega
          have hk:=hk2 hnO HQ2.out
          have hK2 : ((K6 : Int) == 2) = true:=by rw [hk];rfl
          subst hS6
          clear hk hk2 hK6
          go_wp2_with (go_at_call 10;refine (HRD.out _ HB7.out).mono ?_;rintro e w8 ⟨rfl,B8⟩;have HB8:=Lib.hid (HB7.out.trans (B8.mono HB7.out.size));clear B8)
          go_ret
          exact ⟨rfl,HB8.out⟩
      · have hx6i : ((x6 : Int) != 0) = true:=by simp;omega
        have hn6 : ((n6 : Int) == 0) = true:=by rw [pao_none HQ6.out hx6];rfl
        go_wp2_with (go_at_call 10;refine (HRD.out _ HW6.out).mono ?_;rintro e w7 ⟨rfl,B7⟩;have HB7:=Lib.hid (HW6.out.trans (B7.mono HW6.out.size));clear B7)
        go_ret
        exact ⟨rfl,HB7.out⟩
 · have hKi : ((K : Int) == 0) = false:=by simp;omega
   subst hS3
   clear hK
   have HB5:=HB3
   go_upto_region 19 with (go_at_call 8;refine (HP.out text _ (by omega) HB5.out).mono ?_;rintro e w6 ⟨A6,n6,c6,l6,k6,x6,rfl,B6,P6⟩;have HB6:=Lib.hid (HB5.out.trans (B6.mono HB5.out.size));have HQ6:=Lib.hid P6;clear B6 P6)
   have hb6:=HB6.out.alloc HB6.out.size (.cells #[.int .i64 l6,.int .i64 k6] 31)
   have hbx6:=(Below.refl w6.heap.size w6).alloc (Nat.le_refl _) (.cells #[.int .i64 l6,.int .i64 k6] 31)
   generalize World.alloc w6 (.cells #[.int .i64 l6,.int .i64 k6] 31) = W6 at *
   have HW6:=Lib.hid hb6
   have HX6:=Lib.hid hbx6
   clear hb6 hbx6
   by_cases hx6 : x6 = 0
   · have hx6i : ((x6 : Int) != 0) = false:=by simp;omega
     obtain ⟨s6,es6,he6,hn6,ho6⟩:=pao_zero HQ6.out hx6
     obtain ⟨q1,q2,q3,q4⟩:=Mb.parse_print hnO htT he6
     obtain ⟨S6,K6,hV6,hc6⟩:=Mb.printV_form (o:=ot.data.toList) (l:=s6.recs.map rvOf)
     have hs6:=Mh.srow_own ho6
     have HPR6 : Hid (∀ W,Below w6.heap.size w6 W → Calls Tryz.prog 7 #[.string ot,.slice A6 n6 c6] W fun e w' => e = .returned (.tuple #[.string S6,.int .i64 K6]) ∧ Below W.heap.size W w'):=fun W hB=>by
      have hBw:=HB6.out.trans (hB.mono HB6.out.size)
      have h:=mPrint_any ot (s6.recs.map rvOf) A6 c6 W hsO (HLA.out.below hBw (Nat.le_refl _)) ((hs6.keep hB).more (Nat.le_refl _) hB.size) (by rw [List.length_map];exact q1) (fun r hr=>Mb.fine_pr (q3 r hr))
      rw [hV6,List.length_map,← hn6] at h
      exact h
     have HQ2:=Lib.hid q2
     have HQ3:=Lib.hid q3
     have HQ4:=Lib.hid q4
     have HQ1:=Lib.hid q1
     have HN6:=Lib.hid hn6
     have HS6:=Lib.hid hs6
     have HC6:=Lib.hid hc6
     clear hx6 he6 hn6 ho6 q1 q2 q3 q4 hV6 hs6 hc6
     go_upto_region 22 with (go_at_call 7;refine (HPR6.out _ HX6.out).mono ?_;rintro e w7 ⟨rfl,B7⟩;have HB7:=Lib.hid (HW6.out.trans (B7.mono HW6.out.size));have HX7:=Lib.hid (HX6.out.trans (B7.mono HX6.out.size));clear B7)
     rcases HC6.out with ⟨hK6,hS6,_,_,hz6⟩ | ⟨hK6,hS6,hk2⟩
     · have hK6i : ((K6 : Int) != 0) = false:=by simp;omega
       obtain ⟨es8,h8,t1,_,_,t2⟩:=Mb.print_parse (o:=ot.data.toList) (other := [0]) hnO (by decide) 0 (l:=s6.recs.map rvOf) HQ3.out (by rw [List.length_map];exact HQ1.out)
       rw [← hS6] at t1
       rw [HQ4.out] at t2
       have HT1:=Lib.hid t1
       have HT2:=Lib.hid t2
       clear t1 t2 hS6 hK6
       go_upto_region 25 with (go_at_call 8;refine (HP0.out S6 _ hz6 HB7.out).mono ?_;rintro e w8 ⟨A8,n8,c8,l8,k8,x8,rfl,B8,P8⟩;have HB8:=Lib.hid (HB7.out.trans (B8.mono HB7.out.size));have HX8:=Lib.hid (HX7.out.trans (B8.mono HX7.out.size));have HQ8:=Lib.hid P8;clear B8 P8)
       have hb8:=HB8.out.alloc HB8.out.size (.cells #[.int .i64 l8,.int .i64 k8] 31)
       have hbx8:=(Below.refl w8.heap.size w8).alloc (Nat.le_refl _) (.cells #[.int .i64 l8,.int .i64 k8] 31)
       have hbx9:=HX8.out.alloc HX8.out.size (.cells #[.int .i64 l8,.int .i64 k8] 31)
       generalize World.alloc w8 (.cells #[.int .i64 l8,.int .i64 k8] 31) = W8 at *
       have HW8:=Lib.hid hb8
       have HX9:=Lib.hid hbx9
       have HXX8:=Lib.hid hbx8
       clear hb8 hbx8 hbx9
       obtain ⟨y1,y2,y3⟩:=pao_ok HQ8.out HT1.out HT2.out
       have hx8 : ((x8 : Int) == 0) = true:=by rw [y1];rfl
       have hs8:=Mh.srow_own y3
       have HEQ : Hid (∀ W : World,Below W8.heap.size W8 W → Calls Tryz.prog 11 #[.slice A6 n6 c6,.slice A8 n8 c8] W fun e w' => e = .returned (.bool true) ∧ Below W.heap.size W w'):=fun W hB=>by
        have hb1:=HX9.out.trans (hB.mono HX9.out.size)
        have hb2:=HXX8.out.trans (hB.mono HXX8.out.size)
        have h:=Mh.equal_any (w:=W) (A:=A6) (B:=A8) (c:=c6) (c2:=c8) (rs:=s6.recs) ((HS6.out.keep hb1).more (Nat.le_refl _) hb1.size) ((hs8.keep hb2).more (Nat.le_refl _) hb2.size) (by have:=HQ1.out;omega)
        rw [← HN6.out] at h
        rw [show n8 = n6 from by rw [y2,HN6.out]]
        exact h
       clear y1 y2 y3 hs8
       go_wp2_with (first
        | (go_at_call 11;refine (HEQ.out _ (Below.refl _ _)).mono ?_;rintro e w9 ⟨rfl,B9⟩;have HB9:=Lib.hid (HW8.out.trans (B9.mono HW8.out.size));clear B9)
        | (go_at_call 10;refine (HRD.out _ HB9.out).mono ?_;rintro e w10 ⟨rfl,B10⟩;have HB10:=Lib.hid (HB9.out.trans (B10.mono HB9.out.size));clear B10))
       go_ret
       exact ⟨rfl,HB10.out⟩
     · have hK6i : ((K6 : Int) != 0) = true:=by simp;omega
       have hk:=hk2 hnO HQ2.out
       have hK2 : ((K6 : Int) == 2) = true:=by rw [hk];rfl
       subst hS6
       clear hk hk2 hK6
       go_wp2_with (go_at_call 10;refine (HRD.out _ HB7.out).mono ?_;rintro e w8 ⟨rfl,B8⟩;have HB8:=Lib.hid (HB7.out.trans (B8.mono HB7.out.size));clear B8)
       go_ret
       exact ⟨rfl,HB8.out⟩
   · have hx6i : ((x6 : Int) != 0) = true:=by simp;omega
     have hn6 : ((n6 : Int) == 0) = true:=by rw [pao_none HQ6.out hx6];rfl
     go_wp2_with (go_at_call 10;refine (HRD.out _ HW6.out).mono ?_;rintro e w7 ⟨rfl,B7⟩;have HB7:=Lib.hid (HW6.out.trans (B7.mono HW6.out.size));clear B7)
     go_ret
     exact ⟨rfl,HB7.out⟩
end Go.Proofs.YtekafhogiambaaaGreatDoor
