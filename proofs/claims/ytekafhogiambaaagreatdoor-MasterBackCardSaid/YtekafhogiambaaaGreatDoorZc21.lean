/- Texts of the proofs, merged. -/
import Derived.Test.YtekafhogiambaaaGreatDoorZc13
import Derived.Test.YtekafhogiambaaaGreatDoorZc4
import Derived.Test.YtekafhogiambaaaGreatDoorZc20
import Derived.Test.YtekafhogiambaaaGreatDoorZc7
import Derived.Deep.RegionWith
import Derived.Deep.RegionHeld3
import Derived.Deep.CutRange
import Derived.Deep.CutBlock
set_option maxRecDepth 100000
namespace Go.Proofs.YtekafhogiambaaaGreatDoor
open Go.RowKit
def hasC (d : Dv) (mr mh mm : Bool) (n : Nat) : Array Value:=#[.string (if mr then d.raw else ⟨#[]⟩),.string (if mh then d.host else ⟨#[]⟩),.string (if mm then d.mail else ⟨#[]⟩),
 .int .u32 ((if 0 < n then d.n0 else 0 : Nat) : Int),.int .u32 ((if 1 < n then d.n1 else 0 : Nat) : Int),.int .u32 ((if 2 < n then d.n2 else 0 : Nat) : Int),.int .u32 ((if 3 < n then d.n3 else 0 : Nat) : Int),.int .u32 ((if 4 < n then d.n4 else 0 : Nat) : Int)]
def hasL (d : Dv) (l : List Nat) : Array Value:=hasC d (Rd.hasRaw l) (Rd.hasHost l) (Rd.hasMail l) (Rd.nums l)
def hasD (d : Dv) (l : List Nat) : Dv:=⟨if Rd.hasRaw l then d.raw else ⟨#[]⟩,if Rd.hasHost l then d.host else ⟨#[]⟩,if Rd.hasMail l then d.mail else ⟨#[]⟩,if 0 < Rd.nums l then d.n0 else 0,if 1 < Rd.nums l then d.n1 else 0,if 2 < Rd.nums l then d.n2 else 0,if 3 < Rd.nums l then d.n3 else 0,if 4 < Rd.nums l then d.n4 else 0⟩
theorem emp_iff (s : ByteArray) : (s.data.toList == []) = true ↔ (⟨#[]⟩ : ByteArray) = s:=by
 rw [beq_iff_eq]
 exact ⟨fun h=>(string_eq h).symm,fun h=>by subst h;rfl⟩
theorem if_num (j n x : Nat) : (if j < n then x else 0) = x ↔ (j < n ∨ x = 0):=by split <;> omega
theorem if_str (b : Bool) (s : ByteArray) : (if b then s else (⟨#[]⟩ : ByteArray)) = s ↔ (b = true ∨ s.data.toList = []):=by
 cases b
 · simp only [Bool.false_eq_true,if_false,false_or]
   rw [← beq_iff_eq (b:=([] : List UInt8)),emp_iff]
 · simp
theorem bare_eq (d : Dv) (l : List Nat) : dvB (hasD d l) d = Rd.bare l d.dt:=by
 rw [Bool.eq_iff_iff,dvB_iff]
 obtain ⟨r,h,m,n0,n1,n2,n3,n4⟩:=d
 unfold Rd.bare hasD Dv.dt
 simp only [Bool.and_eq_true,Bool.or_eq_true,Dv.mk.injEq,decide_eq_true_eq,beq_iff_eq,if_num,if_str,and_assoc]
theorem hasRaw_snoc (l : List Nat) (p : Nat) : Rd.hasRaw (l ++ [p]) = (Rd.hasRaw l || (p == 1 || p == 2 || p == 3 || p == 4)):=by simp [Rd.hasRaw]
theorem hasHost_snoc (l : List Nat) (p : Nat) : Rd.hasHost (l ++ [p]) = (Rd.hasHost l || (p == 5 || p == 6)):=by simp [Rd.hasHost]
theorem hasMail_snoc (l : List Nat) (p : Nat) : Rd.hasMail (l ++ [p]) = (Rd.hasMail l || (p == 7)):=by simp [Rd.hasMail]
theorem hasL_zero (d : Dv) (l : List Nat) : hasL d (l ++ [0]) = hasL d l:=by
 unfold hasL;rw [hasRaw_snoc,hasHost_snoc,hasMail_snoc,Rd.nums_snoc];simp
theorem hasL_raw (d : Dv) (l : List Nat) {p : Nat} (h1 : 1 ≤ p) (h4 : p ≤ 4) : (hasL d l).setIfInBounds 0 (.string d.raw) = hasL d (l ++ [p]):=by
 unfold hasL;rw [hasRaw_snoc,hasHost_snoc,hasMail_snoc,Rd.nums_snoc]
 rcases (by omega : p = 1 ∨ p = 2 ∨ p = 3 ∨ p = 4) with rfl | rfl | rfl | rfl <;> simp [hasC]
theorem hasL_host (d : Dv) (l : List Nat) {p : Nat} (h : p = 5 ∨ p = 6) : (hasL d l).setIfInBounds 1 (.string d.host) = hasL d (l ++ [p]):=by
 unfold hasL;rw [hasRaw_snoc,hasHost_snoc,hasMail_snoc,Rd.nums_snoc]
 rcases h with rfl | rfl <;> simp [hasC]
theorem hasL_mail (d : Dv) (l : List Nat) : (hasL d l).setIfInBounds 2 (.string d.mail) = hasL d (l ++ [7]):=by
 unfold hasL;rw [hasRaw_snoc,hasHost_snoc,hasMail_snoc,Rd.nums_snoc]
 simp [hasC]
theorem hasL_num (d : Dv) (l : List Nat) {p : Nat} (h : p = 8 ∨ p = 9) (hn : Rd.nums l < 5) : (hasL d l).setIfInBounds (3 + Rd.nums l) (.int .u32 (d.n (Rd.nums l) : Nat)) = hasL d (l ++ [p]):=by
 unfold hasL;rw [hasRaw_snoc,hasHost_snoc,hasMail_snoc,Rd.nums_snoc,if_pos h]
 generalize Rd.nums l = n at *
 have e : (p == 1 || p == 2 || p == 3 || p == 4) = false ∧ (p == 5 || p == 6) = false ∧ (p == 7) = false:=by rcases h with rfl | rfl <;> decide
 rw [e.1,e.2.1,e.2.2,Bool.or_false,Bool.or_false,Bool.or_false]
 rcases (by omega : n = 0 ∨ n = 1 ∨ n = 2 ∨ n = 3 ∨ n = 4) with rfl | rfl | rfl | rfl | rfl <;> simp [hasC,Dv.n]
theorem nameIs_any (s : ByteArray) (w : World) (hs : s.size ≤ 140737488355328) :
 Calls Tryz.prog 13 #[.string s] w fun e w' => e = .returned (.int .i64 (if Rd.nm s.data.toList then 0 else 11 : Nat)) ∧ Below w.heap.size w w':=(Check_any s w hs).mono fun e w' ⟨he,hb⟩=>⟨by rw [he];unfold Rd.nm;cases (Nm.split s.data.toList).isSome <;> rfl,hb⟩
theorem rd_hasN (d : Dv) {n : Nat} (h : n < 5) : Rd.hasN d.dt n = d.n n:=by
 rcases (by omega : n = 0 ∨ n = 1 ∨ n = 2 ∨ n = 3 ∨ n = 4) with rfl | rfl | rfl | rfl | rfl <;> rfl
set_option maxHeartbeats 4000000 in
theorem pdCheck_any (t : Nat) (d : Dv) (w : World) (ht : t ≤ 65535) (hL : LayR w) (hf : d.fits) (hr : d.raw.size ≤ 8796093022208) (hh : d.host.size ≤ 140737488355328) (hm : d.mail.size ≤ 140737488355328) :
 Calls Tryz.prog 27 #[.int .u16 t,d.val] w fun e w' => e = .returned (.int .i64 (if Rd.ok t d.dt then 0 else 40 : Nat)) ∧ Below w.heap.size w w':=by
 obtain ⟨R,hR⟩ : ∃ R,(if Rd.ok t d.dt then 0 else 40 : Nat) = R:=⟨_,rfl⟩
 rw [hR]
 have HRES:=Lib.hid hR
 clear hR
 have HF:=Lib.hid hf
 have HL:=Lib.hid hL
 clear hL hf
 have hval : d.val = .agg d.cells:=rfl
 have HX0 : Hid (Has (w.alloc (.cells d.cells 37)) w.heap.size 37 d.cells):=Has.fresh w _ _
 have HPO : ∀ W : World,LayR W → Hid (Calls Tryz.prog 44 #[.int .u16 t] W fun e w' => e = .returned (.agg (partC t)) ∧ Below W.heap.size W w'):=fun W h=>partsOf_any t W ht h
 go_enter Tryz.func27,Tryz.ntmps27
 go_wp2_with (go_at_call 44;refine (HPO _ (HL.out.below (((Below.refl _ _).alloc (Nat.le_refl _) _).alloc (by simp) _) (Nat.le_refl _))).out.mono ?_;rintro e w1 ⟨rfl,B1⟩)
 have HB : Hid (Below w.heap.size w w1):=((((Below.refl _ _).alloc (Nat.le_refl _) _).alloc (by simp) _).trans (B1.mono (by simp;omega)))
 have HD : Hid (Has w1 w.heap.size 37 d.cells):=(HX0.out.alloc _).below B1 (by simp;omega)
 have HG : Hid (Has w1 (w.heap.size + 1) 37 (hasL d [])):=by
  have h : Has ((w.alloc (.cells d.cells 37)).alloc (.cells (hasL d []) 37)) (w.alloc (.cells d.cells 37)).heap.size 37 (hasL d []):=Has.fresh _ _ _
  have h2:=h.below B1 (by simp)
  have e : (w.alloc (.cells d.cells 37)).heap.size = w.heap.size + 1:=by simp
  rw [e] at h2
  exact h2
 have hz1 : w.heap.size + 1 < w1.heap.size:=by have:=B1.size;simp at this;omega
 clear B1 HX0
 go_loopw [6,12] (fun nn i wr => ∃ k : Nat,i = .int .i64 k ∧ k ≤ 7 ∧ nn = .int .i64 (Rd.nums ((Rd.parts t).take k) : Nat) ∧ Hid (Rd.fitAll d.dt ((Rd.parts t).take k) 0 = true) ∧ Hid (Has wr w.heap.size 37 d.cells) ∧ Hid (Has wr (w.heap.size + 1) 37 (hasL d ((Rd.parts t).take k))) ∧ Hid (Below w.heap.size w wr)) (fun _ i _=>7 - (intOf i).toNat)
 case atStart=>exact ⟨0,rfl,by omega,by simp [Rd.nums],rfl,HD,HG,HB⟩
 case round =>
  obtain ⟨k,rfl,hk,rfl,HFA,HD1,HG1,HB1⟩:=hrel
  have hbs:=HB1.out.size
  have hg2:=HG1.out.lt
  by_cases hlt : k < 7
  · have hkl : k < (Rd.parts t).length:=by rw [Rd.parts_len];exact hlt
    have hix:=part_at hkl
    have hp9 : (Rd.parts t)[k] ≤ 9:=Rd.parts_lt t _ (List.getElem_mem hkl)
    have htk : (Rd.parts t).take (k + 1) = (Rd.parts t).take k ++ [(Rd.parts t)[k]]:=List.take_succ_eq_append_getElem hkl
    have hn5 : Rd.nums ((Rd.parts t).take (k + 1)) ≤ 5:=Rd.nums_le
    rw [htk] at hn5
    have HTK:=Lib.hid htk
    clear htk
    generalize (Rd.parts t)[k] = p at *
    obtain ⟨q,hq⟩ : ∃ q : Int,((p : Nat) : Int) = q:=⟨_,rfl⟩
    rw [hq] at hix
    have HQ:=Lib.hid hq
    clear hq
    generalize hps : (Rd.parts t).take k = ps at *
    have HPS:=Lib.hid hps
    clear hps
    have HFX : Hid (Rd.fitAll d.dt (ps ++ [p]) 0 = Rd.fit p d.dt (0 + Rd.nums ps)):=by rw [Hid,Rd.fitAll_snoc,HFA.out,Bool.true_and]
    obtain ⟨b,hb⟩ : ∃ b,Rd.fit p d.dt (0 + Rd.nums ps) = b:=⟨_,rfl⟩
    rw [hb] at HFX
    have HFB:=Lib.hid hb
    clear hb
    have hd7 : decide ((k : Int) < 7) = true:=by simp;omega
    go_upto_block 2 with (fail)
    go_cut [6,9] from 16 to 66 (fun nn c wx=>nn = .int .i64 (Rd.nums (ps ++ [p]) : Nat) ∧ c = .bool b ∧ Hid (Has wx w.heap.size 37 d.cells) ∧ Hid (Has wx (w.heap.size + 1) 37 (hasL d (ps ++ [p]))) ∧ Hid (Below w.heap.size w wx))
    case first =>
     have cr:=dv_raw HD1.out
     have ch:=dv_host HD1.out
     have cm:=dv_mail HD1.out
     by_cases p0 : p = 0
     · subst p0
       obtain rfl : q = 0:=HQ.out.symm
       have hb : true = b:=HFB.out
       subst hb
       go_wp2
       go_meet
       exact ⟨by rw [Rd.nums_snoc];rfl,rfl,HD1,by rw [hasL_zero];exact HG1,HB1⟩
     by_cases p4 : p ≤ 4
     · have HFI:=Lib.hid (fun W : World=>fits_any p d.raw W (by omega) p4 hr)
       have hft : fitR p d.raw.data.toList = b:=(fitR_fit (d:=d.dt) (by omega) p4).trans HFB.out
       have HST:=Lib.hid (hasL_raw d ps (p:=p) (by omega) p4)
       rw [hft] at HFI
       clear hft
       have HNU : Hid (Rd.nums (ps ++ [p]) = Rd.nums ps):=by rw [Hid,Rd.nums_snoc,if_neg (by omega)];rfl
       have hq:=HQ.out
       rcases (by omega : (p = 1 ∧ q = 1) ∨ (p = 2 ∧ q = 2) ∨ (p = 3 ∧ q = 3) ∨ (p = 4 ∧ q = 4)) with ⟨rfl,rfl⟩ | ⟨rfl,rfl⟩ | ⟨rfl,rfl⟩ | ⟨rfl,rfl⟩
       all_goals
        (clear hq
         go_wp2
         go_region_with (go_at_call 45;refine (HFI.out _).mono ?_;rintro e w2 ⟨rfl,B2⟩;have G2:=Has.below (g:=w.heap.size + 1) (t:=37) (cs:=hasL d ps) (by exact HG1.out) B2 (by simp;omega);have c2 : w2.cell? ⟨w.heap.size + 1,0,none⟩ = some _:=G2.cell 0;have f2:=G2.free 0;have D2:=Has.below (g:=w.heap.size) (t:=37) (cs:=d.cells) (by exact HD1.out) B2 (by simp;omega);have cr2:=dv_raw D2;have ch2:=dv_host D2;have cm2:=dv_mail D2;have HG2:=Lib.hid G2;have HD2:=Lib.hid D2;have HB2 : Hid (Below w.heap.size w w2):=Below.trans (by first | exact HB1.out | exact HB1.out.drew | exact HB1.out.drew.drew | exact HB1.out.drew.drew.drew) (B2.mono (by simp;omega));clear G2 D2 B2)
         all_goals
          (simp only [Act.put,List.getElem_toArray,List.getElem_cons_succ,List.getElem_cons_zero,List.setIfInBounds_toArray,List.set_cons_zero,List.set_cons_succ]
           go_wp2
           go_meet
           refine ⟨by rw [HNU.out],rfl,Has.far (by exact HD2.out) (by simp) _,?_,?_⟩
           · rw [← HST.out];exact Has.set (by exact HG2.out) _ _
           · exact Below.setCell (by first | exact HB2.out | exact HB2.out.drew | exact HB2.out.drew.drew | exact HB2.out.drew.drew.drew) (by simp) _))
     have HI1:=Lib.hid (fun W : World=>nameIs_any d.host W hh)
     have HI2:=Lib.hid (fun W : World=>nameIs_any d.mail W hm)
     by_cases p6 : p = 5 ∨ p = 6
     · have hft : Rd.nm d.host.data.toList = b:=(show Rd.nm d.dt.host = Rd.fit p d.dt (0 + Rd.nums ps) by unfold Rd.fit;rcases p6 with rfl | rfl <;> rfl).trans HFB.out
       have HST:=Lib.hid (hasL_host d ps p6)
       rw [hft] at HI1
       clear hft
       have HNU : Hid (Rd.nums (ps ++ [p]) = Rd.nums ps):=by rw [Hid,Rd.nums_snoc,if_neg (by omega)];rfl
       have hq:=HQ.out
       cases b <;> rcases (by omega : (p = 5 ∧ q = 5) ∨ (p = 6 ∧ q = 6)) with ⟨rfl,rfl⟩ | ⟨rfl,rfl⟩
       all_goals
        (clear hq p6
         go_wp2
         go_region_with (go_at_call 13;refine (HI1.out _).mono ?_;rintro e w2 ⟨rfl,B2⟩;have G2:=Has.below (g:=w.heap.size + 1) (t:=37) (cs:=hasL d ps) (by exact HG1.out) B2 (by simp;omega);have c2 : w2.cell? ⟨w.heap.size + 1,1,none⟩ = some _:=G2.cell 1;have f2:=G2.free 1;have D2:=Has.below (g:=w.heap.size) (t:=37) (cs:=d.cells) (by exact HD1.out) B2 (by simp;omega);have cr2:=dv_raw D2;have ch2:=dv_host D2;have cm2:=dv_mail D2;have HG2:=Lib.hid G2;have HD2:=Lib.hid D2;have HB2 : Hid (Below w.heap.size w w2):=Below.trans (by first | exact HB1.out | exact HB1.out.drew | exact HB1.out.drew.drew | exact HB1.out.drew.drew.drew) (B2.mono (by simp;omega));clear G2 D2 B2)
         all_goals
          (simp only [Act.put,List.getElem_toArray,List.getElem_cons_succ,List.getElem_cons_zero,List.setIfInBounds_toArray,List.set_cons_zero,List.set_cons_succ]
           go_wp2
           go_meet
           refine ⟨by rw [HNU.out],rfl,Has.far (by exact HD2.out) (by simp) _,?_,?_⟩
           · rw [← HST.out];exact Has.set (by exact HG2.out) _ _
           · exact Below.setCell (by first | exact HB2.out | exact HB2.out.drew | exact HB2.out.drew.drew | exact HB2.out.drew.drew.drew) (by simp) _))
     by_cases p7 : p = 7
     · subst p7
       obtain rfl : q = 7:=HQ.out.symm
       have hft : Rd.nm d.mail.data.toList = b:=(show Rd.nm d.dt.mail = Rd.fit 7 d.dt (0 + Rd.nums ps) from rfl).trans HFB.out
       have HST:=Lib.hid (hasL_mail d ps)
       rw [hft] at HI2
       clear hft
       have HNU : Hid (Rd.nums (ps ++ [7]) = Rd.nums ps):=by rw [Hid,Rd.nums_snoc,if_neg (by omega)];rfl
       cases b
       all_goals
        (go_wp2
         go_region_with (go_at_call 13;refine (HI2.out _).mono ?_;rintro e w2 ⟨rfl,B2⟩;have G2:=Has.below (g:=w.heap.size + 1) (t:=37) (cs:=hasL d ps) (by exact HG1.out) B2 (by simp;omega);have c2 : w2.cell? ⟨w.heap.size + 1,2,none⟩ = some _:=G2.cell 2;have f2:=G2.free 2;have D2:=Has.below (g:=w.heap.size) (t:=37) (cs:=d.cells) (by exact HD1.out) B2 (by simp;omega);have cr2:=dv_raw D2;have ch2:=dv_host D2;have cm2:=dv_mail D2;have HG2:=Lib.hid G2;have HD2:=Lib.hid D2;have HB2 : Hid (Below w.heap.size w w2):=Below.trans (by first | exact HB1.out | exact HB1.out.drew | exact HB1.out.drew.drew | exact HB1.out.drew.drew.drew) (B2.mono (by simp;omega));clear G2 D2 B2)
         all_goals
          (simp only [Act.put,List.getElem_toArray,List.getElem_cons_succ,List.getElem_cons_zero,List.setIfInBounds_toArray,List.set_cons_zero,List.set_cons_succ]
           go_wp2
           go_meet
           refine ⟨by rw [HNU.out],rfl,Has.far (by exact HD2.out) (by simp) _,?_,?_⟩
           · rw [← HST.out];exact Has.set (by exact HG2.out) _ _
           · exact Below.setCell (by first | exact HB2.out | exact HB2.out.drew | exact HB2.out.drew.drew | exact HB2.out.drew.drew.drew) (by simp) _))
     have hq:=HQ.out
     have hn4 : Rd.nums ps < 5:=by rw [Rd.nums_snoc,if_pos (by omega)] at hn5;omega
     have HNU : Hid (Rd.nums (ps ++ [p]) = Rd.nums ps + 1):=by rw [Hid,Rd.nums_snoc,if_pos (by omega)]
     have HST:=Lib.hid (hasL_num d ps (p:=p) (by omega) hn4)
     have hx : d.n (Rd.nums ps) ≤ 4294967295:=HF.out _
     have cn:=dv_n HD1.out hn4
     have hfb : b = (if p = 8 then decide (d.n (Rd.nums ps) ≤ 65535) else true):=by
      rw [← HFB.out];unfold Rd.fit
      rw [if_neg (by omega),if_neg (by omega),if_neg (by omega),if_neg (by omega),if_neg (by omega),if_neg (by omega),Nat.zero_add,rd_hasN d hn4]
     have cg : wr.cell? ⟨w.heap.size + 1,3 + Rd.nums ps,none⟩ = some ((hasL d ps)[3 + Rd.nums ps]'(by show _ < 8;omega)):=by rw [HG1.out.cell];simp
     have fg:=HG1.out.free (3 + Rd.nums ps)
     obtain ⟨u,hu⟩ : ∃ u,(hasL d ps)[3 + Rd.nums ps]'(by show _ < 8;omega) = u:=⟨_,rfl⟩
     rw [hu] at cg
     clear hu cr ch cm hn5
     generalize hnn : Rd.nums ps = n at *
     have HNN:=Lib.hid hnn
     clear hnn
     generalize d.n n = x at *
     have HB2:=HB1
     have hni : ((n : Nat) : Int) < 5:=by omega
     have hnj : (0 : Int) ≤ ((n : Nat) : Int):=by omega
     have hne : (⟨w.heap.size + 1,3 + n,none⟩ : Addr) ≠ ⟨w.heap.size,3 + n,none⟩:=fun e=>by injection e with e;omega
     have HNE:=Lib.hid hne
     clear hne
     rcases (by omega : (p = 8 ∧ q = 8) ∨ (p = 9 ∧ q = 9)) with ⟨rfl,rfl⟩ | ⟨rfl,rfl⟩
     · clear hq
       have HFB2 : Hid (b = decide (x ≤ 65535)):=hfb
       clear hfb
       go_wp2
       go_region_held3 (fun W=>W.cell? ⟨w.heap.size,3 + n,none⟩ = some (.int .u32 (x : Nat))) (first | exact cn | exact (cell_set_ne _ HNE.out).trans cn) (first | (go_at_call 46;refine (width_8 _).mono ?_;rintro e w2 ⟨rfl,rfl⟩))
       all_goals
        (go_wp2
         go_meet
         refine ⟨by rw [HNU.out];go_num,?_,Has.far (by exact HD1.out) (by simp) _,?_,?_⟩
         · rw [HFB2.out];congr 1;rw [Bool.eq_iff_iff];simp;omega
         · rw [← HST.out];exact Has.set (by exact HG1.out) _ _
         · exact Below.drew (Below.setCell HB1.out (by simp) _))
     · clear hq
       have HFB2 : Hid (b = true):=hfb
       clear hfb
       go_wp2
       go_region_held3 (fun W=>W.cell? ⟨w.heap.size,3 + n,none⟩ = some (.int .u32 (x : Nat))) (first | exact cn | exact (cell_set_ne _ HNE.out).trans cn) (first | (go_at_call 46;refine (width_9 _).mono ?_;rintro e w2 ⟨rfl,rfl⟩))
       all_goals
        (go_wp2
         go_meet
         refine ⟨by rw [HNU.out];go_num,?_,Has.far (by exact HD1.out) (by simp) _,?_,?_⟩
         · rw [HFB2.out];congr 1;rw [Bool.eq_iff_iff];simp;omega
         · rw [← HST.out];exact Has.set (by exact HG1.out) _ _
         · exact Below.drew (Below.setCell HB1.out (by simp) _))
    case rest =>
     obtain ⟨rfl,rfl,HD2,HG2,HB2⟩:=hcut
     have hg3:=HG2.out.lt
     cases b with
     | true =>
      go_wp2
      go_roundw
      case rel=>exact ⟨k + 1,by go_num,by omega,by rw [HTK.out],by rw [HTK.out];exact HFX.out,HD2,by rw [HTK.out];exact HG2,HB2⟩
      case measure=>simp [intOf];omega
     | false =>
      go_wp2
      go_ret
      refine ⟨?_,HB2.out⟩
      have h0 : Rd.ok t d.dt = false:=by
       rw [Rd.ok_parts,Rd.fitAll_no (k:=k + 1) (by rw [HTK.out];exact HFX.out)];rfl
      rw [← HRES.out,h0];rfl
  · obtain rfl : k = 7:=by omega
    have hall : (Rd.parts t).take 7 = Rd.parts t:=List.take_of_length_le (by rw [Rd.parts_len];omega)
    rw [hall] at HFA HG1
    have hok : Rd.ok t d.dt = Rd.bare (Rd.parts t) d.dt:=by rw [Rd.ok_parts,HFA.out,Bool.true_and]
    have hbare:=bare_eq d (Rd.parts t)
    rw [← hok] at hbare
    have HR:=Lib.hid hbare
    obtain ⟨K,hR⟩ : ∃ K,Rd.ok t d.dt = K:=⟨_,rfl⟩
    rw [hR] at HR HRES
    clear hok hbare hR hall
    have hi8 : (Tryz.prog.info? 37).map (·.size) = some 8:=by kernel_rfl
    have HI:=Lib.hid hi8
    clear hi8
    cases K
    all_goals
     (go_wp2_with (first
      | (refine wpList_load_row rfl 37 (.tmp 5) rfl (w.heap.size + 1) rfl 37 (hasL d (Rd.parts t)) (0,0) _ HG1.out Tryz.underlying37 rfl HI.out ?_)
      | (refine wpList_load_row rfl 37 (.tmp 3) rfl w.heap.size rfl 37 d.cells (0,0) _ HD1.out Tryz.underlying37 rfl HI.out ?_)
      | (refine wpList_neq_data rfl (.tmp 70) (.tmp 71) rfl (hasD d (Rd.parts t)) d rfl rfl _ HR.out ?_))
      go_ret
      exact ⟨by rw [← HRES.out];rfl,HB1.out⟩)
end Go.Proofs.YtekafhogiambaaaGreatDoor
