/- Texts of the proofs, merged. -/
import Derived.Test.YtekafhogiambaaaGreatDoorZc4
import Derived.Test.YtekafhogiambaaaGreatDoorZc7
import Derived.Test.YtekafhogiambaaaGreatDoorZc22
import Derived.Deep.CutBlock
import Derived.Test.YtekafhogiambaaaGreatDoorZc23
import Derived.Test.YtekafhogiambaaaGreatDoorZc17
import Derived.Test.YtekafhogiambaaaGreatDoorZc2
set_option maxRecDepth 100000
namespace Go.Proofs.YtekafhogiambaaaGreatDoor
open Go.RowKit
def Dv.fold (t : Nat) (d : Dv) : Dv :=
 { d with host:=if Rd.isHost t then ⟨(Nm.fold d.host.data.toList).toArray⟩ else d.host,mail:=if Rd.isMail t then ⟨(Nm.fold d.mail.data.toList).toArray⟩ else d.mail }
theorem eight {W : World} {g : Nat} {t : TypeId} {a b c d e f g2 h : Value} (k : Has W g t #[a,b,c,d,e,f,g2,h]) :
 W.cell? ⟨g,0,none⟩ = some a ∧ W.cell? ⟨g,1,none⟩ = some b ∧ W.cell? ⟨g,2,none⟩ = some c ∧ W.cell? ⟨g,3,none⟩ = some d ∧ W.cell? ⟨g,4,none⟩ = some e ∧ W.cell? ⟨g,5,none⟩ = some f ∧ W.cell? ⟨g,6,none⟩ = some g2 ∧ W.cell? ⟨g,7,none⟩ = some h ∧ (∀ j,W.frozen? ⟨g,j,none⟩ = false):=by
 refine ⟨?_,?_,?_,?_,?_,?_,?_,?_,fun j=>k.free j⟩ <;> (rw [k.cell];rfl)
theorem eight_set {W : World} {g : Nat} {t : TypeId} {a b c d e f g2 h a' b' c' d' e' f' g' h' : Value} (k : Has W g t #[a',b',c',d',e',f',g',h']) :
 Has ((((((((W.setCell ⟨g,0,none⟩ a).setCell ⟨g,1,none⟩ b).setCell ⟨g,2,none⟩ c).setCell ⟨g,3,none⟩ d).setCell ⟨g,4,none⟩ e).setCell ⟨g,5,none⟩ f).setCell ⟨g,6,none⟩ g2).setCell ⟨g,7,none⟩ h) g t #[a,b,c,d,e,f,g2,h]:=by
 have k8:=(((((((k.set 0 a).set 1 b).set 2 c).set 3 d).set 4 e).set 5 f).set 6 g2).set 7 h
 simp only [List.setIfInBounds_toArray,List.set_cons_zero,List.set_cons_succ] at k8
 exact k8
theorem eight_below {w W : World} {g B : Nat} {a b c d e f g2 h : Value} (k : Below B w W) (hg : B ≤ g) :
 Below B w ((((((((W.setCell ⟨g,0,none⟩ a).setCell ⟨g,1,none⟩ b).setCell ⟨g,2,none⟩ c).setCell ⟨g,3,none⟩ d).setCell ⟨g,4,none⟩ e).setCell ⟨g,5,none⟩ f).setCell ⟨g,6,none⟩ g2).setCell ⟨g,7,none⟩ h) :=
 (((((((k.setCell (p:=⟨g,0,none⟩) hg a).setCell (p:=⟨g,1,none⟩) hg b).setCell (p:=⟨g,2,none⟩) hg c).setCell (p:=⟨g,3,none⟩) hg d).setCell (p:=⟨g,4,none⟩) hg e).setCell (p:=⟨g,5,none⟩) hg f).setCell (p:=⟨g,6,none⟩) hg g2).setCell (p:=⟨g,7,none⟩) hg h
set_option maxHeartbeats 2000000 in
theorem rdFold_any (t : Nat) (d : Dv) (w : World) (ht : t ≤ 65535) (hh : d.host.size ≤ 140737488355328) (hm : d.mail.size ≤ 140737488355328) :
 Calls Tryz.prog 25 #[.int .u16 t,d.val] w fun e w' => e = .returned (d.fold t).val ∧ Below w.heap.size w w':=by
 have HNM:=Lib.hid (fun W : World=>rdNames_any t W ht)
 unfold Dv.fold
 have HF1:=Lib.hid (fun W : World=>refFold_any d.host W hh)
 have HF2:=Lib.hid (fun W : World=>refFold_any d.mail W hm)
 generalize Nm.fold d.host.data.toList = fh at *
 generalize Nm.fold d.mail.data.toList = fm at *
 obtain ⟨h,hih⟩ : ∃ h,Rd.isHost t = h:=⟨_,rfl⟩
 obtain ⟨m,him⟩ : ∃ m,Rd.isMail t = m:=⟨_,rfl⟩
 rw [hih,him] at HNM ⊢
 clear hih him
 unfold Dv.val
 have hX0:=(Has.fresh w 37 #[.string d.raw,.string d.host,.string d.mail,.int .u32 d.n0,.int .u32 d.n1,.int .u32 d.n2,.int .u32 d.n3,.int .u32 d.n4]).alloc (.cells #[.string ⟨#[]⟩,.string ⟨#[]⟩,.string ⟨#[]⟩,.int .u32 0,.int .u32 0,.int .u32 0,.int .u32 0,.int .u32 0] 37)
 have hZ0:=Has.fresh (w.alloc (.cells #[.string d.raw,.string d.host,.string d.mail,.int .u32 d.n0,.int .u32 d.n1,.int .u32 d.n2,.int .u32 d.n3,.int .u32 d.n4] 37)) 37 #[.string ⟨#[]⟩,.string ⟨#[]⟩,.string ⟨#[]⟩,.int .u32 0,.int .u32 0,.int .u32 0,.int .u32 0,.int .u32 0]
 rw [World.size_alloc] at hZ0
 have HX:=Lib.hid hX0
 have HZ:=Lib.hid hZ0
 have HB0 : Hid (Below w.heap.size w ((w.alloc (.cells #[.string d.raw,.string d.host,.string d.mail,.int .u32 d.n0,.int .u32 d.n1,.int .u32 d.n2,.int .u32 d.n3,.int .u32 d.n4] 37)).alloc (.cells #[.string ⟨#[]⟩,.string ⟨#[]⟩,.string ⟨#[]⟩,.int .u32 0,.int .u32 0,.int .u32 0,.int .u32 0,.int .u32 0] 37))):=((Below.refl _ w).alloc (Nat.le_refl _) _).alloc (by simp) _
 clear hX0 hZ0
 cases h with
 | false =>
  cases m with
  | false =>
   simp only [Bool.false_eq_true,if_false]
   go_enter Tryz.func25,Tryz.ntmps25
   go_wp2_with (go_at_call 43;refine (HNM.out _).mono ?_;rintro e' w1 ⟨rfl,rfl⟩)
   have hZ:=(Has.fresh (w.alloc (.cells #[.string d.raw,.string d.host,.string d.mail,.int .u32 d.n0,.int .u32 d.n1,.int .u32 d.n2,.int .u32 d.n3,.int .u32 d.n4] 37)) 37 #[.string d.raw,.string d.host,.string d.mail,.int .u32 d.n0,.int .u32 d.n1,.int .u32 d.n2,.int .u32 d.n3,.int .u32 d.n4])
   rw [World.size_alloc] at hZ
   refine bodyPost_ret (results_cell_row rfl _ _ (w.heap.size + 1) 37 _ _ _ rfl hZ Tryz.underlying37 rfl (by kernel_rfl)) rfl ?_
   exact ⟨rfl,((Below.refl _ w).alloc (Nat.le_refl _) _).alloc (by simp) _⟩
  | true =>
   simp only [Bool.false_eq_true,if_false,if_true]
   go_enter Tryz.func25,Tryz.ntmps25
   go_wp2_with (first
    | (go_at_call 43;refine (HNM.out _).mono ?_;rintro e' w1 ⟨rfl,rfl⟩)
    | (go_at_call 24;(with_reducible refine (HF2.out _).mono ?_);rintro e' w3 ⟨rfl,B3⟩;have HX3:=Lib.hid (HX.out.below B3 (by simp;omega));have HZ3:=Lib.hid (HZ.out.below B3 (by simp));have HB3:=Lib.hid (HB0.out.trans (B3.mono (by simp;omega)));have x3:=eight HX3.out;have z3:=eight HZ3.out;have hs3:=B3.size;simp only [World.size_alloc] at hs3;obtain ⟨xa3,xb3,xc3,xd3,xe3,xf3,xg3,xh3,xy3⟩:=x3;obtain ⟨_,_,_,_,_,_,_,_,zy3⟩:=z3;have fx3:=xy3 1;have fx23:=xy3 2;clear B3))
   have hZ:=eight_set (a:=.string d.raw) (b:=.string d.host) (c:=.string ⟨fm.toArray⟩) (d:=.int .u32 d.n0) (e:=.int .u32 d.n1) (f:=.int .u32 d.n2) (g2:=.int .u32 d.n3) (h:=.int .u32 d.n4) (HZ3.out.far (p:=⟨w.heap.size,2,none⟩) (by simp) (.string ⟨fm.toArray⟩))
   refine bodyPost_ret (results_cell_row rfl _ _ (w.heap.size + 1) 37 _ _ _ rfl hZ Tryz.underlying37 rfl (by kernel_rfl)) rfl ?_
   exact ⟨rfl,eight_below (HB3.out.setCell (p:=⟨w.heap.size,2,none⟩) (Nat.le_refl _) _) (Nat.le_succ _)⟩
 | true =>
  cases m with
  | false =>
   simp only [Bool.false_eq_true,if_false,if_true]
   go_enter Tryz.func25,Tryz.ntmps25
   go_wp2_with (first
    | (go_at_call 43;refine (HNM.out _).mono ?_;rintro e' w1 ⟨rfl,rfl⟩)
    | (go_at_call 24;(with_reducible refine (HF1.out _).mono ?_);rintro e' w2 ⟨rfl,B2⟩;have HX2:=Lib.hid (HX.out.below B2 (by simp;omega));have HZ2:=Lib.hid (HZ.out.below B2 (by simp));have HB2:=Lib.hid (HB0.out.trans (B2.mono (by simp;omega)));have x2:=eight HX2.out;have z2:=eight HZ2.out;have hs2:=B2.size;simp only [World.size_alloc] at hs2;obtain ⟨xa2,xb2,xc2,xd2,xe2,xf2,xg2,xh2,xy2⟩:=x2;obtain ⟨_,_,_,_,_,_,_,_,zy2⟩:=z2;have fx2:=xy2 1;have fx22:=xy2 2;clear B2))
   have hZ:=eight_set (a:=.string d.raw) (b:=.string ⟨fh.toArray⟩) (c:=.string d.mail) (d:=.int .u32 d.n0) (e:=.int .u32 d.n1) (f:=.int .u32 d.n2) (g2:=.int .u32 d.n3) (h:=.int .u32 d.n4) (HZ2.out.far (p:=⟨w.heap.size,1,none⟩) (by simp) (.string ⟨fh.toArray⟩))
   refine bodyPost_ret (results_cell_row rfl _ _ (w.heap.size + 1) 37 _ _ _ rfl hZ Tryz.underlying37 rfl (by kernel_rfl)) rfl ?_
   exact ⟨rfl,eight_below (HB2.out.setCell (p:=⟨w.heap.size,1,none⟩) (Nat.le_refl _) _) (Nat.le_succ _)⟩
  | true =>
   simp only [if_true]
   go_enter Tryz.func25,Tryz.ntmps25
   go_wp2_with (first
    | (go_at_call 43;refine (HNM.out _).mono ?_;rintro e' w1 ⟨rfl,rfl⟩)
    | (go_at_call 24;(with_reducible refine (HF1.out _).mono ?_);rintro e' w2 ⟨rfl,B2⟩;have HX2:=Lib.hid (HX.out.below B2 (by simp;omega));have HZ2:=Lib.hid (HZ.out.below B2 (by simp));have HB2:=Lib.hid (HB0.out.trans (B2.mono (by simp;omega)));have x2:=eight HX2.out;have z2:=eight HZ2.out;have hs2:=B2.size;simp only [World.size_alloc] at hs2;obtain ⟨xa2,xb2,xc2,xd2,xe2,xf2,xg2,xh2,xy2⟩:=x2;obtain ⟨_,_,_,_,_,_,_,_,zy2⟩:=z2;have fx2:=xy2 1;have fx22:=xy2 2;clear B2)
    | (go_at_call 24;(with_reducible refine (HF2.out _).mono ?_);rintro e' w3 ⟨rfl,B3⟩;have HX3:=Lib.hid ((HX2.out.set 1 (.string ⟨fh.toArray⟩)).below B3 (by simp;omega));have HZ3:=Lib.hid ((HZ2.out.far (p:=⟨w.heap.size,1,none⟩) (by simp) (.string ⟨fh.toArray⟩)).below B3 (by simp;omega));have HB3:=Lib.hid ((HB2.out.setCell (p:=⟨w.heap.size,1,none⟩) (Nat.le_refl _) (.string ⟨fh.toArray⟩)).trans (B3.mono (by simp;omega)));have x3:=eight HX3.out;have z3:=eight HZ3.out;have hs3:=B3.size;simp only [World.size_setCell] at hs3;obtain ⟨xa3,xb3,xc3,xd3,xe3,xf3,xg3,xh3,xy3⟩:=x3;obtain ⟨_,_,_,_,_,_,_,_,zy3⟩:=z3;have fx3:=xy3 1;have fx23:=xy3 2;clear B3))
   have hZ:=eight_set (a:=.string d.raw) (b:=.string ⟨fh.toArray⟩) (c:=.string ⟨fm.toArray⟩) (d:=.int .u32 d.n0) (e:=.int .u32 d.n1) (f:=.int .u32 d.n2) (g2:=.int .u32 d.n3) (h:=.int .u32 d.n4) (HZ3.out.far (p:=⟨w.heap.size,2,none⟩) (by simp) (.string ⟨fm.toArray⟩))
   refine bodyPost_ret (results_cell_row rfl _ _ (w.heap.size + 1) 37 _ _ _ rfl hZ Tryz.underlying37 rfl (by kernel_rfl)) rfl ?_
   exact ⟨rfl,eight_below (HB3.out.setCell (p:=⟨w.heap.size,2,none⟩) (Nat.le_refl _) _) (Nat.le_succ _)⟩
end Go.Proofs.YtekafhogiambaaaGreatDoor
namespace Go.Proofs.YtekafhogiambaaaGreatDoor
open Go.RowKit
def fold1 (d : Dv) (p : Nat) : Dv :=
 if p = 5 ∨ p = 6 then { d with host:=⟨(Nm.fold d.host.data.toList).toArray⟩ } else if p = 7 then { d with mail:=⟨(Nm.fold d.mail.data.toList).toArray⟩ } else d
theorem fold1_size (d : Dv) (p : Nat) : (fold1 d p).host.size = d.host.size ∧ (fold1 d p).mail.size = d.mail.size:=by
 have h : ∀ s : ByteArray,(⟨(Nm.fold s.data.toList).toArray⟩ : ByteArray).size = s.size:=fun s=>by
  show ((Nm.fold s.data.toList).toArray).size = s.size
  simp [Nm.fold]
 unfold fold1
 split
 · exact ⟨h _,rfl⟩
 split
 · exact ⟨rfl,h _⟩
 · exact ⟨rfl,rfl⟩
theorem dv_one (D : Dv) : (D.cells.all fun x=>x.oneCell') = true:=by simp [Dv.cells,Value.oneCell']
theorem foldAll (t : Nat) (d : Dv) : (Rd.parts t).foldl fold1 d = d.fold t:=by
 refine Rd.by_type (P:=fun t=>(Rd.parts t).foldl fold1 d = d.fold t) rfl rfl rfl rfl rfl rfl rfl rfl rfl (fun t a b c e f g h i j=>?_) t
 rw [Rd.parts_other a b c e f g h i j]
 have h1 : Rd.isHost t = false:=by simp [Rd.isHost, *]
 have h2 : Rd.isMail t = false:=by simp [Rd.isMail, *]
 unfold Dv.fold
 rw [h1,h2]
 rfl
set_option maxHeartbeats 4000000 in
theorem pdFold_any (t : Nat) (d : Dv) (w : World) (ht : t ≤ 65535) (hL : LayR w) (hh : d.host.size ≤ 140737488355328) (hm : d.mail.size ≤ 140737488355328) :
 Calls Tryz.prog 33 #[.int .u16 t,d.val] w fun e w' => e = .returned (d.fold t).val ∧ Below w.heap.size w w':=by
 obtain ⟨R,hR⟩ : ∃ R,(d.fold t).val = R:=⟨_,rfl⟩
 rw [hR]
 have HRES:=Lib.hid hR
 clear hR
 have HL:=Lib.hid hL
 clear hL
 have hval : d.val = .agg d.cells:=rfl
 have HX0 : Hid (Has (w.alloc (.cells d.cells 37)) w.heap.size 37 d.cells):=Has.fresh w _ _
 have HPO : ∀ W : World,LayR W → Hid (Calls Tryz.prog 44 #[.int .u16 t] W fun e w' => e = .returned (.agg (partC t)) ∧ Below W.heap.size W w'):=fun W h=>partsOf_any t W ht h
 go_enter Tryz.func33,Tryz.ntmps33
 go_wp2_with (go_at_call 44;refine (HPO _ (HL.out.below (((Below.refl _ _).alloc (Nat.le_refl _) _).alloc (by simp) _) (Nat.le_refl _))).out.mono ?_;rintro e w1 ⟨rfl,B1⟩)
 have HB : Hid (Below w.heap.size w w1):=((((Below.refl _ _).alloc (Nat.le_refl _) _).alloc (by simp) _).trans (B1.mono (by simp;omega)))
 have HD : Hid (Has w1 w.heap.size 37 d.cells):=(HX0.out.alloc _).below B1 (by simp;omega)
 have HG : Hid (Has w1 (w.heap.size + 1) 37 #[.string ⟨#[]⟩,.string ⟨#[]⟩,.string ⟨#[]⟩,.int .u32 0,.int .u32 0,.int .u32 0,.int .u32 0,.int .u32 0]):=by
  have h : Has ((w.alloc (.cells d.cells 37)).alloc (.cells #[.string ⟨#[]⟩,.string ⟨#[]⟩,.string ⟨#[]⟩,.int .u32 0,.int .u32 0,.int .u32 0,.int .u32 0,.int .u32 0] 37)) (w.alloc (.cells d.cells 37)).heap.size 37 _:=Has.fresh _ _ _
  have h2:=h.below B1 (by simp)
  have e : (w.alloc (.cells d.cells 37)).heap.size = w.heap.size + 1:=by simp
  rw [e] at h2
  exact h2
 have hz1 : w.heap.size + 1 < w1.heap.size:=by have:=B1.size;simp at this;omega
 clear B1 HX0
 go_loopw [9] (fun i wr => ∃ k : Nat,i = .int .i64 k ∧ k ≤ 7 ∧ Hid (Has wr w.heap.size 37 (((Rd.parts t).take k).foldl fold1 d).cells) ∧ Hid (Has wr (w.heap.size + 1) 37 #[.string ⟨#[]⟩,.string ⟨#[]⟩,.string ⟨#[]⟩,.int .u32 0,.int .u32 0,.int .u32 0,.int .u32 0,.int .u32 0]) ∧ Hid (Below w.heap.size w wr) ∧
  (((Rd.parts t).take k).foldl fold1 d).host.size ≤ 140737488355328 ∧ (((Rd.parts t).take k).foldl fold1 d).mail.size ≤ 140737488355328) (fun i _=>7 - (intOf i).toNat)
 case atStart=>exact ⟨0,rfl,by omega,HD,HG,HB,hh,hm⟩
 case round =>
  obtain ⟨k,rfl,hk,HD1,HG1,HB1,hh1,hm1⟩:=hrel
  have hg2:=HG1.out.lt
  by_cases hlt : k < 7
  · have hkl : k < (Rd.parts t).length:=by rw [Rd.parts_len];exact hlt
    have hix:=part_at hkl
    have hp9 : (Rd.parts t)[k] ≤ 9:=Rd.parts_lt t _ (List.getElem_mem hkl)
    have htk : (Rd.parts t).take (k + 1) = (Rd.parts t).take k ++ [(Rd.parts t)[k]]:=List.take_succ_eq_append_getElem hkl
    have hfo : ((Rd.parts t).take (k + 1)).foldl fold1 d = fold1 (((Rd.parts t).take k).foldl fold1 d) (Rd.parts t)[k]:=by rw [htk,List.foldl_append];rfl
    have hs1:=fold1_size (((Rd.parts t).take k).foldl fold1 d) (Rd.parts t)[k]
    have HFO:=Lib.hid hfo
    have HS1:=Lib.hid hs1
    clear hfo htk hs1
    generalize (Rd.parts t)[k] = p at *
    generalize ((Rd.parts t).take k).foldl fold1 d = d1 at *
    obtain ⟨q,hq⟩ : ∃ q : Int,((p : Nat) : Int) = q:=⟨_,rfl⟩
    rw [hq] at hix
    have HQ:=Lib.hid hq
    clear hq
    have hq:=HQ.out
    have ch:=dv_host HD1.out
    have cm:=dv_mail HD1.out
    by_cases p7 : p = 5 ∨ p = 6 ∨ p = 7
    · have HF1:=Lib.hid (fun W : World=>Fold_any d1.host W hh1)
      have HF2:=Lib.hid (fun W : World=>Fold_any d1.mail W hm1)
      by_cases p5 : p = 7
      · obtain rfl : q = 7:=by omega
        subst p5
        clear hq p7
        go_wp2_with (go_at_call 31;refine (HF2.out _).mono ?_;rintro e w2 ⟨rfl,B2⟩;have hs2:=B2.size;have HD2:=Lib.hid (HD1.out.below B2 (by omega));have HG2:=Lib.hid (HG1.out.below B2 (by omega));have HB2:=Lib.hid (HB1.out.trans (B2.mono (by omega)));have cm2:=dv_mail HD2.out;have fm2:=HD2.out.free 2;clear B2)
        go_roundw
        case rel=>exact ⟨k + 1,by go_num,by omega,by rw [HFO.out];exact HD2.out.set 2 _,HG2.out.far (by simp) _,HB2.out.setCell (by simp) _,by rw [HFO.out,HS1.out.1];exact hh1,by rw [HFO.out,HS1.out.2];exact hm1⟩
        case measure=>simp [intOf];omega
      · rcases (by omega : (p = 5 ∧ q = 5) ∨ (p = 6 ∧ q = 6)) with ⟨rfl,rfl⟩ | ⟨rfl,rfl⟩
        all_goals
         (clear hq p7 p5
          go_wp2_with (go_at_call 31;refine (HF1.out _).mono ?_;rintro e w2 ⟨rfl,B2⟩;have hs2:=B2.size;have HD2:=Lib.hid (HD1.out.below B2 (by omega));have HG2:=Lib.hid (HG1.out.below B2 (by omega));have HB2:=Lib.hid (HB1.out.trans (B2.mono (by omega)));have ch2:=dv_host HD2.out;have fh2:=HD2.out.free 1;clear B2)
          go_roundw
          case rel=>exact ⟨k + 1,by go_num,by omega,by rw [HFO.out];exact HD2.out.set 1 _,HG2.out.far (by simp) _,HB2.out.setCell (by simp) _,by rw [HFO.out,HS1.out.1];exact hh1,by rw [HFO.out,HS1.out.2];exact hm1⟩
          case measure=>simp [intOf];omega)
    · have hf1 : fold1 d1 p = d1:=by unfold fold1;rw [if_neg (by omega),if_neg (by omega)]
      have h5 : ((q : Int) == 5) = false:=beq_eq_false_iff_ne.2 (by omega)
      have h6 : ((q : Int) == 6) = false:=beq_eq_false_iff_ne.2 (by omega)
      have h7 : ((q : Int) == 7) = false:=beq_eq_false_iff_ne.2 (by omega)
      have HF0:=Lib.hid hf1
      clear hf1 hq p7
      go_wp2
      go_roundw
      case rel=>exact ⟨k + 1,by go_num,by omega,by rw [HFO.out,HF0.out];exact HD1,HG1,HB1,by rw [HFO.out,HF0.out];exact hh1,by rw [HFO.out,HF0.out];exact hm1⟩
      case measure=>simp [intOf];omega
  · obtain rfl : k = 7:=by omega
    have hall : (Rd.parts t).take 7 = Rd.parts t:=List.take_of_length_le (by rw [Rd.parts_len];omega)
    rw [hall,foldAll] at HD1
    have hi8 : (Tryz.prog.info? 37).map (·.size) = some 8:=by kernel_rfl
    have HI:=Lib.hid hi8
    clear hi8 hall
    generalize d.fold t = D at *
    go_wp2_with (first
     | (refine wpList_load_row rfl 37 (.tmp 3) rfl w.heap.size rfl 37 D.cells (0,0) _ HD1.out Tryz.underlying37 rfl HI.out ?_)
     | (refine wpList_store_row rfl 37 (.tmp 4) (.tmp 27) rfl (w.heap.size + 1) D.cells rfl rfl 37 _ HG1.out HI.out rfl (dv_one D) ?_))
    refine bodyPost_ret (results_cell_row rfl _ _ (w.heap.size + 1) 37 D.cells (0,0) _ rfl (HG1.out.row _) Tryz.underlying37 rfl HI.out) rfl ?_
    exact ⟨by rw [← HRES.out];rfl,below_setRow HB1.out (by omega) _⟩
end Go.Proofs.YtekafhogiambaaaGreatDoor
namespace Go.Proofs.YtekafhogiambaaaGreatDoor
open Go.RowKit
theorem rC_data (A : Option Addr) (m c i e : Nat) (d : Dv) (n : Nat) {W : World} {g : Nat} {t : TypeId} (h : Has W g t (rC A m c i e d n)) :
 W.cell? ⟨g,1,none⟩ = some (.int .i64 i) ∧ W.cell? ⟨g,2,none⟩ = some (.int .i64 e) ∧ W.cell? ⟨g,3,none⟩ = some (.string d.raw) ∧ W.cell? ⟨g,4,none⟩ = some (.string d.host) ∧ W.cell? ⟨g,5,none⟩ = some (.string d.mail) ∧
  W.cell? ⟨g,6,none⟩ = some (.int .u32 d.n0) ∧ W.cell? ⟨g,7,none⟩ = some (.int .u32 d.n1) ∧ W.cell? ⟨g,8,none⟩ = some (.int .u32 d.n2) ∧ W.cell? ⟨g,9,none⟩ = some (.int .u32 d.n3) ∧ W.cell? ⟨g,10,none⟩ = some (.int .u32 d.n4):=by
 refine ⟨?_,?_,?_,?_,?_,?_,?_,?_,?_,?_⟩ <;> (rw [h.cell];rfl)
end Go.Proofs.YtekafhogiambaaaGreatDoor
namespace Go.Proofs.YtekafhogiambaaaGreatDoor
open Go.RowKit
def TaP (t : Nat) (L : List UInt8) (i n : Nat) (w : World) (e : Ending) (w' : World) : Prop :=
 match Rd.takeR t L i n with
 | some d=>e = .returned (.tuple #[(dv d).val,.int .i64 0]) ∧ Below w.heap.size w w'
 | none=>e = .returned (.tuple #[(dv Rd.dt0).val,.int .i64 (Rd.takeE t L i n)]) ∧ Below w.heap.size w w'
theorem taP_some {t : Nat} {L : List UInt8} {i n : Nat} {d : Rd.Dt} (h : Rd.takeR t L i n = some d) {w w' : World} (hb : Below w.heap.size w w') : TaP t L i n w (.returned (.tuple #[(dv d).val,.int .i64 0])) w':=by
 unfold TaP
 rw [h]
 exact ⟨rfl,hb⟩
theorem taP_none {t : Nat} {L : List UInt8} {i n : Nat} (h : Rd.takeR t L i n = none) {x : Int} (hx : Rd.takeE t L i n = x) {w w' : World} (hb : Below w.heap.size w w') : TaP t L i n w (.returned (.tuple #[(dv Rd.dt0).val,.int .i64 x])) w':=by
 unfold TaP
 rw [h,← hx]
 exact ⟨rfl,hb⟩
theorem fine_fits {L : List UInt8} {E n : Nat} {s : Rd.TS} (h : Rd.Fine L E n s) : (dv s.2.1).fits:=by
 intro k
 match k with
 | 0=>exact h.n0
 | 1=>exact h.n1
 | 2=>exact h.n2
 | 3=>exact h.n3
 | _ + 4=>exact h.n4
set_option maxHeartbeats 2000000 in
theorem pdTake_all (t g0 o0 : Nat) (L : List UInt8) (c i0 n : Nat) (w : World) (ht : t ≤ 65535) (hL : LayR w) (hc : L.length ≤ c) (hm : c ≤ 9223372036854775807) (hl1 : L.length ≤ 140737488355328) (hb : Bs w 0 w.heap.size (some ⟨g0,o0,none⟩) L) (hi0 : i0 + n ≤ L.length) :
 Calls Tryz.prog 120 #[.slice (some ⟨g0,o0,none⟩) L.length c,.int .i64 i0,.int .i64 n,.int .u16 t] w fun e w' => TaP t L i0 n w e w':=by
 have hw1 : IntKind.i64.wrap ((i0 : Int) + (n : Int)) = (i0 : Int) + (n : Int):=by rw [IntKind.wrap_i64];omega
 have hw2 : IntKind.i64.wrap ((L.length : Int) - (i0 : Int)) = (L.length : Int) - (i0 : Int):=by rw [IntKind.wrap_i64];omega
 have d1 : decide ((L.length : Int) < (i0 : Int)) = false:=by simp;omega
 have d2 : decide ((L.length : Int) - (i0 : Int) < (n : Int)) = false:=by simp;omega
 have e1 : decide ((i0 : Int) < 0) = false:=by simp
 have e2 : decide ((n : Int) < 0) = false:=by simp
 have e3 : decide (L.length < i0) = false:=by simp;omega
 have HL:=Lib.hid hL
 have HB0:=Lib.hid hb
 have hi8 : (Tryz.prog.info? 37).map (·.size) = some 8:=by kernel_rfl
 have HI:=Lib.hid hi8
 have HPO : ∀ W : World,LayR W → Hid (Calls Tryz.prog 44 #[.int .u16 t] W fun e w' => e = .returned (.agg (partC t)) ∧ Below W.heap.size W w'):=fun W h=>partsOf_any t W ht h
 clear hL hb hi8
 go_enter Tryz.func120,Tryz.ntmps120
 go_wp2_with (go_at_call 44;refine (HPO _ (HL.out.below (((Below.refl _ _).alloc (Nat.le_refl _) _).alloc (by simp) _) (Nat.le_refl _))).out.mono ?_;rintro e w1 ⟨rfl,B1⟩)
 have HB : Hid (Below w.heap.size w w1):=((((Below.refl _ _).alloc (Nat.le_refl _) _).alloc (by simp) _).trans (B1.mono (by simp;omega)))
 have HZ : Hid (Has w1 w.heap.size 37 (dv Rd.dt0).cells):=((Has.fresh w 37 (dv Rd.dt0).cells).alloc _).below B1 (by simp;omega)
 have HG : Hid (Has w1 (w.heap.size + 1) 195 (rC (some ⟨g0,o0,none⟩) L.length c i0 (i0 + n) (dv Rd.dt0) 0)):=by
  have h : Has ((w.alloc (.cells (dv Rd.dt0).cells 37)).alloc (.cells (rC (some ⟨g0,o0,none⟩) L.length c i0 (i0 + n) (dv Rd.dt0) 0) 195)) (w.alloc (.cells (dv Rd.dt0).cells 37)).heap.size 195 (rC (some ⟨g0,o0,none⟩) L.length c i0 (i0 + n) (dv Rd.dt0) 0):=Has.fresh _ _ _
  have h2:=h.below B1 (by simp)
  have e : (w.alloc (.cells (dv Rd.dt0).cells 37)).heap.size = w.heap.size + 1:=by simp
  rw [e] at h2
  exact h2
 have hz1 : w.heap.size + 1 < w1.heap.size:=by have:=B1.size;simp at this;omega
 clear B1
 obtain ⟨E,hE⟩ : ∃ E,i0 + n = E:=⟨_,rfl⟩
 rw [hE] at HG
 have hEL : E ≤ L.length:=by omega
 have HF0 : Hid (Rd.Fine L E 0 (i0,Rd.dt0,0)):=Rd.fine0 (by omega)
 have HTR : Hid (Rd.takeR t L i0 n = (Rd.tkAll L E (Rd.parts t) (i0,Rd.dt0,0)).bind fun s=>if s.1 = E ∧ Rd.ok t s.2.1 = true then some s.2.1 else none):=by unfold Rd.takeR;rw [hE];rfl
 have HTE : Hid (Rd.takeE t L i0 n = Rd.tkEs L E (Rd.parts t) (i0,Rd.dt0,0)):=by unfold Rd.takeE;rw [hE];rfl
 clear hE e1 e2 e3 d1 d2 hw1 hw2 hi0
 go_loopw [43] (fun i wr => ∃ (k : Nat) (s : Rd.TS),i = .int .i64 k ∧ k ≤ 7 ∧ Hid (Rd.tkAll L E ((Rd.parts t).take k) (i0,Rd.dt0,0) = some s) ∧ Hid (Has wr (w.heap.size + 1) 195 (rC (some ⟨g0,o0,none⟩) L.length c s.1 E (dv s.2.1) s.2.2)) ∧ Hid (Has wr w.heap.size 37 (dv Rd.dt0).cells) ∧ Hid (Below w.heap.size w wr)) (fun i _=>7 - (intOf i).toNat)
 case atStart=>exact ⟨0,(i0,Rd.dt0,0),rfl,by omega,rfl,HG,HZ,HB⟩
 case round =>
  obtain ⟨k,s,rfl,hk,HS,HG1,HZ1,HB1⟩:=hrel
  have hbs:=HB1.out.size
  have hg2:=HG1.out.lt
  have hfs:=Rd.tkAll_fine _ 0 _ s (fun p hp=>Rd.parts_lt t p (List.mem_of_mem_take hp)) HF0.out HS.out
  rw [Nat.zero_add] at hfs
  have HFS:=Lib.hid hfs
  have hsE:=hfs.le
  have hsn:=hfs.nums
  clear hfs
  obtain ⟨si,sd,sn⟩:=s
  by_cases hlt : k < 7
  · have hkl : k < (Rd.parts t).length:=by rw [Rd.parts_len];exact hlt
    have hix:=part_at hkl
    have hp9 : (Rd.parts t)[k] ≤ 9:=Rd.parts_lt t _ (List.getElem_mem hkl)
    have htk : (Rd.parts t).take (k + 1) = (Rd.parts t).take k ++ [(Rd.parts t)[k]]:=List.take_succ_eq_append_getElem hkl
    have hn5 : Rd.nums ((Rd.parts t).take (k + 1)) ≤ 5:=Rd.nums_le
    rw [htk,Rd.nums_snoc,← hsn] at hn5
    have hwhole : Rd.parts t = (Rd.parts t).take k ++ (Rd.parts t)[k] :: (Rd.parts t).drop (k + 1):=by
     rw [← List.drop_eq_getElem_cons hkl,List.take_append_drop]
    have hE1 : ∀ o,Rd.tkP L E (Rd.parts t)[k] (si,sd,sn) = o → Rd.tkAll L E ((Rd.parts t).take (k + 1)) (i0,Rd.dt0,0) = o:=fun o ho=>by
     rw [htk,Rd.tkAll_app,HS.out,Option.bind_some,Rd.tkAll,ho]
     cases o <;> rfl
    have hE2 : Rd.tkP L E (Rd.parts t)[k] (si,sd,sn) = none → Rd.takeR t L i0 n = none ∧ Rd.takeE t L i0 n = Rd.tkE L (Rd.parts t)[k] (si,sd,sn):=fun ho=>by
     have h1:=Rd.tkAll_app L E ((Rd.parts t).take k) ((Rd.parts t)[k] :: (Rd.parts t).drop (k + 1)) (i0,Rd.dt0,0)
     have h2:=Rd.tkEs_app L E ((Rd.parts t).take k) ((Rd.parts t)[k] :: (Rd.parts t).drop (k + 1)) (i0,Rd.dt0,0) _ HS.out
     rw [← hwhole] at h1 h2
     rw [HS.out,Option.bind_some,Rd.tkAll,ho] at h1
     rw [Rd.tkEs,ho] at h2
     exact ⟨by rw [HTR.out,h1];rfl,by rw [HTE.out,h2]⟩
    have HE1:=Lib.hid hE1
    have HE2:=Lib.hid hE2
    clear htk hwhole hE1 hE2
    generalize (Rd.parts t)[k] = p at *
    have HP:=part_all (B:=w.heap.size + 1) HG1.out (Nat.le_refl _) hc hm hl1 ((HB0.out.keep HB1.out).more (Nat.le_refl _) (by omega)) hp9 hsE hEL (fun h=>by rw [if_pos (by omega)] at hn5;omega)
    have hd7 : decide ((k : Int) < 7) = true:=by simp;omega
    obtain ⟨z,hz⟩ : ∃ z : Int,((p : Nat) : Int) = z:=⟨_,rfl⟩
    rw [hz] at hix HP
    have hne:=Rd.tkE_pos L p (si,sd,sn)
    cases ho : Rd.tkP L E p (si,sd,sn) with
    | some s1 =>
     rw [ho] at HP
     have H1:=Lib.hid (HE1.out _ ho)
     obtain ⟨si1,sd1,sn1⟩:=s1
     have HP2 : Hid (Calls Tryz.prog 143 #[.pointer (some ⟨w.heap.size + 1,0,none⟩),.int .u8 z] wr fun en W' => en = .returned (.int .i64 0) ∧ Has W' (w.heap.size + 1) 195 (rC (some ⟨g0,o0,none⟩) L.length c si1 E (dv sd1) sn1) ∧ Below (w.heap.size + 1) wr W'):=HP
     clear hz hn5 HP hne ho
     go_wp2_with (go_at_call 143;(with_reducible refine HP2.out.mono ?_);rintro e' w5 ⟨rfl,H5,B5⟩;have HG5:=Lib.hid H5;have HZ5:=Lib.hid (HZ1.out.below B5 (by omega));have HB5:=Lib.hid (HB1.out.trans (B5.mono (by omega)));clear H5 B5)
     go_roundw
     case rel=>exact ⟨k + 1,(si1,sd1,sn1),by go_num,by omega,H1,HG5,HZ5,HB5⟩
     case measure=>simp [intOf];omega
    | none =>
     rw [ho] at HP
     obtain ⟨h1,h2⟩:=HE2.out ho
     have HN1:=Lib.hid h1
     have HN2:=Lib.hid h2
     clear h1 h2
     generalize Rd.tkE L p (si,sd,sn) = er at *
     have HP2 : Hid (Calls Tryz.prog 143 #[.pointer (some ⟨w.heap.size + 1,0,none⟩),.int .u8 z] wr fun en W' => en = .returned (.int .i64 er) ∧ Below (w.heap.size + 1) wr W'):=HP
     have hne2 : (er != 0) = true:=by simpa using hne
     clear hz hn5 HP hne ho
     go_wp2_with (first
      | (go_at_call 143;(with_reducible refine HP2.out.mono ?_);rintro e' w5 ⟨rfl,B5⟩;have HZ5:=Lib.hid (HZ1.out.below B5 (by omega));have HB5:=Lib.hid (HB1.out.trans (B5.mono (by omega)));clear B5)
      | (refine wpList_store_row rfl 37 (.tmp 8) (.tmp 50) rfl w.heap.size (dv Rd.dt0).cells rfl rfl 37 _ HZ5.out HI.out rfl (dv_one _) ?_))
     refine bodyPost_ret (results_row_tmp rfl _ _ w.heap.size 37 (dv Rd.dt0).cells _ rfl (HZ5.out.row _) Tryz.underlying37 rfl HI.out) rfl ?_
     exact taP_none HN1.out HN2.out (below_setRow HB5.out (Nat.le_refl _) _)
  · obtain rfl : k = 7:=by omega
    have hall' : (Rd.parts t).take 7 = Rd.parts t:=List.take_of_length_le (by rw [Rd.parts_len];omega)
    rw [hall'] at HS
    have htr : Rd.takeR t L i0 n = if si = E ∧ Rd.ok t sd = true then some sd else none:=by rw [HTR.out,HS.out];rfl
    have hte : Rd.takeE t L i0 n = 40:=by
     have:=Rd.tkEs_app L E (Rd.parts t) [] _ _ HS.out
     rw [List.append_nil] at this
     rw [HTE.out,this]
     rfl
    have HTE2:=Lib.hid hte
    obtain ⟨x1,x2,x3,x4,x5,x6,x7,x8,x9,x10⟩:=rC_data _ _ _ _ _ _ _ HG1.out
    by_cases hse : si = E
    · subst hse
      have hrl:=HFS.out.raw
      have hhl:=HFS.out.host
      have hml:=HFS.out.mail
      have HCK:=pdCheck_any t (dv sd) wr ht (HL.out.below HB1.out (Nat.le_refl _)) (fine_fits HFS.out) (by rw [show (dv sd).raw.size = sd.raw.length from mk_size _];have : sd.raw.length ≤ 65535:=hrl;omega) (by rw [show (dv sd).host.size = sd.host.length from mk_size _];have : sd.host.length ≤ 255:=hhl;omega) (by rw [show (dv sd).mail.size = sd.mail.length from mk_size _];have : sd.mail.length ≤ 255:=hml;omega)
      have edt : (dv sd).dt = sd:=rfl
      rw [edt] at HCK
      cases hok : Rd.ok t sd with
      | true =>
       rw [hok,if_pos ⟨rfl,rfl⟩] at htr
       rw [hok] at HCK
       have HTR2:=Lib.hid htr
       have HCK2 : Hid (Calls Tryz.prog 27 #[.int .u16 t,.agg #[.string (dv sd).raw,.string (dv sd).host,.string (dv sd).mail,.int .u32 (dv sd).n0,.int .u32 (dv sd).n1,.int .u32 (dv sd).n2,.int .u32 (dv sd).n3,.int .u32 (dv sd).n4]] wr fun e w' => e = .returned (.int .i64 0) ∧ Below wr.heap.size wr w'):=HCK
       clear hall' HCK htr hte hrl hhl hml edt hok
       go_wp2_with (first
        | (go_at_call 27;(with_reducible refine HCK2.out.mono ?_);rintro e' w5 ⟨rfl,B5⟩;have HB5:=Lib.hid (HB1.out.trans (B5.mono (by omega)));have HZ5:=Lib.hid (HZ1.out.below B5 (by omega));obtain ⟨y1,y2,y3,y4,y5,y6,y7,y8,y9,y10⟩:=rC_data _ _ _ _ _ _ _ (HG1.out.below B5 hg2);clear B5)
        | (refine wpList_store_row rfl 37 (.tmp 8) (.tmp 67) rfl w.heap.size (dv sd).cells rfl rfl 37 _ HZ5.out HI.out rfl (dv_one _) ?_))
       refine bodyPost_ret (results_row_tmp rfl _ _ w.heap.size 37 (dv sd).cells _ rfl (HZ5.out.row _) Tryz.underlying37 rfl HI.out) rfl ?_
       exact taP_some HTR2.out (below_setRow HB5.out (Nat.le_refl _) _)
      | false =>
       rw [hok,if_neg (by simp)] at htr
       rw [hok] at HCK
       have HTR2:=Lib.hid htr
       have HCK2 : Hid (Calls Tryz.prog 27 #[.int .u16 t,.agg #[.string (dv sd).raw,.string (dv sd).host,.string (dv sd).mail,.int .u32 (dv sd).n0,.int .u32 (dv sd).n1,.int .u32 (dv sd).n2,.int .u32 (dv sd).n3,.int .u32 (dv sd).n4]] wr fun e w' => e = .returned (.int .i64 40) ∧ Below wr.heap.size wr w'):=HCK
       clear hall' HCK htr hte hrl hhl hml edt hok
       go_wp2_with (first
        | (go_at_call 27;(with_reducible refine HCK2.out.mono ?_);rintro e' w5 ⟨rfl,B5⟩;have HB5:=Lib.hid (HB1.out.trans (B5.mono (by omega)));have HZ5:=Lib.hid (HZ1.out.below B5 (by omega));clear B5)
        | (refine wpList_store_row rfl 37 (.tmp 8) (.tmp 65) rfl w.heap.size (dv Rd.dt0).cells rfl rfl 37 _ HZ5.out HI.out rfl (dv_one _) ?_))
       refine bodyPost_ret (results_row_tmp rfl _ _ w.heap.size 37 (dv Rd.dt0).cells _ rfl (HZ5.out.row _) Tryz.underlying37 rfl HI.out) rfl ?_
       exact taP_none HTR2.out HTE2.out (below_setRow HB5.out (Nat.le_refl _) _)
    · rw [if_neg (fun h=>hse h.1)] at htr
      have HTR2:=Lib.hid htr
      have hne : ((si : Int) != (E : Int)) = true:=by simp;omega
      clear hall' htr hte hse
      go_wp2_with (refine wpList_store_row rfl 37 (.tmp 8) (.tmp 65) rfl w.heap.size (dv Rd.dt0).cells rfl rfl 37 _ HZ1.out HI.out rfl (dv_one _) ?_)
      refine bodyPost_ret (results_row_tmp rfl _ _ w.heap.size 37 (dv Rd.dt0).cells _ rfl (HZ1.out.row _) Tryz.underlying37 rfl HI.out) rfl ?_
      exact taP_none HTR2.out HTE2.out (below_setRow HB1.out (Nat.le_refl _) _)
theorem pdTake_at (t : Nat) (ht : t ≤ 65535) (B : Nat) (L : List UInt8) (w : World) (hL : LayR w) (hl : L.length ≤ 140737488355328) (hb : Bs w 0 w.heap.size (some ⟨B,0,none⟩) L) :
 Calls Tryz.prog 120 #[.slice (some ⟨B,0,none⟩) L.length L.length,.int .i64 0,.int .i64 L.length,.int .u16 t] w fun e w' => e = .returned (match Rd.takeR t L 0 L.length with
  | some d=>.tuple #[(dv d).val,.int .i64 0]
  | none=>.tuple #[(dv Rd.dt0).val,.int .i64 (Rd.takeE t L 0 L.length)]) ∧ Below w.heap.size w w':=by
 refine (pdTake_all t B 0 L L.length 0 L.length w ht hL (Nat.le_refl _) (by omega) hl hb (by omega)).mono fun e w' h=>?_
 unfold TaP at h
 split at h
 · rename_i d hd
   exact h
 · rename_i hd
   exact h
end Go.Proofs.YtekafhogiambaaaGreatDoor
namespace Go.Proofs.YtekafhogiambaaaGreatDoor
open Go.RowKit
def rz (m : Nat) (out : List UInt8) : Array Value:=(bv out ++ List.replicate (m - out.length) (Value.int .u8 0)).toArray
theorem rz_nil (m : Nat) : rz m [] = (List.replicate m (Value.int .u8 0)).toArray:=by simp [rz,bv]
theorem rz_set {m : Nat} (out : List UInt8) (c : UInt8) (h : out.length < m) : (rz m out).setIfInBounds out.length (.int .u8 (c.toNat : Int)) = rz m (out ++ [c]):=by
 unfold rz
 have e : m - out.length = (m - (out ++ [c]).length) + 1:=by simp;omega
 rw [List.setIfInBounds_toArray,List.set_append_right _ _ (by simp [bv]),bv_length,Nat.sub_self,e,List.replicate_succ,List.set_cons_zero]
 simp [bv]
theorem rz_at {m : Nat} (out : List UInt8) (h : out.length < m) : (rz m out)[out.length]? = some (.int .u8 0):=by
 unfold rz
 rw [List.getElem?_toArray,List.getElem?_append_right (by simp [bv]),bv_length,Nat.sub_self,List.getElem?_replicate,if_pos (by omega)]
theorem Rd.twoR_at : ∀ {ds raw : List UInt8},Rd.twoR ds = some raw → ds.length = 2 * raw.length ∧ ∀ k (h : k < raw.length) (h1 : 2 * k + 1 < ds.length),Rd.hexR [ds[2 * k],ds[2 * k + 1]] = some raw[k].toNat
 | [],raw,h=>by
  injection h with h
  subst h
  exact ⟨rfl,fun k h=>absurd h (by simp)⟩
 | [a],raw,h=>by cases h
 | a :: b :: r,raw,h=>by
  rw [Rd.twoR] at h
  split at h
  · rename_i v s h1 h2
    injection h with h
    subst h
    obtain ⟨e1,e2⟩:=Rd.twoR_at h2
    refine ⟨by simp [e1];omega,fun k hk hk1=>?_⟩
    cases k with
    | zero =>
     have hv : v < 256:=by
      unfold Rd.hexR at h1
      rw [if_neg (by simp),Rd.hexV_hxa] at h1
      have:=(Rd.hxa_le h1).2
      simpa using this
     show Rd.hexR [a,b] = some (UInt8.ofNat v).toNat
     rw [h1]
     congr 1
     simp
     omega
    | succ k=>exact e2 k (by simpa using hk) (by simp at hk1;omega)
  · cases h
theorem Rd.gathR_step {m : Nat} {ds : List UInt8} {w : Rd.W2} {r : List Rd.W2} {y : List UInt8 × List Rd.W2} (h : Rd.gathR m ds (w :: r) = some y) : (ds.length ≤ m ∧ w.2 = false ∧ Rd.gathR m (ds ++ w.1) r = some y) ∨ (¬ ds.length ≤ m ∧ y = (ds,w :: r)):=by
 rw [Rd.gathR] at h
 by_cases h1 : ds.length ≤ m
 · rw [if_pos h1] at h
   cases hw : w.2 with
   | true=>rw [hw] at h;cases h
   | false=>rw [hw] at h;exact .inl ⟨h1,rfl,h⟩
 · rw [if_neg h1] at h
   injection h with h
   exact .inr ⟨h1,h.symm⟩
theorem app_str {ty : TypeId} {B : Nat} {w : World} {v : Value} {acc x : List UInt8} (i0 : TypeInfo) (hi0 : Tryz.prog.info? 5 = some i0) (hz0 : i0.zero = some (.int .u8 0)) (hz1 : i0.size = 1) (hz2 : i0.bytes = 1) (h : w.ownsRow B 5 1 v acc.length (bv acc)) (hm : acc.length + x.length ≤ 140737488355328) (hB : B ≤ w.heap.size) :
 ∃ v' w',(Builtin.append_ #[51,9] ty #[v,sv x]).run Tryz.prog w = .ok v' w' ∧ w'.ownsRow B 5 1 v' (acc ++ x).length (bv (acc ++ x)) ∧ w.grownBy w' v.ownBlock:=by
 have hs : (⟨x.toArray⟩ : ByteArray).size = x.length:=mk_size x
 obtain ⟨v',w',hr,ho,hg,_⟩:=Lib.run_append_own_string (P:=Tryz.prog) w B 51 9 ty 5 i0 Tryz.underlying51 Tryz.underlying9 hi0 hz0 hz1 hz2 v acc.length (bv acc) h ⟨x.toArray⟩ (by unfold maxLen;omega) (by omega) hB
 exact ⟨v',w',hr,own_to ho (by simp [hs]) (by rw [strCells_bv,bv_append]),hg⟩
section
variable {g hi t : Nat} {o : ByteArray} {ws : List Rd.W2} {x0 : Rd.W2} {w : World}
set_option maxHeartbeats 2000000 in
theorem rdAny_ok (h : St w g hi o (x0 :: ws) Rd.dt0 0) (ht : t ≤ 65535) {raw : List UInt8} (hr : Rd.anyR ws = some raw) {d : Rd.Dt} (hd : Rd.takeR t raw 0 raw.length = some d) (h32 : ∀ x ∈ ws,x.1.length < 4294967281) :
 Calls Tryz.prog 98 #[.pointer (some ⟨g,0,none⟩),.int .u16 t] w fun e w' => e = .returned (dv d).val ∧ Kb g w.heap.size w w':=by
 obtain ⟨r0,r1,r2,m0,m1,m2,m3,m4⟩:=d
 obtain ⟨i0,hi0,hz0,hz1,hz2⟩:=info_parts Tryz.infoByte
 have hgw:=h.lt
 unfold Rd.anyR at hr
 obtain ⟨y1,hy1,hq⟩:=Rd.bind_some' hr
 clear hr
 obtain ⟨x1,ws1,rfl,hx1,rfl⟩:=Rd.plainW_some hy1
 obtain ⟨n,hn,hq2⟩:=Rd.bind_some' hq
 clear hq hy1
 obtain ⟨⟨ds,rest⟩,hga,hq⟩:=Rd.bind_some' hq2
 clear hq2
 have hl2 : ds.length = 2 * n:=Decidable.byContradiction fun hl=>by rw [if_neg hl] at hq;cases hq
 rw [if_pos hl2] at hq
 obtain ⟨htl0,hta⟩:=Rd.twoR_at hq
 have htl : ds.length = 2 * raw.length:=htl0
 clear htl0
 have hrn : raw.length = n:=by omega
 have hn16 : n ≤ 65535:=Rd.num_le hn
 have HS0:=Lib.hid h
 have HNB:=Lib.hid (fun (W : World) (hS : St W g hi o (x1 :: ws1) Rd.dt0 0)=>rdNumberR_ok hS hx1 16 (.inr (.inl rfl)) hn)
 have HG:=Lib.hid hga
 have HTA:=Lib.hid hta
 have HRN:=Lib.hid hrn
 have HL2:=Lib.hid hl2
 have H32:=Lib.hid (fun x (hx : x ∈ ws1)=>h32 x (by simp [hx]))
 clear h hq hta hn hga h32 htl hrn hl2
 go_enter Tryz.func98,Tryz.ntmps98
 have hS1 : ∀ W,Below w.heap.size w W → St W g hi o (x0 :: x1 :: ws1) Rd.dt0 0:=fun W hb=>HS0.out.keep hb
 have HN:=Lib.hid (fun (W : World) (hb : Below w.heap.size w W)=>rdNext_any (hS1 W hb))
 clear hS1
 have hB1:=(Below.refl w.heap.size w).alloc (Nat.le_refl _) (.cells #[.string ⟨#[]⟩,.string ⟨#[]⟩,.string ⟨#[]⟩,.int .u32 0,.int .u32 0,.int .u32 0,.int .u32 0,.int .u32 0] 37)
 have hZ1:=Has.fresh w 37 #[.string ⟨#[]⟩,.string ⟨#[]⟩,.string ⟨#[]⟩,.int .u32 0,.int .u32 0,.int .u32 0,.int .u32 0,.int .u32 0]
 have HB1:=Lib.hid hB1
 have HZ1:=Lib.hid hZ1
 have HK1 : Hid (Kb g w.heap.size w (w.alloc (.cells #[.string ⟨#[]⟩,.string ⟨#[]⟩,.string ⟨#[]⟩,.int .u32 0,.int .u32 0,.int .u32 0,.int .u32 0,.int .u32 0] 37))):=Kb.of_below hB1
 clear hB1 hZ1
 go_wp2_with (first
  | (go_at_call 115;refine (HN.out _ HB1.out).mono ?_;rintro e w1 ⟨l1,k1,rfl,S1,K1⟩;have HS1:=Lib.hid S1;have HK2:=Lib.hid (HK1.out.on K1);have HZ2:=Lib.hid (K1.has HZ1.out HZ1.out.lt (by omega));clear S1 K1)
  | (go_at_call 116;refine (HNB.out _ HS1.out).mono ?_;rintro e w2 ⟨rfl,S2,K2⟩;have HS2:=Lib.hid S2;have HK3:=Lib.hid (HK2.out.on K2);have HZ3:=Lib.hid (K2.has HZ2.out HZ2.out.lt (by omega));clear S2 K2))
 have hg0:=HG.out
 go_loopw [6] (fun v wr => ∃ (acc : List UInt8) (rs : List Rd.W2),acc.length ≤ 8000000000 ∧ Hid (Rd.gathR (2 * n) acc rs = some (ds,rest)) ∧ Hid (∀ x ∈ rs,x.1.length < 4294967281) ∧ Hid (wr.ownsRow (w.heap.size + 1) 5 1 v acc.length (bv acc)) ∧ Hid (St wr g hi o rs Rd.dt0 0) ∧ Hid (Kb g w.heap.size w wr) ∧ Hid (Has wr w.heap.size 37 #[.string ⟨#[]⟩,.string ⟨#[]⟩,.string ⟨#[]⟩,.int .u32 0,.int .u32 0,.int .u32 0,.int .u32 0,.int .u32 0])) (fun _ wr=>wlen wr g)
 case atStart=>exact ⟨[],ws1,by simp,HG.out,H32.out,World.ownsRow_nil _ _ _ _,HS2.out,HK3.out,HZ3.out⟩
 case round =>
  obtain ⟨acc,rs,hacc,HGA,H32,HO,HST,HK,HZ⟩:=hrel
  obtain ⟨Av,cv,rfl⟩:=own_form HO.out
  obtain ⟨A,c,c0⟩:=HST.out.front
  have hsz:=HK.out.size
  have hzs:=HZ.out.lt
  cases rs with
  | cons x rs =>
   obtain ⟨h1,h2,h3⟩ : acc.length ≤ 2 * n ∧ x.2 = false ∧ Rd.gathR (2 * n) (acc ++ x.1) rs = some (ds,rest):=by
    rcases Rd.gathR_step HGA.out with h | ⟨h1,h2⟩
    · exact h
    · injection h2 with h2 _
      exfalso
      have:=HL2.out
      rw [h2] at this
      omega
   have hle : decide ((acc.length : Int) ≤ 2 * (n : Int)) = true:=by simp;omega
   have hx32:=H32.out x (by simp)
   have HN2:=Lib.hid (rdPlain_any HST.out h2)
   have HG2:=Lib.hid h3
   have HW:=Lib.hid HST.out.wlen
   have hc : ((x :: rs).length : Int) = (rs.length : Int) + 1:=by simp
   clear h2 h3 hc
   go_wp2_with (first
    | (go_at_call 117;refine HN2.out.mono ?_;rintro e w3 ⟨rfl,S3,K3⟩;have HS3:=Lib.hid S3;have HO3:=Lib.hid (own_kb HO.out K3 (by omega));have HZ3:=Lib.hid (K3.has HZ.out HZ.out.lt (by omega));have hsz3 : w.heap.size + 1 ≤ w3.heap.size:=Nat.le_trans (by omega) K3.size;have HK3:=Lib.hid (HK.out.on K3);clear S3 K3)
    | (at_builtin;refine wpList_append_run rfl (.tmp 29) (.tmp 31) _ _ rfl _ _ rfl rfl (R:=fun v' w' => w'.ownsRow (w.heap.size + 1) 5 1 v' (acc ++ x.1).length (bv (acc ++ x.1)) ∧ w3.grownBy w' (Value.slice Av acc.length cv).ownBlock) (app_str i0 hi0 hz0 hz1 hz2 HO3.out (by omega) hsz3) ?_;rintro v4 w4 ⟨O4,G4⟩;have B4:=below_self G4 (B:=g + 1) (by omega) (fun k hk=>by have:=(HO3.out.lt k hk).1;omega);have HS4:=Lib.hid (HS3.out.keepG B4);have HZ4:=Lib.hid (HZ3.out.grown G4 (fun e=>by have:=(HO3.out.lt _ e.symm).1;omega));have HO4:=Lib.hid O4;have HK4:=Lib.hid (HK3.out.ownRow G4 (fun k hk=>by have:=(HO3.out.lt k hk).1;omega) (by omega));clear O4 G4 B4))
   exact ⟨⟨acc ++ x.1,rs,by simp;omega,HG2.out,fun y hy=>H32.out y (by simp [hy]),HO4.out,HS4.out,HK4.out,HZ4.out⟩,by rw [HS4.out.wlen,HW.out];simp⟩
  | nil =>
   obtain ⟨wq,hwq⟩ : ∃ x,x = wr:=⟨_,rfl⟩
   subst hwq
   replace c0 : wq.cell? ⟨g,0,none⟩ = some (.slice A 0 c):=c0
   have hga:=HGA.out
   rw [Rd.gathR] at hga
   injection hga with hga
   injection hga with hga _
   subst hga
   have hle : ((acc.length : Int) != 2 * (n : Int)) = false:=by
    have:=HL2.out
    simp
    omega
   have HM : Hid (∀ W,LayR W → Bs W 0 W.heap.size (some ⟨wq.heap.size,0,none⟩) raw → Calls Tryz.prog 120 #[.slice (some ⟨wq.heap.size,0,none⟩) n n,.int .i64 0,.int .i64 n,.int .u16 t] W fun e w' => e = .returned (.tuple #[.agg #[sv r0,sv r1,sv r2,.int .u32 m0,.int .u32 m1,.int .u32 m2,.int .u32 m3,.int .u32 m4],.int .i64 0]) ∧ Below W.heap.size W w'):=fun W hL hb=>by
    have:=pdTake_at t ht wq.heap.size raw W hL (by rw [HRN.out];omega) hb
    rw [hd] at this
    rw [HRN.out] at this
    exact this
   clear hd
   have hgr:=HST.out.lt
   go_wp2_with (refine wpList_make_lc rfl (.tmp 40) (.tmp 40) 51 rfl 5 i0 Tryz.underlying51 hi0 hz0 hz1 hz2 .i64 .i64 _ _ n n rfl rfl rfl rfl (Nat.le_refl _) (by omega) ?_;intro w5 H5 B5 Z5;have HH5:=Lib.hid H5;have HB5:=Lib.hid B5;have HZ5:=Lib.hid Z5;clear H5 B5 Z5)
   have h5 : Has w5 wq.heap.size 5 (rz n (raw.take 0)):=by rw [List.take_zero,rz_nil];exact HH5.out
   have H5:=Lib.hid h5
   clear h5
   go_loopw [44] (fun i W => ∃ k : Nat,i = .int .i64 k ∧ k ≤ n ∧ Hid (Has W wq.heap.size 5 (rz n (raw.take k))) ∧ Hid (Below wq.heap.size wq W)) (fun i _=>n - (intOf i).toNat)
   case atStart=>exact ⟨0,rfl,by omega,H5.out,HB5.out⟩
   case round =>
    obtain ⟨k,rfl,hk,HH,HB⟩:=hrel
    by_cases hlt : k < n
    · have hkr : k < raw.length:=by rw [HRN.out];exact hlt
      have h2a : 2 * k + 1 < acc.length:=by have:=HL2.out;omega
      obtain ⟨gd,cp,hv,hcp,hgd,hgd2⟩:=own_pos HO.out (by omega)
      injection hv with hv1 hv2 hv3
      subst hv1
      subst hv3
      have c1:=own_cells HO.out
      have hbs : Bs wr 0 wq.heap.size (some ⟨gd,2 * k,none⟩) [acc[2 * k]'(by omega),acc[2 * k + 1]'h2a]:=fun _=>⟨gd,2 * k,rfl,Nat.zero_le _,hgd2,fun j hj=>by
       have hj2 : j < 2:=hj
       have e:=(HB.out.cell (p:=⟨gd,2 * k + j,none⟩) hgd2).trans (c1 (2 * k + j) _ (bv_get acc (2 * k + j) (by omega)))
       rcases (by omega : j = 0 ∨ j = 1) with rfl | rfl
       · exact e
       · exact e⟩
      have hcv:=run_convert_bs (w:=wr) (P:=Tryz.prog) 51 9 5 Tryz.underlying51 Tryz.underlying5 Tryz.underlying9 0 wq.heap.size (some ⟨gd,2 * k,none⟩) 2 (cv - 2 * k) [acc[2 * k]'(by omega),acc[2 * k + 1]'h2a] rfl hbs
      have hsl : ∀ W',(Instr.sliceAt 51 (.slice (some ⟨gd,0,none⟩) acc.length cv) (some (.int .i64 (2 * (k : Int)))) (some (.int .i64 (2 * (k : Int) + 2))) none).run Tryz.prog W' = .ok (.slice (some ⟨gd,2 * k,none⟩) 2 (cv - 2 * k)) W':=fun W' => by
       rw [run_sliceAt_slice W' 51 _ _ _ _ (by kernel_rfl),run_slice_lh W' 51 (some ⟨gd,0,none⟩) acc.length cv (by kernel_rfl) .i64 .i64 _ _ (by omega) (by omega) (by omega)]
       go_simp
       have q1 : (2 * (k : Int)).toNat = 2 * k:=by omega
       have q2 : (2 * (k : Int) + 2).toNat = 2 * k + 2:=by omega
       rw [q1,q2,if_neg (by omega)]
       exact ⟨rfl,by omega,rfl⟩
      have HX:=Lib.hid (fun (W' : World)=>rdHex_ok (.pointer (some ⟨g,0,none⟩)) _ W' (HTA.out k hkr h2a))
      have hrt : (raw.take k).length = k:=by rw [List.length_take,HRN.out];omega
      have hrk : raw.take (k + 1) = raw.take k ++ [raw[k]'hkr]:=List.take_succ_eq_append_getElem hkr
      have hset:=rz_set (m:=n) (raw.take k) (raw[k]'hkr) (by omega)
      rw [hrt,← hrk] at hset
      have hat:=rz_at (m:=n) (raw.take k) (by omega)
      rw [hrt] at hat
      have HSET:=Lib.hid hset
      have ck : wr.cell? ⟨wq.heap.size,k,none⟩ = some (.int .u8 0):=by rw [HH.out.cell];exact hat
      have h8:=(raw[k]'hkr).toNat_lt
      generalize acc[2 * k]'(by omega) = b1 at *
      generalize acc[2 * k + 1]'h2a = b2 at *
      generalize raw[k]'hkr = rk at *
      have hwr : IntKind.u8.wrap (rk.toNat : Int) = (rk.toNat : Int):=by rw [IntKind.wrap_u8];omega
      have hki : (k : Int) < (n : Int):=by omega
      have hsw:=HB.out.size
      clear hset hat hrk hrt hbs c1
      go_wp2_with (go_at_call 119;refine (HX.out _).mono ?_;rintro e w6 ⟨rfl,B6⟩;have c6:=(B6.cell (p:=⟨wq.heap.size,k,none⟩) HH.out.lt).trans ck;have HH6:=Lib.hid (HH.out.below B6 HH.out.lt);have f6:=HH6.out.free k;have HB6:=Lib.hid (HB.out.trans (B6.mono hsw));clear B6)
      exact ⟨⟨k + 1,by go_num,by omega,by rw [← HSET.out];exact HH6.out.set _ _,HB6.out.setCell (Nat.le_refl _) _⟩,by simp [intOf];omega⟩
    · obtain rfl : k = n:=by omega
      have hrt : raw.take k = raw:=List.take_of_length_le (by rw [HRN.out];exact Nat.le_refl _)
      have hH:=HH.out
      rw [hrt] at hH
      have hbs : Bs wr 0 wr.heap.size (some ⟨wq.heap.size,0,none⟩) raw:=fun _=>⟨wq.heap.size,0,rfl,Nat.zero_le _,hH.lt,fun j hj=>by
       rw [hH.cell,Nat.zero_add]
       unfold rz
       rw [List.getElem?_toArray,List.getElem?_append_left (by rw [bv_length];exact hj)]
       exact bv_get raw j hj⟩
      have HTK:=Lib.hid (HM.out wr (HST.out.keep HB.out).gl.2.1 hbs)
      have HKW:=Lib.hid (HK.out.onB HB.out)
      have HZW:=Lib.hid (HZ.out.below HB.out HZ.out.lt)
      have hi8 : (Tryz.prog.info? 37).map (·.size) = some 8:=by kernel_rfl
      have HI:=Lib.hid hi8
      clear hH hbs hrt hi8
      go_wp2_with (first
       | (go_at_call 120;refine HTK.out.mono ?_;rintro e w7 ⟨rfl,B7⟩;have HK7:=Lib.hid (HKW.out.onB B7);have HZ7:=Lib.hid (HZW.out.below B7 HZW.out.lt);clear B7)
       | (refine wpList_store_row rfl 37 (.tmp 4) (.tmp 73) rfl w.heap.size #[sv r0,sv r1,sv r2,.int .u32 m0,.int .u32 m1,.int .u32 m2,.int .u32 m3,.int .u32 m4] rfl rfl 37 _ (HZ7.out.alloc _) HI.out rfl (by simp [Value.oneCell']) ?_))
      refine bodyPost_ret (results_cell_row rfl _ _ w.heap.size 37 #[sv r0,sv r1,sv r2,.int .u32 m0,.int .u32 m1,.int .u32 m2,.int .u32 m3,.int .u32 m4] (0,0) _ rfl ((HZ7.out.alloc _).row _) Tryz.underlying37 rfl HI.out) rfl ?_
      exact ⟨rfl,(HK7.out.alloc HK7.out.size _).trans (Kb.of_below (below_setRow (Below.refl _ _) (Nat.le_refl _) _))⟩
end
end Go.Proofs.YtekafhogiambaaaGreatDoor
