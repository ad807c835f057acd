/- Texts of the proofs, merged. -/
import Derived.Test.YtekafhogiambaaaGreatDoorZc31
import Derived.Test.YtekafhogiambaaaGreatDoorZc29
import Derived.Test.YtekafhogiambaaaGreatDoorZc2
import Derived.Test.YtekafhogiambaaaGreatDoorZc14
import Derived.Test.YtekafhogiambaaaGreatDoorZc25
import Derived.Test.YtekafhogiambaaaGreatDoorZc12
import Derived.Test.YtekafhogiambaaaGreatDoorZc16
set_option maxRecDepth 100000
namespace Go.Proofs.YtekafhogiambaaaGreatDoor
open Go.RowKit
section
variable {text origin : ByteArray} {ttl : Nat} {es : List Tk.En} {w : World}
set_option maxHeartbeats 4000000 in
theorem parse_no (hno : RdNo) {er : Ma.Er} (hts : text.size ≤ 262144) (ho : Rd.nm origin.data.toList = true) (hos : origin.size ≤ 140737488355328) (httl : ttl ≤ 2147483647) (hG : Ga w w.heap.size) (htl : Tk.tells text.data.toList = .ok es)
 (hle : ∀ e ∈ es,e.words ≠ [] ∧ ∀ x ∈ e.words,x.text.length ≤ 262144) (hel : es.length ≤ 1000000) (he : Ma.entries ⟨origin.data.toList,ttl,false, []⟩ es = .error er) :
 Calls Tryz.prog 8 #[.string text,.string origin,.int .u32 ttl] w fun e w' => e = .returned (.tuple #[.slice none 0 0,.agg #[.int .i64 er.line,.int .i64 er.col],.int .i64 er.e]) ∧ Below w.heap.size w w':=by
 have hmf : ∀ (fn : Fn) (first cap : Array Value) (W : World),(Instr.makeFunc fn first cap).run Tryz.prog W = .ok (.func fn first cap) W:=fun _ _ _ _=>rfl
 have hck : ∀ (W : World),Calls Tryz.prog 13 #[.string origin] W fun e w' => e = .returned (.int .i64 0) ∧ Below W.heap.size W w':=fun W=>by
  have:=nameIs_any origin W hos
  rw [ho] at this
  exact this
 have HCK:=Lib.hid hck
 have HEN:=Lib.hid (fun W : World=>ents_ok W hts htl)
 have ht0 : ¬ (2147483647 : Int) < (ttl : Int):=by omega
 have hi9 : (Tryz.prog.info? 72).map (·.size) = some 9:=by kernel_rfl
 have HI9:=Lib.hid hi9
 have hB0:=(((Below.refl w.heap.size w).alloc (Nat.le_refl _) (.cells #[.slice none 0 0] 23)).alloc (by simp) (.cells #[.int .i64 0,.int .i64 0] 31)).alloc (by simp;omega) (.cells #[.int .i64 0] 27)
 have hX0:=((Has.fresh w 23 #[.slice none 0 0]).alloc (.cells #[.int .i64 0,.int .i64 0] 31)).alloc (.cells #[.int .i64 0] 27)
 have hY0 : Has (((w.alloc (.cells #[.slice none 0 0] 23)).alloc (.cells #[.int .i64 0,.int .i64 0] 31)).alloc (.cells #[.int .i64 0] 27)) (w.heap.size + 1) 31 #[.int .i64 0,.int .i64 0]:=by
  have:=(Has.fresh (w.alloc (.cells #[.slice none 0 0] 23)) 31 #[.int .i64 0,.int .i64 0]).alloc (.cells #[.int .i64 0] 27)
  simpa only [World.size_alloc] using this
 have hZ0 : Has (((w.alloc (.cells #[.slice none 0 0] 23)).alloc (.cells #[.int .i64 0,.int .i64 0] 31)).alloc (.cells #[.int .i64 0] 27)) (w.heap.size + 1 + 1) 27 #[.int .i64 0]:=by
  have:=Has.fresh ((w.alloc (.cells #[.slice none 0 0] 23)).alloc (.cells #[.int .i64 0,.int .i64 0] 31)) 27 #[.int .i64 0]
  simpa only [World.size_alloc] using this
 have HB0:=Lib.hid hB0
 have HX0:=Lib.hid hX0
 have HY0:=Lib.hid hY0
 have HZ0:=Lib.hid hZ0
 have HG:=Lib.hid hG
 have HLE:=Lib.hid hle
 have HEE:=Lib.hid he
 have HMK : Hid (Mk ⟨origin.data.toList,ttl,false, []⟩):=⟨ho,by simpa using hos,httl,by simp,by simp⟩
 clear hck hi9 hB0 hX0 hY0 hZ0 hG hle he ho httl htl
 go_enter_defers Tryz.func8,Tryz.ntmps8
 go_upto_region 5 with (go_at_call 13;refine (HCK.out _).mono ?_;rintro e w1 ⟨rfl,B1⟩;have HB1:=Lib.hid (HB0.out.trans (B1.mono HB0.out.size));have HX1:=Lib.hid (HX0.out.below B1 HX0.out.lt);have HY1:=Lib.hid (HY0.out.below B1 HY0.out.lt);have HZ1:=Lib.hid (HZ0.out.below B1 HZ0.out.lt);clear B1)
 go_upto_region 8 with (go_at_call 21;refine (HEN.out _).mono ?_;rintro e w2 ⟨B2,ve,out,rfl,hers,hmap⟩;have HERS:=Lib.hid hers;have HMAP:=Lib.hid hmap;have HB2:=Lib.hid (HB1.out.trans (B2.mono HB1.out.size));have HX2:=Lib.hid (HX1.out.below B2 HX1.out.lt);have HY2:=Lib.hid (HY1.out.below B2 HY1.out.lt);have HZ2:=Lib.hid (HZ1.out.below B2 HZ1.out.lt);have y0 : w2.cell? ⟨w.heap.size + 1,0,none⟩ = some (.int .i64 0):=HY2.out.cell 0;have y1 : w2.cell? ⟨w.heap.size + 1,1,none⟩ = some (.int .i64 0):=HY2.out.cell 1;have y2:=HY2.out.free 0;have y3:=HY2.out.free 1;have z0 : w2.cell? ⟨w.heap.size + 1 + 1,0,none⟩ = some (.int .i64 0):=HZ2.out.cell 0;have z1:=HZ2.out.free 0;obtain ⟨AE,cE,hve,_⟩:=ownK_form hers.own;subst hve;clear hers hmap B2)
 have hsz1:=HB1.out.size
 have hx1:=HX1.out.lt
 have hz1l:=HZ1.out.lt
 obtain ⟨W3,hW3⟩ : ∃ W3,W3 = (((w2.setCell ⟨w.heap.size + 1,0,none⟩ (.int .i64 0)).setCell ⟨w.heap.size + 1,1,none⟩ (.int .i64 0)).setCell ⟨w.heap.size + 1 + 1,0,none⟩ (.int .i64 0)):=⟨_,rfl⟩
 rw [← hW3]
 have hX3 : Has W3 w.heap.size 23 #[.slice none 0 0]:=by
  rw [hW3];exact ((HX2.out.far (p:=⟨w.heap.size + 1,0,none⟩) (by simp) _).far (p:=⟨w.heap.size + 1,1,none⟩) (by simp) _).far (p:=⟨w.heap.size + 1 + 1,0,none⟩) (by simp;omega) _
 have hY3 : Has W3 (w.heap.size + 1) 31 #[.int .i64 0,.int .i64 0]:=by
  rw [hW3];exact ((HY2.out.set 0 (.int .i64 0)).set 1 (.int .i64 0)).far (p:=⟨w.heap.size + 1 + 1,0,none⟩) (by simp) _
 have hZ3 : Has W3 (w.heap.size + 1 + 1) 27 #[.int .i64 0]:=by
  rw [hW3];exact ((HZ2.out.far (p:=⟨w.heap.size + 1,0,none⟩) (by simp) _).far (p:=⟨w.heap.size + 1,1,none⟩) (by simp) _).set 0 (.int .i64 0)
 have hE3 : Ers W3 w1.heap.size (.slice AE out.length cE) out:=HERS.out.hi fun k hk=>by
  rw [hW3,heap_setCell_other _ _ _ _ (by simp;omega),heap_setCell_other _ _ _ _ (by simp;omega),heap_setCell_other _ _ _ _ (by simp;omega)]
 have hB3 : Below w.heap.size w W3:=by
  rw [hW3];exact ((HB2.out.setCell (p:=⟨w.heap.size + 1,0,none⟩) (by simp) _).setCell (p:=⟨w.heap.size + 1,1,none⟩) (by simp) _).setCell (p:=⟨w.heap.size + 1 + 1,0,none⟩) (by simp;omega) _
 have HX3:=Lib.hid hX3
 have HY3:=Lib.hid hY3
 have HZ3:=Lib.hid hZ3
 have HE3:=Lib.hid hE3
 have HB3:=Lib.hid hB3
 have HNO : Hid (out.length = es.length):=by rw [Hid,← HMAP.out,List.length_map]
 obtain ⟨N,hN⟩ : ∃ N,out.length = N:=⟨_,rfl⟩
 have HON:=Lib.hid hN
 rw [hN]
 clear hW3 hX3 hY3 hZ3 hE3 hB3 y0 y1 y2 y3 z0 z1 hN HX2 HY2 HZ2 HERS
 go_upto_region 10 with (refine wpList_store_row rfl 72 (.tmp 10) (.tmp 33) rfl W3.heap.size (mrC origin.data.toList ttl false (.slice none 0 0) wd0 (.slice none 0 0)) rfl rfl 72 _ (Has.fresh W3 _ _) HI9.out rfl (by simp [mrC,Value.oneCell']) ?_)
 have h4 : Has ((W3.alloc (.cells #[.string ⟨#[]⟩,.int .u32 0,.bool false,.slice none 0 0,.string ⟨#[]⟩,.bool false,.int .i64 0,.int .i64 0,.slice none 0 0] 72)).setRow W3.heap.size (mrC origin.data.toList ttl false (.slice none 0 0) wd0 (.slice none 0 0))) W3.heap.size 72 (mrC origin.data.toList ttl false (.slice none 0 0) wd0 (.slice none 0 0)) :=
  (Has.fresh W3 72 #[.string ⟨#[]⟩,.int .u32 0,.bool false,.slice none 0 0,.string ⟨#[]⟩,.bool false,.int .i64 0,.int .i64 0,.slice none 0 0]).row _
 have hb4:=below_setRow ((Below.refl W3.heap.size W3).alloc (Nat.le_refl _) (.cells #[.string ⟨#[]⟩,.int .u32 0,.bool false,.slice none 0 0,.string ⟨#[]⟩,.bool false,.int .i64 0,.int .i64 0,.slice none 0 0] 72)) (g:=W3.heap.size) (Nat.le_refl _) (mrC origin.data.toList ttl false (.slice none 0 0) wd0 (.slice none 0 0))
 obtain ⟨W4,hW4⟩ : ∃ W4,W4 = (W3.alloc (.cells #[.string ⟨#[]⟩,.int .u32 0,.bool false,.slice none 0 0,.string ⟨#[]⟩,.bool false,.int .i64 0,.int .i64 0,.slice none 0 0] 72)).setRow W3.heap.size (mrC origin.data.toList ttl false (.slice none 0 0) wd0 (.slice none 0 0)):=⟨_,rfl⟩
 rw [← hW4] at h4 hb4 ⊢
 clear hW4
 obtain ⟨g,hg⟩ : ∃ g,g = W3.heap.size:=⟨_,rfl⟩
 rw [← hg] at h4
 have hwg : w.heap.size ≤ g:=by rw [hg];exact HB3.out.size
 have HW3G:=Lib.hid hg
 have hz2g : w.heap.size + 1 + 1 < g:=by rw [hg];exact HZ3.out.lt
 have HMM : Hid (MM W4 g (g,g + 1) ⟨origin.data.toList,ttl,false, []⟩ wd0 []):=by
  have hbw:=HB3.out.trans (hb4.mono (by rw [← hg];exact hwg))
  exact ⟨.slice none 0 0,.slice none 0 0,h4,⟨by simp [fl],.inl ⟨rfl,rfl⟩⟩,⟨none,0,rfl,Nat.le_refl _,by omega,(fun x hx=>by cases hx),fun h=>absurd h (by simp)⟩,Nat.le_refl _,(HG.out.below hbw).more hwg,Nat.lt_succ_self g,h4.lt,fun q hq=>by cases hq⟩
 have HB4 : Hid (Below g W3 W4):=by rw [Hid,hg];exact hb4
 have HX4 : Hid (∀ X,Below g W4 X → Has X w.heap.size 23 #[.slice none 0 0] ∧ Has X (w.heap.size + 1) 31 #[.int .i64 0,.int .i64 0] ∧ Has X (w.heap.size + 1 + 1) 27 #[.int .i64 0]):=fun X hb=>by
  have hb2:=HB4.out.trans hb
  exact ⟨HX3.out.below hb2 (by omega),HY3.out.below hb2 (by omega),HZ3.out.below hb2 (by omega)⟩
 have HENT : Hid (∀ k,k < N → ∃ x : Ex,out[k]? = some x ∧ ∃ y r A c q,x.ws = y :: r ∧ x.v = .slice A (r.length + 1) c ∧ AE = some ⟨q,0,none⟩ ∧ ∀ X,Below g W4 X → X.rangeAt q (k * 3) (ec x) ∧ Wp X g x.v (y :: r)):=fun k hk=>by
  have hk2 : k < out.length:=by rw [HON.out];exact hk
  have hm : (out[k]).en ∈ es:=by rw [← HMAP.out];exact List.mem_map.2 ⟨_,List.getElem_mem hk2,rfl⟩
  obtain ⟨hne,hxl⟩:=HLE.out _ hm
  have hws : (out[k]).ws ≠ []:=hne
  obtain ⟨y,r,hyr⟩ : ∃ y r,(out[k]).ws = y :: r:=by cases hq : (out[k]).ws with
   | nil=>exact absurd hq hws
   | cons y r=>exact ⟨y,r,rfl⟩
  have hgo:=fun X (hb : Below g W4 X)=>HE3.out.word hk2 (X:=X) (B:=g) (by have:=HB4.out.trans hb;rwa [hg] at this) (by rw [hg];exact Nat.le_refl _) hxl
  obtain ⟨q,cp,hv,_,A,c,hvv,_⟩:=hgo W4 (Below.refl _ _)
  rw [HON.out] at hv
  injection hv with e1 _ _
  refine ⟨out[k],List.getElem?_eq_getElem hk2,y,r,A,c,q,hyr,by rw [hvv,hyr];rfl,e1,fun X hb=>?_⟩
  obtain ⟨q2,cp2,hv2,hr2,hw2⟩:=hgo X hb
  rw [HON.out] at hv2
  injection hv2 with e2 _ _
  rw [e1] at e2
  injection e2 with e2
  injection e2 with e2 _
  subst e2
  rw [hyr] at hw2
  exact ⟨hr2,hw2⟩
 have HE2 : Hid (Ma.entries ⟨origin.data.toList,ttl,false, []⟩ ((out.drop 0).map Ex.en) = .error er):=by rw [Hid,List.drop_zero,HMAP.out];exact HEE.out
 have HSTEP : Hid (∀ k s x y r,out[k]? = some x → x.ws = y :: r → Ma.entries s ((out.drop k).map Ex.en) = .error er → Ma.entry s x.bl y r = .error er ∨ ∃ s1,Ma.entry s x.bl y r = .ok s1 ∧ Ma.entries s1 ((out.drop (k + 1)).map Ex.en) = .error er):=fun k s x y r hx hy he=>by
  obtain ⟨hk,rfl⟩:=List.getElem?_eq_some_iff.1 hx
  rw [List.drop_eq_getElem_cons hk,List.map_cons,Ma.entries] at he
  simp only [Ex.en,hy] at he
  cases hq : Ma.entry s (out[k]).bl y r with
  | error e =>
   rw [hq] at he
   injection he with he
   exact .inl (by rw [he])
  | ok s1=>rw [hq] at he;exact .inr ⟨s1,rfl,he⟩
 rw [← hg]
 clear h4 hb4 hg HE3 HX3 HY3 HZ3 HMAP HLE
 have hNle : N ≤ 1000000:=by rw [← HON.out,HNO.out];exact hel
 go_wp2
 go_loopw [36] (fun i wr => ∃ (k : Nat) (s : Ma.S) (h2 : Nat) (f : Tk.Wd) (us : List Tk.Wd),k ≤ N ∧ i = .int .i64 k ∧ Hid (MM wr g (g,h2) s f us ∧ Mk s ∧ Ma.entries s ((out.drop k).map Ex.en) = .error er ∧ Below g W4 wr)) (fun i _=>N - (intOf i).toNat)
 case atStart=>exact ⟨0,_,_,_,_,Nat.zero_le _,rfl,HMM.out,HMK.out,HE2.out,Below.refl _ _⟩
 case round =>
  obtain ⟨k,s,h2,f,us,hk,rfl,HR⟩:=hrel
  rcases Nat.lt_or_ge k N with hkN | hkN
  · obtain ⟨x,hx,y,r,A,c,q,hyr,hv,rfl,hall⟩:=HENT.out k hkN
    have hstep:=HSTEP.out k s x y r hx hyr HR.out.2.2.1
    obtain ⟨hra,hwp⟩:=hall _ HR.out.2.2.2
    obtain ⟨bl,el,v,ws⟩:=x
    dsimp only at hv hyr hstep
    subst hv
    have c0 : wr.cell? ⟨q,k * 3,none⟩ = some (.bool bl):=hra 0 _ rfl
    have c1 : wr.cell? ⟨q,k * 3 + 1,none⟩ = some (.int .i64 el):=hra 1 _ rfl
    have c2 : wr.cell? ⟨q,k * 3 + 2,none⟩ = some (.slice A (r.length + 1) c):=hra 2 _ rfl
    have HWPX : Hid (Wp wr g (.slice A (r.length + 1) c) (y :: r)):=hwp
    have HGL : Hid (g < wr.heap.size):=HR.out.1.lt
    have i0 : (0 : Int) ≤ (k : Int):=by omega
    have i1 : (k : Int) < (N : Int):=by omega
    have hwk : IntKind.i64.wrap ((k : Int) + 1) = ((k + 1 : Nat) : Int):=by rw [IntKind.wrap_i64];omega
    clear hx hyr hall hra hwp
    rcases hstep with he1 | ⟨s1,he1,he2⟩
    · have HEN2 : Hid (∀ X,Below wr.heap.size wr X → Calls Tryz.prog 23 #[.pointer (some ⟨g,0,none⟩),.agg #[.bool bl,.int .i64 el,.slice A (r.length + 1) c]] X fun e w' => Fell X g er e w'):=fun X hb =>
       maEnt_no hno (HR.out.1.keep hb) HR.out.2.1 bl el (HWPX.out.keep (hb.mono (Nat.le_of_lt HR.out.1.lt))) he1
      clear he1
      go_wp2_with (go_at_call 23;refine (HEN2.out _ ((Below.refl _ _).alloc (Nat.le_refl _) _)).mono ?_;rintro e w7 ⟨rfl,hb7⟩;have HB7:=Lib.hid (((Below.refl g wr).alloc (Nat.le_of_lt HGL.out) _).trans hb7);clear hb7)
      obtain ⟨p0,p1,p2⟩:=HX4.out _ (HR.out.2.2.2.trans HB7.out)
      have XB:=Lib.hid (((HB3.out.trans (HB4.out.mono hwg)).trans (HR.out.2.2.2.mono hwg)).trans (HB7.out.mono hwg))
      refine leaves_cons (f:=22) (args:=#[.pointer (some ⟨w.heap.size,0,none⟩),.pointer (some ⟨w.heap.size + 1,0,none⟩),.pointer (some ⟨w.heap.size + 1 + 1,0,none⟩)]) (by simp) (by simp [go_sem]) ?_
      refine (maCatch_hit w.heap.size (w.heap.size + 1) (w.heap.size + 1 + 1) er _ p0 p1 p2 (by omega) (by omega) (by omega)).mono ?_
      rintro e u' w'' ⟨rfl,rfl,x0,x1,x2,xb⟩
      have z0 : w''.cell? ⟨w.heap.size,0,none⟩ = some (.slice none 0 0):=x0.cell 0
      have z1 : w''.cell? ⟨w.heap.size + 1,0,none⟩ = some (.int .i64 er.line):=x1.cell 0
      have z2 : w''.cell? ⟨w.heap.size + 1,1,none⟩ = some (.int .i64 er.col):=x1.cell 1
      have z3 : w''.cell? ⟨w.heap.size + 1 + 1,0,none⟩ = some (.int .i64 er.e):=x2.cell 0
      have XB2:=Lib.hid (XB.out.trans (xb w.heap.size (Nat.le_refl _) (by omega) (by omega)))
      clear x0 x1 x2 xb p0 p1 p2
      simp [Leaves,settle,results,Tryz.results8,go_sem,z0,z1,z2,z3]
      exact XB2.out
    · have HMKS:=Lib.hid (HR.out.2.1.entry he1)
      have HEN2 : Hid (∀ X,Below wr.heap.size wr X → Calls Tryz.prog 23 #[.pointer (some ⟨g,0,none⟩),.agg #[.bool bl,.int .i64 el,.slice A (r.length + 1) c]] X fun e w' => e = .returned (.tuple #[]) ∧ (∃ b f' us,MM w' g (g,b) s1 f' us) ∧ Below g X w'):=fun X hb =>
       maEnt_ok (HR.out.1.keep hb) HR.out.2.1 bl el (HWPX.out.keep (hb.mono (Nat.le_of_lt HR.out.1.lt))) he1
      have HE5:=Lib.hid he2
      clear he1 he2
      go_wp2_with (go_at_call 23;refine (HEN2.out _ ((Below.refl _ _).alloc (Nat.le_refl _) _)).mono ?_;rintro e w7 ⟨rfl,⟨b7,f7,us7,hm7⟩,hb7⟩;have HM7:=Lib.hid hm7;have HB7:=Lib.hid (((Below.refl g wr).alloc (Nat.le_of_lt HGL.out) _).trans hb7);clear hm7 hb7)
      go_roundw
      case rel=>exact ⟨k + 1,s1,b7,f7,us7,by omega,rfl,HM7.out,HMKS.out,HE5.out,HR.out.2.2.2.trans HB7.out⟩
      case measure=>simp [intOf];omega
  · exfalso
    obtain rfl : N = k:=by omega
    have h9:=HR.out.2.2.1
    rw [List.drop_eq_nil_iff.2 (by rw [HON.out];exact Nat.le_refl _)] at h9
    simp [Ma.entries] at h9
theorem ents_bad {s : ByteArray} {l c x : Nat} (w : World) (hs : s.size ≤ 262144) (h : Tk.tells s.data.toList = .err l c x) :
 Calls Tryz.prog 21 #[.string s] w fun e w' => Below w.heap.size w w' ∧ e = .returned (.tuple #[.slice none 0 0,.agg #[.int .i64 l,.int .i64 c],.int .i64 x]):=by
 refine (entries_any s w).mono ?_
 rintro e w' ⟨h1,h2⟩
 rw [if_neg (by omega),h] at h2
 exact ⟨h1,h2⟩
set_option maxHeartbeats 4000000 in
theorem parse_bad {l c x : Nat} (hx : x ≠ 0) (hts : text.size ≤ 262144) (ho : Rd.nm origin.data.toList = true) (hos : origin.size ≤ 140737488355328) (httl : ttl ≤ 2147483647) (htl : Tk.tells text.data.toList = .err l c x) :
 Calls Tryz.prog 8 #[.string text,.string origin,.int .u32 ttl] w fun e w' => e = .returned (.tuple #[.slice none 0 0,.agg #[.int .i64 l,.int .i64 c],.int .i64 x]) ∧ Below w.heap.size w w':=by
 have hck : ∀ (W : World),Calls Tryz.prog 13 #[.string origin] W fun e w' => e = .returned (.int .i64 0) ∧ Below W.heap.size W w':=fun W=>by
  have:=nameIs_any origin W hos
  rw [ho] at this
  exact this
 have HCK:=Lib.hid hck
 have HEN:=Lib.hid (fun W : World=>ents_bad W hts htl)
 have ht0 : ¬ (2147483647 : Int) < (ttl : Int):=by omega
 have hB0:=(((Below.refl w.heap.size w).alloc (Nat.le_refl _) (.cells #[.slice none 0 0] 23)).alloc (by simp) (.cells #[.int .i64 0,.int .i64 0] 31)).alloc (by simp;omega) (.cells #[.int .i64 0] 27)
 have hX0:=((Has.fresh w 23 #[.slice none 0 0]).alloc (.cells #[.int .i64 0,.int .i64 0] 31)).alloc (.cells #[.int .i64 0] 27)
 have hY0 : Has (((w.alloc (.cells #[.slice none 0 0] 23)).alloc (.cells #[.int .i64 0,.int .i64 0] 31)).alloc (.cells #[.int .i64 0] 27)) (w.heap.size + 1) 31 #[.int .i64 0,.int .i64 0]:=by
  have:=(Has.fresh (w.alloc (.cells #[.slice none 0 0] 23)) 31 #[.int .i64 0,.int .i64 0]).alloc (.cells #[.int .i64 0] 27)
  simpa only [World.size_alloc] using this
 have hZ0 : Has (((w.alloc (.cells #[.slice none 0 0] 23)).alloc (.cells #[.int .i64 0,.int .i64 0] 31)).alloc (.cells #[.int .i64 0] 27)) (w.heap.size + 1 + 1) 27 #[.int .i64 0]:=by
  have:=Has.fresh ((w.alloc (.cells #[.slice none 0 0] 23)).alloc (.cells #[.int .i64 0,.int .i64 0] 31)) 27 #[.int .i64 0]
  simpa only [World.size_alloc] using this
 have HB0:=Lib.hid hB0
 have HX0:=Lib.hid hX0
 have HY0:=Lib.hid hY0
 have HZ0:=Lib.hid hZ0
 have hne : ((x : Int) != 0) = true:=by simpa using hx
 clear hck hB0 hX0 hY0 hZ0 ho httl htl hx
 go_enter_defers Tryz.func8,Tryz.ntmps8
 go_upto_region 5 with (go_at_call 13;refine (HCK.out _).mono ?_;rintro e w1 ⟨rfl,B1⟩;have HB1:=Lib.hid (HB0.out.trans (B1.mono HB0.out.size));have HX1:=Lib.hid (HX0.out.below B1 HX0.out.lt);have HY1:=Lib.hid (HY0.out.below B1 HY0.out.lt);have HZ1:=Lib.hid (HZ0.out.below B1 HZ0.out.lt);clear B1)
 go_upto_region 7 with (go_at_call 21;refine (HEN.out _).mono ?_;rintro e w2 ⟨B2,rfl⟩;have HB2:=Lib.hid (HB1.out.trans (B2.mono HB1.out.size));have HX2:=Lib.hid (HX1.out.below B2 HX1.out.lt);have HY2:=Lib.hid (HY1.out.below B2 HY1.out.lt);have HZ2:=Lib.hid (HZ1.out.below B2 HZ1.out.lt);have y0 : w2.cell? ⟨w.heap.size + 1,0,none⟩ = some (.int .i64 0):=HY2.out.cell 0;have y1 : w2.cell? ⟨w.heap.size + 1,1,none⟩ = some (.int .i64 0):=HY2.out.cell 1;have y2:=HY2.out.free 0;have y3:=HY2.out.free 1;have z0 : w2.cell? ⟨w.heap.size + 1 + 1,0,none⟩ = some (.int .i64 0):=HZ2.out.cell 0;have z1:=HZ2.out.free 0;clear B2)
 have hsz1:=HB1.out.size
 have hx1:=HX1.out.lt
 have hz1l:=HZ1.out.lt
 obtain ⟨W3,hW3⟩ : ∃ W3,W3 = (((w2.setCell ⟨w.heap.size + 1,0,none⟩ (.int .i64 l)).setCell ⟨w.heap.size + 1,1,none⟩ (.int .i64 c)).setCell ⟨w.heap.size + 1 + 1,0,none⟩ (.int .i64 x)):=⟨_,rfl⟩
 rw [← hW3]
 have hX3 : Has W3 w.heap.size 23 #[.slice none 0 0]:=by
  rw [hW3];exact ((HX2.out.far (p:=⟨w.heap.size + 1,0,none⟩) (by simp) _).far (p:=⟨w.heap.size + 1,1,none⟩) (by simp) _).far (p:=⟨w.heap.size + 1 + 1,0,none⟩) (by simp;omega) _
 have hY3 : Has W3 (w.heap.size + 1) 31 #[.int .i64 l,.int .i64 c]:=by
  rw [hW3];exact ((HY2.out.set 0 (.int .i64 l)).set 1 (.int .i64 c)).far (p:=⟨w.heap.size + 1 + 1,0,none⟩) (by simp) _
 have hZ3 : Has W3 (w.heap.size + 1 + 1) 27 #[.int .i64 x]:=by
  rw [hW3];exact ((HZ2.out.far (p:=⟨w.heap.size + 1,0,none⟩) (by simp) _).far (p:=⟨w.heap.size + 1,1,none⟩) (by simp) _).set 0 (.int .i64 x)
 have hB3 : Below w.heap.size w W3:=by
  rw [hW3];exact ((HB2.out.setCell (p:=⟨w.heap.size + 1,0,none⟩) (by simp) _).setCell (p:=⟨w.heap.size + 1,1,none⟩) (by simp) _).setCell (p:=⟨w.heap.size + 1 + 1,0,none⟩) (by simp;omega) _
 have HX3:=Lib.hid hX3
 have HY3:=Lib.hid hY3
 have HZ3:=Lib.hid hZ3
 have HB3:=Lib.hid hB3
 clear hW3 y0 y1 y2 y3 z0 z1 HX2 HY2 HZ2
 have a0 : W3.cell? ⟨w.heap.size,0,none⟩ = some (.slice none 0 0):=hX3.cell 0
 have a1:=hX3.free 0
 have b0 : W3.cell? ⟨w.heap.size + 1,0,none⟩ = some (.int .i64 l):=hY3.cell 0
 have b1 : W3.cell? ⟨w.heap.size + 1,1,none⟩ = some (.int .i64 c):=hY3.cell 1
 have b2:=hY3.free 0
 have b3:=hY3.free 1
 have c0 : W3.cell? ⟨w.heap.size + 1 + 1,0,none⟩ = some (.int .i64 x):=hZ3.cell 0
 have c1:=hZ3.free 0
 generalize hq1 : w.heap.size + 1 + 1 = q2 at *
 generalize hq2 : w.heap.size + 1 = q1 at *
 generalize hq3 : w.heap.size = q0 at *
 have n1 : q0 ≠ q1:=by omega
 have n2 : q0 ≠ q2:=by omega
 have n3 : q1 ≠ q2:=by omega
 have n4:=n1.symm
 have n5:=n2.symm
 have n6:=n3.symm
 clear hX3 hY3 hZ3 hB3
 go_region
 all_goals
  dsimp only [Exit.then]
  have xL : Has ((((W3.setCell ⟨q0,0,none⟩ (.slice none 0 0)).setCell ⟨q1,0,none⟩ (.int .i64 l)).setCell ⟨q1,1,none⟩ (.int .i64 c)).setCell ⟨q2,0,none⟩ (.int .i64 x)).drew q0 23 #[.slice none 0 0] :=
   (((HX3.out.set 0 (.slice none 0 0)).far (p:=⟨q1,0,none⟩) n1 _).far (p:=⟨q1,1,none⟩) n1 _).far (p:=⟨q2,0,none⟩) n2 _
  have xS : Has ((((W3.setCell ⟨q0,0,none⟩ (.slice none 0 0)).setCell ⟨q1,0,none⟩ (.int .i64 l)).setCell ⟨q1,1,none⟩ (.int .i64 c)).setCell ⟨q2,0,none⟩ (.int .i64 x)).drew q1 31 #[.int .i64 l,.int .i64 c] :=
   (((HY3.out.far (p:=⟨q0,0,none⟩) n4 _).set 0 (.int .i64 l)).set 1 (.int .i64 c)).far (p:=⟨q2,0,none⟩) n3 _
  have xE : Has ((((W3.setCell ⟨q0,0,none⟩ (.slice none 0 0)).setCell ⟨q1,0,none⟩ (.int .i64 l)).setCell ⟨q1,1,none⟩ (.int .i64 c)).setCell ⟨q2,0,none⟩ (.int .i64 x)).drew q2 27 #[.int .i64 x] :=
   (((HZ3.out.far (p:=⟨q0,0,none⟩) n5 _).far (p:=⟨q1,0,none⟩) n6 _).far (p:=⟨q1,1,none⟩) n6 _).set 0 (.int .i64 x)
  have xB : Below q0 w ((((W3.setCell ⟨q0,0,none⟩ (.slice none 0 0)).setCell ⟨q1,0,none⟩ (.int .i64 l)).setCell ⟨q1,1,none⟩ (.int .i64 c)).setCell ⟨q2,0,none⟩ (.int .i64 x)).drew :=
   ((((HB3.out.setCell (p:=⟨q0,0,none⟩) (Nat.le_refl _) _).setCell (p:=⟨q1,0,none⟩) (by show q0 ≤ q1;omega) _).setCell (p:=⟨q1,1,none⟩) (by show q0 ≤ q1;omega) _).setCell (p:=⟨q2,0,none⟩) (by show q0 ≤ q2;omega) _).drew
  generalize World.drew _ = w5 at *
  have z0 : w5.cell? ⟨q0,0,none⟩ = some (.slice none 0 0):=xL.cell 0
  have z1 : w5.cell? ⟨q1,0,none⟩ = some (.int .i64 l):=xS.cell 0
  have z2 : w5.cell? ⟨q1,1,none⟩ = some (.int .i64 c):=xS.cell 1
  have z3 : w5.cell? ⟨q2,0,none⟩ = some (.int .i64 x):=xE.cell 0
  have XB:=Lib.hid xB
  clear xL xS xE xB a0 a1 b0 b1 b2 b3 c0 c1
  rename_i K hK
  refine hK _ _ ?_
  go_wp2
  simp [bodyPostD,Leaves,results,Tryz.results8,go_sem,z0,z1,z2,z3]
  rw [hq3]
  exact XB.out
end
end Go.Proofs.YtekafhogiambaaaGreatDoor
namespace Go.Proofs.YtekafhogiambaaaGreatDoor.Tk
theorem wf_pos {p : Pc} (h : p.wf) : 1 ≤ p.raw.length:=by
 cases p with
 | ch c=>exact Nat.le_refl _
 | rem b=>obtain ⟨_,r,rfl⟩:=h;simp [Pc.raw]
 | bare b=>obtain ⟨_,c,r,rfl,_⟩:=h;simp [Pc.raw]
 | quo b=>simp [Pc.raw]
 | bad b=>obtain ⟨r,rfl,_⟩:=h;simp [Pc.raw]
theorem wf_count : ∀ (ps : List Pc),(∀ p ∈ ps,p.wf) → ps.length ≤ (raws ps).length
 | [],_=>Nat.zero_le _
 | p :: ps,h=>by
  have h1:=wf_pos (h p (by simp))
  have h2:=wf_count ps (fun q hq=>h q (by simp [hq]))
  rw [raws_cons,List.length_append,List.length_cons]
  omega
theorem lx_count (l : By) : (lx l).length ≤ l.length:=by
 have h:=wf_count (lx l) (lx_wf l)
 rwa [raws_lx] at h
structure Fit (n : Nat) (σ : St) : Prop where
 es : σ.es.length ≤ n
 ws : σ.ws.length ≤ n
 each : ∀ e ∈ σ.es,e.words ≠ [] ∧ e.words.length ≤ n
theorem Fit.more {n m : Nat} {σ : St} (h : Fit n σ) (hm : n ≤ m) : Fit m σ:=⟨by have:=h.es;omega,by have:=h.ws;omega,fun e he=>⟨(h.each e he).1,by have:=(h.each e he).2;omega⟩⟩
theorem Fit.done {n : Nat} {σ : St} (h : Fit n σ) : σ.done.length ≤ n + 1 ∧ ∀ e ∈ σ.done,e.words ≠ [] ∧ e.words.length ≤ n:=by
 unfold St.done
 split
 · exact ⟨by have:=h.es;omega,h.each⟩
 · rename_i hne
   refine ⟨by have:=h.es;simp;omega,fun e he=>?_⟩
   rcases List.mem_append.1 he with he | he
   · exact h.each e he
   · rw [List.mem_singleton.1 he]
     exact ⟨hne,h.ws⟩
theorem Fit.nl {n : Nat} {σ : St} (h : Fit n σ) (b : Bool) : Fit (n + 1) (σ.nl b):=by
 unfold St.nl
 split
 · exact ⟨h.done.1,by simp,fun e he=>⟨(h.done.2 e he).1,by have:=(h.done.2 e he).2;omega⟩⟩
 · exact ⟨by have:=h.es;simp;omega,by have:=h.ws;simp;omega,fun e he=>⟨(h.each e he).1,by have:=(h.each e he).2;omega⟩⟩
theorem Fit.put {n : Nat} {σ : St} (h : Fit n σ) (b : By) (q : Bool) (k : Nat) : Fit (n + 1) (σ.put b q k) :=
 ⟨by have:=h.es;simp [St.put];omega,by have:=h.ws;simp [St.put];omega,fun e he=>⟨(h.each e he).1,by have:=(h.each e he).2;omega⟩⟩
theorem play_fit : ∀ (ps : List Pc) (σ : St) (n : Nat) (es : List En),Fit n σ → play ps σ = .ok es → es.length ≤ n + ps.length + 1 ∧ ∀ e ∈ es,e.words ≠ [] ∧ e.words.length ≤ n + ps.length
 | [],σ,n,es,h,hp=>by
  rw [play] at hp
  split at hp
  · injection hp with hp
    subst hp
    exact ⟨h.done.1,h.done.2⟩
  · cases hp
 | .bad _ :: ps,σ,n,es,h,hp=>by rw [play] at hp;cases hp
 | .ch c :: ps,σ,n,es,h,hp=>by
  have e1 : n + (Pc.ch c :: ps).length = n + 1 + ps.length:=by simp;omega
  rw [e1]
  rw [play] at hp
  split at hp
  · exact play_fit ps _ _ _ (h.nl _) hp
  split at hp
  · exact play_fit ps σ.op _ _ ((show Fit n σ.op from ⟨h.es,h.ws,h.each⟩).more (Nat.le_succ n)) hp
  split at hp
  · split at hp
    · cases hp
    · exact play_fit ps σ.cl _ _ ((show Fit n σ.cl from ⟨h.es,h.ws,h.each⟩).more (Nat.le_succ n)) hp
  · exact play_fit ps (σ.go 1) _ _ ((show Fit n (σ.go 1) from ⟨h.es,h.ws,h.each⟩).more (Nat.le_succ n)) hp
 | .rem b :: ps,σ,n,es,h,hp=>by
  have e1 : n + (Pc.rem b :: ps).length = n + 1 + ps.length:=by simp;omega
  rw [e1]
  rw [play] at hp
  exact play_fit ps (σ.go b.length) _ _ ((show Fit n (σ.go b.length) from ⟨h.es,h.ws,h.each⟩).more (Nat.le_succ n)) hp
 | .bare b :: ps,σ,n,es,h,hp=>by
  have e1 : n + (Pc.bare b :: ps).length = n + 1 + ps.length:=by simp;omega
  rw [e1]
  rw [play] at hp
  exact play_fit ps _ _ _ (h.put _ _ _) hp
 | .quo b :: ps,σ,n,es,h,hp=>by
  have e1 : n + (Pc.quo b :: ps).length = n + 1 + ps.length:=by simp;omega
  rw [e1]
  rw [play] at hp
  exact play_fit ps _ _ _ (h.put _ _ _) hp
theorem tells_fit {l : By} {es : List En} (h : tells l = .ok es) : es.length ≤ l.length + 1 ∧ ∀ e ∈ es,e.words ≠ [] ∧ e.words.length ≤ l.length:=by
 have h1:=play_fit (lx l) (start l) 0 es ⟨Nat.le_refl _,Nat.le_refl _,by simp [start]⟩ h
 have h2:=lx_count l
 exact ⟨by omega,fun e he=>⟨(h1.2 e he).1,by have:=(h1.2 e he).2;omega⟩⟩
end Go.Proofs.YtekafhogiambaaaGreatDoor.Tk
namespace Go.Proofs.YtekafhogiambaaaGreatDoor.Tk
def ShW (M : Nat) (ws : List Wd) : Prop := ∀ x ∈ ws,x.text.length ≤ M
def ShE (M : Nat) (es : List En) : Prop := ∀ e ∈ es,ShW M e.words
theorem ShW.app {M : Nat} {ws : List Wd} (h : ShW M ws) {x : Wd} (hx : x.text.length ≤ M) : ShW M (ws ++ [x]):=fun y hy=>by
 rcases List.mem_append.1 hy with hy | hy
 · exact h y hy
 · rw [List.mem_singleton.1 hy];exact hx
theorem ShE.done {M : Nat} {σ : St} (hw : ShW M σ.ws) (he : ShE M σ.es) : ShE M σ.done:=by
 unfold St.done
 split
 · exact he
 · intro e hm
   rcases List.mem_append.1 hm with hm | hm
   · exact he e hm
   · rw [List.mem_singleton.1 hm];exact hw
theorem play_short (M : Nat) : ∀ (ps : List Pc) (σ : St) (es : List En),(∀ p ∈ ps,p.raw.length ≤ M) → ShW M σ.ws → ShE M σ.es → play ps σ = .ok es → ShE M es
 | [],σ,es,hl,hw,he,hp=>by
  rw [play] at hp
  split at hp
  · injection hp with hp
    subst hp
    exact ShE.done hw he
  · cases hp
 | .bad _ :: ps,σ,es,hl,hw,he,hp=>by rw [play] at hp;cases hp
 | .ch c :: ps,σ,es,hl,hw,he,hp=>by
  have hl' : ∀ p ∈ ps,p.raw.length ≤ M:=fun p h=>hl p (by simp [h])
  rw [play] at hp
  split at hp
  · refine play_short M ps _ es hl' ?_ ?_ hp
    · unfold St.nl
      split
      · intro x hx;cases hx
      · exact hw
    · unfold St.nl
      split
      · exact ShE.done hw he
      · exact he
  split at hp
  · exact play_short M ps σ.op es hl' hw he hp
  split at hp
  · split at hp
    · cases hp
    · exact play_short M ps σ.cl es hl' hw he hp
  · exact play_short M ps (σ.go 1) es hl' hw he hp
 | .rem b :: ps,σ,es,hl,hw,he,hp=>by
  rw [play] at hp
  exact play_short M ps (σ.go b.length) es (fun p h=>hl p (by simp [h])) hw he hp
 | .bare b :: ps,σ,es,hl,hw,he,hp=>by
  rw [play] at hp
  have hb:=hl (.bare b) (by simp)
  have hb2 : b.length ≤ M:=by simpa [Pc.raw] using hb
  exact play_short M ps (σ.put b false b.length) es (fun p h=>hl p (by simp [h])) (hw.app hb2) he hp
 | .quo b :: ps,σ,es,hl,hw,he,hp=>by
  rw [play] at hp
  have hb:=hl (.quo b) (by simp)
  have hb2 : b.length ≤ M:=by simp [Pc.raw] at hb;omega
  exact play_short M ps (σ.put b true (b.length + 2)) es (fun p h=>hl p (by simp [h])) (hw.app hb2) he hp
theorem raw_le {p : Pc} : ∀ {ps : List Pc},p ∈ ps → p.raw.length ≤ (raws ps).length
 | q :: ps,h=>by
  rw [raws_cons,List.length_append]
  rcases List.mem_cons.1 h with rfl | h
  · omega
  · have:=raw_le h;omega
theorem tells_short {l : By} {es : List En} (h : tells l = .ok es) : ∀ e ∈ es, ∀ x ∈ e.words,x.text.length ≤ l.length:=by
 refine play_short l.length (lx l) (start l) es (fun p hp=>?_) (fun x hx=>by cases hx) (fun e he=>by cases he) h
 have:=raw_le hp
 rwa [raws_lx] at this
end Go.Proofs.YtekafhogiambaaaGreatDoor.Tk
namespace Go.Proofs.YtekafhogiambaaaGreatDoor.Ma
open Rd (By Dt)
def Code (n : Nat) : Prop:=n = 2 ∨ n = 41 ∨ (90 ≤ n ∧ n ≤ 94)
theorem tc_code {fx : Bool} : ∀ {ws : List Tk.Wd} {h t : Nat} {bt bc : Bool} {er : Er},tc fx ws h t bt bc = .error er → Code er.e
 | [],h,t,bt,bc,er,hr=>by rw [tc] at hr;cases hr
 | w :: r,h,t,bt,bc,er,hr=>by
  rw [tc] at hr
  split at hr
  · split at hr
    · exact tc_code hr
    · injection hr with hr
      subst hr
      exact .inr (.inr ⟨by simp [at_],by simp [at_]⟩)
  split at hr
  · split at hr
    · exact tc_code hr
    · injection hr with hr
      subst hr
      exact .inr (.inr ⟨by simp [at_],by simp [at_]⟩)
  · cases hr
theorem owner_code {s : S} {f : Tk.Wd} {bl : Bool} {ws : List Tk.Wd} {er : Er} (hr : owner s f bl ws = .error er) : Code er.e:=by
 unfold owner at hr
 have key : ∀ x : Tk.Wd,(Except.error (at_ x 90) : Ans (By × List Tk.Wd)) = .error er → Code er.e:=fun x h=>by
  injection h with h
  subst h
  exact .inr (.inr ⟨by simp [at_],by simp [at_]⟩)
 split at hr
 · split at hr
   · cases hr
   · exact key _ hr
 · split at hr
   · exact key _ hr
   · split at hr
     · cases hr
     · exact key _ hr
theorem tail_code {o : By} {f : Tk.Wd} {ws : List Tk.Wd} {er : Er} (hr : tail o f ws = .error er) : Code er.e:=by
 have k1 : ∀ x : Tk.Wd,(Except.error (at_ x 93) : Ans (Nat × Dt)) = .error er → Code er.e:=fun x h=>by
  injection h with h
  subst h
  exact .inr (.inr ⟨by simp [at_],by simp [at_]⟩)
 have k2 : ∀ x : Tk.Wd,(Except.error (at_ x 41) : Ans (Nat × Dt)) = .error er → Code er.e:=fun x h=>by
  injection h with h
  subst h
  exact .inr (.inl rfl)
 unfold tail at hr
 split at hr
 · exact k1 _ hr
 · split at hr
   · exact k1 _ hr
   · split at hr
     · exact k1 _ hr
     · split at hr
       · exact k2 _ hr
       · cases hr
theorem record_code {s : S} {f : Tk.Wd} {bl : Bool} {ws : List Tk.Wd} {er : Er} (hr : record s f bl ws = .error er) : Code er.e:=by
 unfold record at hr
 split at hr
 · rename_i x hx
   injection hr with hr
   subst hr
   exact owner_code hx
 · split at hr
   · rename_i x hx
     injection hr with hr
     subst hr
     exact tc_code hx
   · split at hr
     · rename_i x hx
       injection hr with hr
       subst hr
       exact tail_code hx
     · cases hr
theorem directive_code {s : S} {k : Tk.Wd} {ws : List Tk.Wd} {er : Er} (hr : directive s k ws = .error er) : Code er.e:=by
 have key : ∀ x : Tk.Wd,(Except.error (at_ x 94) : Ans S) = .error er → Code er.e:=fun x h=>by
  injection h with h
  subst h
  exact .inr (.inr ⟨by simp [at_],by simp [at_]⟩)
 unfold directive at hr
 split at hr
 · split at hr
   · split at hr
     · cases hr
     · exact key _ hr
   · split at hr
     · split at hr
       · split at hr
         · cases hr
         · exact key _ hr
       · exact key _ hr
     · exact key _ hr
 · exact key _ hr
theorem entry_code {s : S} {bl : Bool} {x : Tk.Wd} {r : List Tk.Wd} {er : Er} (hr : entry s bl x r = .error er) : Code er.e:=by
 unfold entry at hr
 split at hr
 · exact directive_code hr
 · split at hr
   · injection hr with hr
     subst hr
     exact .inl rfl
   · split at hr
     · rename_i e he
       injection hr with hr
       subst hr
       exact record_code he
     · cases hr
theorem entries_code : ∀ {es : List Tk.En} {s : S} {er : Er},(∀ e ∈ es,e.words ≠ []) → entries s es = .error er → Code er.e
 | [],s,er,_,hr=>by rw [entries] at hr;cases hr
 | e :: r,s,er,hw,hr=>by
  rw [entries] at hr
  split at hr
  · rename_i h0
    exact absurd h0 (hw e (by simp))
  · split at hr
    · rename_i y hy
      injection hr with hr
      subst hr
      exact entry_code hy
    · exact entries_code (fun q hq=>hw q (by simp [hq])) hr
end Go.Proofs.YtekafhogiambaaaGreatDoor.Ma
namespace Go.Proofs.YtekafhogiambaaaGreatDoor
open Go.RowKit
def Rf (g : Nat) (w : World) (e : Ending) (w' : World) : Prop:=e = .panicked [{ v:=.iface 27 (.int .i64 41),recovered:=false }] ∧ Below g w w'
theorem rdGiveUp_any (p : Value) (w : World) : Calls Tryz.prog 118 #[p] w fun e w' => Rf w.heap.size w e w':=by
 go_enter Tryz.func118,Tryz.ntmps118
 go_wp2
 exact ⟨rfl,⟨rfl,Below.refl _ _⟩⟩
theorem Rd.parseM_iff8 {B M : Nat} (hB : B = 8 ∨ B = 16 ∨ B = 32) (hM : 2 ^ B - 1 = M) {l : List UInt8} (hz : ¬ (1 < l.length ∧ l.head? = some 48)) (v : Nat) : Lib.parseUintB B l = .ok v ↔ Rd.num l M = some v:=by
 have hMl : M ≤ 4294967295:=by rcases hB with rfl | rfl | rfl <;> (rw [← hM];decide)
 unfold Lib.parseUintB
 by_cases h0 : l = []
 · subst h0
   rw [if_pos rfl,Rd.num_bad (.inl rfl)]
   constructor <;> intro h <;> cases h
 · rw [if_neg h0,hM,Rd.parseM_iff32 (M:=M) hMl l 0 v (Nat.zero_le _)]
   have hl0 : l.length ≠ 0:=fun e=>h0 (List.eq_nil_of_length_eq_zero e)
   have hvv : Rd.vl 0 l = Rd.val l:=rfl
   rw [hvv]
   by_cases hd : Rd.digs l = true
   · by_cases h12 : 12 < l.length
     · rw [Rd.num_bad (.inr (.inr h12))]
       constructor
       · rintro ⟨_,h,h2⟩
         exfalso
         match l,hl0,hz,hd,h12,h with
         | c :: r,_,hz,hd,h12,h =>
          have hc : 48 ≤ c.toNat ∧ c.toNat ≤ 57:=by
           have:=List.all_eq_true.1 hd c (by simp)
           simpa using this
          have hne : c.toNat ≠ 48:=fun e=>hz ⟨by omega,by simp only [List.head?_cons];congr 1;exact UInt8.toNat_inj.1 e⟩
          have hg:=Rd.vl_ge r (10 * 0 + (c.toNat - 48))
          have hval : Rd.val (c :: r) = Rd.vl (10 * 0 + (c.toNat - 48)) r:=rfl
          have hp : 10 ^ 12 ≤ 10 ^ r.length:=Nat.pow_le_pow_right (by omega) (by simp at h12;omega)
          have h1 : 1 * 10 ^ r.length ≤ (10 * 0 + (c.toNat - 48)) * 10 ^ r.length:=Nat.mul_le_mul_right _ (by omega)
          have hq : (10 : Nat) ^ 12 = 1000000000000:=by decide
          omega
       · intro h;cases h
     · rw [Rd.num_dig (by intro h;rcases h with h | h | h;exact hl0 h;exact hz h;exact h12 h) hd]
       by_cases hm : M < Rd.val l
       · rw [if_pos hm]
         constructor
         · rintro ⟨_,h,h2⟩;omega
         · intro h;cases h
       · rw [if_neg hm]
         constructor
         · rintro ⟨_,h,_⟩;rw [h]
         · intro h;injection h with h;exact ⟨hd,h,by omega⟩
   · rw [Rd.num_nodig (by simpa using hd)]
     constructor
     · rintro ⟨h,_⟩;exact absurd h hd
     · intro h;cases h
theorem parseB_no (s : ByteArray) (w : World) (hL : Lay w) (B : Nat) (hB : B = 8 ∨ B = 16 ∨ B = 32) (hs : s.size ≤ 140737488355328) (hz : ¬ (1 < s.data.toList.length ∧ s.data.toList.head? = some 48)) (h : Rd.num s.data.toList (2 ^ B - 1) = none) :
 Calls Tryz.prog 91 #[.string s,.int .i64 10,.int .i64 (B : Nat)] w fun e w' => ∃ x t a,e = .returned (.tuple #[.int .u64 x,.iface t (.pointer (some a))]) ∧ Below w.heap.size w w':=by
 obtain ⟨⟨t1,p1,h1⟩,t2,p2,h2⟩:=hL
 have hno : ∀ v,Lib.parseUintB B s.data.toList ≠ .ok v:=fun v hv=>by
  have:=(Rd.parseM_iff8 hB rfl hz v).1 hv
  rw [h] at this;cases this
 rcases hp : Lib.parseUintB B s.data.toList with v | _ | _
 · exact absurd hp (hno v)
 · rcases hB with rfl | rfl | rfl
   · refine (Tryz.strconv_ParseUint_10_at8_syntax s (by omega) hp _ w h1 (.inr ⟨_,_,rfl⟩)).mono ?_
     rintro e w' ⟨N,rfl,_,_,hb⟩
     exact ⟨_,_,_,rfl,hb⟩
   · refine (Tryz.strconv_ParseUint_10_at16_syntax s (by omega) hp _ w h1 (.inr ⟨_,_,rfl⟩)).mono ?_
     rintro e w' ⟨N,rfl,_,_,hb⟩
     exact ⟨_,_,_,rfl,hb⟩
   · refine (Tryz.strconv_ParseUint_10_at32_syntax s (by omega) hp _ w h1 (.inr ⟨_,_,rfl⟩)).mono ?_
     rintro e w' ⟨N,rfl,_,_,hb⟩
     exact ⟨_,_,_,rfl,hb⟩
 · rcases hB with rfl | rfl | rfl
   · refine (Tryz.strconv_ParseUint_10_at8_range s (by omega) hp _ w h2 (.inr ⟨_,_,rfl⟩)).mono ?_
     rintro e w' ⟨N,rfl,_,_,hb⟩
     exact ⟨_,_,_,rfl,hb⟩
   · refine (Tryz.strconv_ParseUint_10_at16_range s (by omega) hp _ w h2 (.inr ⟨_,_,rfl⟩)).mono ?_
     rintro e w' ⟨N,rfl,_,_,hb⟩
     exact ⟨_,_,_,rfl,hb⟩
   · refine (Tryz.strconv_ParseUint_10_at32_range s (by omega) hp _ w h2 (.inr ⟨_,_,rfl⟩)).mono ?_
     rintro e w' ⟨N,rfl,_,_,hb⟩
     exact ⟨_,_,_,rfl,hb⟩
set_option maxHeartbeats 1000000 in
theorem numberB_no (s : ByteArray) (w : World) (hL : Lay w) (B : Nat) (hB : B = 8 ∨ B = 16 ∨ B = 32) (hs : s.size ≤ 140737488355328) (h : Rd.num s.data.toList (2 ^ B - 1) = none) :
 Calls Tryz.prog 96 #[.string s,.int .i64 (B : Nat)] w fun e w' => e = .returned (.tuple #[.int .u32 0,.bool false]) ∧ Below w.heap.size w w':=by
 have hl : s.data.toList.length = s.size:=by simp
 by_cases h1 : 1 < s.size
 · have h0s : 0 < s.size:=by omega
   have hd:=Rd.head_of (s:=s) h0s
   have hi1 : (1 : Int) < (s.size : Int):=by omega
   by_cases h48 : (s[0]'h0s).toNat = 48
   · have hb : (((s[0]'h0s).toNat : Int) == 48) = true:=by rw [h48];rfl
     clear hd hl h48 h hB hL
     go_enter Tryz.func96,Tryz.ntmps96
     go_wp2
     go_ret2
     exact ⟨rfl,Below.refl _ _⟩
   · have hz : ¬ (1 < s.data.toList.length ∧ s.data.toList.head? = some 48):=fun ⟨_,e⟩=>h48 (by rw [hd] at e;injection e with e;rw [e];rfl)
     have HC:=Lib.hid (parseB_no s w hL B hB hs hz h)
     have hb : (((s[0]'h0s).toNat : Int) == 48) = false:=beq_eq_false_iff_ne.2 (by omega)
     clear hd hl h48 hz h hB hL
     go_enter Tryz.func96,Tryz.ntmps96
     go_wp2_with (go_at_call 91;refine HC.out.mono ?_;rintro e w1 ⟨x,ty,a,rfl,hB⟩)
     go_ret2
     exact ⟨rfl,hB⟩
 · have hz : ¬ (1 < s.data.toList.length ∧ s.data.toList.head? = some 48):=fun ⟨e,_⟩=>h1 (by omega)
   have HC:=Lib.hid (parseB_no s w hL B hB hs hz h)
   clear hl hz h hB hL
   go_enter Tryz.func96,Tryz.ntmps96
   go_wp2_with (go_at_call 91;refine HC.out.mono ?_;rintro e w1 ⟨x,ty,a,rfl,hB⟩)
   go_ret2
   exact ⟨rfl,hB⟩
theorem rdDigits_no (p : Value) (s : ByteArray) (w : World) (hL : Lay w) (B : Nat) (hB : B = 8 ∨ B = 16 ∨ B = 32) (hs : s.size ≤ 140737488355328) (h : Rd.num s.data.toList (2 ^ B - 1) = none) :
 Calls Tryz.prog 142 #[p,.string s,.int .i64 (B : Nat)] w fun e w' => Rf w.heap.size w e w':=by
 have HC:=Lib.hid (numberB_no s w hL B hB hs h)
 have HG:=Lib.hid (fun W : World=>rdGiveUp_any p W)
 clear h hB hL
 go_enter Tryz.func142,Tryz.ntmps142
 go_wp2_with (first
  | (go_at_call 96;refine HC.out.mono ?_;rintro e w1 ⟨rfl,hB⟩;have HB:=Lib.hid hB;clear hB)
  | (go_at_call 118;refine (HG.out _).mono ?_;rintro e w2 ⟨rfl,B2⟩;exact ⟨rfl,⟨rfl,HB.out.trans (B2.mono HB.out.size)⟩⟩))
section
variable {g hi n : Nat} {o : ByteArray} {ws : List Rd.W2} {x : Rd.W2} {d : Rd.Dt} {w : World}
theorem St.low (h : St w g hi o ws d n) : g < w.heap.size:=by
 obtain ⟨v,h1,_⟩:=h
 exact h1.lt
theorem rdNext_no (h : St w g hi o [] d n) : Calls Tryz.prog 115 #[.pointer (some ⟨g,0,none⟩)] w fun e w' => Rf g w e w':=by
 have hlt:=h.low
 obtain ⟨v,h1,⟨A,c,rfl,_⟩,_⟩:=h
 have c0 : w.cell? ⟨g,0,none⟩ = some (.slice A 0 c):=by rw [h1.cell];rfl
 have HG:=Lib.hid (fun W : World=>rdGiveUp_any (.pointer (some ⟨g,0,none⟩)) W)
 have HB:=Lib.hid (fun (t : TypeId) (cs : Array Value)=>(Below.refl g w).alloc (Nat.le_of_lt hlt) (.cells cs t))
 clear h1
 go_enter Tryz.func115,Tryz.ntmps115
 go_wp2_with (go_at_call 118;refine (HG.out _).mono ?_;rintro e w2 ⟨rfl,B2⟩;first | exact ⟨rfl,⟨rfl,B2.mono (Nat.le_of_lt hlt)⟩⟩ | exact ⟨rfl,⟨rfl,(HB.out _ _).trans (B2.mono (by simp;omega))⟩⟩)
theorem rdPlain_no (h : St w g hi o ws d n) (hp : Rd.plainW ws = none) : Calls Tryz.prog 117 #[.pointer (some ⟨g,0,none⟩)] w fun e w' => Rf g w e w':=by
 have hlt:=h.low
 have HG:=Lib.hid (fun W : World=>rdGiveUp_any (.pointer (some ⟨g,0,none⟩)) W)
 cases ws with
 | nil =>
  have HN:=Lib.hid (rdNext_no h)
  clear h
  go_enter Tryz.func117,Tryz.ntmps117
  go_wp2_with (go_at_call 115;refine HN.out.mono ?_;rintro e w1 ⟨rfl,B1⟩;exact ⟨rfl,⟨rfl,B1⟩⟩)
 | cons x r =>
  obtain ⟨t,q⟩:=x
  have hq : q = true:=by
   cases q with
   | true=>rfl
   | false=>cases hp
  subst hq
  have HN:=Lib.hid (rdNext_any h)
  clear h
  go_enter Tryz.func117,Tryz.ntmps117
  go_wp2_with (first
   | (go_at_call 115;refine HN.out.mono ?_;rintro e w1 ⟨l,k,rfl,S1,K1⟩;have HK:=Lib.hid (K1.toBelow (Nat.le_refl g) (Nat.le_of_lt hlt));clear S1 K1)
   | (go_at_call 118;refine (HG.out _).mono ?_;rintro e w2 ⟨rfl,B2⟩;exact ⟨rfl,⟨rfl,(HK.out.alloc (by have:=HK.out.size;omega) _).trans (B2.mono (by have:=HK.out.size;simp;omega))⟩⟩))
end
end Go.Proofs.YtekafhogiambaaaGreatDoor
namespace Go.Proofs.YtekafhogiambaaaGreatDoor
open Go.RowKit
theorem Nm.parseR_bad {l o : List UInt8} (h : (Nm.parse l o).2 ≠ 0) : ∃ n : Nat,n ≠ 0 ∧ ∃ s : ByteArray,parseR l o = .tuple #[.string s,.int .i64 (n : Nat)]:=by
 unfold parseR
 exact ⟨_,h,_,rfl⟩
section
variable {g hi n : Nat} {o : ByteArray} {ws : List Rd.W2} {x : Rd.W2} {d : Rd.Dt} {w : World}
def Rd.noNum (ws : List Rd.W2) (m : Nat) : Prop:=Rd.plainW ws = none ∨ ∃ t r,ws = (t,false) :: r ∧ Rd.num t m = none
theorem rdNumberR_no (h : St w g hi o ws d n) (B : Nat) (hB : B = 8 ∨ B = 16 ∨ B = 32) (hv : Rd.noNum ws (2 ^ B - 1)) :
 Calls Tryz.prog 116 #[.pointer (some ⟨g,0,none⟩),.int .i64 (B : Nat)] w fun e w' => Rf g w e w':=by
 have hlt:=h.low
 rcases hv with hp | ⟨t,r,rfl,hv⟩
 · have HN:=Lib.hid (rdPlain_no h hp)
   clear h hB
   go_enter Tryz.func116,Tryz.ntmps116
   go_wp2_with (go_at_call 117;refine HN.out.mono ?_;rintro e w1 ⟨rfl,B1⟩;exact ⟨rfl,⟨rfl,B1⟩⟩)
 · have hl:=h.one
   have HN:=Lib.hid (rdPlain_any h rfl)
   have HC:=Lib.hid (fun (W : World) (hL : Lay W)=>rdDigits_no (.pointer (some ⟨g,0,none⟩)) ⟨t.toArray⟩ W hL B hB (by rw [mk_size];exact hl) (by simpa using hv))
   clear h hB hv hl
   go_enter Tryz.func116,Tryz.ntmps116
   go_wp2_with (first
    | (go_at_call 117;refine HN.out.mono ?_;rintro e w1 ⟨rfl,S1,K1⟩;have HS:=Lib.hid S1;have HK:=Lib.hid (K1.toBelow (Nat.le_refl g) (Nat.le_of_lt hlt));clear S1 K1)
    | (go_at_call 142;refine (HC.out _ HS.out.gl.1).mono ?_;rintro e w2 ⟨rfl,B2⟩;exact ⟨rfl,⟨rfl,HK.out.trans (B2.mono (Nat.le_of_lt HS.out.low))⟩⟩))
theorem rdNarrow_no (h : St w g hi o ws d n) (hv : Rd.noNum ws 65535) :
 Calls Tryz.prog 127 #[.pointer (some ⟨g,0,none⟩)] w fun e w' => Rf g w e w':=by
 have HN:=Lib.hid (rdNumberR_no h 16 (.inr (.inl rfl)) hv)
 clear h hv
 go_enter Tryz.func127,Tryz.ntmps127
 go_wp2_with (first
  | (go_at_call 46;refine (width_8 _).mono ?_;rintro e w0 ⟨rfl,rfl⟩)
  | (go_at_call 116;refine HN.out.mono ?_;rintro e w1 ⟨rfl,B1⟩;exact ⟨rfl,⟨rfl,B1⟩⟩))
theorem rdWide_no (h : St w g hi o ws d n) (hv : Rd.noNum ws 4294967295) :
 Calls Tryz.prog 128 #[.pointer (some ⟨g,0,none⟩)] w fun e w' => Rf g w e w':=by
 have HN:=Lib.hid (rdNumberR_no h 32 (.inr (.inr rfl)) hv)
 clear h hv
 go_enter Tryz.func128,Tryz.ntmps128
 go_wp2_with (first
  | (go_at_call 46;refine (width_9 _).mono ?_;rintro e w0 ⟨rfl,rfl⟩)
  | (go_at_call 116;refine HN.out.mono ?_;rintro e w1 ⟨rfl,B1⟩;exact ⟨rfl,⟨rfl,B1⟩⟩))
def Rd.noName (o : List UInt8) (ws : List Rd.W2) : Prop:=Rd.plainW ws = none ∨ ∃ t r,ws = (t,false) :: r ∧ Rd.nameR o t = none
theorem rdName_no (h : St w g hi o ws d n) (ho : o.size ≤ 140737488355328) (hv : Rd.noName o.data.toList ws) :
 Calls Tryz.prog 149 #[.pointer (some ⟨g,0,none⟩)] w fun e w' => Rf g w e w':=by
 have hlt:=h.low
 rcases hv with hp | ⟨t,r,rfl,hv⟩
 · have HN:=Lib.hid (rdPlain_no h hp)
   clear h
   go_enter Tryz.func149,Tryz.ntmps149
   go_wp2_with (go_at_call 117;refine HN.out.mono ?_;rintro e w1 ⟨rfl,B1⟩;exact ⟨rfl,⟨rfl,B1⟩⟩)
 · have hl:=h.one
   have HN:=Lib.hid (rdPlain_any h rfl)
   have HG:=Lib.hid (fun W : World=>rdGiveUp_any (.pointer (some ⟨g,0,none⟩)) W)
   clear h
   unfold Rd.nameR at hv
   have h64 : t ≠ [64]:=fun e=>by rw [if_pos e] at hv;cases hv
   rw [if_neg h64] at hv
   have hpr : (Nm.parse t o.data.toList).2 ≠ 0:=fun e=>by rw [if_pos e] at hv;cases hv
   obtain ⟨k,hk,s,hR⟩:=Nm.parseR_bad hpr
   have hb64 : (t == ([64] : List UInt8)) = false:=beq_eq_false_iff_ne.2 h64
   have hk0 : ¬ ((k : Int) = 0):=by omega
   have HP:=Lib.hid (fun (W : World) (hL : Lay W)=>by have:=Parse_any ⟨t.toArray⟩ o W hL (by rw [mk_size];exact hl) ho;rw [show (⟨t.toArray⟩ : ByteArray).data.toList = t from by simp,hR] at this;exact this)
   clear hv hpr hR hl hk h64
   go_enter Tryz.func149,Tryz.ntmps149
   go_wp2_with (first
    | (go_at_call 117;refine HN.out.mono ?_;rintro e w1 ⟨rfl,S1,K1⟩;obtain ⟨v,hh⟩:=S1.has;have c1 : w1.cell? ⟨g,1,none⟩ = some (.string o):=(by rw [hh.cell];rfl);have HS:=Lib.hid S1;have HK:=Lib.hid (K1.toBelow (Nat.le_refl g) (Nat.le_of_lt hlt));clear S1 K1 hh)
    | (go_at_call 90;refine (HP.out _ HS.out.gl.1).mono ?_;rintro e w2 ⟨rfl,B2⟩;have HB:=Lib.hid (HK.out.trans (B2.mono (Nat.le_of_lt HS.out.low)));have hs2:=B2.size;have hs1:=HS.out.low;clear B2)
    | (go_at_call 118;refine (HG.out _).mono ?_;rintro e w3 ⟨rfl,B3⟩;exact ⟨rfl,⟨rfl,HB.out.trans (B3.mono (by omega))⟩⟩))
theorem rdHost_no (h : St w g hi o ws d n) (ho : o.size ≤ 140737488355328) (hv : Rd.noName o.data.toList ws) :
 Calls Tryz.prog 125 #[.pointer (some ⟨g,0,none⟩)] w fun e w' => Rf g w e w':=by
 have HN:=Lib.hid (rdName_no h ho hv)
 clear h hv
 go_enter Tryz.func125,Tryz.ntmps125
 go_wp2_with (go_at_call 149;refine HN.out.mono ?_;rintro e w1 ⟨rfl,B1⟩;exact ⟨rfl,⟨rfl,B1⟩⟩)
theorem rdMail_no (h : St w g hi o ws d n) (ho : o.size ≤ 140737488355328) (hv : Rd.noName o.data.toList ws) :
 Calls Tryz.prog 126 #[.pointer (some ⟨g,0,none⟩)] w fun e w' => Rf g w e w':=by
 have HN:=Lib.hid (rdName_no h ho hv)
 clear h hv
 go_enter Tryz.func126,Tryz.ntmps126
 go_wp2_with (go_at_call 149;refine HN.out.mono ?_;rintro e w1 ⟨rfl,B1⟩;exact ⟨rfl,⟨rfl,B1⟩⟩)
end
end Go.Proofs.YtekafhogiambaaaGreatDoor
namespace Go.Proofs.YtekafhogiambaaaGreatDoor
open Go.RowKit
section
variable {g hi n : Nat} {o : ByteArray} {ws : List Rd.W2} {x : Rd.W2} {d : Rd.Dt} {w : World}
set_option maxHeartbeats 2000000 in
theorem rdTexts_nil (h : St w g hi o [] d n) : Calls Tryz.prog 124 #[.pointer (some ⟨g,0,none⟩)] w fun e w' => Rf g w e w':=by
 have HS0:=Lib.hid (rdNext_no h)
 clear h
 go_enter Tryz.func124,Tryz.ntmps124
 go_wp2
 go_loopw [2] (fun v wr=>wr = w) (fun _ _=>0)
 case atStart=>rfl
 case round =>
  subst hrel
  go_wp2_with (go_at_call 115;refine HS0.out.mono ?_;rintro e w1 ⟨rfl,B1⟩;exact ⟨rfl,⟨rfl,B1⟩⟩)
set_option maxHeartbeats 2000000 in
theorem rdTexts_no (h : St w g hi o (x :: ws) d n) (hr : Rd.textsR [] (x :: ws) = none) :
 Calls Tryz.prog 124 #[.pointer (some ⟨g,0,none⟩)] w fun e w' => Rf g w e w':=by
 obtain ⟨i0,hi0,hz0,hz1,hz2⟩:=info_parts Tryz.infoByte
 have hgw:=h.lt
 have hfld : ∀ (W : World) (s : ByteArray) (b : Bool) (l k : Int),(Instr.field 69 (.agg #[.string s,.bool b,.int .i64 l,.int .i64 k]) 0).run Tryz.prog W = .ok (.string s) W:=fun _ _ _ _ _=>rfl
 have HS0:=Lib.hid h
 have HR0:=Lib.hid hr
 have HK0:=Lib.hid (Kb.refl g w.heap.size w)
 have HG:=Lib.hid (fun W : World=>rdGiveUp_any (.pointer (some ⟨g,0,none⟩)) W)
 clear h hr
 go_enter Tryz.func124,Tryz.ntmps124
 go_wp2
 go_loopw [2] (fun v wr => ∃ (acc : List UInt8) (x : Rd.W2) (rest : List Rd.W2),acc.length ≤ 65535 ∧ Hid (Rd.textsR acc (x :: rest) = none) ∧ Hid (wr.ownsRow w.heap.size 5 1 v acc.length (bv acc)) ∧ Hid (St wr g hi o (x :: rest) d n) ∧ Hid (Kb g w.heap.size w wr)) (fun _ wr=>wlen wr g)
 case atStart=>exact ⟨[],x,ws,by simp,HR0.out,World.ownsRow_nil _ _ _ _,HS0.out,HK0.out⟩
 case round =>
  obtain ⟨acc,x,rest,hacc,HR,HO,HS,HK⟩:=hrel
  have hsz:=HK.out.size
  have hl:=HS.out.one
  have hr:=HR.out
  rw [Rd.textsR] at hr
  have HN:=Lib.hid (rdNext_any HS.out)
  obtain ⟨ad,cp,hv⟩:=own_form HO.out
  subst hv
  have HKg:=Lib.hid (HK.out.toBelow (Nat.le_refl g) (Nat.le_of_lt hgw))
  have hgr:=HS.out.low
  cases hu : Nm.unesc x.1 with
  | none =>
   have HB:=Lib.hid (fun (W : World) (hW : Lay W)=>Bytes_no x.1 W hW hl hu)
   clear hr hu hl HR HS
   go_wp2_with (first
    | (go_at_call 115;refine HN.out.mono ?_;rintro e w1 ⟨l1,k1,rfl,S1,K1⟩;have HK1:=Lib.hid (HKg.out.trans (K1.toBelow (Nat.le_refl g) (Nat.le_of_lt hgr)));have HL1:=Lib.hid S1.gl.1;have hg1:=S1.low;clear S1 K1)
    | (go_at_call 134;refine (HB.out _ HL1.out).mono ?_;rintro e w2 ⟨rfl,B2⟩;have HB2:=Lib.hid (HK1.out.trans (B2.mono (by first | omega | (simp;omega))));have hs2:=B2.size;clear B2)
    | (go_at_call 118;refine (HG.out _).mono ?_;rintro e w3 ⟨rfl,B3⟩;exact ⟨rfl,⟨rfl,HB2.out.trans (B3.mono (by first | omega | (simp at hs2;omega)))⟩⟩))
  | some l =>
   rw [hu] at hr
   have HB:=Lib.hid (fun (W : World) (hW : Lay W)=>Bytes_yes x.1 l W hW hl hu)
   by_cases hb1 : 255 < l.length
   · have hlm : l.length ≤ 140737488355328:=Nat.le_trans (Nm.unesc_len _ _ _ (Nat.le_refl _) hu) hl
     have HPT:=Lib.hid (fun (W : World)=>putText_long none 0 0 ⟨l.toArray⟩ W (by rw [mk_size];exact hb1) (by rw [mk_size];exact hlm))
     clear hr hu hl HR HS
     go_wp2_with (first
      | (go_at_call 115;refine HN.out.mono ?_;rintro e w1 ⟨l1,k1,rfl,S1,K1⟩;have HK1:=Lib.hid (HKg.out.trans (K1.toBelow (Nat.le_refl g) (Nat.le_of_lt hgr)));have HL1:=Lib.hid S1.gl.1;have hg1:=S1.low;clear S1 K1)
      | (go_at_call 134;refine (HB.out _ HL1.out).mono ?_;rintro e w2 ⟨rfl,B2⟩;have HB2:=Lib.hid (HK1.out.trans (B2.mono (by first | omega | (simp;omega))));have hs2:=B2.size;clear B2)
      | (go_at_call 148;refine (HPT.out _).mono ?_;rintro e w3 ⟨rfl,rfl⟩)
      | (go_at_call 118;refine (HG.out _).mono ?_;rintro e w4 ⟨rfl,B3⟩;exact ⟨rfl,⟨rfl,HB2.out.trans (B3.mono (by first | omega | (simp at hs2;omega)))⟩⟩))
   · have hb1 : l.length ≤ 255:=by omega
     have HPT:=Lib.hid (fun (W : World)=>putText_new l hb1 W)
     by_cases hb2 : 65535 < acc.length + (1 + l.length)
     · have hb3 : decide ((65535 : Int) < (acc.length : Int) + ((l.length : Int) + 1)) = true:=by simp;omega
       clear hr hu hl HR HS
       go_wp2_with (first
        | (go_at_call 115;refine HN.out.mono ?_;rintro e w1 ⟨l1,k1,rfl,S1,K1⟩;have HK1:=Lib.hid (HKg.out.trans (K1.toBelow (Nat.le_refl g) (Nat.le_of_lt hgr)));have HL1:=Lib.hid S1.gl.1;have hg1:=S1.low;clear S1 K1)
        | (go_at_call 134;refine (HB.out _ HL1.out).mono ?_;rintro e w2 ⟨rfl,B2⟩;have HB2:=Lib.hid (HK1.out.trans (B2.mono (by first | omega | (simp;omega))));have hs2:=B2.size;clear B2)
        | (go_at_call 148;refine (HPT.out _).mono ?_;rintro e w3 ⟨g3,rfl,BS3,B3⟩;have HB3:=Lib.hid (HB2.out.trans (B3.mono (by first | omega | (simp at hs2;omega))));have hs3:=B3.size;clear BS3 B3)
        | (go_at_call 118;refine (HG.out _).mono ?_;rintro e w4 ⟨rfl,B4⟩;exact ⟨rfl,⟨rfl,HB3.out.trans (B4.mono (by first | omega | (simp at hs2;omega)))⟩⟩))
     · have hb : ¬ (255 < l.length ∨ 65535 < acc.length + (1 + l.length)):=by omega
       simp only [hb,if_false] at hr
       have hb2 : acc.length + (l.length + 1) ≤ 65535:=by omega
       have hb3 : decide ((65535 : Int) < (acc.length : Int) + ((l.length : Int) + 1)) = false:=by simp;omega
       have HR2:=Lib.hid hr
       have HW:=Lib.hid HS.out.wlen
       clear hr hb hu hl HR HS HKg
       cases rest with
       | nil =>
        have:=HR2.out
        rw [Rd.textsR] at this
        cases this
       | cons y rest =>
        go_wp2_with (first
         | (go_at_call 115;refine HN.out.mono ?_;rintro e w1 ⟨l1,k1,rfl,S1,K1⟩;have HS1:=Lib.hid S1;have HK1:=Lib.hid (HK.out.trans (K1.mono hsz));have HO1:=Lib.hid (own_kb HO.out K1 hgw);have HL1:=Lib.hid S1.gl.1;clear S1 K1)
         | (go_at_call 134;refine (HB.out _ HL1.out).mono ?_;rintro e w2 ⟨rfl,B2⟩;have HB2:=Lib.hid B2;clear B2)
         | (go_at_call 148;refine (HPT.out _).mono ?_;rintro e w3 ⟨g3,rfl,BS3,B3⟩;have HBS3:=Lib.hid BS3;have HB3:=Lib.hid B3;have HO3:=Lib.hid (own_below (own_below HO1.out HB2.out (Nat.le_refl _)) B3 (Nat.le_refl _));have hsz3 : w.heap.size ≤ w3.heap.size:=Nat.le_trans HK1.out.size (Nat.le_trans HB2.out.size B3.size);have HS3:=Lib.hid ((HS1.out.keep HB2.out).keep B3);have HK3:=Lib.hid ((HK1.out.onB HB2.out).onB B3);clear BS3 B3)
         | (at_builtin;refine wpList_append_bs rfl (.tmp 34) (.tmp 35) 51 rfl w.heap.size 5 i0 _ Tryz.underlying51 hi0 hz0 hz1 hz2 rfl _ acc.length (bv acc) rfl HO3.out _ _ (some ⟨g3,0,none⟩) (l.length + 1) (UInt8.ofNat l.length :: l) rfl HBS3.out (fun e=>by cases e) (by simp;omega) hsz3 ?_;intro v4 w4 O4 G4;have B4:=below_self G4 (B:=g + 1) (by omega) (fun k hk=>by have:=(HO3.out.lt k hk).1;omega);have HS4:=Lib.hid (HS3.out.keepG B4);obtain ⟨A4,C4,c4⟩:=HS4.out.front;have HO4:=Lib.hid O4;have HK4:=Lib.hid (HK3.out.ownRow G4 (fun k hk=>(HO3.out.lt k hk).1) hsz3);have HO4:=Lib.hid (own_to HO4.out (m:=(acc ++ UInt8.ofNat l.length :: l).length) (ys:=bv (acc ++ UInt8.ofNat l.length :: l)) (by simp) (by rw [bv_append]));have hcv:=run_convert_own w4 (P:=Tryz.prog) 51 9 5 Tryz.underlying51 Tryz.underlying5 Tryz.underlying9 w.heap.size _ v4 (acc ++ UInt8.ofNat l.length :: l) HO4.out;have c2 : w4.cell? ⟨g,2,none⟩ = some (sv d.raw):=HS4.out.cell2;have f2:=HS4.out.free 2;clear O4 G4 B4))
        exact ⟨⟨acc ++ UInt8.ofNat l.length :: l,y,rest,by simp;omega,HR2.out,HO4.out,HS4.out,HK4.out⟩,by rw [HS4.out.wlen,HW.out];simp⟩
end
end Go.Proofs.YtekafhogiambaaaGreatDoor
