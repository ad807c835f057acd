/- Texts of the proofs, merged. -/
import Derived.Test.YtekafhogiambaaaGreatDoorZc30
import Derived.Test.YtekafhogiambaaaGreatDoorZc26
import Derived.Test.YtekafhogiambaaaGreatDoorZc25
import Derived.Test.YtekafhogiambaaaGreatDoorZc28
import Derived.Deep.CutRange
import Derived.Test.YtekafhogiambaaaGreatDoorZc27
import Derived.Test.YtekafhogiambaaaGreatDoorZc12
set_option maxRecDepth 100000
namespace Go.Proofs.YtekafhogiambaaaGreatDoor
open Go.RowKit
theorem results_tmp_cell_tmp {fn : Func} {t p u : Tmp} {ty : TypeId} (h : fn.results = #[.tmp t,.cell p ty,.tmp u]) (tmps : Array Value) (P : Program) (w : World) :
 (results fn tmps).run P w =
  ((asAddr (tmps.getD p undef)).run P w).andThen fun a w₁=>((loadVar ty a).run P w₁).andThen fun v w₂=>.ok (.tuple #[tmps.getD t undef,v,tmps.getD u undef]) w₂:=by
 simp only [results,h]
 simp [Sem.run_bind,Result.andThen]
theorem results_tmp_row_tmp {P : Program} {fn : Func} {t p u : Tmp} {ty : TypeId} (h : fn.results = #[.tmp t,.cell p ty,.tmp u]) (tmps : Array Value) (w : World) (g : Nat) (t' : TypeId) (cs : Array Value) (d : TypeDesc)
 (hp : tmps.getD p undef = .pointer (some ⟨g,0,none⟩)) (hg : Has w g t' cs)
 (hu : P.underlying ty = some d) (hd : (match d with | .struct _ | .array _ _=>true | _=>false) = true) (hi : (P.info? ty).map (·.size) = some cs.size) :
 (results fn tmps).run P w = .ok (.tuple #[tmps.getD t undef,.agg cs,tmps.getD u undef]) w:=by
 rw [results_tmp_cell_tmp h tmps P w,hp]
 have : (asAddr (.pointer (some ⟨g,0,none⟩))).run P w = .ok ⟨g,0,none⟩ w:=rfl
 rw [this]
 simp only [Result.andThen_ok,run_loadVar_row w g t' ty cs (0,0) d hg hu hd hi]
theorem Ers.mono {w : World} {b b' : Nat} {v : Value} {out : List Ex} (h : Ers w b v out) (hb : b' ≤ b) : Ers w b' v out :=
 ⟨own_mono h.own hb,fun x hx=>own_mono (h.dat x hx) hb,h.off⟩
def EnP (s : ByteArray) (w : World) : Ending → World → Prop:=fun e w' =>
 Below w.heap.size w w' ∧ if 262144 < s.size then e = .returned (.tuple #[.slice none 0 0,.agg #[.int .i64 0,.int .i64 0],.int .i64 2]) else
  match Tk.tells s.data.toList with
  | .err l c x=>e = .returned (.tuple #[.slice none 0 0,.agg #[.int .i64 l,.int .i64 c],.int .i64 x])
  | .ok es => ∃ ve out,e = .returned (.tuple #[ve,.agg #[.int .i64 0,.int .i64 0],.int .i64 0]) ∧ Ers w' w.heap.size ve out ∧ out.map Ex.en = es
theorem play_errs : ∀ (ps : List Tk.Pc) (σ : Tk.St) (l c x : Nat),Tk.play ps σ = .err l c x → x = 80 ∨ x = 81
 | [],σ,l,c,x,h=>by
  rw [Tk.play] at h
  split at h
  · cases h
  · cases h;exact .inr rfl
 | .bad _ :: _,σ,l,c,x,h=>by rw [Tk.play] at h;cases h;exact .inl rfl
 | .ch _ :: ps,σ,l,c,x,h=>by
  rw [Tk.play] at h
  split at h
  · exact play_errs ps _ _ _ _ h
  split at h
  · exact play_errs ps _ _ _ _ h
  split at h
  · split at h
    · cases h;exact .inr rfl
    · exact play_errs ps _ _ _ _ h
  · exact play_errs ps _ _ _ _ h
 | .rem _ :: ps,σ,l,c,x,h=>by rw [Tk.play] at h;exact play_errs ps _ _ _ _ h
 | .bare _ :: ps,σ,l,c,x,h=>by rw [Tk.play] at h;exact play_errs ps _ _ _ _ h
 | .quo _ :: ps,σ,l,c,x,h=>by rw [Tk.play] at h;exact play_errs ps _ _ _ _ h
set_option maxHeartbeats 2000000 in
theorem entries_any (s : ByteArray) (w : World) : Calls Tryz.prog 21 #[.string s] w (EnP s w):=by
 have hi2 : (Tryz.prog.info? 31).map (·.size) = some 2:=by kernel_rfl
 have HI:=Lib.hid hi2
 clear hi2
 by_cases hs : 262144 < s.size
 · have hs2 : (262144 : Int) < (s.size : Int):=by omega
   have HS:=Lib.hid hs
   clear hs
   go_enter Tryz.func21,Tryz.ntmps21
   go_wp2
   refine bodyPost_ret (results_tmp_row_tmp rfl _ _ w.heap.size 31 #[.int .i64 0,.int .i64 0] _ rfl (Has.fresh w _ _) Tryz.underlying31 rfl HI.out) rfl ?_
   refine ⟨(Below.refl _ _).alloc (Nat.le_refl _) _,?_⟩
   rw [if_pos HS.out]
   rfl
 · have hs1 : s.size ≤ 262144:=by omega
   have hs2 : ¬ (262144 : Int) < (s.size : Int):=by omega
   have HS:=Lib.hid hs
   clear hs
   have e1 : ∀ c1 : Array Value,(w.alloc (.cells c1 31)).heap.size = w.heap.size + 1:=by simp
   have hR:=read_any s (w.heap.size + 1) ((w.alloc (.cells #[.int .i64 0,.int .i64 0] 31)).alloc (.cells (lxc s 0 0 0 0 0 0 false 0 (.slice none 0 0) (.slice none 0 0)) 91)) hs1 (by
    have h:=Has.fresh (w.alloc (.cells #[.int .i64 0,.int .i64 0] 31)) 91 (lxc s 0 0 0 0 0 0 false 0 (.slice none 0 0) (.slice none 0 0))
    rw [e1] at h
    exact h)
   have HP0:=Lib.hid (((Has.fresh w 31 #[.int .i64 0,.int .i64 0]).alloc (.cells (lxc s 0 0 0 0 0 0 false 0 (.slice none 0 0) (.slice none 0 0)) 91)).alloc (.cells #[.int .i64 0,.int .i64 0] 31))
   have HB0:=Lib.hid ((((Below.refl w.heap.size w).alloc (Nat.le_refl _) (.cells #[.int .i64 0,.int .i64 0] 31)).alloc (by simp) (.cells (lxc s 0 0 0 0 0 0 false 0 (.slice none 0 0) (.slice none 0 0)) 91)).alloc (by simp;omega) (.cells #[.int .i64 0,.int .i64 0] 31))
   have hsz : ((w.alloc (.cells #[.int .i64 0,.int .i64 0] 31)).alloc (.cells (lxc s 0 0 0 0 0 0 false 0 (.slice none 0 0) (.slice none 0 0)) 91)).heap.size = w.heap.size + 2:=by simp
   unfold RdP at hR
   rw [hsz] at hR
   have HK:=Lib.hid (fun (w2 : World) (k : Kb (w.heap.size + 1) (w.heap.size + 2) (((w.alloc (.cells #[.int .i64 0,.int .i64 0] 31)).alloc (.cells (lxc s 0 0 0 0 0 0 false 0 (.slice none 0 0) (.slice none 0 0)) 91)).alloc (.cells #[.int .i64 0,.int .i64 0] 31)) w2) =>
    (⟨k.has HP0.out (by omega) (by omega),HB0.out.trans ((k.mono (b':=w.heap.size) (by omega)).below' (by omega))⟩ : Has w2 w.heap.size 31 #[.int .i64 0,.int .i64 0] ∧ Below w.heap.size w w2))
   clear hs1 e1 hsz HP0 HB0
   rcases hT : Tk.tells s.data.toList with ⟨l,c,x⟩ | es
   · rw [hT] at hR
     have hx:=play_errs _ _ _ _ _ hT
     have hx2 : ((x : Int) != 0) = true:=by rcases hx with rfl | rfl <;> rfl
     have HT:=Lib.hid hT
     have HR:=Lib.hid hR
     clear hT hR hx
     go_enter Tryz.func21,Tryz.ntmps21
     go_wp2_with (go_at_call 36;refine HR.out.mono ?_;rintro e w2 ⟨k2,rfl⟩;have HB2:=HK.out w2 k2;have r0 : w2.cell? ⟨w.heap.size,0,none⟩ = some (.int .i64 0):=HB2.1.cell 0;have r1 : w2.cell? ⟨w.heap.size,1,none⟩ = some (.int .i64 0):=HB2.1.cell 1;have f0:=HB2.1.free 0;have f1:=HB2.1.free 1;have HB3:=Lib.hid HB2;clear HB2 k2)
     have HW1:=Lib.hid (HB3.out.1.alloc (.cells #[.int .i64 l,.int .i64 c] 31))
     have HW2:=Lib.hid (Has.fresh w2 31 #[.int .i64 l,.int .i64 c])
     have HW3:=Lib.hid (HB3.out.2.alloc HB3.out.2.size (.cells #[.int .i64 l,.int .i64 c] 31))
     have hlt : w.heap.size < w2.heap.size:=HB3.out.1.lt
     clear r0 r1 f0 f1 HB3 HK HR
     generalize w2.heap.size = gp at *
     generalize w2.alloc (.cells #[.int .i64 l,.int .i64 c] 31) = w3 at *
     have p0 : w3.cell? ⟨gp,0,none⟩ = some (.int .i64 l):=HW2.out.cell 0
     have p1 : w3.cell? ⟨gp,1,none⟩ = some (.int .i64 c):=HW2.out.cell 1
     have r0 : w3.cell? ⟨w.heap.size,0,none⟩ = some (.int .i64 0):=HW1.out.cell 0
     have r1 : w3.cell? ⟨w.heap.size,1,none⟩ = some (.int .i64 0):=HW1.out.cell 1
     have f0:=HW1.out.free 0
     have f1:=HW1.out.free 1
     go_region
     all_goals
      go_wp2
      refine bodyPost_ret (results_tmp_row_tmp rfl _ _ w.heap.size 31 #[.int .i64 l,.int .i64 c] _ rfl (show Has (World.drew _) _ _ _ from (HW1.out.set 0 _).set 1 _) Tryz.underlying31 rfl HI.out) rfl ?_
      refine ⟨((HW3.out.setCell (p:=⟨w.heap.size,0,none⟩) (Nat.le_refl _) _).setCell (p:=⟨w.heap.size,1,none⟩) (Nat.le_refl _) _).drew,?_⟩
      rw [if_neg HS.out,HT.out]
      rfl
   · rw [hT] at hR
     have HT:=Lib.hid hT
     have HR:=Lib.hid hR
     clear hT hR
     go_enter Tryz.func21,Tryz.ntmps21
     go_wp2_with (go_at_call 36;refine HR.out.mono ?_;rintro e w2 ⟨k2,rfl,ve,out,c10,hE,hen⟩;have HB2:=HK.out w2 k2;have HA:=HB2.1.alloc (.cells #[.int .i64 0,.int .i64 0] 31);have d10:=(World.grownBy_alloc w2 (.cells #[.int .i64 0,.int .i64 0] 31) none).cell c10 (by simp);have r0 : (w2.alloc (.cells #[.int .i64 0,.int .i64 0] 31)).cell? ⟨w.heap.size,0,none⟩ = some (.int .i64 0):=HA.cell 0;have r1 : (w2.alloc (.cells #[.int .i64 0,.int .i64 0] 31)).cell? ⟨w.heap.size,1,none⟩ = some (.int .i64 0):=HA.cell 1;have f0:=HA.free 0;have f1:=HA.free 1;have HB3:=Lib.hid HB2;have HE:=Lib.hid hE;have HEN:=Lib.hid hen;have HA2:=Lib.hid HA;clear HB2 k2 hE hen HA c10)
     refine bodyPost_ret (results_tmp_row_tmp rfl _ _ w.heap.size 31 #[.int .i64 0,.int .i64 0] _ rfl ((HA2.out.set 0 _).set 1 _) Tryz.underlying31 rfl HI.out) rfl ?_
     refine ⟨((HB3.out.2.alloc HB3.out.2.size _).setCell (p:=⟨w.heap.size,0,none⟩) (Nat.le_refl _) _).setCell (p:=⟨w.heap.size,1,none⟩) (Nat.le_refl _) _,?_⟩
     rw [if_neg HS.out,HT.out]
     refine ⟨ve,out,rfl,?_,HEN.out⟩
     exact (HE.out.far (g:=w.heap.size) (by omega) (grown_set (grown_set (World.grownBy_alloc w2 _ _) 0 _) 1 _)).mono (by omega)
end Go.Proofs.YtekafhogiambaaaGreatDoor
namespace Go.Proofs.YtekafhogiambaaaGreatDoor
open Go.RowKit
theorem maCatch_idle (p q r : Addr) (w : World) :
 CallsD Tryz.prog 22 #[.pointer (some p),.pointer (some q),.pointer (some r)] .returning w fun e u' w' => e = .returned (.tuple #[]) ∧ u' = .returning ∧ w' = w:=by
 refine callsD_of_wpS Tryz.func22 rfl fun c₀ cs hu=>?_
 apply wpS_seq
 apply wpS_region
 simp [wpOpsS,go_sem,recoverD,hu,Tryz.ntmps22,Exit.thenS]
 apply wpS_seq
 apply wpS_region
 simp [wpOpsS,go_sem,Exit.thenS]
 refine wpS_cond (t:=false) (by simp [Act.eval,Array.replicate]) ?_
 simp only [Bool.false_eq_true,if_false]
 refine wpS_of_wp (wp_skip ?_)
 cases c₀
 simp_all [bodyPostS,results,Tryz.results22]
theorem ents_ok {s : ByteArray} {es : List Tk.En} (w : World) (hs : s.size ≤ 262144) (h : Tk.tells s.data.toList = .ok es) :
 Calls Tryz.prog 21 #[.string s] w fun e w' => Below w.heap.size w w' ∧ ∃ ve out,e = .returned (.tuple #[ve,.agg #[.int .i64 0,.int .i64 0],.int .i64 0]) ∧ Ers w' w.heap.size ve out ∧ out.map Ex.en = es:=by
 refine (entries_any s w).mono ?_
 rintro e w' ⟨h1,h2⟩
 rw [if_neg (by omega),h] at h2
 exact ⟨h1,h2⟩
theorem Ers.word {w : World} {b : Nat} {v : Value} {out : List Ex} (h : Ers w b v out) {k : Nat} (hk : k < out.length) {X : World} {B : Nat} (hb : Below w.heap.size w X) (hB : w.heap.size ≤ B)
 (hl : ∀ x ∈ (out[k]).ws,x.text.length ≤ 262144) :
 ∃ g cp,v = .slice (some ⟨g,0,none⟩) out.length cp ∧ X.rangeAt g (k * 3) (ec out[k]) ∧ Wp X B (out[k]).v (out[k]).ws:=by
 obtain ⟨g,cp,cur,hv,hc,_,hlt,hg,ht⟩:=ownK_pos (ownK_below h.own hb (Nat.le_refl _)) (by omega)
 have hr : X.rangeAt g (k * 3) (ec out[k]):=fun i u hu=>by
  have hi : i < 3:=(List.getElem?_eq_some_iff.1 hu).1
  rw [cell_of_row X g _ cur _ (0,0) hg]
  exact take_at ht (by rw [fl_get ec_len out hk hi];exact hu)
 refine ⟨g,cp,hv,hr,?_⟩
 have hd:=h.dat _ (List.getElem_mem hk)
 rcases hd.2 with ⟨e,h0⟩ | ⟨q,cap,cur3,e,_,hg3,hnc,hcm,_,ht3⟩
 · exact ⟨none,0,by rw [e,h0],by omega,by omega,hl,fun h1=>by omega⟩
 · refine ⟨_,cap,e,hnc,by unfold maxLen at hcm;omega,hl,fun _=>?_⟩
   have hlt3:=(Array.getElem?_eq_some_iff.1 hg3).1
   refine ⟨q,0,rfl,by omega,fun j hj i u hu=>?_⟩
   have hi : i < 4:=(List.getElem?_eq_some_iff.1 hu).1
   rw [Nat.zero_add]
   refine (hb.cell (p:=⟨q,j * 4 + i,none⟩) hlt3).trans ?_
   rw [cell_of_row w q _ cur3 _ (0,0) hg3]
   exact take_at ht3 (by rw [fl_get wc_len _ hj hi];exact hu)
end Go.Proofs.YtekafhogiambaaaGreatDoor
namespace Go.Proofs.YtekafhogiambaaaGreatDoor
open Go.RowKit
theorem Ers.hi {w W : World} {b : Nat} {v : Value} {out : List Ex} (h : Ers w b v out) (hs : ∀ k,b ≤ k → W.heap[k]? = w.heap[k]?) : Ers W b v out:=by
 have key : ∀ {e : TypeId} {k n : Nat} {u : Value} {ys : List Value},w.ownsRow b e k u n ys → W.ownsRow b e k u n ys:=fun h=>by
  refine ⟨h.1,?_⟩
  rcases h.2 with h0 | ⟨q,cap,cur,rfl,hb,hg,hr⟩
  · exact .inl h0
  · exact .inr ⟨q,cap,cur,rfl,hb,(hs q hb).trans hg,hr⟩
 exact ⟨key h.own,fun x hx=>key (h.dat x hx),h.off⟩
def wd0 : Tk.Wd:=⟨[],false,0,0⟩
section
variable {text origin : ByteArray} {ttl : Nat} {es : List Tk.En} {s' : Ma.S} {w : World}
set_option maxHeartbeats 4000000 in
theorem parse_ok (hts : text.size ≤ 262144) (ho : Rd.nm origin.data.toList = true) (hos : origin.size ≤ 140737488355328) (httl : ttl ≤ 2147483647) (hG : Ga w w.heap.size) (htl : Tk.tells text.data.toList = .ok es)
 (hle : ∀ e ∈ es,e.words ≠ [] ∧ ∀ x ∈ e.words,x.text.length ≤ 262144) (hel : es.length ≤ 1000000) (he : Ma.entries ⟨origin.data.toList,ttl,false, []⟩ es = .ok s') :
 Calls Tryz.prog 8 #[.string text,.string origin,.int .u32 ttl] w fun e w' => ∃ v,e = .returned (.tuple #[v,.agg #[.int .i64 0,.int .i64 0],.int .i64 0]) ∧ Own mcl 12 w' w.heap.size 39 v s'.recs ∧ Below w.heap.size w w':=by
 have hmf : ∀ (fn : Fn) (first cap : Array Value) (W : World),(Instr.makeFunc fn first cap).run Tryz.prog W = .ok (.func fn first cap) W:=fun _ _ _ _=>rfl
 have hck : ∀ (W : World),Calls Tryz.prog 13 #[.string origin] W fun e w' => e = .returned (.int .i64 0) ∧ Below W.heap.size W w':=fun W=>by
  have:=nameIs_any origin W hos
  rw [ho] at this
  exact this
 have HCK:=Lib.hid hck
 have HEN:=Lib.hid (fun W : World=>ents_ok W hts htl)
 have ht0 : ¬ (2147483647 : Int) < (ttl : Int):=by omega
 have hi9 : (Tryz.prog.info? 72).map (·.size) = some 9:=by kernel_rfl
 have HI9:=Lib.hid hi9
 have hB0:=(((Below.refl w.heap.size w).alloc (Nat.le_refl _) (.cells #[.slice none 0 0] 23)).alloc (by simp) (.cells #[.int .i64 0,.int .i64 0] 31)).alloc (by simp;omega) (.cells #[.int .i64 0] 27)
 have hX0:=((Has.fresh w 23 #[.slice none 0 0]).alloc (.cells #[.int .i64 0,.int .i64 0] 31)).alloc (.cells #[.int .i64 0] 27)
 have hY0 : Has (((w.alloc (.cells #[.slice none 0 0] 23)).alloc (.cells #[.int .i64 0,.int .i64 0] 31)).alloc (.cells #[.int .i64 0] 27)) (w.heap.size + 1) 31 #[.int .i64 0,.int .i64 0]:=by
  have:=(Has.fresh (w.alloc (.cells #[.slice none 0 0] 23)) 31 #[.int .i64 0,.int .i64 0]).alloc (.cells #[.int .i64 0] 27)
  simpa only [World.size_alloc] using this
 have hZ0 : Has (((w.alloc (.cells #[.slice none 0 0] 23)).alloc (.cells #[.int .i64 0,.int .i64 0] 31)).alloc (.cells #[.int .i64 0] 27)) (w.heap.size + 1 + 1) 27 #[.int .i64 0]:=by
  have:=Has.fresh ((w.alloc (.cells #[.slice none 0 0] 23)).alloc (.cells #[.int .i64 0,.int .i64 0] 31)) 27 #[.int .i64 0]
  simpa only [World.size_alloc] using this
 have HB0:=Lib.hid hB0
 have HX0:=Lib.hid hX0
 have HY0:=Lib.hid hY0
 have HZ0:=Lib.hid hZ0
 have HG:=Lib.hid hG
 have HLE:=Lib.hid hle
 have HEE:=Lib.hid he
 have HMK : Hid (Mk ⟨origin.data.toList,ttl,false, []⟩):=⟨ho,by simpa using hos,httl,by simp,by simp⟩
 clear hck hi9 hB0 hX0 hY0 hZ0 hG hle he ho httl htl
 go_enter_defers Tryz.func8,Tryz.ntmps8
 go_upto_region 5 with (go_at_call 13;refine (HCK.out _).mono ?_;rintro e w1 ⟨rfl,B1⟩;have HB1:=Lib.hid (HB0.out.trans (B1.mono HB0.out.size));have HX1:=Lib.hid (HX0.out.below B1 HX0.out.lt);have HY1:=Lib.hid (HY0.out.below B1 HY0.out.lt);have HZ1:=Lib.hid (HZ0.out.below B1 HZ0.out.lt);clear B1)
 go_upto_region 8 with (go_at_call 21;refine (HEN.out _).mono ?_;rintro e w2 ⟨B2,ve,out,rfl,hers,hmap⟩;have HERS:=Lib.hid hers;have HMAP:=Lib.hid hmap;have HB2:=Lib.hid (HB1.out.trans (B2.mono HB1.out.size));have HX2:=Lib.hid (HX1.out.below B2 HX1.out.lt);have HY2:=Lib.hid (HY1.out.below B2 HY1.out.lt);have HZ2:=Lib.hid (HZ1.out.below B2 HZ1.out.lt);have y0 : w2.cell? ⟨w.heap.size + 1,0,none⟩ = some (.int .i64 0):=HY2.out.cell 0;have y1 : w2.cell? ⟨w.heap.size + 1,1,none⟩ = some (.int .i64 0):=HY2.out.cell 1;have y2:=HY2.out.free 0;have y3:=HY2.out.free 1;have z0 : w2.cell? ⟨w.heap.size + 1 + 1,0,none⟩ = some (.int .i64 0):=HZ2.out.cell 0;have z1:=HZ2.out.free 0;obtain ⟨AE,cE,hve,_⟩:=ownK_form hers.own;subst hve;clear hers hmap B2)
 have hsz1:=HB1.out.size
 have hx1:=HX1.out.lt
 have hz1l:=HZ1.out.lt
 obtain ⟨W3,hW3⟩ : ∃ W3,W3 = (((w2.setCell ⟨w.heap.size + 1,0,none⟩ (.int .i64 0)).setCell ⟨w.heap.size + 1,1,none⟩ (.int .i64 0)).setCell ⟨w.heap.size + 1 + 1,0,none⟩ (.int .i64 0)):=⟨_,rfl⟩
 rw [← hW3]
 have hX3 : Has W3 w.heap.size 23 #[.slice none 0 0]:=by
  rw [hW3];exact ((HX2.out.far (p:=⟨w.heap.size + 1,0,none⟩) (by simp) _).far (p:=⟨w.heap.size + 1,1,none⟩) (by simp) _).far (p:=⟨w.heap.size + 1 + 1,0,none⟩) (by simp;omega) _
 have hY3 : Has W3 (w.heap.size + 1) 31 #[.int .i64 0,.int .i64 0]:=by
  rw [hW3];exact ((HY2.out.set 0 (.int .i64 0)).set 1 (.int .i64 0)).far (p:=⟨w.heap.size + 1 + 1,0,none⟩) (by simp) _
 have hZ3 : Has W3 (w.heap.size + 1 + 1) 27 #[.int .i64 0]:=by
  rw [hW3];exact ((HZ2.out.far (p:=⟨w.heap.size + 1,0,none⟩) (by simp) _).far (p:=⟨w.heap.size + 1,1,none⟩) (by simp) _).set 0 (.int .i64 0)
 have hE3 : Ers W3 w1.heap.size (.slice AE out.length cE) out:=HERS.out.hi fun k hk=>by
  rw [hW3,heap_setCell_other _ _ _ _ (by simp;omega),heap_setCell_other _ _ _ _ (by simp;omega),heap_setCell_other _ _ _ _ (by simp;omega)]
 have hB3 : Below w.heap.size w W3:=by
  rw [hW3];exact ((HB2.out.setCell (p:=⟨w.heap.size + 1,0,none⟩) (by simp) _).setCell (p:=⟨w.heap.size + 1,1,none⟩) (by simp) _).setCell (p:=⟨w.heap.size + 1 + 1,0,none⟩) (by simp;omega) _
 have HX3:=Lib.hid hX3
 have HY3:=Lib.hid hY3
 have HZ3:=Lib.hid hZ3
 have HE3:=Lib.hid hE3
 have HB3:=Lib.hid hB3
 have HNO : Hid (out.length = es.length):=by rw [Hid,← HMAP.out,List.length_map]
 obtain ⟨N,hN⟩ : ∃ N,out.length = N:=⟨_,rfl⟩
 have HON:=Lib.hid hN
 rw [hN]
 clear hW3 hX3 hY3 hZ3 hE3 hB3 y0 y1 y2 y3 z0 z1 hN HX2 HY2 HZ2 HERS
 go_upto_region 10 with (refine wpList_store_row rfl 72 (.tmp 10) (.tmp 33) rfl W3.heap.size (mrC origin.data.toList ttl false (.slice none 0 0) wd0 (.slice none 0 0)) rfl rfl 72 _ (Has.fresh W3 _ _) HI9.out rfl (by simp [mrC,Value.oneCell']) ?_)
 have h4 : Has ((W3.alloc (.cells #[.string ⟨#[]⟩,.int .u32 0,.bool false,.slice none 0 0,.string ⟨#[]⟩,.bool false,.int .i64 0,.int .i64 0,.slice none 0 0] 72)).setRow W3.heap.size (mrC origin.data.toList ttl false (.slice none 0 0) wd0 (.slice none 0 0))) W3.heap.size 72 (mrC origin.data.toList ttl false (.slice none 0 0) wd0 (.slice none 0 0)) :=
  (Has.fresh W3 72 #[.string ⟨#[]⟩,.int .u32 0,.bool false,.slice none 0 0,.string ⟨#[]⟩,.bool false,.int .i64 0,.int .i64 0,.slice none 0 0]).row _
 have hb4:=below_setRow ((Below.refl W3.heap.size W3).alloc (Nat.le_refl _) (.cells #[.string ⟨#[]⟩,.int .u32 0,.bool false,.slice none 0 0,.string ⟨#[]⟩,.bool false,.int .i64 0,.int .i64 0,.slice none 0 0] 72)) (g:=W3.heap.size) (Nat.le_refl _) (mrC origin.data.toList ttl false (.slice none 0 0) wd0 (.slice none 0 0))
 obtain ⟨W4,hW4⟩ : ∃ W4,W4 = (W3.alloc (.cells #[.string ⟨#[]⟩,.int .u32 0,.bool false,.slice none 0 0,.string ⟨#[]⟩,.bool false,.int .i64 0,.int .i64 0,.slice none 0 0] 72)).setRow W3.heap.size (mrC origin.data.toList ttl false (.slice none 0 0) wd0 (.slice none 0 0)):=⟨_,rfl⟩
 rw [← hW4] at h4 hb4 ⊢
 clear hW4
 obtain ⟨g,hg⟩ : ∃ g,g = W3.heap.size:=⟨_,rfl⟩
 rw [← hg] at h4
 have hwg : w.heap.size ≤ g:=by rw [hg];exact HB3.out.size
 have HW3G:=Lib.hid hg
 have hz2g : w.heap.size + 1 + 1 < g:=by rw [hg];exact HZ3.out.lt
 have HMM : Hid (MM W4 g (g,g + 1) ⟨origin.data.toList,ttl,false, []⟩ wd0 []):=by
  have hbw:=HB3.out.trans (hb4.mono (by rw [← hg];exact hwg))
  exact ⟨.slice none 0 0,.slice none 0 0,h4,⟨by simp [fl],.inl ⟨rfl,rfl⟩⟩,⟨none,0,rfl,Nat.le_refl _,by omega,(fun x hx=>by cases hx),fun h=>absurd h (by simp)⟩,Nat.le_refl _,(HG.out.below hbw).more hwg,Nat.lt_succ_self g,h4.lt,fun q hq=>by cases hq⟩
 have HB4 : Hid (Below g W3 W4):=by rw [Hid,hg];exact hb4
 have HX4 : Hid (∀ X,Below g W4 X → Has X w.heap.size 23 #[.slice none 0 0] ∧ Has X (w.heap.size + 1) 31 #[.int .i64 0,.int .i64 0] ∧ Has X (w.heap.size + 1 + 1) 27 #[.int .i64 0]):=fun X hb=>by
  have hb2:=HB4.out.trans hb
  exact ⟨HX3.out.below hb2 (by omega),HY3.out.below hb2 (by omega),HZ3.out.below hb2 (by omega)⟩
 have HENT : Hid (∀ k,k < N → ∃ x : Ex,out[k]? = some x ∧ ∃ y r A c q,x.ws = y :: r ∧ x.v = .slice A (r.length + 1) c ∧ AE = some ⟨q,0,none⟩ ∧ ∀ X,Below g W4 X → X.rangeAt q (k * 3) (ec x) ∧ Wp X g x.v (y :: r)):=fun k hk=>by
  have hk2 : k < out.length:=by rw [HON.out];exact hk
  have hm : (out[k]).en ∈ es:=by rw [← HMAP.out];exact List.mem_map.2 ⟨_,List.getElem_mem hk2,rfl⟩
  obtain ⟨hne,hxl⟩:=HLE.out _ hm
  have hws : (out[k]).ws ≠ []:=hne
  obtain ⟨y,r,hyr⟩ : ∃ y r,(out[k]).ws = y :: r:=by cases hq : (out[k]).ws with
   | nil=>exact absurd hq hws
   | cons y r=>exact ⟨y,r,rfl⟩
  have hgo:=fun X (hb : Below g W4 X)=>HE3.out.word hk2 (X:=X) (B:=g) (by have:=HB4.out.trans hb;rwa [hg] at this) (by rw [hg];exact Nat.le_refl _) hxl
  obtain ⟨q,cp,hv,_,A,c,hvv,_⟩:=hgo W4 (Below.refl _ _)
  rw [HON.out] at hv
  injection hv with e1 _ _
  refine ⟨out[k],List.getElem?_eq_getElem hk2,y,r,A,c,q,hyr,by rw [hvv,hyr];rfl,e1,fun X hb=>?_⟩
  obtain ⟨q2,cp2,hv2,hr2,hw2⟩:=hgo X hb
  rw [HON.out] at hv2
  injection hv2 with e2 _ _
  rw [e1] at e2
  injection e2 with e2
  injection e2 with e2 _
  subst e2
  rw [hyr] at hw2
  exact ⟨hr2,hw2⟩
 have HE2 : Hid (Ma.entries ⟨origin.data.toList,ttl,false, []⟩ ((out.drop 0).map Ex.en) = .ok s'):=by rw [Hid,List.drop_zero,HMAP.out];exact HEE.out
 have HSTEP : Hid (∀ k s x y r,out[k]? = some x → x.ws = y :: r → Ma.entries s ((out.drop k).map Ex.en) = .ok s' → ∃ s1,Ma.entry s x.bl y r = .ok s1 ∧ Ma.entries s1 ((out.drop (k + 1)).map Ex.en) = .ok s'):=fun k s x y r hx hy he=>by
  obtain ⟨hk,rfl⟩:=List.getElem?_eq_some_iff.1 hx
  rw [List.drop_eq_getElem_cons hk,List.map_cons,Ma.entries] at he
  simp only [Ex.en,hy] at he
  cases hq : Ma.entry s (out[k]).bl y r with
  | error e=>rw [hq] at he;cases he
  | ok s1=>rw [hq] at he;exact ⟨s1,rfl,he⟩
 rw [← hg]
 clear h4 hb4 hg HE3 HX3 HY3 HZ3 HMAP HLE
 have hNle : N ≤ 1000000:=by rw [← HON.out,HNO.out];exact hel
 go_wp2
 go_loopw [36] (fun i wr => ∃ (k : Nat) (s : Ma.S) (h2 : Nat) (f : Tk.Wd) (us : List Tk.Wd),k ≤ N ∧ i = .int .i64 k ∧ Hid (MM wr g (g,h2) s f us ∧ Mk s ∧ Ma.entries s ((out.drop k).map Ex.en) = .ok s' ∧ Below g W4 wr)) (fun i _=>N - (intOf i).toNat)
 case atStart=>exact ⟨0,_,_,_,_,Nat.zero_le _,rfl,HMM.out,HMK.out,HE2.out,Below.refl _ _⟩
 case round =>
  obtain ⟨k,s,h2,f,us,hk,rfl,HR⟩:=hrel
  rcases Nat.lt_or_ge k N with hkN | hkN
  · obtain ⟨x,hx,y,r,A,c,q,hyr,hv,rfl,hall⟩:=HENT.out k hkN
    obtain ⟨s1,he1,he2⟩:=HSTEP.out k s x y r hx hyr HR.out.2.2.1
    obtain ⟨hra,hwp⟩:=hall _ HR.out.2.2.2
    obtain ⟨bl,el,v,ws⟩:=x
    dsimp only at hv hyr he1
    subst hv
    have c0 : wr.cell? ⟨q,k * 3,none⟩ = some (.bool bl):=hra 0 _ rfl
    have c1 : wr.cell? ⟨q,k * 3 + 1,none⟩ = some (.int .i64 el):=hra 1 _ rfl
    have c2 : wr.cell? ⟨q,k * 3 + 2,none⟩ = some (.slice A (r.length + 1) c):=hra 2 _ rfl
    have HWPX : Hid (Wp wr g (.slice A (r.length + 1) c) (y :: r)):=hwp
    have HMKS:=Lib.hid (HR.out.2.1.entry he1)
    have HEN2 : Hid (∀ X,Below wr.heap.size wr X → Calls Tryz.prog 23 #[.pointer (some ⟨g,0,none⟩),.agg #[.bool bl,.int .i64 el,.slice A (r.length + 1) c]] X fun e w' => e = .returned (.tuple #[]) ∧ (∃ b f' us,MM w' g (g,b) s1 f' us) ∧ Below g X w'):=fun X hb =>
     maEnt_ok (HR.out.1.keep hb) HR.out.2.1 bl el (HWPX.out.keep (hb.mono (Nat.le_of_lt HR.out.1.lt))) he1
    have HE5:=Lib.hid he2
    have HGL : Hid (g < wr.heap.size):=HR.out.1.lt
    have i0 : (0 : Int) ≤ (k : Int):=by omega
    have i1 : (k : Int) < (N : Int):=by omega
    have hwk : IntKind.i64.wrap ((k : Int) + 1) = ((k + 1 : Nat) : Int):=by rw [IntKind.wrap_i64];omega
    clear hx hyr hall hra hwp he1 he2
    go_wp2_with (go_at_call 23;refine (HEN2.out _ ((Below.refl _ _).alloc (Nat.le_refl _) _)).mono ?_;rintro e w7 ⟨rfl,⟨b7,f7,us7,hm7⟩,hb7⟩;have HM7:=Lib.hid hm7;have HB7:=Lib.hid (((Below.refl g wr).alloc (Nat.le_of_lt HGL.out) _).trans hb7);clear hm7 hb7)
    go_roundw
    case rel=>exact ⟨k + 1,s1,b7,f7,us7,by omega,rfl,HM7.out,HMKS.out,HE5.out,HR.out.2.2.2.trans HB7.out⟩
    case measure=>simp [intOf];omega
  · obtain rfl : N = k:=by omega
    have hneg : ¬ ((N : Int) < (N : Int)):=by omega
    have hss : s = s':=by
     have h9:=HR.out.2.2.1
     rw [List.drop_eq_nil_iff.2 (by rw [HON.out];exact Nat.le_refl _)] at h9
     simpa [Ma.entries] using h9
    obtain ⟨vr,vw,q1,q2,_⟩:=HR.out.1
    obtain ⟨A9,c9,hvr,_⟩:=ownK_form q2
    subst hvr
    obtain ⟨n9,hn9⟩ : ∃ n9,s.recs.length = n9:=⟨_,rfl⟩
    rw [hn9] at q1
    have r3 : wr.cell? ⟨g,3,none⟩ = some (.slice A9 n9 c9):=q1.cell 3
    obtain ⟨p0,p1,p2⟩:=HX4.out _ HR.out.2.2.2
    have a0 : wr.cell? ⟨w.heap.size,0,none⟩ = some (.slice none 0 0):=p0.cell 0
    have a1:=p0.free 0
    have b0 : wr.cell? ⟨w.heap.size + 1,0,none⟩ = some (.int .i64 0):=p1.cell 0
    have b1 : wr.cell? ⟨w.heap.size + 1,1,none⟩ = some (.int .i64 0):=p1.cell 1
    have b2:=p1.free 0
    have b3:=p1.free 1
    have c0 : wr.cell? ⟨w.heap.size + 1 + 1,0,none⟩ = some (.int .i64 0):=p2.cell 0
    have c1:=p2.free 0
    have HQ2 : Hid (wr.ownsRow (g + 1) 39 12 (.slice A9 n9 c9) n9 (fl mcl s'.recs)):=by
     have h9 : wr.ownsRow (g + 1) 39 12 (.slice A9 s.recs.length c9) s.recs.length (fl mcl s.recs):=q2
     rw [hn9,hss] at h9
     exact h9
    have HN9 : Hid (s'.recs.length = n9):=by rw [← hss];exact hn9
    have HP0:=Lib.hid p0
    have HP1:=Lib.hid p1
    have HP2:=Lib.hid p2
    clear q1 q2 hn9 p0 p1 p2 hss
    go_wp2
    obtain ⟨W9,hW9⟩ : ∃ W9,W9 = ((((wr.setCell ⟨w.heap.size,0,none⟩ (.slice A9 n9 c9)).setCell ⟨w.heap.size + 1,0,none⟩ (.int .i64 0)).setCell ⟨w.heap.size + 1,1,none⟩ (.int .i64 0)).setCell ⟨w.heap.size + 1 + 1,0,none⟩ (.int .i64 0)):=⟨_,rfl⟩
    rw [← hW9]
    have x0 : Has W9 w.heap.size 23 #[.slice A9 n9 c9]:=by
     rw [hW9];exact (((HP0.out.set 0 (.slice A9 n9 c9)).far (p:=⟨w.heap.size + 1,0,none⟩) (by simp) _).far (p:=⟨w.heap.size + 1,1,none⟩) (by simp) _).far (p:=⟨w.heap.size + 1 + 1,0,none⟩) (by simp;omega) _
    have x1 : Has W9 (w.heap.size + 1) 31 #[.int .i64 0,.int .i64 0]:=by
     rw [hW9];exact (((HP1.out.far (p:=⟨w.heap.size,0,none⟩) (by simp) _).set 0 (.int .i64 0)).set 1 (.int .i64 0)).far (p:=⟨w.heap.size + 1 + 1,0,none⟩) (by simp) _
    have x2 : Has W9 (w.heap.size + 1 + 1) 27 #[.int .i64 0]:=by
     rw [hW9];exact (((HP2.out.far (p:=⟨w.heap.size,0,none⟩) (by simp;omega) _).far (p:=⟨w.heap.size + 1,0,none⟩) (by simp) _).far (p:=⟨w.heap.size + 1,1,none⟩) (by simp) _).set 0 (.int .i64 0)
    have xr : W9.ownsRow (g + 1) 39 12 (.slice A9 n9 c9) n9 (fl mcl s'.recs):=by
     refine ⟨HQ2.out.1,?_⟩
     rcases HQ2.out.2 with h0 | ⟨q,cap,cur,e,hb,hg9,hr⟩
     · exact .inl h0
     · refine .inr ⟨q,cap,cur,e,hb,?_,hr⟩
       rw [hW9,heap_setCell_other _ _ _ _ (by simp;omega),heap_setCell_other _ _ _ _ (by simp;omega),heap_setCell_other _ _ _ _ (by simp;omega),heap_setCell_other _ _ _ _ (by simp;omega)]
       exact hg9
    have xb : Below w.heap.size w W9:=by
     rw [hW9]
     exact (((((HB3.out.trans (HB4.out.mono hwg)).trans (HR.out.2.2.2.mono hwg)).setCell (p:=⟨w.heap.size,0,none⟩) (by simp) _).setCell (p:=⟨w.heap.size + 1,0,none⟩) (by simp) _).setCell (p:=⟨w.heap.size + 1,1,none⟩) (by simp) _).setCell (p:=⟨w.heap.size + 1 + 1,0,none⟩) (by simp;omega) _
    have z0 : W9.cell? ⟨w.heap.size,0,none⟩ = some (.slice A9 n9 c9):=x0.cell 0
    have z1 : W9.cell? ⟨w.heap.size + 1,0,none⟩ = some (.int .i64 0):=x1.cell 0
    have z2 : W9.cell? ⟨w.heap.size + 1,1,none⟩ = some (.int .i64 0):=x1.cell 1
    have z3 : W9.cell? ⟨w.heap.size + 1 + 1,0,none⟩ = some (.int .i64 0):=x2.cell 0
    have XR : Hid (Own mcl 12 W9 w.heap.size 39 (.slice A9 n9 c9) s'.recs):=by
     rw [Hid]
     unfold Own
     rw [HN9.out]
     exact own_mono xr (by omega)
    have XB:=Lib.hid xb
    clear hW9 x0 x1 x2 xr xb a0 a1 b0 b1 b2 b3 c0 c1 r3
    refine leaves_cons (f:=22) (args:=#[.pointer (some ⟨w.heap.size,0,none⟩),.pointer (some ⟨w.heap.size + 1,0,none⟩),.pointer (some ⟨w.heap.size + 1 + 1,0,none⟩)]) (by simp) (by simp [go_sem]) ?_
    refine (maCatch_idle _ _ _ _).mono ?_
    rintro e u' w'' ⟨rfl,rfl,rfl⟩
    simp [Leaves,settle,results,Tryz.results8,go_sem,z0,z1,z2,z3]
    exact ⟨XR.out,XB.out⟩
end
end Go.Proofs.YtekafhogiambaaaGreatDoor
namespace Go.Proofs.YtekafhogiambaaaGreatDoor
open Go.RowKit
section
variable {g : Nat} {hi : Nat × Nat} {s : Ma.S} {f x : Tk.Wd} {ws r : List Tk.Wd} {w : World}
set_option linter.unusedSimpArgs false in
set_option linter.unusedVariables false in
set_option maxHeartbeats 8000000 in
theorem maEnt_no (hno : RdNo) {vw : Value} {er : Ma.Er} (h : MM w g hi s f ws) (hs : Mk s) (bl : Bool) (el : Nat) (hw : Wp w hi.1 vw (x :: r)) (he : Ma.entry s bl x r = .error er) :
 Calls Tryz.prog 23 #[.pointer (some ⟨g,0,none⟩),.agg #[.bool bl,.int .i64 el,vw]] w fun e w' => Fell w g er e w':=by
 have hgw:=h.lt
 have htop:=h.top
 have hle:=h.le
 have hxl : x.text.length ≤ 262144:=by
  obtain ⟨_,_,_,_,_,h4,_⟩:=hw
  exact h4 x (by simp)
 have hBa:=(Below.refl w.heap.size w).alloc (Nat.le_refl _) (.cells #[.bool bl,.int .i64 el,vw] 74)
 have hma:=h.keep hBa
 have hwa:=hw.keep (hBa.mono (by omega))
 obtain ⟨q,p,cp,rfl,hc,hm,hq,hr,h4,_⟩:=hwa.head
 obtain ⟨x0,x1,x2,x3⟩:=wc_cells hr
 obtain ⟨vr,vw0,hh⟩:=hma.has
 have e4 : (w.alloc (.cells #[.bool bl,.int .i64 el,.slice (some ⟨q,p,none⟩) (r.length + 1) cp] 74)).cell? ⟨g,4,none⟩ = some (sv f.text):=hh.cell 4
 have e5 : (w.alloc (.cells #[.bool bl,.int .i64 el,.slice (some ⟨q,p,none⟩) (r.length + 1) cp] 74)).cell? ⟨g,5,none⟩ = some (.bool f.quoted):=hh.cell 5
 have e6 : (w.alloc (.cells #[.bool bl,.int .i64 el,.slice (some ⟨q,p,none⟩) (r.length + 1) cp] 74)).cell? ⟨g,6,none⟩ = some (.int .i64 f.line):=hh.cell 6
 have e7 : (w.alloc (.cells #[.bool bl,.int .i64 el,.slice (some ⟨q,p,none⟩) (r.length + 1) cp] 74)).cell? ⟨g,7,none⟩ = some (.int .i64 f.col):=hh.cell 7
 have e8 : (w.alloc (.cells #[.bool bl,.int .i64 el,.slice (some ⟨q,p,none⟩) (r.length + 1) cp] 74)).cell? ⟨g,8,none⟩ = some vw0:=hh.cell 8
 have g4:=hh.free 4
 have g5:=hh.free 5
 have g6:=hh.free 6
 have g7:=hh.free 7
 have g8:=hh.free 8
 have hqg : q ≠ g:=by omega
 have hbx:=Has.fresh w 74 #[.bool bl,.int .i64 el,.slice (some ⟨q,p,none⟩) (r.length + 1) cp]
 have b0 : (w.alloc (.cells #[.bool bl,.int .i64 el,.slice (some ⟨q,p,none⟩) (r.length + 1) cp] 74)).cell? ⟨w.heap.size,0,none⟩ = some (.bool bl):=hbx.cell 0
 have b2 : (w.alloc (.cells #[.bool bl,.int .i64 el,.slice (some ⟨q,p,none⟩) (r.length + 1) cp] 74)).cell? ⟨w.heap.size,2,none⟩ = some (.slice (some ⟨q,p,none⟩) (r.length + 1) cp):=hbx.cell 2
 have HMA:=Lib.hid hma
 have HWA:=Lib.hid hwa
 have HS:=Lib.hid hs
 have HE:=Lib.hid he
 have HBX:=Lib.hid hbx
 have HXL:=Lib.hid hxl
 have HGN : Hid (g ≠ w.heap.size):=by rw [Hid];omega
 have HBWA : Hid (Below g w (w.alloc (.cells #[.bool bl,.int .i64 el,.slice (some ⟨q,p,none⟩) (r.length + 1) cp] 74))):=(Below.refl g w).alloc (Nat.le_of_lt hgw) _
 clear h hs hw hma hwa hr h4 hh hBa he hbx hxl
 have e0 : ((((r.length : Nat) : Int) + 1) == 0) = false:=beq_eq_false_iff_ne.2 (by omega)
 have el1 : (0 : Int) < ((r.length : Nat) : Int) + 1:=by omega
 obtain ⟨xt,xq,xl,xc⟩:=x
 dsimp only at x0 x1 x2 x3
 go_enter Tryz.func23,Tryz.ntmps23
 go_wp2
 generalize hwa0 : w.alloc (.cells #[.bool bl,.int .i64 el,.slice (some ⟨q,p,none⟩) (r.length + 1) cp] 74) = wa at *
 go_region
 obtain ⟨W1,hW1⟩ : ∃ W1,W1 = ((((((wa.setCell ⟨g,4,none⟩ (.string ⟨xt.toArray⟩)).setCell ⟨g,5,none⟩ (.bool xq)).setCell ⟨g,6,none⟩ (.int .i64 xl)).setCell ⟨g,7,none⟩ (.int .i64 xc)).setCell ⟨g,8,none⟩ (.slice (some ⟨q,p,none⟩) (r.length + 1) cp)).drew):=⟨_,rfl⟩
 obtain ⟨hst,hb1,hoth,hsz⟩:=HMA.out.begun HWA.out hW1
 rw [← hW1]
 clear hW1
 dsimp only [Exit.then]
 rename_i K hK
 have HKK:=Lib.hid hK
 clear hK
 have HB1:=Lib.hid (HBWA.out.trans hb1)
 have hbk : Has W1 w.heap.size 74 #[.bool bl,.int .i64 el,.slice (some ⟨q,p,none⟩) (r.length + 1) cp]:=(hoth _ (Ne.symm HGN.out)).trans HBX.out
 have HBK:=Lib.hid hbk
 have b1 : W1.cell? ⟨w.heap.size,0,none⟩ = some (.bool bl):=hbk.cell 0
 obtain ⟨vr1,vw1,hh1,hrow,_,_,_,_,_,_⟩:=id hst
 have HROW1:=Lib.hid hrow
 obtain ⟨A3,c3,hvr,_⟩:=ownK_form hrow
 subst hvr
 obtain ⟨N,hN⟩ : ∃ N,s.recs.length = N:=⟨_,rfl⟩
 rw [hN] at hh1
 have HNN:=Lib.hid hN
 have d3 : W1.cell? ⟨g,3,none⟩ = some (.slice A3 N c3):=hh1.cell 3
 have HD3 : Hid (∀ X,Below W1.heap.size W1 X → X.cell? ⟨g,3,none⟩ = some (.slice A3 N c3)):=fun X hb=>(hb.cell (p:=⟨g,3,none⟩) hh1.lt).trans d3
 have d4 : W1.cell? ⟨g,4,none⟩ = some (sv xt):=hh1.cell 4
 have d5 : W1.cell? ⟨g,5,none⟩ = some (.bool xq):=hh1.cell 5
 have d6 : W1.cell? ⟨g,6,none⟩ = some (.int .i64 xl):=hh1.cell 6
 have d7 : W1.cell? ⟨g,7,none⟩ = some (.int .i64 xc):=hh1.cell 7
 have HST:=Lib.hid hst
 have HKW:=Lib.hid (fun W=>keyword_any ⟨xt,xq,xl,xc⟩ W HXL.out)
 have HKL : Hid ((Ma.kw ⟨xt,xq,xl,xc⟩).length ≤ 140737488355328):=by
  have h9 : xt.length ≤ 262144:=HXL.out
  rw [Hid]
  unfold Ma.kw
  split
  · simp
  · rw [Nm.fold_length];show xt.length ≤ _;omega
 obtain ⟨kk,hkk⟩ : ∃ kk,Ma.kw ⟨xt,xq,xl,xc⟩ = kk:=⟨_,rfl⟩
 have hdir : Ma.isDir bl ⟨xt,xq,xl,xc⟩ = (!bl && dollar kk):=by rw [← hkk];rfl
 have HDIR:=Lib.hid hdir
 rw [hkk] at HKW HKL
 have HWS : Hid (wa.heap.size = w.heap.size + 1):=by rw [Hid,← hwa0];simp
 clear hst hb1 hoth hsz hbk hh1 hrow hN hkk hdir hwa0 x0 x1 x2 x3 e4 e5 e6 e7 e8 g4 g5 g6 g7 g8 b0 b2
 cases bl with
 | true =>
  by_cases hN4 : N = 4096
  · subst hN4
    have her : er = Ma.at_ ⟨xt,xq,xl,xc⟩ 2:=by
     have:=HE.out
     unfold Ma.entry at this
     rw [HDIR.out] at this
     simp only [Bool.not_true,Bool.false_and,Bool.false_eq_true,if_false] at this
     rw [if_pos HNN.out] at this
     injection this with this
     exact this.symm
    subst her
    have HGU : Hid (∀ W,Calls Tryz.prog 40 #[.agg #[sv xt,.bool xq,.int .i64 xl,.int .i64 xc],.int .i64 2] W fun e w' => Fell W W.heap.size (Ma.at_ ⟨xt,xq,xl,xc⟩ 2) e w'):=fun W=>maGiveUp_any ⟨xt,xq,xl,xc⟩ 2 W
    have HBB:=Lib.hid HB1.out
    have HGL:=Lib.hid HST.out.lt
    refine HKK.out _ _ ?_
    have HKB:=Lib.hid (Below.refl g W1)
    go_wp2_with (go_at_call 40;refine (HGU.out _).mono ?_;rintro e w5 ⟨rfl,hb5⟩;exact ⟨rfl,⟨rfl,by first | exact HBB.out.trans (hb5.mono (Nat.le_of_lt HGL.out)) | exact HBB.out.drew.trans (hb5.mono (Nat.le_of_lt HGL.out))⟩⟩)
  · have hne : ((N : Int) == 4096) = false:=beq_eq_false_iff_ne.2 (by omega)
    have hne2 : ¬ (N : Int) = 4096:=beq_eq_false_iff_ne.1 hne
    refine HKK.out _ _ ?_
    go_wp2
    have hrec : Ma.record s ⟨xt,xq,xl,xc⟩ true (⟨xt,xq,xl,xc⟩ :: r) = .error er:=by
     have:=HE.out
     unfold Ma.entry at this
     rw [HDIR.out] at this
     simp only [Bool.not_true,Bool.false_and,Bool.false_eq_true,if_false] at this
     rw [if_neg (by rw [HNN.out];exact hN4)] at this
     cases hq9 : Ma.record s ⟨xt,xq,xl,xc⟩ true (⟨xt,xq,xl,xc⟩ :: r) with
     | error y =>
      rw [hq9] at this
      injection this with this
      rw [this]
     | ok y=>rw [hq9] at this;cases this
    have HMD:=Lib.hid (HST.out.keep (Below.refl _ W1).drew)
    have HREC : Hid (Calls Tryz.prog 41 #[.pointer (some ⟨g,0,none⟩),.bool true] W1.drew fun e w' => Fell W1.drew g er e w'):=by
     have h9:=maRec_any HMD.out HS.out true (fun _=>by simp) (.inl hno)
     rw [hrec] at h9
     exact h9
    clear hrec
    have HBB:=Lib.hid HB1.out
    go_region_with (go_at_call 41;refine HREC.out.mono ?_;rintro e w5 ⟨rfl,hb5⟩;refine (fun (_ : wpAny Tryz.prog .any #[] (fun _ _ _=>True) 0 #[] { tmps:=#[],defers := [] } w5)=>(show bodyPost Tryz.prog Tryz.f23 (fun e w' => Fell w g er e w') (Exit.panic _) _ _ from ⟨rfl,⟨rfl,HBB.out.drew.trans hb5⟩⟩)) ?_)
    all_goals trivial
 | false =>
  obtain ⟨dl,hdl⟩ : ∃ dl,dollar kk = dl:=⟨_,rfl⟩
  have HDL:=Lib.hid hdl
  have HPRE : Hid (∀ W,Calls Tryz.prog 37 #[sv kk,.string ⟨#[36]⟩] W fun e w' => e = .returned (.bool dl) ∧ w' = W):=fun W=>by
   have:=hasPre_any kk W HKL.out
   rwa [hdl] at this
  clear hdl
  cases dl with
  | true =>
   have hd : Ma.directive s ⟨xt,xq,xl,xc⟩ r = .error er:=by
    have:=HE.out
    unfold Ma.entry at this
    rw [HDIR.out,HDL.out] at this
    simpa using this
   have HDR : Hid (∀ W,MM W g hi s ⟨xt,xq,xl,xc⟩ (⟨xt,xq,xl,xc⟩ :: r) → Calls Tryz.prog 39 #[.pointer (some ⟨g,0,none⟩)] W fun e w' => Fell W g er e w'):=fun W hM=>by
    have:=maDir_any hM HS.out
    rw [hd] at this
    exact this
   clear hd
   refine HKK.out _ _ ?_
   go_wp2_with (first
    | (go_at_call 38;refine (HKW.out _).mono ?_;rintro e w2 ⟨rfl,hb2⟩;have HM2:=Lib.hid (HST.out.keep hb2);have HB2:=Lib.hid (HB1.out.trans (hb2.mono (Nat.le_of_lt HST.out.lt)));clear hb2)
    | (go_at_call 37;refine (HPRE.out _).mono ?_;rintro e w3 ⟨rfl,rfl⟩)
    | (go_at_call 39;refine (HDR.out _ HM2.out).mono ?_;rintro e w4 ⟨rfl,hb4⟩;exact ⟨rfl,⟨rfl,HB2.out.trans hb4⟩⟩))
  | false =>
   by_cases hN4 : N = 4096
   · subst hN4
     have her : er = Ma.at_ ⟨xt,xq,xl,xc⟩ 2:=by
      have:=HE.out
      unfold Ma.entry at this
      rw [HDIR.out,HDL.out] at this
      simp only [Bool.and_false,Bool.false_eq_true,if_false] at this
      rw [if_pos HNN.out] at this
      injection this with this
      exact this.symm
     subst her
     have HGU : Hid (∀ W,Calls Tryz.prog 40 #[.agg #[sv xt,.bool xq,.int .i64 xl,.int .i64 xc],.int .i64 2] W fun e w' => Fell W W.heap.size (Ma.at_ ⟨xt,xq,xl,xc⟩ 2) e w'):=fun W=>maGiveUp_any ⟨xt,xq,xl,xc⟩ 2 W
     have HGL:=Lib.hid HST.out.lt
     have HD4 : Hid (∀ X,Below W1.heap.size W1 X → X.cell? ⟨g,4,none⟩ = some (sv xt) ∧ X.cell? ⟨g,5,none⟩ = some (.bool xq) ∧ X.cell? ⟨g,6,none⟩ = some (.int .i64 xl) ∧ X.cell? ⟨g,7,none⟩ = some (.int .i64 xc)):=fun X hb=>⟨(hb.cell (p:=⟨g,4,none⟩) HGL.out).trans d4,(hb.cell (p:=⟨g,5,none⟩) HGL.out).trans d5,(hb.cell (p:=⟨g,6,none⟩) HGL.out).trans d6,(hb.cell (p:=⟨g,7,none⟩) HGL.out).trans d7⟩
     refine HKK.out _ _ ?_
     go_wp2_with (first
      | (go_at_call 38;refine (HKW.out _).mono ?_;rintro e w2 ⟨rfl,hb2⟩;have HM2:=Lib.hid (HST.out.keep hb2);have HB2:=Lib.hid (HB1.out.trans (hb2.mono (Nat.le_of_lt HST.out.lt)));have HBK2:=Lib.hid (HBK.out.below hb2 HBK.out.lt);have e3:=HD3.out _ hb2;have HROW2:=Lib.hid (ownK_below HROW1.out hb2 (Nat.le_refl _));have eb : w2.cell? ⟨w.heap.size,0,none⟩ = some (.bool false):=HBK2.out.cell 0;obtain ⟨k4,k5,k6,k7⟩:=HD4.out _ hb2;clear hb2)
      | (go_at_call 37;refine (HPRE.out _).mono ?_;rintro e w3 ⟨rfl,rfl⟩)
      | (go_at_call 40;refine (HGU.out _).mono ?_;rintro e w5 ⟨rfl,hb5⟩;exact ⟨rfl,⟨rfl,by first | exact HB2.out.trans (hb5.mono (Nat.le_of_lt HM2.out.lt)) | exact HB2.out.drew.trans (hb5.mono (Nat.le_of_lt HM2.out.lt))⟩⟩))
   · have hne : ((N : Int) == 4096) = false:=beq_eq_false_iff_ne.2 (by omega)
     have hne2 : ¬ (N : Int) = 4096:=beq_eq_false_iff_ne.1 hne
     refine HKK.out _ _ ?_
     go_wp2_with (first
      | (go_at_call 38;refine (HKW.out _).mono ?_;rintro e w2 ⟨rfl,hb2⟩;have HM2:=Lib.hid (HST.out.keep hb2);have HB2:=Lib.hid (HB1.out.trans (hb2.mono (Nat.le_of_lt HST.out.lt)));have HBK2:=Lib.hid (HBK.out.below hb2 HBK.out.lt);have e3:=HD3.out _ hb2;have HROW2:=Lib.hid (ownK_below HROW1.out hb2 (Nat.le_refl _));have eb : w2.cell? ⟨w.heap.size,0,none⟩ = some (.bool false):=HBK2.out.cell 0;clear hb2)
      | (go_at_call 37;refine (HPRE.out _).mono ?_;rintro e w3 ⟨rfl,rfl⟩))
     have hrec : Ma.record s ⟨xt,xq,xl,xc⟩ false (⟨xt,xq,xl,xc⟩ :: r) = .error er:=by
      have:=HE.out
      unfold Ma.entry at this
      rw [HDIR.out,HDL.out] at this
      simp only [Bool.and_false,Bool.false_eq_true,if_false] at this
      rw [if_neg (by rw [HNN.out];exact hN4)] at this
      cases hq9 : Ma.record s ⟨xt,xq,xl,xc⟩ false (⟨xt,xq,xl,xc⟩ :: r) with
      | error y =>
       rw [hq9] at this
       injection this with this
       rw [this]
      | ok y=>rw [hq9] at this;cases this
     have HMD:=Lib.hid (HM2.out.keep (Below.refl _ w3).drew)
     have HREC : Hid (Calls Tryz.prog 41 #[.pointer (some ⟨g,0,none⟩),.bool false] w3.drew fun e w' => Fell w3.drew g er e w'):=by
      have h9:=maRec_any HMD.out HS.out false (fun _=>by simp) (.inl hno)
      rw [hrec] at h9
      exact h9
     clear hrec
     have HBB:=Lib.hid HB2.out
     go_region_with (go_at_call 41;refine HREC.out.mono ?_;rintro e w5 ⟨rfl,hb5⟩;refine (fun (_ : wpAny Tryz.prog .any #[] (fun _ _ _=>True) 0 #[] { tmps:=#[],defers := [] } w5)=>(show bodyPost Tryz.prog Tryz.f23 (fun e w' => Fell w g er e w') (Exit.panic _) _ _ from ⟨rfl,⟨rfl,HBB.out.drew.trans hb5⟩⟩)) ?_)
     all_goals trivial
end
end Go.Proofs.YtekafhogiambaaaGreatDoor
namespace Go.Proofs.YtekafhogiambaaaGreatDoor
open Go.RowKit
set_option maxHeartbeats 2000000 in
theorem maCatch_hit (L S E : Nat) (x : Ma.Er) (W : World) (hL : Has W L 23 #[.slice none 0 0]) (hS : Has W S 31 #[.int .i64 0,.int .i64 0]) (hE : Has W E 27 #[.int .i64 0]) (h1 : L ≠ S) (h2 : L ≠ E) (h3 : S ≠ E) :
 CallsD Tryz.prog 22 #[.pointer (some ⟨L,0,none⟩),.pointer (some ⟨S,0,none⟩),.pointer (some ⟨E,0,none⟩)] (.panicking [{ v:=flt x,recovered:=false }]) W fun e u' w' => e = .returned (.tuple #[]) ∧ u' = .panicking [{ v:=flt x,recovered:=true }] ∧
  Has w' L 23 #[.slice none 0 0] ∧ Has w' S 31 #[.int .i64 x.line,.int .i64 x.col] ∧ Has w' E 27 #[.int .i64 x.e] ∧ ∀ B,B ≤ L → B ≤ S → B ≤ E → Below B W w':=by
 refine callsD_of_wpS Tryz.func22 rfl fun c₀ cs hu=>?_
 apply wpS_seq
 apply wpS_region
 simp [wpOpsS,go_sem,recoverD,hu,Tryz.ntmps22,Exit.thenS]
 apply wpS_seq
 apply wpS_region
 simp [wpOpsS,go_sem,Exit.thenS,flt]
 refine wpS_cond (t:=true) (by simp [Act.eval,Array.replicate]) ?_
 simp only [if_true]
 refine wpS_of_wp ?_
 have hta : ∀ W' : World,(Instr.typeAssert (.iface 67 (.agg #[.int .i64 x.e,.int .i64 x.line,.int .i64 x.col])) 20 67 false).run Tryz.prog W' = .ok (.agg #[.int .i64 x.e,.int .i64 x.line,.int .i64 x.col]) W':=fun W' => by
  rfl
 obtain ⟨xe,xl,xc⟩:=x
 dsimp only at hta ⊢
 have hfr : ((#[.pointer (some ⟨L,0,none⟩),.pointer (some ⟨S,0,none⟩),.pointer (some ⟨E,0,none⟩)] : Array Value) ++ ((((Array.replicate 11 undef).setIfInBounds 2 (Value.iface 67 (.agg #[.int .i64 xe,.int .i64 xl,.int .i64 xc]))).setIfInBounds 0 (Value.iface 67 (.agg #[.int .i64 xe,.int .i64 xl,.int .i64 xc]))).setIfInBounds 3 (Value.iface 67 (.agg #[.int .i64 xe,.int .i64 xl,.int .i64 xc]))).setIfInBounds 4 (Value.bool true)) =
  #[.pointer (some ⟨L,0,none⟩),.pointer (some ⟨S,0,none⟩),.pointer (some ⟨E,0,none⟩),Value.iface 67 (.agg #[.int .i64 xe,.int .i64 xl,.int .i64 xc]),undef,Value.iface 67 (.agg #[.int .i64 xe,.int .i64 xl,.int .i64 xc]),Value.iface 67 (.agg #[.int .i64 xe,.int .i64 xl,.int .i64 xc]),.bool true,undef,undef,undef,undef,undef,undef]:=rfl
 rw [hfr]
 clear hfr
 have hD : Has (W.alloc (.cells #[.int .i64 xe,.int .i64 xl,.int .i64 xc] 67)) W.heap.size 67 #[.int .i64 xe,.int .i64 xl,.int .i64 xc]:=Has.fresh W _ _
 have hL1:=hL.alloc (.cells #[.int .i64 xe,.int .i64 xl,.int .i64 xc] 67)
 have hS1:=hS.alloc (.cells #[.int .i64 xe,.int .i64 xl,.int .i64 xc] 67)
 have hE1:=hE.alloc (.cells #[.int .i64 xe,.int .i64 xl,.int .i64 xc] 67)
 have HLL:=Lib.hid hL1
 have HSS:=Lib.hid hS1
 have HEE:=Lib.hid hE1
 have hw1 : ∀ B,B ≤ L → Below B W (W.alloc (.cells #[.int .i64 xe,.int .i64 xl,.int .i64 xc] 67)):=fun B hB=>(Below.refl B W).alloc (by have:=hL.lt;omega) _
 have HWW:=Lib.hid hw1
 have hLW:=hL.lt
 have hSW:=hS.lt
 have hEW:=hE.lt
 clear hL hS hE hw1
 go_wp2
 generalize hg : World.alloc _ _ = W1 at *
 clear hg
 generalize W.heap.size = D at *
 have d0 : W1.cell? ⟨D,0,none⟩ = some (.int .i64 xe):=by rw [hD.cell];rfl
 have d1 : W1.cell? ⟨D,1,none⟩ = some (.int .i64 xl):=by rw [hD.cell];rfl
 have d2 : W1.cell? ⟨D,2,none⟩ = some (.int .i64 xc):=by rw [hD.cell];rfl
 have l0 : W1.cell? ⟨L,0,none⟩ = some (.slice none 0 0):=by rw [hL1.cell];rfl
 have s0 : W1.cell? ⟨S,0,none⟩ = some (.int .i64 0):=by rw [hS1.cell];rfl
 have s1 : W1.cell? ⟨S,1,none⟩ = some (.int .i64 0):=by rw [hS1.cell];rfl
 have e0 : W1.cell? ⟨E,0,none⟩ = some (.int .i64 0):=by rw [hE1.cell];rfl
 have fl:=hL1.free 0
 have fs:=hS1.free 0
 have ft:=hS1.free 1
 have fe:=hE1.free 0
 have n1 : D ≠ L:=by omega
 have n2 : D ≠ S:=by omega
 have n3 : D ≠ E:=by omega
 have n4 : S ≠ L:=fun e=>h1 e.symm
 have n5 : E ≠ L:=fun e=>h2 e.symm
 have n6 : E ≠ S:=fun e=>h3 e.symm
 clear hD hL1 hS1 hE1
 go_region
 have xL : Has ((((W1.setCell ⟨L,0,none⟩ (.slice none 0 0)).setCell ⟨S,0,none⟩ (.int .i64 xl)).setCell ⟨S,1,none⟩ (.int .i64 xc)).setCell ⟨E,0,none⟩ (.int .i64 xe)).drew L 23 #[.slice none 0 0] :=
  (((HLL.out.set 0 (.slice none 0 0)).far (p:=⟨S,0,none⟩) h1 _).far (p:=⟨S,1,none⟩) h1 _).far (p:=⟨E,0,none⟩) h2 _
 have xS : Has ((((W1.setCell ⟨L,0,none⟩ (.slice none 0 0)).setCell ⟨S,0,none⟩ (.int .i64 xl)).setCell ⟨S,1,none⟩ (.int .i64 xc)).setCell ⟨E,0,none⟩ (.int .i64 xe)).drew S 31 #[.int .i64 xl,.int .i64 xc] :=
  (((HSS.out.far (p:=⟨L,0,none⟩) n4 _).set 0 (.int .i64 xl)).set 1 (.int .i64 xc)).far (p:=⟨E,0,none⟩) h3 _
 have xE : Has ((((W1.setCell ⟨L,0,none⟩ (.slice none 0 0)).setCell ⟨S,0,none⟩ (.int .i64 xl)).setCell ⟨S,1,none⟩ (.int .i64 xc)).setCell ⟨E,0,none⟩ (.int .i64 xe)).drew E 27 #[.int .i64 xe] :=
  (((HEE.out.far (p:=⟨L,0,none⟩) n5 _).far (p:=⟨S,0,none⟩) n6 _).far (p:=⟨S,1,none⟩) n6 _).set 0 (.int .i64 xe)
 have xB : ∀ B,B ≤ L → B ≤ S → B ≤ E → Below B W ((((W1.setCell ⟨L,0,none⟩ (.slice none 0 0)).setCell ⟨S,0,none⟩ (.int .i64 xl)).setCell ⟨S,1,none⟩ (.int .i64 xc)).setCell ⟨E,0,none⟩ (.int .i64 xe)).drew:=fun B b1 b2 b3 =>
  (((((HWW.out B b1).setCell (p:=⟨L,0,none⟩) b1 _).setCell (p:=⟨S,0,none⟩) b2 _).setCell (p:=⟨S,1,none⟩) b2 _).setCell (p:=⟨E,0,none⟩) b3 _).drew
 generalize World.drew _ = w2 at *
 clear d0 d1 d2 l0 s0 s1 e0 fl fs ft fe hta
 simp (zetaDelta:=true) [bodyPostS,results,Tryz.results22]
 exact ⟨xL,xS,xE,xB⟩
end Go.Proofs.YtekafhogiambaaaGreatDoor
