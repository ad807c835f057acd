/- Texts of the proofs, merged. -/
import Derived.Test.YtekafhogiambaaaGreatDoorZc12
import Derived.Test.YtekafhogiambaaaGreatDoorZc7
import Derived.Test.YtekafhogiambaaaGreatDoorZc3
import Derived.Deep.RegionLaw
import Derived.BigQuiet
import Derived.Test.YtekafhogiambaaaGreatDoorZc26
import Derived.Test.YtekafhogiambaaaGreatDoorZc15
set_option maxRecDepth 100000
namespace Go.Proofs.YtekafhogiambaaaGreatDoor
open Go.RowKit
def dollar (k : List UInt8) : Bool:=match k with
 | c :: _=>c == 36
 | []=>false
set_option maxHeartbeats 1000000 in
theorem hasPre_any (k : List UInt8) (w : World) (hk : k.length ≤ 140737488355328) :
 Calls Tryz.prog 37 #[sv k,.string ⟨#[36]⟩] w fun e w' => e = .returned (.bool (dollar k)) ∧ w' = w:=by
 cases k with
 | nil =>
  go_enter Tryz.func37,Tryz.ntmps37
  go_wp2
  go_ret
  exact ⟨rfl,rfl⟩
 | cons c t =>
  obtain ⟨s,hs⟩ : ∃ s : ByteArray,s = ⟨(c :: t).toArray⟩:=⟨_,rfl⟩
  have hsz : s.size = t.length + 1:=by rw [hs,mk_size];rfl
  have h1 : (1 : Int) ≤ (s.size : Int):=by omega
  show Calls _ _ #[.string ⟨(c :: t).toArray⟩,_] _ _
  rw [← hs]
  have HS:=Lib.hid hs
  clear hs
  go_enter Tryz.func37,Tryz.ntmps37
  go_wp2
  go_ret
  have hl : s.data.toList = c :: t:=by rw [HS.out]
  have hd : (s.extract 0 1).data.toList = [c]:=by rw [extract_list,hl];rfl
  refine ⟨?_,rfl⟩
  show Ending.returned (.bool ((s.extract 0 1).toList == [36])) = _
  have hb : ((s.extract 0 1).toList == [36]) = (c == 36):=by
   rw [ByteArray.toList_eq,hd]
   simp
  rw [hb]
  rfl
end Go.Proofs.YtekafhogiambaaaGreatDoor
namespace Go.Proofs.YtekafhogiambaaaGreatDoor
open Go.RowKit
theorem info_entry : ∃ i z,Tryz.prog.info? 74 = some i ∧ i.zero = some z ∧ i.size = 3 ∧ i.bytes = 40 ∧ z.cells.size = 3:=by
 refine ⟨_,_,rfl,rfl,?_,?_,?_⟩ <;> kernel_rfl
theorem info_word : ∃ i z,Tryz.prog.info? 69 = some i ∧ i.zero = some z ∧ i.size = 4 ∧ i.bytes = 40 ∧ z.cells.size = 4:=by
 refine ⟨_,_,rfl,rfl,?_,?_,?_⟩ <;> kernel_rfl
theorem append_run {P : Program} {w : World} {o : Oper} {a : Act} {K : Act → World → Prop} {Q : Exit → Act → World → Prop} (s x : Operand) (t u : TypeId)
 (ho : o.op = .call { callee:=.builtin .append,args:=#[s,x],argTypes:=#[t,u] }) (v y : Value) (hs : a.eval s = v) (hx : a.eval x = y) {v' : Value} {w' : World}
 (hr : (Builtin.append_ #[t,u] o.type #[v,y]).run P w = .ok v' w') (h : K (a.put o.dst v') w') : o.wp P a w K Q:=by
 unfold Oper.wp execOp
 simp only [ho,resolve,invoke,builtin,Sem.run_bind,Sem.run_pure,Result.andThen_ok,List.map_toArray,List.map_cons,List.map_nil,hs,hx,hr]
 exact h
theorem tk_cells_new (w : World) (t : TypeId) (l : List Value) : ∀ j u,l[j]? = some u → (w.alloc (.cells l.toArray t)).cell? ((⟨w.heap.size,0,none⟩ : Addr).add j) = some u:=by
 intro j u hu
 rw [addr_add,Nat.zero_add,(Has.fresh w t l.toArray).cell j]
 simpa using hu
theorem tk_drew {w : World} {base : Nat} {e : TypeId} {size : Nat} {v : Value} {n : Nat} {xs : List Value} (h : w.ownsRow base e size v n xs) : w.drew.ownsRow base e size v n xs:=h
theorem Tx.drew {w : World} {b : Nat} {vw ve : Value} {out : List Ex} {ws : List Tk.Wd} (h : Tx w b vw ve ws out) : Tx w.drew b vw ve ws out:=⟨⟨h.er.own,h.er.dat,h.er.off⟩,h.wr,h.off,h.far⟩
theorem Tx.below {w w' : World} {b : Nat} {vw ve : Value} {out : List Ex} {ws : List Tk.Wd} (h : Tx w b vw ve ws out) {B : Nat} (hb : Below B w w') (hB : w.heap.size ≤ B) : Tx w' b vw ve ws out:=⟨h.er.below hb hB,ownK_below h.wr hb hB,h.off,h.far⟩
theorem Tx.alloc {w : World} {b : Nat} {vw ve : Value} {out : List Ex} {ws : List Tk.Wd} (h : Tx w b vw ve ws out) (o : Obj) : Tx (w.alloc o) b vw ve ws out:=⟨⟨h.er.own.alloc o,fun x hx=>(h.er.dat x hx).alloc o,h.er.off⟩,h.wr.alloc o,h.off,h.far⟩
def closeEx (bl : Bool) (el : Nat) (vw : Value) (ws : List Tk.Wd) (out : List Ex) : List Ex:=if ws = [] then out else out ++ [⟨bl,el,vw,ws⟩]
set_option maxHeartbeats 1000000 in
theorem endEntry_any (s : ByteArray) (at_ line lineAt dep fl_ fc : Nat) (bl : Bool) (el : Nat) (vw ve : Value) (ws : List Tk.Wd) (out : List Ex) (g b : Nat) (w : World) (h : Has w g 91 (lxc s at_ line lineAt dep fl_ fc bl el vw ve))
 (hT : Tx w b vw ve ws out) (hgb : g < b) (hb : b ≤ w.heap.size) (hn : out.length ≤ 1048576) (hws : ws.length ≤ 1048576) :
 Calls Tryz.prog 69 #[.pointer (some ⟨g,0,none⟩)] w fun e w' => e = .returned (.tuple #[]) ∧ ∃ ve',Has w' g 91 (lxc s at_ line lineAt dep fl_ fc bl el vw ve') ∧ Ers w' b ve' (closeEx bl el vw ws out) ∧ Kb g b w w':=by
 obtain ⟨ad,cp,rfl,hcp⟩:=ownK_form hT.wr
 have HT:=Lib.hid hT
 have H:=Lib.hid h
 by_cases hz : ws = []
 · have c9 : w.cell? ⟨g,9,none⟩ = some (.slice ad ws.length cp):=h.cell 9
   subst hz
   clear h hT
   go_enter Tryz.func69,Tryz.ntmps69
   go_wp2
   go_end0
   exact ⟨rfl,ve,H.out,HT.out.er,Kb.refl _ _ _⟩
 · have hl : 0 < ws.length:=List.length_pos_iff.2 hz
   obtain ⟨i3,z3,hi3,hz3,hs3,hb3,hc3⟩:=info_entry
   obtain ⟨ve',w2,hr,ho,hg2,hv2⟩:=run_append_where (P:=Tryz.prog) (w:=w.drew.alloc (.cells #[.bool bl,.int .i64 el,.slice ad ws.length cp] 74)) b 63 63 74 i3 z3 3 40 Tryz.underlying63 hi3 hz3 hs3 hb3 hc3 (by decide) ve out.length (fl ec out)
    ((tk_drew hT.er.own).alloc _) ⟨w.heap.size,0,none⟩ 1 1 (ec ⟨bl,el,.slice ad ws.length cp,ws⟩) rfl (tk_cells_new w.drew _ _) (by simp [ec,Value.oneCell']) (by decide) (by unfold maxLen;omega) (by omega) (by simp;omega)
   have HCL : Hid (closeEx bl el (.slice ad ws.length cp) ws out = out ++ [⟨bl,el,.slice ad ws.length cp,ws⟩]):=by rw [Hid,closeEx,if_neg hz]
   have c7 : w.cell? ⟨g,7,none⟩ = some (.bool bl):=h.cell 7
   have c8 : w.cell? ⟨g,8,none⟩ = some (.int .i64 el):=h.cell 8
   have c9 : w.cell? ⟨g,9,none⟩ = some (.slice ad ws.length cp):=h.cell 9
   have c10 : w.cell? ⟨g,10,none⟩ = some ve:=h.cell 10
   have HE : Hid (Ers w2 b ve' (out ++ [⟨bl,el,.slice ad ws.length cp,ws⟩])):=(HT.out.drew.alloc (.cells #[.bool bl,.int .i64 el,.slice ad ws.length cp] 74)).close (by rw [fl_append,fl_one];exact ho) hg2 hv2
   have hg3 : g < w.heap.size:=by omega
   have hne : some g ≠ ve.ownBlock:=fun e=>by have:=(hT.er.own.lt g e.symm).1;omega
   have h2 : Has w2 g 91 (lxc s at_ line lineAt dep fl_ fc bl el (.slice ad ws.length cp) ve) :=
    Has.grown ((show Has w.drew g 91 (lxc s at_ line lineAt dep fl_ fc bl el (.slice ad ws.length cp) ve) from h).alloc _) hg2 hne
   have d10 : w2.cell? ⟨g,10,none⟩ = some ve:=h2.cell 10
   have f10 : w2.frozen? ⟨g,10,none⟩ = false:=h2.free 10
   have H2:=Lib.hid h2
   have hbw : Below b w w2:=(((Below.refl b w).drew).alloc (by simp;omega) _).grown hg2 (by simp;omega) (fun k e=>by have:=(hT.er.own.lt k e).1;omega)
   have HBW : Hid (Kb g b w w2):=Kb.of_below hbw
   obtain ⟨ad2,cp2,rfl,_⟩:=ownK_form ho
   have HR:=Lib.hid hr
   have hl' : (0 : Int) < (ws.length : Int):=by omega
   rw [HCL.out]
   clear h hT hr ho hg2 hv2 hz h2 hbw hne HCL HT H hi3 hz3 hs3 hb3 hc3
   go_enter Tryz.func69,Tryz.ntmps69
   go_wp2
   go_region_law (refine append_run (.tmp 13) (.tmp 18) _ _ rfl _ _ rfl rfl HR.out ?_)
   all_goals
    go_wp2
    go_end0
    exact ⟨rfl,_,H2.out.set 10 _,HE.out.far hgb (grown_set (World.grownBy.refl w2 _) 10 _),HBW.out.set 10 _⟩
end Go.Proofs.YtekafhogiambaaaGreatDoor
namespace Go.Proofs.YtekafhogiambaaaGreatDoor
open Go.RowKit
theorem info_record : ∃ i z,Tryz.prog.info? 39 = some i ∧ i.zero = some z ∧ i.size = 12 ∧ i.bytes = 96 ∧ z.cells.size = 12:=by
 refine ⟨_,_,rfl,rfl,?_,?_,?_⟩ <;> kernel_rfl
section
variable {g : Nat} {hi : Nat × Nat} {s : Ma.S} {f x : Tk.Wd} {ws r : List Tk.Wd} {w : World}
theorem MM.start {vw : Value} (h : MM w g hi s f ws) (hw : Wp w hi.1 vw (x :: r)) : MM (((((w.setCell ⟨g,4,none⟩ (sv x.text)).setCell ⟨g,5,none⟩ (.bool x.quoted)).setCell ⟨g,6,none⟩ (.int .i64 x.line)).setCell ⟨g,7,none⟩ (.int .i64 x.col)).setCell ⟨g,8,none⟩ vw) g hi s x (x :: r):=by
 obtain ⟨vr,vw0,h1,h2,h3,h4,h5,h6,h7,h8⟩:=h
 have hb : Below hi.1 w (((((w.setCell ⟨g,4,none⟩ (sv x.text)).setCell ⟨g,5,none⟩ (.bool x.quoted)).setCell ⟨g,6,none⟩ (.int .i64 x.line)).setCell ⟨g,7,none⟩ (.int .i64 x.col)).setCell ⟨g,8,none⟩ vw) :=
  (((((Below.refl hi.1 w).setCell (p:=⟨g,4,none⟩) h4 _).setCell (p:=⟨g,5,none⟩) h4 _).setCell (p:=⟨g,6,none⟩) h4 _).setCell (p:=⟨g,7,none⟩) h4 _).setCell (p:=⟨g,8,none⟩) h4 _
 exact ⟨vr,vw,((((h1.set 4 _).set 5 _).set 6 _).set 7 _).set 8 _,row_kept h2 (Nat.lt_succ_self g) (grown_set (grown_set (grown_set (grown_set (grown_set (World.grownBy.refl w _) 4 _) 5 _) 6 _) 7 _) 8 _),hw.keep hb,h4,h5.below hb,h6,by simpa using h7,h8⟩
theorem MM.begun {vw : Value} (h : MM w g hi s f ws) (hw : Wp w hi.1 vw (x :: r)) {W : World}
 (hW : W = ((((((w.setCell ⟨g,4,none⟩ (sv x.text)).setCell ⟨g,5,none⟩ (.bool x.quoted)).setCell ⟨g,6,none⟩ (.int .i64 x.line)).setCell ⟨g,7,none⟩ (.int .i64 x.col)).setCell ⟨g,8,none⟩ vw).drew)) :
 MM W g hi s x (x :: r) ∧ Below g w W ∧ (∀ k,k ≠ g → W.heap[k]? = w.heap[k]?) ∧ W.heap.size = w.heap.size:=by
 have h1:=h.start hw
 have h2 : Below g w (((((w.setCell ⟨g,4,none⟩ (sv x.text)).setCell ⟨g,5,none⟩ (.bool x.quoted)).setCell ⟨g,6,none⟩ (.int .i64 x.line)).setCell ⟨g,7,none⟩ (.int .i64 x.col)).setCell ⟨g,8,none⟩ vw) :=
  (((((Below.refl g w).setCell (p:=⟨g,4,none⟩) (Nat.le_refl g) _).setCell (p:=⟨g,5,none⟩) (Nat.le_refl g) _).setCell (p:=⟨g,6,none⟩) (Nat.le_refl g) _).setCell (p:=⟨g,7,none⟩) (Nat.le_refl g) _).setCell (p:=⟨g,8,none⟩) (Nat.le_refl g) _
 have h3 : ∀ k,k ≠ g → (((((w.setCell ⟨g,4,none⟩ (sv x.text)).setCell ⟨g,5,none⟩ (.bool x.quoted)).setCell ⟨g,6,none⟩ (.int .i64 x.line)).setCell ⟨g,7,none⟩ (.int .i64 x.col)).setCell ⟨g,8,none⟩ vw).heap[k]? = w.heap[k]?:=fun k hk=>by
  rw [heap_setCell_other _ _ _ _ hk,heap_setCell_other _ _ _ _ hk,heap_setCell_other _ _ _ _ hk,heap_setCell_other _ _ _ _ hk,heap_setCell_other _ _ _ _ hk]
 have h4 : (((((w.setCell ⟨g,4,none⟩ (sv x.text)).setCell ⟨g,5,none⟩ (.bool x.quoted)).setCell ⟨g,6,none⟩ (.int .i64 x.line)).setCell ⟨g,7,none⟩ (.int .i64 x.col)).setCell ⟨g,8,none⟩ vw).heap.size = w.heap.size:=by simp only [World.size_setCell]
 generalize (((((w.setCell ⟨g,4,none⟩ (sv x.text)).setCell ⟨g,5,none⟩ (.bool x.quoted)).setCell ⟨g,6,none⟩ (.int .i64 x.line)).setCell ⟨g,7,none⟩ (.int .i64 x.col)).setCell ⟨g,8,none⟩ vw) = V at *
 subst hW
 exact ⟨h1.keepB (Below.refl hi.2 V).drew,h2.drew,h3,h4⟩
theorem MM.more {c : Ma.Rc} {W : World} (h : MM W g hi s f ws) (hl : s.recs.length ≤ 4096) {v : Value} (hv : Own mcl 12 W (g + 1) 39 v s.recs) :
 ∃ A2 c2 w2,(Builtin.append_ #[23,23] 23 #[v,.slice (some ⟨W.heap.size,0,none⟩) 1 1]).run Tryz.prog (W.alloc (.cells (rvOf c).cells 39)) = .ok (.slice A2 (s.recs.length + 1) c2) w2 ∧
  MM (w2.setCell ⟨g,3,none⟩ (.slice A2 (s.recs.length + 1) c2)) g (hi.1,w2.heap.size) { s with recs:=s.recs ++ [c] } f ws ∧ Below (g + 1) W w2 ∧ (∃ vr vw,Has w2 g 72 (mrC s.o s.ttl s.fx vr f vw)):=by
 obtain ⟨vr,vw,h1,h2,h3,h4,h5,h6,h7,h8⟩:=h
 obtain ⟨i4,z4,hi4,hz4,hs4,hb4,hc4⟩:=info_record
 have hgW:=h1.lt
 obtain ⟨v2,w2,hr,ho,hgw,hv2⟩:=run_append_where (P:=Tryz.prog) (w:=W.alloc (.cells (rvOf c).cells 39)) (g + 1) 23 23 39 i4 z4 12 96 Tryz.underlying23 hi4 hz4 hs4 hb4 hc4 (by decide) v s.recs.length (fl mcl s.recs)
  (hv.alloc _) ⟨W.heap.size,0,none⟩ 1 1 (mcl c) rfl (tk_cells_new W _ (mcl c)) (mcl_one c) (by decide) (by unfold maxLen;omega) (by omega) (by simp;omega)
 obtain ⟨ad2,cp2,hv3,_⟩:=ownK_form ho
 subst hv3
 have hne : some g ≠ v.ownBlock:=fun e=>by have:=(hv.lt g e.symm).1;omega
 have hg2 : Has w2 g 72 (mrC s.o s.ttl s.fx vr f vw):=Has.grown (h1.alloc _) hgw hne
 have hbW : Below (g + 1) W w2:=((Below.refl (g + 1) W).alloc (by omega) _).grown hgw (by simp;omega) (fun k e=>(hv.lt k e).1)
 have hb1 : Below hi.1 W (w2.setCell ⟨g,3,none⟩ (.slice ad2 (s.recs.length + 1) cp2)):=(hbW.mono (by omega)).setCell (p:=⟨g,3,none⟩) h4 _
 refine ⟨ad2,cp2,w2,hr,⟨.slice ad2 (s.recs.length + 1) cp2,vw,hg2.set 3 _,?_,h3.keep hb1,h4,h5.below hb1,hg2.lt,by simp,fun q hq=>?_⟩,hbW,vr,vw,hg2⟩
 · have ho2 : Own mcl 12 w2 (g + 1) 39 (.slice ad2 (s.recs.length + 1) cp2) (s.recs ++ [c]):=by
    unfold Own
    rw [fl_append,fl_one,List.length_append,List.length_singleton]
    exact ho
   exact row_kept ho2 (Nat.lt_succ_self g) (grown_set (World.grownBy.refl w2 _) 3 _)
 · exact (ho.lt q hq).2
theorem rec_kb {b k n g : Nat} {w w' : World} {e : TypeId} {v : Value} {ys : List Value} (h : w.ownsRow (g + 1) e k v n ys) (hk : Kb g b w w') (hb : w.heap.size ≤ b) : w'.ownsRow (g + 1) e k v n ys:=by
 refine ⟨h.1,?_⟩
 rcases h.2 with h0 | ⟨q,cap,cur,rfl,hbg,hg,hr⟩
 · exact .inl h0
 · exact .inr ⟨q,cap,cur,rfl,hbg,(hk.block q (by have:=(Array.getElem?_eq_some_iff.1 hg).1;omega) (by omega)).trans hg,hr⟩
end
end Go.Proofs.YtekafhogiambaaaGreatDoor
