/- Texts of the proofs, merged. -/
import Derived.Test.YtekafhogiambaaaGreatDoorZc36
import Derived.Test.YtekafhogiambaaaGreatDoorZc3
import Derived.Test.YtekafhogiambaaaGreatDoorZc12
import Derived.Test.YtekafhogiambaaaGreatDoorZc20
import Derived.BigQuiet
import Derived.Test.YtekafhogiambaaaGreatDoorZc28
import Derived.Test.YtekafhogiambaaaGreatDoorZc31
import Derived.Test.YtekafhogiambaaaGreatDoorZc2
import Derived.Test.YtekafhogiambaaaGreatDoorZc14
import Derived.Test.YtekafhogiambaaaGreatDoorZc29
import Derived.Test.YtekafhogiambaaaGreatDoorZc1
set_option maxRecDepth 100000
namespace Go.Proofs.YtekafhogiambaaaGreatDoor
open Go.ChangeShapes Go.WideShapes Go.Deep Go.RowKit
theorem open_data_w {H : Type} {enc : TypeId × Value → H} {W : World} {fuel : Nat} {c0 c1 c2 c3 c4 c5 c6 c7 : Value} {d : DataW H} {p : List MemPlace} (hf : DataW.trod enc Tryz.prog W 0 (fun _=>true) true fuel 37 [c0,c1,c2,c3,c4,c5,c6,c7] = some (d,p)) :
 ∃ D : Dv, [c0,c1,c2,c3,c4,c5,c6,c7] = D.cells.toList ∧ D.fits ∧ D.raw.size + D.host.size + D.mail.size ≤ Rows.uptoBulk d ∧ ((d.weights Tryz.prog 37).all (· ≤ reachBytes) = true → D.raw.size ≤ 140737488351232 ∧ D.host.size ≤ 140737488351232 ∧ D.mail.size ≤ 140737488351232):=by
 obtain ⟨xs,n,_,hx,_,hlen,hg⟩:=DataW.trod_struct Tryz.underlying37 hf
 match xs,hlen with
 | [y0,y1,y2,y3],_ =>
  simp only [Prod.mk.injEq] at hx
  have k0 : Tryz.prog.cellsOf 9 = 1:=by kernel_rfl
  have k1 : Tryz.prog.cellsOf 22 = 1:=by kernel_rfl
  have k3 : Tryz.prog.cellsOf 35 = 5:=by kernel_rfl
  have k4 : Tryz.prog.cellsOf 24 = 1:=by kernel_rfl
  have g0 : DataW.trod enc Tryz.prog W 0 (fun _=>true) true n 9 (List.take (Tryz.prog.cellsOf 9) [c0,c1,c2,c3,c4,c5,c6,c7]) = some y0:=hg 0 _ rfl
  have g1 : DataW.trod enc Tryz.prog W 0 (fun _=>true) true n 22 (List.take (Tryz.prog.cellsOf 22) [c1,c2,c3,c4,c5,c6,c7]) = some y1:=hg 1 _ rfl
  have g2 : DataW.trod enc Tryz.prog W 0 (fun _=>true) true n 22 (List.take (Tryz.prog.cellsOf 22) [c2,c3,c4,c5,c6,c7]) = some y2:=hg 2 _ rfl
  have g3 : DataW.trod enc Tryz.prog W 0 (fun _=>true) true n 35 (List.take (Tryz.prog.cellsOf 35) [c3,c4,c5,c6,c7]) = some y3:=hg 3 _ rfl
  rw [k0] at g0
  rw [k1] at g1 g2
  rw [k3] at g3
  obtain ⟨s0,e0,rfl,_⟩:=DataW.trod_string Tryz.underlying9 g0
  obtain ⟨s1,e1,rfl,_⟩:=DataW.trod_string Tryz.underlying22 g1
  obtain ⟨s2,e2,rfl,_⟩:=DataW.trod_string Tryz.underlying22 g2
  obtain ⟨zs,m,_,rfl,_,hzl,hz⟩:=DataW.trod_array Tryz.underlying35 g3
  match zs,hzl with
  | [z0,z1,z2,z3,z4],_ =>
   have a0:=hz 0 (by omega)
   have a1:=hz 1 (by omega)
   have a2:=hz 2 (by omega)
   have a3:=hz 3 (by omega)
   have a4:=hz 4 (by omega)
   rw [k4] at a0 a1 a2 a3 a4
   have b0 : DataW.trod enc Tryz.prog W 0 (fun _=>true) true m 24 [c3] = some z0:=a0
   have b1 : DataW.trod enc Tryz.prog W 0 (fun _=>true) true m 24 [c4] = some z1:=a1
   have b2 : DataW.trod enc Tryz.prog W 0 (fun _=>true) true m 24 [c5] = some z2:=a2
   have b3 : DataW.trod enc Tryz.prog W 0 (fun _=>true) true m 24 [c6] = some z3:=a3
   have b4 : DataW.trod enc Tryz.prog W 0 (fun _=>true) true m 24 [c7] = some z4:=a4
   obtain ⟨n0,f0,rfl,w0⟩:=DataW.trod_int Tryz.underlying24 b0
   obtain ⟨n1,f1,rfl,w1⟩:=DataW.trod_int Tryz.underlying24 b1
   obtain ⟨n2,f2,rfl,w2⟩:=DataW.trod_int Tryz.underlying24 b2
   obtain ⟨n3,f3,rfl,w3⟩:=DataW.trod_int Tryz.underlying24 b3
   obtain ⟨n4,f4,rfl,w4⟩:=DataW.trod_int Tryz.underlying24 b4
   obtain ⟨m0,rfl,l0⟩:=wf_u32 w0
   obtain ⟨m1,rfl,l1⟩:=wf_u32 w1
   obtain ⟨m2,rfl,l2⟩:=wf_u32 w2
   obtain ⟨m3,rfl,l3⟩:=wf_u32 w3
   obtain ⟨m4,rfl,l4⟩:=wf_u32 w4
   injection e0 with e0 _
   injection e1 with e1 _
   injection e2 with e2 _
   injection f0 with f0 _
   injection f1 with f1 _
   injection f2 with f2 _
   injection f3 with f3 _
   injection f4 with f4 _
   subst e0 e1 e2 f0 f1 f2 f3 f4
   obtain ⟨rfl,_⟩:=hx
   have q0 : s0.data.toList.length = s0.size:=by simp
   have q1 : s1.data.toList.length = s1.size:=by simp
   have q2 : s2.data.toList.length = s2.size:=by simp
   refine ⟨⟨s0,s1,s2,m0,m1,m2,m3,m4⟩,rfl,fits_mk l0 l1 l2 l3 l4,?_,fun hw=>?_⟩
   · simp only [List.map_cons,List.map_nil,Rows.uptoBulk,Rows.uptoBulkAll]
     show s0.size + s1.size + s2.size ≤ _
     omega
   · simp only [DataW.weights,Tryz.underlying37,List.map_cons,List.map_nil,DataW.weightsEach,List.all_append,List.all_cons,Bool.and_eq_true,decide_eq_true_eq] at hw
     unfold reachBytes at hw
     show s0.size ≤ _ ∧ s1.size ≤ _ ∧ s2.size ≤ _
     refine ⟨?_,?_,?_⟩
     · rw [← q0];exact hw.1.1
     · rw [← q1];exact hw.2.1.1
     · rw [← q2];exact hw.2.2.1.1
namespace Rv
def fits (r : Rv) : Prop:=r.ty ≤ 65535 ∧ r.cl ≤ 65535 ∧ r.ttl ≤ 4294967295 ∧ r.d.fits
def near (r : Rv) : Prop:=r.nm.size ≤ 140737488351232 ∧ r.d.raw.size ≤ 140737488351232 ∧ r.d.host.size ≤ 140737488351232 ∧ r.d.mail.size ≤ 140737488351232
theorem near.short {r : Rv} (h : r.near) : r.short:=⟨by have:=h.1;omega,by have:=h.2.2.1;omega,by have:=h.2.2.2;omega⟩
end Rv
theorem open_rec_at {H : Type} {enc : TypeId × Value → H} {W : World} {fuel : Nat} {cs : List Value} {x : DataW H × List MemPlace} (hl : cs.length = 12) (hf : DataW.trod enc Tryz.prog W 0 (fun _=>true) true fuel 39 cs = some x) :
 ∃ r : Rv,cs = r.cells.toList ∧ r.fits ∧ ((x.1.weights Tryz.prog 39).all (· ≤ reachBytes) = true → r.near) ∧ r.d.raw.size ≤ Rows.uptoBulk x.1:=by
 match cs,hl with
 | [a0,a1,a2,a3,c0,c1,c2,c3,c4,c5,c6,c7],_ =>
  obtain ⟨xs,n,_,hx,_,hlen,hg⟩:=DataW.trod_struct Tryz.underlying39 hf
  match xs,hlen with
  | [y0,y1,y2,y3,(y4,q4)],_ =>
   subst hx
   have k0 : Tryz.prog.cellsOf 22 = 1:=by kernel_rfl
   have k1 : Tryz.prog.cellsOf 34 = 1:=by kernel_rfl
   have k3 : Tryz.prog.cellsOf 24 = 1:=by kernel_rfl
   have k4 : Tryz.prog.cellsOf 37 = 8:=by kernel_rfl
   have g0 : DataW.trod enc Tryz.prog W 0 (fun _=>true) true n 22 (List.take (Tryz.prog.cellsOf 22) [a0,a1,a2,a3,c0,c1,c2,c3,c4,c5,c6,c7]) = some y0:=hg 0 _ rfl
   have g1 : DataW.trod enc Tryz.prog W 0 (fun _=>true) true n 34 (List.take (Tryz.prog.cellsOf 34) [a1,a2,a3,c0,c1,c2,c3,c4,c5,c6,c7]) = some y1:=hg 1 _ rfl
   have g2 : DataW.trod enc Tryz.prog W 0 (fun _=>true) true n 34 (List.take (Tryz.prog.cellsOf 34) [a2,a3,c0,c1,c2,c3,c4,c5,c6,c7]) = some y2:=hg 2 _ rfl
   have g3 : DataW.trod enc Tryz.prog W 0 (fun _=>true) true n 24 (List.take (Tryz.prog.cellsOf 24) [a3,c0,c1,c2,c3,c4,c5,c6,c7]) = some y3:=hg 3 _ rfl
   have g4 : DataW.trod enc Tryz.prog W 0 (fun _=>true) true n 37 (List.take (Tryz.prog.cellsOf 37) [c0,c1,c2,c3,c4,c5,c6,c7]) = some (y4,q4):=hg 4 _ rfl
   rw [k0] at g0
   rw [k1] at g1 g2
   rw [k3] at g3
   rw [k4] at g4
   obtain ⟨s0,e0,rfl,_⟩:=DataW.trod_string Tryz.underlying22 g0
   obtain ⟨n1,f1,rfl,w1⟩:=DataW.trod_int Tryz.underlying34 g1
   obtain ⟨n2,f2,rfl,w2⟩:=DataW.trod_int Tryz.underlying34 g2
   obtain ⟨n3,f3,rfl,w3⟩:=DataW.trod_int Tryz.underlying24 g3
   obtain ⟨m1,rfl,l1⟩:=wf_u16i w1
   obtain ⟨m2,rfl,l2⟩:=wf_u16i w2
   obtain ⟨m3,rfl,l3⟩:=wf_u32 w3
   obtain ⟨D,hD,hF,hU,hB⟩:=open_data_w g4
   injection e0 with e0 _
   injection f1 with f1 _
   injection f2 with f2 _
   injection f3 with f3 _
   subst e0 f1 f2 f3
   refine ⟨⟨s0,m1,m2,m3,D⟩,?_,⟨l1,l2,l3,hF⟩,fun hw=>?_,?_⟩
   · show _ = (.string s0 :: .int .u16 m1 :: .int .u16 m2 :: .int .u32 m3 :: D.cells.toList : List Value)
     rw [← hD]
   · simp only [DataW.weights,Tryz.underlying39,List.map_cons,List.map_nil,DataW.weightsEach,List.all_append,List.all_cons,Bool.and_eq_true,decide_eq_true_eq] at hw
     have q0 : s0.data.toList.length = s0.size:=by simp
     obtain ⟨hw0,hw⟩:=hw
     have hwd : (y4.weights Tryz.prog 37).all (· ≤ reachBytes) = true:=by
      first | exact hw.2.2.2.1 | simp_all
     have hb:=hB hwd
     refine ⟨?_,hb⟩
     unfold reachBytes at hw0
     show s0.size ≤ _
     rw [← q0]
     first | exact hw0.1 | simpa using hw0
   · simp only [List.map_cons,List.map_nil,Rows.uptoBulk,Rows.uptoBulkAll]
     show D.raw.size ≤ _
     omega
abbrev rcl (r : Rv) : List Value:=r.cells.toList
theorem open_recs {H : Type} {enc : TypeId × Value → H} {W : World} {base : Nat} {v : Value} {d : DataW H} {p : List MemPlace} (hval : Value.okWide Tryz.prog W .any base 23 v) (h : DataW.Trod enc Tryz.prog W 0 (fun _=>true) true 23 v d p) :
 ∃ A rs c,v = .slice A rs.length c ∧ rs.length ≤ c ∧ (A = none → c = 0) ∧ Srow rcl 12 W 0 W.heap.size A rs ∧ (∀ r ∈ rs,r.fits) ∧ ((d.weights Tryz.prog 23).all (· ≤ reachBytes) = true → ∀ r ∈ rs,r.near):=by
 obtain ⟨a0,len,cap,rfl⟩:=okWide_slice Tryz.underlying23 hval
 obtain ⟨fuel,hf⟩:=h
 have hC : Tryz.prog.cellsOf 39 = 12:=by kernel_rfl
 rcases open_slice Tryz.underlying23 hf with ⟨hcs,hx⟩ | ⟨a,len',cap',m,n,D,Pl,hcs,_,hl,hm,hmm,hx,hi⟩
 · simp [Value.cells] at hcs
   obtain ⟨rfl,rfl,rfl⟩:=hcs
   exact ⟨none, [],0,rfl,Nat.le_refl _,fun _=>rfl,Srow.nil,fun r h=>(by cases h),fun _ r h=>(by cases h)⟩
 · simp [Value.cells] at hcs
   obtain ⟨rfl,rfl,rfl⟩:=hcs
   simp only [Prod.mk.injEq] at hx
   obtain ⟨rfl,rfl⟩:=hx
   simp only [if_true] at hmm
   subst m
   have key : ∀ i,i < cap → ∃ r : Rv,(∀ j,j < 12 → W.cell? (a.add (i * 12 + j)) = (rcl r)[j]?) ∧ r.fits ∧ (((D i).weights Tryz.prog 39).all (· ≤ reachBytes) = true → r.near):=fun i hik=>by
    obtain ⟨cs',hc,ht'⟩:=hi i hik
    rw [hC] at hc
    obtain ⟨_,hcl,hat⟩:=World.cells?_some hc
    obtain ⟨r,hcs',hfi,hne,_⟩:=open_rec_at hcl ht'
    refine ⟨r,fun j hj=>?_,hfi,hne⟩
    show _ = r.cells.toList[j]?
    rw [← Go.Deep.add_add,hat j hj,← hcs',List.getElem?_eq_getElem (by omega)]
   have key' : ∀ i : Fin cap, ∃ r : Rv,(∀ j,j < 12 → W.cell? (a.add (i.1 * 12 + j)) = (rcl r)[j]?) ∧ r.fits ∧ (((D i.1).weights Tryz.prog 39).all (· ≤ reachBytes) = true → r.near):=fun i=>key i.1 i.2
   obtain ⟨T,hT⟩:=Classical.axiomOfChoice key'
   have hlen : ((List.finRange cap).take len).length = len:=by simp;omega
   have hlen2 : (((List.finRange cap).take len).map T).length = len:=by rw [List.length_map,hlen]
   have hmem : ∀ r ∈ ((List.finRange cap).take len).map T, ∃ i : Fin cap,r = T i ∧ i.1 < len:=fun r hr=>by
    obtain ⟨i,hi2,rfl⟩:=List.mem_map.1 hr
    refine ⟨i,rfl,?_⟩
    obtain ⟨k,hk,rfl⟩:=List.mem_iff_getElem.1 hi2
    simp at hk ⊢
    omega
   refine ⟨some a,((List.finRange cap).take len).map T,cap,by rw [hlen2],by omega,(fun h=>by cases h),fun hpos=>?_,fun r hr=>?_,fun hw r hr=>?_⟩
   · have hc0 : W.cell? (a.add 0) = some (.string (T ⟨0,by omega⟩).nm):=by
      have:=(hT ⟨0,by omega⟩).1 0 (by omega)
      rw [Nat.zero_mul,Nat.zero_add] at this
      rw [this]
      rfl
     obtain ⟨e1,e2⟩:=addr_form (k:=0) hc0
     refine ⟨a.block,a.off,by rw [← e1],Nat.zero_le _,?_,fun j hj=>?_⟩
     · have:=World.block_lt_of_cell? _ _ hc0
       rw [e1,e2] at this
       exact this
     · rw [hlen2] at hj
       have q:=(hT ⟨j,by omega⟩).1
       intro i u hu
       have hi12 : i < 12:=(List.getElem?_eq_some_iff.1 hu).1
       have q2:=q i hi12
       rw [e1,(addr_form hc0).2] at q2
       rw [Nat.add_assoc,← hu]
       simp only [List.getElem_map,List.getElem_take,List.getElem_finRange,Fin.cast_mk]
       exact q2
   · obtain ⟨i,rfl,_⟩:=hmem r hr
     exact (hT i).2.1
   · obtain ⟨i,rfl,hil⟩:=hmem r hr
     simp only [DataW.weights,Tryz.underlying23,List.all_cons,Bool.and_eq_true,List.all_append] at hw
     have hw1:=weights_in (d:=D i.1) (List.mem_map.2 ⟨i.1,List.mem_range.2 hil,rfl⟩) hw.2.1
     exact (hT i).2.2 hw1
end Go.Proofs.YtekafhogiambaaaGreatDoor
namespace Go.Proofs.YtekafhogiambaaaGreatDoor
open Go.RowKit
def rvB (a b : Rv) : Bool:=(a.nm.toList == b.nm.toList) && (((a.ty : Int) == b.ty) && (((a.cl : Int) == b.cl) && (((a.ttl : Int) == b.ttl) && dvB a.d b.d)))
theorem rvRun (W : World) (a b : Rv) (d : Nat) : (Op.equalIn (d + 5) 39 (.agg a.cells) (.agg b.cells)).run Tryz.prog W = .ok (rvB a b) W:=by
 rw [run_equalIn_agg W (d + 4) _ _ _ (by kernel_rfl) Tryz.stoodInHeld39]
 have hf : (Tryz.prog.fieldsOf 39).toList.map (fun f=>(f.name != "_",f.type,f.offset)) = [(true,22,0),(true,34,1),(true,34,2),(true,24,3),(true,37,4)]:=by kernel_rfl
 have hlen : (Tryz.prog.fieldsOf 39).toList.length = 5:=by kernel_rfl
 generalize (Tryz.prog.fieldsOf 39).toList = fs at *
 match fs,hlen,hf with
 | [f0,f1,f2,f3,f4],_,hf =>
  simp only [List.map_cons,List.map_nil,List.cons.injEq,Prod.mk.injEq] at hf
  obtain ⟨⟨n0,t0,o0⟩,⟨n1,t1,o1⟩,⟨n2,t2,o2⟩,⟨n3,t3,o3⟩,⟨n4,t4,o4⟩,_⟩:=hf
  have p0 : ∀ x : Rv,(part 22 x.cells 0).run Tryz.prog W = .ok (.string x.nm) W:=fun _=>rfl
  have p1 : ∀ x : Rv,(part 34 x.cells 1).run Tryz.prog W = .ok (.int .u16 x.ty) W:=fun _=>rfl
  have p2 : ∀ x : Rv,(part 34 x.cells 2).run Tryz.prog W = .ok (.int .u16 x.cl) W:=fun _=>rfl
  have p3 : ∀ x : Rv,(part 24 x.cells 3).run Tryz.prog W = .ok (.int .u32 x.ttl) W:=fun _=>rfl
  have p4 : ∀ x : Rv,(part 37 x.cells 4).run Tryz.prog W = .ok (.agg x.d.cells) W:=fun _=>rfl
  have m0 : ¬ (f0.name = "_"):=by simpa using n0
  have m1 : ¬ (f1.name = "_"):=by simpa using n1
  have m2 : ¬ (f2.name = "_"):=by simpa using n2
  have m3 : ¬ (f3.name = "_"):=by simpa using n3
  have m4 : ¬ (f4.name = "_"):=by simpa using n4
  have st : ∀ (f : Field) (va vb : Value) (x y : Bool) (fs : List Field),¬ (f.name = "_") → (part f.type a.cells f.offset).run Tryz.prog W = .ok va W → (part f.type b.cells f.offset).run Tryz.prog W = .ok vb W →
   (Op.equalIn (d + 4) f.type va vb).run Tryz.prog W = .ok x W → (Op.eqFields (d + 4) a.cells b.cells fs).run Tryz.prog W = .ok y W → (Op.eqFields (d + 4) a.cells b.cells (f :: fs)).run Tryz.prog W = .ok (x && y) W:=fun f va vb x y fs hn ha hb he hr=>by
   simp only [Op.eqFields,ne_eq,hn,not_false_eq_true,if_true,Sem.run_bind,ha,hb,he,Result.andThen_ok]
   exact and_run W (fun _=>Op.eqFields (d + 4) a.cells b.cells fs) _ hr
  have h4:=st f4 _ _ _ true [] m4 (by rw [t4,o4];exact p4 a) (by rw [t4,o4];exact p4 b) (by rw [t4];exact dvRun W a.d b.d d) rfl
  rw [Bool.and_true] at h4
  exact st f0 _ _ _ _ _ m0 (by rw [t0,o0];exact p0 a) (by rw [t0,o0];exact p0 b) (by rw [t0];exact run_equalIn_string W _ _ _ _ Tryz.underlying22)
   (st f1 _ _ _ _ _ m1 (by rw [t1,o1];exact p1 a) (by rw [t1,o1];exact p1 b) (by rw [t1];exact run_equalIn_int W _ _ _ _ _ _ Tryz.underlying34)
    (st f2 _ _ _ _ _ m2 (by rw [t2,o2];exact p2 a) (by rw [t2,o2];exact p2 b) (by rw [t2];exact run_equalIn_int W _ _ _ _ _ _ Tryz.underlying34)
     (st f3 _ _ _ _ _ m3 (by rw [t3,o3];exact p3 a) (by rw [t3,o3];exact p3 b) (by rw [t3];exact run_equalIn_int W _ _ _ _ _ _ Tryz.underlying24) h4)))
theorem rvB_iff (a b : Rv) : rvB a b = true ↔ a = b:=by
 obtain ⟨nm,ty,cl,ttl,d⟩:=a
 obtain ⟨nm',ty',cl',ttl',d'⟩:=b
 unfold rvB
 rw [strB]
 simp only [Bool.and_eq_true,decide_eq_true_eq,beq_iff_eq,dvB_iff,Rv.mk.injEq,Int.ofNat_inj]
end Go.Proofs.YtekafhogiambaaaGreatDoor
namespace Go.Proofs.YtekafhogiambaaaGreatDoor
open Go.RowKit Go.Sort Go.Shelf
set_option maxHeartbeats 4000000 in
theorem refEqual_any (xs : List Rv) (A B : Option Addr) (c c2 : Nat) (w : World) (hA : Srow rcl 12 w 0 w.heap.size A xs) (hB : Srow rcl 12 w 0 w.heap.size B xs) (hn : xs.length ≤ 4294967296) :
 Calls Tryz.prog 11 #[.slice A xs.length c,.slice B xs.length c2] w fun e w' => e = .returned (.bool true) ∧ Below w.heap.size w w':=by
 have HA:=Lib.hid hA
 have HB:=Lib.hid hB
 clear hA hB
 go_enter Tryz.func11,Tryz.ntmps11
 go_wp2
 go_loopw [5] (fun s5 wr => ∃ i q : Nat,s5 = .int .i64 i ∧ i ≤ xs.length ∧ wr = w.drewN q) (fun s5 _=>xs.length - (intOf s5).toNat)
 case atStart=>exact ⟨0,0,rfl,Nat.zero_le _,rfl⟩
 case round =>
  obtain ⟨i,q,rfl,hi,rfl⟩:=hrel
  by_cases hlt : i < xs.length
  · obtain ⟨g,o,rfl,_,_,hc⟩:=HA.out.at_ hlt
    obtain ⟨g2,o2,rfl,_,_,hc2⟩:=HB.out.at_ hlt
    have i0 : (0 : Int) ≤ (i : Int):=by omega
    have i1 : (i : Int) < (xs.length : Int):=by omega
    generalize xs[i] = r at *
    have hpe : ∀ W,(Op.equalIn 10000 39 (.agg r.cells) (.agg r.cells)).run Tryz.prog W = .ok true W:=fun W=>by
     have h:=rvRun W r r 9995
     rw [(rvB_iff r r).2 rfl] at h
     exact h
    have HC : Hid ((w.drewN q).rangeAt g (o + i * 12) (rcl r)):=hc
    have HC2 : Hid ((w.drewN q).rangeAt g2 (o2 + i * 12) (rcl r)):=hc2
    have HQ : Hid (∀ n,(w.drewN q).drewN n = w.drewN (q + n)):=fun n=>World.drewN_drewN ..
    clear hc hc2
    obtain ⟨nm,ty,cl,ttl,⟨ra',ho,ma,n0,n1,n2,n3,n4⟩⟩:=r
    generalize w.drewN q = wq at *
    have e0:=HC.out 0 _ rfl
    have e1:=HC.out 1 _ rfl
    have e2:=HC.out 2 _ rfl
    have e3:=HC.out 3 _ rfl
    have e4:=HC.out 4 _ rfl
    have e5:=HC.out 5 _ rfl
    have e6:=HC.out 6 _ rfl
    have e7:=HC.out 7 _ rfl
    have e8:=HC.out 8 _ rfl
    have e9:=HC.out 9 _ rfl
    have e10:=HC.out 10 _ rfl
    have e11:=HC.out 11 _ rfl
    have f0:=HC2.out 0 _ rfl
    have f1:=HC2.out 1 _ rfl
    have f2:=HC2.out 2 _ rfl
    have f3:=HC2.out 3 _ rfl
    have f4:=HC2.out 4 _ rfl
    have f5:=HC2.out 5 _ rfl
    have f6:=HC2.out 6 _ rfl
    have f7:=HC2.out 7 _ rfl
    have f8:=HC2.out 8 _ rfl
    have f9:=HC2.out 9 _ rfl
    have f10:=HC2.out 10 _ rfl
    have f11:=HC2.out 11 _ rfl
    rw [Nat.add_zero] at e0 f0
    dsimp only [Rv.cells] at hpe
    clear HC HC2
    go_wp2_with fail
    go_quiet (fail)
    go_wp2_with fail
    go_roundw
    case rel=>exact ⟨i + 1,q + _,by go_num,by omega,HQ.out _⟩
    case measure=>simp [intOf];omega
  · obtain rfl : i = xs.length:=by omega
    go_wp2_with fail
    go_ret
    exact ⟨rfl,below_drewN (Below.refl _ _) q⟩
end Go.Proofs.YtekafhogiambaaaGreatDoor
namespace Go.Proofs.YtekafhogiambaaaGreatDoor
open Go.RowKit
theorem Mh.srow_of {w : World} {lo hi : Nat} {A : Option Addr} {rs : List Ma.Rc} (h : Srow mcl 12 w lo hi A rs) : Srow rcl 12 w lo hi A (rs.map rvOf):=fun h0=>by
 obtain ⟨g,o,e,h1,h2,h3⟩:=h (by simpa using h0)
 exact ⟨g,o,e,h1,h2,fun j hj=>by rw [List.getElem_map];exact h3 j (by simpa using hj)⟩
theorem Mh.srow_own {w : World} {base : Nat} {A : Option Addr} {c : Nat} {rs : List Ma.Rc} (h : Own mcl 12 w base 39 (.slice A rs.length c) rs) : Srow rcl 12 w 0 w.heap.size A (rs.map rvOf):=by
 obtain ⟨A',c',e,_,hs⟩:=Own.srow mcl_len h
 injection e with e _ _
 subst e
 exact (Mh.srow_of hs).more (Nat.zero_le _) (Nat.le_refl _)
theorem Mh.equal_any {w : World} {A B : Option Addr} {c c2 : Nat} {rs : List Ma.Rc} (hA : Srow rcl 12 w 0 w.heap.size A (rs.map rvOf)) (hB : Srow rcl 12 w 0 w.heap.size B (rs.map rvOf)) (hn : rs.length ≤ 4294967296) :
 Calls Tryz.prog 11 #[.slice A rs.length c,.slice B rs.length c2] w fun e w' => e = .returned (.bool true) ∧ Below w.heap.size w w':=by
 have:=refEqual_any (rs.map rvOf) A B c c2 w hA hB (by rw [List.length_map];exact hn)
 rwa [List.length_map] at this
end Go.Proofs.YtekafhogiambaaaGreatDoor
namespace Go.Proofs.YtekafhogiambaaaGreatDoor
open Go.RowKit
def mxT : ByteArray:=⟨#[64,32,54,48,32,73,78,32,65,32,49,46,49,46,49,46,49,10,32,73,78,32,53,32,78,83,32,87,10]⟩
def mxE : List Tk.En := [⟨false,1, [⟨[64],false,1,1⟩,⟨[54,48],false,1,3⟩,⟨[73,78],false,1,6⟩,⟨[65],false,1,9⟩,⟨[49,46,49,46,49,46,49],false,1,11⟩]⟩,⟨true,2, [⟨[73,78],false,2,2⟩,⟨[53],false,2,5⟩,⟨[78,83],false,2,7⟩,⟨[87],false,2,10⟩]⟩]
def mxA : Ma.Rc:=⟨[1,101,0],1,60,⟨[1,1,1,1], [], [],0,0,0,0,0⟩⟩
def mxB : Ma.Rc:=⟨[1,101,0],2,5,⟨[], [1,119,1,101,0], [],0,0,0,0,0⟩⟩
theorem mxTells : Tk.tells mxT.data.toList = .ok mxE:=by kernel_rfl
theorem mxEntries : Ma.entries ⟨[1,69,0],9,false, []⟩ mxE = .ok ⟨[1,69,0],5,false, [mxA,mxB]⟩:=by kernel_rfl
theorem mxRow {W : World} {b : Nat} {v : Value} (h : Own mcl 12 W b 39 v [mxA,mxB]) : ∃ q c,v = .slice (some ⟨q,0,none⟩) 2 c ∧ q < W.heap.size ∧ W.cell? ⟨q,0,none⟩ = some (.string ⟨#[1,101,0]⟩) ∧ W.cell? ⟨q,1,none⟩ = some (.int .u16 1) ∧ W.cell? ⟨q,2,none⟩ = some (.int .u16 1) ∧ W.cell? ⟨q,3,none⟩ = some (.int .u32 60) ∧ W.cell? ⟨q,4,none⟩ = some (.string ⟨#[1,1,1,1]⟩) ∧ W.cell? ⟨q,5,none⟩ = some (.string ⟨#[]⟩) ∧ W.cell? ⟨q,6,none⟩ = some (.string ⟨#[]⟩) ∧ W.cell? ⟨q,7,none⟩ = some (.int .u32 0) ∧ W.cell? ⟨q,8,none⟩ = some (.int .u32 0) ∧ W.cell? ⟨q,9,none⟩ = some (.int .u32 0) ∧ W.cell? ⟨q,10,none⟩ = some (.int .u32 0) ∧ W.cell? ⟨q,11,none⟩ = some (.int .u32 0) ∧ W.cell? ⟨q,12,none⟩ = some (.string ⟨#[1,101,0]⟩) ∧ W.cell? ⟨q,13,none⟩ = some (.int .u16 2) ∧ W.cell? ⟨q,14,none⟩ = some (.int .u16 1) ∧ W.cell? ⟨q,15,none⟩ = some (.int .u32 5) ∧ W.cell? ⟨q,16,none⟩ = some (.string ⟨#[]⟩) ∧ W.cell? ⟨q,17,none⟩ = some (.string ⟨#[1,119,1,101,0]⟩) ∧ W.cell? ⟨q,18,none⟩ = some (.string ⟨#[]⟩) ∧ W.cell? ⟨q,19,none⟩ = some (.int .u32 0) ∧ W.cell? ⟨q,20,none⟩ = some (.int .u32 0) ∧ W.cell? ⟨q,21,none⟩ = some (.int .u32 0) ∧ W.cell? ⟨q,22,none⟩ = some (.int .u32 0) ∧ W.cell? ⟨q,23,none⟩ = some (.int .u32 0):=by
 obtain ⟨q,cp,cur,hv,_,_,hlt,hg,ht⟩:=ownK_pos h (by decide)
 refine ⟨q,cp,hv,hlt,?_,?_,?_,?_,?_,?_,?_,?_,?_,?_,?_,?_,?_,?_,?_,?_,?_,?_,?_,?_,?_,?_,?_,?_⟩ <;> (rw [cell_of_row W q _ cur _ (0,0) hg];exact take_at ht rfl)
set_option maxHeartbeats 2000000 in
theorem maReads_any (w : World) (hG : Ga w w.heap.size) : Calls Tryz.prog 10 #[] w fun e w' => e = .returned (.bool true) ∧ Below w.heap.size w w':=by
 have HP:=Lib.hid (parse_ok (text:=mxT) (origin:=⟨#[1,69,0]⟩) (ttl:=9) (es:=mxE) (w:=w) (by decide) (by kernel_rfl) (by decide) (by decide) hG mxTells (by decide) (by decide) mxEntries)
 have pa : ∀ W,(Op.equalIn 10000 39 (.agg #[.string ⟨#[1,101,0]⟩,.int .u16 1,.int .u16 1,.int .u32 60,.string ⟨#[1,1,1,1]⟩,.string ⟨#[]⟩,.string ⟨#[]⟩,.int .u32 0,.int .u32 0,.int .u32 0,.int .u32 0,.int .u32 0]) (.agg #[.string ⟨#[1,101,0]⟩,.int .u16 1,.int .u16 1,.int .u32 60,.string ⟨#[1,1,1,1]⟩,.string ⟨#[]⟩,.string ⟨#[]⟩,.int .u32 0,.int .u32 0,.int .u32 0,.int .u32 0,.int .u32 0])).run Tryz.prog W = .ok true W:=fun W=>by
  have h:=rvRun W (rvOf mxA) (rvOf mxA) 9995
  rw [(rvB_iff _ _).2 rfl] at h
  exact h
 have pb : ∀ W,(Op.equalIn 10000 39 (.agg #[.string ⟨#[1,101,0]⟩,.int .u16 2,.int .u16 1,.int .u32 5,.string ⟨#[]⟩,.string ⟨#[1,119,1,101,0]⟩,.string ⟨#[]⟩,.int .u32 0,.int .u32 0,.int .u32 0,.int .u32 0,.int .u32 0]) (.agg #[.string ⟨#[1,101,0]⟩,.int .u16 2,.int .u16 1,.int .u32 5,.string ⟨#[]⟩,.string ⟨#[1,119,1,101,0]⟩,.string ⟨#[]⟩,.int .u32 0,.int .u32 0,.int .u32 0,.int .u32 0,.int .u32 0])).run Tryz.prog W = .ok true W:=fun W=>by
  have h:=rvRun W (rvOf mxB) (rvOf mxB) 9995
  rw [(rvB_iff _ _).2 rfl] at h
  exact h
 clear hG
 unfold mxT at HP
 go_enter Tryz.func10,Tryz.ntmps10
 go_wp2_with (go_at_call 8;refine HP.out.mono ?_;rintro e w1 ⟨v,rfl,hr,hb⟩;have HB:=Lib.hid hb;obtain ⟨q,cp,hv,hlt,k0,k1,k2,k3,k4,k5,k6,k7,k8,k9,k10,k11,k12,k13,k14,k15,k16,k17,k18,k19,k20,k21,k22,k23⟩:=mxRow hr;subst hv;clear hr)
 go_ret
 exact ⟨rfl,HB.out.alloc HB.out.size _⟩
end Go.Proofs.YtekafhogiambaaaGreatDoor
namespace Go.Proofs.YtekafhogiambaaaGreatDoor.Mb
open Rd (By Dt)
theorem allM_len {f : By → Option Nat} : ∀ {l : List By} {vs : List Nat},Rd.allM f l = some vs → vs.length = l.length
 | [],vs,h=>by
  rw [Rd.allM] at h
  injection h with h
  rw [← h];rfl
 | p :: r,vs,h=>by
  rw [Rd.allM] at h
  split at h
  · rename_i a b _ hb
    injection h with h
    rw [← h,List.length_cons,List.length_cons,allM_len hb]
  · cases h
theorem addr4_len {s r : By} (h : Rd.addr4 s = some r) : r.length = 4:=by
 unfold Rd.addr4 at h
 split at h
 · rename_i h4
   cases hv : Rd.allM (fun p=>Rd.num p 255) (Rd.splitB 46 s) with
   | none=>rw [hv] at h;cases h
   | some vs =>
    rw [hv] at h
    injection h with h
    rw [← h,List.length_map,allM_len hv,h4]
 · cases h
theorem addr16_len {s r : By} (h : Rd.addr16 s = some r) : r.length = 16:=by
 unfold Rd.addr16 at h
 split at h
 · rename_i a b _ _
   split at h
   · cases h
   · rename_i hn
     injection h with h
     have hab : a.length + b.length ≤ 8:=by
      cases hc : (Rd.cut2 s).2.2 <;> simp [hc] at hn <;> omega
     have key : ∀ l : List Nat,(l.flatMap fun g => [UInt8.ofNat (g / 256),UInt8.ofNat (g % 256)]).length = 2 * l.length:=by
      intro l
      induction l with
      | nil=>rfl
      | cons x l ih=>rw [List.flatMap_cons,List.length_append,ih];simp;omega
     rw [← h,key]
     simp
     omega
 · cases h
theorem textsR_is : ∀ {ws : List Rd.W2} {raw r : By},Rd.textsR raw ws = some r → raw.length ≤ 65535 → r.length ≤ 65535 ∧ ∃ ls : List By,ls.length = ws.length ∧ (∀ l ∈ ls,l.length ≤ 255) ∧ r = raw ++ ls.flatMap fun l=>UInt8.ofNat l.length :: l
 | [],raw,r,h,hl=>by
  rw [Rd.textsR] at h
  injection h with h
  subst h
  exact ⟨hl, [],rfl,by simp,by simp⟩
 | w :: ws,raw,r,h,hl=>by
  rw [Rd.textsR] at h
  split at h
  · cases h
  · rename_i l _
    split at h
    · cases h
    · rename_i hn
      obtain ⟨h1,ls,h2,h3,h4⟩:=textsR_is h (by simp;omega)
      refine ⟨h1,l :: ls,by rw [List.length_cons,List.length_cons,h2],fun x hx=>?_,by rw [h4,List.flatMap_cons];simp⟩
      rcases List.mem_cons.1 hx with rfl | hx
      · omega
      · exact h3 x hx
theorem tx_of : ∀ {ls : List By},(∀ l ∈ ls,l.length ≤ 255) → Rd.tx (ls.flatMap fun l=>UInt8.ofNat l.length :: l) = some ls
 | [],_=>rfl
 | l :: ls,h=>by
  have h1:=h l (by simp)
  have hn : (UInt8.ofNat l.length).toNat = l.length:=by
   rw [UInt8.toNat_ofNat']
   exact Nat.mod_eq_of_lt (by omega)
  rw [List.flatMap_cons,List.cons_append,Rd.tx_cons (by rw [hn];simp),hn,List.drop_left,List.take_left,tx_of (fun x hx=>h x (by simp [hx]))]
  rfl
theorem num_le {s : By} {m v : Nat} (h : Rd.num s m = some v) : v ≤ m:=by
 unfold Rd.num at h
 split at h
 · cases h
 · split at h
   · dsimp only at h
     split at h
     · cases h
     · injection h with h
       omega
   · cases h
theorem rdP_is {o : By} (ho : Rd.nm o = true) {p : Nat} {s s' : Rd.RS} (h : Rd.rdP o p s = some s') :
 (p = 0 ∧ s' = s) ∨ (p = 1 ∧ ∃ ws r,r.length = 4 ∧ s' = (ws,{ s.2.1 with raw:=r },s.2.2)) ∨ (p = 2 ∧ ∃ ws r,r.length = 16 ∧ s' = (ws,{ s.2.1 with raw:=r },s.2.2)) ∨
 (p = 3 ∧ ∃ r a l,Rd.tx r = some (a :: l) ∧ r.length ≤ 65535 ∧ s' = ([],{ s.2.1 with raw:=r },s.2.2)) ∨ ((p = 5 ∨ p = 6) ∧ ∃ ws r,Rd.nm r = true ∧ s' = (ws,{ s.2.1 with host:=r },s.2.2)) ∨
 (p = 7 ∧ ∃ ws r,Rd.nm r = true ∧ s' = (ws,{ s.2.1 with mail:=r },s.2.2)) ∨ (8 ≤ p ∧ ∃ ws v,v ≤ (if p = 8 then 65535 else 4294967295) ∧ s' = (ws,Rd.setN s.2.1 s.2.2 v,s.2.2 + 1)):=by
 have bi : ∀ {α β : Type} {x : Option α} {f : α → Option β} {b : β},x.bind f = some b → ∃ a,x = some a ∧ f a = some b:=fun {α β x f b} h=>by
  cases x with
  | none=>cases h
  | some a=>exact ⟨a,rfl,h⟩
 have ma : ∀ {α β : Type} {x : Option α} {f : α → β} {b : β},x.map f = some b → ∃ a,x = some a ∧ f a = b:=fun {α β x f b} h=>by
  cases x with
  | none=>cases h
  | some a=>exact ⟨a,rfl,by injection h⟩
 unfold Rd.rdP at h
 split at h
 · rename_i h0
   injection h with h
   exact .inl ⟨h0,h.symm⟩
 split at h
 · rename_i h1
   obtain ⟨x,_,h⟩:=bi h
   obtain ⟨r,hr,h⟩:=ma h
   exact .inr (.inl ⟨h1,x.2,r,addr4_len hr,h.symm⟩)
 split at h
 · rename_i h1
   obtain ⟨x,_,h⟩:=bi h
   obtain ⟨r,hr,h⟩:=ma h
   exact .inr (.inr (.inl ⟨h1,x.2,r,addr16_len hr,h.symm⟩))
 split at h
 · rename_i h1
   split at h
   · cases h
   · rename_i hne
     obtain ⟨r,hr,h⟩:=ma h
     obtain ⟨h2,ls,h3,h4,h5⟩:=textsR_is hr (by simp)
     rw [List.nil_append] at h5
     have h6:=tx_of h4
     rw [← h5] at h6
     cases ls with
     | nil=>exact absurd (List.eq_nil_of_length_eq_zero h3.symm) hne
     | cons a l=>exact .inr (.inr (.inr (.inl ⟨h1,r,a,l,h6,h2,h.symm⟩)))
 split at h
 · cases h
 split at h
 · rename_i h1
   obtain ⟨x,_,h⟩:=bi h
   obtain ⟨r,hr,h⟩:=ma h
   exact .inr (.inr (.inr (.inr (.inl ⟨h1,x.2,r,Rd.nameR_is ho hr,h.symm⟩))))
 split at h
 · rename_i h1
   obtain ⟨x,_,h⟩:=bi h
   obtain ⟨r,hr,h⟩:=ma h
   exact .inr (.inr (.inr (.inr (.inr (.inl ⟨h1,x.2,r,Rd.nameR_is ho hr,h.symm⟩)))))
 · obtain ⟨x,_,h⟩:=bi h
   obtain ⟨v,hv,h⟩:=ma h
   exact .inr (.inr (.inr (.inr (.inr (.inr ⟨by omega,x.2,v,num_le hv,h.symm⟩)))))
end Go.Proofs.YtekafhogiambaaaGreatDoor.Mb
namespace Go.Proofs.YtekafhogiambaaaGreatDoor.Mb
open Rd (By Dt)
theorem known_is {o : By} {t : Nat} {ws : List Rd.W2} {d : Dt} (h : Rd.knownR o t ws = some d) : ∃ s,Rd.rdAll o (Rd.parts t) (ws,Rd.dt0,0) = some s ∧ s.2.1 = d:=by
 unfold Rd.knownR at h
 cases hs : Rd.rdAll o (Rd.parts t) (ws,Rd.dt0,0) with
 | none=>rw [hs] at h;cases h
 | some s =>
  rw [hs,Option.bind_some] at h
  split at h
  · exact ⟨s,rfl,by injection h⟩
  · cases h
theorem all_cons {o : By} {p : Nat} {r : List Nat} {s s' : Rd.RS} (h : Rd.rdAll o (p :: r) s = some s') : ∃ s1,Rd.rdP o p s = some s1 ∧ Rd.rdAll o r s1 = some s':=by
 rw [Rd.rdAll] at h
 cases h1 : Rd.rdP o p s with
 | none=>rw [h1] at h;cases h
 | some s1=>rw [h1,Option.bind_some] at h;exact ⟨s1,rfl,h⟩
theorem all_zeros {o : By} : ∀ {k : Nat} {s s' : Rd.RS},Rd.rdAll o (List.replicate k 0) s = some s' → s' = s
 | 0,s,s',h=>by
  simp only [List.replicate_zero,Rd.rdAll] at h
  injection h with h
  exact h.symm
 | k + 1,s,s',h=>by
  rw [List.replicate_succ] at h
  obtain ⟨s1,h1,h2⟩:=all_cons h
  have : s = s1:=by
   unfold Rd.rdP at h1
   rw [if_pos rfl] at h1
   injection h1
  rw [all_zeros h2,this]
section
variable {o : By} (ho : Rd.nm o = true) {s s' : Rd.RS}
include ho
theorem rd1 (h : Rd.rdP o 1 s = some s') : ∃ ws r,r.length = 4 ∧ s' = (ws,{ s.2.1 with raw:=r },s.2.2):=by
 rcases rdP_is ho h with ⟨h,_⟩ | ⟨_,h⟩ | ⟨h,_⟩ | ⟨h,_⟩ | ⟨h,_⟩ | ⟨h,_⟩ | ⟨h,_⟩
 all_goals first | exact h | omega
theorem rd2 (h : Rd.rdP o 2 s = some s') : ∃ ws r,r.length = 16 ∧ s' = (ws,{ s.2.1 with raw:=r },s.2.2):=by
 rcases rdP_is ho h with ⟨h,_⟩ | ⟨h,_⟩ | ⟨_,h⟩ | ⟨h,_⟩ | ⟨h,_⟩ | ⟨h,_⟩ | ⟨h,_⟩
 all_goals first | exact h | omega
theorem rd3 (h : Rd.rdP o 3 s = some s') : ∃ r a l,Rd.tx r = some (a :: l) ∧ r.length ≤ 65535 ∧ s' = ([],{ s.2.1 with raw:=r },s.2.2):=by
 rcases rdP_is ho h with ⟨h,_⟩ | ⟨h,_⟩ | ⟨h,_⟩ | ⟨_,h⟩ | ⟨h,_⟩ | ⟨h,_⟩ | ⟨h,_⟩
 all_goals first | exact h | omega
theorem rd5 {p : Nat} (hp : p = 5 ∨ p = 6) (h : Rd.rdP o p s = some s') : ∃ ws r,Rd.nm r = true ∧ s' = (ws,{ s.2.1 with host:=r },s.2.2):=by
 rcases rdP_is ho h with ⟨h,_⟩ | ⟨h,_⟩ | ⟨h,_⟩ | ⟨h,_⟩ | ⟨_,h⟩ | ⟨h,_⟩ | ⟨h,_⟩
 all_goals first | exact h | omega
theorem rd7 (h : Rd.rdP o 7 s = some s') : ∃ ws r,Rd.nm r = true ∧ s' = (ws,{ s.2.1 with mail:=r },s.2.2):=by
 rcases rdP_is ho h with ⟨h,_⟩ | ⟨h,_⟩ | ⟨h,_⟩ | ⟨h,_⟩ | ⟨h,_⟩ | ⟨_,h⟩ | ⟨h,_⟩
 all_goals first | exact h | omega
theorem rd8 (h : Rd.rdP o 8 s = some s') : ∃ ws v,v ≤ 65535 ∧ s' = (ws,Rd.setN s.2.1 s.2.2 v,s.2.2 + 1):=by
 rcases rdP_is ho h with ⟨h,_⟩ | ⟨h,_⟩ | ⟨h,_⟩ | ⟨h,_⟩ | ⟨h,_⟩ | ⟨h,_⟩ | ⟨_,h⟩
 all_goals first | exact h | omega
theorem rd9 (h : Rd.rdP o 9 s = some s') : ∃ ws v,v ≤ 4294967295 ∧ s' = (ws,Rd.setN s.2.1 s.2.2 v,s.2.2 + 1):=by
 rcases rdP_is ho h with ⟨h,_⟩ | ⟨h,_⟩ | ⟨h,_⟩ | ⟨h,_⟩ | ⟨h,_⟩ | ⟨h,_⟩ | ⟨_,h⟩
 all_goals first | exact h | omega
end
def Okd (t : Nat) (d : Dt) : Prop:=Rd.ok t d = true ∧ d.n0 ≤ 4294967295 ∧ d.n1 ≤ 4294967295 ∧ d.n2 ≤ 4294967295 ∧ d.n3 ≤ 4294967295 ∧ d.n4 ≤ 4294967295
theorem nil_nm : Rd.nm [] = false:=rfl
theorem host_ok {o : By} (ho : Rd.nm o = true) {t : Nat} (ht : t = 2 ∨ t = 5 ∨ t = 12) {s s' : Rd.RS} (h : Rd.rdAll o [5,0,0,0,0,0,0] s = some s') (hs : s.2.1 = Rd.dt0) : Okd t s'.2.1:=by
 obtain ⟨s1,h1,h⟩:=all_cons h
 obtain ⟨ws,r,hr,rfl⟩:=rd5 ho (.inl rfl) h1
 obtain rfl:=all_zeros (k:=6) h
 rw [hs]
 unfold Okd
 rcases ht with rfl | rfl | rfl <;> simp [Rd.ok,Rd.rawOk,Rd.isHost,Rd.isMail,Rd.numOk,Rd.cnt,Rd.dt0,hr,nil_nm]
theorem known_ok {o : By} (ho : Rd.nm o = true) {t : Nat} {ws : List Rd.W2} {d : Dt} (h : Rd.knownR o t ws = some d) : Okd t d:=by
 obtain ⟨s,h0,rfl⟩:=known_is h
 clear h
 revert h0
 refine Rd.by_type (P:=fun t=>Rd.rdAll o (Rd.parts t) (ws,Rd.dt0,0) = some s → Okd t s.2.1) ?_ ?_ ?_ ?_ ?_ ?_ ?_ ?_ ?_ (fun t a b c d' e f g i j h=>?_) t
 · intro h
   obtain ⟨s1,h1,h⟩:=all_cons h
   obtain ⟨ws,r,hr,rfl⟩:=rd1 ho h1
   obtain rfl:=all_zeros (k:=6) h
   simp [Okd,Rd.ok,Rd.rawOk,Rd.isHost,Rd.isMail,Rd.numOk,Rd.cnt,Rd.dt0,hr,nil_nm]
 · exact fun h=>host_ok ho (.inl rfl) h rfl
 · exact fun h=>host_ok ho (.inr (.inl rfl)) h rfl
 · intro h
   obtain ⟨s1,h1,h⟩:=all_cons h
   obtain ⟨ws1,r,hr,rfl⟩:=rd5 ho (.inl rfl) h1
   obtain ⟨s2,h2,h⟩:=all_cons h
   obtain ⟨ws2,m,hm,rfl⟩:=rd7 ho h2
   obtain ⟨s3,h3,h⟩:=all_cons h
   obtain ⟨ws3,v0,hv0,rfl⟩:=rd9 ho h3
   obtain ⟨s4,h4,h⟩:=all_cons h
   obtain ⟨ws4,v1,hv1,rfl⟩:=rd9 ho h4
   obtain ⟨s5,h5,h⟩:=all_cons h
   obtain ⟨ws5,v2,hv2,rfl⟩:=rd9 ho h5
   obtain ⟨s6,h6,h⟩:=all_cons h
   obtain ⟨ws6,v3,hv3,rfl⟩:=rd9 ho h6
   obtain ⟨s7,h7,h⟩:=all_cons h
   obtain ⟨ws7,v4,hv4,rfl⟩:=rd9 ho h7
   obtain rfl:=all_zeros (k:=0) h
   simp [Okd,Rd.ok,Rd.rawOk,Rd.isHost,Rd.isMail,Rd.numOk,Rd.cnt,Rd.bits,Rd.dt0,Rd.setN,hr,hm,hv0,hv1,hv2,hv3,hv4]
 · exact fun h=>host_ok ho (.inr (.inr rfl)) h rfl
 · intro h
   obtain ⟨s1,h1,h⟩:=all_cons h
   obtain ⟨ws1,v0,hv0,rfl⟩:=rd8 ho h1
   obtain ⟨s2,h2,h⟩:=all_cons h
   obtain ⟨ws2,r,hr,rfl⟩:=rd5 ho (.inl rfl) h2
   obtain rfl:=all_zeros (k:=5) h
   simp [Okd,Rd.ok,Rd.rawOk,Rd.isHost,Rd.isMail,Rd.numOk,Rd.cnt,Rd.bits,Rd.dt0,Rd.setN,hr,nil_nm]
   omega
 · intro h
   obtain ⟨s1,h1,h⟩:=all_cons h
   obtain ⟨r,a,l,hr,hl,rfl⟩:=rd3 ho h1
   obtain rfl:=all_zeros (k:=6) h
   simp [Okd,Rd.ok,Rd.rawOk,Rd.isHost,Rd.isMail,Rd.numOk,Rd.cnt,Rd.dt0,hr,hl,nil_nm]
 · intro h
   obtain ⟨s1,h1,h⟩:=all_cons h
   obtain ⟨ws,r,hr,rfl⟩:=rd2 ho h1
   obtain rfl:=all_zeros (k:=6) h
   simp [Okd,Rd.ok,Rd.rawOk,Rd.isHost,Rd.isMail,Rd.numOk,Rd.cnt,Rd.dt0,hr,nil_nm]
 · intro h
   obtain ⟨s1,h1,h⟩:=all_cons h
   obtain ⟨ws1,v0,hv0,rfl⟩:=rd8 ho h1
   obtain ⟨s2,h2,h⟩:=all_cons h
   obtain ⟨ws2,v1,hv1,rfl⟩:=rd8 ho h2
   obtain ⟨s3,h3,h⟩:=all_cons h
   obtain ⟨ws3,v2,hv2,rfl⟩:=rd8 ho h3
   obtain ⟨s4,h4,h⟩:=all_cons h
   obtain ⟨ws4,r,hr,rfl⟩:=rd5 ho (.inr rfl) h4
   obtain rfl:=all_zeros (k:=3) h
   simp [Okd,Rd.ok,Rd.rawOk,Rd.isHost,Rd.isMail,Rd.numOk,Rd.cnt,Rd.bits,Rd.dt0,Rd.setN,hr,nil_nm]
   omega
 · rw [Rd.parts_other a b c d' e f g i j] at h
   obtain ⟨s1,h1,_⟩:=all_cons h
   have : Rd.rdP o 4 (ws,Rd.dt0,0) = none:=rfl
   rw [this] at h1
   cases h1
theorem readR_ok {o : By} (ho : Rd.nm o = true) {t : Nat} {ws : List Rd.W2} {d : Dt} (h : Rd.readR o t ws = some d) : Okd t d:=by
 unfold Rd.readR at h
 split at h
 · exact known_ok ho h
 · split at h
   · rw [Option.bind_eq_some_iff] at h
     obtain ⟨raw,_,h⟩:=h
     obtain ⟨h1,f⟩:=Rd.takeR_ok h
     exact ⟨h1,f.n0,f.n1,f.n2,f.n3,f.n4⟩
   · exact known_ok ho h
end Go.Proofs.YtekafhogiambaaaGreatDoor.Mb
namespace Go.Proofs.YtekafhogiambaaaGreatDoor.Tk
def bareB (c : UInt8) : Bool:=blank c || c.toNat == 59 || c.toNat == 40 || c.toNat == 41
def stB (q : Bool) (c : UInt8) : By:=if c.toNat = 10 then [92,48,49,48] else if c.toNat = 34 ∨ c.toNat = 92 ∨ (bareB c = true ∧ q = false) then [92,c] else [c]
def stW (q : Bool) (s : By) : By:=s.flatMap (stB q)
theorem stW_cons (q : Bool) (c : UInt8) (s : By) : stW q (c :: s) = stB q c ++ stW q s:=by simp [stW]
def hE (t : By) : Prop := ∃ c r,t = c :: r ∧ ends c = true
theorem tlen_92 {d : UInt8} {r : By} (h : d.toNat ≠ 10) : tlen (92 :: d :: r) = 2:=by
 unfold tlen
 exact if_pos ⟨rfl,h⟩
theorem tlen_other {c : UInt8} {r : By} (h : c.toNat ≠ 92) : tlen (c :: r) = 1:=by
 cases r with
 | nil=>rfl
 | cons d r =>
  unfold tlen
  exact if_neg (fun h2=>h h2.1)
theorem ends_92 : ends 92 = false:=by decide
theorem bareLen_92 {d : UInt8} {r : By} (h : d.toNat ≠ 10) : bareLen (92 :: d :: r) = 2 + bareLen r:=by
 rw [bareLen_step ends_92,tlen_92 h];rfl
theorem bareLen_one {c : UInt8} {r : By} (h : ends c = false) (h2 : c.toNat ≠ 92) : bareLen (c :: r) = 1 + bareLen r:=by
 rw [bareLen_step h,tlen_other h2];rfl
theorem quoLen_92 {d : UInt8} {r : By} (h : d.toNat ≠ 10) : quoLen (92 :: d :: r) = (quoLen r).map (2 + ·):=by
 rw [quoLen_step (by decide) (by decide),tlen_92 h];rfl
theorem quoLen_one {c : UInt8} {r : By} (h : c.toNat ≠ 10) (h1 : c.toNat ≠ 34) (h2 : c.toNat ≠ 92) : quoLen (c :: r) = (quoLen r).map (1 + ·):=by
 rw [quoLen_step h h1,tlen_other h2];rfl
def wdq (q : Bool) (s : By) : Bool:=q || s.isEmpty
def wdT (q : Bool) (s : By) : By:=if wdq q s then 34 :: stW q s ++ [34] else stW q s
def Mv (a : By) (o o' : Nat) : Prop := ∀ (line col fl fc : Nat), ∃ fl' fc', ∀ (bl : Bool) (el : Nat) (ws : List Wd) (es : List En) (t : By),
 play (lx (a ++ t)) ⟨line,col,o,fl,fc,bl,el,ws,es⟩ = play (lx t) ⟨(advs (line,col) a).1,(advs (line,col) a).2,o',fl',fc',bl,el,ws,es⟩
theorem Mv.nil (o : Nat) : Mv [] o o:=fun _ _ fl fc=>⟨fl,fc,fun _ _ _ _ _=>rfl⟩
def Tl (b : By) (c : By → Prop) (bl : By → Bool) (o el : Nat) (ws : List Wd) (es : List En) : Prop :=
 ∃ fl fc, ∀ t,c t → tells (b ++ t) = play (lx t) ⟨(advs (1,1) b).1,(advs (1,1) b).2,o,fl,fc,bl t,el,ws,es⟩
theorem Tl.start : Tl [] (fun _=>True) hb 0 1 [] []:=⟨0,0,fun _ _=>rfl⟩
structure Lv (B : Bool) (k : Nat) (b : By) (ws : List Wd) (o el : Nat) (es : List En) : Prop where
 n : ws.length = k
 on : (B = true ∨ 0 < k) → ∃ c bl,(∀ t,hE t → c t) ∧ (∀ t,bl t = B) ∧ Tl b c bl o el ws es
 off : ¬(B = true ∨ 0 < k) → o = 0 ∧ Tl b (fun _=>True) hb 0 el ws es
structure Lr (B : Bool) (k : Nat) (b : By) (ws : List Wd) (o el : Nat) (es : List En) : Prop where
 n : ws.length = k
 tl : ∃ bl,(∀ q s t,bl (wdT q s ++ t) = B) ∧ Tl b (fun _=>True) bl o el ws es
end Go.Proofs.YtekafhogiambaaaGreatDoor.Tk
namespace Go.Proofs.YtekafhogiambaaaGreatDoor.Tk
def WholeL (p : By) : Prop := ∀ t,bareLen (p ++ t) = p.length + bareLen t
theorem WholeL.nil : WholeL []:=fun t=>by simp
theorem WholeL.app {p q : By} (h : WholeL p) (h2 : WholeL q) : WholeL (p ++ q):=fun t=>by
 rw [List.append_assoc,h,h2,List.length_append]
 omega
theorem WholeL.one {c : UInt8} (h : ends c = false) (h2 : c.toNat ≠ 92) : WholeL [c]:=fun t=>by
 rw [List.cons_append,List.nil_append,bareLen_one h h2]
 rfl
theorem WholeL.back {d : UInt8} (h : d.toNat ≠ 10) : WholeL [92,d]:=fun t=>by
 rw [List.cons_append,List.cons_append,List.nil_append,bareLen_92 h]
 rfl
theorem WholeL.all : ∀ {p : By},(∀ c ∈ p,ends c = false ∧ c.toNat ≠ 92) → WholeL p
 | [],_=>WholeL.nil
 | c :: r,h=>(WholeL.one (h c (by simp)).1 (h c (by simp)).2).app (WholeL.all (p:=r) (fun x hx=>h x (by simp [hx])))
theorem WholeL.flat {α : Type} {f : α → By} : ∀ {l : List α},(∀ x ∈ l,WholeL (f x)) → WholeL (l.flatMap f)
 | [],_=>WholeL.nil
 | a :: r,h=>by
  rw [List.flatMap_cons]
  exact (h a (by simp)).app (WholeL.flat (fun x hx=>h x (by simp [hx])))
def WholeQ (p : By) : Prop := ∀ t,quoLen (p ++ t) = (quoLen t).map (p.length + ·)
theorem WholeQ.nil : WholeQ []:=fun t=>by
 rw [List.nil_append]
 cases quoLen t with
 | none=>rfl
 | some k=>simp
theorem WholeQ.app {p q : By} (h : WholeQ p) (h2 : WholeQ q) : WholeQ (p ++ q):=fun t=>by
 rw [List.append_assoc,h,h2]
 cases quoLen t with
 | none=>rfl
 | some k=>simp;omega
theorem WholeQ.one {c : UInt8} (h : c.toNat ≠ 10) (h1 : c.toNat ≠ 34) (h2 : c.toNat ≠ 92) : WholeQ [c]:=fun t=>by
 rw [List.cons_append,List.nil_append,quoLen_one h h1 h2]
 rfl
theorem WholeQ.back {d : UInt8} (h : d.toNat ≠ 10) : WholeQ [92,d]:=fun t=>by
 rw [List.cons_append,List.cons_append,List.nil_append,quoLen_92 h]
 rfl
theorem WholeQ.flat {α : Type} {f : α → By} : ∀ {l : List α},(∀ x ∈ l,WholeQ (f x)) → WholeQ (l.flatMap f)
 | [],_=>WholeQ.nil
 | a :: r,h=>by
  rw [List.flatMap_cons]
  exact (h a (by simp)).app (WholeQ.flat (fun x hx=>h x (by simp [hx])))
theorem dig3_split (c : UInt8) : ∃ d0 d1 d2,Nm.dig3 c = [d0,d1,d2] ∧ (48 ≤ d0.toNat ∧ d0.toNat ≤ 57) ∧ (48 ≤ d1.toNat ∧ d1.toNat ≤ 57) ∧ (48 ≤ d2.toNat ∧ d2.toNat ≤ 57):=by
 have h8:=c.toNat_lt
 have a0 : (UInt8.ofNat (48 + c.toNat / 100)).toNat = 48 + c.toNat / 100:=Nm.dig_of (by omega)
 have a1 : (UInt8.ofNat (48 + c.toNat / 10 % 10)).toNat = 48 + c.toNat / 10 % 10:=Nm.dig_of (by omega)
 have a2 : (UInt8.ofNat (48 + c.toNat % 10)).toNat = 48 + c.toNat % 10:=Nm.dig_of (by omega)
 exact ⟨_,_,_,rfl,by omega,by omega,by omega⟩
theorem ends_not {c : UInt8} (h : c.toNat ≠ 10 ∧ c.toNat ≠ 59 ∧ c.toNat ≠ 40 ∧ c.toNat ≠ 41 ∧ c.toNat ≠ 34 ∧ c.toNat ≠ 32 ∧ c.toNat ≠ 9 ∧ c.toNat ≠ 13) : ends c = false:=by
 obtain ⟨h1,h2,h3,h4,h5,h6,h7,h8⟩:=h
 simp [ends,blank,h1,h2,h3,h4,h5,h6,h7,h8]
theorem esc1_lex (c : UInt8) : WholeL (Nm.esc1 false c) ∧ ∃ d r,Nm.esc1 false c = d :: r ∧ ends d = false:=by
 unfold Nm.esc1
 by_cases hm : Nm.mark false c = true
 · rw [if_pos hm]
   refine ⟨WholeL.back ?_,_,_,rfl,by decide⟩
   simp [Nm.mark] at hm
   omega
 · rw [if_neg hm]
   simp [Nm.mark] at hm
   by_cases hc : Nm.clear false c = true
   · rw [if_pos hc]
     simp [Nm.clear] at hc
     have he : ends c = false:=ends_not (by omega)
     exact ⟨WholeL.one he (by omega),_,_,rfl,he⟩
   · rw [if_neg hc]
     obtain ⟨d0,d1,d2,e,h0,h1,h2⟩:=dig3_split c
     rw [e]
     refine ⟨?_,_,_,rfl,by decide⟩
     exact (WholeL.back (d:=d0) (by omega)).app (WholeL.all (p := [d1,d2]) fun x hx=>by
      simp only [List.mem_cons,List.not_mem_nil,or_false] at hx
      rcases hx with rfl | rfl
      · exact ⟨ends_not (by omega),by omega⟩
      · exact ⟨ends_not (by omega),by omega⟩)
theorem esc1_quo (c : UInt8) : WholeQ (Nm.esc1 true c):=by
 unfold Nm.esc1
 by_cases hm : Nm.mark true c = true
 · rw [if_pos hm]
   refine WholeQ.back ?_
   simp [Nm.mark] at hm
   omega
 · rw [if_neg hm]
   simp [Nm.mark] at hm
   by_cases hc : Nm.clear true c = true
   · rw [if_pos hc]
     simp [Nm.clear] at hc
     exact WholeQ.one (by omega) (by omega) (by omega)
   · rw [if_neg hc]
     obtain ⟨d0,d1,d2,e,h0,h1,h2⟩:=dig3_split c
     rw [e]
     exact (WholeQ.back (d:=d0) (by omega)).app ((WholeQ.one (c:=d1) (by omega) (by omega) (by omega)).app (WholeQ.one (c:=d2) (by omega) (by omega) (by omega)))
def GoodL (x : By × Bool) : Prop:=if x.2 then WholeQ x.1 else WholeL x.1 ∧ ∃ d r,x.1 = d :: r ∧ ends d = false
theorem lx_wd {x : By × Bool} (h : GoodL x) {t : By} (ht : x.2 = false → hE t) : lx (Rd.wdB x ++ t) = (if x.2 then .quo x.1 else .bare x.1) :: lx t:=by
 obtain ⟨p,q⟩:=x
 cases q with
 | true =>
  have hw : WholeQ p:=h
  have hq : quoLen (p ++ 34 :: t) = some p.length:=by rw [hw,quoLen_q rfl];rfl
  have e : Rd.wdB (p,true) ++ t = 34 :: (p ++ 34 :: t):=by simp [Rd.wdB]
  rw [e,lx_quo rfl hq,List.take_left,← List.drop_drop,List.drop_left]
  rfl
 | false =>
  obtain ⟨hw,d,r,hp,hd⟩ : WholeL p ∧ ∃ d r,p = d :: r ∧ ends d = false:=h
  obtain ⟨c,s,rfl,hc⟩:=ht rfl
  have hb : bareLen (p ++ c :: s) = p.length:=by rw [hw,bareLen_end hc];rfl
  have e : Rd.wdB (p,false) ++ c :: s = p ++ c :: s:=rfl
  rw [e]
  have e2 : p ++ c :: s = d :: (r ++ c :: s):=by rw [hp];rfl
  rw [e2,lx_bare hd,← e2,hb,List.take_left,List.drop_left]
  rfl
theorem play_wd {x : By × Bool} (h : GoodL x) {t : By} (ht : x.2 = false → hE t) (σ : St) : play (lx (Rd.wdB x ++ t)) σ = play (lx t) (σ.put x.1 x.2 (Rd.wdB x).length):=by
 rw [lx_wd h ht]
 obtain ⟨p,q⟩:=x
 cases q with
 | true =>
  simp only [if_true,play]
  simp [Rd.wdB]
 | false=>rfl
def lineB (xs : List (By × Bool)) : By:=Rd.joinB 32 (xs.map Rd.wdB) ++ [10]
def bareW (ws : List Wd) : List (By × Bool):=ws.map fun w=>(w.text,w.quoted)
theorem play_words : ∀ {xs : List (By × Bool)} (_ : ∀ x ∈ xs,GoodL x) (_ : xs ≠ []) (t : By) (σ : St),σ.dep = 0 →
 ∃ line col ws,bareW ws = bareW σ.ws ++ xs ∧ play (lx (lineB xs ++ t)) σ = play (lx (10 :: t)) ⟨line,col,0,σ.fl,σ.fc,σ.bl,σ.el,ws,σ.es⟩
 | [],_,h,_,_,_=>absurd rfl h
 | [x],h,_,t,σ,hd=>by
  have e : lineB [x] ++ t = Rd.wdB x ++ 10 :: t:=by simp [lineB,Rd.joinB]
  rw [e,play_wd (h x (by simp)) (fun _=>⟨10,t,rfl,by decide⟩)]
  obtain ⟨line,col,dep,fl,fc,bl,el,ws,es⟩:=σ
  obtain rfl : dep = 0:=hd
  exact ⟨_,_,_,by simp [bareW],rfl⟩
 | x :: y :: r,h,_,t,σ,hd=>by
  have e : lineB (x :: y :: r) ++ t = Rd.wdB x ++ 32 :: (lineB (y :: r) ++ t):=by simp [lineB,Rd.joinB]
  have e2 : ∀ σ : St,play (lx (32 :: (lineB (y :: r) ++ t))) σ = play (lx (lineB (y :: r) ++ t)) (σ.go 1):=fun σ=>by
   rw [lx_ch (by decide) (by decide) (by decide),play,if_neg (by decide),if_neg (by decide),if_neg (by decide)]
  obtain ⟨line,col,ws,hws,hp⟩:=play_words (xs:=y :: r) (fun z hz=>h z (by simp [hz])) (by simp) t ((σ.put x.1 x.2 (Rd.wdB x).length).go 1) (by exact hd)
  refine ⟨line,col,ws,?_,?_⟩
  · rw [hws]
    simp [bareW,St.go,St.put]
  · rw [e,play_wd (h x (by simp)) (fun _=>⟨32,_,rfl,by decide⟩),e2,hp]
    rfl
def bareE (es : List En) : List (Bool × List (By × Bool)):=es.map fun e=>(e.blank,bareW e.words)
theorem head_line {xs : List (By × Bool)} (h : ∀ x ∈ xs,GoodL x) (h0 : xs ≠ []) (t : By) : hb (lineB xs ++ t) = false:=by
 have key : ∀ x : By × Bool,GoodL x → ∃ d r,Rd.wdB x = d :: r ∧ blank d = false:=fun x hx=>by
  obtain ⟨p,q⟩:=x
  cases q with
  | true=>exact ⟨34,_,rfl,by decide⟩
  | false =>
   obtain ⟨_,d,r,hp,hd⟩ : WholeL p ∧ ∃ d r,p = d :: r ∧ ends d = false:=hx
   refine ⟨d,r,hp,?_⟩
   cases hb : blank d with
   | false=>rfl
   | true=>rw [blank_ends hb] at hd;cases hd
 cases xs with
 | nil=>exact absurd rfl h0
 | cons x r =>
  obtain ⟨d,s,e,hd⟩:=key x (h x (by simp))
  cases r with
  | nil =>
   simp only [lineB,List.map_cons,List.map_nil,Rd.joinB,e,List.cons_append,hb]
   exact hd
  | cons y z =>
   simp only [lineB,List.map_cons,Rd.joinB,e,List.cons_append,hb]
   exact hd
theorem play_lines : ∀ {ls : List (List (By × Bool))} (_ : ∀ xs ∈ ls,xs ≠ [] ∧ ∀ x ∈ xs,GoodL x) (line fl fc : Nat) (es : List En),
 ∃ es',play (lx (ls.flatMap lineB)) ⟨line,1,0,fl,fc,hb (ls.flatMap lineB),line, [],es⟩ = .ok es' ∧ bareE es' = bareE es ++ ls.map fun xs=>(false,xs)
 | [],_,line,fl,fc,es=>⟨es,rfl,by simp⟩
 | xs :: r,h,line,fl,fc,es=>by
  obtain ⟨h0,hx⟩:=h xs (by simp)
  rw [List.flatMap_cons]
  obtain ⟨l2,c2,ws,hws,hp⟩:=play_words hx h0 (r.flatMap lineB) ⟨line,1,0,fl,fc,hb (lineB xs ++ r.flatMap lineB),line, [],es⟩ rfl
  rw [hp,lx_ch (by decide) (by decide) (by decide),play,if_pos (by decide),hp_lx]
  have hne : ws ≠ []:=by
   intro e
   rw [e] at hws
   simp [bareW] at hws
   exact h0 hws
  obtain ⟨es',h1,h2⟩:=play_lines (ls:=r) (fun y hy=>h y (by simp [hy])) (l2 + 1) fl fc (es ++ [⟨hb (lineB xs ++ r.flatMap lineB),line,ws⟩])
  refine ⟨es',?_,?_⟩
  · simp only [St.nl,if_true,St.done,hne,if_false]
    exact h1
  · rw [h2,head_line hx h0]
    have : bareW ws = xs:=by simpa [bareW] using hws
    simp [bareE,this]
theorem tells_lines {ls : List (List (By × Bool))} (h : ∀ xs ∈ ls,xs ≠ [] ∧ ∀ x ∈ xs,GoodL x) : ∃ es,tells (ls.flatMap lineB) = .ok es ∧ bareE es = ls.map fun xs=>(false,xs):=by
 obtain ⟨es,h1,h2⟩:=play_lines h 1 0 0 []
 exact ⟨es,h1,by simpa [bareE] using h2⟩
end Go.Proofs.YtekafhogiambaaaGreatDoor.Tk
