/- MasterBack: whatever origins, records, TTL and text are handed in, what is printed is parsed as the records in small letters, in order, and what is parsed is printed, and parsed again, as it was; the arguments read behind the call as before. -/
import Derived.Test.YtekafhogiambaaaGreatDoorZc47
import Derived.Shelf.Vars
import Derived.Lay
set_option maxRecDepth 100000
namespace Go.Proofs.YtekafhogiambaaaGreatDoor
open Go.RowKit
theorem wf_u32b {x : Int} (h : (Lit.int .u32 x).wf = true) : ∃ n : Nat,x = n:=by
 have h1 : IntKind.u32.min = 0:=rfl
 simp only [Lit.wf,Bool.and_eq_true,decide_eq_true_eq] at h
 exact ⟨x.toNat,by omega⟩
theorem walk_MasterBack (w : World) (hL : LayA w ∧ Lay w) (hm : ∃ m : Int,w.cell? ⟨2,0,none⟩ = some (.int .i64 m)) (o : ByteArray) (ho : o.size ≤ 140737488351232) (A : Option Addr) (rs : List Rv) (c : Nat) (_hc : rs.length ≤ c) (_hn : A = none → c = 0) (hS : Srow rcl 12 w 0 w.heap.size A rs) (hf : ∀ r ∈ rs,r.fits) (_hr : ∀ r ∈ rs,r.near) (ot : ByteArray) (hot : ot.size ≤ 140737488351232) (t : Int) (ht : (Lit.int .u32 t).wf = true) (text : ByteArray) (_htx : text.size ≤ 140737488351232) :
 Calls Tryz.prog 3 #[.string o,.slice A rs.length c,.string ot,.int .u32 t,.string text] w fun e w' => e = .returned (.bool true) ∧ Below w.heap.size w w':=by
 obtain ⟨n,rfl⟩:=wf_u32b ht
 exact walk_MasterBackG hL.1 (ga_lay hL.1 hL.2 hm) o (by omega) A rs c hS hf ot (by omega) n text
namespace masterBack
open Go.ChangeShapes Go.WideShapes Go.ChangeAt
open Go.ChangeMaps (open_string shut_string)
theorem laid_lay {W : World} (h : laidMetH Tryz.prog Rows.masterBackRow.laid W) : LayA W ∧ Lay W:=by
 rw [MakeChecks.laidMetH_plain _ _ _ (by kernel_rfl)] at h
 have h3:=h.tail.tail.tail.tail
 obtain ⟨a,_,hv,_⟩:=laid_sentinel (g:=6) (ti:=55) (tp:=224) (te:=226) (ts:=9) h3 (by kernel_rfl) (by kernel_rfl) Tryz.underlying55 rowErr Tryz.underlying224 Tryz.underlying226 rfl rfl Tryz.underlying9 (by kernel_rfl) (by kernel_rfl)
 obtain ⟨b,_,hw,_⟩:=laid_sentinel (g:=5) (ti:=55) (tp:=224) (te:=226) (ts:=9) h3.tail (by kernel_rfl) (by kernel_rfl) Tryz.underlying55 rowErr Tryz.underlying224 Tryz.underlying226 rfl rfl Tryz.underlying9 (by kernel_rfl) (by kernel_rfl)
 refine ⟨⟨laid_rows h3.tail.tail,laid_pow h.tail.tail,laid_bits h.tail⟩,⟨224,.pointer (some b),?_⟩,224,.pointer (some a),?_⟩
 · have:=World.var?_cell (P:=Tryz.prog) (g:=5) (by kernel_rfl) hw 0
   simpa using this
 · have:=World.var?_cell (P:=Tryz.prog) (g:=6) (by kernel_rfl) hv 0
   simpa using this
theorem ml {W : World} (h : W.ShapedOpen Tryz.prog) : ∃ m : Int,W.cell? ⟨2,0,none⟩ = some (.int .i64 m) :=
 cell_of_shapedOpen_int (zero:=#[.int .i64 0]) (t:=3) h (of_decide_eq_true (by kernel_rfl)) (by kernel_rfl) rfl (by kernel_rfl) (by kernel_rfl) Tryz.underlying3
theorem contract (H : Type) (enc : TypeId × Value → H) (W : World) (base : Nat) (args : Array Value) (ds gs : List (DataW H)) (before : List MemPlace)
 (hval : ∀ (j : Nat) t v,Tryz.f3.params[j]? = some t → args[j]? = some v → Value.okWide Tryz.prog W .any base t v)
 (hW : DataW.Whole enc Tryz.prog Tryz.f3.params.toList Rows.masterBackSpec.vars false W args.toList ds gs before)
 (hR : (DataW.weightsEach Tryz.prog (Tryz.f3.params.toList ++ (OpenSpec.ofChange Rows.masterBackSpec).bare.plain.varTypes Tryz.prog) (ds ++ gs)).all (· ≤ reachBytes) = true)
 (hSh : W.ShapedOpen Tryz.prog)
 (hL : laidMetH Tryz.prog Rows.masterBackRow.laid W) :
 Calls Tryz.prog 3 args W fun e W' => ∃ v,e = .returned v ∧ Rows.masterBackSpec.post enc Tryz.prog Tryz.f3 false true false false W args v W':=by
 have hW':=hW
 obtain ⟨p,q,hA0,hV,rfl,hfz,hnd⟩:=hW
 have hA : DataW.TrodAll enc Tryz.prog W 0 (fun _=>true) true Tryz.f3.params.toList args.toList ds p:=hA0
 have HS:=trodAll_stays (W':=W) (sp:=fun _=>true) out (by kernel_rfl) hA
 have HA:=Lib.hid hA
 rw [Tryz.params3] at hA hval hR
 obtain ⟨v0,vs0,d0,ds0,p0,q0,hargs0,rfl,rfl,h0,r0⟩:=trodAll_cons hA
 obtain ⟨v1,vs1,d1,ds1,p1,q1,hargs1,rfl,rfl,h1,r1⟩:=trodAll_cons r0
 obtain ⟨v2,vs2,d2,ds2,p2,q2,hargs2,rfl,rfl,h2,r2⟩:=trodAll_cons r1
 obtain ⟨v3,vs3,d3,ds3,p3,q3,hargs3,rfl,rfl,h3,r3⟩:=trodAll_cons r2
 obtain ⟨v4,vs4,d4,ds4,p4,q4,hargs4,rfl,rfl,h4,r4⟩:=trodAll_cons r3
 obtain ⟨rfl,rfl,rfl⟩:=trodAll_nil r4
 obtain rfl : args = #[v0,v1,v2,v3,v4]:=by cases args;simp_all
 obtain ⟨rfl,rfl⟩:=trodVars_none hV
 obtain ⟨o,rfl,rfl,rfl,z0⟩:=open_string Tryz.underlying22 (hval 0 22 v0 rfl rfl) h0
 obtain ⟨A1,l,c1,rfl,hc1,hn1,hb1,hf1,hm1⟩:=open_recs (hval 1 23 v1 rfl rfl) h1
 obtain ⟨other,rfl,rfl,rfl,z2⟩:=open_string Tryz.underlying22 (hval 2 22 v2 rfl rfl) h2
 obtain ⟨ttl,rfl,rfl,rfl,z3⟩:=open_int Tryz.underlying24 (hval 3 24 v3 rfl rfl) h3
 obtain ⟨text,rfl,rfl,rfl,z4⟩:=open_string Tryz.underlying9 (hval 4 9 v4 rfl rfl) h4
 clear hA0 HS
 obtain ⟨k0,s0⟩:=reach_cons hR
 obtain ⟨k1,s1⟩:=reach_cons s0
 obtain ⟨k2,s2⟩:=reach_cons s1
 obtain ⟨k3,s3⟩:=reach_cons s2
 obtain ⟨k4,s4⟩:=reach_cons s3
 refine (walk_MasterBack W (laid_lay hL) (ml hSh) o (reach_str k0) A1 l c1 hc1 hn1 hb1 hf1 (hm1 k1) other (reach_str k2) ttl z3 text (reach_str k4)).mono fun e W' ⟨he,hb⟩=>?_
 subst he
 have hlt:=hW'.lt
 refine ⟨_,rfl,post_low hW' (pa:=_) (pv := []) rfl hb (fun _ _ _=>trodAll_cons_mk (shut_bool Tryz.underlying4 _) trodAll_mk0) (fun sp hsp=>?_) (fun _ _=>rfl) (ok_one (by kernel_rfl) rfl (okWide_bool_mk Tryz.underlying4 _))⟩
 exact trodAll_stays out (by kernel_rfl) HA.out (fun x hx=>hb.same (hlt x (List.mem_append_left _ hx))) (fun x hx=>hsp x (List.mem_append_left _ hx))
noncomputable def wargs : Array Value:=#[.string ByteArray.empty,.slice none 0 0,.string ByteArray.empty,.int .u32 0,.string ByteArray.empty]
noncomputable def lw (os : Os) : World:=World.laidAll Tryz.prog os Rows.masterBackRow.laid
theorem door_met (os : Os) (args : Array Value) : laidMetH Tryz.prog Rows.masterBackRow.laid ((lw os).forCall (fun _ _=>0) ⟨#[],args, []⟩).memory:=by
 rw [MakeChecks.laidMetH_plain _ _ _ (by kernel_rfl)]
 exact laidMet_laidAll args (by kernel_rfl) (by kernel_rfl)
theorem reads (os : Os) {H : Type} (enc : TypeId × Value → H) : ∃ places,DataW.whole enc Tryz.prog ((lw os).forCall (fun _ _=>0) ⟨#[],wargs, []⟩).memory Tryz.f3.params.toList Rows.masterBackSpec.vars false wargs.toList 8 = some ([.lit (.string []),.nil,.lit (.string []),.lit (.int .u32 0),.lit (.string [])], [],places) :=
 ⟨[],by kernel_rfl⟩
theorem lifted (os : Os) (started : os.Started) (H : Type) (enc : TypeId × Value → H) (G : Stop.Interp) :
 ReturnsInHanded {} Tryz.checked os 3 .any ((OpenSpec.ofChange Rows.masterBackSpec).preRow enc Tryz.prog Tryz.f3 Rows.masterBackRow.domain false Rows.masterBackRow.laid) (((OpenSpec.ofChange Rows.masterBackSpec).at G).post enc Tryz.prog Tryz.f3 false true false false):=by
 obtain ⟨places,hx⟩:=reads os enc
 refine returnsInHanded_of_row (C:=Tryz.checked) (s:=OpenSpec.ofChange Rows.masterBackSpec) own started (by kernel_rfl) Tryz.func3
  (witness_row_atRef (enc:=enc) (C:=Tryz.checked) false (lw os) wargs (World.laidAll_os _ _ _) (by kernel_rfl) (by kernel_rfl) (by kernel_rfl)
   (OpenSpec.preRow_of_cond 8 hx (by kernel_rfl) (fun k hk=>by cases hk) (by kernel_rfl) (door_met os _))) ?_
 intro W base args ds gs before hval hW _ _ hR hL hSh _
 exact contract H enc W base args ds gs before hval hW hR hSh hL
theorem said : Rows.MasterBackSaid :=
 OpenClaim.holds_of_cond 3 Tryz.f3 rfl rfl rfl rfl rfl rfl rfl ⟨rfl,rfl,rfl,rfl,rfl⟩ rfl rfl rfl rfl rfl (by kernel_rfl) Tryz.func3 (by kernel_rfl)
  (of_decide_eq_true (by kernel_rfl)) (by unfold Func.isWrapper;first | (rw [if_pos (by decide +kernel)];kernel_rfl) | (rw [if_neg (by decide +kernel)];exact ⟨rfl,rfl⟩))
  (fun os started H enc _ G=>by rw [OpenClaim.pre_eq_preRow];exact lifted os started H enc G)
theorem plain (f : FuncId) (fn : Func) (hf : Tryz.pinned.checked.prog.funcNamed "hearsay/hearsaylaw09.MasterBack" = some f) (hfn : Tryz.pinned.checked.prog.funcs[f]? = some fn) :
 Tryz.pinned.checked.prog.looks [] = true ∧ ∀ (j : Nat) t,fn.params[j]? = some t → Tryz.pinned.checked.prog.wantsStandIn t = false:=by
 obtain rfl : f = 3:=Option.some.inj ((show Tryz.prog.funcNamed "hearsay/hearsaylaw09.MasterBack" = some 3 by kernel_rfl).symm.trans hf) |>.symm
 obtain rfl : fn = Tryz.f3:=(Option.some.inj (Tryz.func3.symm.trans hfn)).symm
 refine ⟨by kernel_rfl,fun j t ht=>?_⟩
 rw [Tryz.params3] at ht
 have hm : t ∈ [22,23,24,9]:=by have h9:=Array.mem_of_getElem? ht;simp at h9 ⊢;first | exact h9 | (rcases h9 with h9 | h9 | h9 | h9 | h9 <;> simp [h9])
 have hall : ([22,23,24,9].all fun u => !Tryz.prog.wantsStandIn u) = true:=by kernel_rfl
 exact (show Tryz.prog.wantsStandIn t = false by simpa using List.all_eq_true.1 hall t hm)
theorem card : Rows.MasterBackCardSaid :=
 Claim7.holds_tied_plain_at .later [] _ _ _ _ said (fun _ h=>by cases h) (by kernel_rfl) (fun _ h=>by cases h) masterBack_row_tie rfl ⟨rfl,rfl⟩ (by kernel_rfl) rfl (fun f fn hf hfn=>by have h:=plain f fn hf hfn;exact ⟨h.1.symm,h.2⟩) (by kernel_rfl)
end masterBack
end Go.Proofs.YtekafhogiambaaaGreatDoor
