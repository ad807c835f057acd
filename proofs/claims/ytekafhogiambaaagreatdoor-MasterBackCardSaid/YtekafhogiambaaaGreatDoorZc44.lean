/- Texts of the proofs, merged. -/
import Derived.Test.YtekafhogiambaaaGreatDoorZc41
import Derived.Test.YtekafhogiambaaaGreatDoorZc37
import Derived.Test.YtekafhogiambaaaGreatDoorZc42
import Derived.Test.YtekafhogiambaaaGreatDoorZc43
import Derived.Test.YtekafhogiambaaaGreatDoorZc36
set_option maxRecDepth 100000
namespace Go.Proofs.YtekafhogiambaaaGreatDoor
open Go.RowKit
theorem bld_keep {T e : TypeId} {B b : Nat} {p : Value} {bs : List Value} {W W' : World} (h : Lib.BuilderAt T e B b p bs W) (hb : Below W.heap.size W W') : Lib.BuilderAt T e B b p bs W':=by
 obtain ⟨h1,v,h2,h3,h4⟩:=h
 exact ⟨h1,v,(hb.block b (Array.getElem?_eq_some_iff.1 h2).1).trans h2,own_below h3 hb (Nat.le_refl _),h4⟩
theorem bld_is {T e : TypeId} {B b : Nat} {bs : List Value} {W W' : World} (h : Lib.IsBuilder T e B b bs W) (hb : Below W.heap.size W W') : Lib.IsBuilder T e B b bs W':=by
 rcases h with h | h
 · exact .inl (bld_keep h hb)
 · exact .inr (bld_keep h hb)
theorem two_cells {W : World} {g : Nat} {t : TypeId} {a b : List UInt8} (h : Has W g t #[sv a,sv b]) : ∀ (j : Nat) (x : List UInt8), [a,b][j]? = some x → W.cell? ⟨g,j,none⟩ = some (sv x):=by
 intro j x hx
 rw [h.cell]
 rcases j with _ | _ | j
 all_goals first
  | (simp at hx;done)
  | (simp at hx;subst hx;rfl)
theorem bv_strs (X L : List UInt8) : bv X ++ Lib.strCells ⟨L.toArray⟩ = bv (X ++ L):=by
 rw [strCells_bv]
 simp [bv]
theorem Mp.textL_take (o : Nm.By) (l : List Rv) (k : Nat) : (Mp.textL o (l.take k)).length ≤ (Mp.textL o l).length:=by
 have h : Mp.textL o l = Mp.textL o (l.take k) ++ (l.drop k).flatMap Mp.lineL:=by
  unfold Mp.textL
  rw [List.append_assoc,← List.flatMap_append,List.take_append_drop]
 rw [h,List.length_append]
 omega
theorem Mp.head_join (o : Nm.By) : Lib.join [[36,79,82,73,71,73,78],Nm.text (Nm.fold o)] [32] ++ [10] = Mp.textL o []:=by
 unfold Mp.textL Mp.headL
 simp [Lib.join,List.intercalate]
set_option maxHeartbeats 1000000 in
theorem mPrint_any (o : ByteArray) (rs : List Rv) (A : Option Addr) (c : Nat) (w : World) (ho : o.size ≤ 140737488355328) (hL : LayA w) (hA : Srow rcl 12 w 0 w.heap.size A rs) (hn : rs.length ≤ 4096) (hF : ∀ r ∈ rs,Mp.Fine r) :
 Calls Tryz.prog 7 #[.string o,.slice A rs.length c] w fun e w' => e = .returned (Mp.printV o.data.toList rs) ∧ Below w.heap.size w w':=by
 have HN:=Lib.hid (fun W : World=>(show Calls Tryz.prog 13 #[.string o] W (fun e w' => e = .returned (.int .i64 (if Rd.nm o.data.toList then 0 else 11)) ∧ Below W.heap.size W w') from Check_any o W ho))
 have HTX:=Lib.hid (fun W : World=>msmall_any o W ho)
 have HA:=Lib.hid hA
 have HLL:=Lib.hid hL
 have HCK:=Lib.hid (fun (r : Rv) (h : Mp.Fine r) (W : World) (hW : LayR W)=>(show Calls Tryz.prog 14 #[.agg r.cells] W (fun e w' => e = .returned (.int .i64 (Mp.okL r : Nat)) ∧ Below W.heap.size W w') from mcheck_any r W h.1 hW h.2.2.1 h.2.2.2.1 h.2.2.2.2))
 have HLIN:=Lib.hid (fun (r : Rv) (h : Mp.Fine r) (ok : Rd.ok r.ty r.d.dt = true) (W : World) (hW : LayA W)=>(show Calls Tryz.prog 18 #[.agg r.cells] W (fun e w' => e = .returned (sv (Mp.lineL r)) ∧ Below W.heap.size W w') from recLine_any r W h.1 h.2.1 hW h.2.2.1 h.2.2.2.1 h.2.2.2.2 ok))
 have hi12 : (Tryz.prog.info? 39).map (·.size) = some 12:=by kernel_rfl
 have HI:=Lib.hid hi12
 have iN : ¬ (4096 : Int) < (rs.length : Int):=by omega
 unfold Mp.printV
 clear hi12 ho hA hL
 cases hno : Rd.nm o.data.toList with
 | false =>
  rw [hno] at HN
  simp only [Bool.false_eq_true,if_false] at HN ⊢
  go_enter Tryz.func7,Tryz.ntmps7
  go_wp2_with (go_at_call 13;refine (HN.out _).mono ?_;rintro e w1 ⟨rfl,B1⟩)
  go_ret2
  exact ⟨rfl,B1⟩
 | true =>
  rw [hno] at HN
  simp only [if_true] at HN ⊢
  obtain ⟨V,hV⟩ : ∃ V,(if Mp.bad rs = 0 then (if (Mp.textL o.data.toList rs).length ≤ 262144 then Value.tuple #[sv (Mp.textL o.data.toList rs),.int .i64 0] else .tuple #[.string ⟨#[]⟩,.int .i64 2]) else .tuple #[.string ⟨#[]⟩,.int .i64 (Mp.bad rs : Nat)]) = V:=⟨_,rfl⟩
  rw [hV]
  have HV:=Lib.hid hV
  clear hV hno
  go_enter Tryz.func7,Tryz.ntmps7
  go_wp2_with (go_at_call 13;refine (HN.out _).mono ?_;rintro e w1 ⟨rfl,B1⟩;have HB1:=Lib.hid B1;clear B1)
  go_loopw [20] (fun s20 wr => ∃ i : Nat,s20 = .int .i64 i ∧ i ≤ rs.length ∧ Mp.bad (rs.take i) = 0 ∧ Hid (Below w.heap.size w wr)) (fun s20 _=>rs.length - (intOf s20).toNat)
  case atStart=>exact ⟨0,rfl,Nat.zero_le _,rfl,HB1⟩
  case round =>
   obtain ⟨i,rfl,hi,hb,HBr⟩:=hrel
   by_cases hlt : i < rs.length
   · obtain ⟨g,o1,rfl,_,_,hc⟩:=(HA.out.keep HBr.out).at_ hlt
     have HC : Hid (wr.rangeAt g (o1 + i * 12) (rcl rs[i])):=hc
     have hfi:=hF rs[i] (List.getElem_mem hlt)
     have HL1:=Lib.hid (HCK.out rs[i] hfi)
     have htk : rs.take (i + 1) = rs.take i ++ [rs[i]]:=List.take_succ_eq_append_getElem hlt
     have hbs:=Mp.bad_snoc (rs.take i) rs[i] hb
     rw [← htk] at hbs
     have hsp : Mp.okL rs[i] ≠ 0 → Mp.bad rs = Mp.okL rs[i]:=fun h=>by
      have h2:=Mp.bad_app (rs.take (i + 1)) (rs.drop (i + 1)) (by rw [hbs];exact h)
      rw [List.take_append_drop] at h2
      rw [h2,hbs]
     have i1 : (i : Int) < (rs.length : Int):=by omega
     have i0 : (0 : Int) ≤ (i : Int):=by omega
     have HRS:=Lib.hid hbs
     have HSP:=Lib.hid hsp
     clear hc htk hbs hsp hfi hb
     generalize rs[i] = r at *
     have HX3 : Hid (Has ((wr.alloc (.cells #[.string ⟨#[]⟩,.int .u16 0,.int .u16 0,.int .u32 0,.string ⟨#[]⟩,.string ⟨#[]⟩,.string ⟨#[]⟩,.int .u32 0,.int .u32 0,.int .u32 0,.int .u32 0,.int .u32 0] 39)).setRow wr.heap.size r.cells) wr.heap.size 39 r.cells):=(Has.fresh _ _ _).row _
     have HB3 : Hid (Below w.heap.size w ((wr.alloc (.cells #[.string ⟨#[]⟩,.int .u16 0,.int .u16 0,.int .u32 0,.string ⟨#[]⟩,.string ⟨#[]⟩,.string ⟨#[]⟩,.int .u32 0,.int .u32 0,.int .u32 0,.int .u32 0,.int .u32 0] 39)).setRow wr.heap.size r.cells)):=below_setRow (HBr.out.alloc HBr.out.size _) HBr.out.size _
     by_cases hk : Mp.okL r = 0
     · rw [hk] at HL1 HRS
       go_wp2_with (first
        | (refine wpList_load_mid rfl 39 (.tmp 22) rfl g _ rfl (rcl r) _ HC.out Tryz.underlying39 rfl HI.out ?_)
        | (refine wpList_store_row rfl 39 (.tmp 7) (.tmp 23) rfl wr.heap.size r.cells rfl rfl 39 _ (Has.fresh _ _ _) HI.out rfl (rv_one r) ?_
           revert HX3 HB3
           generalize ((wr.alloc (.cells #[.string ⟨#[]⟩,.int .u16 0,.int .u16 0,.int .u32 0,.string ⟨#[]⟩,.string ⟨#[]⟩,.string ⟨#[]⟩,.int .u32 0,.int .u32 0,.int .u32 0,.int .u32 0,.int .u32 0] 39)).setRow wr.heap.size r.cells) = w3
           intro HX3 HB3)
        | (refine wpList_load_row rfl 39 (.tmp 7) rfl wr.heap.size rfl 39 r.cells (0,0) _ HX3.out Tryz.underlying39 rfl HI.out ?_)
        | (go_at_call 14
           refine (HL1.out _ (LayR.below HLL.out.1 HB3.out (Nat.le_refl _))).mono ?_
           rintro e w4 ⟨rfl,B4⟩
           have HB4:=Lib.hid (HB3.out.trans (B4.mono HB3.out.size))
           clear B4))
       go_roundw
       case rel=>exact ⟨i + 1,by go_num,by omega,HRS.out,HB4⟩
       case measure=>simp [intOf];omega
     · have i9 : ¬ ((Mp.okL r : Nat) : Int) = 0:=by omega
       generalize Mp.okL r = K9 at *
       go_wp2_with (first
        | (refine wpList_load_mid rfl 39 (.tmp 22) rfl g _ rfl (rcl r) _ HC.out Tryz.underlying39 rfl HI.out ?_)
        | (refine wpList_store_row rfl 39 (.tmp 7) (.tmp 23) rfl wr.heap.size r.cells rfl rfl 39 _ (Has.fresh _ _ _) HI.out rfl (rv_one r) ?_
           revert HX3 HB3
           generalize ((wr.alloc (.cells #[.string ⟨#[]⟩,.int .u16 0,.int .u16 0,.int .u32 0,.string ⟨#[]⟩,.string ⟨#[]⟩,.string ⟨#[]⟩,.int .u32 0,.int .u32 0,.int .u32 0,.int .u32 0,.int .u32 0] 39)).setRow wr.heap.size r.cells) = w3
           intro HX3 HB3)
        | (refine wpList_load_row rfl 39 (.tmp 7) rfl wr.heap.size rfl 39 r.cells (0,0) _ HX3.out Tryz.underlying39 rfl HI.out ?_)
        | (go_at_call 14
           refine (HL1.out _ (LayR.below HLL.out.1 HB3.out (Nat.le_refl _))).mono ?_
           rintro e w4 ⟨rfl,B4⟩
           have HB4:=Lib.hid (HB3.out.trans (B4.mono HB3.out.size))
           clear B4))
       go_ret2
       refine ⟨?_,HB4.out⟩
       rw [← HV.out,HSP.out hk,if_neg hk]
       rfl
   · have hie : i = rs.length:=by omega
     subst hie
     rw [List.take_length] at hb
     have i1 : ¬ (rs.length : Int) < (rs.length : Int):=by omega
     have HV2:=HV.out
     rw [if_pos hb] at HV2
     have HV3:=Lib.hid HV2
     clear HV2 HV
     have hok:=Mp.bad_mem hb
     generalize hO : o.data.toList = O at *
     have HJ : Hid (∀ (W : World) (g : Nat),(∀ (j : Nat) (x : List UInt8), [[36,79,82,73,71,73,78],Nm.text (Nm.fold O)][j]? = some x → W.cell? ⟨g,j,none⟩ = some (sv x)) → g < W.heap.size → Calls Tryz.prog 16 #[.slice (some ⟨g,0,none⟩) 2 2] W fun e w' => e = .returned (sv (Mp.textL O [])) ∧ Below W.heap.size W w'):=fun W g h hg=>by
      have h5:=text_few (Nm.fold O)
      have:=mline_any g _ W h hg (by simp) (by simp [Lib.join,List.intercalate];omega)
      rw [Mp.head_join] at this
      exact this
     have hhl : (Mp.textL O []).length ≤ 40009:=by
      have:=Mp.headL_len O
      unfold Mp.textL
      simpa using this
     have HBD0:=Lib.hid (Lib.fresh_isBuilder 53 5 wr)
     have HB5 : Hid (Below w.heap.size w (wr.alloc (.cells #[.pointer none,.slice none 0 0] 53))):=HBr.out.alloc HBr.out.size _
     have hB0:=HBr.out.size
     have HT : Hid (∀ i,(Mp.textL O (rs.take i)).length ≤ (Mp.textL O rs).length):=fun i=>Mp.textL_take O rs i
     obtain ⟨T,hT⟩ : ∃ T,Nm.text (Nm.fold O) = T:=⟨_,rfl⟩
     rw [hT] at HJ HTX
     obtain ⟨H0,hH0⟩ : ∃ H0,Mp.textL O [] = H0:=⟨_,rfl⟩
     rw [hH0] at HJ hhl
     have HH0:=Lib.hid hH0
     clear hb hT hH0 hO
     obtain ⟨b,hbw⟩ : ∃ b,wr.heap.size = b:=⟨_,rfl⟩
     have HWS : Hid (∀ (W : World) (X L : List UInt8),Lib.IsBuilder 53 5 b b (bv X) W → X.length + L.length ≤ 140737488355328 → b ≤ W.heap.size → Calls Tryz.prog 15 #[.pointer (some ⟨b,0,none⟩),sv L] W fun e w' => e = .returned (.tuple #[.int .i64 (L.length : Nat),.nilIface]) ∧ Lib.IsBuilder 53 5 b b (bv (X ++ L)) w' ∧ Below b W w'):=fun W X L h1 h2 h3=>by
      have h:=bldWrite_any b b (bv X) ⟨L.toArray⟩ W h1 (by rw [mk_size];simpa [bv] using h2) h3
      rw [bv_strs,mk_size] at h
      exact h.mono fun e w' hp=>⟨hp.1,.inr hp.2.1,hp.2.2⟩
     rw [hbw] at HBD0 hB0
     have HBD1 : Hid (Lib.IsBuilder 53 5 b b (bv []) (wr.alloc (.cells #[.pointer none,.slice none 0 0] 53))):=HBD0.out
     clear HBD0
     have hzb : b ≤ wr.heap.size:=by omega
     have hsa : (wr.alloc (.cells #[.pointer none,.slice none 0 0] 53)).heap.size = b + 1:=by rw [World.size_alloc,hbw]
     go_wp2_with (first
      | (go_at_call 17
         refine (HTX.out _).mono ?_
         rintro e w5 ⟨rfl,B5⟩
         have HBD5:=Lib.hid (bld_is HBD1.out B5)
         have HB6:=Lib.hid (HB5.out.trans (B5.mono HB5.out.size))
         have hz5 : b < w5.heap.size:=by have:=B5.size;rw [hsa] at this;omega
         clear B5)
      | (go_at_call 16
         refine (HJ.out _ _ (two_cells (Has.fresh _ _ _)) (by simp)).mono ?_
         rintro e w6 ⟨rfl,B6⟩
         have HBD6:=Lib.hid (bld_is (bld_is HBD5.out ((Below.refl _ _).alloc (Nat.le_refl _) _)) B6)
         have HB7:=Lib.hid ((HB6.out.alloc HB6.out.size _).trans (B6.mono (HB6.out.alloc HB6.out.size _).size))
         have hz6 : b < w6.heap.size:=by have:=B6.size;rw [World.size_alloc] at this;omega
         clear B6)
      | (go_at_call 15
         refine (HWS.out _ [] H0 HBD6.out (by simp only [List.length_nil];omega) (Nat.le_of_lt hz6)).mono ?_
         rintro e w7 ⟨rfl,D7,B7⟩
         have HBD7:=Lib.hid D7
         have HB8:=Lib.hid (HB7.out.trans (B7.mono hB0))
         have hz7 : b < w7.heap.size:=by have:=B7.size;omega
         clear D7 B7))
     have HBD8 : Hid (Lib.IsBuilder 53 5 b b (bv (Mp.textL O (rs.take 0))) w7):=by
      rw [List.take_zero,HH0.out]
      exact HBD7.out
     have hl0 : (Mp.textL O (rs.take 0)).length ≤ 262144:=by
      rw [List.take_zero,HH0.out]
      omega
     clear HJ HTX hhl HBD1 HB5 HBD5 HB6 HBD6 HB7 HBD7 HCK hsa
     go_loopw [37] (fun s37 wr => ∃ i : Nat,s37 = .int .i64 i ∧ i ≤ rs.length ∧ Hid (Lib.IsBuilder 53 5 b b (bv (Mp.textL O (rs.take i))) wr) ∧ (Mp.textL O (rs.take i)).length ≤ 262144 ∧ Hid (Below w.heap.size w wr) ∧ b ≤ wr.heap.size) (fun s37 _=>rs.length - (intOf s37).toNat)
     case atStart=>exact ⟨0,rfl,Nat.zero_le _,HBD8,hl0,HB8,by omega⟩
     case round =>
      obtain ⟨i,rfl,hi,HDq,hlx,HBq,hzq⟩:=hrel
      by_cases hlt : i < rs.length
      · obtain ⟨g,o1,rfl,_,_,hc⟩:=(HA.out.keep HBq.out).at_ hlt
        have HC : Hid (wr.rangeAt g (o1 + i * 12) (rcl rs[i])):=hc
        have hfi:=hF rs[i] (List.getElem_mem hlt)
        have hki:=hok rs[i] (List.getElem_mem hlt)
        have HL1:=Lib.hid (HLIN.out rs[i] hfi (Mp.okL_zero hki).2.2.2)
        have hll:=Mp.lineL_len hfi hki
        have htk : rs.take (i + 1) = rs.take i ++ [rs[i]]:=List.take_succ_eq_append_getElem hlt
        have hsn:=Mp.textL_snoc O (rs.take i) rs[i]
        rw [← htk] at hsn
        have hto:=HT.out (i + 1)
        rw [hsn] at hto
        have HSN:=Lib.hid hsn
        have i1 : (i : Int) < (rs.length : Int):=by omega
        have i0 : (0 : Int) ≤ (i : Int):=by omega
        clear hc htk hfi hki hsn
        generalize rs[i] = r at *
        generalize Mp.textL O (rs.take i) = X at *
        generalize Mp.lineL r = L at *
        have HX3 : Hid (Has ((wr.alloc (.cells #[.string ⟨#[]⟩,.int .u16 0,.int .u16 0,.int .u32 0,.string ⟨#[]⟩,.string ⟨#[]⟩,.string ⟨#[]⟩,.int .u32 0,.int .u32 0,.int .u32 0,.int .u32 0,.int .u32 0] 39)).setRow wr.heap.size r.cells) wr.heap.size 39 r.cells):=(Has.fresh _ _ _).row _
        have HB3 : Hid (Below w.heap.size w ((wr.alloc (.cells #[.string ⟨#[]⟩,.int .u16 0,.int .u16 0,.int .u32 0,.string ⟨#[]⟩,.string ⟨#[]⟩,.string ⟨#[]⟩,.int .u32 0,.int .u32 0,.int .u32 0,.int .u32 0,.int .u32 0] 39)).setRow wr.heap.size r.cells)):=below_setRow (HBq.out.alloc HBq.out.size _) HBq.out.size _
        have hbb : Below wr.heap.size wr ((wr.alloc (.cells #[.string ⟨#[]⟩,.int .u16 0,.int .u16 0,.int .u32 0,.string ⟨#[]⟩,.string ⟨#[]⟩,.string ⟨#[]⟩,.int .u32 0,.int .u32 0,.int .u32 0,.int .u32 0,.int .u32 0] 39)).setRow wr.heap.size r.cells):=below_setRow ((Below.refl _ _).alloc (Nat.le_refl _) _) (Nat.le_refl _) _
        have HD3:=Lib.hid (bld_is HDq.out hbb)
        have HZ3:=Lib.hid (Nat.le_trans hzq hbb.size)
        have hxl : X.length + L.length ≤ 140737488355328:=by omega
        have hbl : (bv (X ++ L)).length = X.length + L.length:=by simp [bv]
        clear hbb
        by_cases hx : X.length + L.length ≤ 262144
        · have ix : ¬ (262144 : Int) < ((X.length + L.length : Nat) : Int):=by omega
          go_wp2_with (first
           | (refine wpList_load_mid rfl 39 (.tmp 39) rfl g _ rfl (rcl r) _ HC.out Tryz.underlying39 rfl HI.out ?_)
           | (refine wpList_store_row rfl 39 (.tmp 11) (.tmp 40) rfl wr.heap.size r.cells rfl rfl 39 _ (Has.fresh _ _ _) HI.out rfl (rv_one r) ?_
              revert HX3 HD3 HB3 HZ3
              generalize ((wr.alloc (.cells #[.string ⟨#[]⟩,.int .u16 0,.int .u16 0,.int .u32 0,.string ⟨#[]⟩,.string ⟨#[]⟩,.string ⟨#[]⟩,.int .u32 0,.int .u32 0,.int .u32 0,.int .u32 0,.int .u32 0] 39)).setRow wr.heap.size r.cells) = w3
              intro HX3 HB3 HD3 HZ3)
           | (refine wpList_load_row rfl 39 (.tmp 11) rfl wr.heap.size rfl 39 r.cells (0,0) _ HX3.out Tryz.underlying39 rfl HI.out ?_)
           | (go_at_call 18
              refine (HL1.out _ (LayA.below HLL.out HB3.out (Nat.le_refl _))).mono ?_
              rintro e w4 ⟨rfl,B4⟩
              have HB4:=Lib.hid (HB3.out.trans (B4.mono HB3.out.size))
              have HD4:=Lib.hid (bld_is HD3.out B4)
              have hz4 : b ≤ w4.heap.size:=Nat.le_trans HZ3.out B4.size
              clear B4)
           | (go_at_call 15
              refine (HWS.out _ X L HD4.out hxl hz4).mono ?_
              rintro e w8 ⟨rfl,D8,B8⟩
              have HD8:=Lib.hid D8
              have HB9:=Lib.hid (HB4.out.trans (B8.mono hB0))
              have hz8 : b ≤ w8.heap.size:=Nat.le_trans hz4 B8.size
              clear D8 B8)
           | (go_at_call 19
              refine (Tryz.Builder_Len b b _ _ HD8.out).mono ?_
              rintro e w9 ⟨rfl,rfl⟩
              rw [hbl]))
          go_roundw
          case rel=>exact ⟨i + 1,by go_num,by omega,by rw [HSN.out];exact HD8,by rw [HSN.out,List.length_append];exact hx,HB9,hz8⟩
          case measure=>simp [intOf];omega
        · have ix : (262144 : Int) < ((X.length + L.length : Nat) : Int):=by omega
          rw [List.length_append] at hto
          go_wp2_with (first
           | (refine wpList_load_mid rfl 39 (.tmp 39) rfl g _ rfl (rcl r) _ HC.out Tryz.underlying39 rfl HI.out ?_)
           | (refine wpList_store_row rfl 39 (.tmp 11) (.tmp 40) rfl wr.heap.size r.cells rfl rfl 39 _ (Has.fresh _ _ _) HI.out rfl (rv_one r) ?_
              revert HX3 HD3 HB3 HZ3
              generalize ((wr.alloc (.cells #[.string ⟨#[]⟩,.int .u16 0,.int .u16 0,.int .u32 0,.string ⟨#[]⟩,.string ⟨#[]⟩,.string ⟨#[]⟩,.int .u32 0,.int .u32 0,.int .u32 0,.int .u32 0,.int .u32 0] 39)).setRow wr.heap.size r.cells) = w3
              intro HX3 HB3 HD3 HZ3)
           | (refine wpList_load_row rfl 39 (.tmp 11) rfl wr.heap.size rfl 39 r.cells (0,0) _ HX3.out Tryz.underlying39 rfl HI.out ?_)
           | (go_at_call 18
              refine (HL1.out _ (LayA.below HLL.out HB3.out (Nat.le_refl _))).mono ?_
              rintro e w4 ⟨rfl,B4⟩
              have HB4:=Lib.hid (HB3.out.trans (B4.mono HB3.out.size))
              have HD4:=Lib.hid (bld_is HD3.out B4)
              have hz4 : b ≤ w4.heap.size:=Nat.le_trans HZ3.out B4.size
              clear B4)
           | (go_at_call 15
              refine (HWS.out _ X L HD4.out hxl hz4).mono ?_
              rintro e w8 ⟨rfl,D8,B8⟩
              have HD8:=Lib.hid D8
              have HB9:=Lib.hid (HB4.out.trans (B8.mono hB0))
              have hz8 : b ≤ w8.heap.size:=Nat.le_trans hz4 B8.size
              clear D8 B8)
           | (go_at_call 19
              refine (Tryz.Builder_Len b b _ _ HD8.out).mono ?_
              rintro e w9 ⟨rfl,rfl⟩
              rw [hbl]))
          go_ret2
          refine ⟨?_,HB9.out⟩
          rw [← HV3.out,if_neg (by omega)]
          rfl
      · have hie : i = rs.length:=by omega
        subst hie
        rw [List.take_length] at hlx HDq
        have i1 : ¬ (rs.length : Int) < (rs.length : Int):=by omega
        have HV4:=HV3.out
        rw [if_pos hlx] at HV4
        have HST:=Lib.hid (Tryz.Builder_String_any b b (Mp.textL O rs) wr HDq.out hzq)
        go_wp2_with (go_at_call 20;refine HST.out.mono ?_;rintro e w9 ⟨rfl,B9⟩;have HB9:=Lib.hid (HBq.out.trans (B9.mono hB0));clear B9)
        go_ret2
        refine ⟨?_,HB9.out⟩
        rw [← HV4]
        rfl
end Go.Proofs.YtekafhogiambaaaGreatDoor
namespace Go.Proofs.YtekafhogiambaaaGreatDoor
open Go.RowKit
def Mp.Light (r : Rv) : Prop:=r.nm.size ≤ 2000 ∧ r.d.raw.size ≤ 2000 ∧ r.d.host.size ≤ 2000 ∧ r.d.mail.size ≤ 2000
def Mp.HvP (o : ByteArray) (rs : List Rv) (w : World) (e : Ending) (w' : World) : Prop:=Below w.heap.size w w' ∧ (e = .returned (.bool true) ∨ (e = .returned (.bool false) ∧ rs.length ≤ 40 ∧ o.size ≤ 2000 ∧ ∀ r ∈ rs,Mp.Light r))
set_option maxHeartbeats 1000000 in
theorem heavy_any (o : ByteArray) (rs : List Rv) (A : Option Addr) (c : Nat) (w : World) (hA : Srow rcl 12 w 0 w.heap.size A rs) :
    Calls Tryz.prog 5 #[.string o, .slice A rs.length c] w (Mp.HvP o rs w) := by
  have HA := Lib.hid hA
  have hi8 : (Tryz.prog.info? 37).map (·.size) = some 8 := by kernel_rfl
  have HI8 := Lib.hid hi8
  clear hA hi8
  by_cases hn : rs.length ≤ 40
  · have in_ : ¬ (40 : Int) < (rs.length : Int) := by omega
    by_cases ho : o.size ≤ 2000
    · have io : ¬ (2000 : Int) < (o.size : Int) := by omega
      go_enter Tryz.func5, Tryz.ntmps5
      go_wp2
      go_loopw [5] (fun s5 wr => ∃ i : Nat, s5 = .int .i64 i ∧ i ≤ rs.length ∧ (∀ r ∈ rs.take i, Mp.Light r) ∧ Hid (Below w.heap.size w wr)) (fun s5 _ => rs.length - (intOf s5).toNat)
      case atStart => exact ⟨0, rfl, Nat.zero_le _, by simp, Below.refl _ _⟩
      case round =>
        obtain ⟨i, rfl, hi, hall, HBr⟩ := hrel
        by_cases hlt : i < rs.length
        · obtain ⟨g, o1, rfl, _, _, hc⟩ := (HA.out.keep HBr.out).at_ hlt
          have hcd : wr.rangeAt g (o1 + i * 12 + 4) rs[i].d.cells.toList := fun j v hj => by
            have := hc (4 + j) v (by
              have hj8 : j < 8 := by simpa [Dv.cells] using (List.getElem?_eq_some_iff.1 hj).1
              rcases (by omega : j = 0 ∨ j = 1 ∨ j = 2 ∨ j = 3 ∨ j = 4 ∨ j = 5 ∨ j = 6 ∨ j = 7) with rfl | rfl | rfl | rfl | rfl | rfl | rfl | rfl <;> exact hj)
            rwa [← Nat.add_assoc] at this
          have hc0 := hc 0 (.string rs[i].nm) rfl
          rw [Nat.add_zero] at hc0
          have htk : rs.take (i + 1) = rs.take i ++ [rs[i]] := List.take_succ_eq_append_getElem hlt
          have HLT : Hid (Mp.Light rs[i] → ∀ r ∈ rs.take (i + 1), Mp.Light r) := fun h r hr => by
            rw [htk] at hr
            rcases List.mem_append.1 hr with hr | hr
            · exact hall r hr
            · rw [List.mem_singleton.1 hr]; exact h
          have i1 : (i : Int) < (rs.length : Int) := by omega
          have i0 : (0 : Int) ≤ (i : Int) := by omega
          have HCD := Lib.hid hcd
          clear hc hcd htk hall
          unfold Mp.Light at HLT
          generalize rs[i] = r at *
          have HX3 : Hid (Has ((wr.alloc (.cells #[.string ⟨#[]⟩, .string ⟨#[]⟩, .string ⟨#[]⟩, .int .u32 0, .int .u32 0, .int .u32 0, .int .u32 0, .int .u32 0] 37)).setRow wr.heap.size r.d.cells) wr.heap.size 37 r.d.cells) := (Has.fresh _ _ _).row _
          have hb3 : Below wr.heap.size wr ((wr.alloc (.cells #[.string ⟨#[]⟩, .string ⟨#[]⟩, .string ⟨#[]⟩, .int .u32 0, .int .u32 0, .int .u32 0, .int .u32 0, .int .u32 0] 37)).setRow wr.heap.size r.d.cells) := below_setRow ((Below.refl _ _).alloc (Nat.le_refl _) _) (Nat.le_refl _) _
          have HB3 := Lib.hid (HBr.out.trans (hb3.mono HBr.out.size))
          have HN3 := Lib.hid (keep_cell hb3 hc0)
          clear hb3
          by_cases h0 : r.nm.size ≤ 2000
          · have j0 : ¬ (2000 : Int) < (r.nm.size : Int) := by omega
            by_cases h1 : r.d.raw.size ≤ 2000
            · have j1 : ¬ (2000 : Int) < (r.d.raw.size : Int) := by omega
              by_cases h2 : r.d.host.size ≤ 2000
              · have j2 : ¬ (2000 : Int) < (r.d.host.size : Int) := by omega
                by_cases h3 : r.d.mail.size ≤ 2000
                · have j3 : ¬ (2000 : Int) < (r.d.mail.size : Int) := by omega
                  go_wp2_with (first
                | (refine wpList_load_mid rfl 37 (.tmp 24) rfl g _ rfl r.d.cells.toList _ HCD.out Tryz.underlying37 rfl HI8.out ?_)
                | (refine wpList_store_row rfl 37 (.tmp 6) (.tmp 25) rfl wr.heap.size r.d.cells rfl rfl 37 _ (Has.fresh _ _ _) HI8.out rfl (dv_one r.d) ?_
                   revert HX3 HB3 HN3
                   generalize ((wr.alloc (.cells #[.string ⟨#[]⟩, .string ⟨#[]⟩, .string ⟨#[]⟩, .int .u32 0, .int .u32 0, .int .u32 0, .int .u32 0, .int .u32 0] 37)).setRow wr.heap.size r.d.cells) = w3
                   intro HX3 HB3 HN3
                   have n3 := HN3.out
                   have x0 : w3.cell? ⟨wr.heap.size, 0, none⟩ = some (.string r.d.raw) := by rw [HX3.out.cell]; rfl
                   have x1 : w3.cell? ⟨wr.heap.size, 1, none⟩ = some (.string r.d.host) := by rw [HX3.out.cell]; rfl
                   have x2 : w3.cell? ⟨wr.heap.size, 2, none⟩ = some (.string r.d.mail) := by rw [HX3.out.cell]; rfl))
                  go_roundw
                  case rel => exact ⟨i + 1, by go_num, by omega, HLT.out ⟨h0, h1, h2, h3⟩, HB3⟩
                  case measure => simp [intOf]; omega
                · have j3 : (2000 : Int) < (r.d.mail.size : Int) := by omega
                  go_wp2_with (first
                | (refine wpList_load_mid rfl 37 (.tmp 24) rfl g _ rfl r.d.cells.toList _ HCD.out Tryz.underlying37 rfl HI8.out ?_)
                | (refine wpList_store_row rfl 37 (.tmp 6) (.tmp 25) rfl wr.heap.size r.d.cells rfl rfl 37 _ (Has.fresh _ _ _) HI8.out rfl (dv_one r.d) ?_
                   revert HX3 HB3 HN3
                   generalize ((wr.alloc (.cells #[.string ⟨#[]⟩, .string ⟨#[]⟩, .string ⟨#[]⟩, .int .u32 0, .int .u32 0, .int .u32 0, .int .u32 0, .int .u32 0] 37)).setRow wr.heap.size r.d.cells) = w3
                   intro HX3 HB3 HN3
                   have n3 := HN3.out
                   have x0 : w3.cell? ⟨wr.heap.size, 0, none⟩ = some (.string r.d.raw) := by rw [HX3.out.cell]; rfl
                   have x1 : w3.cell? ⟨wr.heap.size, 1, none⟩ = some (.string r.d.host) := by rw [HX3.out.cell]; rfl
                   have x2 : w3.cell? ⟨wr.heap.size, 2, none⟩ = some (.string r.d.mail) := by rw [HX3.out.cell]; rfl))
                  go_ret
                  exact ⟨HB3.out, .inl rfl⟩
              · have j2 : (2000 : Int) < (r.d.host.size : Int) := by omega
                go_wp2_with (first
                | (refine wpList_load_mid rfl 37 (.tmp 24) rfl g _ rfl r.d.cells.toList _ HCD.out Tryz.underlying37 rfl HI8.out ?_)
                | (refine wpList_store_row rfl 37 (.tmp 6) (.tmp 25) rfl wr.heap.size r.d.cells rfl rfl 37 _ (Has.fresh _ _ _) HI8.out rfl (dv_one r.d) ?_
                   revert HX3 HB3 HN3
                   generalize ((wr.alloc (.cells #[.string ⟨#[]⟩, .string ⟨#[]⟩, .string ⟨#[]⟩, .int .u32 0, .int .u32 0, .int .u32 0, .int .u32 0, .int .u32 0] 37)).setRow wr.heap.size r.d.cells) = w3
                   intro HX3 HB3 HN3
                   have n3 := HN3.out
                   have x0 : w3.cell? ⟨wr.heap.size, 0, none⟩ = some (.string r.d.raw) := by rw [HX3.out.cell]; rfl
                   have x1 : w3.cell? ⟨wr.heap.size, 1, none⟩ = some (.string r.d.host) := by rw [HX3.out.cell]; rfl
                   have x2 : w3.cell? ⟨wr.heap.size, 2, none⟩ = some (.string r.d.mail) := by rw [HX3.out.cell]; rfl))
                go_ret
                exact ⟨HB3.out, .inl rfl⟩
            · have j1 : (2000 : Int) < (r.d.raw.size : Int) := by omega
              go_wp2_with (first
                | (refine wpList_load_mid rfl 37 (.tmp 24) rfl g _ rfl r.d.cells.toList _ HCD.out Tryz.underlying37 rfl HI8.out ?_)
                | (refine wpList_store_row rfl 37 (.tmp 6) (.tmp 25) rfl wr.heap.size r.d.cells rfl rfl 37 _ (Has.fresh _ _ _) HI8.out rfl (dv_one r.d) ?_
                   revert HX3 HB3 HN3
                   generalize ((wr.alloc (.cells #[.string ⟨#[]⟩, .string ⟨#[]⟩, .string ⟨#[]⟩, .int .u32 0, .int .u32 0, .int .u32 0, .int .u32 0, .int .u32 0] 37)).setRow wr.heap.size r.d.cells) = w3
                   intro HX3 HB3 HN3
                   have n3 := HN3.out
                   have x0 : w3.cell? ⟨wr.heap.size, 0, none⟩ = some (.string r.d.raw) := by rw [HX3.out.cell]; rfl
                   have x1 : w3.cell? ⟨wr.heap.size, 1, none⟩ = some (.string r.d.host) := by rw [HX3.out.cell]; rfl
                   have x2 : w3.cell? ⟨wr.heap.size, 2, none⟩ = some (.string r.d.mail) := by rw [HX3.out.cell]; rfl))
              go_ret
              exact ⟨HB3.out, .inl rfl⟩
          · have j0 : (2000 : Int) < (r.nm.size : Int) := by omega
            go_wp2_with (first
                | (refine wpList_load_mid rfl 37 (.tmp 24) rfl g _ rfl r.d.cells.toList _ HCD.out Tryz.underlying37 rfl HI8.out ?_)
                | (refine wpList_store_row rfl 37 (.tmp 6) (.tmp 25) rfl wr.heap.size r.d.cells rfl rfl 37 _ (Has.fresh _ _ _) HI8.out rfl (dv_one r.d) ?_
                   revert HX3 HB3 HN3
                   generalize ((wr.alloc (.cells #[.string ⟨#[]⟩, .string ⟨#[]⟩, .string ⟨#[]⟩, .int .u32 0, .int .u32 0, .int .u32 0, .int .u32 0, .int .u32 0] 37)).setRow wr.heap.size r.d.cells) = w3
                   intro HX3 HB3 HN3
                   have n3 := HN3.out
                   have x0 : w3.cell? ⟨wr.heap.size, 0, none⟩ = some (.string r.d.raw) := by rw [HX3.out.cell]; rfl
                   have x1 : w3.cell? ⟨wr.heap.size, 1, none⟩ = some (.string r.d.host) := by rw [HX3.out.cell]; rfl
                   have x2 : w3.cell? ⟨wr.heap.size, 2, none⟩ = some (.string r.d.mail) := by rw [HX3.out.cell]; rfl))
            go_ret
            exact ⟨HB3.out, .inl rfl⟩
        · have hie : i = rs.length := by omega
          subst hie
          rw [List.take_length] at hall
          have i1 : ¬ (rs.length : Int) < (rs.length : Int) := by omega
          go_wp2
          go_ret
          exact ⟨HBr.out, .inr ⟨rfl, hn, ho, hall⟩⟩
    · have io : (2000 : Int) < (o.size : Int) := by omega
      go_enter Tryz.func5, Tryz.ntmps5
      go_wp2
      go_ret
      exact ⟨Below.refl _ _, .inl rfl⟩
  · have in_ : (40 : Int) < (rs.length : Int) := by omega
    go_enter Tryz.func5, Tryz.ntmps5
    go_wp2
    go_ret
    exact ⟨Below.refl _ _, .inl rfl⟩
end Go.Proofs.YtekafhogiambaaaGreatDoor
namespace Go.Proofs.YtekafhogiambaaaGreatDoor
open Go.RowKit
set_option maxHeartbeats 400000 in
theorem r5Fold_any (r : Rv) (w : World) (ht : r.ty ≤ 65535) (hs : r.short) :
 Calls Tryz.prog 9 #[r.val] w fun e w' => e = .returned r.fold.val ∧ Below w.heap.size w w':=by
 have HN:=Lib.hid (fun W : World=>refFold_any r.nm W hs.1)
 have HD:=Lib.hid (fun (W : World)=>(show Calls Tryz.prog 25 #[.int .u16 r.ty,.agg r.d.cells] W (fun e w' => e = .returned (.agg (r.d.fold r.ty).cells) ∧ Below W.heap.size W w') from rdFold_any r.ty r.d W ht hs.2.1 hs.2.2))
 have hf : r.fold = { r with nm:=⟨(Nm.fold r.nm.data.toList).toArray⟩,d:=r.d.fold r.ty }:=rfl
 generalize (⟨(Nm.fold r.nm.data.toList).toArray⟩ : ByteArray) = N at *
 generalize r.d.fold r.ty = D at *
 obtain ⟨R,hR⟩ : ∃ R,r.fold = R:=⟨_,rfl⟩
 rw [hR]
 rw [hR] at hf
 have HRES:=Lib.hid hf
 clear hR hf
 clear hs ht
 have hval : r.val = .agg r.cells:=rfl
 have hd8 : ∀ d : Dv,d.val = .agg d.cells:=fun _=>rfl
 have hi12 : (Tryz.prog.info? 39).map (·.size) = some 12:=by kernel_rfl
 have HI:=Lib.hid hi12
 have hi8 : (Tryz.prog.info? 37).map (·.size) = some 8:=by kernel_rfl
 have HI8:=Lib.hid hi8
 clear hi12 hi8
 have HX0 : Hid (Has ((w.alloc (.cells r.cells 39)).alloc (.cells #[.string ⟨#[]⟩,.int .u16 0,.int .u16 0,.int .u32 0,.string ⟨#[]⟩,.string ⟨#[]⟩,.string ⟨#[]⟩,.int .u32 0,.int .u32 0,.int .u32 0,.int .u32 0,.int .u32 0] 39)) w.heap.size 39 r.cells):=(Has.fresh w _ _).alloc _
 have HZ0 : Hid (Has ((w.alloc (.cells r.cells 39)).alloc (.cells #[.string ⟨#[]⟩,.int .u16 0,.int .u16 0,.int .u32 0,.string ⟨#[]⟩,.string ⟨#[]⟩,.string ⟨#[]⟩,.int .u32 0,.int .u32 0,.int .u32 0,.int .u32 0,.int .u32 0] 39)) (w.heap.size + 1) 39 #[.string ⟨#[]⟩,.int .u16 0,.int .u16 0,.int .u32 0,.string ⟨#[]⟩,.string ⟨#[]⟩,.string ⟨#[]⟩,.int .u32 0,.int .u32 0,.int .u32 0,.int .u32 0,.int .u32 0]):=by
  have h:=Has.fresh (w.alloc (.cells r.cells 39)) 39 #[.string ⟨#[]⟩,.int .u16 0,.int .u16 0,.int .u32 0,.string ⟨#[]⟩,.string ⟨#[]⟩,.string ⟨#[]⟩,.int .u32 0,.int .u32 0,.int .u32 0,.int .u32 0,.int .u32 0]
  have e : (w.alloc (.cells r.cells 39)).heap.size = w.heap.size + 1:=by simp
  rw [e] at h
  exact h
 have HB0 : Hid (Below w.heap.size w ((w.alloc (.cells r.cells 39)).alloc (.cells #[.string ⟨#[]⟩,.int .u16 0,.int .u16 0,.int .u32 0,.string ⟨#[]⟩,.string ⟨#[]⟩,.string ⟨#[]⟩,.int .u32 0,.int .u32 0,.int .u32 0,.int .u32 0,.int .u32 0] 39))):=((Below.refl _ _).alloc (Nat.le_refl _) _).alloc (by simp) _
 have c0:=rv_nm HX0.out
 go_enter Tryz.func9,Tryz.ntmps9
 go_wp2_with (first
  | (go_at_call 24
     refine (HN.out _).mono ?_
     rintro e w1 ⟨rfl,B1⟩
     have hs1:=B1.size
     simp only [World.size_alloc] at hs1
     have HX1:=Lib.hid (HX0.out.below B1 (by simp;omega))
     have HZ1:=Lib.hid (HZ0.out.below B1 (by simp))
     have HB1:=Lib.hid (HB0.out.trans (B1.mono (by simp;omega)))
     have c1:=rv_nm HX1.out
     have f1:=HX1.out.free 0
     have HX2 : Hid (Has (w1.setCell ⟨w.heap.size,0,none⟩ (.string N)) w.heap.size 39 ({ r with nm:=N } : Rv).cells):=HX1.out.set 0 _
     have c2 : (w1.setCell ⟨w.heap.size,0,none⟩ (.string N)).cell? ⟨w.heap.size,1,none⟩ = some (.int .u16 r.ty):=(by have h:=rv_ty HX2.out;exact h)
     clear B1)
  | (refine wpList_load_mid rfl 37 (.tmp 9) rfl w.heap.size 4 rfl r.d.cells.toList _ (by have h:=rv_data HX2.out;exact h) Tryz.underlying37 rfl HI8.out ?_)
  | (go_at_call 25
     refine (HD.out _).mono ?_
     rintro e w2 ⟨rfl,B2⟩
     have hs2:=B2.size
     simp only [World.size_setCell] at hs2
     have HX3:=Lib.hid (HX2.out.below B2 (by simp;omega))
     have HZ3:=Lib.hid ((HZ1.out.far (p:=⟨w.heap.size,0,none⟩) (by simp) (.string N)).below B2 (by simp;omega))
     have HB3:=Lib.hid ((HB1.out.setCell (p:=⟨w.heap.size,0,none⟩) (Nat.le_refl _) (.string N)).trans (B2.mono (by simp;omega)))
     have HT3:=Lib.hid (rv_there HX3.out)
     have HX4 : Hid (Has (w2.setCells w.heap.size 4 D.cells.toList) w.heap.size 39 R.cells):=by rw [Hid,HRES.out];exact (rv_set_data HX3.out D).1
     have HB4:=Lib.hid ((rv_set_data HX3.out D).2 _ (Nat.le_refl _) _ HB3.out)
     have HZ4:=Lib.hid (HZ3.out.farCells (g':=w.heap.size) (by omega) D.cells.toList 4)
     clear B2 HX3 HB3 HZ3 HX2)
  | (refine wpList_store_mid rfl 37 (.tmp 12) (.tmp 11) rfl w.heap.size 4 D.cells rfl rfl HT3.out HI8.out (dv_one _) ?_;revert HX4 HZ4 HB4;generalize w2.setCells w.heap.size 4 D.cells.toList = w3;intro HX4 HB4 HZ4;clear c0 c1 c2 f1 hval hd8 HX1 HZ1 HB1 HX0 HZ0 HB0 HT3 hs1;rename_i Q0 K0 A0;refine wpList_nil ?_;change K0 _ _;refine A0 _ _ ?_;clear A0;go_wp2_with (first | (refine wpList_load_row rfl 39 (.tmp 1) rfl w.heap.size rfl 39 R.cells (0,0) _ HX4.out Tryz.underlying39 rfl HI.out ?_) | (refine wpList_store_row rfl 39 (.tmp 2) (.tmp 13) rfl (w.heap.size + 1) R.cells rfl rfl 39 _ HZ4.out HI.out rfl (rv_one R) ?_))))
 refine bodyPost_ret (results_cell_row rfl _ _ (w.heap.size + 1) 39 R.cells (0,0) _ rfl (HZ4.out.row _) Tryz.underlying39 rfl HI.out) rfl ?_
 exact ⟨rfl,below_setRow HB4.out (by omega) _⟩
end Go.Proofs.YtekafhogiambaaaGreatDoor
namespace Go.Proofs.YtekafhogiambaaaGreatDoor
open Go.RowKit
theorem Mb.fine_light {r : Rv} (h : Mp.Light r) (hf : r.fits) : Mp.Fine r:=by
 obtain ⟨h0,h1,h2,h3⟩:=h
 obtain ⟨f1,f2,f3,f4⟩:=hf
 exact ⟨f1,f3,f4,⟨by omega,by omega,by omega⟩,by omega⟩
theorem pao_ok {s0 s : Ma.S} {t : List UInt8} {A : Option Addr} {n c l k x B : Nat} {w : World} (h : PaO s0 t A n c l k x B w) {es : List Tk.En} (ht : Tk.tells t = .ok es) (he : Ma.entries s0 es = .ok s) : x = 0 ∧ n = s.recs.length ∧ Own mcl 12 w B 39 (.slice A s.recs.length c) s.recs:=by
 rcases h with ⟨e2,s2,h1,h2,h3,_,_,h6,h7⟩ | ⟨e2,r2,h1,h2,_⟩ | ⟨y,h1,_⟩
 · rw [ht] at h1
   injection h1 with h1
   rw [← h1,he] at h2
   injection h2 with h2
   subst h2
   exact ⟨h3,h6,h7⟩
 · rw [ht] at h1;injection h1 with h1;rw [← h1,he] at h2;cases h2
 · rw [ht] at h1;cases h1
theorem pao_zero {s0 : Ma.S} {t : List UInt8} {A : Option Addr} {n c l k x B : Nat} {w : World} (h : PaO s0 t A n c l k x B w) (hx : x = 0) : ∃ (s : Ma.S) (es : List Tk.En),Ma.entries s0 es = .ok s ∧ n = s.recs.length ∧ Own mcl 12 w B 39 (.slice A s.recs.length c) s.recs:=by
 rcases h with ⟨e2,s2,h1,h2,h3,_,_,h6,h7⟩ | ⟨e2,r2,_,_,hc,_,_,_,h4,_⟩ | ⟨y,h1,hy,_,_,_,h4⟩
 · exact ⟨s2,e2,h2,h6,h7⟩
 · exfalso;unfold Ma.Code at hc;omega
 · exfalso;omega
theorem pao_none {s0 : Ma.S} {t : List UInt8} {A : Option Addr} {n c l k x B : Nat} {w : World} (h : PaO s0 t A n c l k x B w) (hx : x ≠ 0) : n = 0:=by
 rcases h with ⟨_,_,_,_,h3,_⟩ | ⟨_,_,_,_,_,_,h,_⟩ | ⟨_,_,_,_,h,_⟩
 · exact absurd h3 hx
 · exact h
 · exact h
theorem rec_run (r : Rv) : ∀ W,(Op.equalIn 10000 39 r.val r.val).run Tryz.prog W = .ok true W:=fun W=>by
 have h:=rvRun W r r 9995
 rw [(rvB_iff _ _).2 rfl] at h
 exact h
end Go.Proofs.YtekafhogiambaaaGreatDoor
