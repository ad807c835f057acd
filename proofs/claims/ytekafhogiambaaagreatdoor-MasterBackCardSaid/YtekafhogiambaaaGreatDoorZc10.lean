/- Texts of the proofs, merged. -/
import Derived.Test.YtekafhogiambaaaGreatDoorZc7
import Derived.Test.YtekafhogiambaaaGreatDoorZc4
import Derived.Test.YtekafhogiambaaaGreatDoorZc9
set_option maxRecDepth 100000
namespace Go.Proofs.YtekafhogiambaaaGreatDoor
open Go.RowKit
def cells64 : Array Value:=#[.int .u8 0,.int .u8 1,.int .u8 56,.int .u8 2,.int .u8 57,.int .u8 49,.int .u8 28,.int .u8 3,.int .u8 61,.int .u8 58,.int .u8 42,.int .u8 50,.int .u8 38,.int .u8 29,.int .u8 17,.int .u8 4,.int .u8 62,.int .u8 47,.int .u8 59,.int .u8 36,.int .u8 45,.int .u8 43,.int .u8 51,.int .u8 22,.int .u8 53,.int .u8 39,.int .u8 33,.int .u8 30,.int .u8 24,.int .u8 18,.int .u8 12,.int .u8 5,.int .u8 63,.int .u8 55,.int .u8 48,.int .u8 27,.int .u8 60,.int .u8 41,.int .u8 37,.int .u8 16,.int .u8 46,.int .u8 35,.int .u8 44,.int .u8 21,.int .u8 52,.int .u8 32,.int .u8 23,.int .u8 11,.int .u8 54,.int .u8 26,.int .u8 40,.int .u8 15,.int .u8 34,.int .u8 20,.int .u8 31,.int .u8 10,.int .u8 25,.int .u8 14,.int .u8 19,.int .u8 9,.int .u8 13,.int .u8 8,.int .u8 7,.int .u8 6]
def LayD (w : World) : Prop := ∃ t,Has w 4 t cells64
theorem LayD.below {w w' : World} {B : Nat} (h : LayD w) (hb : Below B w w') (hB : w.heap.size ≤ B) : LayD w':=h.elim fun t h=>⟨t,h.below hb (Nat.lt_of_lt_of_le h.lt hB)⟩
def LayA (w : World) : Prop:=LayR w ∧ LayP w ∧ LayD w
theorem LayA.below {w w' : World} {B : Nat} (h : LayA w) (hb : Below B w w') (hB : w.heap.size ≤ B) : LayA w':=⟨h.1.below hb hB,h.2.1.below hb hB,h.2.2.below hb hB⟩
theorem nil_form {W : World} {b : Nat} {v : Value} {xs : List (List UInt8)} (h : W.ownsRow b 9 1 v xs.length (svs xs)) (e : xs = []) : ∃ A c,v = .slice A 0 c ∧ (A = none → c = 0):=by
 subst e
 rcases h.2 with ⟨rfl,_⟩ | ⟨g,cap,cur,rfl,_⟩
 · exact ⟨none,0,rfl,fun _=>rfl⟩
 · exact ⟨_,_,rfl,fun e=>by cases e⟩
def OneW (f : FuncId) (r : ByteArray) (x : List UInt8) : Prop := ∀ W : World,LayA W → Calls Tryz.prog f #[.string r] W fun e w' => e = .returned (sv x) ∧ Below W.heap.size W w'
def ManyW (f : FuncId) (r : ByteArray) (xs : List (List UInt8)) : Prop := ∀ W : World,LayA W → Calls Tryz.prog f #[.string r] W fun e w' => ∃ v,e = .returned v ∧ w'.ownsRow W.heap.size 9 1 v xs.length (svs xs) ∧ Below W.heap.size W w'
theorem rd_hasN3 (d : Dv) {n : Nat} (h : n < 5) : Rd.hasN d.dt n = d.n n:=by
 rcases (by omega : n = 0 ∨ n = 1 ∨ n = 2 ∨ n = 3 ∨ n = 4) with rfl | rfl | rfl | rfl | rfl <;> rfl
theorem wds_len {d : Rd.Dt} {X : Nat → List (List UInt8)} (h : ∀ p,(X p).length ≤ 100000) (t k : Nat) : (Rd.wds d X ((Rd.parts t).take k)).1.length ≤ 100001 * k:=by
 induction k with
 | zero=>simp [Rd.wds]
 | succ k ih =>
  by_cases hk : k < (Rd.parts t).length
  · rw [List.take_succ_eq_append_getElem hk,Rd.wds_snoc,List.length_append]
    have:=Rd.pcs_len (d:=d) (n:=Rd.nums ((Rd.parts t).take k)) (p:=(Rd.parts t)[k]) h
    omega
  · rw [List.take_of_length_le (by omega)]
    rw [List.take_of_length_le (by omega)] at ih
    omega
theorem join_words {W : World} {b g cp : Nat} {ws : List (List UInt8)} (h : W.ownsRow b 9 1 (.slice (some ⟨g,0,none⟩) ws.length cp) ws.length (svs ws)) (hg : g < W.heap.size) (hc : ws.length ≤ cp) (hl : ws.length ≤ 140737488355328) (hj : (Lib.join ws [32]).length ≤ 140737488355328) :
 Calls Tryz.prog 29 #[.slice (some ⟨g,0,none⟩) ws.length cp,.string ⟨#[32]⟩] W fun e w' => e = .returned (sv (Lib.join ws [32])) ∧ Below W.heap.size W w':=by
 have hm : (ws.map fun l=>(⟨l.toArray⟩ : ByteArray)).map (·.data.toList) = ws:=by
  rw [List.map_map]
  exact (List.map_congr_left (fun _ _=>rfl)).trans (List.map_id _)
 have:=Tryz.strings_Join g 0 cp (ws.map fun l=>(⟨l.toArray⟩ : ByteArray)) ⟨#[32]⟩ W (fun j x hx=>by
  have hj2 : j < ws.length:=by have:=(List.getElem?_eq_some_iff.1 hx).1;simpa using this
  rw [Nat.zero_add]
  have hx2 : x = ⟨(ws[j]).toArray⟩:=by simp [hj2] at hx;exact hx.symm
  rw [hx2]
  exact own_cells h j _ (by simp [svs,hj2])) hg (by simpa using hl) (by simpa using hc) (by rw [hm];exact hj)
 rw [hm,List.length_map] at this
 exact this
set_option maxHeartbeats 8000000 in
theorem pdShow_loop (t : Nat) (d : Dv) (X : Nat → List (List UInt8)) (w : World) (ht : t ≤ 65535) (hL : LayA w) (hf : d.fits) (hh : d.host.size ≤ 140737488355328) (hm : d.mail.size ≤ 140737488355328)
 (hck : ∀ W : World,LayR W → Calls Tryz.prog 27 #[.int .u16 t,.agg d.cells] W fun e w' => e = .returned (.int .i64 0) ∧ Below W.heap.size W w')
 (h1 : 1 ∈ Rd.parts t → ∃ x,X 1 = [x] ∧ OneW 54 d.raw x) (h2 : 2 ∈ Rd.parts t → ∃ x,X 2 = [x] ∧ OneW 55 d.raw x)
 (h3 : 3 ∈ Rd.parts t → ManyW 56 d.raw (X 3)) (h4 : 4 ∈ Rd.parts t → ManyW 57 d.raw (X 4))
 (hXl : ∀ p,(X p).length ≤ 100000) (hne : (Rd.wds d.dt X (Rd.parts t)).1 ≠ []) (hjl : (Lib.join (Rd.wds d.dt X (Rd.parts t)).1 [32]).length ≤ 140737488355328) :
 Calls Tryz.prog 32 #[.int .u16 t,d.val] w fun e W' => e = .returned (.tuple #[sv (Lib.join (Rd.wds d.dt X (Rd.parts t)).1 [32]),.int .i64 0]) ∧ Below w.heap.size w W':=by
 obtain ⟨i0,hi,hz0,hz1,hz2⟩:=info_parts Tryz.infoString
 obtain ⟨R,hR⟩ : ∃ R,Lib.join (Rd.wds d.dt X (Rd.parts t)).1 [32] = R:=⟨_,rfl⟩
 rw [hR]
 have HRES:=Lib.hid hR
 clear hR
 have HLw0:=Lib.hid hL
 have HCK:=Lib.hid hck
 have HF:=Lib.hid hf
 have H1:=Lib.hid h1
 have H2:=Lib.hid h2
 have H3:=Lib.hid h3
 have H4:=Lib.hid h4
 have HXL:=Lib.hid hXl
 have HNE:=Lib.hid hne
 have HJL:=Lib.hid hjl
 have hX0 : Has (w.alloc (.cells d.cells 37)) w.heap.size 37 d.cells:=Has.fresh w _ _
 have hB0 : Below w.heap.size w (w.alloc (.cells d.cells 37)):=(Below.refl _ _).alloc (Nat.le_refl _) _
 have HL0:=Lib.hid (hL.1.below hB0 (Nat.le_refl _))
 have hi8 : (Tryz.prog.info? 37).map (·.size) = some 8:=by kernel_rfl
 have HI:=Lib.hid hi8
 have HX0:=Lib.hid hX0
 have HB0:=Lib.hid hB0
 have HPO : ∀ W : World,LayR W → Hid (Calls Tryz.prog 44 #[.int .u16 t] W fun e w' => e = .returned (.agg (partC t)) ∧ Below W.heap.size W w'):=fun W h=>partsOf_any t W ht h
 have hval : d.val = .agg d.cells:=rfl
 clear hL hck hf hi8 hX0 hB0 h1 h2 h3 h4 hXl hne hjl
 go_enter Tryz.func32,Tryz.ntmps32
 go_wp2_with (first
  | (refine wpList_load_row rfl 37 (.tmp 3) rfl w.heap.size rfl 37 d.cells (0,0) _ HX0.out Tryz.underlying37 rfl HI.out ?_)
  | (go_at_call 27;refine (HCK.out _ HL0.out).mono ?_;rintro e wc ⟨rfl,B1⟩;replace HX0:=Lib.hid (HX0.out.below B1 HX0.out.lt);replace HB0:=Lib.hid (HB0.out.trans (B1.mono HB0.out.size));replace HL0:=Lib.hid (HLw0.out.1.below HB0.out (Nat.le_refl _));clear B1)
  | (go_at_call 44;refine (HPO _ HL0.out).out.mono ?_;rintro e w1 ⟨rfl,B2⟩;replace HX0:=Lib.hid (HX0.out.below B2 HX0.out.lt);replace HB0:=Lib.hid (HB0.out.trans (B2.mono HB0.out.size));clear B2 HL0))
 have HLw : Hid (LayA w1):=HLw0.out.below HB0.out (Nat.le_refl _)
 have hsw:=HX0.out.lt
 go_loopw [7,8,19] (fun v nn i wr => ∃ k : Nat,i = .int .i64 k ∧ k ≤ 7 ∧ nn = .int .i64 (Rd.nums ((Rd.parts t).take k) : Nat) ∧ Hid (wr.ownsRow w1.heap.size 9 1 v (Rd.wds d.dt X ((Rd.parts t).take k)).1.length (svs (Rd.wds d.dt X ((Rd.parts t).take k)).1)) ∧ Hid (Below w1.heap.size w1 wr)) (fun _ _ i _=>7 - (intOf i).toNat)
 case atStart=>exact ⟨0,rfl,by omega,by simp [Rd.nums],World.ownsRow_nil _ _ _ _,Below.refl _ _⟩
 case round =>
  obtain ⟨k,rfl,hk,rfl,HO,HB⟩:=hrel
  have hbs:=HB.out.size
  by_cases hlt : k < 7
  · have hkl : k < (Rd.parts t).length:=by rw [Rd.parts_len];exact hlt
    have hix:=part_at hkl
    have hp9 : (Rd.parts t)[k] ≤ 9:=Rd.parts_lt t _ (List.getElem_mem hkl)
    have htk : (Rd.parts t).take (k + 1) = (Rd.parts t).take k ++ [(Rd.parts t)[k]]:=List.take_succ_eq_append_getElem hkl
    have hn5 : Rd.nums ((Rd.parts t).take (k + 1)) ≤ 5:=Rd.nums_le
    have hmem : (Rd.parts t)[k] ∈ Rd.parts t:=List.getElem_mem hkl
    have hwl : (Rd.wds d.dt X ((Rd.parts t).take k)).1.length ≤ 100001 * k:=wds_len HXL.out t k
    rw [htk] at hn5
    have HTK:=Lib.hid htk
    have HME:=Lib.hid hmem
    have H4D:=Lib.hid (HX0.out.below HB.out (by omega))
    clear htk hmem
    generalize (Rd.parts t)[k] = p at *
    generalize (Rd.parts t).take k = ps at *
    obtain ⟨q,hq⟩ : ∃ q : Int,((p : Nat) : Int) = q:=⟨_,rfl⟩
    rw [hq] at hix
    have HQ:=Lib.hid hq
    clear hq
    obtain ⟨ad,cp,hv⟩:=own_form HO.out
    subst hv
    have cr:=dv_raw H4D.out
    have ch:=dv_host H4D.out
    have cm:=dv_mail H4D.out
    by_cases p0 : p = 0
    · subst p0
      obtain rfl : q = 0:=HQ.out.symm
      go_wp2
      go_roundw
      case rel=>exact ⟨k + 1,by go_num,by omega,by rw [HTK.out,Rd.nums_snoc];rfl,by rw [HTK.out,Rd.wds_snoc];show World.ownsRow _ _ _ _ _ (_ ++ []).length (svs (_ ++ []));rw [List.append_nil];exact HO,HB⟩
      case measure=>simp [intOf];omega
    by_cases p1 : p = 1
    · subst p1
      obtain rfl : q = 1:=HQ.out.symm
      have HNU : Hid (Rd.nums (ps ++ [1]) = Rd.nums ps):=by rw [Hid,Rd.nums_snoc,if_neg (by omega)];rfl
      obtain ⟨x,hx,hone⟩:=H1.out HME.out
      have HPC : Hid (Rd.pcs d.dt X (Rd.nums ps) 1 = [x]):=(Rd.pcs_raw (by omega) (by omega)).trans hx
      have HON:=Lib.hid hone
      clear hx hone
      go_wp2_with (first
       | (go_at_call 54;refine (HON.out _ (HLw.out.below HB.out (Nat.le_refl _))).mono ?_;rintro e w2 ⟨rfl,B2⟩;have HB2:=Lib.hid (HB.out.trans (B2.mono hbs));have HO2:=Lib.hid (own_below HO.out B2 (Nat.le_refl _));have hs2:=B2.size;clear B2)
       | (at_builtin;refine wpList_append_own _ rfl (.tmp 25) (.tmp 29) _ rfl w1.heap.size 9 i0 _ 1 16 Tryz.underlying45 hi hz0 hz1 hz2 rfl (by decide) _ _ (svs (Rd.wds d.dt X ps).1) rfl (HO2.out.alloc _) ⟨w2.heap.size,0,none⟩ 1 1 [sv x] rfl rfl ?c1 ?c2 ?c3 ?c4 ?c5 (fun v' w4 hown1 hg1 _=>?_)))
      case c1=>exact cell_one_new _ _ _
      case c2=>simp [Value.oneCell']
      case c3=>unfold maxLen;omega
      case c4=>omega
      case c5=>simp;omega
      go_roundw
      case rel=>exact ⟨k + 1,by go_num,by omega,by rw [HTK.out,HNU.out],by rw [HTK.out,Rd.wds_snoc,HPC.out,List.length_append,svs_append];exact hown1,(HB2.out.alloc (by omega) _).grown hg1 (by simp;omega) (fun j hj=>(HO2.out.lt j hj).1)⟩
      case measure=>simp [intOf];omega
    by_cases p2 : p = 2
    · subst p2
      obtain rfl : q = 2:=HQ.out.symm
      have HNU : Hid (Rd.nums (ps ++ [2]) = Rd.nums ps):=by rw [Hid,Rd.nums_snoc,if_neg (by omega)];rfl
      obtain ⟨x,hx,hone⟩:=H2.out HME.out
      have HPC : Hid (Rd.pcs d.dt X (Rd.nums ps) 2 = [x]):=(Rd.pcs_raw (by omega) (by omega)).trans hx
      have HON:=Lib.hid hone
      clear hx hone
      go_wp2_with (first
       | (go_at_call 55;refine (HON.out _ (HLw.out.below HB.out (Nat.le_refl _))).mono ?_;rintro e w2 ⟨rfl,B2⟩;have HB2:=Lib.hid (HB.out.trans (B2.mono hbs));have HO2:=Lib.hid (own_below HO.out B2 (Nat.le_refl _));have hs2:=B2.size;clear B2)
       | (at_builtin;refine wpList_append_own _ rfl (.tmp 33) (.tmp 37) _ rfl w1.heap.size 9 i0 _ 1 16 Tryz.underlying45 hi hz0 hz1 hz2 rfl (by decide) _ _ (svs (Rd.wds d.dt X ps).1) rfl (HO2.out.alloc _) ⟨w2.heap.size,0,none⟩ 1 1 [sv x] rfl rfl ?c1 ?c2 ?c3 ?c4 ?c5 (fun v' w4 hown1 hg1 _=>?_)))
      case c1=>exact cell_one_new _ _ _
      case c2=>simp [Value.oneCell']
      case c3=>unfold maxLen;omega
      case c4=>omega
      case c5=>simp;omega
      go_roundw
      case rel=>exact ⟨k + 1,by go_num,by omega,by rw [HTK.out,HNU.out],by rw [HTK.out,Rd.wds_snoc,HPC.out,List.length_append,svs_append];exact hown1,(HB2.out.alloc (by omega) _).grown hg1 (by simp;omega) (fun j hj=>(HO2.out.lt j hj).1)⟩
      case measure=>simp [intOf];omega
    by_cases p3 : p = 3
    · subst p3
      obtain rfl : q = 3:=HQ.out.symm
      have HNU : Hid (Rd.nums (ps ++ [3]) = Rd.nums ps):=by rw [Hid,Rd.nums_snoc,if_neg (by omega)];rfl
      have HON:=Lib.hid (H3.out HME.out)
      have HPC : Hid (Rd.pcs d.dt X (Rd.nums ps) 3 = X 3):=Rd.pcs_raw (by omega) (by omega)
      have hxl:=HXL.out 3
      go_wp2_with (first
       | (go_at_call 56;refine (HON.out _ (HLw.out.below (HB.out) (Nat.le_refl _))).mono ?_;rintro e w2 ⟨v2,rfl,O2,B2⟩;have HB2:=Lib.hid (HB.out.trans (B2.mono hbs));have HO2:=Lib.hid (own_below HO.out B2 (Nat.le_refl _));have hs2:=B2.size;clear B2;have HV2:=Lib.hid O2;have HRD:=Lib.hid (Rd.of_own O2);clear O2)
       | (at_builtin;refine wpList_append_rd rfl (.tmp 41) (.tmp 44) _ rfl w1.heap.size 9 i0 _ Tryz.underlying45 hi hz0 hz1 hz2 rfl _ _ (svs (Rd.wds d.dt X ps).1) rfl HO2.out w2.heap.size v2 (X 3) rfl HRD.out (fun e=>nil_form HV2.out e) (by omega) (by omega) (fun v' w4 hown1 hg1=>?_)))
      go_roundw
      case rel=>exact ⟨k + 1,by go_num,by omega,by rw [HTK.out,HNU.out],by rw [HTK.out,Rd.wds_snoc,HPC.out,List.length_append,svs_append];exact hown1,HB2.out.grown hg1 (by omega) (fun j hj=>(HO2.out.lt j hj).1)⟩
      case measure=>simp [intOf];omega
    by_cases p4 : p = 4
    · subst p4
      obtain rfl : q = 4:=HQ.out.symm
      have HNU : Hid (Rd.nums (ps ++ [4]) = Rd.nums ps):=by rw [Hid,Rd.nums_snoc,if_neg (by omega)];rfl
      have HON:=Lib.hid (H4.out HME.out)
      have HPC : Hid (Rd.pcs d.dt X (Rd.nums ps) 4 = X 4):=Rd.pcs_raw (by omega) (by omega)
      have hxl:=HXL.out 4
      go_wp2_with (first
       | (go_at_call 57;refine (HON.out _ (HLw.out.below (HB.out) (Nat.le_refl _))).mono ?_;rintro e w2 ⟨v2,rfl,O2,B2⟩;have HB2:=Lib.hid (HB.out.trans (B2.mono hbs));have HO2:=Lib.hid (own_below HO.out B2 (Nat.le_refl _));have hs2:=B2.size;clear B2;have HV2:=Lib.hid O2;have HRD:=Lib.hid (Rd.of_own O2);clear O2)
       | (at_builtin;refine wpList_append_rd rfl (.tmp 48) (.tmp 51) _ rfl w1.heap.size 9 i0 _ Tryz.underlying45 hi hz0 hz1 hz2 rfl _ _ (svs (Rd.wds d.dt X ps).1) rfl HO2.out w2.heap.size v2 (X 4) rfl HRD.out (fun e=>nil_form HV2.out e) (by omega) (by omega) (fun v' w4 hown1 hg1=>?_)))
      go_roundw
      case rel=>exact ⟨k + 1,by go_num,by omega,by rw [HTK.out,HNU.out],by rw [HTK.out,Rd.wds_snoc,HPC.out,List.length_append,svs_append];exact hown1,HB2.out.grown hg1 (by omega) (fun j hj=>(HO2.out.lt j hj).1)⟩
      case measure=>simp [intOf];omega
    by_cases p5 : p = 5
    · subst p5
      obtain rfl : q = 5:=HQ.out.symm
      have HNU : Hid (Rd.nums (ps ++ [5]) = Rd.nums ps):=by rw [Hid,Rd.nums_snoc,if_neg (by omega)];rfl
      obtain ⟨x,hx⟩ : ∃ x,Nm.text d.host.data.toList = x:=⟨_,rfl⟩
      have HPC : Hid (Rd.pcs d.dt X (Rd.nums ps) 5 = [x]):=by rw [← hx];rfl
      have HON:=Lib.hid (fun W : World=>Text_any d.host W hh)
      rw [hx] at HON
      clear hx
      go_wp2_with (first
       | (go_at_call 30;refine (HON.out _).mono ?_;rintro e w2 ⟨rfl,B2⟩;have HB2:=Lib.hid (HB.out.trans (B2.mono hbs));have HO2:=Lib.hid (own_below HO.out B2 (Nat.le_refl _));have hs2:=B2.size;clear B2)
       | (at_builtin;refine wpList_append_own _ rfl (.tmp 56) (.tmp 60) _ rfl w1.heap.size 9 i0 _ 1 16 Tryz.underlying45 hi hz0 hz1 hz2 rfl (by decide) _ _ (svs (Rd.wds d.dt X ps).1) rfl (HO2.out.alloc _) ⟨w2.heap.size,0,none⟩ 1 1 [sv x] rfl rfl ?c1 ?c2 ?c3 ?c4 ?c5 (fun v' w4 hown1 hg1 _=>?_)))
      case c1=>exact cell_one_new _ _ _
      case c2=>simp [Value.oneCell']
      case c3=>unfold maxLen;omega
      case c4=>omega
      case c5=>simp;omega
      go_roundw
      case rel=>exact ⟨k + 1,by go_num,by omega,by rw [HTK.out,HNU.out],by rw [HTK.out,Rd.wds_snoc,HPC.out,List.length_append,svs_append];exact hown1,(HB2.out.alloc (by omega) _).grown hg1 (by simp;omega) (fun j hj=>(HO2.out.lt j hj).1)⟩
      case measure=>simp [intOf];omega
    by_cases p6 : p = 6
    · subst p6
      obtain rfl : q = 6:=HQ.out.symm
      have HNU : Hid (Rd.nums (ps ++ [6]) = Rd.nums ps):=by rw [Hid,Rd.nums_snoc,if_neg (by omega)];rfl
      obtain ⟨x,hx⟩ : ∃ x,Nm.text d.host.data.toList = x:=⟨_,rfl⟩
      have HPC : Hid (Rd.pcs d.dt X (Rd.nums ps) 6 = [x]):=by rw [← hx];rfl
      have HON:=Lib.hid (fun W : World=>Text_any d.host W hh)
      rw [hx] at HON
      clear hx
      go_wp2_with (first
       | (go_at_call 30;refine (HON.out _).mono ?_;rintro e w2 ⟨rfl,B2⟩;have HB2:=Lib.hid (HB.out.trans (B2.mono hbs));have HO2:=Lib.hid (own_below HO.out B2 (Nat.le_refl _));have hs2:=B2.size;clear B2)
       | (at_builtin;refine wpList_append_own _ rfl (.tmp 56) (.tmp 60) _ rfl w1.heap.size 9 i0 _ 1 16 Tryz.underlying45 hi hz0 hz1 hz2 rfl (by decide) _ _ (svs (Rd.wds d.dt X ps).1) rfl (HO2.out.alloc _) ⟨w2.heap.size,0,none⟩ 1 1 [sv x] rfl rfl ?c1 ?c2 ?c3 ?c4 ?c5 (fun v' w4 hown1 hg1 _=>?_)))
      case c1=>exact cell_one_new _ _ _
      case c2=>simp [Value.oneCell']
      case c3=>unfold maxLen;omega
      case c4=>omega
      case c5=>simp;omega
      go_roundw
      case rel=>exact ⟨k + 1,by go_num,by omega,by rw [HTK.out,HNU.out],by rw [HTK.out,Rd.wds_snoc,HPC.out,List.length_append,svs_append];exact hown1,(HB2.out.alloc (by omega) _).grown hg1 (by simp;omega) (fun j hj=>(HO2.out.lt j hj).1)⟩
      case measure=>simp [intOf];omega
    by_cases p7 : p = 7
    · subst p7
      obtain rfl : q = 7:=HQ.out.symm
      have HNU : Hid (Rd.nums (ps ++ [7]) = Rd.nums ps):=by rw [Hid,Rd.nums_snoc,if_neg (by omega)];rfl
      obtain ⟨x,hx⟩ : ∃ x,Nm.text d.mail.data.toList = x:=⟨_,rfl⟩
      have HPC : Hid (Rd.pcs d.dt X (Rd.nums ps) 7 = [x]):=by rw [← hx];rfl
      have HON:=Lib.hid (fun W : World=>Text_any d.mail W hm)
      rw [hx] at HON
      clear hx
      go_wp2_with (first
       | (go_at_call 30;refine (HON.out _).mono ?_;rintro e w2 ⟨rfl,B2⟩;have HB2:=Lib.hid (HB.out.trans (B2.mono hbs));have HO2:=Lib.hid (own_below HO.out B2 (Nat.le_refl _));have hs2:=B2.size;clear B2)
       | (at_builtin;refine wpList_append_own _ rfl (.tmp 64) (.tmp 68) _ rfl w1.heap.size 9 i0 _ 1 16 Tryz.underlying45 hi hz0 hz1 hz2 rfl (by decide) _ _ (svs (Rd.wds d.dt X ps).1) rfl (HO2.out.alloc _) ⟨w2.heap.size,0,none⟩ 1 1 [sv x] rfl rfl ?c1 ?c2 ?c3 ?c4 ?c5 (fun v' w4 hown1 hg1 _=>?_)))
      case c1=>exact cell_one_new _ _ _
      case c2=>simp [Value.oneCell']
      case c3=>unfold maxLen;omega
      case c4=>omega
      case c5=>simp;omega
      go_roundw
      case rel=>exact ⟨k + 1,by go_num,by omega,by rw [HTK.out,HNU.out],by rw [HTK.out,Rd.wds_snoc,HPC.out,List.length_append,svs_append];exact hown1,(HB2.out.alloc (by omega) _).grown hg1 (by simp;omega) (fun j hj=>(HO2.out.lt j hj).1)⟩
      case measure=>simp [intOf];omega
    have hq:=HQ.out
    have hn4 : Rd.nums ps < 5:=by rw [Rd.nums_snoc,if_pos (by omega)] at hn5;omega
    have HNU : Hid (Rd.nums (ps ++ [p]) = Rd.nums ps + 1):=by rw [Hid,Rd.nums_snoc,if_pos (by omega)]
    have cn:=dv_n H4D.out hn4
    have hx4 : d.n (Rd.nums ps) ≤ 4294967295:=HF.out _
    have hni : ((Rd.nums ps : Nat) : Int) < 5:=by omega
    have hnj : (0 : Int) ≤ ((Rd.nums ps : Nat) : Int):=by omega
    obtain ⟨x,hx⟩ : ∃ x,Rd.dec (d.n (Rd.nums ps)) = x:=⟨_,rfl⟩
    have HON:=Lib.hid (fun (W : World) h=>fmtU_any (d.n (Rd.nums ps)) W (by omega) h)
    have hpc : Rd.pcs d.dt X (Rd.nums ps) p = [x]:=by
     unfold Rd.pcs
     rw [if_neg (by omega),if_neg (by omega),if_neg (by omega),if_pos (by omega),rd_hasN3 d hn4,hx]
    have HPC:=Lib.hid hpc
    rw [hx] at HON
    clear hx hpc
    generalize d.n (Rd.nums ps) = y at *
    rcases (by omega : (p = 8 ∧ q = 8) ∨ (p = 9 ∧ q = 9)) with ⟨rfl,rfl⟩ | ⟨rfl,rfl⟩
    · clear hq
      go_wp2_with (first
       | (go_at_call 34;refine (HON.out _ (HLw.out.below HB.out (Nat.le_refl _)).2.1).mono ?_;rintro e w2 ⟨rfl,B2⟩;have HB2:=Lib.hid (HB.out.trans (B2.mono hbs));have HO2:=Lib.hid (own_below HO.out B2 (Nat.le_refl _));have hs2:=B2.size;clear B2)
       | (at_builtin;refine wpList_append_own _ rfl (.tmp 73) (.tmp 80) _ rfl w1.heap.size 9 i0 _ 1 16 Tryz.underlying45 hi hz0 hz1 hz2 rfl (by decide) _ _ (svs (Rd.wds d.dt X ps).1) rfl (HO2.out.alloc _) ⟨w2.heap.size,0,none⟩ 1 1 [sv x] rfl rfl ?c1 ?c2 ?c3 ?c4 ?c5 (fun v' w4 hown1 hg1 _=>?_)))
      case c1=>exact cell_one_new _ _ _
      case c2=>simp [Value.oneCell']
      case c3=>unfold maxLen;omega
      case c4=>omega
      case c5=>simp;omega
      go_roundw
      case rel=>exact ⟨k + 1,by go_num,by omega,by rw [HTK.out,HNU.out];go_num,by rw [HTK.out,Rd.wds_snoc,HPC.out,List.length_append,svs_append];exact hown1,(HB2.out.alloc (by omega) _).grown hg1 (by simp;omega) (fun j hj=>(HO2.out.lt j hj).1)⟩
      case measure=>simp [intOf];omega
    · clear hq
      go_wp2_with (first
       | (go_at_call 34;refine (HON.out _ (HLw.out.below HB.out (Nat.le_refl _)).2.1).mono ?_;rintro e w2 ⟨rfl,B2⟩;have HB2:=Lib.hid (HB.out.trans (B2.mono hbs));have HO2:=Lib.hid (own_below HO.out B2 (Nat.le_refl _));have hs2:=B2.size;clear B2)
       | (at_builtin;refine wpList_append_own _ rfl (.tmp 73) (.tmp 80) _ rfl w1.heap.size 9 i0 _ 1 16 Tryz.underlying45 hi hz0 hz1 hz2 rfl (by decide) _ _ (svs (Rd.wds d.dt X ps).1) rfl (HO2.out.alloc _) ⟨w2.heap.size,0,none⟩ 1 1 [sv x] rfl rfl ?c1 ?c2 ?c3 ?c4 ?c5 (fun v' w4 hown1 hg1 _=>?_)))
      case c1=>exact cell_one_new _ _ _
      case c2=>simp [Value.oneCell']
      case c3=>unfold maxLen;omega
      case c4=>omega
      case c5=>simp;omega
      go_roundw
      case rel=>exact ⟨k + 1,by go_num,by omega,by rw [HTK.out,HNU.out];go_num,by rw [HTK.out,Rd.wds_snoc,HPC.out,List.length_append,svs_append];exact hown1,(HB2.out.alloc (by omega) _).grown hg1 (by simp;omega) (fun j hj=>(HO2.out.lt j hj).1)⟩
      case measure=>simp [intOf];omega
  · obtain rfl : k = 7:=by omega
    have hall : (Rd.parts t).take 7 = Rd.parts t:=List.take_of_length_le (by rw [Rd.parts_len];omega)
    rw [hall] at HO
    have hwl : (Rd.wds d.dt X ((Rd.parts t).take 7)).1.length ≤ 100001 * 7:=wds_len HXL.out t 7
    rw [hall] at hwl
    clear hall
    have HJ:=HJL.out
    obtain ⟨ws,hws⟩ : ∃ ws,(Rd.wds d.dt X (Rd.parts t)).1 = ws:=⟨_,rfl⟩
    rw [hws] at HO HNE HJ hwl HRES
    have HJ2:=Lib.hid HJ
    clear hws HJL HJ
    obtain ⟨g,cp,rfl,hcp,hg1,hg2⟩:=own_pos HO.out (by have:=HNE.out;cases ws with | nil=>exact absurd rfl this | cons a b=>simp)
    have HJN:=Lib.hid (join_words HO.out hg2 hcp (by omega) HJ2.out)
    go_wp2_with (go_at_call 29;refine HJN.out.mono ?_;rintro e w3 ⟨rfl,B3⟩)
    go_ret2
    exact ⟨by rw [← HRES.out];rfl,HB0.out.trans ((HB.out.mono (by omega)).trans (B3.mono (by omega)))⟩
end Go.Proofs.YtekafhogiambaaaGreatDoor
