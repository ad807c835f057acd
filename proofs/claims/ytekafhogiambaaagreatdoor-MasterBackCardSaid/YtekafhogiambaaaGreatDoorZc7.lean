/- Texts of the proofs, merged. -/
import Derived.Test.YtekafhogiambaaaGreatDoorZc5
import Derived.Test.YtekafhogiambaaaGreatDoorZc1
import Derived.Test.YtekafhogiambaaaGreatDoorZc6
import Derived.Lib.ConvBytes
import Derived.Lib.ParseIntB
import Derived.Test.YtekafhogiambaaaGreatDoorZc3
import Derived.WalkKit
import Derived.Test.YtekafhogiambaaaGreatDoorZc4
import Derived.Test.YtekafhogiambaaaGreatDoorZc2
import Derived.Lib.AppendIntMem
set_option maxRecDepth 100000
namespace Go.Proofs.YtekafhogiambaaaGreatDoor
open Go.RowKit Go.Lib
def Lay (w : World) : Prop:=(∃ tp p,w.cell? ⟨5,0,none⟩ = some (.iface tp p)) ∧ (∃ tp p,w.cell? ⟨6,0,none⟩ = some (.iface tp p))
def layTop : Nat:=Nat.max 5 6 + 1
theorem Lay.below {w w' : World} {B : Nat} (h : Lay w) (hb : Below B w w') (hB : layTop ≤ B) : Lay w':=by
 obtain ⟨⟨a,b,c⟩,d,e,f⟩:=h
 exact ⟨⟨a,b,(hb.cell (p:=⟨5,0,none⟩) (Nat.lt_of_lt_of_le (show 5 < layTop by decide) hB)).trans c⟩,d,e,(hb.cell (p:=⟨6,0,none⟩) (Nat.lt_of_lt_of_le (show 6 < layTop by decide) hB)).trans f⟩
theorem Lay.size {w : World} (h : Lay w) : layTop ≤ w.heap.size:=by
 obtain ⟨⟨_,_,c⟩,d,e,f⟩:=h
 exact Nat.succ_le_of_lt (Nat.max_lt.2 ⟨block_lt_of_cell c,block_lt_of_cell f⟩)
theorem Lay.drewN {w : World} (h : Lay w) (n : Nat) : Lay (w.drewN n):=h
theorem Lay.drew {w : World} (h : Lay w) : Lay w.drew:=h
theorem bytesWorld_below (w : World) (e : TypeId) (s : ByteArray) : Below w.heap.size w (Lib.bytesWorld w e s):=⟨rfl,rfl,rfl,by rw [Lib.bytesWorld_size];omega,fun j hj=>Lib.bytesWorld_at_old w e s j hj⟩
theorem parse3 (a b c : UInt8) (h : Nm.dg a ∧ Nm.dg b ∧ Nm.dg c ∧ Nm.val3 a b c ≤ 255) : Lib.parseUintB 8 [a,b,c] = .ok (Nm.val3 a b c):=by
 obtain ⟨⟨a1,a2⟩,⟨b1,b2⟩,⟨c1,c2⟩,hv⟩:=h
 unfold Nm.val3 at *
 unfold Lib.parseUintB
 rw [if_neg (by simp)]
 simp only [Lib.parseUintM]
 rw [if_pos ⟨a1,a2⟩,if_neg (by omega),if_neg (by omega),if_pos ⟨b1,b2⟩,if_neg (by omega),if_neg (by omega),if_pos ⟨c1,c2⟩,if_neg (by omega),if_neg (by omega)]
 congr 1;omega
theorem parse3_no (a b c : UInt8) (h : ¬ (Nm.dg a ∧ Nm.dg b ∧ Nm.dg c ∧ Nm.val3 a b c ≤ 255)) : Lib.parseUintB 8 [a,b,c] = Lib.parseUintB 8 [] ∨ Lib.parseUintB 8 [a,b,c] = .range:=by
 unfold Lib.parseUintB
 rw [if_neg (by simp)]
 simp only [Lib.parseUintM]
 by_cases ha : 48 ≤ a.toNat ∧ a.toNat ≤ 57
 · rw [if_pos ha,if_neg (by omega),if_neg (by omega)]
   by_cases hb : 48 ≤ b.toNat ∧ b.toNat ≤ 57
   · rw [if_pos hb,if_neg (by omega),if_neg (by omega)]
     by_cases hc : 48 ≤ c.toNat ∧ c.toNat ≤ 57
     · rw [if_pos hc,if_neg (by omega),if_pos ?_]
       · exact .inr rfl
       · have : ¬ Nm.val3 a b c ≤ 255:=fun hv=>h ⟨ha,hb,hc,hv⟩
         unfold Nm.val3 at this;omega
     · rw [if_neg hc];exact .inl rfl
   · rw [if_neg hb];exact .inl rfl
 · rw [if_neg ha];exact .inl rfl
theorem uint3_ok (s : ByteArray) (a b c : UInt8) (w : World) (hs : s.data.toList = [a,b,c]) (h : Nm.dg a ∧ Nm.dg b ∧ Nm.dg c ∧ Nm.val3 a b c ≤ 255) :
 Calls Tryz.prog 91 #[.string s,.int .i64 10,.int .i64 8] w fun e w' => e = .returned (.tuple #[.int .u64 (Nm.val3 a b c : Nat),.nilIface]) ∧ Below w.heap.size w w':=by
 have hz : s.size = 3:=by have:=congrArg List.length hs;simpa using this
 refine (Tryz.strconv_ParseUint_10_at8_ok s (by omega) _ (by rw [hs];exact parse3 a b c h) w).mono ?_
 rintro e w' ⟨rfl,rfl | rfl⟩
 · exact ⟨rfl,Below.refl _ _⟩
 · exact ⟨rfl,bytesWorld_below _ _ _⟩
theorem uint3_no (s : ByteArray) (a b c : UInt8) (w : World) (hL : Lay w) (hs : s.data.toList = [a,b,c]) (h : ¬ (Nm.dg a ∧ Nm.dg b ∧ Nm.dg c ∧ Nm.val3 a b c ≤ 255)) :
 Calls Tryz.prog 91 #[.string s,.int .i64 10,.int .i64 8] w fun e w' => ∃ x t a,e = .returned (.tuple #[.int .u64 x,.iface t (.pointer (some a))]) ∧ Below w.heap.size w w':=by
 have hz : s.size = 3:=by have:=congrArg List.length hs;simpa using this
 obtain ⟨⟨t1,p1,h1⟩,t2,p2,h2⟩:=hL
 rcases parse3_no a b c h with hp | hp
 · refine (Tryz.strconv_ParseUint_10_at8_syntax s (by omega) (by rw [hs];exact hp) _ w h1 (.inr ⟨_,_,rfl⟩)).mono ?_
   rintro e w' ⟨N,rfl,_,_,hb⟩
   exact ⟨_,_,_,rfl,hb⟩
 · refine (Tryz.strconv_ParseUint_10_at8_range s (by omega) (by rw [hs];exact hp) _ w h2 (.inr ⟨_,_,rfl⟩)).mono ?_
   rintro e w' ⟨N,rfl,_,_,hb⟩
   exact ⟨_,_,_,rfl,hb⟩
theorem empty_yes {s : ByteArray} (h : s.size = 0) : s.toList.isEmpty = true:=by
 rw [toList_data,List.isEmpty_iff];exact List.eq_nil_of_length_eq_zero (by simpa using h)
theorem empty_no {s : ByteArray} (h : s.size ≠ 0) : s.toList.isEmpty = false:=by
 rw [toList_data]
 rcases hs : s.data.toList with _ | ⟨c,t⟩
 · exact absurd (by have:=congrArg List.length hs;simpa using this) h
 · rfl
def escR (l : List UInt8) : Value:=match Nm.escd l with
 | none=>.tuple #[.int .u8 0,.int .i64 0]
 | some (b,k)=>.tuple #[.int .u8 (b.toNat : Nat),.int .i64 (k : Nat)]
theorem escR_none {l : List UInt8} (h : Nm.escd l = none) : escR l = .tuple #[.int .u8 0,.int .i64 0]:=by unfold escR;rw [h]
theorem escR_some {l : List UInt8} {b : UInt8} {k : Nat} (h : Nm.escd l = some (b,k)) : escR l = .tuple #[.int .u8 (b.toNat : Nat),.int .i64 (k : Nat)]:=by unfold escR;rw [h]
theorem at_list (s : ByteArray) (k : Nat) (h : k < s.size) : s.data.toList[k]'(by simpa using h) = s[k]:=rfl
set_option maxHeartbeats 1000000 in
theorem escaped_any (s : ByteArray) (w : World) (hL : Lay w) (hs : s.size ≤ 140737488355328) :
 Calls Tryz.prog 152 #[.string s] w fun e w' => e = .returned (escR s.data.toList) ∧ Below w.heap.size w w':=by
 rcases hl : s.data.toList with _ | ⟨c,t⟩
 · have hz : s.size = 0:=by have:=congrArg List.length hl;simpa using this
   have h1:=empty_yes hz
   have hr:=escR_none (l := []) rfl
   rw [hr]
   clear hr hz hl
   go_enter Tryz.func152,Tryz.ntmps152
   go_wp2
   go_ret2
   exact ⟨rfl,Below.refl _ _⟩
 · have hz : s.size = t.length + 1:=by have:=congrArg List.length hl;simpa using this
   have h1:=empty_no (s:=s) (by omega)
   have h1' : (!s.toList.isEmpty) = true:=by rw [h1];rfl
   have hpos : 0 < s.size:=by omega
   have hc0 : s[0] = c:=by rw [← at_list s 0 hpos];simp only [hl,List.getElem_cons_zero]
   have h8:=c.toNat_lt
   have HL:=Lib.hid hl
   by_cases hd : Nm.dg c
   · have hd1:=hd.1
     have hd2:=hd.2
     by_cases h3 : s.size < 3
     · have hr : escR (c :: t) = .tuple #[.int .u8 0,.int .i64 0]:=by
        apply escR_none
        exact Nm.escd_few hd (by omega)
       rw [hr]
       clear hr hl hz
       go_enter Tryz.func152,Tryz.ntmps152
       go_wp2
       go_ret2
       exact ⟨rfl,Below.refl _ _⟩
     · obtain ⟨d,e,r,rfl⟩ : ∃ d e r,t = d :: e :: r:=by
        match t,hz with
        | [],hz=>simp at hz;omega
        | [d],hz=>simp at hz;omega
        | d :: e :: r,hz=>exact ⟨d,e,r,rfl⟩
       have hx : (s.extract 0 3).data.toList = [c,d,e]:=by rw [extract_list,hl];rfl
       have HX:=Lib.hid hx
       by_cases hok : Nm.dg c ∧ Nm.dg d ∧ Nm.dg e ∧ Nm.val3 c d e ≤ 255
       · have hv : Nm.val3 c d e ≤ 255:=hok.2.2.2
         have hr : escR (c :: d :: e :: r) = .tuple #[.int .u8 ((Nm.val3 c d e : Nat) : Int),.int .i64 3]:=by
          rw [escR_some (b:=UInt8.ofNat (Nm.val3 c d e)) (k:=3) (by rw [Nm.escd_three hd];exact if_pos ⟨hok.2.1,hok.2.2.1,hv⟩)]
          have : (UInt8.ofNat (Nm.val3 c d e)).toNat = Nm.val3 c d e:=by simp;omega
          rw [this];rfl
         rw [hr]
         have HC:=Lib.hid (uint3_ok (s.extract 0 3) c d e w hx hok)
         clear hr hl hz hx hok
         generalize Nm.val3 c d e = v at *
         go_enter Tryz.func152,Tryz.ntmps152
         go_wp2_with (first | (go_at_call 91;refine HC.out.mono ?_;rintro e1 w1 ⟨rfl,hb1⟩))
         go_ret2
         exact ⟨rfl,hb1⟩
       · have hr : escR (c :: d :: e :: r) = .tuple #[.int .u8 0,.int .i64 0]:=by
          apply escR_none
          rw [Nm.escd_three hd]
          exact if_neg (fun h=>hok ⟨hd,h.1,h.2.1,h.2.2⟩)
         rw [hr]
         have HC:=Lib.hid (uint3_no (s.extract 0 3) c d e w hL hx hok)
         clear hr hl hz hx hok
         go_enter Tryz.func152,Tryz.ntmps152
         go_wp2_with (first | (go_at_call 91;refine HC.out.mono ?_;rintro e1 w1 ⟨x,tt,aa,rfl,hb1⟩))
         go_ret2
         exact ⟨rfl,hb1⟩
   · have hr : escR (c :: t) = .tuple #[.int .u8 (c.toNat : Nat),.int .i64 1]:=by
      apply escR_some
      exact Nm.escd_plain hd
     rw [hr]
     have hd' : c.toNat < 48 ∨ 57 < c.toNat:=by unfold Nm.dg at hd;omega
     clear hr hl hz hd
     rcases hd' with hd | hd
     · go_enter Tryz.func152,Tryz.ntmps152
       go_wp2
       go_ret2
       exact ⟨rfl,Below.refl _ _⟩
     · go_enter Tryz.func152,Tryz.ntmps152
       go_wp2
       go_ret2
       exact ⟨rfl,Below.refl _ _⟩
def unR (l : List UInt8) : Value:=match Nm.unesc l with
 | none=>.tuple #[.string ⟨#[]⟩,.int .i64 12]
 | some r=>.tuple #[sv r,.int .i64 0]
def Sofar (l : List UInt8) (k : Nat) (out : List UInt8) : Prop:=k ≤ l.length ∧ out.length ≤ k ∧ Nm.unesc l = (Nm.unesc (l.drop k)).map (out ++ ·)
theorem Sofar.zero (l : List UInt8) : Sofar l 0 []:=⟨Nat.zero_le _,by simp,by simp⟩
theorem Sofar.plain {l : List UInt8} {k : Nat} {out : List UInt8} (h : Sofar l k out) (hk : k < l.length) (hc : (l[k]).toNat ≠ 92) : Sofar l (k + 1) (out ++ [l[k]]):=by
 refine ⟨hk,by have:=h.2.1;simp;omega,?_⟩
 rw [h.2.2,Nm.drop_cons hk,Nm.unesc_plain hc]
 rcases Nm.unesc (l.drop (k + 1)) with _ | r <;> simp
theorem Sofar.yes {l : List UInt8} {k : Nat} {out : List UInt8} {b : UInt8} {n : Nat} (h : Sofar l k out) (hk : k < l.length) (hc : (l[k]).toNat = 92) (he : Nm.escd (l.drop (k + 1)) = some (b,n)) : Sofar l (k + 1 + n) (out ++ [b]):=by
 have hp:=Nm.escd_pos he
 simp at hp
 refine ⟨by omega,by have:=h.2.1;simp;omega,?_⟩
 rw [h.2.2,Nm.drop_cons hk,Nm.unesc_yes hc he,List.drop_drop]
 rcases Nm.unesc (l.drop (k + 1 + n)) with _ | r <;> simp
theorem Sofar.no {l : List UInt8} {k : Nat} {out : List UInt8} (h : Sofar l k out) (hk : k < l.length) (hc : (l[k]).toNat = 92) (he : Nm.escd (l.drop (k + 1)) = none) : unR l = .tuple #[.string ⟨#[]⟩,.int .i64 12]:=by
 unfold unR
 rw [h.2.2,Nm.drop_cons hk,Nm.unesc_no hc he];rfl
theorem Sofar.done {l : List UInt8} {out : List UInt8} (h : Sofar l l.length out) : unR l = .tuple #[sv out,.int .i64 0]:=by
 unfold unR
 rw [h.2.2,List.drop_length,Nm.unesc_nil];simp
set_option maxHeartbeats 1000000 in
theorem Bytes_any (s : ByteArray) (w : World) (hL : Lay w) (hs : s.size ≤ 140737488355328) :
 Calls Tryz.prog 134 #[.string s] w fun e w' => e = .returned (unR s.data.toList) ∧ Below w.heap.size w w':=by
 obtain ⟨i0,hi,hz0,hz1,hz2⟩:=info_parts Tryz.infoByte
 have h3:=hL.size
 have HL:=Lib.hid hL
 have hsz : s.data.toList.length = s.size:=by simp
 have HSZ:=Lib.hid hsz
 clear hL hsz
 go_enter Tryz.func134,Tryz.ntmps134
 go_wp2_with (first | (at_make;refine wpList_make_own _ rfl _ _ 51 rfl w.heap.size 5 i0 _ 1 Tryz.underlying51 hi hz0 hz1 .i64 .i64 s.size s.size rfl rfl rfl (by rw [hz2];omega) (by unfold maxLen;omega) (Nat.le_refl _) ?_;intro w1 hown1 hg1))
 go_loopw [4,5] (fun v i wr => ∃ k : Nat, ∃ out,i = .int .i64 k ∧ Sofar s.data.toList k out ∧ wr.ownsRow w.heap.size 5 1 v out.length (bv out) ∧ Below w.heap.size w wr) (fun _ i _=>s.size - (RowKit.intOf i).toNat)
 case atStart=>exact ⟨0, [],rfl,Sofar.zero _,hown1,(Below.refl _ _).grown hg1 (Nat.le_refl _) (by simp)⟩
 case round =>
  obtain ⟨k,out,rfl,hso,hown,hb⟩:=hrel
  have hk:=hso.1
  have hol:=hso.2.1
  rw [HSZ.out] at hk
  have HS:=Lib.hid hso
  have HO:=Lib.hid hown
  have HB:=Lib.hid hb
  have hbs:=hb.size
  have HL1:=Lib.hid (HL.out.below hb h3)
  clear hso hown hb hown1 hg1
  by_cases hlt : k < s.size
  · have hlt' : k < s.data.toList.length:=by rw [HSZ.out];exact hlt
    have he : s.data.toList[k]'hlt' = s[k]:=rfl
    have HE:=Lib.hid he
    have h8:=s[k].toNat_lt
    clear he
    by_cases h92 : s[k].toNat = 92
    · have h92b : ((s[k].toNat : Int) == 92) = true:=by simp [h92]
      have hx : (s.extract (k + 1) s.size).data.toList = s.data.toList.drop (k + 1):=by rw [extract_list,List.take_of_length_le (by simp)]
      have HC:=Lib.hid (escaped_any (s.extract (k + 1) s.size) wr HL1.out (by simp;omega))
      rw [hx] at HC
      have H92:=Lib.hid h92
      clear h92 hx
      rcases hd : Nm.escd (s.data.toList.drop (k + 1)) with _ | ⟨b,n⟩
      · rw [escR_none hd] at HC
        have HD:=Lib.hid hd
        clear hd
        go_wp2_with (first | (go_at_call 152;refine HC.out.mono ?_;rintro e1 w1 ⟨rfl,hb1⟩))
        go_ret2
        exact ⟨by rw [HS.out.no hlt' H92.out HD.out];rfl,HB.out.trans (hb1.mono hbs)⟩
      · rw [escR_some hd] at HC
        have hp:=Nm.escd_pos hd
        have hnb : k + 1 + n ≤ s.size:=by have:=hp.2;simp at this;omega
        have hn1:=hp.1
        have hnz : ((n : Int) == 0) = false:=beq_eq_false_iff_ne.2 (by omega)
        have HY:=Lib.hid (HS.out.yes hlt' H92.out hd)
        clear hd hp
        have hb8:=b.toNat_lt
        go_wp2_with (first
         | (go_at_call 152;refine HC.out.mono ?_;rintro e1 w1 ⟨rfl,hb1⟩;have HO1:=Lib.hid (own_below HO.out hb1 (Nat.le_refl _));have hbs1:=hb1.size)
         | (at_builtin
            refine wpList_append_own _ rfl (.tmp 37) (.tmp 39) _ rfl w.heap.size 5 i0 _ 1 1 Tryz.underlying51 hi hz0 hz1 hz2 rfl (by decide) _ out.length (bv out) rfl (HO1.out.alloc _) ⟨w1.heap.size,0,none⟩ 1 1 [.int .u8 (b.toNat : Nat)] rfl rfl (cell_one_new _ _ _) (by simp [Value.oneCell']) (by unfold maxLen;omega) (by omega) (by simp;omega) ?_
            intro v2 w2 hown2 hg2 _))
        go_roundw
        case rel =>
         refine ⟨k + 1 + n,out ++ [b],by go_num,HY.out,?_,((HB.out.trans (hb1.mono hbs)).alloc (by omega) _).grown hg2 (by simp;omega) (fun j hj=>(HO1.out.lt j hj).1)⟩
         rw [List.length_append,bv_append];exact hown2
        case measure=>simp [RowKit.intOf];omega
    · have h92b : ((s[k].toNat : Int) == 92) = false:=beq_eq_false_iff_ne.2 (by omega)
      have HP:=Lib.hid (HS.out.plain hlt' h92)
      clear h92
      go_wp2_with (first
       | (at_builtin
          refine wpList_append_own _ rfl (.tmp 37) (.tmp 39) _ rfl w.heap.size 5 i0 _ 1 1 Tryz.underlying51 hi hz0 hz1 hz2 rfl (by decide) _ out.length (bv out) rfl (HO.out.alloc _) ⟨wr.heap.size,0,none⟩ 1 1 [.int .u8 (s[k].toNat : Nat)] rfl rfl (cell_one_new _ _ _) (by simp [Value.oneCell']) (by unfold maxLen;omega) (by omega) (by simp;omega) ?_
          intro v2 w2 hown2 hg2 _))
      go_roundw
      case rel =>
       refine ⟨k + 1,out ++ [s[k]],by go_num,HP.out,?_,(HB.out.alloc hbs _).grown hg2 (by simp;omega) (fun j hj=>(HO.out.lt j hj).1)⟩
       rw [List.length_append,bv_append];exact hown2
      case measure=>simp [RowKit.intOf];omega
  · obtain rfl : k = s.size:=by omega
    have HD:=Lib.hid ((show Sofar s.data.toList s.data.toList.length out by rw [HSZ.out];exact HS.out).done)
    go_wp2_with (refine wpList_convert_own _ rfl 51 9 (.tmp 41) rfl 5 Tryz.underlying51 Tryz.underlying5 Tryz.underlying9 w.heap.size out.length _ out rfl HO.out ?_)
    go_ret2
    exact ⟨by rw [HD.out];rfl,HB.out⟩
end Go.Proofs.YtekafhogiambaaaGreatDoor
namespace Go.Proofs.YtekafhogiambaaaGreatDoor
open Go.RowKit
def rowsCells : Array Value:=#[.int .u16 1,.string ⟨#[65]⟩,.int .u8 1,.int .u8 0,.int .u8 0,.int .u8 0,.int .u8 0,.int .u8 0,.int .u8 0,.int .u16 2,.string ⟨#[78,83]⟩,.int .u8 5,.int .u8 0,.int .u8 0,.int .u8 0,.int .u8 0,.int .u8 0,.int .u8 0,.int .u16 5,.string ⟨#[67,78,65,77,69]⟩,.int .u8 5,.int .u8 0,.int .u8 0,.int .u8 0,.int .u8 0,.int .u8 0,.int .u8 0,.int .u16 6,.string ⟨#[83,79,65]⟩,.int .u8 5,.int .u8 7,.int .u8 9,.int .u8 9,.int .u8 9,.int .u8 9,.int .u8 9,.int .u16 12,.string ⟨#[80,84,82]⟩,.int .u8 5,.int .u8 0,.int .u8 0,.int .u8 0,.int .u8 0,.int .u8 0,.int .u8 0,.int .u16 15,.string ⟨#[77,88]⟩,.int .u8 8,.int .u8 5,.int .u8 0,.int .u8 0,.int .u8 0,.int .u8 0,.int .u8 0,.int .u16 16,.string ⟨#[84,88,84]⟩,.int .u8 3,.int .u8 0,.int .u8 0,.int .u8 0,.int .u8 0,.int .u8 0,.int .u8 0,.int .u16 28,.string ⟨#[65,65,65,65]⟩,.int .u8 2,.int .u8 0,.int .u8 0,.int .u8 0,.int .u8 0,.int .u8 0,.int .u8 0,.int .u16 33,.string ⟨#[83,82,86]⟩,.int .u8 8,.int .u8 8,.int .u8 8,.int .u8 6,.int .u8 0,.int .u8 0,.int .u8 0]
def LayR (w : World) : Prop := ∃ t,Has w 0 t rowsCells
theorem LayR.lt {w : World} (h : LayR w) : 0 < w.heap.size:=h.elim fun _ h=>Has.lt h
theorem LayR.below {w w' : World} {B : Nat} (h : LayR w) (hb : Below B w w') (hB : w.heap.size ≤ B) : LayR w':=h.elim fun t h=>⟨t,h.below hb (Nat.lt_of_lt_of_le h.lt hB)⟩
theorem LayR.cell {w : World} (h : LayR w) (i : Nat) : w.cell? ⟨0,i,none⟩ = rowsCells[i]?:=h.elim fun _ h=>Has.cell h i
def partC (t : Nat) : Array Value:=((Rd.parts t).map fun (p : Nat)=>Value.int .u8 ((p : Nat) : Int)).toArray
def partsV (t : Nat) : Value:=.agg (partC t)
set_option maxHeartbeats 4000000 in
theorem partsOf_any (t : Nat) (w : World) (ht : t ≤ 65535) (hL : LayR w) :
 Calls Tryz.prog 44 #[.int .u16 t] w fun e w' => e = .returned (partsV t) ∧ Below w.heap.size w w':=by
 have HL:=Lib.hid hL
 have hlt:=hL.lt
 have HL2 : Hid (LayR (w.alloc (.cells #[.int .u8 0,.int .u8 0,.int .u8 0,.int .u8 0,.int .u8 0,.int .u8 0,.int .u8 0] 102))):=hL.below ((Below.refl _ _).alloc (Nat.le_refl _) _) (Nat.le_refl _)
 have HN : Hid (Has (w.alloc (.cells #[.int .u8 0,.int .u8 0,.int .u8 0,.int .u8 0,.int .u8 0,.int .u8 0,.int .u8 0] 102)) w.heap.size 102 #[.int .u8 0,.int .u8 0,.int .u8 0,.int .u8 0,.int .u8 0,.int .u8 0,.int .u8 0]):=Has.fresh w _ _
 have HB : Hid (Below w.heap.size w (w.alloc (.cells #[.int .u8 0,.int .u8 0,.int .u8 0,.int .u8 0,.int .u8 0,.int .u8 0,.int .u8 0] 102))):=(Below.refl _ _).alloc (Nat.le_refl _) _
 clear hL
 go_enter Tryz.func44,Tryz.ntmps44
 go_wp2
 generalize hwr : w.alloc (.cells #[.int .u8 0,.int .u8 0,.int .u8 0,.int .u8 0,.int .u8 0,.int .u8 0,.int .u8 0] 102) = wr at HL2 HN HB ⊢
 clear hwr
 refine wp_loop_rounds 10 ?_
 rw [rounds_succ]
 have d0 : wr.cell? ⟨0,0,none⟩ = some (.int .u16 1):=HL2.out.cell 0
 by_cases h0 : t = 1
 · subst h0
   have c0 : wr.cell? ⟨0,2,none⟩ = some (.int .u8 1):=HL2.out.cell 2
   have c1 : wr.cell? ⟨0,3,none⟩ = some (.int .u8 0):=HL2.out.cell 3
   have c2 : wr.cell? ⟨0,4,none⟩ = some (.int .u8 0):=HL2.out.cell 4
   have c3 : wr.cell? ⟨0,5,none⟩ = some (.int .u8 0):=HL2.out.cell 5
   have c4 : wr.cell? ⟨0,6,none⟩ = some (.int .u8 0):=HL2.out.cell 6
   have c5 : wr.cell? ⟨0,7,none⟩ = some (.int .u8 0):=HL2.out.cell 7
   have c6 : wr.cell? ⟨0,8,none⟩ = some (.int .u8 0):=HL2.out.cell 8
   go_wp2_with (refine wpList_store_row rfl 102 (.tmp 2) (.tmp 16) rfl w.heap.size #[.int .u8 1,.int .u8 0,.int .u8 0,.int .u8 0,.int .u8 0,.int .u8 0,.int .u8 0] rfl rfl 102 #[.int .u8 0,.int .u8 0,.int .u8 0,.int .u8 0,.int .u8 0,.int .u8 0,.int .u8 0] HN.out (by kernel_rfl) rfl (by simp [Value.oneCell']) ?_)
   exact bodyPost_ret (v:=.agg #[.int .u8 1,.int .u8 0,.int .u8 0,.int .u8 0,.int .u8 0,.int .u8 0,.int .u8 0]) (results_cell_row rfl _ _ w.heap.size 102 #[.int .u8 1,.int .u8 0,.int .u8 0,.int .u8 0,.int .u8 0,.int .u8 0,.int .u8 0] (0,0) _ rfl (HN.out.row _) Tryz.underlying102 rfl (by kernel_rfl)) rfl ⟨rfl,below_setRow HB.out (Nat.le_refl _) _⟩
 have e0 : ((1 : Int) == (t : Int)) = false:=beq_eq_false_iff_ne.2 (by omega)
 go_wp2
 clear d0 e0
 rw [rounds_succ]
 have d1 : wr.cell? ⟨0,9,none⟩ = some (.int .u16 2):=HL2.out.cell 9
 by_cases h1 : t = 2
 · subst h1
   have c0 : wr.cell? ⟨0,11,none⟩ = some (.int .u8 5):=HL2.out.cell 11
   have c1 : wr.cell? ⟨0,12,none⟩ = some (.int .u8 0):=HL2.out.cell 12
   have c2 : wr.cell? ⟨0,13,none⟩ = some (.int .u8 0):=HL2.out.cell 13
   have c3 : wr.cell? ⟨0,14,none⟩ = some (.int .u8 0):=HL2.out.cell 14
   have c4 : wr.cell? ⟨0,15,none⟩ = some (.int .u8 0):=HL2.out.cell 15
   have c5 : wr.cell? ⟨0,16,none⟩ = some (.int .u8 0):=HL2.out.cell 16
   have c6 : wr.cell? ⟨0,17,none⟩ = some (.int .u8 0):=HL2.out.cell 17
   go_wp2_with (refine wpList_store_row rfl 102 (.tmp 2) (.tmp 16) rfl w.heap.size #[.int .u8 5,.int .u8 0,.int .u8 0,.int .u8 0,.int .u8 0,.int .u8 0,.int .u8 0] rfl rfl 102 #[.int .u8 0,.int .u8 0,.int .u8 0,.int .u8 0,.int .u8 0,.int .u8 0,.int .u8 0] HN.out (by kernel_rfl) rfl (by simp [Value.oneCell']) ?_)
   exact bodyPost_ret (v:=.agg #[.int .u8 5,.int .u8 0,.int .u8 0,.int .u8 0,.int .u8 0,.int .u8 0,.int .u8 0]) (results_cell_row rfl _ _ w.heap.size 102 #[.int .u8 5,.int .u8 0,.int .u8 0,.int .u8 0,.int .u8 0,.int .u8 0,.int .u8 0] (0,0) _ rfl (HN.out.row _) Tryz.underlying102 rfl (by kernel_rfl)) rfl ⟨rfl,below_setRow HB.out (Nat.le_refl _) _⟩
 have e1 : ((2 : Int) == (t : Int)) = false:=beq_eq_false_iff_ne.2 (by omega)
 go_wp2
 clear d1 e1
 rw [rounds_succ]
 have d2 : wr.cell? ⟨0,18,none⟩ = some (.int .u16 5):=HL2.out.cell 18
 by_cases h2 : t = 5
 · subst h2
   have c0 : wr.cell? ⟨0,20,none⟩ = some (.int .u8 5):=HL2.out.cell 20
   have c1 : wr.cell? ⟨0,21,none⟩ = some (.int .u8 0):=HL2.out.cell 21
   have c2 : wr.cell? ⟨0,22,none⟩ = some (.int .u8 0):=HL2.out.cell 22
   have c3 : wr.cell? ⟨0,23,none⟩ = some (.int .u8 0):=HL2.out.cell 23
   have c4 : wr.cell? ⟨0,24,none⟩ = some (.int .u8 0):=HL2.out.cell 24
   have c5 : wr.cell? ⟨0,25,none⟩ = some (.int .u8 0):=HL2.out.cell 25
   have c6 : wr.cell? ⟨0,26,none⟩ = some (.int .u8 0):=HL2.out.cell 26
   go_wp2_with (refine wpList_store_row rfl 102 (.tmp 2) (.tmp 16) rfl w.heap.size #[.int .u8 5,.int .u8 0,.int .u8 0,.int .u8 0,.int .u8 0,.int .u8 0,.int .u8 0] rfl rfl 102 #[.int .u8 0,.int .u8 0,.int .u8 0,.int .u8 0,.int .u8 0,.int .u8 0,.int .u8 0] HN.out (by kernel_rfl) rfl (by simp [Value.oneCell']) ?_)
   exact bodyPost_ret (v:=.agg #[.int .u8 5,.int .u8 0,.int .u8 0,.int .u8 0,.int .u8 0,.int .u8 0,.int .u8 0]) (results_cell_row rfl _ _ w.heap.size 102 #[.int .u8 5,.int .u8 0,.int .u8 0,.int .u8 0,.int .u8 0,.int .u8 0,.int .u8 0] (0,0) _ rfl (HN.out.row _) Tryz.underlying102 rfl (by kernel_rfl)) rfl ⟨rfl,below_setRow HB.out (Nat.le_refl _) _⟩
 have e2 : ((5 : Int) == (t : Int)) = false:=beq_eq_false_iff_ne.2 (by omega)
 go_wp2
 clear d2 e2
 rw [rounds_succ]
 have d3 : wr.cell? ⟨0,27,none⟩ = some (.int .u16 6):=HL2.out.cell 27
 by_cases h3 : t = 6
 · subst h3
   have c0 : wr.cell? ⟨0,29,none⟩ = some (.int .u8 5):=HL2.out.cell 29
   have c1 : wr.cell? ⟨0,30,none⟩ = some (.int .u8 7):=HL2.out.cell 30
   have c2 : wr.cell? ⟨0,31,none⟩ = some (.int .u8 9):=HL2.out.cell 31
   have c3 : wr.cell? ⟨0,32,none⟩ = some (.int .u8 9):=HL2.out.cell 32
   have c4 : wr.cell? ⟨0,33,none⟩ = some (.int .u8 9):=HL2.out.cell 33
   have c5 : wr.cell? ⟨0,34,none⟩ = some (.int .u8 9):=HL2.out.cell 34
   have c6 : wr.cell? ⟨0,35,none⟩ = some (.int .u8 9):=HL2.out.cell 35
   go_wp2_with (refine wpList_store_row rfl 102 (.tmp 2) (.tmp 16) rfl w.heap.size #[.int .u8 5,.int .u8 7,.int .u8 9,.int .u8 9,.int .u8 9,.int .u8 9,.int .u8 9] rfl rfl 102 #[.int .u8 0,.int .u8 0,.int .u8 0,.int .u8 0,.int .u8 0,.int .u8 0,.int .u8 0] HN.out (by kernel_rfl) rfl (by simp [Value.oneCell']) ?_)
   exact bodyPost_ret (v:=.agg #[.int .u8 5,.int .u8 7,.int .u8 9,.int .u8 9,.int .u8 9,.int .u8 9,.int .u8 9]) (results_cell_row rfl _ _ w.heap.size 102 #[.int .u8 5,.int .u8 7,.int .u8 9,.int .u8 9,.int .u8 9,.int .u8 9,.int .u8 9] (0,0) _ rfl (HN.out.row _) Tryz.underlying102 rfl (by kernel_rfl)) rfl ⟨rfl,below_setRow HB.out (Nat.le_refl _) _⟩
 have e3 : ((6 : Int) == (t : Int)) = false:=beq_eq_false_iff_ne.2 (by omega)
 go_wp2
 clear d3 e3
 rw [rounds_succ]
 have d4 : wr.cell? ⟨0,36,none⟩ = some (.int .u16 12):=HL2.out.cell 36
 by_cases h4 : t = 12
 · subst h4
   have c0 : wr.cell? ⟨0,38,none⟩ = some (.int .u8 5):=HL2.out.cell 38
   have c1 : wr.cell? ⟨0,39,none⟩ = some (.int .u8 0):=HL2.out.cell 39
   have c2 : wr.cell? ⟨0,40,none⟩ = some (.int .u8 0):=HL2.out.cell 40
   have c3 : wr.cell? ⟨0,41,none⟩ = some (.int .u8 0):=HL2.out.cell 41
   have c4 : wr.cell? ⟨0,42,none⟩ = some (.int .u8 0):=HL2.out.cell 42
   have c5 : wr.cell? ⟨0,43,none⟩ = some (.int .u8 0):=HL2.out.cell 43
   have c6 : wr.cell? ⟨0,44,none⟩ = some (.int .u8 0):=HL2.out.cell 44
   go_wp2_with (refine wpList_store_row rfl 102 (.tmp 2) (.tmp 16) rfl w.heap.size #[.int .u8 5,.int .u8 0,.int .u8 0,.int .u8 0,.int .u8 0,.int .u8 0,.int .u8 0] rfl rfl 102 #[.int .u8 0,.int .u8 0,.int .u8 0,.int .u8 0,.int .u8 0,.int .u8 0,.int .u8 0] HN.out (by kernel_rfl) rfl (by simp [Value.oneCell']) ?_)
   exact bodyPost_ret (v:=.agg #[.int .u8 5,.int .u8 0,.int .u8 0,.int .u8 0,.int .u8 0,.int .u8 0,.int .u8 0]) (results_cell_row rfl _ _ w.heap.size 102 #[.int .u8 5,.int .u8 0,.int .u8 0,.int .u8 0,.int .u8 0,.int .u8 0,.int .u8 0] (0,0) _ rfl (HN.out.row _) Tryz.underlying102 rfl (by kernel_rfl)) rfl ⟨rfl,below_setRow HB.out (Nat.le_refl _) _⟩
 have e4 : ((12 : Int) == (t : Int)) = false:=beq_eq_false_iff_ne.2 (by omega)
 go_wp2
 clear d4 e4
 rw [rounds_succ]
 have d5 : wr.cell? ⟨0,45,none⟩ = some (.int .u16 15):=HL2.out.cell 45
 by_cases h5 : t = 15
 · subst h5
   have c0 : wr.cell? ⟨0,47,none⟩ = some (.int .u8 8):=HL2.out.cell 47
   have c1 : wr.cell? ⟨0,48,none⟩ = some (.int .u8 5):=HL2.out.cell 48
   have c2 : wr.cell? ⟨0,49,none⟩ = some (.int .u8 0):=HL2.out.cell 49
   have c3 : wr.cell? ⟨0,50,none⟩ = some (.int .u8 0):=HL2.out.cell 50
   have c4 : wr.cell? ⟨0,51,none⟩ = some (.int .u8 0):=HL2.out.cell 51
   have c5 : wr.cell? ⟨0,52,none⟩ = some (.int .u8 0):=HL2.out.cell 52
   have c6 : wr.cell? ⟨0,53,none⟩ = some (.int .u8 0):=HL2.out.cell 53
   go_wp2_with (refine wpList_store_row rfl 102 (.tmp 2) (.tmp 16) rfl w.heap.size #[.int .u8 8,.int .u8 5,.int .u8 0,.int .u8 0,.int .u8 0,.int .u8 0,.int .u8 0] rfl rfl 102 #[.int .u8 0,.int .u8 0,.int .u8 0,.int .u8 0,.int .u8 0,.int .u8 0,.int .u8 0] HN.out (by kernel_rfl) rfl (by simp [Value.oneCell']) ?_)
   exact bodyPost_ret (v:=.agg #[.int .u8 8,.int .u8 5,.int .u8 0,.int .u8 0,.int .u8 0,.int .u8 0,.int .u8 0]) (results_cell_row rfl _ _ w.heap.size 102 #[.int .u8 8,.int .u8 5,.int .u8 0,.int .u8 0,.int .u8 0,.int .u8 0,.int .u8 0] (0,0) _ rfl (HN.out.row _) Tryz.underlying102 rfl (by kernel_rfl)) rfl ⟨rfl,below_setRow HB.out (Nat.le_refl _) _⟩
 have e5 : ((15 : Int) == (t : Int)) = false:=beq_eq_false_iff_ne.2 (by omega)
 go_wp2
 clear d5 e5
 rw [rounds_succ]
 have d6 : wr.cell? ⟨0,54,none⟩ = some (.int .u16 16):=HL2.out.cell 54
 by_cases h6 : t = 16
 · subst h6
   have c0 : wr.cell? ⟨0,56,none⟩ = some (.int .u8 3):=HL2.out.cell 56
   have c1 : wr.cell? ⟨0,57,none⟩ = some (.int .u8 0):=HL2.out.cell 57
   have c2 : wr.cell? ⟨0,58,none⟩ = some (.int .u8 0):=HL2.out.cell 58
   have c3 : wr.cell? ⟨0,59,none⟩ = some (.int .u8 0):=HL2.out.cell 59
   have c4 : wr.cell? ⟨0,60,none⟩ = some (.int .u8 0):=HL2.out.cell 60
   have c5 : wr.cell? ⟨0,61,none⟩ = some (.int .u8 0):=HL2.out.cell 61
   have c6 : wr.cell? ⟨0,62,none⟩ = some (.int .u8 0):=HL2.out.cell 62
   go_wp2_with (refine wpList_store_row rfl 102 (.tmp 2) (.tmp 16) rfl w.heap.size #[.int .u8 3,.int .u8 0,.int .u8 0,.int .u8 0,.int .u8 0,.int .u8 0,.int .u8 0] rfl rfl 102 #[.int .u8 0,.int .u8 0,.int .u8 0,.int .u8 0,.int .u8 0,.int .u8 0,.int .u8 0] HN.out (by kernel_rfl) rfl (by simp [Value.oneCell']) ?_)
   exact bodyPost_ret (v:=.agg #[.int .u8 3,.int .u8 0,.int .u8 0,.int .u8 0,.int .u8 0,.int .u8 0,.int .u8 0]) (results_cell_row rfl _ _ w.heap.size 102 #[.int .u8 3,.int .u8 0,.int .u8 0,.int .u8 0,.int .u8 0,.int .u8 0,.int .u8 0] (0,0) _ rfl (HN.out.row _) Tryz.underlying102 rfl (by kernel_rfl)) rfl ⟨rfl,below_setRow HB.out (Nat.le_refl _) _⟩
 have e6 : ((16 : Int) == (t : Int)) = false:=beq_eq_false_iff_ne.2 (by omega)
 go_wp2
 clear d6 e6
 rw [rounds_succ]
 have d7 : wr.cell? ⟨0,63,none⟩ = some (.int .u16 28):=HL2.out.cell 63
 by_cases h7 : t = 28
 · subst h7
   have c0 : wr.cell? ⟨0,65,none⟩ = some (.int .u8 2):=HL2.out.cell 65
   have c1 : wr.cell? ⟨0,66,none⟩ = some (.int .u8 0):=HL2.out.cell 66
   have c2 : wr.cell? ⟨0,67,none⟩ = some (.int .u8 0):=HL2.out.cell 67
   have c3 : wr.cell? ⟨0,68,none⟩ = some (.int .u8 0):=HL2.out.cell 68
   have c4 : wr.cell? ⟨0,69,none⟩ = some (.int .u8 0):=HL2.out.cell 69
   have c5 : wr.cell? ⟨0,70,none⟩ = some (.int .u8 0):=HL2.out.cell 70
   have c6 : wr.cell? ⟨0,71,none⟩ = some (.int .u8 0):=HL2.out.cell 71
   go_wp2_with (refine wpList_store_row rfl 102 (.tmp 2) (.tmp 16) rfl w.heap.size #[.int .u8 2,.int .u8 0,.int .u8 0,.int .u8 0,.int .u8 0,.int .u8 0,.int .u8 0] rfl rfl 102 #[.int .u8 0,.int .u8 0,.int .u8 0,.int .u8 0,.int .u8 0,.int .u8 0,.int .u8 0] HN.out (by kernel_rfl) rfl (by simp [Value.oneCell']) ?_)
   exact bodyPost_ret (v:=.agg #[.int .u8 2,.int .u8 0,.int .u8 0,.int .u8 0,.int .u8 0,.int .u8 0,.int .u8 0]) (results_cell_row rfl _ _ w.heap.size 102 #[.int .u8 2,.int .u8 0,.int .u8 0,.int .u8 0,.int .u8 0,.int .u8 0,.int .u8 0] (0,0) _ rfl (HN.out.row _) Tryz.underlying102 rfl (by kernel_rfl)) rfl ⟨rfl,below_setRow HB.out (Nat.le_refl _) _⟩
 have e7 : ((28 : Int) == (t : Int)) = false:=beq_eq_false_iff_ne.2 (by omega)
 go_wp2
 clear d7 e7
 rw [rounds_succ]
 have d8 : wr.cell? ⟨0,72,none⟩ = some (.int .u16 33):=HL2.out.cell 72
 by_cases h8 : t = 33
 · subst h8
   have c0 : wr.cell? ⟨0,74,none⟩ = some (.int .u8 8):=HL2.out.cell 74
   have c1 : wr.cell? ⟨0,75,none⟩ = some (.int .u8 8):=HL2.out.cell 75
   have c2 : wr.cell? ⟨0,76,none⟩ = some (.int .u8 8):=HL2.out.cell 76
   have c3 : wr.cell? ⟨0,77,none⟩ = some (.int .u8 6):=HL2.out.cell 77
   have c4 : wr.cell? ⟨0,78,none⟩ = some (.int .u8 0):=HL2.out.cell 78
   have c5 : wr.cell? ⟨0,79,none⟩ = some (.int .u8 0):=HL2.out.cell 79
   have c6 : wr.cell? ⟨0,80,none⟩ = some (.int .u8 0):=HL2.out.cell 80
   go_wp2_with (refine wpList_store_row rfl 102 (.tmp 2) (.tmp 16) rfl w.heap.size #[.int .u8 8,.int .u8 8,.int .u8 8,.int .u8 6,.int .u8 0,.int .u8 0,.int .u8 0] rfl rfl 102 #[.int .u8 0,.int .u8 0,.int .u8 0,.int .u8 0,.int .u8 0,.int .u8 0,.int .u8 0] HN.out (by kernel_rfl) rfl (by simp [Value.oneCell']) ?_)
   exact bodyPost_ret (v:=.agg #[.int .u8 8,.int .u8 8,.int .u8 8,.int .u8 6,.int .u8 0,.int .u8 0,.int .u8 0]) (results_cell_row rfl _ _ w.heap.size 102 #[.int .u8 8,.int .u8 8,.int .u8 8,.int .u8 6,.int .u8 0,.int .u8 0,.int .u8 0] (0,0) _ rfl (HN.out.row _) Tryz.underlying102 rfl (by kernel_rfl)) rfl ⟨rfl,below_setRow HB.out (Nat.le_refl _) _⟩
 have e8 : ((33 : Int) == (t : Int)) = false:=beq_eq_false_iff_ne.2 (by omega)
 go_wp2
 clear d8 e8
 rw [rounds_succ]
 have HR : Hid (partsV t = .agg #[.int .u8 4,.int .u8 0,.int .u8 0,.int .u8 0,.int .u8 0,.int .u8 0,.int .u8 0]):=by unfold partsV partC;rw [Rd.parts_other h0 h1 h2 h3 h4 h5 h6 h7 h8];rfl
 go_wp2_with (refine wpList_store_row rfl 102 (.tmp 2) (.tmp 18) rfl w.heap.size #[.int .u8 4,.int .u8 0,.int .u8 0,.int .u8 0,.int .u8 0,.int .u8 0,.int .u8 0] rfl rfl 102 #[.int .u8 0,.int .u8 0,.int .u8 0,.int .u8 0,.int .u8 0,.int .u8 0,.int .u8 0] HN.out (by kernel_rfl) rfl (by simp [Value.oneCell']) ?_)
 rw [HR.out]
 exact bodyPost_ret (v:=.agg #[.int .u8 4,.int .u8 0,.int .u8 0,.int .u8 0,.int .u8 0,.int .u8 0,.int .u8 0]) (results_cell_row rfl _ _ w.heap.size 102 #[.int .u8 4,.int .u8 0,.int .u8 0,.int .u8 0,.int .u8 0,.int .u8 0,.int .u8 0] (0,0) _ rfl (HN.out.row _) Tryz.underlying102 rfl (by kernel_rfl)) rfl ⟨rfl,below_setRow HB.out (Nat.le_refl _) _⟩
end Go.Proofs.YtekafhogiambaaaGreatDoor
namespace Go.Proofs.YtekafhogiambaaaGreatDoor
open Go.RowKit
def rdC (v : Value) (o : ByteArray) (d : Rd.Dt) (n : Nat) : Array Value :=
 #[v,.string o,sv d.raw,sv d.host,sv d.mail,.int .u32 d.n0,.int .u32 d.n1,.int .u32 d.n2,.int .u32 d.n3,.int .u32 d.n4,.int .i64 n]
def wdC (x : Rd.W2) (l c : Int) : List Value := [sv x.1,.bool x.2,.int .i64 l,.int .i64 c]
def Ws (w : World) (hi : Nat) (v : Value) (ws : List Rd.W2) : Prop :=
 ∃ A c,v = .slice A ws.length c ∧ ws.length ≤ c ∧ c ≤ 9223372036854775807 ∧ (∀ x ∈ ws,x.1.length ≤ 140737488355328) ∧
  (0 < ws.length → ∃ g o,A = some ⟨g,o,none⟩ ∧ g < hi ∧ ∀ j (h : j < ws.length), ∃ l k,w.rangeAt g (o + j * 4) (wdC ws[j] l k))
section
variable {w w' : World} {hi g : Nat} {v : Value} {ws : List Rd.W2} {x : Rd.W2} {o : ByteArray} {d : Rd.Dt} {n : Nat}
theorem Ws.keep (h : Ws w hi v ws) (hb : Below hi w w') : Ws w' hi v ws:=by
 obtain ⟨A,c,h1,h2,h3,h4,h5⟩:=h
 refine ⟨A,c,h1,h2,h3,h4,fun h0=>?_⟩
 obtain ⟨g,o,e1,e2,e3⟩:=h5 h0
 refine ⟨g,o,e1,e2,fun j hj=>?_⟩
 obtain ⟨l,k,h⟩:=e3 j hj
 exact ⟨l,k,range_below hb e2 h⟩
def Gl (w : World) (B : Nat) : Prop:=Lay w ∧ LayR w ∧ (∃ m : Int,w.cell? ⟨2,0,none⟩ = some (.int .i64 m)) ∧ layTop ≤ B ∧ 0 < B ∧ 2 < B
theorem Gl.below (h : Gl w hi) (hb : Below hi w w') : Gl w' hi:=by
 obtain ⟨h1,⟨t,h2⟩,⟨m,h3⟩,h4,h5,h6⟩:=h
 exact ⟨h1.below hb h4,⟨t,h2.below hb h5⟩,⟨m,(hb.cell (p:=⟨2,0,none⟩) h6).trans h3⟩,h4,h5,h6⟩
def St (w : World) (g hi : Nat) (o : ByteArray) (ws : List Rd.W2) (d : Rd.Dt) (n : Nat) : Prop := ∃ v,Has w g 155 (rdC v o d n) ∧ Ws w hi v ws ∧ hi ≤ g ∧ Gl w hi
theorem St.keep (h : St w g hi o ws d n) (hb : Below w.heap.size w w') : St w' g hi o ws d n:=by
 obtain ⟨v,h1,h2,h3,h4⟩:=h
 have:=h1.lt
 exact ⟨v,h1.below hb h1.lt,h2.keep (hb.mono (by omega)),h3,h4.below (hb.mono (by omega))⟩
theorem St.gl (h : St w g hi o ws d n) : Gl w hi:=by
 obtain ⟨v,_,_,_,h4⟩:=h
 exact h4
theorem St.put {w1 : World} {i : Nat} {u : Value} {d' : Rd.Dt} {n' : Nat} (h : St w g hi o ws d n) (hw : (w.setCell ⟨g,i,none⟩ u).heap = w1.heap) (hc : ∀ v,(rdC v o d n).setIfInBounds i u = rdC v o d' n') : St w1 g hi o ws d' n':=by
 obtain ⟨v,h1,h2,h3,h4⟩:=h
 have hb : Below hi w (w.setCell ⟨g,i,none⟩ u):=(Below.refl _ _).setCell h3 u
 have hb2 : ∀ k,k < hi → w1.heap[k]? = w.heap[k]?:=fun k hk=>by rw [← hw];exact hb.block k hk
 have hh:=h1.set i u
 rw [hc v] at hh
 have hcell : ∀ p : Addr,p.block < hi → w1.cell? p = w.cell? p:=fun p hp=>by unfold World.cell?;rw [hb2 _ hp]
 refine ⟨v,?_,?_,h3,?_⟩
 · show w1.heap[g]? = _
   rw [← hw];exact hh
 · obtain ⟨A,c,e1,e2,e3,e4,e5⟩:=h2
   refine ⟨A,c,e1,e2,e3,e4,fun h0=>?_⟩
   obtain ⟨q,p,a1,a2,a3⟩:=e5 h0
   refine ⟨q,p,a1,a2,fun j hj=>?_⟩
   obtain ⟨l,k,hr⟩:=a3 j hj
   exact ⟨l,k,fun j v hj=>(hcell _ a2).trans (hr j v hj)⟩
 · obtain ⟨⟨⟨a1,a2,a3⟩,a4,a5,a6⟩,⟨t,b1⟩,⟨m,c1⟩,k4,k5,k6⟩:=h4
   exact ⟨⟨⟨a1,a2,(hcell _ (Nat.lt_of_lt_of_le (by decide) k4)).trans a3⟩,a4,a5,(hcell _ (Nat.lt_of_lt_of_le (by decide) k4)).trans a6⟩,⟨t,(hb2 _ k5).trans b1⟩,⟨m,(hcell _ k6).trans c1⟩,k4,k5,k6⟩
theorem St.lt (h : St w g hi o ws d n) : g < w.heap.size:=by
 obtain ⟨v,h1,_⟩:=h
 exact h1.lt
theorem St.has (h : St w g hi o ws d n) : ∃ v,Has w g 155 (rdC v o d n):=h.elim fun v h=>⟨v,h.1⟩
end
theorem Ws.head {w : World} {hi : Nat} {v : Value} {x : Rd.W2} {ws : List Rd.W2} (h : Ws w hi v (x :: ws)) : ∃ (g o c : Nat) (l k : Int),v = .slice (some ⟨g,o,none⟩) (ws.length + 1) c ∧ ws.length + 1 ≤ c ∧ c ≤ 9223372036854775807 ∧ g < hi ∧ w.rangeAt g o (wdC x l k) ∧ Ws w hi (.slice (if c = 1 then some ⟨g,o,none⟩ else some ⟨g,o + 4,none⟩) ws.length (c - 1)) ws:=by
 obtain ⟨A,c,h1,h2,h3,h4,h5⟩:=h
 obtain ⟨g,o,rfl,e2,e3⟩:=h5 (by simp)
 obtain ⟨l,k,e4⟩:=e3 0 (by simp)
 rw [List.length_cons] at h1 h2
 refine ⟨g,o,c,l,k,h1,h2,h3,e2,by simpa using e4,_,_,rfl,by omega,by omega,fun y hy=>h4 y (by simp [hy]),fun h0=>?_⟩
 rw [if_neg (by omega)]
 refine ⟨g,o + 4,rfl,e2,fun j hj=>?_⟩
 obtain ⟨l2,k2,h⟩:=e3 (j + 1) (by simp;omega)
 refine ⟨l2,k2,?_⟩
 have e : o + 4 + j * 4 = o + (j + 1) * 4:=by omega
 rw [e]
 simpa using h
theorem wdC_cells {w : World} {g o : Nat} {x : Rd.W2} {l k : Int} (h : w.rangeAt g o (wdC x l k)) : w.cell? ⟨g,o,none⟩ = some (sv x.1) ∧ w.cell? ⟨g,o + 1,none⟩ = some (.bool x.2) ∧ w.cell? ⟨g,o + 2,none⟩ = some (.int .i64 l) ∧ w.cell? ⟨g,o + 3,none⟩ = some (.int .i64 k) :=
 ⟨h 0 _ rfl,h 1 _ rfl,h 2 _ rfl,h 3 _ rfl⟩
theorem Kb.alloc {g b : Nat} {w w' : World} (h : Kb g b w w') (hb : b ≤ w'.heap.size) (o : Obj) : Kb g b w (w'.alloc o):=h.trans (Kb.of_below ((Below.refl _ _).alloc hb o))
theorem set_words {w : World} {g : Nat} {v v' : Value} {o : ByteArray} {d : Rd.Dt} {n : Nat} (h : Has w g 155 (rdC v o d n)) : Has (w.setCell ⟨g,0,none⟩ v') g 155 (rdC v' o d n):=h.set 0 v'
theorem new_two {w : World} {p : Addr} {u : Value} {t : TypeId} {cs : Array Value} {o : Obj} : Has (((w.setCell p u).alloc (.cells cs t)).alloc o) w.heap.size t cs:=by
 have h:=(Has.fresh (w.setCell p u) t cs).alloc o
 rwa [World.size_setCell] at h
end Go.Proofs.YtekafhogiambaaaGreatDoor
namespace Go.Proofs.YtekafhogiambaaaGreatDoor
open Go.RowKit
section
variable {g hi n : Nat} {o : ByteArray} {ws : List Rd.W2} {x : Rd.W2} {d : Rd.Dt} {w : World}
set_option maxHeartbeats 1000000 in
theorem rdNext_any (h : St w g hi o (x :: ws) d n) :
 Calls Tryz.prog 115 #[.pointer (some ⟨g,0,none⟩)] w fun e w' => ∃ l k : Int,e = .returned (.agg #[sv x.1,.bool x.2,.int .i64 l,.int .i64 k]) ∧ St w' g hi o ws d n ∧ Kb g w.heap.size w w':=by
 obtain ⟨v,h1,h2,h3,h5⟩:=h
 have HG:=Lib.hid h5
 obtain ⟨q,p,c,l,k,rfl,hc,hm,hq,hr,h4⟩:=h2.head
 have HR:=Lib.hid (fun (W : World) (hb : Below w.heap.size w W)=>range_below hb (by have:=h1.lt;omega) hr)
 have hi4 : (Tryz.prog.info? 69).map (·.size) = some 4:=by kernel_rfl
 have HI:=Lib.hid hi4
 clear hi4
 have c0 : w.cell? ⟨g,0,none⟩ = some (.slice (some ⟨q,p,none⟩) (ws.length + 1) c):=by rw [h1.cell];rfl
 have f0:=h1.free 0
 have hg:=h1.lt
 have hqg : q ≠ g:=by omega
 have e0 : ((((ws.length + 1 : Nat) : Int)) == 0) = false:=beq_eq_false_iff_ne.2 (by omega)
 have HH:=Lib.hid h1
 have H4:=Lib.hid h4
 clear h1 h2 h4 hr h5
 go_enter Tryz.func115,Tryz.ntmps115
 go_wp2_with (refine wpList_load_mid rfl 69 (.tmp 16) rfl q _ rfl [sv x.1,.bool x.2,.int .i64 l,.int .i64 k] _ (HR.out _ ((Below.refl _ _).alloc (Nat.le_refl _) _)) Tryz.underlying69 rfl HI.out ?_)
 all_goals
  have h4:=H4.out
  first | rw [if_neg (by assumption)] at h4 | (subst_vars;rw [if_pos rfl] at h4)
  have hk:=fun v' : Value=>(((Kb.refl g w.heap.size w).set 0 v').alloc (by simp) (.cells #[sv x.1,.bool x.2,.int .i64 l,.int .i64 k] 69)).alloc (by simp) (.cells #[sv x.1,.bool x.2,.int .i64 l,.int .i64 k] 69)
  refine bodyPost_ret (results_cell_row rfl _ _ w.heap.size 69 #[sv x.1,.bool x.2,.int .i64 l,.int .i64 k] (0,0) _ rfl new_two Tryz.underlying69 rfl HI.out) rfl ?_
  exact ⟨⟨l,k,rfl⟩,⟨_,((set_words HH.out).alloc _).alloc _,h4.keep (((hk _).below (by omega)).mono h3),h3,HG.out.below (((hk _).below (by omega)).mono h3)⟩,hk _⟩
set_option maxHeartbeats 1000000 in
theorem rdPlain_any (h : St w g hi o (x :: ws) d n) (hx : x.2 = false) :
 Calls Tryz.prog 117 #[.pointer (some ⟨g,0,none⟩)] w fun e w' => e = .returned (sv x.1) ∧ St w' g hi o ws d n ∧ Kb g w.heap.size w w':=by
 obtain ⟨t,q⟩:=x
 obtain rfl : q = false:=hx
 have HN:=Lib.hid (rdNext_any h)
 clear h
 go_enter Tryz.func117,Tryz.ntmps117
 go_wp2_with (go_at_call 115;refine HN.out.mono ?_;rintro e w1 ⟨l,k,rfl,S1,K1⟩;have HS:=Lib.hid S1;have HK:=Lib.hid K1;have hz:=K1.size;clear S1 K1)
 go_ret
 exact ⟨rfl,HS.out.keep ((Below.refl _ _).alloc (Nat.le_refl _) _),HK.out.alloc hz _⟩
end
end Go.Proofs.YtekafhogiambaaaGreatDoor
namespace Go.Proofs.YtekafhogiambaaaGreatDoor.Rd
def pcs (d : Dt) (X : Nat → List By) (n p : Nat) : List By :=
 if 1 ≤ p ∧ p ≤ 4 then X p
 else if p = 5 ∨ p = 6 then [Nm.text d.host] else if p = 7 then [Nm.text d.mail]
 else if p = 8 ∨ p = 9 then [dec (hasN d n)] else []
def wds (d : Dt) (X : Nat → List By) (ps : List Nat) : List By × Nat :=
 ps.foldl (fun s p=>(s.1 ++ pcs d X s.2 p,s.2 + if p = 8 ∨ p = 9 then 1 else 0)) ([],0)
theorem wds_n (d : Dt) (X : Nat → List By) (ps : List Nat) : (wds d X ps).2 = nums ps:=by
 unfold wds
 suffices H : ∀ (ps : List Nat) (s : List By × Nat),(ps.foldl (fun s p=>(s.1 ++ pcs d X s.2 p,s.2 + if p = 8 ∨ p = 9 then 1 else 0)) s).2 = s.2 + nums ps from by rw [H];simp
 intro ps
 induction ps with
 | nil=>intro s;rfl
 | cons p r ih =>
  intro s
  rw [List.foldl_cons,ih]
  have e : nums (p :: r) = (if p = 8 ∨ p = 9 then 1 else 0) + nums r:=by
   unfold nums
   by_cases h : p = 8 ∨ p = 9
   · rw [if_pos h,List.filter_cons_of_pos (by simpa using h),List.length_cons];omega
   · rw [if_neg h,List.filter_cons_of_neg (by simpa using h)];omega
  rw [e];simp only;omega
theorem wds_snoc (d : Dt) (X : Nat → List By) (ps : List Nat) (p : Nat) : (wds d X (ps ++ [p])).1 = (wds d X ps).1 ++ pcs d X (nums ps) p:=by
 have e:=wds_n d X ps
 unfold wds at e ⊢
 rw [List.foldl_append,List.foldl_cons,List.foldl_nil,e]
theorem pcs_raw {d : Dt} {X : Nat → List By} {n p : Nat} (h1 : 1 ≤ p) (h4 : p ≤ 4) : pcs d X n p = X p:=by unfold pcs;rw [if_pos ⟨h1,h4⟩]
theorem pcs_len {d : Dt} {X : Nat → List By} {n p : Nat} {m : Nat} (hX : ∀ p,(X p).length ≤ m) : (pcs d X n p).length ≤ m + 1:=by
 unfold pcs
 have:=hX p
 split
 · omega
 split
 · simp
 split
 · simp
 split
 · simp
 · simp
end Go.Proofs.YtekafhogiambaaaGreatDoor.Rd
namespace Go.Proofs.YtekafhogiambaaaGreatDoor
open Go.RowKit Go.Sort Go.Lib
def LayP (w : World) : Prop := ∃ t,Has w 1 t ((Lib.pow10Tab.map fun z=>Value.int .u64 z).toArray)
theorem LayP.below {w w' : World} {B : Nat} (h : LayP w) (hb : Below B w w') (hB : w.heap.size ≤ B) : LayP w':=h.elim fun t h=>⟨t,h.below hb (Nat.lt_of_lt_of_le h.lt hB)⟩
theorem LayP.tab {w : World} (h : LayP w) : Lib.TabIs Tryz.prog w "internal/strconv.uint64pow10" .u64 Lib.pow10Tab:=by
 obtain ⟨t,h⟩:=h
 have hg : Tryz.prog.globalNamed "internal/strconv.uint64pow10" = some 1:=by kernel_rfl
 unfold Lib.TabIs World.var?
 rw [hg]
 simp only [Option.bind_some]
 rw [show w.heap[(1 : Nat)]? = _ from h]
theorem decDigits_dec (u : Nat) : Lib.decDigits u = Rd.dec u:=by
 induction u using Nat.strongRecOn with
 | ind u ih =>
  rw [Lib.decDigits,Rd.dec]
  by_cases h : u < 10
  · rw [dif_pos h,if_pos h]
  · rw [dif_neg h,if_neg h,ih _ (by omega)]
set_option maxHeartbeats 1000000 in
theorem fmtU10_any (u : Nat) (w : World) (hu64 : u < 18446744073709551616) (hL : LayP w) :
 Calls Tryz.prog 58 #[.int .u64 u,.int .i64 10] w fun e w' => e = .returned (sv (Rd.dec u)) ∧ Below w.heap.size w w':=by
 unfold sv
 rw [← decDigits_dec]
 by_cases hs : u < 100
 · go_enter Tryz.func58,Tryz.ntmps58
   go_wp2_with (go_at_call 83;refine (Tryz.internal_strconv_small u hs _).mono ?_;rintro e w' ⟨rfl,rfl⟩)
   go_ret
   exact ⟨rfl,Below.refl _ _⟩
 · have hu1 : 1 ≤ u:=by omega
   have hnd20 : Lib.nDigits u ≤ 20:=by have:=Lib.numDigits_eq u hu1 hu64;split at this <;> omega
   have hb3 : Lib.nDigits u ≤ 24:=by omega
   have htab:=Lib.hid hL.tab
   have hal : Tryz.prog.arrayLen 140 = 24:=by kernel_rfl
   have hsl1 : ∀ W,(Instr.sliceAt 140 (.pointer (some ⟨w.heap.size,0,none⟩)) none (some (.int .i64 (Lib.nDigits u : Int))) none).run Tryz.prog W = .ok (.slice (some ⟨w.heap.size,0,none⟩) (Lib.nDigits u) 24) W:=fun W=>by
    rw [run_sliceAt_array_h W 140 ⟨w.heap.size,0,none⟩ (by kernel_rfl) .i64 (Lib.nDigits u : Int) (by omega) (by rw [hal];omega)]
    go_simp
   have hH0:=Lib.holds_zero0 w 140 (Lib.nDigits u) (by omega)
   have hfmt:=Tryz.internal_strconv_formatBase10 w.heap.size 0 24 u (Array.replicate (Lib.nDigits u) 0) (w.alloc (.cells Lib.zeros24 140)) hH0 (by rw [Array.size_replicate];exact Lib.lt_pow_nDigits u) hu64 (by rw [Array.size_replicate];omega)
   rw [Array.size_replicate] at hfmt
   have HH0:=Lib.hid hH0
   have HFM:=Lib.hid hfmt
   have iu : (100 : Int) ≤ (u : Int):=by omega
   clear hH0 hal hfmt hL
   go_enter Tryz.func58,Tryz.ntmps58
   go_wp2_with (first
    | (go_at_call 84;refine (Tryz.internal_strconv_numDigits u hu1 hu64 _ (Lib.tabIs_alloc htab.out _)).mono ?_;rintro e w' ⟨rfl,rfl⟩))
   go_at_call 85
   refine HFM.out.mono ?_
   rintro e w' ⟨rfl,k,v',dk,rfl,hF⟩
   have hcv : (convert 51 9 (.slice (some ⟨w.heap.size,0,none⟩) (Lib.nDigits u) 24)).run Tryz.prog ((putRow (fun (b : UInt8)=>Value.int .u8 (b.toNat : Int)) (w.alloc (.cells Lib.zeros24 140)) w.heap.size 0 dk).drewN k) = .ok (.string ⟨(Lib.decDigits u).toArray⟩) ((putRow (fun (b : UInt8)=>Value.int .u8 (b.toNat : Int)) (w.alloc (.cells Lib.zeros24 140)) w.heap.size 0 dk).drewN k):=by
    have h:=run_convert_bytes_back (P:=Tryz.prog) ((putRow (fun (b : UInt8)=>Value.int .u8 (b.toNat : Int)) (w.alloc (.cells Lib.zeros24 140)) w.heap.size 0 dk).drewN k) 51 9 5 ⟨w.heap.size,0,none⟩ 24 (Lib.decDigits u) Tryz.underlying51 Tryz.underlying5 Tryz.underlying9 (fun j hj=>by
     rw [Lib.row_is_numeral hF j hj,Lib.add_plain,World.cell?_drewN]
     exact cell?_putRow (fun (b : UInt8)=>Value.int .u8 (b.toNat : Int)) _ w.heap.size 0 _ dk HH0.out (by rw [hF.size,Array.size_replicate]) j (by rw [hF.size];rw [Lib.decDigits_length] at hj;exact hj))
    rw [Lib.decDigits_length] at h
    exact h
   obtain ⟨os,eo⟩:=Lib.fin_at w (.cells Lib.zeros24 140) dk k 0
   have HEO:=Lib.hid eo
   clear eo
   go_wp2
   go_ret
   exact ⟨rfl,by rw [HEO.out];exact Lib.below_grow _ w (Nat.le_refl _) k os⟩
theorem fmtU_any (u : Nat) (w : World) (hu64 : u < 18446744073709551616) (hL : LayP w) :
 Calls Tryz.prog 34 #[.int .u64 u,.int .i64 10] w fun e w' => e = .returned (sv (Rd.dec u)) ∧ Below w.heap.size w w':=by
 obtain ⟨v,hv⟩ : ∃ v,sv (Rd.dec u) = v:=⟨_,rfl⟩
 have HC:=fmtU10_any u w hu64 hL
 rw [hv] at HC ⊢
 obtain ⟨U,hU⟩ : ∃ U : Int,((u : Nat) : Int) = U:=⟨_,rfl⟩
 rw [hU] at HC ⊢
 have HH:=Lib.hid HC
 clear HC hU hv hu64
 go_enter Tryz.func34,Tryz.ntmps34
 go_wp2_with (go_at_call 58;refine HH.out.mono ?_;rintro e w1 ⟨rfl,hb⟩)
 go_ret
 exact ⟨rfl,hb⟩
theorem itoa_any (u : Nat) (w : World) (hu : u ≤ 4294967295) (hL : LayP w) :
 Calls Tryz.prog 59 #[.int .i64 u] w fun e w' => e = .returned (sv (Rd.dec u)) ∧ Below w.heap.size w w' :=
 (Tryz.strconv_Itoa u (by omega) (by omega) w hL.tab).mono fun e w' ⟨he,k,os,hw⟩=>⟨by rw [he,Lib.itoa_nonneg,decDigits_dec],by rw [hw];exact Lib.below_grow _ w (Nat.le_refl _) k os⟩
end Go.Proofs.YtekafhogiambaaaGreatDoor
namespace Go.Proofs.YtekafhogiambaaaGreatDoor
open Go.RowKit
theorem part_run (a b c d e f g : Int) (k : Nat) (hk : k < 7) (W : World) : (Instr.index 102 (.agg #[.int .u8 a,.int .u8 b,.int .u8 c,.int .u8 d,.int .u8 e,.int .u8 f,.int .u8 g]) (.int .i64 (k : Nat))).run Tryz.prog W = .ok (([.int .u8 a,.int .u8 b,.int .u8 c,.int .u8 d,.int .u8 e,.int .u8 f,.int .u8 g] : List Value)[k]) W:=by
 rcases (by omega : k = 0 ∨ k = 1 ∨ k = 2 ∨ k = 3 ∨ k = 4 ∨ k = 5 ∨ k = 6) with rfl | rfl | rfl | rfl | rfl | rfl | rfl <;> rfl
theorem part_at {t k : Nat} (h : k < (Rd.parts t).length) (W : World) : (Instr.index 102 (.agg (partC t)) (.int .i64 (k : Nat))).run Tryz.prog W = .ok (.int .u8 ((Rd.parts t)[k] : Nat)) W:=by
 have h7:=Rd.parts_len t
 unfold partC
 generalize Rd.parts t = l at *
 match l,h7,h with
 | [a,b,c,d,e,f,g],_,h =>
  refine (part_run a b c d e f g k h W).trans ?_
  have h' : k < 7:=h
  rcases (by omega : k = 0 ∨ k = 1 ∨ k = 2 ∨ k = 3 ∨ k = 4 ∨ k = 5 ∨ k = 6) with rfl | rfl | rfl | rfl | rfl | rfl | rfl <;> rfl
end Go.Proofs.YtekafhogiambaaaGreatDoor
namespace Go.Proofs.YtekafhogiambaaaGreatDoor
open Go.RowKit Go.Lib
set_option maxHeartbeats 1000000 in
theorem addName_any (w : World) (g B : Nat) (ls ps : List (List UInt8)) (s : ByteArray) (h : RowIs w g B ls) (hB : B ≤ g) (hs : s.size ≤ 140737488355328) (hn : Nm.split s.data.toList = some ps) :
 Calls Tryz.prog 110 #[.pointer (some ⟨g,0,none⟩),.string s] w fun e w' => e = .returned (.tuple #[]) ∧ Below B w w' ∧ RowIs w' g B (ls ++ ps):=by
 have hlo : labelsOf s.data.toList = ps:=by unfold labelsOf;rw [hn];rfl
 have HL:=Lib.hid (Labels_any s w hs)
 rw [hlo] at HL
 have HR:=Lib.hid h
 have HN:=Lib.hid hn
 clear h hn hlo
 go_enter Tryz.func110,Tryz.ntmps110
 go_wp2_with (first | (go_at_call 49;refine HL.out.mono ?_;rintro e w1 ⟨v,rfl,hown,hb⟩;obtain ⟨ad,cp,rfl⟩:=own_form hown))
 have hr1 : RowIs w1 g B ls:=HR.out.below hb (Nat.le_refl _)
 have hbB : B ≤ w.heap.size:=Nat.le_trans hB (Nat.le_of_lt HR.out.lt)
 have hB1 : Below B w w1:=hb.mono hbB
 have HR1:=Lib.hid hr1
 have HO1:=Lib.hid hown
 have hpl:=few HN.out
 have HGP:=Lib.hid (Nm.split_some.1 HN.out).2.1
 clear hr1 hown hb
 go_loopw [9] (fun i wr => ∃ k : Nat,i = .int .i64 k ∧ k ≤ ps.length ∧ RowIs wr g B (ls ++ ps.take k) ∧ wr.ownsRow w.heap.size 9 1 (.slice ad ps.length cp) ps.length (svs ps) ∧ Below B w wr) (fun i _=>ps.length - (RowKit.intOf i).toNat)
 case atStart=>exact ⟨0,rfl,Nat.zero_le _,by simpa using HR1.out,HO1.out,hB1⟩
 case round =>
  obtain ⟨k,rfl,hk,hrow,hown,hbw⟩:=hrel
  have HW:=Lib.hid hrow
  have HO:=Lib.hid hown
  have HB:=Lib.hid hbw
  clear hrow hown hbw hB1 HR1 HO1
  by_cases hlt : k < ps.length
  · obtain ⟨g',rfl,hcap,ca⟩:=own_at HO.out hlt
    have hc : wr.cell? ⟨g',k,none⟩ = some (sv ps[k]):=ca k _ (by simp [svs,hlt])
    have hgl:=HGP.out ps[k] (List.getElem_mem hlt)
    have hts : ps.take (k + 1) = ps.take k ++ [ps[k]]:=List.take_succ_eq_append_getElem hlt
    have HTS:=Lib.hid hts
    clear ca hts
    generalize ps[k] = l at *
    go_wp2_with (first | (go_at_call 135;refine (add_ok _ g B _ l HW.out hB hgl).mono ?_;rintro e w2 ⟨rfl,hb2,ht2,hr2⟩))
    go_roundw
    case rel =>
     refine ⟨k + 1,by go_num,by omega,by rw [HTS.out,← List.append_assoc];exact hr2,?_,HB.out.trans hb2⟩
     obtain ⟨v,bs,hH,_⟩:=HW.out
     exact own_typed HO.out ht2 hH
    case measure=>simp [RowKit.intOf];omega
  · obtain rfl : k = ps.length:=by omega
    go_wp2
    go_end0
    exact ⟨rfl,HB.out,by have:=HW.out;rwa [List.take_length] at this⟩
end Go.Proofs.YtekafhogiambaaaGreatDoor
