/- Texts of the proofs, merged. -/
import Derived.Test.YtekafhogiambaaaGreatDoorZc34
import Derived.Test.YtekafhogiambaaaGreatDoorZc33
import Derived.Test.YtekafhogiambaaaGreatDoorZc16
import Derived.Test.YtekafhogiambaaaGreatDoorZc32
import Derived.Test.YtekafhogiambaaaGreatDoorZc17
import Derived.Test.YtekafhogiambaaaGreatDoorZc24
set_option maxRecDepth 100000
namespace Go.Proofs.YtekafhogiambaaaGreatDoor
open Go.RowKit
theorem Hx_two {E : Value} {T : TypeId} {p : Prop} (h : p ∨ E = .iface T (.int .i64 1) ∨ E = .iface T (.int .i64 2)) : p ∨ ∃ k : Int,(k = 1 ∨ k = 2) ∧ E = .iface T (.int .i64 k):=by
 rcases h with h | h | h
 · exact .inl h
 · exact .inr ⟨1,.inl rfl,h⟩
 · exact .inr ⟨2,.inr rfl,h⟩
set_option maxHeartbeats 400000 in
theorem uint_any (t : ByteArray) (w : World) (hL : Lay w) (h63 : t.size ≤ 140737488355328) :
 Calls Tryz.prog 91 #[.string t,.int .i64 16,.int .i64 16] w fun e w' => ∃ (x : Int) (E : Value),e = .returned (.tuple #[.int .u64 x,E]) ∧ ((E = .nilIface ∧ (Rd.hxa 0 t.data.toList).isSome = true ∧ t.size ≠ 0) ∨ ∃ T a,E = .iface T (.pointer (some a))) ∧ Below w.heap.size w w':=by
 have H:=Lib.hid (iuint_any t w h63)
 obtain ⟨⟨t1,p1,h1⟩,t2,p2,h2⟩:=hL
 have s1:=Lay.size (w:=w) ⟨⟨t1,p1,h1⟩,t2,p2,h2⟩
 have hT : ∀ (W : World) (k : Int),(k = 1 ∨ k = 2) → Below w.heap.size w W → Calls Tryz.prog 113 #[.string ⟨#[80,97,114,115,101,85,105,110,116]⟩,.string t,.int .i64 16,.int .i64 16,.iface 188 (.int .i64 k)] W fun e w' => ∃ (T : TypeId) (a : Addr),e = .returned (.iface T (.pointer (some a))) ∧ Below W.heap.size W w':=fun W k hk hb=>by
  rcases hk with rfl | rfl
  · refine (Tryz.strconv_toError_range _ t 16 16 _ W (by omega) ((hb.cell (p:=⟨6,0,none⟩) (block_lt_of_cell h2)).trans h2) (.inr ⟨_,_,rfl⟩)).mono ?_
    rintro e w' ⟨N,rfl,_,_,B⟩
    exact ⟨_,_,rfl,B⟩
  · refine (Tryz.strconv_toError_syntax _ t 16 16 _ W (by omega) ((hb.cell (p:=⟨5,0,none⟩) (block_lt_of_cell h1)).trans h1) (.inr ⟨_,_,rfl⟩)).mono ?_
    rintro e w' ⟨N,rfl,_,_,B⟩
    exact ⟨_,_,rfl,B⟩
 have HT:=Lib.hid hT
 clear h1 h2 s1 hT
 go_enter Tryz.func91,Tryz.ntmps91
 go_wp2_with (first
  | (go_at_call 112;refine H.out.mono ?_;rintro e w1 hp;obtain ⟨x,E,rfl,hE,hB⟩:=hp;have HB:=Lib.hid hB;clear hB;rcases Hx_two hE with ⟨rfl,hok,hn0⟩ | ⟨k,hk,rfl⟩)
  | (go_at_call 113;refine (HT.out _ _ hk HB.out).mono ?_;rintro e w2 ⟨T,a,rfl,B2⟩;have HB2:=Lib.hid (HB.out.trans (B2.mono HB.out.size));clear B2))
 · go_ret2
   exact ⟨_,_,rfl,(.inl ⟨rfl,hok,hn0⟩),HB.out⟩
 · go_ret2
   exact ⟨_,_,rfl,.inr ⟨_,_,rfl⟩,HB2.out⟩
theorem rdHex_no (p : Value) (s : List UInt8) (w : World) (hL : Lay w) (hs : s.length ≤ 140737488355328) (h : Rd.hexR s = none) :
 Calls Tryz.prog 119 #[p,sv s] w fun e w' => Rf w.heap.size w e w':=by
 have H:=Lib.hid (uint_any ⟨s.toArray⟩ w hL (by rw [mk_size];exact hs))
 have HG:=Lib.hid (fun W : World=>rdGiveUp_any p W)
 have hz : (⟨s.toArray⟩ : ByteArray).size = s.length:=mk_size s
 have hd : (⟨s.toArray⟩ : ByteArray).data.toList = s:=by simp
 rw [hd] at H
 have h4 : (Rd.hxa 0 s).isSome = true → 4 < s.length ∨ s.length = 0:=fun hx=>by
  unfold Rd.hexR at h
  by_cases hb : s.length = 0 ∨ 4 < s.length
  · omega
  · rw [if_neg hb,Rd.hexV_hxa] at h
    rw [h] at hx;cases hx
 show Calls Tryz.prog 119 #[p,.string ⟨s.toArray⟩] w _
 have H4:=Lib.hid h4
 generalize (⟨s.toArray⟩ : ByteArray) = t at *
 clear h hd h4 hL
 by_cases h5 : 4 < s.length
 · have h5i : (4 : Int) < (t.size : Int):=by omega
   go_enter Tryz.func119,Tryz.ntmps119
   go_wp2_with (first
    | (go_at_call 91;refine H.out.mono ?_;rintro e w1 hp;obtain ⟨x,E,rfl,hE,hB⟩:=hp;have HB:=Lib.hid hB;clear hB;rcases hE with ⟨rfl,hok,hn0⟩ | ⟨T,a,rfl⟩)
    | (go_at_call 118;refine (HG.out _).mono ?_;rintro e w2 ⟨rfl,B2⟩;exact ⟨rfl,⟨rfl,HB.out.trans (B2.mono HB.out.size)⟩⟩))
 · have h5i : ¬ (4 : Int) < (t.size : Int):=by omega
   go_enter Tryz.func119,Tryz.ntmps119
   go_wp2_with (first
    | (go_at_call 91;refine H.out.mono ?_;rintro e w1 hp;obtain ⟨x,E,rfl,hE,hB⟩:=hp;have HB:=Lib.hid hB;clear hB;rcases hE with ⟨rfl,hok,hn0⟩ | ⟨T,a,rfl⟩;first | (exfalso;have:=H4.out hok;omega) | skip)
    | (go_at_call 118;refine (HG.out _).mono ?_;rintro e w2 ⟨rfl,B2⟩;exact ⟨rfl,⟨rfl,HB.out.trans (B2.mono HB.out.size)⟩⟩))
end Go.Proofs.YtekafhogiambaaaGreatDoor
namespace Go.Proofs.YtekafhogiambaaaGreatDoor
open Go.RowKit
theorem u16s_app (us : List Nat) (v : Nat) : u16s (us ++ [v]) = u16s us ++ [.int .u16 ((v : Nat) : Int)]:=by simp [u16s]
set_option maxHeartbeats 1000000 in
theorem rdGroups_no (p : Value) (s : List UInt8) (w : World) (hL : Lay w) (h32 : s.length < 4294967281) (hm : ∃ m : Int,w.cell? ⟨2,0,none⟩ = some (.int .i64 m)) (hv : Rd.groupsR s = none) :
 Calls Tryz.prog 146 #[p,sv s] w fun e w' => Rf w.heap.size w e w':=by
 obtain ⟨i0,hi0,hz0,hz1,hz2⟩:=info_parts Tryz.infoU16
 unfold Rd.groupsR at hv
 have hz : (⟨s.toArray⟩ : ByteArray).size = s.length:=mk_size s
 have h0 : s ≠ []:=fun e=>by rw [if_pos e] at hv;cases hv
 rw [if_neg h0] at hv
 have HSP:=Lib.hid (split_any s 58 w h32 hm)
 have hl0 : s.length ≠ 0:=fun e=>h0 (List.length_eq_zero_iff.1 e)
 have he:=empty_no (s:=(⟨s.toArray⟩ : ByteArray)) (by rw [hz];exact hl0)
 obtain ⟨ps,hps⟩ : ∃ ps,Rd.splitB 58 s = ps:=⟨_,rfl⟩
 rw [hps] at hv HSP
 obtain ⟨j0,hj0,hno,hyes⟩:=Rd.allM_no hv
 have hpl : ∀ q ∈ ps,q.length ≤ 140737488355328:=fun q hq=>by
  rw [← hps] at hq
  have:=Rd.splitB_len hq
  omega
 have HPL:=Lib.hid hpl
 have HNO:=Lib.hid hno
 have HYES:=Lib.hid hyes
 have HLW:=Lib.hid (fun (W : World) (hb : Below w.heap.size w W)=>hL.below hb hL.size)
 have hpn : ps.length ≤ 4294967281:=by have:=Rd.splitB_count 58 s;rw [hps] at this;omega
 clear hv hno hyes hps h0 hm hl0 hz hL hpl
 have HSP2 : Hid (Calls Tryz.prog 144 #[.string ⟨s.toArray⟩,.string ⟨#[58]⟩] w _):=HSP.out
 clear HSP
 show Calls Tryz.prog 146 #[p,.string ⟨s.toArray⟩] w _
 generalize (⟨s.toArray⟩ : ByteArray) = t at *
 go_enter Tryz.func146,Tryz.ntmps146
 go_wp2_with (go_at_call 144;refine HSP2.out.mono ?_;rintro e w1 ⟨rfl,E1⟩;have HE1:=Lib.hid E1;clear E1)
 have hlt1 : w.heap.size < w1.heap.size:=by rw [HE1.out];simp
 have hpc : ∀ j (hj : j < ps.length),w1.cell? ⟨w.heap.size,j,none⟩ = some (sv (ps[j]'hj)):=fun j hj=>by
  rw [HE1.out,(Has.fresh w 9 (svs ps).toArray).cell]
  simp [svs,hj]
 have HPC:=Lib.hid hpc
 have HB1 : Hid (Below w.heap.size w w1):=by rw [Hid,HE1.out];exact (Below.refl _ _).alloc (Nat.le_refl _) _
 clear hpc HE1
 go_loopw [5,13] (fun v i wr => ∃ (k : Nat) (us : List Nat),i = .int .i64 k ∧ k ≤ j0 ∧ us.length = k ∧ Hid (wr.ownsRow w1.heap.size 34 1 v k (u16s us)) ∧ Hid (Below w1.heap.size w1 wr)) (fun _ i _=>ps.length - (intOf i).toNat)
 case atStart=>exact ⟨0, [],rfl,by omega,rfl,World.ownsRow_nil _ _ _ _,Below.refl _ _⟩
 case round =>
  obtain ⟨k,us,rfl,hk,hus,HO,HB⟩:=hrel
  have hsz:=HB.out.size
  obtain ⟨ad,cp,hv⟩:=own_form HO.out
  subst hv
  have hlt : k < ps.length:=by omega
  have hki : (k : Int) < (ps.length : Int):=by omega
  have cp : wr.cell? ⟨w.heap.size,k,none⟩ = some (sv (ps[k]'hlt)):=(HB.out.cell (p:=⟨w.heap.size,k,none⟩) hlt1).trans (HPC.out k hlt)
  by_cases hk0 : k < j0
  · obtain ⟨vk,hvk⟩:=HYES.out k hk0
    have HX:=Lib.hid (fun (W : World)=>rdHex_ok p (ps[k]'hlt) W hvk)
    have HUS:=Lib.hid (u16s_app us vk)
    have HUL:=Lib.hid hus
    clear hvk hus
    generalize ps[k]'hlt = pk at *
    go_wp2_with (first
     | (go_at_call 119;refine (HX.out _).mono ?_;rintro e w3 ⟨rfl,B3⟩;have HO3:=Lib.hid (own_below HO.out B3 (Nat.le_refl _));have HB3:=Lib.hid (HB.out.trans (B3.mono hsz));have hsz3:=B3.size;clear B3)
     | (at_builtin;refine wpList_append_own _ rfl (.tmp 17) (.tmp 21) _ rfl w1.heap.size 34 i0 _ 1 2 Tryz.underlying200 hi0 hz0 hz1 hz2 rfl (by decide) _ k (u16s us) rfl (HO3.out.alloc _) ⟨w3.heap.size,0,none⟩ 1 1 [.int .u16 vk] rfl rfl ?c1 ?c2 ?c3 ?c4 ?c5 (fun v' w4 hown1 hg1 _=>?_)))
    case c1=>exact cell_one_new _ _ _
    case c2=>simp [Value.oneCell']
    case c3=>unfold maxLen;omega
    case c4=>omega
    case c5=>simp;omega
    exact ⟨⟨k + 1,us ++ [vk],rfl,by omega,by rw [List.length_append,List.length_singleton,HUL.out],by rw [HUS.out];exact hown1,(HB3.out.alloc (by omega) _).grown hg1 (by simp;omega) (fun j hj=>(HO3.out.lt j hj).1)⟩,by simp [intOf];omega⟩
  · obtain rfl : k = j0:=by omega
    have HX:=Lib.hid (fun (W : World) (hL : Lay W)=>rdHex_no p (ps[k]'hlt) W hL (HPL.out _ (List.getElem_mem hlt)) HNO.out)
    have HBw:=Lib.hid (HB1.out.trans (HB.out.mono (by omega)))
    have HLr:=Lib.hid (HLW.out _ HBw.out)
    have hszw:=HBw.out.size
    generalize ps[k]'hlt = pk at *
    go_wp2_with (go_at_call 119;refine (HX.out _ HLr.out).mono ?_;rintro e w3 ⟨rfl,B3⟩;exact ⟨rfl,⟨rfl,HBw.out.trans (B3.mono hszw)⟩⟩)
theorem Rd.allM_len2 {f : List UInt8 → Option Nat} : ∀ {l : List (List UInt8)} {vs : List Nat},Rd.allM f l = some vs → vs.length = l.length
 | [],vs,h=>by
  rw [Rd.allM] at h
  injection h with h
  rw [← h];rfl
 | p :: r,vs,h=>by
  rw [Rd.allM] at h
  split at h
  · rename_i a b _ hb
    injection h with h
    rw [← h,List.length_cons,List.length_cons,Rd.allM_len2 hb]
  · cases h
theorem Rd.groupsR_len {s : List UInt8} {vs : List Nat} (h : Rd.groupsR s = some vs) : vs.length ≤ s.length + 1:=by
 unfold Rd.groupsR at h
 split at h
 · cases h;simp
 · rw [Rd.allM_len2 h];exact Rd.splitB_count 58 s
section
variable {g hi n : Nat} {o : ByteArray} {ws : List Rd.W2} {x : Rd.W2} {d : Rd.Dt} {w : World}
set_option maxHeartbeats 2000000 in
theorem rdEight_no (h : St w g hi o ws d n) (h32 : ∀ x ∈ ws,x.1.length < 4294967281) (hv : Rd.plainW ws = none ∨ ∃ t r,ws = (t,false) :: r ∧ Rd.addr16 t = none) :
 Calls Tryz.prog 123 #[.pointer (some ⟨g,0,none⟩)] w fun e w' => Rf g w e w':=by
 have hlt:=h.low
 rcases hv with hp | ⟨t,rest,rfl,hr⟩
 · have HN:=Lib.hid (rdPlain_no h hp)
   clear h
   go_enter Tryz.func123,Tryz.ntmps123
   go_wp2_with (go_at_call 117;refine HN.out.mono ?_;rintro e w1 ⟨rfl,B1⟩;exact ⟨rfl,⟨rfl,B1⟩⟩)
 · have ht32 : t.length < 4294967281:=h32 (t,false) (by simp)
   have HP:=Lib.hid (rdPlain_any h rfl)
   have HCT:=Lib.hid (fun (W : World) hm=>cut2_any t W ht32 hm)
   have HG:=Lib.hid (fun W : World=>rdGiveUp_any (.pointer (some ⟨g,0,none⟩)) W)
   have hcl:=Rd.cut2_len t
   clear h h32
   obtain ⟨F,hF⟩ : ∃ F,(Rd.cut2 t).1 = F:=⟨_,rfl⟩
   obtain ⟨T,hT⟩ : ∃ T,(Rd.cut2 t).2.1 = T:=⟨_,rfl⟩
   obtain ⟨c,hc⟩ : ∃ c,(Rd.cut2 t).2.2 = c:=⟨_,rfl⟩
   unfold Rd.addr16 at hr
   rw [hF,hT,hc] at hr
   rw [hF,hT,hc] at HCT
   rw [hF,hT] at hcl
   clear hF hT hc
   cases ha : Rd.groupsR F with
   | none =>
    have HA:=Lib.hid (fun (p : Value) (W : World) hL hm=>rdGroups_no p F W hL (by omega) hm ha)
    clear hr ha
    go_enter Tryz.func123,Tryz.ntmps123
    go_wp2_with (first
     | (go_at_call 117;refine HP.out.mono ?_;rintro e w1 ⟨rfl,S1,K1⟩;have HS:=Lib.hid S1;have HK:=Lib.hid (K1.toBelow (Nat.le_refl g) (Nat.le_of_lt hlt));have hg1:=S1.low;clear S1 K1)
     | (go_at_call 145;refine (HCT.out _ HS.out.ml).mono ?_;rintro e w2 ⟨rfl,nd,E2⟩;have B2 : Below w1.heap.size w1 w2:=(by rw [E2];exact below_drewN (Below.refl _ _) _);have HB2:=Lib.hid (HK.out.trans (B2.mono (Nat.le_of_lt hg1)));have HS2:=Lib.hid (HS.out.keep B2);clear E2 B2)
     | (go_at_call 146;refine (HA.out _ _ HS2.out.gl.1 HS2.out.ml).mono ?_;rintro e w3 ⟨rfl,B3⟩;exact ⟨rfl,⟨rfl,HB2.out.trans (B3.mono (Nat.le_of_lt HS2.out.low))⟩⟩))
   | some a =>
    have HA:=Lib.hid (fun (p : Value) (W : World) hm=>rdGroups_ok p F W (by omega) hm ha)
    cases hb : Rd.groupsR T with
    | none =>
     have HB:=Lib.hid (fun (p : Value) (W : World) hL hm=>rdGroups_no p T W hL (by omega) hm hb)
     clear hr ha hb
     go_enter Tryz.func123,Tryz.ntmps123
     go_wp2_with (first
      | (go_at_call 117;refine HP.out.mono ?_;rintro e w1 ⟨rfl,S1,K1⟩;have HS:=Lib.hid S1;have HK:=Lib.hid (K1.toBelow (Nat.le_refl g) (Nat.le_of_lt hlt));have hg1:=S1.low;clear S1 K1)
      | (go_at_call 145;refine (HCT.out _ HS.out.ml).mono ?_;rintro e w2 ⟨rfl,nd,E2⟩;have B2 : Below w1.heap.size w1 w2:=(by rw [E2];exact below_drewN (Below.refl _ _) _);have HB2:=Lib.hid (HK.out.trans (B2.mono (Nat.le_of_lt hg1)));have HS2:=Lib.hid (HS.out.keep B2);clear E2 B2)
      | (go_at_call 146;(with_reducible refine (HA.out _ _ HS2.out.ml).mono ?_);rintro e w3 ⟨v3,rfl,O3,B3⟩;have HB3:=Lib.hid (HB2.out.trans (B3.mono (Nat.le_of_lt HS2.out.low)));have HS3:=Lib.hid (HS2.out.keep B3);clear O3 B3 HA)
      | (go_at_call 146;refine (HB.out _ _ HS3.out.gl.1 HS3.out.ml).mono ?_;rintro e w4 ⟨rfl,B4⟩;exact ⟨rfl,⟨rfl,HB3.out.trans (B4.mono (Nat.le_of_lt HS3.out.low))⟩⟩))
    | some b =>
     rw [ha,hb] at hr
     have hno : (c = true ∧ 8 ≤ a.length + b.length) ∨ (c = false ∧ a.length + b.length ≠ 8):=Decidable.byContradiction fun hno=>by
      simp only [hno,if_false] at hr
      cases hr
     have t1 : c = true → decide ((8 : Int) ≤ (a.length : Int) + (b.length : Int)) = true:=fun e=>by simp [e] at hno;simp;omega
     have t2 : c = false → ((a.length : Int) + (b.length : Int) != 8) = true:=fun e=>by simp [e] at hno;simp;omega
     have hal:=Rd.groupsR_len ha
     have hbl:=Rd.groupsR_len hb
     have hal : a.length ≤ 4294967290:=by omega
     have hbl : b.length ≤ 4294967290:=by omega
     have T1:=Lib.hid t1
     have T2:=Lib.hid t2
     have HB:=Lib.hid (fun (p : Value) (W : World) hm=>rdGroups_ok p T W (by omega) hm hb)
     clear t1 t2 hr hno ha hb
     go_enter Tryz.func123,Tryz.ntmps123
     go_upto_region 3 with (first
      | (go_at_call 117;refine HP.out.mono ?_;rintro e w1 ⟨rfl,S1,K1⟩;have HS:=Lib.hid S1;have HK:=Lib.hid (K1.toBelow (Nat.le_refl g) (Nat.le_of_lt hlt));have hg1:=S1.low;clear S1 K1)
      | (go_at_call 145;refine (HCT.out _ HS.out.ml).mono ?_;rintro e w2 ⟨rfl,nd,E2⟩;have B2 : Below w1.heap.size w1 w2:=(by rw [E2];exact below_drewN (Below.refl _ _) _);have HB2:=Lib.hid (HK.out.trans (B2.mono (Nat.le_of_lt hg1)));have HS2:=Lib.hid (HS.out.keep B2);clear E2 B2)
      | (go_at_call 146;(with_reducible refine (HA.out _ _ HS2.out.ml).mono ?_);rintro e w3 ⟨v3,rfl,O3,B3⟩;have HO3:=Lib.hid O3;have HB3:=Lib.hid (HB2.out.trans (B3.mono (Nat.le_of_lt HS2.out.low)));have HS3:=Lib.hid (HS2.out.keep B3);clear O3 B3 HA)
      | (go_at_call 146;(with_reducible refine (HB.out _ _ HS3.out.ml).mono ?_);rintro e w4 ⟨v4,rfl,O4,B4⟩;have HO4:=Lib.hid O4;have HB4:=Lib.hid (HB3.out.trans (B4.mono (Nat.le_of_lt HS3.out.low)));have HS4:=Lib.hid (HS3.out.keep B4);have O3:=Lib.hid (own_below HO3.out B4 (Nat.le_refl _));clear O4 B4))
     obtain ⟨Aa,ca,rfl⟩:=own_form O3.out
     obtain ⟨Ab,cb,rfl⟩:=own_form HO4.out
     have hg4:=HS4.out.low
     cases c
     all_goals
      first | have tt:=T1.out rfl | have tt:=T2.out rfl
      clear T1 T2
      go_wp2_with (go_at_call 118;refine (HG.out _).mono ?_;rintro e w5 ⟨rfl,B5⟩;exact ⟨rfl,⟨rfl,(HB4.out.alloc (by omega) _).trans (B5.mono (by simp;omega))⟩⟩)
end
end Go.Proofs.YtekafhogiambaaaGreatDoor
namespace Go.Proofs.YtekafhogiambaaaGreatDoor
open Go.RowKit
theorem Rd.bm_none {β : Type} {ws : List Rd.W2} {f : List UInt8 → Option β} {γ : Type} {k : (List UInt8 × List Rd.W2) → β → γ} (h : ((Rd.plainW ws).bind fun x=>(f x.1).map (k x)) = none) : Rd.plainW ws = none ∨ ∃ t r,ws = (t,false) :: r ∧ f t = none:=by
 cases hp : Rd.plainW ws with
 | none=>exact .inl rfl
 | some y =>
  rw [hp,Option.bind_some] at h
  obtain ⟨x,r,rfl,hx,rfl⟩:=Rd.plainW_some hp
  refine .inr ⟨x.1,r,by rw [← hx],?_⟩
  cases hf : f x.1 with
  | none=>rfl
  | some v=>rw [hf] at h;cases h
theorem Rf.low {g g' : Nat} {w w' : World} {e : Ending} (h : Rf g' w e w') (hg : g ≤ g') : Rf g w e w':=⟨h.1,h.2.mono hg⟩
section
variable {g hi n p : Nat} {o : ByteArray} {ws : List Rd.W2} {d : Rd.Dt} {w : World}
theorem part_no (h : St w g hi o ws d n) (hp : p ≤ 9) (hr : Rd.rdP o.data.toList p (ws,d,n) = none) (h32 : ∀ x ∈ ws,x.1.length < 4294967281) (ho : o.size ≤ 140737488355328) :
 Calls Tryz.prog (rdF p) #[.pointer (some ⟨g,0,none⟩)] w fun e w' => Rf g w e w':=by
 unfold Rd.rdP at hr
 by_cases h0 : p = 0
 · rw [if_pos h0] at hr;cases hr
 rw [if_neg h0] at hr
 by_cases h1 : p = 1
 · subst h1
   rw [if_pos rfl] at hr
   exact rdFour_no h h32 (Rd.bm_none hr)
 rw [if_neg h1] at hr
 by_cases h2 : p = 2
 · subst h2
   rw [if_pos rfl] at hr
   exact rdEight_no h h32 (Rd.bm_none hr)
 rw [if_neg h2] at hr
 by_cases h3 : p = 3
 · subst h3
   rw [if_pos rfl] at hr
   cases ws with
   | nil=>exact rdTexts_nil h
   | cons x rest =>
    rw [if_neg (by simp)] at hr
    refine rdTexts_no h ?_
    cases hq : Rd.textsR [] (x :: rest) with
    | none=>rfl
    | some v=>rw [hq] at hr;cases hr
 rw [if_neg h3] at hr
 by_cases h4 : p = 4
 · subst h4
   exact (rdGiveUp_any _ w).mono fun e w' hh=>hh.low (Nat.le_of_lt h.low)
 rw [if_neg h4] at hr
 by_cases h5 : p = 5 ∨ p = 6
 · rw [if_pos h5] at hr
   have e : rdF p = 125:=by rcases h5 with rfl | rfl <;> rfl
   rw [e]
   exact rdHost_no h ho (Rd.bm_none hr)
 rw [if_neg h5] at hr
 by_cases h7 : p = 7
 · subst h7
   rw [if_pos rfl] at hr
   exact rdMail_no h ho (Rd.bm_none hr)
 rw [if_neg h7] at hr
 by_cases h8 : p = 8
 · subst h8
   exact rdNarrow_no h (Rd.bm_none (f:=fun x=>Rd.num x 65535) hr)
 · obtain rfl : p = 9:=by omega
   exact rdWide_no h (Rd.bm_none (f:=fun x=>Rd.num x 4294967295) hr)
end
end Go.Proofs.YtekafhogiambaaaGreatDoor
namespace Go.Proofs.YtekafhogiambaaaGreatDoor
open Go.RowKit
section
variable {g hi t : Nat} {o : ByteArray} {ws : List Rd.W2} {d : Rd.Dt} {w : World}
set_option maxHeartbeats 4000000 in
theorem rdKnown_no (h : St w g hi o ws Rd.dt0 0) (ht : t ≤ 65535) (hr : Rd.knownR o.data.toList t ws = none) (h32 : ∀ x ∈ ws,x.1.length < 4294967281) (ho : o.size ≤ 140737488355328) :
 Calls Tryz.prog 99 #[.pointer (some ⟨g,0,none⟩),.int .u16 t] w fun e w' => Rf g w e w':=by
 unfold Rd.knownR at hr
 have hgw:=h.lt
 have hmf : ∀ (fn : Fn) (first cap : Array Value) (W : World),(Instr.makeFunc fn first cap).run Tryz.prog W = .ok (.func fn first cap) W:=fun _ _ _ _=>rfl
 have HS0:=Lib.hid h
 have HALL:=Lib.hid hr
 have H32:=Lib.hid h32
 have HGU:=Lib.hid (fun W : World=>rdGiveUp_any (.pointer (some ⟨g,0,none⟩)) W)
 have HPO : Hid (∀ W : World,LayR W → Calls Tryz.prog 44 #[.int .u16 t] W fun e w' => e = .returned (.agg (partC t)) ∧ Below W.heap.size W w'):=fun W h=>partsOf_any t W ht h
 clear h hr h32
 go_enter Tryz.func99,Tryz.ntmps99
 go_upto_region 2 with (refine wpList_store_row rfl 179 (.tmp 5) (.tmp 28) rfl (w.heap.size + 1) (fnTab g) rfl rfl 179 _ (new_at _ _ (by simp)) (by kernel_rfl) rfl (by simp [fnTab,fnV,Value.oneCell']) ?_)
 have hH1 : Has ((w.alloc (.cells #[.string ⟨#[]⟩,.string ⟨#[]⟩,.string ⟨#[]⟩,.int .u32 0,.int .u32 0,.int .u32 0,.int .u32 0,.int .u32 0] 37)).alloc (.cells #[.nilFunc,.nilFunc,.nilFunc,.nilFunc,.nilFunc,.nilFunc,.nilFunc,.nilFunc,.nilFunc,.nilFunc] 179)) (w.heap.size + 1) 179 #[.nilFunc,.nilFunc,.nilFunc,.nilFunc,.nilFunc,.nilFunc,.nilFunc,.nilFunc,.nilFunc,.nilFunc]:=new_at _ _ (by simp)
 have hH0:=((Has.fresh w 37 #[.string ⟨#[]⟩,.string ⟨#[]⟩,.string ⟨#[]⟩,.int .u32 0,.int .u32 0,.int .u32 0,.int .u32 0,.int .u32 0]).alloc (.cells #[.nilFunc,.nilFunc,.nilFunc,.nilFunc,.nilFunc,.nilFunc,.nilFunc,.nilFunc,.nilFunc,.nilFunc] 179)).rowFar (g':=w.heap.size + 1) (by omega) (fnTab g)
 have hH2:=hH1.row (fnTab g)
 have hB2:=below_setRow (((Below.refl w.heap.size w).alloc (Nat.le_refl _) (.cells #[.string ⟨#[]⟩,.string ⟨#[]⟩,.string ⟨#[]⟩,.int .u32 0,.int .u32 0,.int .u32 0,.int .u32 0,.int .u32 0] 37)).alloc (by simp) (.cells #[.nilFunc,.nilFunc,.nilFunc,.nilFunc,.nilFunc,.nilFunc,.nilFunc,.nilFunc,.nilFunc,.nilFunc] 179)) (g:=w.heap.size + 1) (by omega) (fnTab g)
 clear hH1
 generalize World.setRow _ _ _ = W2 at *
 have HH0:=Lib.hid hH0
 have HH2:=Lib.hid hH2
 have HB2:=Lib.hid hB2
 have hW2:=hH2.lt
 have HG2:=Lib.hid (HS0.out.keep hB2)
 clear hH0 hH2 hB2
 go_wp2_with (go_at_call 44;refine (HPO.out _ HG2.out.gl.2.1).mono ?_;rintro e w3 ⟨rfl,B3⟩;have HB3:=Lib.hid B3;have HG3:=Lib.hid (HG2.out.keep B3);have HH03:=Lib.hid (HH0.out.below B3 HH0.out.lt);have HH23:=Lib.hid (HH2.out.below B3 HH2.out.lt);clear B3)
 have HK3 : Hid (Kb g w.heap.size w w3):=Kb.of_below (HB2.out.trans (HB3.out.mono (by omega)))
 have hw3 : W2.heap.size ≤ w3.heap.size:=HB3.out.size
 clear HH0 HH2 HG2 HB2 HB3 HPO
 have hpl:=Rd.parts_len t
 have HPL:=Lib.hid hpl
 clear hpl
 go_loopw [31] (fun i wr => ∃ (k : Nat) (s : Rd.RS),i = .int .i64 k ∧ k ≤ 7 ∧ Hid (St wr g hi o s.1 s.2.1 s.2.2) ∧ Hid (((Rd.rdAll o.data.toList ((Rd.parts t).drop k) s).bind fun s=>if s.1 = [] then some s.2.1 else none) = none) ∧ Hid (∀ x ∈ s.1,x.1.length < 4294967281) ∧ Hid (s.2.2 = Rd.nums ((Rd.parts t).take k)) ∧ Hid (Kb g w.heap.size w wr) ∧ Hid (Has wr (w.heap.size + 1) 179 (fnTab g))) (fun i _=>7 - (intOf i).toNat)
 case atStart=>exact ⟨0,(ws,Rd.dt0,0),rfl,by omega,HG3.out,HALL.out,H32.out,rfl,HK3.out,HH23.out⟩
 case round =>
  obtain ⟨k,s,rfl,hk,HST,HAL,H32,HN,HK,HT⟩:=hrel
  have hwr:=HT.out.lt
  have HKg:=Lib.hid (HK.out.toBelow (Nat.le_refl g) (Nat.le_of_lt hgw))
  by_cases hlt : k < 7
  · have hj : k < (Rd.parts t).length:=by rw [HPL.out];exact hlt
    have hpa:=part_at hj
    have hal:=HAL.out
    rw [List.drop_eq_getElem_cons hj,Rd.rdAll] at hal
    have hp9 : (Rd.parts t)[k] ≤ 9:=Rd.parts_lt t _ (List.getElem_mem hj)
    have ct : wr.cell? ⟨w.heap.size + 1,(Rd.parts t)[k],none⟩ = some (fnV g (Rd.parts t)[k]):=by rw [HT.out.cell];exact fnTab_at g hp9
    cases hs' : Rd.rdP o.data.toList (Rd.parts t)[k] s with
    | some s' =>
     rw [hs',Option.bind_some] at hal
     have hn5 : (Rd.parts t)[k] = 8 ∨ (Rd.parts t)[k] = 9 → s.2.2 < 5:=fun h=>by
      have h1:=Rd.nums_le (t:=t) (k:=k + 1)
      rw [List.take_succ_eq_append_getElem hj,Rd.nums_snoc,if_pos h] at h1
      rw [HN.out];omega
     obtain ⟨hC,hsub,hnn⟩:=part_ok (p:=(Rd.parts t)[k]) HST.out hp9 hs' hn5 H32.out ho
     have hnn2 : s'.2.2 = Rd.nums ((Rd.parts t).take (k + 1)):=by
      rw [List.take_succ_eq_append_getElem hj,Rd.nums_snoc,← HN.out]
      exact hnn
     have h4 : (Rd.parts t)[k] ≠ 4:=fun h=>by rw [h] at hs';cases hs'
     have HC:=Lib.hid hC
     have HAL':=Lib.hid hal
     have HNN:=Lib.hid hnn2
     have H32':=Lib.hid (fun x hx=>H32.out x (hsub x hx))
     clear hal hs' hn5 hC hsub hnn hnn2
     generalize (Rd.parts t)[k] = p at *
     clear hj
     rcases (by omega : p = 0 ∨ p = 1 ∨ p = 2 ∨ p = 3 ∨ p = 4 ∨ p = 5 ∨ p = 6 ∨ p = 7 ∨ p = 8 ∨ p = 9) with rfl | rfl | rfl | rfl | rfl | rfl | rfl | rfl | rfl | rfl
     · have ct2 : wr.cell? ⟨w.heap.size + 1,0,none⟩ = some (.func (Fn.func 121) #[.pointer (some ⟨g,0,none⟩)] #[]):=ct
       have HC2 : Hid (Calls Tryz.prog 121 #[.pointer (some ⟨g,0,none⟩)] wr fun e w' => e = .returned (.tuple #[]) ∧ St w' g hi o s'.1 s'.2.1 s'.2.2 ∧ Kb g wr.heap.size wr w'):=HC.out
       clear ct HC
       go_wp2_with (go_at_call 121;refine HC2.out.mono ?_;rintro e w4 ⟨rfl,S4,K4⟩;have HS4:=Lib.hid S4;have HT4:=Lib.hid (K4.has HT.out HT.out.lt (by omega));have HK4:=Lib.hid (HK.out.on K4);clear S4 K4)
       exact ⟨⟨k + 1,s',by go_num,by omega,HS4.out,HAL'.out,H32'.out,HNN.out,HK4.out,HT4.out⟩,by simp [intOf];omega⟩
     · have ct2 : wr.cell? ⟨w.heap.size + 1,1,none⟩ = some (.func (Fn.func 122) #[.pointer (some ⟨g,0,none⟩)] #[]):=ct
       have HC2 : Hid (Calls Tryz.prog 122 #[.pointer (some ⟨g,0,none⟩)] wr fun e w' => e = .returned (.tuple #[]) ∧ St w' g hi o s'.1 s'.2.1 s'.2.2 ∧ Kb g wr.heap.size wr w'):=HC.out
       clear ct HC
       go_wp2_with (go_at_call 122;refine HC2.out.mono ?_;rintro e w4 ⟨rfl,S4,K4⟩;have HS4:=Lib.hid S4;have HT4:=Lib.hid (K4.has HT.out HT.out.lt (by omega));have HK4:=Lib.hid (HK.out.on K4);clear S4 K4)
       exact ⟨⟨k + 1,s',by go_num,by omega,HS4.out,HAL'.out,H32'.out,HNN.out,HK4.out,HT4.out⟩,by simp [intOf];omega⟩
     · have ct2 : wr.cell? ⟨w.heap.size + 1,2,none⟩ = some (.func (Fn.func 123) #[.pointer (some ⟨g,0,none⟩)] #[]):=ct
       have HC2 : Hid (Calls Tryz.prog 123 #[.pointer (some ⟨g,0,none⟩)] wr fun e w' => e = .returned (.tuple #[]) ∧ St w' g hi o s'.1 s'.2.1 s'.2.2 ∧ Kb g wr.heap.size wr w'):=HC.out
       clear ct HC
       go_wp2_with (go_at_call 123;refine HC2.out.mono ?_;rintro e w4 ⟨rfl,S4,K4⟩;have HS4:=Lib.hid S4;have HT4:=Lib.hid (K4.has HT.out HT.out.lt (by omega));have HK4:=Lib.hid (HK.out.on K4);clear S4 K4)
       exact ⟨⟨k + 1,s',by go_num,by omega,HS4.out,HAL'.out,H32'.out,HNN.out,HK4.out,HT4.out⟩,by simp [intOf];omega⟩
     · have ct2 : wr.cell? ⟨w.heap.size + 1,3,none⟩ = some (.func (Fn.func 124) #[.pointer (some ⟨g,0,none⟩)] #[]):=ct
       have HC2 : Hid (Calls Tryz.prog 124 #[.pointer (some ⟨g,0,none⟩)] wr fun e w' => e = .returned (.tuple #[]) ∧ St w' g hi o s'.1 s'.2.1 s'.2.2 ∧ Kb g wr.heap.size wr w'):=HC.out
       clear ct HC
       go_wp2_with (go_at_call 124;refine HC2.out.mono ?_;rintro e w4 ⟨rfl,S4,K4⟩;have HS4:=Lib.hid S4;have HT4:=Lib.hid (K4.has HT.out HT.out.lt (by omega));have HK4:=Lib.hid (HK.out.on K4);clear S4 K4)
       exact ⟨⟨k + 1,s',by go_num,by omega,HS4.out,HAL'.out,H32'.out,HNN.out,HK4.out,HT4.out⟩,by simp [intOf];omega⟩
     · exact absurd rfl h4
     · have ct2 : wr.cell? ⟨w.heap.size + 1,5,none⟩ = some (.func (Fn.func 125) #[.pointer (some ⟨g,0,none⟩)] #[]):=ct
       have HC2 : Hid (Calls Tryz.prog 125 #[.pointer (some ⟨g,0,none⟩)] wr fun e w' => e = .returned (.tuple #[]) ∧ St w' g hi o s'.1 s'.2.1 s'.2.2 ∧ Kb g wr.heap.size wr w'):=HC.out
       clear ct HC
       go_wp2_with (go_at_call 125;refine HC2.out.mono ?_;rintro e w4 ⟨rfl,S4,K4⟩;have HS4:=Lib.hid S4;have HT4:=Lib.hid (K4.has HT.out HT.out.lt (by omega));have HK4:=Lib.hid (HK.out.on K4);clear S4 K4)
       exact ⟨⟨k + 1,s',by go_num,by omega,HS4.out,HAL'.out,H32'.out,HNN.out,HK4.out,HT4.out⟩,by simp [intOf];omega⟩
     · have ct2 : wr.cell? ⟨w.heap.size + 1,6,none⟩ = some (.func (Fn.func 125) #[.pointer (some ⟨g,0,none⟩)] #[]):=ct
       have HC2 : Hid (Calls Tryz.prog 125 #[.pointer (some ⟨g,0,none⟩)] wr fun e w' => e = .returned (.tuple #[]) ∧ St w' g hi o s'.1 s'.2.1 s'.2.2 ∧ Kb g wr.heap.size wr w'):=HC.out
       clear ct HC
       go_wp2_with (go_at_call 125;refine HC2.out.mono ?_;rintro e w4 ⟨rfl,S4,K4⟩;have HS4:=Lib.hid S4;have HT4:=Lib.hid (K4.has HT.out HT.out.lt (by omega));have HK4:=Lib.hid (HK.out.on K4);clear S4 K4)
       exact ⟨⟨k + 1,s',by go_num,by omega,HS4.out,HAL'.out,H32'.out,HNN.out,HK4.out,HT4.out⟩,by simp [intOf];omega⟩
     · have ct2 : wr.cell? ⟨w.heap.size + 1,7,none⟩ = some (.func (Fn.func 126) #[.pointer (some ⟨g,0,none⟩)] #[]):=ct
       have HC2 : Hid (Calls Tryz.prog 126 #[.pointer (some ⟨g,0,none⟩)] wr fun e w' => e = .returned (.tuple #[]) ∧ St w' g hi o s'.1 s'.2.1 s'.2.2 ∧ Kb g wr.heap.size wr w'):=HC.out
       clear ct HC
       go_wp2_with (go_at_call 126;refine HC2.out.mono ?_;rintro e w4 ⟨rfl,S4,K4⟩;have HS4:=Lib.hid S4;have HT4:=Lib.hid (K4.has HT.out HT.out.lt (by omega));have HK4:=Lib.hid (HK.out.on K4);clear S4 K4)
       exact ⟨⟨k + 1,s',by go_num,by omega,HS4.out,HAL'.out,H32'.out,HNN.out,HK4.out,HT4.out⟩,by simp [intOf];omega⟩
     · have ct2 : wr.cell? ⟨w.heap.size + 1,8,none⟩ = some (.func (Fn.func 127) #[.pointer (some ⟨g,0,none⟩)] #[]):=ct
       have HC2 : Hid (Calls Tryz.prog 127 #[.pointer (some ⟨g,0,none⟩)] wr fun e w' => e = .returned (.tuple #[]) ∧ St w' g hi o s'.1 s'.2.1 s'.2.2 ∧ Kb g wr.heap.size wr w'):=HC.out
       clear ct HC
       go_wp2_with (go_at_call 127;refine HC2.out.mono ?_;rintro e w4 ⟨rfl,S4,K4⟩;have HS4:=Lib.hid S4;have HT4:=Lib.hid (K4.has HT.out HT.out.lt (by omega));have HK4:=Lib.hid (HK.out.on K4);clear S4 K4)
       exact ⟨⟨k + 1,s',by go_num,by omega,HS4.out,HAL'.out,H32'.out,HNN.out,HK4.out,HT4.out⟩,by simp [intOf];omega⟩
     · have ct2 : wr.cell? ⟨w.heap.size + 1,9,none⟩ = some (.func (Fn.func 128) #[.pointer (some ⟨g,0,none⟩)] #[]):=ct
       have HC2 : Hid (Calls Tryz.prog 128 #[.pointer (some ⟨g,0,none⟩)] wr fun e w' => e = .returned (.tuple #[]) ∧ St w' g hi o s'.1 s'.2.1 s'.2.2 ∧ Kb g wr.heap.size wr w'):=HC.out
       clear ct HC
       go_wp2_with (go_at_call 128;refine HC2.out.mono ?_;rintro e w4 ⟨rfl,S4,K4⟩;have HS4:=Lib.hid S4;have HT4:=Lib.hid (K4.has HT.out HT.out.lt (by omega));have HK4:=Lib.hid (HK.out.on K4);clear S4 K4)
       exact ⟨⟨k + 1,s',by go_num,by omega,HS4.out,HAL'.out,H32'.out,HNN.out,HK4.out,HT4.out⟩,by simp [intOf];omega⟩
    | none =>
     have hC:=part_no (p:=(Rd.parts t)[k]) HST.out hp9 hs' H32.out ho
     have h0 : (Rd.parts t)[k] ≠ 0:=fun h=>by rw [h] at hs';cases hs'
     have HC:=Lib.hid hC
     clear hal hs' hC
     generalize (Rd.parts t)[k] = p at *
     clear hj
     rcases (by omega : p = 0 ∨ p = 1 ∨ p = 2 ∨ p = 3 ∨ p = 4 ∨ p = 5 ∨ p = 6 ∨ p = 7 ∨ p = 8 ∨ p = 9) with rfl | rfl | rfl | rfl | rfl | rfl | rfl | rfl | rfl | rfl
     · exact absurd rfl h0
     · have ct2 : wr.cell? ⟨w.heap.size + 1,1,none⟩ = some (.func (Fn.func 122) #[.pointer (some ⟨g,0,none⟩)] #[]):=ct
       have HC2 : Hid (Calls Tryz.prog 122 #[.pointer (some ⟨g,0,none⟩)] wr fun e w' => Rf g wr e w'):=HC.out
       clear ct HC
       go_wp2_with (go_at_call 122;refine HC2.out.mono ?_;rintro e w4 ⟨rfl,B4⟩;exact ⟨rfl,⟨rfl,HKg.out.trans B4⟩⟩)
     · have ct2 : wr.cell? ⟨w.heap.size + 1,2,none⟩ = some (.func (Fn.func 123) #[.pointer (some ⟨g,0,none⟩)] #[]):=ct
       have HC2 : Hid (Calls Tryz.prog 123 #[.pointer (some ⟨g,0,none⟩)] wr fun e w' => Rf g wr e w'):=HC.out
       clear ct HC
       go_wp2_with (go_at_call 123;refine HC2.out.mono ?_;rintro e w4 ⟨rfl,B4⟩;exact ⟨rfl,⟨rfl,HKg.out.trans B4⟩⟩)
     · have ct2 : wr.cell? ⟨w.heap.size + 1,3,none⟩ = some (.func (Fn.func 124) #[.pointer (some ⟨g,0,none⟩)] #[]):=ct
       have HC2 : Hid (Calls Tryz.prog 124 #[.pointer (some ⟨g,0,none⟩)] wr fun e w' => Rf g wr e w'):=HC.out
       clear ct HC
       go_wp2_with (go_at_call 124;refine HC2.out.mono ?_;rintro e w4 ⟨rfl,B4⟩;exact ⟨rfl,⟨rfl,HKg.out.trans B4⟩⟩)
     · have ct2 : wr.cell? ⟨w.heap.size + 1,4,none⟩ = some (.func (Fn.func 118) #[.pointer (some ⟨g,0,none⟩)] #[]):=ct
       have HC2 : Hid (Calls Tryz.prog 118 #[.pointer (some ⟨g,0,none⟩)] wr fun e w' => Rf g wr e w'):=HC.out
       clear ct HC
       go_wp2_with (go_at_call 118;refine HC2.out.mono ?_;rintro e w4 ⟨rfl,B4⟩;exact ⟨rfl,⟨rfl,HKg.out.trans B4⟩⟩)
     · have ct2 : wr.cell? ⟨w.heap.size + 1,5,none⟩ = some (.func (Fn.func 125) #[.pointer (some ⟨g,0,none⟩)] #[]):=ct
       have HC2 : Hid (Calls Tryz.prog 125 #[.pointer (some ⟨g,0,none⟩)] wr fun e w' => Rf g wr e w'):=HC.out
       clear ct HC
       go_wp2_with (go_at_call 125;refine HC2.out.mono ?_;rintro e w4 ⟨rfl,B4⟩;exact ⟨rfl,⟨rfl,HKg.out.trans B4⟩⟩)
     · have ct2 : wr.cell? ⟨w.heap.size + 1,6,none⟩ = some (.func (Fn.func 125) #[.pointer (some ⟨g,0,none⟩)] #[]):=ct
       have HC2 : Hid (Calls Tryz.prog 125 #[.pointer (some ⟨g,0,none⟩)] wr fun e w' => Rf g wr e w'):=HC.out
       clear ct HC
       go_wp2_with (go_at_call 125;refine HC2.out.mono ?_;rintro e w4 ⟨rfl,B4⟩;exact ⟨rfl,⟨rfl,HKg.out.trans B4⟩⟩)
     · have ct2 : wr.cell? ⟨w.heap.size + 1,7,none⟩ = some (.func (Fn.func 126) #[.pointer (some ⟨g,0,none⟩)] #[]):=ct
       have HC2 : Hid (Calls Tryz.prog 126 #[.pointer (some ⟨g,0,none⟩)] wr fun e w' => Rf g wr e w'):=HC.out
       clear ct HC
       go_wp2_with (go_at_call 126;refine HC2.out.mono ?_;rintro e w4 ⟨rfl,B4⟩;exact ⟨rfl,⟨rfl,HKg.out.trans B4⟩⟩)
     · have ct2 : wr.cell? ⟨w.heap.size + 1,8,none⟩ = some (.func (Fn.func 127) #[.pointer (some ⟨g,0,none⟩)] #[]):=ct
       have HC2 : Hid (Calls Tryz.prog 127 #[.pointer (some ⟨g,0,none⟩)] wr fun e w' => Rf g wr e w'):=HC.out
       clear ct HC
       go_wp2_with (go_at_call 127;refine HC2.out.mono ?_;rintro e w4 ⟨rfl,B4⟩;exact ⟨rfl,⟨rfl,HKg.out.trans B4⟩⟩)
     · have ct2 : wr.cell? ⟨w.heap.size + 1,9,none⟩ = some (.func (Fn.func 128) #[.pointer (some ⟨g,0,none⟩)] #[]):=ct
       have HC2 : Hid (Calls Tryz.prog 128 #[.pointer (some ⟨g,0,none⟩)] wr fun e w' => Rf g wr e w'):=HC.out
       clear ct HC
       go_wp2_with (go_at_call 128;refine HC2.out.mono ?_;rintro e w4 ⟨rfl,B4⟩;exact ⟨rfl,⟨rfl,HKg.out.trans B4⟩⟩)
  · obtain rfl : k = 7:=by omega
    have hal:=HAL.out
    rw [List.drop_eq_nil_of_le (by rw [HPL.out];omega),Rd.rdAll,Option.bind_some] at hal
    have hne : s.1 ≠ []:=fun h=>by rw [if_pos h] at hal;cases hal
    obtain ⟨q,hq⟩ : ∃ q,s.1 = q:=⟨_,rfl⟩
    have hst:=HST.out
    rw [hq] at hst hne
    clear hal hq
    cases q with
    | nil=>exact absurd rfl hne
    | cons x r =>
     obtain ⟨A,c,c0⟩:=hst.front
     have hsg : g ≤ wr.heap.size:=Nat.le_of_lt hst.low
     clear hst hne
     go_wp2_with (go_at_call 118;refine (HGU.out _).mono ?_;rintro e w4 ⟨rfl,B4⟩;exact ⟨rfl,⟨rfl,HKg.out.trans (B4.mono hsg)⟩⟩)
end
end Go.Proofs.YtekafhogiambaaaGreatDoor
namespace Go.Proofs.YtekafhogiambaaaGreatDoor
open Go.RowKit
theorem Rd.hex2_lt {a b : UInt8} {v : Nat} (h : Rd.hexR [a,b] = some v) : ∃ c : UInt8,c.toNat = v:=by
 refine ⟨UInt8.ofNat v,?_⟩
 have hv : v < 256:=by
  unfold Rd.hexR at h
  rw [if_neg (by simp),Rd.hexV_hxa] at h
  have:=(Rd.hxa_le h).2
  simpa using this
 simp
 omega
theorem Rd.twoR_no : ∀ {ds : List UInt8} {n : Nat},ds.length = 2 * n → Rd.twoR ds = none → ∃ k,k < n ∧ (∃ h1 : 2 * k + 1 < ds.length,Rd.hexR [ds[2 * k],ds[2 * k + 1]] = none) ∧ ∀ i (_ : i < k) (h1 : 2 * i + 1 < ds.length), ∃ c : UInt8,Rd.hexR [ds[2 * i],ds[2 * i + 1]] = some c.toNat
 | [],n,_,h=>by cases h
 | [a],n,hl,_=>by simp at hl;omega
 | a :: b :: r,n,hl,h=>by
  have hl' : r.length + 2 = 2 * n:=by simpa using hl
  cases n with
  | zero=>omega
  | succ n =>
  rw [Rd.twoR] at h
  cases hv : Rd.hexR [a,b] with
  | none=>exact ⟨0,by omega,⟨by simp,hv⟩,fun i hi=>absurd hi (by omega)⟩
  | some v =>
   rw [hv] at h
   cases hr : Rd.twoR r with
   | some s=>rw [hr] at h;cases h
   | none =>
    obtain ⟨k,hk,⟨h1,h2⟩,h3⟩:=Rd.twoR_no (n:=n) (by omega) hr
    obtain ⟨c,hc⟩:=Rd.hex2_lt hv
    refine ⟨k + 1,by omega,⟨by simp;omega,h2⟩,fun i hi hi1=>?_⟩
    cases i with
    | zero=>exact ⟨c,by rw [hc];exact hv⟩
    | succ i=>exact h3 i (by omega) (by simp at hi1;omega)
section
variable {g hi t : Nat} {o : ByteArray} {ws ws1 : List Rd.W2} {x0 x1 : Rd.W2} {w : World}
set_option maxHeartbeats 2000000 in
theorem rdAny_noNum (h : St w g hi o (x0 :: ws) Rd.dt0 0) (hv : Rd.noNum ws 65535) :
 Calls Tryz.prog 98 #[.pointer (some ⟨g,0,none⟩),.int .u16 t] w fun e w' => Rf g w e w':=by
 have hgw:=h.lt
 have HS0:=Lib.hid h
 have HNB:=Lib.hid (fun (W : World) (hS : St W g hi o ws Rd.dt0 0)=>rdNumberR_no hS 16 (.inr (.inl rfl)) hv)
 clear h hv
 go_enter Tryz.func98,Tryz.ntmps98
 have hS1 : ∀ W,Below w.heap.size w W → St W g hi o (x0 :: ws) Rd.dt0 0:=fun W hb=>HS0.out.keep hb
 have HN:=Lib.hid (fun (W : World) (hb : Below w.heap.size w W)=>rdNext_any (hS1 W hb))
 clear hS1
 have hB1:=(Below.refl w.heap.size w).alloc (Nat.le_refl _) (.cells #[.string ⟨#[]⟩,.string ⟨#[]⟩,.string ⟨#[]⟩,.int .u32 0,.int .u32 0,.int .u32 0,.int .u32 0,.int .u32 0] 37)
 have hZ1:=Has.fresh w 37 #[.string ⟨#[]⟩,.string ⟨#[]⟩,.string ⟨#[]⟩,.int .u32 0,.int .u32 0,.int .u32 0,.int .u32 0,.int .u32 0]
 have HB1:=Lib.hid hB1
 have HZ1:=Lib.hid hZ1
 have HK1 : Hid (Kb g w.heap.size w (w.alloc (.cells #[.string ⟨#[]⟩,.string ⟨#[]⟩,.string ⟨#[]⟩,.int .u32 0,.int .u32 0,.int .u32 0,.int .u32 0,.int .u32 0] 37))):=Kb.of_below hB1
 clear hB1 hZ1
 go_wp2_with (first
  | (go_at_call 115;refine (HN.out _ HB1.out).mono ?_;rintro e w1 ⟨l1,k1,rfl,S1,K1⟩;have HS1:=Lib.hid S1;have HK2:=Lib.hid (HK1.out.on K1);have HZ2:=Lib.hid (K1.has HZ1.out HZ1.out.lt (by omega));clear S1 K1)
  | (go_at_call 116;refine (HNB.out _ HS1.out).mono ?_;rintro e w2 ⟨rfl,B2⟩;exact ⟨rfl,⟨rfl,(HK2.out.toBelow (Nat.le_refl g) (Nat.le_of_lt hgw)).trans (B2.mono (Nat.le_refl g))⟩⟩))
set_option maxHeartbeats 2000000 in
theorem rdAny_noGath (h : St w g hi o (x0 :: x1 :: ws1) Rd.dt0 0) (hx1 : x1.2 = false) {n : Nat} (hn : Rd.num x1.1 65535 = some n) (hga : Rd.gathR (2 * n) [] ws1 = none ∨ ∃ ds rest,Rd.gathR (2 * n) [] ws1 = some (ds,rest) ∧ ds.length ≠ 2 * n) (h32 : ∀ x ∈ ws1,x.1.length < 4294967281) :
 Calls Tryz.prog 98 #[.pointer (some ⟨g,0,none⟩),.int .u16 t] w fun e w' => Rf g w e w':=by
 obtain ⟨i0,hi0,hz0,hz1,hz2⟩:=info_parts Tryz.infoByte
 have hgw:=h.lt
 have hn16 : n ≤ 65535:=Rd.num_le hn
 have HS0:=Lib.hid h
 have HNB:=Lib.hid (fun (W : World) (hS : St W g hi o (x1 :: ws1) Rd.dt0 0)=>rdNumberR_ok hS hx1 16 (.inr (.inl rfl)) hn)
 have HGU:=Lib.hid (fun W : World=>rdGiveUp_any (.pointer (some ⟨g,0,none⟩)) W)
 have HG:=Lib.hid hga
 have H32:=Lib.hid h32
 clear h hn hga h32
 go_enter Tryz.func98,Tryz.ntmps98
 have hS1 : ∀ W,Below w.heap.size w W → St W g hi o (x0 :: x1 :: ws1) Rd.dt0 0:=fun W hb=>HS0.out.keep hb
 have HN:=Lib.hid (fun (W : World) (hb : Below w.heap.size w W)=>rdNext_any (hS1 W hb))
 clear hS1
 have hB1:=(Below.refl w.heap.size w).alloc (Nat.le_refl _) (.cells #[.string ⟨#[]⟩,.string ⟨#[]⟩,.string ⟨#[]⟩,.int .u32 0,.int .u32 0,.int .u32 0,.int .u32 0,.int .u32 0] 37)
 have hZ1:=Has.fresh w 37 #[.string ⟨#[]⟩,.string ⟨#[]⟩,.string ⟨#[]⟩,.int .u32 0,.int .u32 0,.int .u32 0,.int .u32 0,.int .u32 0]
 have HB1:=Lib.hid hB1
 have HZ1:=Lib.hid hZ1
 have HK1 : Hid (Kb g w.heap.size w (w.alloc (.cells #[.string ⟨#[]⟩,.string ⟨#[]⟩,.string ⟨#[]⟩,.int .u32 0,.int .u32 0,.int .u32 0,.int .u32 0,.int .u32 0] 37))):=Kb.of_below hB1
 clear hB1 hZ1
 go_wp2_with (first
  | (go_at_call 115;refine (HN.out _ HB1.out).mono ?_;rintro e w1 ⟨l1,k1,rfl,S1,K1⟩;have HS1:=Lib.hid S1;have HK2:=Lib.hid (HK1.out.on K1);have HZ2:=Lib.hid (K1.has HZ1.out HZ1.out.lt (by omega));clear S1 K1)
  | (go_at_call 116;refine (HNB.out _ HS1.out).mono ?_;rintro e w2 ⟨rfl,S2,K2⟩;have HS2:=Lib.hid S2;have HK3:=Lib.hid (HK2.out.on K2);have HZ3:=Lib.hid (K2.has HZ2.out HZ2.out.lt (by omega));clear S2 K2))
 go_loopw [6] (fun v wr => ∃ (acc : List UInt8) (rs : List Rd.W2),acc.length ≤ 8000000000 ∧ Hid (Rd.gathR (2 * n) acc rs = none ∨ ∃ ds rest,Rd.gathR (2 * n) acc rs = some (ds,rest) ∧ ds.length ≠ 2 * n) ∧ Hid (∀ x ∈ rs,x.1.length < 4294967281) ∧ Hid (wr.ownsRow (w.heap.size + 1) 5 1 v acc.length (bv acc)) ∧ Hid (St wr g hi o rs Rd.dt0 0) ∧ Hid (Kb g w.heap.size w wr) ∧ w.heap.size < wr.heap.size) (fun _ wr=>wlen wr g)
 case atStart=>exact ⟨[],ws1,by simp,HG.out,H32.out,World.ownsRow_nil _ _ _ _,HS2.out,HK3.out,HZ3.out.lt⟩
 case round =>
  obtain ⟨acc,rs,hacc,HGA,H32,HO,HST,HK,hzs⟩:=hrel
  obtain ⟨Av,cv,rfl⟩:=own_form HO.out
  obtain ⟨A,c,c0⟩:=HST.out.front
  have hsz:=HK.out.size
  have hgr:=HST.out.lt
  have HKg:=Lib.hid (HK.out.toBelow (Nat.le_refl g) (Nat.le_of_lt hgw))
  have hsg : g ≤ wr.heap.size:=by omega
  cases rs with
  | cons x rs =>
   by_cases h1 : acc.length ≤ 2 * n
   · have hle : decide ((acc.length : Int) ≤ 2 * (n : Int)) = true:=by simp;omega
     cases h2 : x.2 with
     | true =>
      have HNO:=Lib.hid (rdPlain_no HST.out (by show (if x.2 then none else _) = none;rw [h2];rfl))
      clear h2
      go_wp2_with (go_at_call 117;refine HNO.out.mono ?_;rintro e w3 ⟨rfl,B3⟩;exact ⟨rfl,⟨rfl,HKg.out.trans B3⟩⟩)
     | false =>
      have h3 : Rd.gathR (2 * n) acc (x :: rs) = Rd.gathR (2 * n) (acc ++ x.1) rs:=by rw [Rd.gathR,if_pos h1,h2];rfl
      have hx32:=H32.out x (by simp)
      have HN2:=Lib.hid (rdPlain_any HST.out h2)
      have hg2:=HGA.out
      rw [h3] at hg2
      have HG2:=Lib.hid hg2
      have HW:=Lib.hid HST.out.wlen
      clear h2 h3 hg2
      go_wp2_with (first
       | (go_at_call 117;refine HN2.out.mono ?_;rintro e w3 ⟨rfl,S3,K3⟩;have HS3:=Lib.hid S3;have HO3:=Lib.hid (own_kb HO.out K3 (by omega));have hsz3 : w.heap.size + 1 ≤ w3.heap.size:=Nat.le_trans (by omega) K3.size;have HK3:=Lib.hid (HK.out.on K3);clear S3 K3)
       | (at_builtin;refine wpList_append_run rfl (.tmp 29) (.tmp 31) _ _ rfl _ _ rfl rfl (R:=fun v' w' => w'.ownsRow (w.heap.size + 1) 5 1 v' (acc ++ x.1).length (bv (acc ++ x.1)) ∧ w3.grownBy w' (Value.slice Av acc.length cv).ownBlock) (app_str i0 hi0 hz0 hz1 hz2 HO3.out (by omega) hsz3) ?_;rintro v4 w4 ⟨O4,G4⟩;have B4:=below_self G4 (B:=g + 1) (by omega) (fun k hk=>by have:=(HO3.out.lt k hk).1;omega);have HS4:=Lib.hid (HS3.out.keepG B4);have hsz4 : w.heap.size < w4.heap.size:=Nat.lt_of_lt_of_le hsz3 B4.size;have HO4:=Lib.hid O4;have HK4:=Lib.hid (HK3.out.ownRow G4 (fun k hk=>by have:=(HO3.out.lt k hk).1;omega) (by omega));clear O4 G4 B4))
      exact ⟨⟨acc ++ x.1,rs,by simp;omega,HG2.out,fun y hy=>H32.out y (by simp [hy]),HO4.out,HS4.out,HK4.out,hsz4⟩,by rw [HS4.out.wlen,HW.out];simp⟩
   · have hle : decide ((acc.length : Int) ≤ 2 * (n : Int)) = false:=by simp;omega
     have hne : ((acc.length : Int) != 2 * (n : Int)) = true:=by simp;omega
     go_wp2_with (go_at_call 118;refine (HGU.out _).mono ?_;rintro e w3 ⟨rfl,B3⟩;exact ⟨rfl,⟨rfl,HKg.out.trans (B3.mono hsg)⟩⟩)
  | nil =>
   have hne : ((acc.length : Int) != 2 * (n : Int)) = true:=by
    rcases HGA.out with h | ⟨ds,rest,h,hl⟩
    · rw [Rd.gathR] at h;cases h
    · rw [Rd.gathR] at h
      injection h with h
      injection h with h _
      subst h
      simp
      omega
   go_wp2_with (go_at_call 118;refine (HGU.out _).mono ?_;rintro e w3 ⟨rfl,B3⟩;exact ⟨rfl,⟨rfl,HKg.out.trans (B3.mono hsg)⟩⟩)
end
end Go.Proofs.YtekafhogiambaaaGreatDoor
namespace Go.Proofs.YtekafhogiambaaaGreatDoor
open Go.RowKit
section
variable {g hi t : Nat} {o : ByteArray} {ws ws1 : List Rd.W2} {x0 x1 : Rd.W2} {w : World}
set_option maxHeartbeats 2000000 in
theorem rdAny_noTwo (h : St w g hi o (x0 :: x1 :: ws1) Rd.dt0 0) (hx1 : x1.2 = false) {n : Nat} (hn : Rd.num x1.1 65535 = some n) {ds : List UInt8} {rest : List Rd.W2} (hga : Rd.gathR (2 * n) [] ws1 = some (ds,rest)) (hl2 : ds.length = 2 * n) (htw : Rd.twoR ds = none) (h32 : ∀ x ∈ ws1,x.1.length < 4294967281) :
 Calls Tryz.prog 98 #[.pointer (some ⟨g,0,none⟩),.int .u16 t] w fun e w' => Rf g w e w':=by
 obtain ⟨i0,hi0,hz0,hz1,hz2⟩:=info_parts Tryz.infoByte
 have hgw:=h.lt
 have hn16 : n ≤ 65535:=Rd.num_le hn
 have HS0:=Lib.hid h
 have HNB:=Lib.hid (fun (W : World) (hS : St W g hi o (x1 :: ws1) Rd.dt0 0)=>rdNumberR_ok hS hx1 16 (.inr (.inl rfl)) hn)
 have HG:=Lib.hid hga
 have HL2:=Lib.hid hl2
 have H32:=Lib.hid h32
 obtain ⟨k0,hk0,⟨hk1,hk2⟩,hk3⟩:=Rd.twoR_no hl2 htw
 have HNO:=Lib.hid hk2
 have HYES:=Lib.hid hk3
 clear h hn hga htw hl2 h32 hk2 hk3
 go_enter Tryz.func98,Tryz.ntmps98
 have hS1 : ∀ W,Below w.heap.size w W → St W g hi o (x0 :: x1 :: ws1) Rd.dt0 0:=fun W hb=>HS0.out.keep hb
 have HN:=Lib.hid (fun (W : World) (hb : Below w.heap.size w W)=>rdNext_any (hS1 W hb))
 clear hS1
 have hB1:=(Below.refl w.heap.size w).alloc (Nat.le_refl _) (.cells #[.string ⟨#[]⟩,.string ⟨#[]⟩,.string ⟨#[]⟩,.int .u32 0,.int .u32 0,.int .u32 0,.int .u32 0,.int .u32 0] 37)
 have hZ1:=Has.fresh w 37 #[.string ⟨#[]⟩,.string ⟨#[]⟩,.string ⟨#[]⟩,.int .u32 0,.int .u32 0,.int .u32 0,.int .u32 0,.int .u32 0]
 have HB1:=Lib.hid hB1
 have HZ1:=Lib.hid hZ1
 have HK1 : Hid (Kb g w.heap.size w (w.alloc (.cells #[.string ⟨#[]⟩,.string ⟨#[]⟩,.string ⟨#[]⟩,.int .u32 0,.int .u32 0,.int .u32 0,.int .u32 0,.int .u32 0] 37))):=Kb.of_below hB1
 clear hB1 hZ1
 go_wp2_with (first
  | (go_at_call 115;refine (HN.out _ HB1.out).mono ?_;rintro e w1 ⟨l1,k1,rfl,S1,K1⟩;have HS1:=Lib.hid S1;have HK2:=Lib.hid (HK1.out.on K1);have HZ2:=Lib.hid (K1.has HZ1.out HZ1.out.lt (by omega));clear S1 K1)
  | (go_at_call 116;refine (HNB.out _ HS1.out).mono ?_;rintro e w2 ⟨rfl,S2,K2⟩;have HS2:=Lib.hid S2;have HK3:=Lib.hid (HK2.out.on K2);have HZ3:=Lib.hid (K2.has HZ2.out HZ2.out.lt (by omega));clear S2 K2))
 have hg0:=HG.out
 go_loopw [6] (fun v wr => ∃ (acc : List UInt8) (rs : List Rd.W2),acc.length ≤ 8000000000 ∧ Hid (Rd.gathR (2 * n) acc rs = some (ds,rest)) ∧ Hid (∀ x ∈ rs,x.1.length < 4294967281) ∧ Hid (wr.ownsRow (w.heap.size + 1) 5 1 v acc.length (bv acc)) ∧ Hid (St wr g hi o rs Rd.dt0 0) ∧ Hid (Kb g w.heap.size w wr) ∧ Hid (Has wr w.heap.size 37 #[.string ⟨#[]⟩,.string ⟨#[]⟩,.string ⟨#[]⟩,.int .u32 0,.int .u32 0,.int .u32 0,.int .u32 0,.int .u32 0])) (fun _ wr=>wlen wr g)
 case atStart=>exact ⟨[],ws1,by simp,HG.out,H32.out,World.ownsRow_nil _ _ _ _,HS2.out,HK3.out,HZ3.out⟩
 case round =>
  obtain ⟨acc,rs,hacc,HGA,H32,HO,HST,HK,HZ⟩:=hrel
  obtain ⟨Av,cv,rfl⟩:=own_form HO.out
  obtain ⟨A,c,c0⟩:=HST.out.front
  have hsz:=HK.out.size
  have hzs:=HZ.out.lt
  cases rs with
  | cons x rs =>
   obtain ⟨h1,h2,h3⟩ : acc.length ≤ 2 * n ∧ x.2 = false ∧ Rd.gathR (2 * n) (acc ++ x.1) rs = some (ds,rest):=by
    rcases Rd.gathR_step HGA.out with h | ⟨h1,h2⟩
    · exact h
    · injection h2 with h2 _
      exfalso
      have:=HL2.out
      rw [h2] at this
      omega
   have hle : decide ((acc.length : Int) ≤ 2 * (n : Int)) = true:=by simp;omega
   have hx32:=H32.out x (by simp)
   have HN2:=Lib.hid (rdPlain_any HST.out h2)
   have HG2:=Lib.hid h3
   have HW:=Lib.hid HST.out.wlen
   have hc : ((x :: rs).length : Int) = (rs.length : Int) + 1:=by simp
   clear h2 h3 hc
   go_wp2_with (first
    | (go_at_call 117;refine HN2.out.mono ?_;rintro e w3 ⟨rfl,S3,K3⟩;have HS3:=Lib.hid S3;have HO3:=Lib.hid (own_kb HO.out K3 (by omega));have HZ3:=Lib.hid (K3.has HZ.out HZ.out.lt (by omega));have hsz3 : w.heap.size + 1 ≤ w3.heap.size:=Nat.le_trans (by omega) K3.size;have HK3:=Lib.hid (HK.out.on K3);clear S3 K3)
    | (at_builtin;refine wpList_append_run rfl (.tmp 29) (.tmp 31) _ _ rfl _ _ rfl rfl (R:=fun v' w' => w'.ownsRow (w.heap.size + 1) 5 1 v' (acc ++ x.1).length (bv (acc ++ x.1)) ∧ w3.grownBy w' (Value.slice Av acc.length cv).ownBlock) (app_str i0 hi0 hz0 hz1 hz2 HO3.out (by omega) hsz3) ?_;rintro v4 w4 ⟨O4,G4⟩;have B4:=below_self G4 (B:=g + 1) (by omega) (fun k hk=>by have:=(HO3.out.lt k hk).1;omega);have HS4:=Lib.hid (HS3.out.keepG B4);have HZ4:=Lib.hid (HZ3.out.grown G4 (fun e=>by have:=(HO3.out.lt _ e.symm).1;omega));have HO4:=Lib.hid O4;have HK4:=Lib.hid (HK3.out.ownRow G4 (fun k hk=>by have:=(HO3.out.lt k hk).1;omega) (by omega));clear O4 G4 B4))
   exact ⟨⟨acc ++ x.1,rs,by simp;omega,HG2.out,fun y hy=>H32.out y (by simp [hy]),HO4.out,HS4.out,HK4.out,HZ4.out⟩,by rw [HS4.out.wlen,HW.out];simp⟩
  | nil =>
   obtain ⟨wq,hwq⟩ : ∃ x,x = wr:=⟨_,rfl⟩
   subst hwq
   replace c0 : wq.cell? ⟨g,0,none⟩ = some (.slice A 0 c):=c0
   have hga:=HGA.out
   rw [Rd.gathR] at hga
   injection hga with hga
   injection hga with hga _
   subst hga
   have hle : ((acc.length : Int) != 2 * (n : Int)) = false:=by
    have:=HL2.out
    simp
    omega
   have hgr:=HST.out.lt
   go_wp2_with (refine wpList_make_lc rfl (.tmp 40) (.tmp 40) 51 rfl 5 i0 Tryz.underlying51 hi0 hz0 hz1 hz2 .i64 .i64 _ _ n n rfl rfl rfl rfl (Nat.le_refl _) (by omega) ?_;intro w5 H5 B5 Z5;have HH5:=Lib.hid H5;have HB5:=Lib.hid B5;have HZ5:=Lib.hid Z5;clear H5 B5 Z5)
   have h5 : Has w5 wq.heap.size 5 (rz n ([] : List UInt8)):=by rw [rz_nil];exact HH5.out
   have H5:=Lib.hid h5
   clear h5
   have HKg:=Lib.hid (HK.out.toBelow (Nat.le_refl g) (Nat.le_of_lt hgw))
   have hsg : g ≤ wq.heap.size:=by omega
   go_loopw [44] (fun i W => ∃ (k : Nat) (out : List UInt8),i = .int .i64 k ∧ k ≤ k0 ∧ out.length = k ∧ Hid (Has W wq.heap.size 5 (rz n out)) ∧ Hid (Below wq.heap.size wq W)) (fun i _=>n - (intOf i).toNat)
   case atStart=>exact ⟨0, [],rfl,by omega,rfl,H5.out,HB5.out⟩
   case round =>
    obtain ⟨k,out,rfl,hk,hout,HH,HB⟩:=hrel
    have hlt : k < n:=by omega
    have h2a : 2 * k + 1 < acc.length:=by have:=HL2.out;omega
    obtain ⟨gd,cp,hv,hcp,hgd,hgd2⟩:=own_pos HO.out (by omega)
    injection hv with hv1 hv2 hv3
    subst hv1
    subst hv3
    have c1:=own_cells HO.out
    have hbs : Bs wr 0 wq.heap.size (some ⟨gd,2 * k,none⟩) [acc[2 * k]'(by omega),acc[2 * k + 1]'h2a]:=fun _=>⟨gd,2 * k,rfl,Nat.zero_le _,hgd2,fun j hj=>by
     have hj2 : j < 2:=hj
     have e:=(HB.out.cell (p:=⟨gd,2 * k + j,none⟩) hgd2).trans (c1 (2 * k + j) _ (bv_get acc (2 * k + j) (by omega)))
     rcases (by omega : j = 0 ∨ j = 1) with rfl | rfl
     · exact e
     · exact e⟩
    have hcv:=run_convert_bs (w:=wr) (P:=Tryz.prog) 51 9 5 Tryz.underlying51 Tryz.underlying5 Tryz.underlying9 0 wq.heap.size (some ⟨gd,2 * k,none⟩) 2 (cv - 2 * k) [acc[2 * k]'(by omega),acc[2 * k + 1]'h2a] rfl hbs
    have hsl : ∀ W',(Instr.sliceAt 51 (.slice (some ⟨gd,0,none⟩) acc.length cv) (some (.int .i64 (2 * (k : Int)))) (some (.int .i64 (2 * (k : Int) + 2))) none).run Tryz.prog W' = .ok (.slice (some ⟨gd,2 * k,none⟩) 2 (cv - 2 * k)) W':=fun W' => by
     rw [run_sliceAt_slice W' 51 _ _ _ _ (by kernel_rfl),run_slice_lh W' 51 (some ⟨gd,0,none⟩) acc.length cv (by kernel_rfl) .i64 .i64 _ _ (by omega) (by omega) (by omega)]
     go_simp
     have q1 : (2 * (k : Int)).toNat = 2 * k:=by omega
     have q2 : (2 * (k : Int) + 2).toNat = 2 * k + 2:=by omega
     rw [q1,q2,if_neg (by omega)]
     exact ⟨rfl,by omega,rfl⟩
    have hki : (k : Int) < (n : Int):=by omega
    have hsw:=HB.out.size
    have HLW:=Lib.hid (HST.out.keep HB.out).gl.1
    by_cases hlk : k < k0
    · obtain ⟨rk,hrk⟩:=HYES.out k hlk h2a
      have HX:=Lib.hid (fun (W' : World)=>rdHex_ok (.pointer (some ⟨g,0,none⟩)) _ W' hrk)
      have hset:=rz_set (m:=n) out rk (by omega)
      rw [hout] at hset
      have hat:=rz_at (m:=n) out (by omega)
      rw [hout] at hat
      have HSET:=Lib.hid hset
      have ck : wr.cell? ⟨wq.heap.size,k,none⟩ = some (.int .u8 0):=by rw [HH.out.cell];exact hat
      have h8:=rk.toNat_lt
      have hwr : IntKind.u8.wrap (rk.toNat : Int) = (rk.toNat : Int):=by rw [IntKind.wrap_u8];omega
      clear hset hat hrk c1 hbs HYES HNO
      generalize acc[2 * k]'(by omega) = b1 at *
      generalize acc[2 * k + 1]'h2a = b2 at *
      go_wp2_with (go_at_call 119;refine (HX.out _).mono ?_;rintro e w6 ⟨rfl,B6⟩;have c6:=(B6.cell (p:=⟨wq.heap.size,k,none⟩) HH.out.lt).trans ck;have HH6:=Lib.hid (HH.out.below B6 HH.out.lt);have f6:=HH6.out.free k;have HB6:=Lib.hid (HB.out.trans (B6.mono hsw));clear B6)
      exact ⟨⟨k + 1,out ++ [rk],by go_num,by omega,by simp;omega,by rw [← HSET.out];exact HH6.out.set _ _,HB6.out.setCell (Nat.le_refl _) _⟩,by simp [intOf];omega⟩
    · obtain rfl : k = k0:=by omega
      have HX:=Lib.hid (fun (W' : World) (hL : Lay W')=>rdHex_no (.pointer (some ⟨g,0,none⟩)) _ W' hL (by simp) HNO.out)
      have HKW:=Lib.hid (HKg.out.trans (HB.out.mono hsg))
      clear c1 hbs HYES HNO
      generalize acc[2 * k]'(by omega) = b1 at *
      generalize acc[2 * k + 1]'h2a = b2 at *
      go_wp2_with (go_at_call 119;refine (HX.out _ HLW.out).mono ?_;rintro e w6 ⟨rfl,B6⟩;exact ⟨rfl,⟨rfl,HKW.out.trans (B6.mono (by omega))⟩⟩)
end
end Go.Proofs.YtekafhogiambaaaGreatDoor
