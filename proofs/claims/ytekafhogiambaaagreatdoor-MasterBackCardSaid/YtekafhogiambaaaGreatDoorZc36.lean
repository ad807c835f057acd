/- Texts of the proofs, merged. -/
import Derived.Test.YtekafhogiambaaaGreatDoorZc35
import Derived.StillTailTactics
import Derived.Test.YtekafhogiambaaaGreatDoorZc2
import Derived.Test.YtekafhogiambaaaGreatDoorZc32
import Derived.Calls
import Derived.Below
import Derived.Deep.Draws
import Derived.Sort.Grow
import Derived.Test.YtekafhogiambaaaGreatDoorZc3
import Derived.Deep.MidRow
import Derived.Laws.CopyRow
import Derived.Shelf.SlSortCmp.NoneTotal
import Derived.ProofKit
import Derived.OpenShut
import Derived.ShutString
import Derived.WideKeyArgs
import Derived.SliceStrings
import Derived.Deep.DeepHandedRow
import Derived.Deep.DeepWitnessRowRef
import Derived.Test.YtekafhogiambaaaGreatDoorZc4
import Derived.Deep.Slices
import Derived.Deep.Fields
import Derived.ChangeSame
set_option maxRecDepth 100000
namespace Go.Proofs.YtekafhogiambaaaGreatDoor
open Go.RowKit
def AnP (g : Nat) (x : Int) (X : Value) (w : World) (e : Ending) (w' : World) : Prop:=(x = 0 ∧ e = .returned X ∧ Kb g w.heap.size w w') ∨ (x ≠ 0 ∧ Rf g w e w')
section
variable {g hi t : Nat} {o : ByteArray} {ws ws1 : List Rd.W2} {x0 x1 : Rd.W2} {w : World}
set_option maxHeartbeats 2000000 in
theorem rdAny_via (h : St w g hi o (x0 :: ws) Rd.dt0 0) {raw : List UInt8} (hr : Rd.anyR ws = some raw) (h32 : ∀ x ∈ ws,x.1.length < 4294967281) (r0 : ByteArray) (r1 r2 : ByteArray) (m0 m1 m2 m3 m4 x : Int)
 (hT : ∀ (B : Nat) (W : World),LayR W → Bs W 0 W.heap.size (some ⟨B,0,none⟩) raw → Calls Tryz.prog 120 #[.slice (some ⟨B,0,none⟩) raw.length raw.length,.int .i64 0,.int .i64 raw.length,.int .u16 t] W fun e w' => e = .returned (.tuple #[.agg #[.string r0,.string r1,.string r2,.int .u32 m0,.int .u32 m1,.int .u32 m2,.int .u32 m3,.int .u32 m4],.int .i64 x]) ∧ Below W.heap.size W w') :
 Calls Tryz.prog 98 #[.pointer (some ⟨g,0,none⟩),.int .u16 t] w fun e w' => AnP g x (.agg #[.string r0,.string r1,.string r2,.int .u32 m0,.int .u32 m1,.int .u32 m2,.int .u32 m3,.int .u32 m4]) w e w':=by
 obtain ⟨i0,hi0,hz0,hz1,hz2⟩:=info_parts Tryz.infoByte
 have hgw:=h.lt
 have HGU:=Lib.hid (fun W : World=>rdGiveUp_any (.pointer (some ⟨g,0,none⟩)) W)
 unfold Rd.anyR at hr
 obtain ⟨y1,hy1,hq⟩:=Rd.bind_some' hr
 clear hr
 obtain ⟨x1,ws1,rfl,hx1,rfl⟩:=Rd.plainW_some hy1
 obtain ⟨n,hn,hq2⟩:=Rd.bind_some' hq
 clear hq hy1
 obtain ⟨⟨ds,rest⟩,hga,hq⟩:=Rd.bind_some' hq2
 clear hq2
 have hl2 : ds.length = 2 * n:=Decidable.byContradiction fun hl=>by rw [if_neg hl] at hq;cases hq
 rw [if_pos hl2] at hq
 obtain ⟨htl0,hta⟩:=Rd.twoR_at hq
 have htl : ds.length = 2 * raw.length:=htl0
 clear htl0
 have hrn : raw.length = n:=by omega
 have hn16 : n ≤ 65535:=Rd.num_le hn
 have HS0:=Lib.hid h
 have HNB:=Lib.hid (fun (W : World) (hS : St W g hi o (x1 :: ws1) Rd.dt0 0)=>rdNumberR_ok hS hx1 16 (.inr (.inl rfl)) hn)
 have HG:=Lib.hid hga
 have HTA:=Lib.hid hta
 have HRN:=Lib.hid hrn
 have HL2:=Lib.hid hl2
 have H32:=Lib.hid (fun x (hx : x ∈ ws1)=>h32 x (by simp [hx]))
 clear h hq hta hn hga h32 htl hrn hl2
 go_enter Tryz.func98,Tryz.ntmps98
 have hS1 : ∀ W,Below w.heap.size w W → St W g hi o (x0 :: x1 :: ws1) Rd.dt0 0:=fun W hb=>HS0.out.keep hb
 have HN:=Lib.hid (fun (W : World) (hb : Below w.heap.size w W)=>rdNext_any (hS1 W hb))
 clear hS1
 have hB1:=(Below.refl w.heap.size w).alloc (Nat.le_refl _) (.cells #[.string ⟨#[]⟩,.string ⟨#[]⟩,.string ⟨#[]⟩,.int .u32 0,.int .u32 0,.int .u32 0,.int .u32 0,.int .u32 0] 37)
 have hZ1:=Has.fresh w 37 #[.string ⟨#[]⟩,.string ⟨#[]⟩,.string ⟨#[]⟩,.int .u32 0,.int .u32 0,.int .u32 0,.int .u32 0,.int .u32 0]
 have HB1:=Lib.hid hB1
 have HZ1:=Lib.hid hZ1
 have HK1 : Hid (Kb g w.heap.size w (w.alloc (.cells #[.string ⟨#[]⟩,.string ⟨#[]⟩,.string ⟨#[]⟩,.int .u32 0,.int .u32 0,.int .u32 0,.int .u32 0,.int .u32 0] 37))):=Kb.of_below hB1
 clear hB1 hZ1
 go_wp2_with (first
  | (go_at_call 115;refine (HN.out _ HB1.out).mono ?_;rintro e w1 ⟨l1,k1,rfl,S1,K1⟩;have HS1:=Lib.hid S1;have HK2:=Lib.hid (HK1.out.on K1);have HZ2:=Lib.hid (K1.has HZ1.out HZ1.out.lt (by omega));clear S1 K1)
  | (go_at_call 116;refine (HNB.out _ HS1.out).mono ?_;rintro e w2 ⟨rfl,S2,K2⟩;have HS2:=Lib.hid S2;have HK3:=Lib.hid (HK2.out.on K2);have HZ3:=Lib.hid (K2.has HZ2.out HZ2.out.lt (by omega));clear S2 K2))
 have hg0:=HG.out
 go_loopw [6] (fun v wr => ∃ (acc : List UInt8) (rs : List Rd.W2),acc.length ≤ 8000000000 ∧ Hid (Rd.gathR (2 * n) acc rs = some (ds,rest)) ∧ Hid (∀ x ∈ rs,x.1.length < 4294967281) ∧ Hid (wr.ownsRow (w.heap.size + 1) 5 1 v acc.length (bv acc)) ∧ Hid (St wr g hi o rs Rd.dt0 0) ∧ Hid (Kb g w.heap.size w wr) ∧ Hid (Has wr w.heap.size 37 #[.string ⟨#[]⟩,.string ⟨#[]⟩,.string ⟨#[]⟩,.int .u32 0,.int .u32 0,.int .u32 0,.int .u32 0,.int .u32 0])) (fun _ wr=>wlen wr g)
 case atStart=>exact ⟨[],ws1,by simp,HG.out,H32.out,World.ownsRow_nil _ _ _ _,HS2.out,HK3.out,HZ3.out⟩
 case round =>
  obtain ⟨acc,rs,hacc,HGA,H32,HO,HST,HK,HZ⟩:=hrel
  obtain ⟨Av,cv,rfl⟩:=own_form HO.out
  obtain ⟨A,c,c0⟩:=HST.out.front
  have hsz:=HK.out.size
  have hzs:=HZ.out.lt
  cases rs with
  | cons x rs =>
   obtain ⟨h1,h2,h3⟩ : acc.length ≤ 2 * n ∧ x.2 = false ∧ Rd.gathR (2 * n) (acc ++ x.1) rs = some (ds,rest):=by
    rcases Rd.gathR_step HGA.out with h | ⟨h1,h2⟩
    · exact h
    · injection h2 with h2 _
      exfalso
      have:=HL2.out
      rw [h2] at this
      omega
   have hle : decide ((acc.length : Int) ≤ 2 * (n : Int)) = true:=by simp;omega
   have hx32:=H32.out x (by simp)
   have HN2:=Lib.hid (rdPlain_any HST.out h2)
   have HG2:=Lib.hid h3
   have HW:=Lib.hid HST.out.wlen
   have hc : ((x :: rs).length : Int) = (rs.length : Int) + 1:=by simp
   clear h2 h3 hc
   go_wp2_with (first
    | (go_at_call 117;refine HN2.out.mono ?_;rintro e w3 ⟨rfl,S3,K3⟩;have HS3:=Lib.hid S3;have HO3:=Lib.hid (own_kb HO.out K3 (by omega));have HZ3:=Lib.hid (K3.has HZ.out HZ.out.lt (by omega));have hsz3 : w.heap.size + 1 ≤ w3.heap.size:=Nat.le_trans (by omega) K3.size;have HK3:=Lib.hid (HK.out.on K3);clear S3 K3)
    | (at_builtin;refine wpList_append_run rfl (.tmp 29) (.tmp 31) _ _ rfl _ _ rfl rfl (R:=fun v' w' => w'.ownsRow (w.heap.size + 1) 5 1 v' (acc ++ x.1).length (bv (acc ++ x.1)) ∧ w3.grownBy w' (Value.slice Av acc.length cv).ownBlock) (app_str i0 hi0 hz0 hz1 hz2 HO3.out (by omega) hsz3) ?_;rintro v4 w4 ⟨O4,G4⟩;have B4:=below_self G4 (B:=g + 1) (by omega) (fun k hk=>by have:=(HO3.out.lt k hk).1;omega);have HS4:=Lib.hid (HS3.out.keepG B4);have HZ4:=Lib.hid (HZ3.out.grown G4 (fun e=>by have:=(HO3.out.lt _ e.symm).1;omega));have HO4:=Lib.hid O4;have HK4:=Lib.hid (HK3.out.ownRow G4 (fun k hk=>by have:=(HO3.out.lt k hk).1;omega) (by omega));clear O4 G4 B4))
   exact ⟨⟨acc ++ x.1,rs,by simp;omega,HG2.out,fun y hy=>H32.out y (by simp [hy]),HO4.out,HS4.out,HK4.out,HZ4.out⟩,by rw [HS4.out.wlen,HW.out];simp⟩
  | nil =>
   obtain ⟨wq,hwq⟩ : ∃ x,x = wr:=⟨_,rfl⟩
   subst hwq
   replace c0 : wq.cell? ⟨g,0,none⟩ = some (.slice A 0 c):=c0
   have hga:=HGA.out
   rw [Rd.gathR] at hga
   injection hga with hga
   injection hga with hga _
   subst hga
   have hle : ((acc.length : Int) != 2 * (n : Int)) = false:=by
    have:=HL2.out
    simp
    omega
   have HM : Hid (∀ W,LayR W → Bs W 0 W.heap.size (some ⟨wq.heap.size,0,none⟩) raw → Calls Tryz.prog 120 #[.slice (some ⟨wq.heap.size,0,none⟩) n n,.int .i64 0,.int .i64 n,.int .u16 t] W fun e w' => e = .returned (.tuple #[.agg #[.string r0,.string r1,.string r2,.int .u32 m0,.int .u32 m1,.int .u32 m2,.int .u32 m3,.int .u32 m4],.int .i64 x]) ∧ Below W.heap.size W w'):=fun W hL hb=>by
    have:=hT wq.heap.size W hL hb
    rw [HRN.out] at this
    exact this
   clear hT
   have hgr:=HST.out.lt
   go_wp2_with (refine wpList_make_lc rfl (.tmp 40) (.tmp 40) 51 rfl 5 i0 Tryz.underlying51 hi0 hz0 hz1 hz2 .i64 .i64 _ _ n n rfl rfl rfl rfl (Nat.le_refl _) (by omega) ?_;intro w5 H5 B5 Z5;have HH5:=Lib.hid H5;have HB5:=Lib.hid B5;have HZ5:=Lib.hid Z5;clear H5 B5 Z5)
   have h5 : Has w5 wq.heap.size 5 (rz n (raw.take 0)):=by rw [List.take_zero,rz_nil];exact HH5.out
   have H5:=Lib.hid h5
   clear h5
   go_loopw [44] (fun i W => ∃ k : Nat,i = .int .i64 k ∧ k ≤ n ∧ Hid (Has W wq.heap.size 5 (rz n (raw.take k))) ∧ Hid (Below wq.heap.size wq W)) (fun i _=>n - (intOf i).toNat)
   case atStart=>exact ⟨0,rfl,by omega,H5.out,HB5.out⟩
   case round =>
    obtain ⟨k,rfl,hk,HH,HB⟩:=hrel
    by_cases hlt : k < n
    · have hkr : k < raw.length:=by rw [HRN.out];exact hlt
      have h2a : 2 * k + 1 < acc.length:=by have:=HL2.out;omega
      obtain ⟨gd,cp,hv,hcp,hgd,hgd2⟩:=own_pos HO.out (by omega)
      injection hv with hv1 hv2 hv3
      subst hv1
      subst hv3
      have c1:=own_cells HO.out
      have hbs : Bs wr 0 wq.heap.size (some ⟨gd,2 * k,none⟩) [acc[2 * k]'(by omega),acc[2 * k + 1]'h2a]:=fun _=>⟨gd,2 * k,rfl,Nat.zero_le _,hgd2,fun j hj=>by
       have hj2 : j < 2:=hj
       have e:=(HB.out.cell (p:=⟨gd,2 * k + j,none⟩) hgd2).trans (c1 (2 * k + j) _ (bv_get acc (2 * k + j) (by omega)))
       rcases (by omega : j = 0 ∨ j = 1) with rfl | rfl
       · exact e
       · exact e⟩
      have hcv:=run_convert_bs (w:=wr) (P:=Tryz.prog) 51 9 5 Tryz.underlying51 Tryz.underlying5 Tryz.underlying9 0 wq.heap.size (some ⟨gd,2 * k,none⟩) 2 (cv - 2 * k) [acc[2 * k]'(by omega),acc[2 * k + 1]'h2a] rfl hbs
      have hsl : ∀ W',(Instr.sliceAt 51 (.slice (some ⟨gd,0,none⟩) acc.length cv) (some (.int .i64 (2 * (k : Int)))) (some (.int .i64 (2 * (k : Int) + 2))) none).run Tryz.prog W' = .ok (.slice (some ⟨gd,2 * k,none⟩) 2 (cv - 2 * k)) W':=fun W' => by
       rw [run_sliceAt_slice W' 51 _ _ _ _ (by kernel_rfl),run_slice_lh W' 51 (some ⟨gd,0,none⟩) acc.length cv (by kernel_rfl) .i64 .i64 _ _ (by omega) (by omega) (by omega)]
       go_simp
       have q1 : (2 * (k : Int)).toNat = 2 * k:=by omega
       have q2 : (2 * (k : Int) + 2).toNat = 2 * k + 2:=by omega
       rw [q1,q2,if_neg (by omega)]
       exact ⟨rfl,by omega,rfl⟩
      have HX:=Lib.hid (fun (W' : World)=>rdHex_ok (.pointer (some ⟨g,0,none⟩)) _ W' (HTA.out k hkr h2a))
      have hrt : (raw.take k).length = k:=by rw [List.length_take,HRN.out];omega
      have hrk : raw.take (k + 1) = raw.take k ++ [raw[k]'hkr]:=List.take_succ_eq_append_getElem hkr
      have hset:=rz_set (m:=n) (raw.take k) (raw[k]'hkr) (by omega)
      rw [hrt,← hrk] at hset
      have hat:=rz_at (m:=n) (raw.take k) (by omega)
      rw [hrt] at hat
      have HSET:=Lib.hid hset
      have ck : wr.cell? ⟨wq.heap.size,k,none⟩ = some (.int .u8 0):=by rw [HH.out.cell];exact hat
      have h8:=(raw[k]'hkr).toNat_lt
      generalize acc[2 * k]'(by omega) = b1 at *
      generalize acc[2 * k + 1]'h2a = b2 at *
      generalize raw[k]'hkr = rk at *
      have hwr : IntKind.u8.wrap (rk.toNat : Int) = (rk.toNat : Int):=by rw [IntKind.wrap_u8];omega
      have hki : (k : Int) < (n : Int):=by omega
      have hsw:=HB.out.size
      clear hset hat hrk hrt hbs c1
      go_wp2_with (go_at_call 119;refine (HX.out _).mono ?_;rintro e w6 ⟨rfl,B6⟩;have c6:=(B6.cell (p:=⟨wq.heap.size,k,none⟩) HH.out.lt).trans ck;have HH6:=Lib.hid (HH.out.below B6 HH.out.lt);have f6:=HH6.out.free k;have HB6:=Lib.hid (HB.out.trans (B6.mono hsw));clear B6)
      exact ⟨⟨k + 1,by go_num,by omega,by rw [← HSET.out];exact HH6.out.set _ _,HB6.out.setCell (Nat.le_refl _) _⟩,by simp [intOf];omega⟩
    · obtain rfl : k = n:=by omega
      have hrt : raw.take k = raw:=List.take_of_length_le (by rw [HRN.out];exact Nat.le_refl _)
      have hH:=HH.out
      rw [hrt] at hH
      have hbs : Bs wr 0 wr.heap.size (some ⟨wq.heap.size,0,none⟩) raw:=fun _=>⟨wq.heap.size,0,rfl,Nat.zero_le _,hH.lt,fun j hj=>by
       rw [hH.cell,Nat.zero_add]
       unfold rz
       rw [List.getElem?_toArray,List.getElem?_append_left (by rw [bv_length];exact hj)]
       exact bv_get raw j hj⟩
      have HTK:=Lib.hid (HM.out wr (HST.out.keep HB.out).gl.2.1 hbs)
      have HKW:=Lib.hid (HK.out.onB HB.out)
      have HZW:=Lib.hid (HZ.out.below HB.out HZ.out.lt)
      have hi8 : (Tryz.prog.info? 37).map (·.size) = some 8:=by kernel_rfl
      have HI:=Lib.hid hi8
      clear hH hbs hrt hi8
      have HKg:=Lib.hid ((HK.out.toBelow (Nat.le_refl g) (Nat.le_of_lt hgw)).trans (HB.out.mono (by omega)))
      have hsw:=HB.out.size
      by_cases hx : x = 0
      · subst hx
        go_wp2_with (first
         | (go_at_call 120;refine HTK.out.mono ?_;rintro e w7 ⟨rfl,B7⟩;have HK7:=Lib.hid (HKW.out.onB B7);have HZ7:=Lib.hid (HZW.out.below B7 HZW.out.lt);clear B7)
         | (refine wpList_store_row rfl 37 (.tmp 4) (.tmp 73) rfl w.heap.size #[.string r0,.string r1,.string r2,.int .u32 m0,.int .u32 m1,.int .u32 m2,.int .u32 m3,.int .u32 m4] rfl rfl 37 _ (HZ7.out.alloc _) HI.out rfl (by simp [Value.oneCell']) ?_))
        refine bodyPost_ret (results_cell_row rfl _ _ w.heap.size 37 #[.string r0,.string r1,.string r2,.int .u32 m0,.int .u32 m1,.int .u32 m2,.int .u32 m3,.int .u32 m4] (0,0) _ rfl ((HZ7.out.alloc _).row _) Tryz.underlying37 rfl HI.out) rfl ?_
        exact .inl ⟨rfl,rfl,(HK7.out.alloc HK7.out.size _).trans (Kb.of_below (below_setRow (Below.refl _ _) (Nat.le_refl _) _))⟩
      · have hne : (x != 0) = true:=by simpa using hx
        go_wp2_with (first
         | (go_at_call 120;refine HTK.out.mono ?_;rintro e w7 ⟨rfl,B7⟩;have HB7:=Lib.hid (HKg.out.trans (B7.mono (by omega)));have hs7:=B7.size;clear B7)
         | (refine wpList_store_row rfl 37 (.tmp 4) (.tmp 73) rfl w.heap.size #[.string r0,.string r1,.string r2,.int .u32 m0,.int .u32 m1,.int .u32 m2,.int .u32 m3,.int .u32 m4] rfl rfl 37 _ (HZ7.out.alloc _) HI.out rfl (by simp [Value.oneCell']) ?_)
         | (go_at_call 118;refine (HGU.out _).mono ?_;rintro e w8 ⟨rfl,B8⟩;exact ⟨rfl,.inr ⟨hx,rfl,(HB7.out.alloc (by omega) _).trans (B8.mono (by simp;omega))⟩⟩))
end
end Go.Proofs.YtekafhogiambaaaGreatDoor
namespace Go.Proofs.YtekafhogiambaaaGreatDoor
open Go.RowKit
def dz : Array Value:=#[.string ⟨#[]⟩,.string ⟨#[]⟩,.string ⟨#[]⟩,.int .u32 0,.int .u32 0,.int .u32 0,.int .u32 0,.int .u32 0]
theorem set_same {a : Array Value} {i : Nat} {v : Value} (h : a[i]? = some v) : a.setIfInBounds i v = a:=by
 obtain ⟨hi,rfl⟩:=Array.getElem?_eq_some_iff.1 h
 apply Array.ext
 · simp
 · intro j h1 h2
   rw [Array.getElem_setIfInBounds (by simpa using h1)]
   split
   · rename_i e;subst e;rfl
   · rfl
theorem has_same {W : World} {D : Nat} {ty : TypeId} {a : Array Value} (h : Has W D ty a) (i : Nat) (v : Value) (hv : a[i]? = some v) : Has (W.setCell ⟨D,i,none⟩ v) D ty a:=by
 have:=h.set i v
 rwa [set_same hv] at this
theorem has_drew {W : World} {D : Nat} {ty : TypeId} {a : Array Value} (h : Has W D ty a) : Has W.drew D ty a:=h
set_option maxHeartbeats 1000000 in
theorem catch_hit (D E : Nat) (v x : Int) (W : World) (hD : Has W D 37 dz) (hE : Has W E 27 #[.int .i64 x]) (hne : D ≠ E) :
 CallsD Tryz.prog 97 #[.pointer (some ⟨D,0,none⟩),.pointer (some ⟨E,0,none⟩)] (.panicking [{ v:=.iface 27 (.int .i64 v),recovered:=false }]) W fun e u' w' => e = .returned (.tuple #[]) ∧ u' = .panicking [{ v:=.iface 27 (.int .i64 v),recovered:=true }] ∧ Has w' D 37 dz ∧ Has w' E 27 #[.int .i64 v] ∧ (∀ B,B ≤ D → B ≤ E → Below B W w'):=by
 have hi8 : (Tryz.prog.info? 37).map (·.size) = some 8:=by kernel_rfl
 refine callsD_of_wpS Tryz.func97 rfl fun c₀ cs hu=>?_
 apply wpS_seq
 apply wpS_region
 simp [wpOpsS,go_sem,recoverD,hu,Tryz.ntmps97,Exit.thenS]
 apply wpS_seq
 apply wpS_region
 simp [wpOpsS,go_sem,Exit.thenS]
 refine wpS_cond (t:=true) (by simp [Act.eval,Array.replicate]) ?_
 simp only [if_true]
 refine wpS_of_wp ?_
 have hta : ∀ W' : World,(Instr.typeAssert (.iface 27 (.int .i64 v)) 20 27 false).run Tryz.prog W' = .ok (.int .i64 v) W':=fun W' => by
  rfl
 have hfr : ((#[.pointer (some ⟨D,0,none⟩),.pointer (some ⟨E,0,none⟩)] : Array Value) ++ ((((Array.replicate 7 undef).setIfInBounds 1 (Value.iface 27 (.int .i64 v))).setIfInBounds 0 (Value.iface 27 (.int .i64 v))).setIfInBounds 2 (Value.iface 27 (.int .i64 v))).setIfInBounds 3 (Value.bool true)) = #[.pointer (some ⟨D,0,none⟩),.pointer (some ⟨E,0,none⟩),Value.iface 27 (.int .i64 v),Value.iface 27 (.int .i64 v),Value.iface 27 (.int .i64 v),.bool true,undef,undef,undef]:=rfl
 rw [hfr]
 clear hfr
 have z : ∀ i,W.frozen? ⟨D,i,none⟩ = false:=fun i=>hD.free i
 have c : ∀ i (v : Value),dz[i]? = some v → W.cell? ⟨D,i,none⟩ = some v:=fun i v h=>by rw [hD.cell];exact h
 have c0:=c 0 _ rfl
 have c1:=c 1 _ rfl
 have c2:=c 2 _ rfl
 have c3:=c 3 _ rfl
 have c4:=c 4 _ rfl
 have c5:=c 5 _ rfl
 have c6:=c 6 _ rfl
 have c7:=c 7 _ rfl
 have z0:=z 0
 have z1:=z 1
 have z2:=z 2
 have z3:=z 3
 have z4:=z 4
 have z5:=z 5
 have z6:=z 6
 have z7:=z 7
 have e0 : W.cell? ⟨E,0,none⟩ = some (.int .i64 x):=by rw [hE.cell];rfl
 have y0 : W.frozen? ⟨E,0,none⟩ = false:=hE.free 0
 have hne2 : E ≠ D:=fun e=>hne e.symm
 clear z c
 go_region
 have hD2:=has_drew ((has_same (has_same (has_same (has_same (has_same (has_same (has_same (has_same hD 0 (.string ⟨#[]⟩) rfl) 1 (.string ⟨#[]⟩) rfl) 2 (.string ⟨#[]⟩) rfl) 3 (.int .u32 0) rfl) 4 (.int .u32 0) rfl) 5 (.int .u32 0) rfl) 6 (.int .u32 0) rfl) 7 (.int .u32 0) rfl).far (p:=⟨E,0,none⟩) hne (.int .i64 v))
 have hE2:=has_drew (((((((((hE.far (p:=⟨D,0,none⟩) hne2 (.string ⟨#[]⟩)).far (p:=⟨D,1,none⟩) hne2 (.string ⟨#[]⟩)).far (p:=⟨D,2,none⟩) hne2 (.string ⟨#[]⟩)).far (p:=⟨D,3,none⟩) hne2 (.int .u32 0)).far (p:=⟨D,4,none⟩) hne2 (.int .u32 0)).far (p:=⟨D,5,none⟩) hne2 (.int .u32 0)).far (p:=⟨D,6,none⟩) hne2 (.int .u32 0)).far (p:=⟨D,7,none⟩) hne2 (.int .u32 0)).set 0 (.int .i64 v))
 have hB2:=fun (B : Nat) (h1 : B ≤ D) (h2 : B ≤ E)=>((((((((((Below.refl B W).setCell (p:=⟨D,0,none⟩) h1 (.string ⟨#[]⟩)).setCell (p:=⟨D,1,none⟩) h1 (.string ⟨#[]⟩)).setCell (p:=⟨D,2,none⟩) h1 (.string ⟨#[]⟩)).setCell (p:=⟨D,3,none⟩) h1 (.int .u32 0)).setCell (p:=⟨D,4,none⟩) h1 (.int .u32 0)).setCell (p:=⟨D,5,none⟩) h1 (.int .u32 0)).setCell (p:=⟨D,6,none⟩) h1 (.int .u32 0)).setCell (p:=⟨D,7,none⟩) h1 (.int .u32 0)).setCell (p:=⟨E,0,none⟩) h2 (.int .i64 v)).drew
 clear hD hE
 generalize World.drew _ = w2 at *
 clear c0 c1 c2 c3 c4 c5 c6 c7 z0 z1 z2 z3 z4 z5 z6 z7 e0 y0 hta hi8
 simp [bodyPostS,results,Tryz.results97]
 exact ⟨hD2,hE2,hB2⟩
end Go.Proofs.YtekafhogiambaaaGreatDoor
namespace Go.Proofs.YtekafhogiambaaaGreatDoor
open Rd (By)
theorem numA_le {s : By} {m v : Nat} (h : Rd.num s m = some v) : v ≤ m:=by
 unfold Rd.num at h
 split at h
 · cases h
 · split at h
   · dsimp only at h
     split at h
     · cases h
     · injection h with h
       omega
   · cases h
theorem twoR_len : ∀ {ds raw : By},Rd.twoR ds = some raw → ds.length = 2 * raw.length
 | [],raw,h=>by
  rw [Rd.twoR] at h
  injection h with h
  rw [← h];rfl
 | [_],raw,h=>by cases h
 | a :: b :: r,raw,h=>by
  rw [Rd.twoR] at h
  split at h
  · rename_i x y _ hy
    injection h with h
    rw [← h,List.length_cons,List.length_cons,List.length_cons,twoR_len hy]
    omega
  · cases h
theorem anyR_len {ws : List Rd.W2} {raw : By} (h : Rd.anyR ws = some raw) : raw.length ≤ 65535:=by
 unfold Rd.anyR at h
 cases h1 : Rd.plainW ws with
 | none=>rw [h1] at h;cases h
 | some x =>
  rw [h1,Option.bind_some] at h
  cases h2 : Rd.num x.1 65535 with
  | none=>rw [h2] at h;cases h
  | some n =>
   rw [h2,Option.bind_some] at h
   cases h3 : Rd.gathR (2 * n) [] x.2 with
   | none=>rw [h3] at h;cases h
   | some y =>
    rw [h3,Option.bind_some] at h
    split at h
    · rename_i hl
      have:=twoR_len h
      have:=numA_le h2
      omega
    · cases h
end Go.Proofs.YtekafhogiambaaaGreatDoor
namespace Go.Proofs.YtekafhogiambaaaGreatDoor
open Go.RowKit
section
variable {g hi t : Nat} {o : ByteArray} {ws : List Rd.W2} {x0 : Rd.W2} {w : World}
theorem rdAny_no (h : St w g hi o (x0 :: ws) Rd.dt0 0) (ht : t ≤ 65535) (hr : ((Rd.anyR ws).bind fun raw=>Rd.takeR t raw 0 raw.length) = none) (h32 : ∀ x ∈ ws,x.1.length < 4294967281) :
 Calls Tryz.prog 98 #[.pointer (some ⟨g,0,none⟩),.int .u16 t] w fun e w' => Rf g w e w':=by
 cases hra : Rd.anyR ws with
 | some raw =>
  rw [hra,Option.bind_some] at hr
  have hl:=anyR_len hra
  have hv:=rdAny_via (t:=t) h hra h32 ⟨#[]⟩ ⟨#[]⟩ ⟨#[]⟩ 0 0 0 0 0 (Rd.takeE t raw 0 raw.length) (fun B W hL hb=>by
   have:=pdTake_at t ht B raw W hL (by omega) hb
   rw [hr] at this
   exact this)
  refine hv.mono fun e w' h=>?_
  rcases h with ⟨h0,_⟩ | ⟨_,h⟩
  · exact absurd h0 (Rd.takeE_pos _ _ _ _)
  · exact h
 | none =>
  clear hr
  have hr:=hra
  unfold Rd.anyR at hr
  cases hp : Rd.plainW ws with
  | none=>exact rdAny_noNum h (.inl hp)
  | some y =>
   obtain ⟨x1,ws1,rfl,hx1,rfl⟩:=Rd.plainW_some hp
   rw [hp,Option.bind_some] at hr
   cases hn : Rd.num x1.1 65535 with
   | none=>exact rdAny_noNum h (.inr ⟨x1.1,ws1,by rw [← hx1],hn⟩)
   | some n =>
    rw [hn,Option.bind_some] at hr
    have h32' : ∀ x ∈ ws1,x.1.length < 4294967281:=fun x hx=>h32 x (by simp [hx])
    cases hg : Rd.gathR (2 * n) [] ws1 with
    | none=>exact rdAny_noGath h hx1 hn (.inl hg) h32'
    | some y =>
     obtain ⟨ds,rest⟩:=y
     rw [hg,Option.bind_some] at hr
     by_cases hl : ds.length = 2 * n
     · rw [if_pos hl] at hr
       exact rdAny_noTwo h hx1 hn hg hl hr h32'
     · exact rdAny_noGath h hx1 hn (.inr ⟨ds,rest,hg,hl⟩) h32'
def Rd.upR (o : List UInt8) (t : Nat) (ws : List Rd.W2) : Prop:=(∃ r,ws = ([92,35],false) :: r ∧ ((Rd.anyR r).bind fun raw=>Rd.takeR t raw 0 raw.length) = none) ∨ ((∀ r,ws ≠ ([92,35],false) :: r) ∧ Rd.knownR o t ws = none)
end
section
variable {t : Nat} {o : ByteArray} {v : Value} {ws : List Rd.W2} {w : World}
set_option maxHeartbeats 2000000 in
theorem rdRead_up (ht : t ≤ 65535) (ho : Rd.nm o.data.toList = true) (hos : o.size ≤ 140737488355328) (hw : Ws w w.heap.size v ws) (hG : Gl w w.heap.size) (h32 : ∀ x ∈ ws,x.1.length < 4294967281) (hr : Rd.upR o.data.toList t ws) :
 Calls Tryz.prog 77 #[.int .u16 t,v,.string o] w fun e w' => e = .returned (.tuple #[(dv Rd.dt0).val,.int .i64 41]) ∧ Below w.heap.size w w':=by
 have hmf : ∀ (fn : Fn) (first cap : Array Value) (W : World),(Instr.makeFunc fn first cap).run Tryz.prog W = .ok (.func fn first cap) W:=fun _ _ _ _=>rfl
 have hck : ∀ (W : World),Calls Tryz.prog 13 #[.string o] W fun e w' => e = .returned (.int .i64 0) ∧ Below W.heap.size W w':=fun W=>by
  have:=nameIs_any o W hos
  rw [ho] at this
  exact this
 have HCK:=Lib.hid hck
 obtain ⟨A,c,hv⟩ : ∃ A c,v = .slice A ws.length c:=hw.elim fun A h=>h.elim fun c h=>⟨A,c,h.1⟩
 subst hv
 have HW:=Lib.hid hw
 have HGL:=Lib.hid hG
 have H32:=Lib.hid h32
 have HR:=Lib.hid hr
 have HO:=Lib.hid ho
 have hi11 : (Tryz.prog.info? 155).map (·.size) = some 11:=by kernel_rfl
 have HI11:=Lib.hid hi11
 have hB0:=((Below.refl w.heap.size w).alloc (Nat.le_refl _) (.cells #[.string ⟨#[]⟩,.string ⟨#[]⟩,.string ⟨#[]⟩,.int .u32 0,.int .u32 0,.int .u32 0,.int .u32 0,.int .u32 0] 37)).alloc (by simp) (.cells #[.int .i64 0] 27)
 have hZ0:=(Has.fresh w 37 #[.string ⟨#[]⟩,.string ⟨#[]⟩,.string ⟨#[]⟩,.int .u32 0,.int .u32 0,.int .u32 0,.int .u32 0,.int .u32 0]).alloc (.cells #[.int .i64 0] 27)
 have hY0 : Has ((w.alloc (.cells #[.string ⟨#[]⟩,.string ⟨#[]⟩,.string ⟨#[]⟩,.int .u32 0,.int .u32 0,.int .u32 0,.int .u32 0,.int .u32 0] 37)).alloc (.cells #[.int .i64 0] 27)) (w.heap.size + 1) 27 #[.int .i64 0]:=new_at _ _ (by simp)
 have HB0:=Lib.hid hB0
 have HZ0:=Lib.hid hZ0
 have HY0:=Lib.hid hY0
 clear hw hG h32 hr ho hck hi11 hB0 hZ0 hY0
 go_enter_defers Tryz.func77,Tryz.ntmps77
 go_upto_region 5 with (first
  | (go_at_call 13;refine (HCK.out _).mono ?_;rintro e w1 ⟨rfl,B1⟩;have HB1:=Lib.hid (HB0.out.trans (B1.mono HB0.out.size));have HZ1:=Lib.hid (HZ0.out.below B1 HZ0.out.lt);have HY1:=Lib.hid (HY0.out.below B1 HY0.out.lt);clear B1)
  | (refine wpList_store_row rfl 155 (.tmp 8) (.tmp 16) rfl w1.heap.size (rdC (.slice A ws.length c) o Rd.dt0 0) rfl rfl 155 _ (Has.fresh w1 _ _) HI11.out rfl (by simp [rdC,Value.oneCell']) ?_))
 have hS2:=(Has.fresh w1 155 #[.slice none 0 0,.string ⟨#[]⟩,.string ⟨#[]⟩,.string ⟨#[]⟩,.string ⟨#[]⟩,.int .u32 0,.int .u32 0,.int .u32 0,.int .u32 0,.int .u32 0,.int .i64 0]).row (rdC (.slice A ws.length c) o Rd.dt0 0)
 have hB2:=below_setRow ((Below.refl w1.heap.size w1).alloc (Nat.le_refl _) (.cells #[.slice none 0 0,.string ⟨#[]⟩,.string ⟨#[]⟩,.string ⟨#[]⟩,.string ⟨#[]⟩,.int .u32 0,.int .u32 0,.int .u32 0,.int .u32 0,.int .u32 0,.int .i64 0] 155)) (g:=w1.heap.size) (Nat.le_refl _) (rdC (.slice A ws.length c) o Rd.dt0 0)
 have hsz1:=HB1.out.size
 have hy1:=HY1.out.lt
 generalize World.setRow _ _ _ = W2 at *
 have hst : St W2 w1.heap.size w.heap.size o ws Rd.dt0 0:=⟨_,hS2,HW.out.keep (HB1.out.trans (hB2.mono hsz1)),hsz1,HGL.out.below (HB1.out.trans (hB2.mono hsz1))⟩
 have HST:=Lib.hid hst
 have HZ2:=Lib.hid (HZ1.out.below hB2 HZ1.out.lt)
 have HY2:=Lib.hid (HY1.out.below hB2 HY1.out.lt)
 have HB2:=Lib.hid (HB1.out.trans (hB2.mono hsz1))
 clear hS2 hB2 hst
 cases ws with
 | nil =>
  have hk : Rd.knownR o.data.toList t [] = none:=by
   rcases HR.out with ⟨r,h,_⟩ | ⟨_,h⟩
   · cases h
   · exact h
  have HC:=rdKnown_no HST.out ht hk H32.out hos
  have HC2 : Hid (Calls Tryz.prog 99 #[.pointer (some ⟨w1.heap.size,0,none⟩),.int .u16 t] W2 fun e w' => Rf w1.heap.size W2 e w'):=HC
  clear HC
  go_wp2_with (go_at_call 99;refine HC2.out.mono ?_;rintro e w3 ⟨rfl,B3⟩;have HZ3:=Lib.hid (HZ2.out.below B3 (by omega));have HY3:=Lib.hid (HY2.out.below B3 (by omega));have HB3:=Lib.hid (HB2.out.trans (B3.mono (by omega)));clear B3)
  refine leaves_cons (f:=97) (args:=#[.pointer (some ⟨w.heap.size,0,none⟩),.pointer (some ⟨w.heap.size + 1,0,none⟩)]) (by simp) (by simp [go_sem]) ?_
  refine (catch_hit w.heap.size (w.heap.size + 1) 41 0 _ HZ3.out HY3.out (by omega)).mono ?_
  rintro e u' w'' ⟨rfl,rfl,hZ5,hY5,hB5⟩
  have z0 : w''.cell? ⟨w.heap.size,0,none⟩ = some (.string ⟨#[]⟩):=by rw [hZ5.cell];rfl
  have z1 : w''.cell? ⟨w.heap.size,1,none⟩ = some (.string ⟨#[]⟩):=by rw [hZ5.cell];rfl
  have z2 : w''.cell? ⟨w.heap.size,2,none⟩ = some (.string ⟨#[]⟩):=by rw [hZ5.cell];rfl
  have z3 : w''.cell? ⟨w.heap.size,3,none⟩ = some (.int .u32 0):=by rw [hZ5.cell];rfl
  have z4 : w''.cell? ⟨w.heap.size,4,none⟩ = some (.int .u32 0):=by rw [hZ5.cell];rfl
  have z5 : w''.cell? ⟨w.heap.size,5,none⟩ = some (.int .u32 0):=by rw [hZ5.cell];rfl
  have z6 : w''.cell? ⟨w.heap.size,6,none⟩ = some (.int .u32 0):=by rw [hZ5.cell];rfl
  have z7 : w''.cell? ⟨w.heap.size,7,none⟩ = some (.int .u32 0):=by rw [hZ5.cell];rfl
  have y0 : w''.cell? ⟨w.heap.size + 1,0,none⟩ = some (.int .i64 41):=by rw [hY5.cell];rfl
  have HB5:=Lib.hid (HB3.out.trans (hB5 w.heap.size (Nat.le_refl _) (by omega)))
  clear hZ5 hY5 hB5
  simp [Leaves,settle,results,Tryz.results77,go_sem,z0,z1,z2,z3,z4,z5,z6,z7,y0]
  exact ⟨rfl,HB5.out⟩
 | cons x rs =>
  obtain ⟨q,p,c',l,k,hv,hc,hm,hq,hrg,_⟩:=HW.out.head
  injection hv with hv1 hv2 hv3
  subst hv1
  subst hv3
  obtain ⟨x0,x1,_,_⟩:=wdC_cells (range_below HB2.out hq hrg)
  have hl1 : ((x :: rs).length : Int) = (rs.length : Int) + 1:=by simp
  clear hrg hv2 hl1
  obtain ⟨xt,xq⟩:=x
  by_cases hx : xt = [92,35]
  · subst hx
    replace x0 : W2.cell? ⟨q,p,none⟩ = some (.string ⟨#[92,35]⟩):=x0
    have hb : ((⟨#[92,35]⟩ : ByteArray).toList == (⟨#[92,35]⟩ : ByteArray).toList) = true:=(Lib.bytes_beq_iff _ _).2 rfl
    cases xq with
    | true =>
     have hk : Rd.knownR o.data.toList t (([92,35],true) :: rs) = none:=by
      rcases HR.out with ⟨r,h,_⟩ | ⟨_,h⟩
      · cases h
      · exact h
     have HC:=rdKnown_no HST.out ht hk H32.out hos
     clear hk
     have HC2 : Hid (Calls Tryz.prog 99 #[.pointer (some ⟨w1.heap.size,0,none⟩),.int .u16 t] W2 fun e w' => Rf w1.heap.size W2 e w'):=HC
     clear HC
     go_wp2_with (go_at_call 99;refine HC2.out.mono ?_;rintro e w3 ⟨rfl,B3⟩;have HZ3:=Lib.hid (HZ2.out.below B3 (by omega));have HY3:=Lib.hid (HY2.out.below B3 (by omega));have HB3:=Lib.hid (HB2.out.trans (B3.mono (by omega)));clear B3)
     refine leaves_cons (f:=97) (args:=#[.pointer (some ⟨w.heap.size,0,none⟩),.pointer (some ⟨w.heap.size + 1,0,none⟩)]) (by simp) (by simp [go_sem]) ?_
     refine (catch_hit w.heap.size (w.heap.size + 1) 41 0 _ HZ3.out HY3.out (by omega)).mono ?_
     rintro e u' w'' ⟨rfl,rfl,hZ5,hY5,hB5⟩
     have z0 : w''.cell? ⟨w.heap.size,0,none⟩ = some (.string ⟨#[]⟩):=by rw [hZ5.cell];rfl
     have z1 : w''.cell? ⟨w.heap.size,1,none⟩ = some (.string ⟨#[]⟩):=by rw [hZ5.cell];rfl
     have z2 : w''.cell? ⟨w.heap.size,2,none⟩ = some (.string ⟨#[]⟩):=by rw [hZ5.cell];rfl
     have z3 : w''.cell? ⟨w.heap.size,3,none⟩ = some (.int .u32 0):=by rw [hZ5.cell];rfl
     have z4 : w''.cell? ⟨w.heap.size,4,none⟩ = some (.int .u32 0):=by rw [hZ5.cell];rfl
     have z5 : w''.cell? ⟨w.heap.size,5,none⟩ = some (.int .u32 0):=by rw [hZ5.cell];rfl
     have z6 : w''.cell? ⟨w.heap.size,6,none⟩ = some (.int .u32 0):=by rw [hZ5.cell];rfl
     have z7 : w''.cell? ⟨w.heap.size,7,none⟩ = some (.int .u32 0):=by rw [hZ5.cell];rfl
     have y0 : w''.cell? ⟨w.heap.size + 1,0,none⟩ = some (.int .i64 41):=by rw [hY5.cell];rfl
     have HB5:=Lib.hid (HB3.out.trans (hB5 w.heap.size (Nat.le_refl _) (by omega)))
     clear hZ5 hY5 hB5
     simp [Leaves,settle,results,Tryz.results77,go_sem,z0,z1,z2,z3,z4,z5,z6,z7,y0]
     exact ⟨rfl,HB5.out⟩
    | false =>
     have hk : ((Rd.anyR rs).bind fun raw=>Rd.takeR t raw 0 raw.length) = none:=by
      rcases HR.out with ⟨r,h,h2⟩ | ⟨h,_⟩
      · injection h with _ h
        rw [h];exact h2
      · exact absurd rfl (h rs)
     have HC:=rdAny_no (t:=t) HST.out ht hk (fun y hy=>H32.out y (by simp [hy]))
     clear hk
     have HC2 : Hid (Calls Tryz.prog 98 #[.pointer (some ⟨w1.heap.size,0,none⟩),.int .u16 t] W2 fun e w' => Rf w1.heap.size W2 e w'):=HC
     clear HC
     go_wp2_with (go_at_call 98;refine HC2.out.mono ?_;rintro e w3 ⟨rfl,B3⟩;have HZ3:=Lib.hid (HZ2.out.below B3 (by omega));have HY3:=Lib.hid (HY2.out.below B3 (by omega));have HB3:=Lib.hid (HB2.out.trans (B3.mono (by omega)));clear B3)
     refine leaves_cons (f:=97) (args:=#[.pointer (some ⟨w.heap.size,0,none⟩),.pointer (some ⟨w.heap.size + 1,0,none⟩)]) (by simp) (by simp [go_sem]) ?_
     refine (catch_hit w.heap.size (w.heap.size + 1) 41 0 _ HZ3.out HY3.out (by omega)).mono ?_
     rintro e u' w'' ⟨rfl,rfl,hZ5,hY5,hB5⟩
     have z0 : w''.cell? ⟨w.heap.size,0,none⟩ = some (.string ⟨#[]⟩):=by rw [hZ5.cell];rfl
     have z1 : w''.cell? ⟨w.heap.size,1,none⟩ = some (.string ⟨#[]⟩):=by rw [hZ5.cell];rfl
     have z2 : w''.cell? ⟨w.heap.size,2,none⟩ = some (.string ⟨#[]⟩):=by rw [hZ5.cell];rfl
     have z3 : w''.cell? ⟨w.heap.size,3,none⟩ = some (.int .u32 0):=by rw [hZ5.cell];rfl
     have z4 : w''.cell? ⟨w.heap.size,4,none⟩ = some (.int .u32 0):=by rw [hZ5.cell];rfl
     have z5 : w''.cell? ⟨w.heap.size,5,none⟩ = some (.int .u32 0):=by rw [hZ5.cell];rfl
     have z6 : w''.cell? ⟨w.heap.size,6,none⟩ = some (.int .u32 0):=by rw [hZ5.cell];rfl
     have z7 : w''.cell? ⟨w.heap.size,7,none⟩ = some (.int .u32 0):=by rw [hZ5.cell];rfl
     have y0 : w''.cell? ⟨w.heap.size + 1,0,none⟩ = some (.int .i64 41):=by rw [hY5.cell];rfl
     have HB5:=Lib.hid (HB3.out.trans (hB5 w.heap.size (Nat.le_refl _) (by omega)))
     clear hZ5 hY5 hB5
     simp [Leaves,settle,results,Tryz.results77,go_sem,z0,z1,z2,z3,z4,z5,z6,z7,y0]
     exact ⟨rfl,HB5.out⟩
  · have hb : (xt == ([92,35] : List UInt8)) = false:=beq_eq_false_iff_ne.2 hx
    have hk : Rd.knownR o.data.toList t ((xt,xq) :: rs) = none:=by
     rcases HR.out with ⟨r,h,_⟩ | ⟨_,h⟩
     · injection h with h _
       injection h with h _
       exact absurd h hx
     · exact h
    have HC:=rdKnown_no HST.out ht hk H32.out hos
    clear hx hk
    have HC2 : Hid (Calls Tryz.prog 99 #[.pointer (some ⟨w1.heap.size,0,none⟩),.int .u16 t] W2 fun e w' => Rf w1.heap.size W2 e w'):=HC
    clear HC
    go_wp2_with (go_at_call 99;refine HC2.out.mono ?_;rintro e w3 ⟨rfl,B3⟩;have HZ3:=Lib.hid (HZ2.out.below B3 (by omega));have HY3:=Lib.hid (HY2.out.below B3 (by omega));have HB3:=Lib.hid (HB2.out.trans (B3.mono (by omega)));clear B3)
    refine leaves_cons (f:=97) (args:=#[.pointer (some ⟨w.heap.size,0,none⟩),.pointer (some ⟨w.heap.size + 1,0,none⟩)]) (by simp) (by simp [go_sem]) ?_
    refine (catch_hit w.heap.size (w.heap.size + 1) 41 0 _ HZ3.out HY3.out (by omega)).mono ?_
    rintro e u' w'' ⟨rfl,rfl,hZ5,hY5,hB5⟩
    have z0 : w''.cell? ⟨w.heap.size,0,none⟩ = some (.string ⟨#[]⟩):=by rw [hZ5.cell];rfl
    have z1 : w''.cell? ⟨w.heap.size,1,none⟩ = some (.string ⟨#[]⟩):=by rw [hZ5.cell];rfl
    have z2 : w''.cell? ⟨w.heap.size,2,none⟩ = some (.string ⟨#[]⟩):=by rw [hZ5.cell];rfl
    have z3 : w''.cell? ⟨w.heap.size,3,none⟩ = some (.int .u32 0):=by rw [hZ5.cell];rfl
    have z4 : w''.cell? ⟨w.heap.size,4,none⟩ = some (.int .u32 0):=by rw [hZ5.cell];rfl
    have z5 : w''.cell? ⟨w.heap.size,5,none⟩ = some (.int .u32 0):=by rw [hZ5.cell];rfl
    have z6 : w''.cell? ⟨w.heap.size,6,none⟩ = some (.int .u32 0):=by rw [hZ5.cell];rfl
    have z7 : w''.cell? ⟨w.heap.size,7,none⟩ = some (.int .u32 0):=by rw [hZ5.cell];rfl
    have y0 : w''.cell? ⟨w.heap.size + 1,0,none⟩ = some (.int .i64 41):=by rw [hY5.cell];rfl
    have HB5:=Lib.hid (HB3.out.trans (hB5 w.heap.size (Nat.le_refl _) (by omega)))
    clear hZ5 hY5 hB5
    simp [Leaves,settle,results,Tryz.results77,go_sem,z0,z1,z2,z3,z4,z5,z6,z7,y0]
    exact ⟨rfl,HB5.out⟩
end
theorem up_of {o : List UInt8} {t : Nat} {ws : List Rd.W2} (h : Rd.readR o t ws = none) : Rd.upR o t ws:=by
 unfold Rd.readR at h
 split at h
 · exact .inr ⟨fun r e=>(by cases e),h⟩
 · rename_i x r
   split at h
   · rename_i hx
     refine .inl ⟨r,?_,h⟩
     obtain ⟨a,b⟩:=x
     obtain ⟨rfl,rfl⟩:=hx
     rfl
   · rename_i hx
     refine .inr ⟨fun r2 e=>?_,h⟩
     injection e with e1 e2
     subst e1
     exact hx ⟨rfl,rfl⟩
end Go.Proofs.YtekafhogiambaaaGreatDoor
namespace Go.Proofs.YtekafhogiambaaaGreatDoor
open Go.RowKit
theorem rdNo : RdNo:=fun _ _ _ _ _ ht ho hos hw hG h32 hr=>(rdRead_up ht ho hos hw hG h32 (up_of hr)).mono fun _ _ h=>⟨41,by decide,h⟩
def PaO (s0 : Ma.S) (t : List UInt8) (A : Option Addr) (n c l k x B : Nat) (w' : World) : Prop :=
 (∃ es s,Tk.tells t = .ok es ∧ Ma.entries s0 es = .ok s ∧ x = 0 ∧ l = 0 ∧ k = 0 ∧ n = s.recs.length ∧ Own mcl 12 w' B 39 (.slice A s.recs.length c) s.recs) ∨
 (∃ es er,Tk.tells t = .ok es ∧ Ma.entries s0 es = .error er ∧ Ma.Code er.e ∧ A = none ∧ n = 0 ∧ c = 0 ∧ x = er.e ∧ l = er.line ∧ k = er.col) ∨
 (∃ y,Tk.tells t = .err l k y ∧ (y = 80 ∨ y = 81) ∧ A = none ∧ n = 0 ∧ c = 0 ∧ x = y)
section
variable {text origin : ByteArray} {ttl : Nat} {w : World}
theorem parse_any (hts : text.size ≤ 262144) (ho : Rd.nm origin.data.toList = true) (hos : origin.size ≤ 140737488355328) (httl : ttl ≤ 2147483647) (hG : Ga w w.heap.size) :
 Calls Tryz.prog 8 #[.string text,.string origin,.int .u32 ttl] w fun e w' => ∃ (A : Option Addr) (n c l k x : Nat),e = .returned (.tuple #[.slice A n c,.agg #[.int .i64 l,.int .i64 k],.int .i64 x]) ∧ Below w.heap.size w w' ∧ PaO ⟨origin.data.toList,ttl,false, []⟩ text.data.toList A n c l k x w.heap.size w':=by
 cases ht : Tk.tells text.data.toList with
 | err a b y =>
  have hy : y = 80 ∨ y = 81:=play_errs _ _ _ _ _ ht
  refine (parse_bad (by omega) hts ho hos httl ht).mono fun e w' h=>?_
  exact ⟨none,0,0,a,b,y,h.1,h.2,.inr (.inr ⟨y,ht,hy,rfl,rfl,rfl,rfl⟩)⟩
 | ok es =>
  have hsz : text.data.toList.length = text.size:=by simp
  have hfit:=Tk.tells_fit ht
  have hsh:=Tk.tells_short ht
  have hle : ∀ e ∈ es,e.words ≠ [] ∧ ∀ x ∈ e.words,x.text.length ≤ 262144:=fun e he=>⟨(hfit.2 e he).1,fun x hx=>by have:=hsh e he x hx;omega⟩
  cases he : Ma.entries ⟨origin.data.toList,ttl,false, []⟩ es with
  | error er =>
   refine (parse_no rdNo hts ho hos httl hG ht hle (by have:=hfit.1;omega) he).mono fun e w' h=>?_
   exact ⟨none,0,0,er.line,er.col,er.e,h.1,h.2,.inr (.inl ⟨es,er,ht,he,Ma.entries_code (fun e he=>(hle e he).1) he,rfl,rfl,rfl,rfl,rfl,rfl⟩)⟩
  | ok s =>
   refine (parse_ok hts ho hos httl hG ht hle (by have:=hfit.1;omega) he).mono fun e w' h=>?_
   obtain ⟨v,h1,h2,h3⟩:=h
   obtain ⟨A,c,hv,_⟩:=ownK_form h2
   subst hv
   exact ⟨A,s.recs.length,c,0,0,0,h1,h3,.inl ⟨es,s,ht,he,rfl,rfl,rfl,rfl,h2⟩⟩
end
end Go.Proofs.YtekafhogiambaaaGreatDoor
namespace Go.Proofs.YtekafhogiambaaaGreatDoor
open Go.ChangeShapes Go.WideShapes Go.ChangeAt Go.RowKit
theorem own : ownKnob Tryz.prog.godebug = none:=by kernel_rfl
theorem out : laidOutB Tryz.prog = true:=by kernel_rfl
theorem post_low {H : Type} {enc : TypeId × Value → H} {P : Program} {f : Func} {s : ChangeSpec} {apart fresh handsOn again : Bool} {W W' : World} {args : Array Value} {v : Value} {ds gs : List (DataW H)} {before pa pv : List MemPlace}
 (hW : DataW.Whole enc P f.params.toList s.vars apart W args.toList ds gs before) (hps : before = pa ++ pv) (hb : Below W.heap.size W W')
 (hres : ∀ (b : Nat) (sp : Nat → Bool) (hd : Bool),DataW.TrodAll enc P W' b sp hd f.resultTypes.toList (v.resultList f.resultTypes.size) (s.fn H (ds ++ gs)).results [])
 (hargs : ∀ sp : Nat → Bool,(∀ p ∈ before,sp p.block = true) → DataW.TrodAll enc P W' 0 sp true f.params.toList args.toList (s.fn H (ds ++ gs)).args pa)
 (hvars : ∀ sp : Nat → Bool,(∀ p ∈ before,sp p.block = true) → DataW.TrodVars enc P W' sp s.vars (s.fn H (ds ++ gs)).vars pv)
 (hok : ∀ (j : Nat) (t : TypeId) (r : Value),f.resultTypes[j]? = some t → (v.resultList f.resultTypes.size)[j]? = some r → Value.okWide P W' .any 0 t r) :
 s.post enc P f apart fresh handsOn again W args v W':=by
 have hin : ∀ p ∈ before,(fun b=>decide (b < W.heap.size)) p.block = true:=fun p hp=>by simpa using hW.lt p hp
 have hmem : ∀ p ∈ before,p ∈ pa ∨ p ∈ pv:=fun p hp=>by rw [hps] at hp;exact List.mem_append.1 hp
 refine ⟨ds,gs,before, [],pa,pv,hW,hres _ _ _,hargs _ hin,hvars _ hin,World.keptBut_mono (fun p hp=>⟨hp,.inr (hmem p hp)⟩) (hb.frame (· ∈ before)),fun _=>?_⟩
 obtain ⟨_,_,_,_,_,hz,hn⟩:=id hW
 refine ⟨hok,_,_,([] ++ pa) ++ pv,⟨[] ++ pa,pv,trodAll_append (hargs _ (fun _ _=>rfl)) (hres _ _ _),hvars _ (fun _ _=>rfl),rfl,fun b off hp=>?_,fun ha=>?_⟩,fun p hp _=>?_⟩
 · have hb' : MemPlace.cell b off ∈ before:=by rw [hps];simpa using hp
   exact (hb.frozen (hW.lt _ hb')).trans (hz b off hb')
 · have h:=hn ha
   rw [hps] at h
   simpa using h
 · rw [hps];simpa using hp
theorem reach_cons {H : Type} {P : Program} {t : TypeId} {ts : List TypeId} {d : DataW H} {r : List (DataW H)} (h : (DataW.weightsEach P (t :: ts) (d :: r)).all (· ≤ reachBytes) = true) :
 (d.weights P t).all (· ≤ reachBytes) = true ∧ (DataW.weightsEach P ts r).all (· ≤ reachBytes) = true:=by
 have e : DataW.weightsEach P (t :: ts) (d :: r) = d.weights P t ++ DataW.weightsEach P ts r:=rfl
 rw [e,List.all_append,Bool.and_eq_true] at h
 exact h
theorem reach_str {H : Type} {P : Program} {t : TypeId} {s : ByteArray} (h : ((DataW.lit (.string s.data.toList) : DataW H).weights P t).all (· ≤ reachBytes) = true) : s.size ≤ 140737488351232:=by
 have e : (DataW.lit (.string s.data.toList) : DataW H).weights P t = [s.data.toList.length]:=by unfold DataW.weights;rfl
 rw [e,List.all_cons,Bool.and_eq_true] at h
 have:=of_decide_eq_true h.1
 unfold reachBytes at this
 simpa using this
theorem trodAll_stays {H : Type} {enc : TypeId × Value → H} {P : Program} (hl : laidOutB P = true) {W W' : World} {sp : Nat → Bool} : ∀ {ts : List TypeId} {vs : List Value} {ds : List (DataW H)} {ps : List MemPlace},
 (ts.all fun t=>P.readableRec t && decide (t < P.types.size)) = true → DataW.TrodAll enc P W 0 (fun _=>true) true ts vs ds ps → (∀ p ∈ ps,W.sameAt W' p) → (∀ p ∈ ps,sp p.block = true) → DataW.TrodAll enc P W' 0 sp true ts vs ds ps:=by
 intro ts
 induction ts with
 | nil =>
  intro vs ds ps _ h _ _
  obtain ⟨rfl,rfl,rfl⟩:=trodAll_nil h
  exact trodAll_mk0
 | cons t ts ih =>
  intro vs ds ps hr h hs hsp
  obtain ⟨v,vs',d,ds',p,q,rfl,rfl,rfl,h0,h1⟩:=trodAll_cons h
  simp only [List.all_cons,Bool.and_eq_true,decide_eq_true_eq] at hr
  exact trodAll_cons_mk (WideElems.Trod_stays hl hr.1.1 hr.1.2 h0 (fun x hx=>hs x (List.mem_append_left _ hx)) (fun x hx=>hsp x (List.mem_append_left _ hx)))
   (ih (by simpa using hr.2) h1 (fun x hx=>hs x (List.mem_append_right _ hx)) (fun x hx=>hsp x (List.mem_append_right _ hx)))
theorem addr_form {w : World} {a : Addr} {k : Nat} {v : Value} (h : w.cell? (a.add 0) = some v) : a = ⟨a.block,a.off,none⟩ ∧ (⟨a.block,a.off,none⟩ : Addr).add k = ⟨a.block,a.off + k,none⟩:=by
 obtain ⟨ab,ao,spot⟩:=a
 have hs : spot = none:=by simpa [Addr.add] using World.cell?_spot h
 subst hs
 exact ⟨rfl,addr_add ab ao k⟩
end Go.Proofs.YtekafhogiambaaaGreatDoor
namespace Go.Proofs.YtekafhogiambaaaGreatDoor
open Go.ChangeShapes Go.WideShapes Go.RowKit
theorem wf_u32 {x : Int} (h : (Lit.int .u32 x).wf = true) : ∃ n : Nat,x = n ∧ n ≤ 4294967295:=by
 have h1 : IntKind.u32.min = 0:=rfl
 have h2 : IntKind.u32.max = 4294967295:=rfl
 simp only [Lit.wf,Bool.and_eq_true,decide_eq_true_eq] at h
 exact ⟨x.toNat,by omega,by omega⟩
theorem fits_mk {r h m : ByteArray} {a b c d e : Nat} (ha : a ≤ 4294967295) (hb : b ≤ 4294967295) (hc : c ≤ 4294967295) (hd : d ≤ 4294967295) (he : e ≤ 4294967295) : (Dv.mk r h m a b c d e).fits:=fun k=>by
 match k with
 | 0=>exact ha
 | 1=>exact hb
 | 2=>exact hc
 | 3=>exact hd
 | _ + 4=>exact he
end Go.Proofs.YtekafhogiambaaaGreatDoor
namespace Go.Proofs.YtekafhogiambaaaGreatDoor
open Go.ChangeShapes Go.WideShapes Go.Deep Go.RowKit
section
variable {H : Type} {enc : TypeId × Value → H} {P : Program} {w : World} {base : Nat} {spare : Nat → Bool} {held : Bool}
end
theorem weights_in {H : Type} {P : Program} {e : TypeId} {d : DataW H} : ∀ {x : List (DataW H)},d ∈ x → (DataW.weightsAll P e x).all (· ≤ reachBytes) = true → (d.weights P e).all (· ≤ reachBytes) = true
 | c :: r,hm,h=>by
  rw [DataW.weightsAll,List.all_append,Bool.and_eq_true] at h
  rcases List.mem_cons.1 hm with rfl | hm
  · exact h.1
  · exact weights_in hm h.2
end Go.Proofs.YtekafhogiambaaaGreatDoor
namespace Go.Proofs.YtekafhogiambaaaGreatDoor
open Go.ChangeShapes Go.WideShapes Go.Deep Go.RowKit
structure DIt where
 skip : Int
 ty : Nat
 data : Dv
theorem wf_u16i {x : Int} (h : (Lit.int .u16 x).wf = true) : ∃ n : Nat,x = n ∧ n ≤ 65535:=by
 have h1 : IntKind.u16.min = 0:=rfl
 have h2 : IntKind.u16.max = 65535:=rfl
 simp only [Lit.wf,Bool.and_eq_true,decide_eq_true_eq] at h
 exact ⟨x.toNat,by omega,by omega⟩
end Go.Proofs.YtekafhogiambaaaGreatDoor
