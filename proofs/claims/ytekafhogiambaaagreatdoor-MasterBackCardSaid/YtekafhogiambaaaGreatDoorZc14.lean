/- Texts of the proofs, merged. -/
import Derived.Test.YtekafhogiambaaaGreatDoorZc12
import Derived.Test.YtekafhogiambaaaGreatDoorZc13
import Derived.Test.YtekafhogiambaaaGreatDoorZc8
import Derived.Lib.SlicesS
import Derived.Deep.RegionHeld3
import Derived.Deep.CutRange
import Derived.BigQuiet
set_option maxRecDepth 100000
namespace Go.Proofs.YtekafhogiambaaaGreatDoor
open Go.RowKit
theorem setN_cells (v : Value) (o : ByteArray) (d : Rd.Dt) (n k : Nat) (hn : n < 5) : (rdC v o d n).setIfInBounds (5 + n) (.int .u32 k) = rdC v o (Rd.setN d n k) n:=by
 rcases (by omega : n = 0 ∨ n = 1 ∨ n = 2 ∨ n = 3 ∨ n = 4) with rfl | rfl | rfl | rfl | rfl <;> rfl
section
variable {g hi n : Nat} {o : ByteArray} {ws : List Rd.W2} {x : Rd.W2} {d : Rd.Dt} {w : World}
theorem Kb.heapOf {g b : Nat} {w w1 w2 : World} (h : Kb g b w w1) (e1 : w2.heap = w1.heap) (e2 : w2.os = w1.os) (e3 : w2.tape = w1.tape) (e4 : w2.output = w1.output) : Kb g b w w2 :=
 ⟨e2.trans h.os,e3.trans h.tape,e4.trans h.output,by rw [e1];exact h.size,fun k hk hne=>by rw [e1];exact h.block k hk hne⟩
set_option maxHeartbeats 1000000 in
theorem rdKeep_any (h : St w g hi o ws d n) (hn : n < 5) (k : Nat) :
 Calls Tryz.prog 150 #[.pointer (some ⟨g,0,none⟩),.int .u32 k] w fun e w' => e = .returned (.tuple #[]) ∧ St w' g hi o ws (Rd.setN d n k) (n + 1) ∧ Kb g w.heap.size w w':=by
 obtain ⟨v,hh⟩:=h.has
 have c10 : w.cell? ⟨g,10,none⟩ = some (.int .i64 n):=by rw [hh.cell];rfl
 obtain ⟨u,hu⟩ : ∃ u,(rdC v o d n)[5 + n]'(by show _ < 11;omega) = u:=⟨_,rfl⟩
 have cn : w.cell? ⟨g,5 + n,none⟩ = some u:=by rw [hh.cell,← hu];simp
 have f10:=hh.free 10
 have fn:=hh.free (5 + n)
 have hni : ((n : Nat) : Int) < 5:=by omega
 have hnj : (0 : Int) ≤ ((n : Nat) : Int):=by omega
 have hw : IntKind.i64.wrap ((n : Int) + 1) = (n : Int) + 1:=by rw [IntKind.wrap_i64];omega
 have HS:=Lib.hid h
 clear h hu hh
 go_enter Tryz.func150,Tryz.ntmps150
 go_wp2
 go_region
 obtain ⟨W1,hW1⟩ : ∃ W1,w.setCell ⟨g,5 + n,none⟩ (.int .u32 k) = W1:=⟨_,rfl⟩
 rw [hW1]
 have hk1:=(Kb.refl g w.heap.size w).set (5 + n) (.int .u32 k)
 rw [hW1] at hk1
 have h1 : St W1.drew g hi o ws (Rd.setN d n k) n:=HS.out.put (i:=5 + n) (u:=.int .u32 k) (by rw [hW1];rfl) (fun v=>setN_cells v o d n k hn)
 have hk2 : Kb g w.heap.size w W1.drew:=hk1.heapOf rfl rfl rfl rfl
 obtain ⟨v2,hh2⟩:=h1.has
 have d10 : W1.drew.cell? ⟨g,10,none⟩ = some (.int .i64 n):=by rw [hh2.cell];rfl
 have g10:=hh2.free 10
 have H1:=Lib.hid h1
 have HK:=Lib.hid hk2
 clear h1 hk2 hk1 hW1 c10 cn f10 fn hh2
 generalize W1.drew = W2 at *
 go_wp2
 go_end0
 exact ⟨rfl,H1.out.put (i:=10) (u:=.int .i64 ((n : Int) + 1)) rfl (fun v=>rfl),HK.out.set 10 _⟩
theorem rdNarrow_ok (h : St w g hi o (x :: ws) d n) (hx : x.2 = false) (hn : n < 5) {k : Nat} (hv : Rd.num x.1 65535 = some k) :
 Calls Tryz.prog 127 #[.pointer (some ⟨g,0,none⟩)] w fun e w' => e = .returned (.tuple #[]) ∧ St w' g hi o ws (Rd.setN d n k) (n + 1) ∧ Kb g w.heap.size w w':=by
 have HN:=Lib.hid (rdNumberR_ok h hx 16 (.inr (.inl rfl)) (v:=k) hv)
 clear h hv
 go_enter Tryz.func127,Tryz.ntmps127
 go_wp2_with (first
  | (go_at_call 46;refine (width_8 _).mono ?_;rintro e w0 ⟨rfl,rfl⟩)
  | (go_at_call 116;refine HN.out.mono ?_;rintro e w1 ⟨rfl,S1,K1⟩;have HC:=Lib.hid (rdKeep_any S1 hn k);have HK:=Lib.hid K1;clear S1 K1)
  | (go_at_call 150;refine HC.out.mono ?_;rintro e w2 ⟨rfl,S2,K2⟩;have HS2:=Lib.hid S2;have HK2:=Lib.hid (HK.out.on K2);clear S2 K2))
 go_end0
 exact ⟨rfl,HS2.out,HK2.out⟩
theorem rdWide_ok (h : St w g hi o (x :: ws) d n) (hx : x.2 = false) (hn : n < 5) {k : Nat} (hv : Rd.num x.1 4294967295 = some k) :
 Calls Tryz.prog 128 #[.pointer (some ⟨g,0,none⟩)] w fun e w' => e = .returned (.tuple #[]) ∧ St w' g hi o ws (Rd.setN d n k) (n + 1) ∧ Kb g w.heap.size w w':=by
 have HN:=Lib.hid (rdNumberR_ok h hx 32 (.inr (.inr rfl)) (v:=k) hv)
 clear h hv
 go_enter Tryz.func128,Tryz.ntmps128
 go_wp2_with (first
  | (go_at_call 46;refine (width_9 _).mono ?_;rintro e w0 ⟨rfl,rfl⟩)
  | (go_at_call 116;refine HN.out.mono ?_;rintro e w1 ⟨rfl,S1,K1⟩;have HC:=Lib.hid (rdKeep_any S1 hn k);have HK:=Lib.hid K1;clear S1 K1)
  | (go_at_call 150;refine HC.out.mono ?_;rintro e w2 ⟨rfl,S2,K2⟩;have HS2:=Lib.hid S2;have HK2:=Lib.hid (HK.out.on K2);clear S2 K2))
 go_end0
 exact ⟨rfl,HS2.out,HK2.out⟩
theorem rdName_ok (h : St w g hi o (x :: ws) d n) (hx : x.2 = false) (ho : o.size ≤ 140737488355328) {r : List UInt8} (hr : Rd.nameR o.data.toList x.1 = some r) :
 Calls Tryz.prog 149 #[.pointer (some ⟨g,0,none⟩)] w fun e w' => e = .returned (sv r) ∧ St w' g hi o ws d n ∧ Kb g w.heap.size w w':=by
 have hl:=h.one
 have HN:=Lib.hid (rdPlain_any h hx)
 clear h
 unfold Rd.nameR at hr
 by_cases h64 : x.1 = [64]
 · rw [if_pos h64] at hr
   injection hr with hr
   have ho2 : sv r = .string o:=by rw [← hr]
   rw [ho2]
   rw [h64] at HN
   have hb64 : ((⟨#[64]⟩ : ByteArray).toList == (⟨#[64]⟩ : ByteArray).toList) = true:=(Lib.bytes_beq_iff _ _).2 rfl
   go_enter Tryz.func149,Tryz.ntmps149
   go_wp2_with (go_at_call 117;refine HN.out.mono ?_;rintro e w1 ⟨rfl,S1,K1⟩;obtain ⟨v,hh⟩:=S1.has;have c1 : w1.cell? ⟨g,1,none⟩ = some (.string o):=(by rw [hh.cell];rfl);have HS:=Lib.hid S1;have HK:=Lib.hid K1;clear S1 K1 hh)
   go_ret
   exact ⟨rfl,HS.out,HK.out⟩
 · rw [if_neg h64] at hr
   have hpr : (Nm.parse x.1 o.data.toList).2 = 0 ∧ (Nm.parse x.1 o.data.toList).1 = r:=by
    by_cases hp : (Nm.parse x.1 o.data.toList).2 = 0
    · rw [if_pos hp] at hr
      injection hr with hr
      exact ⟨hp,hr⟩
    · rw [if_neg hp] at hr;cases hr
   have hR : parseR x.1 o.data.toList = .tuple #[sv r,.int .i64 0]:=by
    unfold parseR
    rw [← hpr.2,hpr.1]
    rfl
   have hb64 : (x.1 == ([64] : List UInt8)) = false:=beq_eq_false_iff_ne.2 h64
   have HP:=Lib.hid (fun (W : World) (hL : Lay W)=>by have:=Parse_any ⟨x.1.toArray⟩ o W hL (by rw [mk_size];exact hl) ho;rw [show (⟨x.1.toArray⟩ : ByteArray).data.toList = x.1 from by simp,hR] at this;exact this)
   clear hr hpr hR hl
   go_enter Tryz.func149,Tryz.ntmps149
   go_wp2_with (first
    | (go_at_call 117;refine HN.out.mono ?_;rintro e w1 ⟨rfl,S1,K1⟩;obtain ⟨v,hh⟩:=S1.has;have c1 : w1.cell? ⟨g,1,none⟩ = some (.string o):=(by rw [hh.cell];rfl);have HS:=Lib.hid S1;have HK:=Lib.hid K1;clear S1 K1 hh)
    | (go_at_call 90;refine (HP.out _ HS.out.gl.1).mono ?_;rintro e w2 ⟨rfl,B2⟩;have HB:=Lib.hid B2;clear B2))
   go_ret
   exact ⟨rfl,HS.out.keep HB.out,HK.out.onB HB.out⟩
theorem rdHost_ok (h : St w g hi o (x :: ws) d n) (hx : x.2 = false) (ho : o.size ≤ 140737488355328) {r : List UInt8} (hr : Rd.nameR o.data.toList x.1 = some r) :
 Calls Tryz.prog 125 #[.pointer (some ⟨g,0,none⟩)] w fun e w' => e = .returned (.tuple #[]) ∧ St w' g hi o ws { d with host:=r } n ∧ Kb g w.heap.size w w':=by
 have HN:=Lib.hid (rdName_ok h hx ho hr)
 clear h hr
 go_enter Tryz.func125,Tryz.ntmps125
 go_wp2_with (go_at_call 149;refine HN.out.mono ?_;rintro e w1 ⟨rfl,S1,K1⟩;obtain ⟨v,hh⟩:=S1.has;have c3 : w1.cell? ⟨g,3,none⟩ = some (sv d.host):=(by rw [hh.cell];rfl);have f3:=hh.free 3;have HS:=Lib.hid S1;have HK:=Lib.hid K1;clear S1 K1 hh)
 go_end0
 exact ⟨rfl,HS.out.put (i:=3) (u:=sv r) rfl (fun v=>rfl),HK.out.set 3 _⟩
theorem rdMail_ok (h : St w g hi o (x :: ws) d n) (hx : x.2 = false) (ho : o.size ≤ 140737488355328) {r : List UInt8} (hr : Rd.nameR o.data.toList x.1 = some r) :
 Calls Tryz.prog 126 #[.pointer (some ⟨g,0,none⟩)] w fun e w' => e = .returned (.tuple #[]) ∧ St w' g hi o ws { d with mail:=r } n ∧ Kb g w.heap.size w w':=by
 have HN:=Lib.hid (rdName_ok h hx ho hr)
 clear h hr
 go_enter Tryz.func126,Tryz.ntmps126
 go_wp2_with (go_at_call 149;refine HN.out.mono ?_;rintro e w1 ⟨rfl,S1,K1⟩;obtain ⟨v,hh⟩:=S1.has;have c4 : w1.cell? ⟨g,4,none⟩ = some (sv d.mail):=(by rw [hh.cell];rfl);have f4:=hh.free 4;have HS:=Lib.hid S1;have HK:=Lib.hid K1;clear S1 K1 hh)
 go_end0
 exact ⟨rfl,HS.out.put (i:=4) (u:=sv r) rfl (fun v=>rfl),HK.out.set 4 _⟩
end
end Go.Proofs.YtekafhogiambaaaGreatDoor
namespace Go.Proofs.YtekafhogiambaaaGreatDoor
open Go.RowKit
def NmV (r : Option (List UInt8)) (v : Value) : Prop:=match r with
 | some n=>v = .tuple #[sv n,.bool true]
 | none => ∃ n : List UInt8,v = .tuple #[sv n,.bool false]
theorem below_nm {k : Nat} {w0 W W1 : World} (hs : w0.heap.size = k) (h : Below k w0 W) (b : Below W.heap.size W W1) : Below k w0 W1:=h.trans (b.mono (by rw [← hs];exact h.size))
section
variable {g : Nat} {hi : Nat × Nat} {s : Ma.S} {f x : Tk.Wd} {ws : List Tk.Wd} {w : World}
set_option linter.unusedSimpArgs false in
set_option maxHeartbeats 2000000 in
theorem maName_any (h : MM w g hi s f ws) (hs : Mk s) (x : Tk.Wd) (hx : x.text.length ≤ 262144) :
 Calls Tryz.prog 72 #[.pointer (some ⟨g,0,none⟩),wv x] w fun e w' => (∃ v,e = .returned v ∧ NmV (Ma.name s.o x) v) ∧ MM w' g hi s f ws ∧ Kb g w.heap.size w w':=by
 have hos:=hs.os
 clear hs
 obtain ⟨t,q,l,c⟩:=x
 show Calls _ _ #[_,.agg #[sv t,.bool q,.int .i64 l,.int .i64 c]] _ _
 obtain ⟨o,ttl,fx,recs⟩:=s
 have hA:=h.keep ((Below.refl w.heap.size w).alloc (Nat.le_refl _) (.cells #[sv t,.bool q,.int .i64 l,.int .i64 c] 69))
 have hk:=(Kb.refl g w.heap.size w).alloc (Nat.le_refl _) (.cells #[sv t,.bool q,.int .i64 l,.int .i64 c] 69)
 have hF:=Has.fresh w 69 #[sv t,.bool q,.int .i64 l,.int .i64 c]
 have hlt:=h.lt
 obtain ⟨vr,vw,hh⟩:=hA.has
 have c0 : (w.alloc (.cells #[sv t,.bool q,.int .i64 l,.int .i64 c] 69)).cell? ⟨g,0,none⟩ = some (sv o):=by rw [hh.cell];rfl
 have HA:=Lib.hid hA
 have HK:=Lib.hid hk
 have HF:=Lib.hid hF
 have HL : Hid (Lay (w.alloc (.cells #[sv t,.bool q,.int .i64 l,.int .i64 c] 69))):=hA.ga.lay
 clear h hA hk hh hF
 cases q with
 | true =>
  clear c0 HL
  go_enter Tryz.func72,Tryz.ntmps72
  go_wp2
  go_ret2
  exact ⟨⟨_,rfl, [],rfl⟩,HA.out,HK.out⟩
 | false =>
  by_cases h64 : t = [64]
  · subst h64
    have hb64 : ((⟨#[64]⟩ : ByteArray).toList == (⟨#[64]⟩ : ByteArray).toList) = true:=(Lib.bytes_beq_iff _ _).2 rfl
    clear HL
    go_enter Tryz.func72,Tryz.ntmps72
    go_wp2
    go_ret2
    exact ⟨⟨_,rfl,rfl⟩,HA.out,HK.out⟩
  · obtain ⟨r,hr⟩ : ∃ r,Nm.parse t o = r:=⟨_,rfl⟩
    obtain ⟨n,er⟩:=r
    have hNm : Ma.name o ⟨t,false,l,c⟩ = if er = 0 then some n else none:=by
     show (if false = true then none else Rd.nameR o t) = _
     unfold Rd.nameR
     rw [if_neg h64,hr]
     rfl
    have hR : parseR t o = .tuple #[sv n,.int .i64 er]:=by
     unfold parseR
     rw [hr]
    have hb64 : (t == ([64] : List UInt8)) = false:=beq_eq_false_iff_ne.2 h64
    have HP:=Lib.hid (fun (W : World) (hL : Lay W)=>by have:=Parse_any ⟨t.toArray⟩ ⟨o.toArray⟩ W hL (by rw [mk_size];exact Nat.le_trans hx (by decide)) (by rw [mk_size];exact hos);rw [show (⟨t.toArray⟩ : ByteArray).data.toList = t from by simp,show (⟨o.toArray⟩ : ByteArray).data.toList = o from by simp,hR] at this;exact this)
    have HN:=Lib.hid hNm
    clear hr hNm hR h64 hx hos
    have f1 : (w.alloc (.cells #[sv t,.bool false,.int .i64 l,.int .i64 c] 69)).cell? ⟨w.heap.size,0,none⟩ = some (sv t):=HF.out.cell 0
    have HLB:=Lib.hid (fun (W : World) (hb : Below (w.heap.size + 1) (w.alloc (.cells #[sv t,.bool false,.int .i64 l,.int .i64 c] 69)) W)=>HL.out.below hb (Nat.le_trans HL.out.size (by simp)))
    have hsz : (w.alloc (.cells #[sv t,.bool false,.int .i64 l,.int .i64 c] 69)).heap.size = w.heap.size + 1:=by simp
    have HSZ:=Lib.hid hsz
    have HC:=Lib.hid (fun (W : World) (hb : Below (w.heap.size + 1) (w.alloc (.cells #[sv t,.bool false,.int .i64 l,.int .i64 c] 69)) W)=>(show W.cell? ⟨w.heap.size,0,none⟩ = some (sv t) ∧ W.cell? ⟨g,0,none⟩ = some (sv o) from ⟨(hb.cell (p:=⟨w.heap.size,0,none⟩) (Nat.lt_succ_self _)).trans f1,(hb.cell (p:=⟨g,0,none⟩) (Nat.lt_succ_of_lt hlt)).trans c0⟩))
    clear hsz
    go_enter Tryz.func72,Tryz.ntmps72
    go_upto_region 5 with fail
    generalize hW0 : w.alloc (.cells #[sv t,.bool false,.int .i64 l,.int .i64 c] 69) = w0 at *
    have HW0:=Lib.hid hW0
    clear hW0
    have HKP:=Lib.hid (fun (W : World) (hb : Below (w.heap.size + 1) w0 W)=>(show (W.cell? ⟨w.heap.size,0,none⟩ = some (sv t) ∧ W.cell? ⟨g,0,none⟩ = some (sv o)) ∧ Below (w.heap.size + 1) w0 W from ⟨HC.out W hb,hb⟩))
    refine wp_region_noPanic ?_
    refine wp_region_held_drew (S:=(fun W=>(W.cell? ⟨w.heap.size,0,none⟩ = some (sv t) ∧ W.cell? ⟨g,0,none⟩ = some (sv o)) ∧ Below (w.heap.size + 1) w0 W)) (by kernel_rfl) ?hax1 (fun hHeld=>?_)
    case hax1 =>
     try dsimp only
     (first | assumption | exact HKP.out _ HW1.out | exact HKP.out _ (Below.refl _ _).drew)
    refine wpAnyH_take (i:=0) (oi:={ dst:=some 18,op:=Go.Op.fieldAddr 69 (Go.Operand.tmp 3) 0,type:=0,pos := "read.go:149",after:=#[],guard:=none }) (v:=?vax2) rfl (by kernel_rfl) (by kernel_rfl) (by kernel_rfl) (fun _ _ _ h=>h) (Or.inl ⟨by rfl,?hax2⟩) (by assumption) ?_
    case hax2 =>
     intro w hSw
     try dsimp only at hSw
     go_simp
     try with_reducible rfl
    try simp only [Act.put,List.setIfInBounds_toArray,List.set_cons_zero,List.set_cons_succ]
    refine wpAnyH_take (i:=1) (oi:={ dst:=some 19,op:=Go.Op.load 9 (Go.Operand.tmp 18),type:=9,pos := "read.go:149",after:=#[{ on:=0,ground:=Go.Ground.data }],guard:=none }) (v:=?vax3) rfl (by kernel_rfl) (by kernel_rfl) (by kernel_rfl) (fun _ _ _ h=>h) (Or.inl ⟨by rfl,?hax3⟩) (by assumption) ?_
    case hax3 =>
     intro w hSw
     try dsimp only at hSw
     go_simp
     try with_reducible rfl
    try simp only [Act.put,List.setIfInBounds_toArray,List.set_cons_zero,List.set_cons_succ]
    refine wpAnyH_take (i:=2) (oi:={ dst:=some 20,op:=Go.Op.move (Go.Operand.tmp 0),type:=94,pos := "read.go:149",after:=#[],guard:=none }) (v:=?vax4) rfl (by kernel_rfl) (by kernel_rfl) (by kernel_rfl) (fun _ _ _ h=>h) (Or.inl ⟨by rfl,?hax4⟩) (by assumption) ?_
    case hax4 =>
     intro w hSw
     try dsimp only at hSw
     go_simp
     try with_reducible rfl
    try simp only [Act.put,List.setIfInBounds_toArray,List.set_cons_zero,List.set_cons_succ]
    refine wpAnyH_take (i:=3) (oi:={ dst:=some 21,op:=Go.Op.nilCheck (Go.Operand.tmp 20),type:=0,pos := "read.go:149",after:=#[{ on:=2,ground:=Go.Ground.data }],guard:=none }) (v:=?vax5) rfl (by kernel_rfl) (by kernel_rfl) (by kernel_rfl) (fun _ _ _ h=>h) (Or.inl ⟨by rfl,?hax5⟩) (by assumption) ?_
    case hax5 =>
     intro w hSw
     try dsimp only at hSw
     go_simp
     try with_reducible rfl
    try simp only [Act.put,List.setIfInBounds_toArray,List.set_cons_zero,List.set_cons_succ]
    refine wpAnyH_take (i:=4) (oi:={ dst:=some 22,op:=Go.Op.fieldAddr 72 (Go.Operand.tmp 21) 0,type:=0,pos := "read.go:149",after:=#[{ on:=3,ground:=Go.Ground.data }],guard:=none }) (v:=?vax6) rfl (by kernel_rfl) (by kernel_rfl) (by kernel_rfl) (fun _ _ _ h=>h) (Or.inl ⟨by rfl,?hax6⟩) (by assumption) ?_
    case hax6 =>
     intro w hSw
     try dsimp only at hSw
     go_simp
     try with_reducible rfl
    try simp only [Act.put,List.setIfInBounds_toArray,List.set_cons_zero,List.set_cons_succ]
    refine wpAnyH_take (i:=5) (oi:={ dst:=some 23,op:=Go.Op.load 22 (Go.Operand.tmp 22),type:=22,pos := "read.go:149",after:=#[{ on:=4,ground:=Go.Ground.data }],guard:=none }) (v:=?vax7) rfl (by kernel_rfl) (by kernel_rfl) (by kernel_rfl) (fun _ _ _ h=>h) (Or.inl ⟨by rfl,?hax7⟩) (by assumption) ?_
    case hax7 =>
     intro w hSw
     try dsimp only at hSw
     go_simp
     try with_reducible rfl
    try simp only [Act.put,List.setIfInBounds_toArray,List.set_cons_zero,List.set_cons_succ]
    refine wpAnyH_ready (rs := [6]) (by kernel_rfl) (by simp) ?_
    refine AllReadyH.cons (o:={ dst:=some 24,op:=Go.Op.call { callee:=Go.Callee.value (Go.Operand.func 90),args:=#[Go.Operand.tmp 19,Go.Operand.tmp 23],argTypes:=#[9,22] },type:=145,pos := "read.go:149",after:=#[{ on:=1,ground:=Go.Ground.data },{ on:=5,ground:=Go.Ground.data }],guard:=none }) rfl (fun K hK=>?_) AllReadyH.nil
    go_simp
    (go_at_call 90;(refine (HP.out _ (HLB.out _ (by go_split_ands;assumption))).mono ?_);rintro e W1 ⟨rfl,B1⟩;have HW1 : Hid (Below (w.heap.size + 1) w0 W1):=(by go_split_ands;exact below_nm HSZ.out (by assumption) B1);clear B1)
    try go_wp2_with fail
    refine hK.out _ _ ?hax8 (fun hHeld=>?_)
    case hax8 =>
     try dsimp only
     (first | assumption | exact HKP.out _ HW1.out | exact HKP.out _ (Below.refl _ _).drew)
    clear hK K
    try simp only [Act.put,List.setIfInBounds_toArray,List.set_cons_zero,List.set_cons_succ]
    refine wpAnyH_take (i:=7) (oi:={ dst:=some 17,op:=Go.Op.move (Go.Operand.tmp 24),type:=145,pos := "read.go:149",after:=#[{ on:=6,ground:=Go.Ground.data }],guard:=none }) (v:=?vax9) rfl (by kernel_rfl) (by kernel_rfl) (by kernel_rfl) (fun _ _ _ h=>h) (Or.inl ⟨by rfl,?hax9⟩) (by assumption) ?_
    case hax9 =>
     intro w hSw
     try dsimp only at hSw
     go_simp
     try with_reducible rfl
    try simp only [Act.put,List.setIfInBounds_toArray,List.set_cons_zero,List.set_cons_succ]
    refine wpAnyH_take (i:=8) (oi:={ dst:=some 25,op:=Go.Op.extract (Go.Operand.tmp 17) 0,type:=22,pos := "read.go:149",after:=#[{ on:=7,ground:=Go.Ground.data }],guard:=none }) (v:=?vax10) rfl (by kernel_rfl) (by kernel_rfl) (by kernel_rfl) (fun _ _ _ h=>h) (Or.inl ⟨by rfl,?hax10⟩) (by assumption) ?_
    case hax10 =>
     intro w hSw
     try dsimp only at hSw
     go_simp
     try with_reducible rfl
    try simp only [Act.put,List.setIfInBounds_toArray,List.set_cons_zero,List.set_cons_succ]
    refine wpAnyH_take (i:=9) (oi:={ dst:=some 26,op:=Go.Op.extract (Go.Operand.tmp 17) 1,type:=27,pos := "read.go:149",after:=#[{ on:=7,ground:=Go.Ground.data },{ on:=10,ground:=Go.Ground.gcOnly Go.Departure.lateStores }],guard:=none }) (v:=?vax11) rfl (by kernel_rfl) (by kernel_rfl) (by kernel_rfl) (fun _ _ _ h=>h) (Or.inl ⟨by rfl,?hax11⟩) (by assumption) ?_
    case hax11 =>
     intro w hSw
     try dsimp only at hSw
     go_simp
     try with_reducible rfl
    try simp only [Act.put,List.setIfInBounds_toArray,List.set_cons_zero,List.set_cons_succ]
    refine wpAnyH_take (i:=10) (oi:={ dst:=some 6,op:=Go.Op.assign (Go.Operand.tmp 25),type:=22,pos := "read.go:149",after:=#[{ on:=8,ground:=Go.Ground.data },{ on:=6,ground:=Go.Ground.chain },{ on:=0,ground:=Go.Ground.phase },{ on:=1,ground:=Go.Ground.phase },{ on:=2,ground:=Go.Ground.phase },{ on:=3,ground:=Go.Ground.phase },{ on:=4,ground:=Go.Ground.phase },{ on:=5,ground:=Go.Ground.phase },{ on:=6,ground:=Go.Ground.phase },{ on:=7,ground:=Go.Ground.phase },{ on:=8,ground:=Go.Ground.phase },{ on:=9,ground:=Go.Ground.textOnly Go.Departure.lateStores }],guard:=none }) (v:=?vax12) rfl (by kernel_rfl) (by kernel_rfl) (by kernel_rfl) (fun _ _ _ h=>h) (Or.inl ⟨by rfl,?hax12⟩) (by assumption) ?_
    case hax12 =>
     intro w hSw
     try dsimp only at hSw
     go_simp
     try with_reducible rfl
    try simp only [Act.put,List.setIfInBounds_toArray,List.set_cons_zero,List.set_cons_succ]
    refine wpAnyH_take (i:=11) (oi:={ dst:=some 7,op:=Go.Op.assign (Go.Operand.tmp 26),type:=27,pos := "read.go:149",after:=#[{ on:=9,ground:=Go.Ground.data },{ on:=10,ground:=Go.Ground.chain },{ on:=0,ground:=Go.Ground.phase },{ on:=1,ground:=Go.Ground.phase },{ on:=2,ground:=Go.Ground.phase },{ on:=3,ground:=Go.Ground.phase },{ on:=4,ground:=Go.Ground.phase },{ on:=5,ground:=Go.Ground.phase },{ on:=6,ground:=Go.Ground.phase },{ on:=7,ground:=Go.Ground.phase },{ on:=8,ground:=Go.Ground.phase },{ on:=9,ground:=Go.Ground.phase },{ on:=10,ground:=Go.Ground.phase }],guard:=none }) (v:=?vax13) rfl (by kernel_rfl) (by kernel_rfl) (by kernel_rfl) (fun _ _ _ h=>h) (Or.inl ⟨by rfl,?hax13⟩) (by assumption) ?_
    case hax13 =>
     intro w hSw
     try dsimp only at hSw
     go_simp
     try with_reducible rfl
    try simp only [Act.put,List.setIfInBounds_toArray,List.set_cons_zero,List.set_cons_succ]
    refine wpAnyH_done (by kernel_rfl) ?_ _
    refine NoPanic.normal ?_
    go_wp2
    go_ret2
    refine ⟨⟨_,rfl,?_⟩,HA.out.keep (HW1.out.mono (Nat.le_of_eq HSZ.out)),HK.out.trans (Kb.of_below (HW1.out.mono (Nat.le_succ _)))⟩
    rw [HN.out]
    by_cases h0 : er = 0
    · rw [if_pos h0,h0]
      rfl
    · rw [if_neg h0]
      refine ⟨n,?_⟩
      have hb : ((er : Int) == 0) = false:=beq_eq_false_iff_ne.2 (by omega)
      rw [← hb]
      rfl
end
end Go.Proofs.YtekafhogiambaaaGreatDoor
namespace Go.Proofs.YtekafhogiambaaaGreatDoor
theorem Nm.labelsP_good : ∀ (ps ls : List Nm.By),Nm.labelsP ps = .ok ls → Nm.Good ls
 | [],ls,h=>by
  injection h with h
  subst h
  intro l hl
  cases hl
 | p :: ps,ls,h=>by
  rw [Nm.labelsP] at h
  cases hu : Nm.unesc p with
  | none=>rw [hu] at h;cases h
  | some b =>
   rw [hu] at h
   simp only at h
   by_cases hb : 1 ≤ b.length ∧ b.length ≤ 63
   · rw [if_pos hb] at h
     cases hr : Nm.labelsP ps with
     | error e=>rw [hr] at h;cases h
     | ok l2 =>
      rw [hr] at h
      injection h with h
      subst h
      intro l hl
      rcases List.mem_cons.1 hl with rfl | hl
      · exact hb
      · exact Nm.labelsP_good ps l2 hr l hl
   · rw [if_neg hb] at h;cases h
theorem Nm.labelsP_err : ∀ (ps : List Nm.By) (e : Nat),Nm.labelsP ps = .error e → e ≠ 0
 | [],e,h=>by cases h
 | p :: ps,e,h=>by
  rw [Nm.labelsP] at h
  cases hu : Nm.unesc p with
  | none=>rw [hu] at h;injection h with h;omega
  | some b =>
   rw [hu] at h
   simp only at h
   by_cases hb : 1 ≤ b.length ∧ b.length ≤ 63
   · rw [if_pos hb] at h
     cases hr : Nm.labelsP ps with
     | error e2=>rw [hr] at h;injection h with h;rw [← h];exact Nm.labelsP_err ps e2 hr
     | ok l2=>rw [hr] at h;cases h
   · rw [if_neg hb] at h;injection h with h;omega
theorem Nm.glueR_is {ls : List Nm.By} {n : Nm.By} (hg : Nm.Good ls) (h : Nm.glueR ls = (n,0)) : Nm.split n = some ls:=by
 unfold Nm.glueR at h
 split at h
 · cases h
 · rename_i hl
   injection h with h _
   subst h
   exact Nm.split_glue hg (by rw [Nm.glue_length];omega)
theorem Nm.parse_is {l o n : Nm.By} (h : Nm.parse l o = (n,0)) : ∃ ls,Nm.split n = some ls:=by
 unfold Nm.parse at h
 cases ho : Nm.split o with
 | none=>rw [ho] at h;cases h
 | some os =>
  rw [ho] at h
  simp only at h
  by_cases h46 : l = [46]
  · rw [if_pos h46] at h
    injection h with h _
    subst h
    exact ⟨[],by decide⟩
  · rw [if_neg h46] at h
    cases hl : Nm.labelsP (Nm.pieces l).1 with
    | error e =>
     rw [hl] at h
     injection h with _ h
     exact absurd h (Nm.labelsP_err _ _ hl)
    | ok ls =>
     rw [hl] at h
     have hg:=Nm.labelsP_good _ _ hl
     have hgo:=(Nm.split_some.1 ho).2.1
     refine ⟨_,Nm.glueR_is ?_ h⟩
     split
     · exact hg
     · intro x hx
       rcases List.mem_append.1 hx with hx | hx
       · exact hg x hx
       · exact hgo x hx
theorem Rd.nm_len {n : List UInt8} (h : Rd.nm n = true) : n.length ≤ 255:=by
 unfold Rd.nm at h
 cases hs : Nm.split n with
 | none=>rw [hs] at h;cases h
 | some ls=>exact (Nm.split_some.1 hs).2.2
theorem Rd.nameR_is {o s n : List UInt8} (ho : Rd.nm o = true) (h : Rd.nameR o s = some n) : Rd.nm n = true:=by
 unfold Rd.nameR at h
 split at h
 · injection h with h
   rw [← h];exact ho
 · split at h
   · rename_i hp
     injection h with h
     obtain ⟨ls,hl⟩:=Nm.parse_is (l:=s) (o:=o) (n:=n) (by rw [← h,← hp])
     unfold Rd.nm
     rw [hl];rfl
   · cases h
theorem Ma.name_is {o n : List UInt8} {x : Tk.Wd} (ho : Rd.nm o = true) (h : Ma.name o x = some n) : Rd.nm n = true:=by
 unfold Ma.name at h
 split at h
 · cases h
 · exact Rd.nameR_is ho h
theorem Ma.tc_le : ∀ (fx : Bool) (ws : List Tk.Wd) (h t : Nat) (bt bc : Bool) (x : Nat × Nat × List Tk.Wd),h ≤ 2147483647 → t ≤ 2147483647 → Ma.tc fx ws h t bt bc = .ok x → x.1 ≤ 2147483647 ∧ x.2.1 ≤ 2147483647
 | fx, [],h,t,bt,bc,x,hh,ht,he=>by
  rw [Ma.tc] at he
  injection he with he
  subst he
  exact ⟨hh,ht⟩
 | fx,w :: r,h,t,bt,bc,x,hh,ht,he=>by
  rw [Ma.tc] at he
  split at he
  · split at he
    · rename_i hv
      refine Ma.tc_le fx r _ _ _ _ x ?_ hv he
      split
      · exact hh
      · exact hv
    · cases he
  · split at he
    · split at he
      · exact Ma.tc_le fx r _ _ _ _ x hh ht he
      · cases he
    · injection he with he
      subst he
      exact ⟨hh,ht⟩
theorem Mk.name {s : Ma.S} (h : Mk s) {x : Tk.Wd} {n : List UInt8} (hn : Ma.name s.o x = some n) : Rd.nm n = true ∧ n.length ≤ 255:=⟨Ma.name_is h.o hn,Rd.nm_len (Ma.name_is h.o hn)⟩
theorem Mk.owner {s : Ma.S} (h : Mk s) {f : Tk.Wd} {bl : Bool} {ws : List Tk.Wd} {y : List UInt8 × List Tk.Wd} (ho : Ma.owner s f bl ws = .ok y) : y.1.length ≤ 140737488355328:=by
 unfold Ma.owner at ho
 split at ho
 · split at ho
   · rename_i r hr
     injection ho with ho
     rw [← ho]
     exact h.nm r (List.mem_of_mem_getLast? hr)
   · cases ho
 · split at ho
   · cases ho
   · split at ho
     · rename_i hn
       injection ho with ho
       rw [← ho]
       have:=(h.name hn).2
       show (Nm.fold _).length ≤ _
       unfold Nm.fold
       rw [List.length_map]
       omega
     · cases ho
theorem Mk.record {s : Ma.S} (h : Mk s) {f : Tk.Wd} {bl : Bool} {ws : List Tk.Wd} {y : Nat × Ma.Rc} (hr : Ma.record s f bl ws = .ok y) : y.1 ≤ 2147483647 ∧ y.2.nm.length ≤ 140737488355328 ∧ y.2.ttl ≤ 2147483647:=by
 unfold Ma.record at hr
 split at hr
 · cases hr
 · rename_i n ws2 ho
   split at hr
   · cases hr
   · rename_i hl t ws3 ht
     split at hr
     · cases hr
     · injection hr with hr
       subst hr
       have h1:=h.owner ho
       have h2:=Ma.tc_le _ _ _ _ _ _ _ h.ttl h.ttl ht
       exact ⟨h2.1,h1,h2.2⟩
theorem Mk.entry {s s' : Ma.S} (h : Mk s) {bl : Bool} {x : Tk.Wd} {r : List Tk.Wd} (he : Ma.entry s bl x r = .ok s') : Mk s':=by
 unfold Ma.entry at he
 split at he
 · unfold Ma.directive at he
   split at he
   · split at he
     · split at he
       · rename_i hn
         injection he with he
         subst he
         obtain ⟨h1,h2⟩:=h.name hn
         exact ⟨h1,Nat.le_trans h2 (by decide),h.ttl,h.recs,h.nm⟩
       · cases he
     · split at he
       · split at he
         · split at he
           · rename_i hv
             injection he with he
             subst he
             exact ⟨h.o,h.os,hv,h.recs,h.nm⟩
           · cases he
         · cases he
       · cases he
   · cases he
 · split at he
   · cases he
   · rename_i hne
     split at he
     · cases he
     · rename_i hl c hr
       injection he with he
       subst he
       obtain ⟨h1,h2,_⟩:=h.record hr
       refine ⟨h.o,h.os,h1,?_,fun y hy=>?_⟩
       · have:=h.recs
         simp
         omega
       · rcases List.mem_append.1 hy with hy | hy
         · exact h.nm y hy
         · rw [List.mem_singleton.1 hy]
           exact h2
end Go.Proofs.YtekafhogiambaaaGreatDoor
namespace Go.Proofs.YtekafhogiambaaaGreatDoor
open Go.RowKit
def OwP (w : World) (g : Nat) (hi : Nat × Nat) (s : Ma.S) (f : Tk.Wd) (R : Ma.Ans (Rd.By × List Tk.Wd)) (e : Ending) (w' : World) : Prop:=match R with
 | .ok (n,ws)=>e = .returned (sv n) ∧ MM w' g hi s f ws ∧ Kb g w.heap.size w w'
 | .error x=>Fell w g x e w'
section
variable {g : Nat} {hi : Nat × Nat} {s : Ma.S} {f : Tk.Wd} {ws : List Tk.Wd} {w : World}
theorem MM.first (h : MM w g hi s f ws) : w.rangeAt g 4 [sv f.text,.bool f.quoted,.int .i64 f.line,.int .i64 f.col]:=by
 obtain ⟨vr,vw,h1⟩:=h.has
 intro j v hv
 rw [h1.cell]
 match j,hv with
 | 0,hv=>injection hv with hv;subst hv;rfl
 | 1,hv=>injection hv with hv;subst hv;rfl
 | 2,hv=>injection hv with hv;subst hv;rfl
 | 3,hv=>injection hv with hv;subst hv;rfl
theorem MM.last {r : Ma.Rc} {l : List Ma.Rc} (h : MM w g hi s f ws) (hr : s.recs = l ++ [r]) : ∃ k o c,w.cell? ⟨g,3,none⟩ = some (.slice (some ⟨k,o,none⟩) (l.length + 1) c) ∧ w.cell? ⟨k,o + l.length * 12,none⟩ = some (sv r.nm):=by
 obtain ⟨vr,vw,h1,h2,_⟩:=h
 obtain ⟨A,c,rfl,_,hS⟩:=Own.srow mcl_len h2
 have hl : s.recs.length = l.length + 1:=by rw [hr];simp
 obtain ⟨k,o,rfl,_,_,hc⟩:=hS.at_ (j:=l.length) (by omega)
 refine ⟨k,o,c,by rw [h1.cell,hl.symm];rfl,?_⟩
 have he : s.recs[l.length]'(by omega) = r:=by simp [hr]
 rw [he] at hc
 exact hc 0 _ rfl
theorem MM.noRec (h : MM w g hi s f ws) (hr : s.recs = []) : ∃ A c,w.cell? ⟨g,3,none⟩ = some (.slice A 0 c):=by
 obtain ⟨vr,vw,h1,h2,_⟩:=h
 obtain ⟨A,c,rfl,_,_⟩:=Own.srow mcl_len h2
 exact ⟨A,c,by rw [h1.cell,hr];rfl⟩
theorem MM.wordLen {x : Tk.Wd} (h : MM w g hi s f (x :: ws)) : x.text.length ≤ 262144:=by
 obtain ⟨vr,vw,_,hw⟩:=h.wp
 obtain ⟨_,_,_,_,_,_,_,_,_,hl⟩:=hw.head
 exact hl
set_option maxHeartbeats 4000000 in
theorem maOwner_any (h : MM w g hi s f ws) (hs : Mk s) (bl : Bool) (hne : bl = false → ws ≠ []) :
 Calls Tryz.prog 74 #[.pointer (some ⟨g,0,none⟩),.bool bl] w fun e w' => OwP w g hi s f (Ma.owner s f bl ws) e w':=by
 have hi4 : (Tryz.prog.info? 69).map (·.size) = some 4:=by kernel_rfl
 have HI:=Lib.hid hi4
 have hgw:=h.lt
 have HG:=Lib.hid (fun (W : World)=>maGiveUp_any f 90 W)
 cases bl with
 | true =>
  have hO : Ma.owner s f true ws = match s.recs.getLast? with | some r=>.ok (r.nm,ws) | none=>.error (Ma.at_ f 90):=rfl
  rcases List.eq_nil_or_concat s.recs with hr | ⟨l,r,hr⟩
  · rw [hr] at hO
    have hO2 : Ma.owner s f true ws = .error (Ma.at_ f 90):=hO
    rw [hO2]
    obtain ⟨A,c,c3⟩:=h.noRec hr
    have HF:=Lib.hid h.first
    obtain ⟨ft,fq,fl,fc⟩:=f
    clear hO hO2 hr h hs hne hi4
    go_enter Tryz.func74,Tryz.ntmps74
    go_wp2_with (first
     | (refine wpList_load_mid rfl 69 (.tmp 33) rfl g _ rfl [sv ft,.bool fq,.int .i64 fl,.int .i64 fc] _ HF.out Tryz.underlying69 rfl HI.out ?_)
     | (go_at_call 40;refine (HG.out _).mono ?_;rintro e w1 ⟨rfl,B1⟩;exact ⟨rfl,⟨rfl,B1.mono (Nat.le_of_lt hgw)⟩⟩))
  · have hr' : s.recs = l ++ [r]:=by rw [hr,List.concat_eq_append]
    have hO2 : Ma.owner s f true ws = .ok (r.nm,ws):=by
     rw [hO,hr',List.getLast?_append]
     rfl
    rw [hO2]
    obtain ⟨k,o,c,c3,cn⟩:=h.last hr'
    have HM:=Lib.hid h
    have hml : l.length < 4096:=by
     have:=hs.recs
     rw [hr'] at this
     simp at this
     omega
    generalize l.length = m at *
    have e0 : (((m : Int) + 1) == 0) = false:=beq_eq_false_iff_ne.2 (by omega)
    have em : ((m : Int) + 1 - 1) = (m : Int):=by omega
    have hw1 : IntKind.i64.wrap ((m : Int) + 1 - 1) = (m : Int):=by rw [IntKind.wrap_i64];omega
    have hlt : (m : Int) < (m : Int) + 1:=by omega
    clear hO hO2 hr hr' h hs hne hi4
    go_enter Tryz.func74,Tryz.ntmps74
    have HCL:=Lib.hid (fun n=>show (w.drewN n).cell? ⟨g,3,none⟩ = some (.slice (some ⟨k,o,none⟩) (m + 1) c) ∧ (w.drewN n).cell? ⟨k,o + m * 12,none⟩ = some (sv r.nm) from ⟨c3,cn⟩)
    go_wp2
    go_quiet (fail)
    go_wp2
    go_ret
    exact ⟨rfl,HM.out.keep (below_drewN (Below.refl _ _) _),Kb.of_below (below_drewN (Below.refl _ _) _)⟩
 | false =>
  cases ws with
  | nil=>exact absurd rfl (hne rfl)
  | cons x rs =>
   have hxl:=h.wordLen
   have HT:=Lib.hid (fun (W : World) (hM : MM W g hi s f (x :: rs))=>maTake_any hM)
   have HN:=Lib.hid (fun (W : World) (hM : MM W g hi s f rs)=>maName_any hM hs x hxl)
   have HM:=Lib.hid h
   have hO : Ma.owner s f false (x :: rs) = match Ma.name s.o x with | some n=>.ok (Nm.fold n,rs) | none=>.error (Ma.at_ f 90):=rfl
   cases hn : Ma.name s.o x with
   | none =>
    rw [hn] at hO HN
    have hO2 : Ma.owner s f false (x :: rs) = .error (Ma.at_ f 90):=hO
    rw [hO2]
    obtain ⟨ft,fq,fl,fc⟩:=f
    clear hO hO2 hn h hs hne hi4
    go_enter Tryz.func74,Tryz.ntmps74
    go_wp2_with (first
     | (go_at_call 71;refine (HT.out _ HM.out).mono ?_;rintro e w1 ⟨rfl,M1,K1⟩;have HM1:=Lib.hid M1;have HK1:=Lib.hid K1;clear M1 K1)
     | (go_at_call 72;refine (HN.out _ HM1.out).mono ?_;rintro e w2 ⟨⟨v,rfl,n,rfl⟩,M2,K2⟩;have HM2:=Lib.hid M2;have HF:=Lib.hid M2.first;have HK2:=Lib.hid (HK1.out.on K2);clear M2 K2)
     | (refine wpList_load_mid rfl 69 (.tmp 20) rfl g _ rfl [sv ft,.bool fq,.int .i64 fl,.int .i64 fc] _ HF.out Tryz.underlying69 rfl HI.out ?_)
     | (go_at_call 40;refine (HG.out _).mono ?_;rintro e w3 ⟨rfl,B3⟩;exact ⟨rfl,⟨rfl,(HK2.out.below (Nat.le_of_lt hgw)).trans (B3.mono (Nat.le_of_lt HM2.out.lt))⟩⟩))
   | some n =>
    have hnl:=(hs.name hn).2
    have HF:=Lib.hid (fun W : World=>Fold_any ⟨n.toArray⟩ W (by rw [mk_size];omega))
    rw [hn] at hO HN
    have hO2 : Ma.owner s f false (x :: rs) = .ok (Nm.fold n,rs):=hO
    rw [hO2]
    clear hO hO2 hn h hs hne hi4 hnl
    go_enter Tryz.func74,Tryz.ntmps74
    go_wp2_with (first
     | (go_at_call 71;refine (HT.out _ HM.out).mono ?_;rintro e w1 ⟨rfl,M1,K1⟩;have HM1:=Lib.hid M1;have HK1:=Lib.hid K1;clear M1 K1)
     | (go_at_call 72;refine (HN.out _ HM1.out).mono ?_;rintro e w2 ⟨⟨v,rfl,rfl⟩,M2,K2⟩;have HM2:=Lib.hid M2;have HK2:=Lib.hid (HK1.out.on K2);clear M2 K2)
     | (go_at_call 31;refine (HF.out _).mono ?_;rintro e w3 ⟨rfl,B3⟩;have HB3:=Lib.hid B3;clear B3))
    go_ret
    exact ⟨rfl,HM2.out.keep HB3.out,HK2.out.onB HB3.out⟩
end
end Go.Proofs.YtekafhogiambaaaGreatDoor
