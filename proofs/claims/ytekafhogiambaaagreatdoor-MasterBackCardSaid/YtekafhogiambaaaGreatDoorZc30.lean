/- Texts of the proofs, merged. -/
import Derived.Test.YtekafhogiambaaaGreatDoorZc29
import Derived.StillTailTactics
set_option maxRecDepth 100000
namespace Go.Proofs.YtekafhogiambaaaGreatDoor
open Go.RowKit
def KK (w0 : World) (g rc : Nat) (w : World) : Prop:=Kb g (rc + 1) w0 w ∧ Has w rc 31 #[.int .i64 0,.int .i64 0] ∧ g < rc
theorem KK.step {w0 w w' : World} {g rc : Nat} (h : KK w0 g rc w) (hk : Kb g (rc + 1) w w') : KK w0 g rc w':=⟨h.1.trans hk,hk.has h.2.1 (by omega) (by have:=h.2.2;omega),h.2.2⟩
theorem KK.lt {w0 w : World} {g rc : Nat} (h : KK w0 g rc w) : rc + 1 ≤ w.heap.size:=h.2.1.lt
section
variable (s : ByteArray) (g rc : Nat) (w0 : World)
def J0 (n : Nat) (a : Act) (w : World) : Prop := ∃ at_ lineAt σ st,Fr a g rc st ∧ KK w0 g rc w ∧ LxM w g (rc + 1) s at_ lineAt σ at_ ∧ at_ ≤ s.size ∧ σ.col + lineAt = at_ + 1 ∧ Tk.play (Tk.lx (s.data.toList.drop at_)) σ = Tk.tells s.data.toList ∧ n = 3 * (s.size - at_) + 1
def J4 (n : Nat) (a : Act) (w : World) : Prop := ∃ (b at_ lineAt : Nat) (σ : Tk.St),Fr a g rc (.int .i64 b) ∧ KK w0 g rc w ∧ LxM w g (rc + 1) s at_ lineAt σ b ∧ b < s.size ∧ Tk.ends (nb s b) = false ∧ b ≤ at_ ∧ at_ ≤ s.size ∧ σ.col + lineAt = b + 1 ∧
 at_ + Tk.bareLen (s.data.toList.drop at_) = b + Tk.bareLen (s.data.toList.drop b) ∧ Tk.play (Tk.lx (s.data.toList.drop b)) σ = Tk.tells s.data.toList ∧ n = 3 * (s.size - at_) + if Tk.ends (nb s at_) then 2 else 0
def J3 (n : Nat) (a : Act) (w : World) : Prop := ∃ (b at_ lineAt : Nat) (σ : Tk.St),Fr a g rc (.int .i64 b) ∧ KK w0 g rc w ∧ LxM w g (rc + 1) s at_ lineAt σ b ∧ b < s.size ∧ (nb s b).toNat = 34 ∧ b + 1 ≤ at_ ∧ at_ ≤ s.size ∧ σ.col + lineAt = b + 1 ∧
 Tk.quoLen (s.data.toList.drop (b + 1)) = (Tk.quoLen (s.data.toList.drop at_)).map (at_ - (b + 1) + ·) ∧ Tk.play (Tk.lx (s.data.toList.drop b)) σ = Tk.tells s.data.toList ∧ n = 3 * (s.size - at_)
def J2 (n : Nat) (a : Act) (w : World) : Prop := ∃ (b at_ lineAt : Nat) (σ : Tk.St) (st : Value),Fr a g rc st ∧ KK w0 g rc w ∧ LxM w g (rc + 1) s at_ lineAt σ b ∧ b < s.size ∧ (nb s b).toNat = 59 ∧ b ≤ at_ ∧ at_ ≤ s.size ∧ σ.col + lineAt = b + 1 ∧
 at_ + Tk.remLen (s.data.toList.drop at_) = b + Tk.remLen (s.data.toList.drop b) ∧ Tk.play (Tk.lx (s.data.toList.drop b)) σ = Tk.tells s.data.toList ∧ n = 3 * (s.size - at_) + if (nb s at_).toNat = 10 then 2 else 0
def J1 (a : Act) (w : World) : Prop := ∃ lineAt σ st,Fr a g rc st ∧ KK w0 g rc w ∧ LxM w g (rc + 1) s s.size lineAt σ s.size ∧ Tk.play [] σ = Tk.tells s.data.toList
def Jl (n l : Nat) (a : Act) (w : World) : Prop :=
 (l = 0 ∧ J0 s g rc w0 n a w) ∨ (l = 1 ∧ J1 s g rc w0 a w) ∨ (l = 2 ∧ J2 s g rc w0 n a w) ∨ (l = 3 ∧ J3 s g rc w0 n a w) ∨ (l = 4 ∧ J4 s g rc w0 n a w)
def RdP : Ending → World → Prop:=fun e w' =>
 Kb g rc w0 w' ∧ match Tk.tells s.data.toList with
  | .err l c x=>e = .returned (.tuple #[.agg #[.int .i64 l,.int .i64 c],.int .i64 x])
  | .ok es=>e = .returned (.tuple #[.agg #[.int .i64 0,.int .i64 0],.int .i64 0]) ∧ ∃ ve out,w'.cell? ⟨g,10,none⟩ = some ve ∧ Ers w' (rc + 1) ve out ∧ out.map Ex.en = es
noncomputable def rdBody : Code:=match Tryz.f36.body with | some (Code.seq _ (Code.scope c))=>c | _=>.skip
abbrev Next (n : Nat) (Q : Exit → Act → World → Prop) : Exit → Act → World → Prop:=jumps (fun l' a' w' => ∃ n',n' < n ∧ Jl s g rc w0 n' l' a' w') Q
end
end Go.Proofs.YtekafhogiambaaaGreatDoor
namespace Go.Proofs.YtekafhogiambaaaGreatDoor
open Go.RowKit
theorem tk1_tlen {s : ByteArray} {at_ : Nat} (h : at_ < s.size) : tk1 s at_ = Tk.tlen (s.data.toList.drop at_):=by
 rw [nb_drop h]
 unfold tk1
 by_cases h2 : at_ + 1 < s.size
 · rw [nb_drop h2];rfl
 · rw [drop_end (at_:=at_ + 1) (by omega),nb_end (at_:=at_ + 1) (by omega)]
   show _ = 1
   rw [if_neg]
   rintro ⟨_,h⟩
   exact h rfl
theorem tk1_two (s : ByteArray) (at_ : Nat) : tk1 s at_ ≤ 2 ∧ 1 ≤ tk1 s at_:=by
 unfold tk1
 split <;> omega
theorem tk1_le {s : ByteArray} {at_ : Nat} (h : at_ < s.size) : at_ + tk1 s at_ ≤ s.size:=by
 rw [tk1_tlen h]
 have:=Tk.tlen_le (c:=nb s at_) (r:=s.data.toList.drop (at_ + 1))
 rw [← nb_drop h] at this
 simp at this
 have h3 : s.data.size = s.size:=rfl
 omega
theorem quo_err {s : ByteArray} {b at_ : Nat} {σ : Tk.St} {R : Tk.Rs} (hb : b < s.size) (h34 : (nb s b).toNat = 34) (h10 : (nb s at_).toNat = 10)
 (hq : Tk.quoLen (s.data.toList.drop (b + 1)) = (Tk.quoLen (s.data.toList.drop at_)).map (at_ - (b + 1) + ·)) (hp : Tk.play (Tk.lx (s.data.toList.drop b)) σ = R) : R = .err σ.line σ.col 80:=by
 have h0 : Tk.quoLen (s.data.toList.drop at_) = none:=by
  by_cases h : at_ < s.size
  · rw [nb_drop h];exact Tk.quoLen_lf h10
  · rw [drop_end (by omega)];rfl
 rw [h0] at hq
 rw [nb_drop hb,Tk.lx_bad h34 hq] at hp
 exact hp.symm
theorem quo_done {s : ByteArray} {b at_ : Nat} {σ : Tk.St} {R : Tk.Rs} (hb : b < s.size) (h34 : (nb s b).toNat = 34) (hle : b + 1 ≤ at_) (hat : at_ < s.size) (hc : (nb s at_).toNat = 34)
 (hq : Tk.quoLen (s.data.toList.drop (b + 1)) = (Tk.quoLen (s.data.toList.drop at_)).map (at_ - (b + 1) + ·)) (hp : Tk.play (Tk.lx (s.data.toList.drop b)) σ = R) :
 Tk.play (Tk.lx (s.data.toList.drop (at_ + 1))) (σ.put (s.extract (b + 1) at_).data.toList true (at_ + 1 - b)) = R:=by
 rw [nb_drop hat,Tk.quoLen_q hc] at hq
 simp only [Option.map_some,Nat.add_zero] at hq
 rw [nb_drop hb,Tk.lx_quo h34 hq,Tk.play,List.drop_drop] at hp
 have hl : (List.take (at_ - (b + 1)) (s.data.toList.drop (b + 1))).length + 2 = at_ + 1 - b:=by
  rw [List.length_take,List.length_drop]
  have h3 : s.data.toList.length = s.size:=by simp
  omega
 rw [hl,show b + 1 + (at_ - (b + 1) + 1) = at_ + 1 by omega] at hp
 rw [extract_list]
 exact hp
theorem quo_step {s : ByteArray} {b at_ : Nat} (hle : b + 1 ≤ at_) (hat : at_ < s.size) (h10 : (nb s at_).toNat ≠ 10) (h34 : (nb s at_).toNat ≠ 34)
 (hq : Tk.quoLen (s.data.toList.drop (b + 1)) = (Tk.quoLen (s.data.toList.drop at_)).map (at_ - (b + 1) + ·)) :
 Tk.quoLen (s.data.toList.drop (b + 1)) = (Tk.quoLen (s.data.toList.drop (at_ + tk1 s at_))).map (at_ + tk1 s at_ - (b + 1) + ·):=by
 have h1:=Tk.quoLen_step (r:=s.data.toList.drop (at_ + 1)) h10 h34
 rw [← nb_drop hat,← tk1_tlen hat,List.drop_drop] at h1
 rw [hq,h1,Option.map_map]
 congr 1
 funext k
 simp only [Function.comp]
 omega
set_option maxHeartbeats 2000000 in
theorem pass3 (s : ByteArray) (g rc : Nat) (w0 : World) (n : Nat) (a : Act) (w : World) (hs : s.size ≤ 262144) (h : J3 s g rc w0 n a w) :
 ∃ rest,findLabel rdBody 3 = some rest ∧ rest.wp Tryz.prog (Next s g rc w0 n (bodyPost Tryz.prog Tryz.f36 (RdP s g rc w0))) a w:=by
 obtain ⟨b,at_,lineAt,σ,hfr,hkk,hM,hb,h34,hle,hat,hc,hq,hplay,hn⟩:=h
 have HKK:=Lib.hid hkk
 have HGB : Hid (g < rc + 1):=Nat.lt_succ_of_lt hkk.2.2
 have HN:=Lib.hid (next_M hM HGB.out hat)
 have HAT:=Lib.hid hat
 have HLE:=Lib.hid hle
 have hat2 : at_ ≤ 262144:=by omega
 have hb2 : b ≤ 262144:=by omega
 by_cases h10 : (nb s at_).toNat = 10
 · have HR:=Lib.hid (quo_err hb h34 h10 hq hplay)
   have HQ : Hid (((nb s at_).toNat : Int) = 10):=by rw [Hid,h10];rfl
   rw [HQ.out] at HN
   have HS:=Lib.hid (fun (W : World) (hW : LxM W g (rc + 1) s at_ lineAt σ b)=>spot_M hW HGB.out hb2 (p:=b) (by omega) hc)
   have hi2 : (Tryz.prog.info? 31).map (·.size) = some 2:=by kernel_rfl
   have HI:=Lib.hid hi2
   clear h10 hkk hM hb h34 hle hat hc hq hplay HQ hs hn hi2
   refine Fr.elim (motive:=fun a => ∃ rest,findLabel rdBody 3 = some rest ∧ rest.wp Tryz.prog (Next s g rc w0 n (bodyPost Tryz.prog Tryz.f36 (RdP s g rc w0))) a w) ?_ hfr
   intro u1 u5 u6 u7 u8 u9 u10 u11 u12 u13 u14 u15 u16 u17 u18 u19 u20 u21 u22 u23 u24 u25 u26 u27 u28 u29 u30 u31 u32 u33 u34 u35 u36 u37 u38 u39 u40 u41 u42 u43 u44 u45 u46 u47 u48 u49 u50 u51 u52 u53 u54 u55 u56 u57 u58 u59 u60 u61 u62 u63 u64 u65 u66 u67 u68 u69 u70 u71 u72 u73 u74 u75 u76 u77 u78 u79 u80 u81 u82 u83 u84 u85 u86 u87 u88 u89 u90 u91 u92 u93 u94 u95 u96 u97 u98 u99 u100 u101 u102 u103 u104 u105 u106 u107 u108 u109 u110 u111 u112 u113 u114 u115 u116 u117 u118 u119 u120 u121 u122 u123 u124
   refine ⟨_,rfl,?_⟩
   go_wp2_with (first
    | (go_at_call 62;refine HN.out.mono ?_;rintro e w1 ⟨rfl,h1,g1⟩;have HG:=Lib.hid g1;have HM1:=Lib.hid h1;clear h1 g1)
    | (go_at_call 64;refine (HS.out _ HM1.out).mono ?_;rintro e w2 ⟨rfl,h2,g2⟩;have HK2:=Lib.hid (HKK.out.step ((Kb.grown (grown_any HG.out _) HKK.out.lt).trans (Kb.grown (grown_any g2 _) (Nat.le_trans HKK.out.lt HG.out.size))));have r0 : w2.cell? ⟨rc,0,none⟩ = some (.int .i64 0):=HK2.out.2.1.cell 0;have r1 : w2.cell? ⟨rc,1,none⟩ = some (.int .i64 0):=HK2.out.2.1.cell 1;have q0:=HK2.out.2.1.free 0;have q1:=HK2.out.2.1.free 1;clear h2 g2))
   show bodyPost _ _ _ Exit.ret _ _
   refine bodyPost_ret (results_row_tmp rfl _ _ rc 31 #[.int .i64 σ.line,.int .i64 σ.col] _ rfl ((HK2.out.2.1.set 0 _).set 1 _) Tryz.underlying31 rfl HI.out) rfl ?_
   refine ⟨((HK2.out.1.mono (Nat.le_succ _)).setHi (p:=⟨rc,0,none⟩) (Nat.le_refl _) _).setHi (p:=⟨rc,1,none⟩) (Nat.le_refl _) _,?_⟩
   rw [HR.out]
   rfl
 · have hlt : at_ < s.size:=by
    rcases Nat.lt_or_ge at_ s.size with h | h
    · exact h
    · rw [nb_end h] at h10;exact absurd rfl h10
   have q10 : (((nb s at_).toNat : Int) == 10) = false:=beq_eq_false_iff_ne.2 (by omega)
   by_cases hc34 : (nb s at_).toNat = 34
   · have HPL:=Lib.hid (quo_done hb h34 hle hlt hc34 hq hplay)
     have HQ : Hid (((nb s at_).toNat : Int) = 34):=by rw [Hid,hc34];rfl
     rw [HQ.out] at HN
     have HP:=Lib.hid (fun (W : World) (hW : LxM W g (rc + 1) s at_ lineAt σ b) (hb : rc + 1 ≤ W.heap.size)=>put_M hW HGB.out hb (s.extract (b + 1) at_) true (p:=b) (by omega) (Nat.le_refl _) hc (at_ + 1 - b))
     have HMU : Hid (3 * (s.size - (at_ + 1)) + 1 < n):=by rw [Hid,hn];omega
     have HC : Hid ((σ.put (s.extract (b + 1) at_).data.toList true (at_ + 1 - b)).col + lineAt = at_ + 1 + 1):=by
      show σ.col + (at_ + 1 - b) + lineAt = _
      omega
     have HLT:=Lib.hid hlt
     have i1 : (0 : Int) ≤ (b : Int) + 1:=by omega
     have i2 : (b : Int) + 1 ≤ (at_ : Int):=by omega
     have i3 : (at_ : Int) ≤ (s.size : Int):=by omega
     have w1' : IntKind.i64.wrap ((b : Int) + 1) = (b : Int) + 1:=by rw [IntKind.wrap_i64];omega
     clear h10 hkk hM hb h34 hle hat hc hq hplay HQ hs hn hc34 hlt q10
     refine Fr.elim (motive:=fun a => ∃ rest,findLabel rdBody 3 = some rest ∧ rest.wp Tryz.prog (Next s g rc w0 n (bodyPost Tryz.prog Tryz.f36 (RdP s g rc w0))) a w) ?_ hfr
     intro u1 u5 u6 u7 u8 u9 u10 u11 u12 u13 u14 u15 u16 u17 u18 u19 u20 u21 u22 u23 u24 u25 u26 u27 u28 u29 u30 u31 u32 u33 u34 u35 u36 u37 u38 u39 u40 u41 u42 u43 u44 u45 u46 u47 u48 u49 u50 u51 u52 u53 u54 u55 u56 u57 u58 u59 u60 u61 u62 u63 u64 u65 u66 u67 u68 u69 u70 u71 u72 u73 u74 u75 u76 u77 u78 u79 u80 u81 u82 u83 u84 u85 u86 u87 u88 u89 u90 u91 u92 u93 u94 u95 u96 u97 u98 u99 u100 u101 u102 u103 u104 u105 u106 u107 u108 u109 u110 u111 u112 u113 u114 u115 u116 u117 u118 u119 u120 u121 u122 u123 u124
     refine ⟨_,rfl,?_⟩
     go_wp2_with (go_at_call 62;refine HN.out.mono ?_;rintro e w1 ⟨rfl,h1,g1⟩;have HG:=Lib.hid g1;have HM1:=Lib.hid h1;have c0:=h1.c0;have c1:=h1.c1;clear h1 g1)
     go_still_tail 14,(by kernel_rfl)
     change wpList _ _ _ _ _ w1.drew
     have HM2 : Hid (LxM w1.drew g (rc + 1) s at_ lineAt σ b):=HM1.out.none HGB.out (grown_drewN w1 1 none)
     have HK2 : Hid (KK w0 g rc w1.drew):=HKK.out.step (Kb.grown (grown_any (grown_trans HG.out (grown_drewN w1 1 none)) _) HKK.out.lt)
     clear c0 c1 HG HM1 HN HKK
     generalize w1.drew = w2 at *
     go_wp2_with (go_at_call 67;refine (HP.out _ HM2.out HK2.out.lt).mono ?_;rintro e w3 ⟨rfl,h3,k3⟩;have HM3:=Lib.hid h3;have HK3:=Lib.hid (HK2.out.step k3);have c1:=h3.c1;have f1:=h3.free 1;clear h3 k3)
     go_step3
     exact ⟨_,HMU.out,.inl ⟨rfl,at_ + 1,lineAt,_,_,⟨rfl,rfl,rfl,rfl,rfl,rfl⟩,HK3.out.step ((Kb.refl _ _ _).set 1 _),(HM3.out.inc HGB.out).more (Nat.le_succ_of_le HLE.out),HLT.out,HC.out,HPL.out,rfl⟩⟩
   · have q34 : (((nb s at_).toNat : Int) == 34) = false:=beq_eq_false_iff_ne.2 (by omega)
     have HQS:=Lib.hid (quo_step hle hlt h10 hc34 hq)
     have HT:=Lib.hid (fun (W : World) (hW : LxM W g (rc + 1) s at_ lineAt σ b)=>take_M hW HGB.out hlt hs)
     have h2:=tk1_two s at_
     have hl2:=tk1_le hlt
     have HMU : Hid (3 * (s.size - (at_ + tk1 s at_)) < n):=by rw [Hid,hn];omega
     have HB:=Lib.hid hb
     have H34:=Lib.hid h34
     have HC:=Lib.hid hc
     have HPL:=Lib.hid hplay
     have HL2:=Lib.hid hl2
     have HLE2 : Hid (b + 1 ≤ at_ + tk1 s at_):=by rw [Hid];omega
     generalize ((nb s at_).toNat : Int) = q at *
     generalize at_ + tk1 s at_ = at2 at *
     clear h10 hkk hM hb h34 hle hat hc hq hplay hs hn hc34 hlt h2 hl2
     refine Fr.elim (motive:=fun a => ∃ rest,findLabel rdBody 3 = some rest ∧ rest.wp Tryz.prog (Next s g rc w0 n (bodyPost Tryz.prog Tryz.f36 (RdP s g rc w0))) a w) ?_ hfr
     intro u1 u5 u6 u7 u8 u9 u10 u11 u12 u13 u14 u15 u16 u17 u18 u19 u20 u21 u22 u23 u24 u25 u26 u27 u28 u29 u30 u31 u32 u33 u34 u35 u36 u37 u38 u39 u40 u41 u42 u43 u44 u45 u46 u47 u48 u49 u50 u51 u52 u53 u54 u55 u56 u57 u58 u59 u60 u61 u62 u63 u64 u65 u66 u67 u68 u69 u70 u71 u72 u73 u74 u75 u76 u77 u78 u79 u80 u81 u82 u83 u84 u85 u86 u87 u88 u89 u90 u91 u92 u93 u94 u95 u96 u97 u98 u99 u100 u101 u102 u103 u104 u105 u106 u107 u108 u109 u110 u111 u112 u113 u114 u115 u116 u117 u118 u119 u120 u121 u122 u123 u124
     refine ⟨_,rfl,?_⟩
     go_wp2_with (first
      | (go_at_call 62;refine HN.out.mono ?_;rintro e w1 ⟨rfl,h1,g1⟩;have HG:=Lib.hid g1;have HM1:=Lib.hid h1;clear h1 g1)
      | (go_at_call 68;refine (HT.out _ HM1.out).mono ?_;rintro e w2 ⟨rfl,h2,g2⟩;have HM2:=Lib.hid h2;have HK2:=Lib.hid (HKK.out.step ((Kb.grown (grown_any HG.out _) HKK.out.lt).trans (Kb.grown g2 (Nat.le_trans HKK.out.lt HG.out.size))));clear h2 g2))
     go_step3
     exact ⟨_,HMU.out,.inr (.inr (.inr (.inl ⟨rfl,b,at2,lineAt,σ,⟨rfl,rfl,rfl,rfl,rfl,rfl⟩,HK2.out,HM2.out,HB.out,H34.out,HLE2.out,HL2.out,HC.out,HQS.out,HPL.out,rfl⟩)))⟩
end Go.Proofs.YtekafhogiambaaaGreatDoor
namespace Go.Proofs.YtekafhogiambaaaGreatDoor
open Go.RowKit
theorem bare_done {s : ByteArray} {b at_ : Nat} {σ : Tk.St} {R : Tk.Rs} (hb : b < s.size) (hends : Tk.ends (nb s b) = false) (_ : b ≤ at_) (hat : at_ ≤ s.size) (he : Tk.ends (nb s at_) = true)
 (hq : at_ + Tk.bareLen (s.data.toList.drop at_) = b + Tk.bareLen (s.data.toList.drop b)) (hp : Tk.play (Tk.lx (s.data.toList.drop b)) σ = R) :
 b + 1 ≤ at_ ∧ Tk.play (Tk.lx (s.data.toList.drop at_)) (σ.put (s.extract b at_).data.toList false (at_ - b)) = R:=by
 have h0 : Tk.bareLen (s.data.toList.drop at_) = 0:=by
  by_cases h : at_ < s.size
  · rw [nb_drop h];exact Tk.bareLen_end he
  · rw [drop_end (by omega)];rfl
 have h1 : 1 ≤ Tk.bareLen (s.data.toList.drop b):=by
  rw [nb_drop hb];exact Tk.bareLen_pos hends
 have hp':=hp
 rw [nb_drop hb,Tk.lx_bare hends,← nb_drop hb,Tk.play,List.drop_drop] at hp'
 have hk : Tk.bareLen (s.data.toList.drop b) = at_ - b:=by omega
 have hl : (List.take (at_ - b) (s.data.toList.drop b)).length = at_ - b:=by
  rw [List.length_take,List.length_drop]
  have h3 : s.data.toList.length = s.size:=by simp
  omega
 rw [hk,hl,show b + (at_ - b) = at_ by omega] at hp'
 rw [extract_list]
 exact ⟨by omega,hp'⟩
theorem bare_step {s : ByteArray} {b at_ : Nat} (hat : at_ < s.size) (he : Tk.ends (nb s at_) = false)
 (hq : at_ + Tk.bareLen (s.data.toList.drop at_) = b + Tk.bareLen (s.data.toList.drop b)) :
 at_ + tk1 s at_ + Tk.bareLen (s.data.toList.drop (at_ + tk1 s at_)) = b + Tk.bareLen (s.data.toList.drop b):=by
 have h1:=Tk.bareLen_step (r:=s.data.toList.drop (at_ + 1)) he
 rw [← nb_drop hat,← tk1_tlen hat,List.drop_drop] at h1
 omega
set_option maxHeartbeats 2000000 in
theorem pass4 (s : ByteArray) (g rc : Nat) (w0 : World) (n : Nat) (a : Act) (w : World) (hs : s.size ≤ 262144) (h : J4 s g rc w0 n a w) :
 ∃ rest,findLabel rdBody 4 = some rest ∧ rest.wp Tryz.prog (Next s g rc w0 n (bodyPost Tryz.prog Tryz.f36 (RdP s g rc w0))) a w:=by
 obtain ⟨b,at_,lineAt,σ,hfr,hkk,hM,hb,hends,hle,hat,hc,hq,hplay,hn⟩:=h
 have HKK:=Lib.hid hkk
 have HGB : Hid (g < rc + 1):=Nat.lt_succ_of_lt hkk.2.2
 have HN:=Lib.hid (next_M hM HGB.out hat)
 have HE:=Lib.hid (endsBare_any (nb s at_))
 have HAT:=Lib.hid hat
 have HLE:=Lib.hid hle
 have hat2 : at_ ≤ 262144:=by omega
 have hb2 : b ≤ 262144:=by omega
 by_cases he : Tk.ends (nb s at_) = true
 · obtain ⟨hlt,hpl⟩:=bare_done hb hends hle hat he hq hplay
   have HPL:=Lib.hid hpl
   rw [he] at HE
   have HP:=Lib.hid (fun (W : World) (hW : LxM W g (rc + 1) s at_ lineAt σ b) (hb : rc + 1 ≤ W.heap.size)=>put_M hW HGB.out hb (s.extract b at_) false (p:=b) (by omega) (Nat.le_refl _) hc (at_ - b))
   have HMU : Hid (3 * (s.size - at_) + 1 < n):=by rw [Hid,hn,if_pos he];omega
   have HC : Hid ((σ.put (s.extract b at_).data.toList false (at_ - b)).col + lineAt = at_ + 1):=by
    show σ.col + (at_ - b) + lineAt = _
    omega
   have HLT:=Lib.hid hlt
   have i1 : (0 : Int) ≤ (b : Int):=by omega
   have i2 : (b : Int) ≤ (at_ : Int):=by omega
   have i3 : (at_ : Int) ≤ (s.size : Int):=by omega
   generalize ((nb s at_).toNat : Int) = q at *
   clear hkk hM hb hends hle hat hc hq hplay hs hn he hlt hpl
   refine Fr.elim (motive:=fun a => ∃ rest,findLabel rdBody 4 = some rest ∧ rest.wp Tryz.prog (Next s g rc w0 n (bodyPost Tryz.prog Tryz.f36 (RdP s g rc w0))) a w) ?_ hfr
   intro u1 u5 u6 u7 u8 u9 u10 u11 u12 u13 u14 u15 u16 u17 u18 u19 u20 u21 u22 u23 u24 u25 u26 u27 u28 u29 u30 u31 u32 u33 u34 u35 u36 u37 u38 u39 u40 u41 u42 u43 u44 u45 u46 u47 u48 u49 u50 u51 u52 u53 u54 u55 u56 u57 u58 u59 u60 u61 u62 u63 u64 u65 u66 u67 u68 u69 u70 u71 u72 u73 u74 u75 u76 u77 u78 u79 u80 u81 u82 u83 u84 u85 u86 u87 u88 u89 u90 u91 u92 u93 u94 u95 u96 u97 u98 u99 u100 u101 u102 u103 u104 u105 u106 u107 u108 u109 u110 u111 u112 u113 u114 u115 u116 u117 u118 u119 u120 u121 u122 u123 u124
   refine ⟨_,rfl,?_⟩
   go_wp2_with (first
    | (go_at_call 62;refine HN.out.mono ?_;rintro e w1 ⟨rfl,h1,g1⟩;have HG:=Lib.hid g1;have HM1:=Lib.hid h1;have c0:=h1.c0;have c1:=h1.c1;clear h1 g1)
    | (go_at_call 65;refine (HE.out _).mono ?_;rintro e w2 ⟨rfl,hw2⟩;subst hw2))
   go_still_tail 13,(by kernel_rfl)
   change wpList _ _ _ _ _ w2.drew
   have HM2 : Hid (LxM w2.drew g (rc + 1) s at_ lineAt σ b):=HM1.out.none HGB.out (grown_drewN w2 1 none)
   have HK2 : Hid (KK w0 g rc w2.drew):=HKK.out.step (Kb.grown (grown_any (grown_trans HG.out (grown_drewN w2 1 none)) _) HKK.out.lt)
   clear c0 c1 HG HM1 HN HKK
   generalize w2.drew = w4 at *
   go_wp2_with (go_at_call 67;refine (HP.out _ HM2.out HK2.out.lt).mono ?_;rintro e w3 ⟨rfl,h3,k3⟩;have HM3:=Lib.hid h3;have HK3:=Lib.hid (HK2.out.step k3);clear h3 k3)
   go_step3
   exact ⟨_,HMU.out,.inl ⟨rfl,at_,lineAt,_,_,⟨rfl,rfl,rfl,rfl,rfl,rfl⟩,HK3.out,HM3.out.more HLT.out,HAT.out,HC.out,HPL.out,rfl⟩⟩
 · simp only [Bool.not_eq_true] at he
   have hlt : at_ < s.size:=by
    rcases Nat.lt_or_ge at_ s.size with h | h
    · exact h
    · rw [nb_end h] at he;exact absurd he (by decide)
   rw [he] at HE
   have HQS:=Lib.hid (bare_step hlt he hq)
   have HT:=Lib.hid (fun (W : World) (hW : LxM W g (rc + 1) s at_ lineAt σ b)=>take_M hW HGB.out hlt hs)
   have h2:=tk1_two s at_
   have hl2:=tk1_le hlt
   have HMU : Hid (3 * (s.size - (at_ + tk1 s at_)) + (if Tk.ends (nb s (at_ + tk1 s at_)) then 2 else 0) < n):=by
    rw [Hid,hn,he]
    split <;> simp <;> omega
   have HB:=Lib.hid hb
   have HEN:=Lib.hid hends
   have HC:=Lib.hid hc
   have HPL:=Lib.hid hplay
   have HL2:=Lib.hid hl2
   have HLE2 : Hid (b ≤ at_ + tk1 s at_):=by rw [Hid];omega
   generalize ((nb s at_).toNat : Int) = q at *
   generalize at_ + tk1 s at_ = at2 at *
   clear hkk hM hb hends hle hat hc hq hplay hs hn he hlt h2 hl2
   refine Fr.elim (motive:=fun a => ∃ rest,findLabel rdBody 4 = some rest ∧ rest.wp Tryz.prog (Next s g rc w0 n (bodyPost Tryz.prog Tryz.f36 (RdP s g rc w0))) a w) ?_ hfr
   intro u1 u5 u6 u7 u8 u9 u10 u11 u12 u13 u14 u15 u16 u17 u18 u19 u20 u21 u22 u23 u24 u25 u26 u27 u28 u29 u30 u31 u32 u33 u34 u35 u36 u37 u38 u39 u40 u41 u42 u43 u44 u45 u46 u47 u48 u49 u50 u51 u52 u53 u54 u55 u56 u57 u58 u59 u60 u61 u62 u63 u64 u65 u66 u67 u68 u69 u70 u71 u72 u73 u74 u75 u76 u77 u78 u79 u80 u81 u82 u83 u84 u85 u86 u87 u88 u89 u90 u91 u92 u93 u94 u95 u96 u97 u98 u99 u100 u101 u102 u103 u104 u105 u106 u107 u108 u109 u110 u111 u112 u113 u114 u115 u116 u117 u118 u119 u120 u121 u122 u123 u124
   refine ⟨_,rfl,?_⟩
   go_wp2_with (first
    | (go_at_call 62;refine HN.out.mono ?_;rintro e w1 ⟨rfl,h1,g1⟩;have HG:=Lib.hid g1;have HM1:=Lib.hid h1;clear h1 g1)
    | (go_at_call 65;refine (HE.out _).mono ?_;rintro e w2 ⟨rfl,rfl⟩)
    | (go_at_call 68;refine (HT.out _ HM1.out).mono ?_;rintro e w2 ⟨rfl,h2,g2⟩;have HM2:=Lib.hid h2;have HK2:=Lib.hid (HKK.out.step ((Kb.grown (grown_any HG.out _) HKK.out.lt).trans (Kb.grown g2 (Nat.le_trans HKK.out.lt HG.out.size))));clear h2 g2))
   go_step3
   exact ⟨_,HMU.out,.inr (.inr (.inr (.inr ⟨rfl,b,at2,lineAt,σ,⟨rfl,rfl,rfl,rfl,rfl,rfl⟩,HK2.out,HM2.out,HB.out,HEN.out,HLE2.out,HL2.out,HC.out,HQS.out,HPL.out,rfl⟩)))⟩
end Go.Proofs.YtekafhogiambaaaGreatDoor
namespace Go.Proofs.YtekafhogiambaaaGreatDoor
open Go.RowKit
theorem remLen_step {s : ByteArray} {at_ : Nat} (h : at_ < s.size) (h10 : (nb s at_).toNat ≠ 10) : at_ + Tk.remLen (s.data.toList.drop at_) = at_ + 1 + Tk.remLen (s.data.toList.drop (at_ + 1)):=by
 rw [nb_drop h,Tk.remLen,if_neg h10]
 omega
theorem rem_done {s : ByteArray} {b at_ : Nat} {σ : Tk.St} {R : Tk.Rs} (hb : b < s.size) (h59 : (nb s b).toNat = 59) (_ : b ≤ at_) (h10 : (nb s at_).toNat = 10) (hrem : at_ + Tk.remLen (s.data.toList.drop at_) = b + Tk.remLen (s.data.toList.drop b)) (hp : Tk.play (Tk.lx (s.data.toList.drop b)) σ = R) :
 b < at_ ∧ Tk.play (Tk.lx (s.data.toList.drop at_)) (σ.go (at_ - b)) = R:=by
 have h0 : Tk.remLen (s.data.toList.drop at_) = 0:=by
  by_cases h : at_ < s.size
  · rw [nb_drop h,Tk.remLen,if_pos h10]
  · rw [drop_end (by omega)];rfl
 have h1:=remLen_step hb (by omega)
 rw [nb_drop hb,Tk.lx_rem h59,Tk.play,List.drop_drop] at hp
 have hlen : (nb s b :: List.take (Tk.remLen (s.data.toList.drop (b + 1))) (s.data.toList.drop (b + 1))).length = at_ - b:=by
  have:=Tk.remLen_le (s.data.toList.drop (b + 1))
  rw [List.length_cons,List.length_take]
  omega
 rw [hlen,show b + 1 + Tk.remLen (s.data.toList.drop (b + 1)) = at_ by omega] at hp
 exact ⟨by omega,hp⟩
set_option maxHeartbeats 2000000 in
theorem pass2 (s : ByteArray) (g rc : Nat) (w0 : World) (n : Nat) (a : Act) (w : World) (hs : s.size ≤ 262144) (h : J2 s g rc w0 n a w) :
 ∃ rest,findLabel rdBody 2 = some rest ∧ rest.wp Tryz.prog (Next s g rc w0 n (bodyPost Tryz.prog Tryz.f36 (RdP s g rc w0))) a w:=by
 obtain ⟨b,at_,lineAt,σ,st,hfr,hkk,hM,hb,h59,hle,hat,hc,hrem,hplay,hn⟩:=h
 have HKK:=Lib.hid hkk
 have HGB : Hid (g < rc + 1):=Nat.lt_succ_of_lt hkk.2.2
 have HN:=Lib.hid (next_M hM HGB.out hat)
 have HAT:=Lib.hid hat
 have HLE:=Lib.hid hle
 have hat2 : at_ ≤ 262144:=by omega
 by_cases h10 : (nb s at_).toNat = 10
 · obtain ⟨hlt,hpl⟩:=rem_done hb h59 hle h10 hrem hplay
   have HPL:=Lib.hid hpl
   have HQ : Hid (((nb s at_).toNat : Int) = 10):=by rw [Hid,h10];rfl
   rw [HQ.out] at HN
   have HMU : Hid (3 * (s.size - at_) + 1 < n):=by rw [Hid,hn,if_pos h10];omega
   have HC : Hid (σ.col + (at_ - b) + lineAt = at_ + 1):=by rw [Hid];omega
   clear hpl h10 hkk hM hb h59 hle hat hc hrem hplay HQ hlt hs hn
   refine Fr.elim (motive:=fun a => ∃ rest,findLabel rdBody 2 = some rest ∧ rest.wp Tryz.prog (Next s g rc w0 n (bodyPost Tryz.prog Tryz.f36 (RdP s g rc w0))) a w) ?_ hfr
   intro u1 u5 u6 u7 u8 u9 u10 u11 u12 u13 u14 u15 u16 u17 u18 u19 u20 u21 u22 u23 u24 u25 u26 u27 u28 u29 u30 u31 u32 u33 u34 u35 u36 u37 u38 u39 u40 u41 u42 u43 u44 u45 u46 u47 u48 u49 u50 u51 u52 u53 u54 u55 u56 u57 u58 u59 u60 u61 u62 u63 u64 u65 u66 u67 u68 u69 u70 u71 u72 u73 u74 u75 u76 u77 u78 u79 u80 u81 u82 u83 u84 u85 u86 u87 u88 u89 u90 u91 u92 u93 u94 u95 u96 u97 u98 u99 u100 u101 u102 u103 u104 u105 u106 u107 u108 u109 u110 u111 u112 u113 u114 u115 u116 u117 u118 u119 u120 u121 u122 u123 u124
   refine ⟨_,rfl,?_⟩
   go_wp2_with (go_at_call 62;refine HN.out.mono ?_;rintro e w1 ⟨rfl,h1,g1⟩;have HG:=Lib.hid g1;have HM1:=Lib.hid h1;clear h1 g1)
   go_step3
   exact ⟨_,HMU.out,.inl ⟨rfl,at_,lineAt,σ.go (at_ - b),_,⟨rfl,rfl,rfl,rfl,rfl,rfl⟩,HKK.out.step (Kb.grown (grown_any HG.out _) HKK.out.lt),HM1.out.go _ HLE.out,HAT.out,HC.out,HPL.out,rfl⟩⟩
 · have hlt : at_ < s.size:=by
    rcases Nat.lt_or_ge at_ s.size with h | h
    · exact h
    · rw [nb_end h] at h10;exact absurd rfl h10
   have HREM : Hid (at_ + 1 + Tk.remLen (s.data.toList.drop (at_ + 1)) = b + Tk.remLen (s.data.toList.drop b)):=by rw [Hid,← hrem,remLen_step hlt h10]
   have hq : (((nb s at_).toNat : Int) == 10) = false:=beq_eq_false_iff_ne.2 (by omega)
   have HMU : Hid (3 * (s.size - (at_ + 1)) + (if (nb s (at_ + 1)).toNat = 10 then 2 else 0) < n):=by
    rw [Hid,hn,if_neg h10]
    split <;> omega
   have HLT:=Lib.hid hlt
   have H59:=Lib.hid h59
   have HC:=Lib.hid hc
   have HPL:=Lib.hid hplay
   have HB:=Lib.hid hb
   generalize ((nb s at_).toNat : Int) = q at *
   clear h10 hkk hM hb h59 hle hat hc hrem hplay hlt hs hn
   refine Fr.elim (motive:=fun a => ∃ rest,findLabel rdBody 2 = some rest ∧ rest.wp Tryz.prog (Next s g rc w0 n (bodyPost Tryz.prog Tryz.f36 (RdP s g rc w0))) a w) ?_ hfr
   intro u1 u5 u6 u7 u8 u9 u10 u11 u12 u13 u14 u15 u16 u17 u18 u19 u20 u21 u22 u23 u24 u25 u26 u27 u28 u29 u30 u31 u32 u33 u34 u35 u36 u37 u38 u39 u40 u41 u42 u43 u44 u45 u46 u47 u48 u49 u50 u51 u52 u53 u54 u55 u56 u57 u58 u59 u60 u61 u62 u63 u64 u65 u66 u67 u68 u69 u70 u71 u72 u73 u74 u75 u76 u77 u78 u79 u80 u81 u82 u83 u84 u85 u86 u87 u88 u89 u90 u91 u92 u93 u94 u95 u96 u97 u98 u99 u100 u101 u102 u103 u104 u105 u106 u107 u108 u109 u110 u111 u112 u113 u114 u115 u116 u117 u118 u119 u120 u121 u122 u123 u124
   refine ⟨_,rfl,?_⟩
   go_wp2_with (go_at_call 62;refine HN.out.mono ?_;rintro e w1 ⟨rfl,h1,g1⟩;have HG:=Lib.hid g1;have HM1:=Lib.hid h1;have c1:=h1.c1;have f1:=h1.free 1;clear h1 g1)
   go_step3
   exact ⟨_,HMU.out,.inr (.inr (.inl ⟨rfl,b,at_ + 1,lineAt,σ,_,⟨rfl,rfl,rfl,rfl,rfl,rfl⟩,HKK.out.step ((Kb.grown (grown_any HG.out _) HKK.out.lt).set 1 _),HM1.out.inc HGB.out,HB.out,H59.out,Nat.le_succ_of_le HLE.out,HLT.out,HC.out,HREM.out,HPL.out,rfl⟩))⟩
end Go.Proofs.YtekafhogiambaaaGreatDoor
namespace Go.Proofs.YtekafhogiambaaaGreatDoor
open Go.RowKit
set_option maxHeartbeats 4000000 in
theorem pass0 (s : ByteArray) (g rc : Nat) (w0 : World) (n : Nat) (a : Act) (w : World) (hs : s.size ≤ 262144) (h : J0 s g rc w0 n a w) :
 ∃ X,findLabel rdBody 0 = some (Code.seq .skip X) ∧ X.wp Tryz.prog (Next s g rc w0 n (bodyPost Tryz.prog Tryz.f36 (RdP s g rc w0))) a w:=by
 obtain ⟨at_,lineAt,σ,st,hfr,hkk,hM,hat,hc,hplay,hn⟩:=h
 have HKK:=Lib.hid hkk
 have HGB : Hid (g < rc + 1):=Nat.lt_succ_of_lt hkk.2.2
 have c1:=hM.c1
 have HN:=Lib.hid (next_M hM HGB.out hat)
 have HA:=Lib.hid (fun (W : World) (hW : LxM W g (rc + 1) s at_ lineAt σ at_)=>atEnd_M hW HGB.out)
 have HE:=Lib.hid (endsBare_any (nb s at_))
 have HAT:=Lib.hid hat
 have hat2 : at_ ≤ 262144:=by omega
 rcases Nat.lt_or_ge at_ s.size with hlt | hge
 · have hqa : ((at_ : Int) == (s.size : Int)) = false:=beq_eq_false_iff_ne.2 (by omega)
   rw [hqa] at HA
   have HLT:=Lib.hid hlt
   have HC:=Lib.hid hc
   have HPL:=Lib.hid hplay
   by_cases h59 : (nb s at_).toNat = 59
   · have HMU : Hid (3 * (s.size - at_) + (if (nb s at_).toNat = 10 then 2 else 0) < n):=by rw [Hid,hn,if_neg (by omega)];omega
     have H59:=Lib.hid h59
     have HQ : Hid (((nb s at_).toNat : Int) = 59):=by rw [Hid,h59];rfl
     rw [HQ.out] at HN
     clear hkk hM hat hc hplay hs hn hlt h59 HQ hqa HE
     refine Fr.elim (motive:=fun a => ∃ X,findLabel rdBody 0 = some (Code.seq .skip X) ∧ X.wp Tryz.prog (Next s g rc w0 n (bodyPost Tryz.prog Tryz.f36 (RdP s g rc w0))) a w) ?_ hfr
     intro u1 u5 u6 u7 u8 u9 u10 u11 u12 u13 u14 u15 u16 u17 u18 u19 u20 u21 u22 u23 u24 u25 u26 u27 u28 u29 u30 u31 u32 u33 u34 u35 u36 u37 u38 u39 u40 u41 u42 u43 u44 u45 u46 u47 u48 u49 u50 u51 u52 u53 u54 u55 u56 u57 u58 u59 u60 u61 u62 u63 u64 u65 u66 u67 u68 u69 u70 u71 u72 u73 u74 u75 u76 u77 u78 u79 u80 u81 u82 u83 u84 u85 u86 u87 u88 u89 u90 u91 u92 u93 u94 u95 u96 u97 u98 u99 u100 u101 u102 u103 u104 u105 u106 u107 u108 u109 u110 u111 u112 u113 u114 u115 u116 u117 u118 u119 u120 u121 u122 u123 u124
     refine ⟨_,rfl,?_⟩
     go_wp2_with (first
      | (go_at_call 62;refine HN.out.mono ?_;rintro e w1 ⟨rfl,h1,g1⟩;have HG1:=Lib.hid g1;have HM1:=Lib.hid h1;clear h1 g1)
      | (go_at_call 63;refine (HA.out _ HM1.out).mono ?_;rintro e w2 ⟨rfl,h2,g2⟩;have HG2:=Lib.hid (grown_trans HG1.out g2);have HM2:=Lib.hid h2;have c4:=h2.c4;clear h2 g2))
     go_step3
     exact ⟨_,HMU.out,.inr (.inr (.inl ⟨rfl,at_,at_,lineAt,σ,_,⟨rfl,rfl,rfl,rfl,rfl,rfl⟩,HKK.out.step (Kb.grown (grown_any HG2.out _) HKK.out.lt),HM2.out,HLT.out,H59.out,Nat.le_refl _,HAT.out,HC.out,rfl,HPL.out,rfl⟩))⟩
   have q59 : (((nb s at_).toNat : Int) == 59) = false:=beq_eq_false_iff_ne.2 (by omega)
   by_cases h34 : (nb s at_).toNat = 34
   · have HMU : Hid (3 * (s.size - (at_ + 1)) < n):=by rw [Hid,hn];omega
     have H34:=Lib.hid h34
     have HQ : Hid (((nb s at_).toNat : Int) = 34):=by rw [Hid,h34];rfl
     rw [HQ.out] at HN
     have HQL : Hid (Tk.quoLen (s.data.toList.drop (at_ + 1)) = (Tk.quoLen (s.data.toList.drop (at_ + 1))).map (at_ + 1 - (at_ + 1) + ·)):=by
      rw [Hid,Nat.sub_self]
      cases Tk.quoLen (s.data.toList.drop (at_ + 1)) <;> simp
     clear hkk hM hat hc hplay hs hn hlt h59 h34 HQ q59 hqa HE
     refine Fr.elim (motive:=fun a => ∃ X,findLabel rdBody 0 = some (Code.seq .skip X) ∧ X.wp Tryz.prog (Next s g rc w0 n (bodyPost Tryz.prog Tryz.f36 (RdP s g rc w0))) a w) ?_ hfr
     intro u1 u5 u6 u7 u8 u9 u10 u11 u12 u13 u14 u15 u16 u17 u18 u19 u20 u21 u22 u23 u24 u25 u26 u27 u28 u29 u30 u31 u32 u33 u34 u35 u36 u37 u38 u39 u40 u41 u42 u43 u44 u45 u46 u47 u48 u49 u50 u51 u52 u53 u54 u55 u56 u57 u58 u59 u60 u61 u62 u63 u64 u65 u66 u67 u68 u69 u70 u71 u72 u73 u74 u75 u76 u77 u78 u79 u80 u81 u82 u83 u84 u85 u86 u87 u88 u89 u90 u91 u92 u93 u94 u95 u96 u97 u98 u99 u100 u101 u102 u103 u104 u105 u106 u107 u108 u109 u110 u111 u112 u113 u114 u115 u116 u117 u118 u119 u120 u121 u122 u123 u124
     refine ⟨_,rfl,?_⟩
     go_wp2_with (first
      | (go_at_call 62;refine HN.out.mono ?_;rintro e w1 ⟨rfl,h1,g1⟩;have HG1:=Lib.hid g1;have HM1:=Lib.hid h1;clear h1 g1)
      | (go_at_call 63;refine (HA.out _ HM1.out).mono ?_;rintro e w2 ⟨rfl,h2,g2⟩;have HG2:=Lib.hid (grown_trans HG1.out g2);have HM2:=Lib.hid h2;have d1:=h2.c1;have f1:=h2.free 1;have c4:=h2.c4;clear h2 g2))
     go_step3
     exact ⟨_,HMU.out,.inr (.inr (.inr (.inl ⟨rfl,at_,at_ + 1,lineAt,σ,⟨rfl,rfl,rfl,rfl,rfl,rfl⟩,HKK.out.step ((Kb.grown (grown_any HG2.out _) HKK.out.lt).set 1 _),HM2.out.inc HGB.out,HLT.out,H34.out,Nat.le_refl _,HLT.out,HC.out,HQL.out,HPL.out,rfl⟩)))⟩
   have q34 : (((nb s at_).toNat : Int) == 34) = false:=beq_eq_false_iff_ne.2 (by omega)
   by_cases he : Tk.ends (nb s at_) = true
   · rw [he] at HE
     by_cases h41 : (nb s at_).toNat = 41 ∧ σ.dep = 0
     · have HR : Hid (Tk.tells s.data.toList = .err σ.line σ.col 81):=by
        rw [Hid,← hplay,nb_drop hlt,Tk.lx_ch h59 h34 he,Tk.play,if_neg (by omega),if_neg (by omega),if_pos h41.1,if_pos h41.2]
        rfl
       have HQ : Hid (((nb s at_).toNat : Int) = 41):=by rw [Hid,h41.1];rfl
       rw [HQ.out] at HN
       have hd:=h41.2
       have HS:=Lib.hid (fun (W : World) (hW : LxM W g (rc + 1) s at_ lineAt σ at_)=>spot_M hW HGB.out hat2 (p:=at_) (by omega) hc)
       have hi2 : (Tryz.prog.info? 31).map (·.size) = some 2:=by kernel_rfl
       have HI:=Lib.hid hi2
       have HD:=Lib.hid hd
       clear hkk hM hat hc hplay hs hn hlt h59 h34 HQ q59 q34 h41 he hi2 hd hqa HE
       refine Fr.elim (motive:=fun a => ∃ X,findLabel rdBody 0 = some (Code.seq .skip X) ∧ X.wp Tryz.prog (Next s g rc w0 n (bodyPost Tryz.prog Tryz.f36 (RdP s g rc w0))) a w) ?_ hfr
       intro u1 u5 u6 u7 u8 u9 u10 u11 u12 u13 u14 u15 u16 u17 u18 u19 u20 u21 u22 u23 u24 u25 u26 u27 u28 u29 u30 u31 u32 u33 u34 u35 u36 u37 u38 u39 u40 u41 u42 u43 u44 u45 u46 u47 u48 u49 u50 u51 u52 u53 u54 u55 u56 u57 u58 u59 u60 u61 u62 u63 u64 u65 u66 u67 u68 u69 u70 u71 u72 u73 u74 u75 u76 u77 u78 u79 u80 u81 u82 u83 u84 u85 u86 u87 u88 u89 u90 u91 u92 u93 u94 u95 u96 u97 u98 u99 u100 u101 u102 u103 u104 u105 u106 u107 u108 u109 u110 u111 u112 u113 u114 u115 u116 u117 u118 u119 u120 u121 u122 u123 u124
       refine ⟨_,rfl,?_⟩
       go_wp2_with (first
        | (go_at_call 62;refine HN.out.mono ?_;rintro e w1 ⟨rfl,h1,g1⟩;have HG1:=Lib.hid g1;have HM1:=Lib.hid h1;clear h1 g1)
        | (go_at_call 63;refine (HA.out _ HM1.out).mono ?_;rintro e w2 ⟨rfl,h2,g2⟩;have HG2:=Lib.hid (grown_trans HG1.out g2);have HM2:=Lib.hid h2;have c4:=h2.c4;rw [HD.out] at c4;clear h2 g2)
        | (go_at_call 64;refine (HS.out _ HM2.out).mono ?_;rintro e w3 ⟨rfl,h3,g3⟩;have HK2:=Lib.hid (HKK.out.step (Kb.grown (grown_any (grown_trans HG2.out g3) _) HKK.out.lt));have r0 : w3.cell? ⟨rc,0,none⟩ = some (.int .i64 0):=HK2.out.2.1.cell 0;have r1 : w3.cell? ⟨rc,1,none⟩ = some (.int .i64 0):=HK2.out.2.1.cell 1;have q0:=HK2.out.2.1.free 0;have q1:=HK2.out.2.1.free 1;clear h3 g3))
       show bodyPost _ _ _ Exit.ret _ _
       refine bodyPost_ret (results_row_tmp rfl _ _ rc 31 #[.int .i64 σ.line,.int .i64 σ.col] _ rfl ((HK2.out.2.1.set 0 _).set 1 _) Tryz.underlying31 rfl HI.out) rfl ?_
       refine ⟨((HK2.out.1.mono (Nat.le_succ _)).setHi (p:=⟨rc,0,none⟩) (Nat.le_refl _) _).setHi (p:=⟨rc,1,none⟩) (Nat.le_refl _) _,?_⟩
       rw [HR.out]
       rfl
     · have HP:=Lib.hid (fun (W : World) (hW : LxM W g (rc + 1) s at_ lineAt σ at_) (hb : rc + 1 ≤ W.heap.size)=>pass_step s at_ lineAt σ g (rc + 1) W hW HGB.out hb hlt hs hc he h59 h34 (fun e e2=>h41 ⟨e,e2⟩))
       have HMU : Hid (3 * (s.size - (at_ + 1)) + 1 < n):=by rw [Hid,hn];omega
       by_cases h41a : (nb s at_).toNat = 41
       · have hd : ((σ.dep : Int) == 0) = false:=beq_eq_false_iff_ne.2 (by have : σ.dep ≠ 0:=fun e=>h41 ⟨h41a,e⟩;omega)
         have q41 : (((nb s at_).toNat : Int) == 41) = true:=beq_iff_eq.2 (by omega)
         generalize ((nb s at_).toNat : Int) = q at *
         clear hkk hM hat hc hplay hs hn hlt h59 h34 h41 he h41a hqa
         refine Fr.elim (motive:=fun a => ∃ X,findLabel rdBody 0 = some (Code.seq .skip X) ∧ X.wp Tryz.prog (Next s g rc w0 n (bodyPost Tryz.prog Tryz.f36 (RdP s g rc w0))) a w) ?_ hfr
         intro u1 u5 u6 u7 u8 u9 u10 u11 u12 u13 u14 u15 u16 u17 u18 u19 u20 u21 u22 u23 u24 u25 u26 u27 u28 u29 u30 u31 u32 u33 u34 u35 u36 u37 u38 u39 u40 u41 u42 u43 u44 u45 u46 u47 u48 u49 u50 u51 u52 u53 u54 u55 u56 u57 u58 u59 u60 u61 u62 u63 u64 u65 u66 u67 u68 u69 u70 u71 u72 u73 u74 u75 u76 u77 u78 u79 u80 u81 u82 u83 u84 u85 u86 u87 u88 u89 u90 u91 u92 u93 u94 u95 u96 u97 u98 u99 u100 u101 u102 u103 u104 u105 u106 u107 u108 u109 u110 u111 u112 u113 u114 u115 u116 u117 u118 u119 u120 u121 u122 u123 u124
         refine ⟨_,rfl,?_⟩
         go_wp2_with (first
          | (go_at_call 62;refine HN.out.mono ?_;rintro e w1 ⟨rfl,h1,g1⟩;have HG1:=Lib.hid g1;have HM1:=Lib.hid h1;clear h1 g1)
          | (go_at_call 63;refine (HA.out _ HM1.out).mono ?_;rintro e w2 ⟨rfl,h2,g2⟩;have HG2:=Lib.hid (grown_trans HG1.out g2);have HM2:=Lib.hid h2;have c4:=h2.c4;clear h2 g2)
          | (go_at_call 65;refine (HE.out _).mono ?_;rintro e w5 ⟨rfl,hw5⟩;subst hw5)
          | (go_at_call 66;refine (HP.out _ HM2.out (Nat.le_trans HKK.out.lt HG2.out.size)).mono ?_;rintro e w3 ⟨rfl,la,σ2,h3,h4,h5,h6⟩;have HM3:=Lib.hid h3;have HC3:=Lib.hid h4;have HK3:=Lib.hid (HKK.out.step ((Kb.grown (grown_any HG2.out _) HKK.out.lt).trans h5));have HP3:=Lib.hid (h6.symm.trans HPL.out);clear h3 h4 h5 h6))
         go_step3
         exact ⟨_,HMU.out,.inl ⟨rfl,at_ + 1,la,σ2,_,⟨rfl,rfl,rfl,rfl,rfl,rfl⟩,HK3.out,HM3.out,HLT.out,HC3.out,HP3.out,rfl⟩⟩
       · have q41 : (((nb s at_).toNat : Int) == 41) = false:=beq_eq_false_iff_ne.2 (by omega)
         generalize ((nb s at_).toNat : Int) = q at *
         clear hkk hM hat hc hplay hs hn hlt h59 h34 h41 he h41a hqa
         refine Fr.elim (motive:=fun a => ∃ X,findLabel rdBody 0 = some (Code.seq .skip X) ∧ X.wp Tryz.prog (Next s g rc w0 n (bodyPost Tryz.prog Tryz.f36 (RdP s g rc w0))) a w) ?_ hfr
         intro u1 u5 u6 u7 u8 u9 u10 u11 u12 u13 u14 u15 u16 u17 u18 u19 u20 u21 u22 u23 u24 u25 u26 u27 u28 u29 u30 u31 u32 u33 u34 u35 u36 u37 u38 u39 u40 u41 u42 u43 u44 u45 u46 u47 u48 u49 u50 u51 u52 u53 u54 u55 u56 u57 u58 u59 u60 u61 u62 u63 u64 u65 u66 u67 u68 u69 u70 u71 u72 u73 u74 u75 u76 u77 u78 u79 u80 u81 u82 u83 u84 u85 u86 u87 u88 u89 u90 u91 u92 u93 u94 u95 u96 u97 u98 u99 u100 u101 u102 u103 u104 u105 u106 u107 u108 u109 u110 u111 u112 u113 u114 u115 u116 u117 u118 u119 u120 u121 u122 u123 u124
         refine ⟨_,rfl,?_⟩
         go_wp2_with (first
          | (go_at_call 62;refine HN.out.mono ?_;rintro e w1 ⟨rfl,h1,g1⟩;have HG1:=Lib.hid g1;have HM1:=Lib.hid h1;clear h1 g1)
          | (go_at_call 63;refine (HA.out _ HM1.out).mono ?_;rintro e w2 ⟨rfl,h2,g2⟩;have HG2:=Lib.hid (grown_trans HG1.out g2);have HM2:=Lib.hid h2;clear h2 g2)
          | (go_at_call 65;refine (HE.out _).mono ?_;rintro e w5 ⟨rfl,hw5⟩;subst hw5)
          | (go_at_call 66;refine (HP.out _ HM2.out (Nat.le_trans HKK.out.lt HG2.out.size)).mono ?_;rintro e w3 ⟨rfl,la,σ2,h3,h4,h5,h6⟩;have HM3:=Lib.hid h3;have HC3:=Lib.hid h4;have HK3:=Lib.hid (HKK.out.step ((Kb.grown (grown_any HG2.out _) HKK.out.lt).trans h5));have HP3:=Lib.hid (h6.symm.trans HPL.out);clear h3 h4 h5 h6))
         go_step3
         exact ⟨_,HMU.out,.inl ⟨rfl,at_ + 1,la,σ2,_,⟨rfl,rfl,rfl,rfl,rfl,rfl⟩,HK3.out,HM3.out,HLT.out,HC3.out,HP3.out,rfl⟩⟩
   · simp only [Bool.not_eq_true] at he
     rw [he] at HE
     have HEN:=Lib.hid he
     have HMU : Hid (3 * (s.size - at_) + (if Tk.ends (nb s at_) then 2 else 0) < n):=by rw [Hid,hn,he];simp
     have q41 : (((nb s at_).toNat : Int) == 41) = false:=beq_eq_false_iff_ne.2 (by
      intro e
      have : (nb s at_).toNat = 41:=by omega
      simp [Tk.ends,this] at he)
     generalize ((nb s at_).toNat : Int) = q at *
     clear hkk hM hat hc hplay hs hn hlt h59 h34 he hqa
     refine Fr.elim (motive:=fun a => ∃ X,findLabel rdBody 0 = some (Code.seq .skip X) ∧ X.wp Tryz.prog (Next s g rc w0 n (bodyPost Tryz.prog Tryz.f36 (RdP s g rc w0))) a w) ?_ hfr
     intro u1 u5 u6 u7 u8 u9 u10 u11 u12 u13 u14 u15 u16 u17 u18 u19 u20 u21 u22 u23 u24 u25 u26 u27 u28 u29 u30 u31 u32 u33 u34 u35 u36 u37 u38 u39 u40 u41 u42 u43 u44 u45 u46 u47 u48 u49 u50 u51 u52 u53 u54 u55 u56 u57 u58 u59 u60 u61 u62 u63 u64 u65 u66 u67 u68 u69 u70 u71 u72 u73 u74 u75 u76 u77 u78 u79 u80 u81 u82 u83 u84 u85 u86 u87 u88 u89 u90 u91 u92 u93 u94 u95 u96 u97 u98 u99 u100 u101 u102 u103 u104 u105 u106 u107 u108 u109 u110 u111 u112 u113 u114 u115 u116 u117 u118 u119 u120 u121 u122 u123 u124
     refine ⟨_,rfl,?_⟩
     go_wp2_with (first
      | (go_at_call 62;refine HN.out.mono ?_;rintro e w1 ⟨rfl,h1,g1⟩;have HG1:=Lib.hid g1;have HM1:=Lib.hid h1;clear h1 g1)
      | (go_at_call 63;refine (HA.out _ HM1.out).mono ?_;rintro e w2 ⟨rfl,h2,g2⟩;have HG2:=Lib.hid (grown_trans HG1.out g2);have HM2:=Lib.hid h2;clear h2 g2)
      | (go_at_call 65;refine (HE.out _).mono ?_;rintro e w5 ⟨rfl,hw5⟩;subst hw5))
     go_step3
     exact ⟨_,HMU.out,.inr (.inr (.inr (.inr ⟨rfl,at_,at_,lineAt,σ,⟨rfl,rfl,rfl,rfl,rfl,rfl⟩,HKK.out.step (Kb.grown (grown_any HG2.out _) HKK.out.lt),HM2.out,HLT.out,HEN.out,Nat.le_refl _,HAT.out,HC.out,rfl,HPL.out,rfl⟩)))⟩
 · obtain rfl : at_ = s.size:=by omega
   have hqa : ((s.size : Int) == (s.size : Int)) = true:=beq_iff_eq.2 rfl
   rw [hqa] at HA
   have HPL : Hid (Tk.play [] σ = Tk.tells s.data.toList):=by
    rw [Hid,← hplay,drop_end (Nat.le_refl _)]
    rfl
   have HMU : Hid (0 < n):=by rw [Hid,hn];omega
   generalize ((nb s s.size).toNat : Int) = q at *
   clear hkk hM hat hc hplay hs hn hge HE hqa
   refine Fr.elim (motive:=fun a => ∃ X,findLabel rdBody 0 = some (Code.seq .skip X) ∧ X.wp Tryz.prog (Next s g rc w0 n (bodyPost Tryz.prog Tryz.f36 (RdP s g rc w0))) a w) ?_ hfr
   intro u1 u5 u6 u7 u8 u9 u10 u11 u12 u13 u14 u15 u16 u17 u18 u19 u20 u21 u22 u23 u24 u25 u26 u27 u28 u29 u30 u31 u32 u33 u34 u35 u36 u37 u38 u39 u40 u41 u42 u43 u44 u45 u46 u47 u48 u49 u50 u51 u52 u53 u54 u55 u56 u57 u58 u59 u60 u61 u62 u63 u64 u65 u66 u67 u68 u69 u70 u71 u72 u73 u74 u75 u76 u77 u78 u79 u80 u81 u82 u83 u84 u85 u86 u87 u88 u89 u90 u91 u92 u93 u94 u95 u96 u97 u98 u99 u100 u101 u102 u103 u104 u105 u106 u107 u108 u109 u110 u111 u112 u113 u114 u115 u116 u117 u118 u119 u120 u121 u122 u123 u124
   refine ⟨_,rfl,?_⟩
   go_wp2_with (first
    | (go_at_call 62;refine HN.out.mono ?_;rintro e w1 ⟨rfl,h1,g1⟩;have HG1:=Lib.hid g1;have HM1:=Lib.hid h1;clear h1 g1)
    | (go_at_call 63;refine (HA.out _ HM1.out).mono ?_;rintro e w2 ⟨rfl,h2,g2⟩;have HG2:=Lib.hid (grown_trans HG1.out g2);have HM2:=Lib.hid h2;clear h2 g2))
   go_step3
   exact ⟨0,HMU.out,.inr (.inl ⟨rfl,lineAt,σ,_,⟨rfl,rfl,rfl,rfl,rfl,rfl⟩,HKK.out.step (Kb.grown (grown_any HG2.out _) HKK.out.lt),HM2.out,HPL.out⟩)⟩
end Go.Proofs.YtekafhogiambaaaGreatDoor
namespace Go.Proofs.YtekafhogiambaaaGreatDoor
open Go.RowKit
set_option maxHeartbeats 2000000 in
theorem pass1 (s : ByteArray) (g rc : Nat) (w0 : World) (n : Nat) (a : Act) (w : World) (hs : s.size ≤ 262144) (h : J1 s g rc w0 a w) :
 ∃ rest,findLabel rdBody 1 = some rest ∧ rest.wp Tryz.prog (Next s g rc w0 n (bodyPost Tryz.prog Tryz.f36 (RdP s g rc w0))) a w:=by
 obtain ⟨lineAt,σ,st,hfr,hkk,hM,hplay⟩:=h
 have HKK:=Lib.hid hkk
 have HGB : Hid (g < rc + 1):=Nat.lt_succ_of_lt hkk.2.2
 have c4:=hM.c4
 have hi2 : (Tryz.prog.info? 31).map (·.size) = some 2:=by kernel_rfl
 have HI:=Lib.hid hi2
 by_cases hd : σ.dep = 0
 · have HR : Hid (Tk.tells s.data.toList = .ok σ.done):=by rw [Hid,← hplay,Tk.play,if_pos hd]
   rw [hd] at c4
   obtain ⟨vw,ve,out,h1,h2,h3,h4,h5,h6,h7,h8⟩:=hM
   have HEE:=Lib.hid (endEntry_any s s.size σ.line lineAt σ.dep σ.fl σ.fc σ.bl σ.el vw ve σ.ws out g (rc + 1) w h1 h2 HGB.out hkk.lt (by omega) (by omega))
   have HEN:=Lib.hid (close_en σ vw out h3)
   clear hkk hplay hi2 h1 h2 h3 h4 h5 h6 h7 h8 hd hs
   refine Fr.elim (motive:=fun a => ∃ rest,findLabel rdBody 1 = some rest ∧ rest.wp Tryz.prog (Next s g rc w0 n (bodyPost Tryz.prog Tryz.f36 (RdP s g rc w0))) a w) ?_ hfr
   intro u1 u5 u6 u7 u8 u9 u10 u11 u12 u13 u14 u15 u16 u17 u18 u19 u20 u21 u22 u23 u24 u25 u26 u27 u28 u29 u30 u31 u32 u33 u34 u35 u36 u37 u38 u39 u40 u41 u42 u43 u44 u45 u46 u47 u48 u49 u50 u51 u52 u53 u54 u55 u56 u57 u58 u59 u60 u61 u62 u63 u64 u65 u66 u67 u68 u69 u70 u71 u72 u73 u74 u75 u76 u77 u78 u79 u80 u81 u82 u83 u84 u85 u86 u87 u88 u89 u90 u91 u92 u93 u94 u95 u96 u97 u98 u99 u100 u101 u102 u103 u104 u105 u106 u107 u108 u109 u110 u111 u112 u113 u114 u115 u116 u117 u118 u119 u120 u121 u122 u123 u124
   refine ⟨_,rfl,?_⟩
   go_wp2_with (go_at_call 69;refine HEE.out.mono ?_;rintro e w2 ⟨rfl,ve2,h2,e2,k2⟩;have HK2:=Lib.hid (HKK.out.step k2);have HA2:=Lib.hid h2;have HE2:=Lib.hid e2;have r0 : w2.cell? ⟨rc,0,none⟩ = some (.int .i64 0):=HK2.out.2.1.cell 0;have r1 : w2.cell? ⟨rc,1,none⟩ = some (.int .i64 0):=HK2.out.2.1.cell 1;have q0:=HK2.out.2.1.free 0;have q1:=HK2.out.2.1.free 1;clear h2 e2 k2)
   show bodyPost _ _ _ Exit.ret _ _
   refine bodyPost_ret (results_row_tmp rfl _ _ rc 31 #[.int .i64 0,.int .i64 0] _ rfl ((HK2.out.2.1.set 0 _).set 1 _) Tryz.underlying31 rfl HI.out) rfl ?_
   refine ⟨((HK2.out.1.mono (Nat.le_succ _)).setHi (p:=⟨rc,0,none⟩) (Nat.le_refl _) _).setHi (p:=⟨rc,1,none⟩) (Nat.le_refl _) _,?_⟩
   rw [HR.out]
   refine ⟨rfl,ve2,_,?_,HE2.out.far (Nat.lt_succ_self rc) (grown_set (grown_set (World.grownBy.refl w2 _) 0 _) 1 _),HEN.out⟩
   have hne : g ≠ rc:=Nat.ne_of_lt HKK.out.2.2
   exact (((HA2.out.far (p:=⟨rc,0,none⟩) hne _).far (p:=⟨rc,1,none⟩) hne _)).cell 10
 · have HR : Hid (Tk.tells s.data.toList = .err σ.fl σ.fc 81):=by rw [Hid,← hplay,Tk.play,if_neg hd];rfl
   have c5:=hM.c5
   have c6:=hM.c6
   have r0 : w.cell? ⟨rc,0,none⟩ = some (.int .i64 0):=HKK.out.2.1.cell 0
   have r1 : w.cell? ⟨rc,1,none⟩ = some (.int .i64 0):=HKK.out.2.1.cell 1
   have q0:=HKK.out.2.1.free 0
   have q1:=HKK.out.2.1.free 1
   have hdp : (0 : Int) < (σ.dep : Int):=by omega
   clear hkk hplay hi2 hd hs hM
   refine Fr.elim (motive:=fun a => ∃ rest,findLabel rdBody 1 = some rest ∧ rest.wp Tryz.prog (Next s g rc w0 n (bodyPost Tryz.prog Tryz.f36 (RdP s g rc w0))) a w) ?_ hfr
   intro u1 u5 u6 u7 u8 u9 u10 u11 u12 u13 u14 u15 u16 u17 u18 u19 u20 u21 u22 u23 u24 u25 u26 u27 u28 u29 u30 u31 u32 u33 u34 u35 u36 u37 u38 u39 u40 u41 u42 u43 u44 u45 u46 u47 u48 u49 u50 u51 u52 u53 u54 u55 u56 u57 u58 u59 u60 u61 u62 u63 u64 u65 u66 u67 u68 u69 u70 u71 u72 u73 u74 u75 u76 u77 u78 u79 u80 u81 u82 u83 u84 u85 u86 u87 u88 u89 u90 u91 u92 u93 u94 u95 u96 u97 u98 u99 u100 u101 u102 u103 u104 u105 u106 u107 u108 u109 u110 u111 u112 u113 u114 u115 u116 u117 u118 u119 u120 u121 u122 u123 u124
   refine ⟨_,rfl,?_⟩
   go_wp2
   show bodyPost _ _ _ Exit.ret _ _
   refine bodyPost_ret (results_row_tmp rfl _ _ rc 31 #[.int .i64 σ.fl,.int .i64 σ.fc] _ rfl ((HKK.out.2.1.set 0 _).set 1 _) Tryz.underlying31 rfl HI.out) rfl ?_
   refine ⟨((HKK.out.1.mono (Nat.le_succ _)).setHi (p:=⟨rc,0,none⟩) (Nat.le_refl _) _).setHi (p:=⟨rc,1,none⟩) (Nat.le_refl _) _,?_⟩
   rw [HR.out]
   rfl
end Go.Proofs.YtekafhogiambaaaGreatDoor
namespace Go.Proofs.YtekafhogiambaaaGreatDoor
open Go.RowKit
theorem code_mono {P : Program} {c : Code} {a : Act} {w : World} {Q Q' : Exit → Act → World → Prop} (h : c.wp P Q a w) (hQ : ∀ e a w,Q e a w → Q' e a w) : c.wp P Q' a w:=by
 intro b k cs
 obtain ⟨e,a',w',hq,har⟩:=h b k cs
 exact ⟨e,a',w',hQ _ _ _ hq,har⟩
theorem next_mono {s : ByteArray} {g rc : Nat} {w0 : World} {n : Nat} {Q : Exit → Act → World → Prop} (e : Exit) (a : Act) (w : World) (h : Next s g rc w0 n Q e a w) : jumps (fun l a w => ∃ n,Jl s g rc w0 n l a w) Q e a w:=by
 cases e with
 | goto l=>obtain ⟨n',_,h⟩:=h;exact ⟨n',h⟩
 | _=>exact h
theorem start_drop (l : List UInt8) : Tk.play (Tk.lx (l.drop 0)) (Tk.start l) = Tk.tells l:=rfl
theorem enter0 {s : ByteArray} {g rc : Nat} {w0 : World} {rest : Code} {a : Act} {w : World} {st : Value} (hf : findLabel rdBody 0 = some (Code.seq .skip rest)) (hs : s.size ≤ 262144) (hfr : Fr a g rc st) (hk : KK w0 g rc w) (h : Has w g 91 (lxc s 0 1 0 0 0 0 (Tk.blank (nb s 0)) 1 (.slice none 0 0) (.slice none 0 0))) :
 rest.wp Tryz.prog (jumps (fun l a w => ∃ n,Jl s g rc w0 n l a w) (bodyPost Tryz.prog Tryz.f36 (RdP s g rc w0))) a w:=by
 obtain ⟨rest',hf',hp⟩:=pass0 s g rc w0 _ a w hs ⟨0,0,Tk.start s.data.toList,st,hfr,hk,⟨.slice none 0 0,.slice none 0 0, [],by have e:=hb_nb s 0;rw [List.drop_zero] at e;unfold Tk.start;rw [e];exact h,⟨Ers.nil _ _,⟨rfl,.inl ⟨rfl,rfl⟩⟩,(fun g e=>by cases e),(fun x hx=>by cases hx)⟩,rfl,Nat.le_refl _,Nat.le_refl _,Nat.le_refl _,Nat.le_refl _,Nat.le_refl _⟩,Nat.zero_le _,rfl,start_drop _,rfl⟩
 have e:=Option.some.inj (hf.symm.trans hf')
 injection e with _ e
 subst e
 exact code_mono hp next_mono
set_option maxHeartbeats 2000000 in
theorem read_any (s : ByteArray) (g : Nat) (w : World) (hs : s.size ≤ 262144) (h : Has w g 91 (lxc s 0 0 0 0 0 0 false 0 (.slice none 0 0) (.slice none 0 0))) :
 Calls Tryz.prog 36 #[.pointer (some ⟨g,0,none⟩)] w (RdP s g w.heap.size (w.alloc (.cells #[.int .i64 0,.int .i64 0] 31))):=by
 have hg : g < w.heap.size:=h.lt
 have HA0:=Lib.hid (h.alloc (.cells #[.int .i64 0,.int .i64 0] 31))
 have HR0:=Lib.hid (Has.fresh w 31 #[.int .i64 0,.int .i64 0])
 have HB:=Lib.hid (beginLine_any s 0 0 0 0 0 0 false 0 (.slice none 0 0) (.slice none 0 0) g _ HA0.out (by omega))
 have HE:=Lib.hid (fun (W : World) (hW : Has W g 91 (lxc s 0 1 0 0 0 0 false 0 (.slice none 0 0) (.slice none 0 0)))=>beginEntry_any s 0 1 0 0 0 0 false 0 (.slice none 0 0) (.slice none 0 0) g W hW (Nat.zero_le _))
 clear h
 go_enter Tryz.func36,Tryz.ntmps36
 go_wp2
 refine wp_scope_many (Jl s g w.heap.size (w.alloc (.cells #[.int .i64 0,.int .i64 0] 31))) ?_ ?_
 · go_wp2_with (first
    | (go_at_call 60;refine HB.out.mono ?_;rintro e w1 ⟨rfl,h1,g1⟩;have HA1:=Lib.hid h1;have HG1:=Lib.hid g1;clear h1 g1)
    | (go_at_call 61;refine (HE.out _ HA1.out).mono ?_;rintro e w2 ⟨rfl,h2,g2⟩;have HA2:=Lib.hid h2;have HG2:=Lib.hid (grown_trans HG1.out g2);clear h2 g2))
   go_step3
   rename_i K0 hK0
   show K0 _ _
   apply hK0
   have hk : KK (w.alloc (.cells #[.int .i64 0,.int .i64 0] 31)) g w.heap.size w2:=⟨Kb.grown HG2.out (by simp),HR0.out.grown HG2.out (by simp;omega),hg⟩
   exact enter0 rfl hs ⟨rfl,rfl,rfl,rfl,rfl,rfl⟩ hk HA2.out
 · rintro n l a w' (⟨rfl,hJ⟩ | ⟨rfl,hJ⟩ | ⟨rfl,hJ⟩ | ⟨rfl,hJ⟩ | ⟨rfl,hJ⟩)
   · obtain ⟨X,hf,hX⟩:=pass0 s g _ _ n a w' hs hJ
     exact ⟨_,hf,wp_seq (wp_skip hX)⟩
   · exact pass1 s g _ _ n a w' hs hJ
   · exact pass2 s g _ _ n a w' hs hJ
   · exact pass3 s g _ _ n a w' hs hJ
   · exact pass4 s g _ _ n a w' hs hJ
end Go.Proofs.YtekafhogiambaaaGreatDoor
