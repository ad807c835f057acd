/- Texts of the proofs, merged. -/
import Derived.Test.YtekafhogiambaaaGreatDoorZc32
import Derived.Test.YtekafhogiambaaaGreatDoorZc16
import Derived.Shelf.Strconv.ToError
import Derived.Shelf.Strconv.ToErrorRange
import Derived.Sort.Grow
import Derived.Test.YtekafhogiambaaaGreatDoorProg
set_option maxRecDepth 100000
namespace Go.Proofs.YtekafhogiambaaaGreatDoor
open Go.RowKit
theorem Rd.allM_no {f : List UInt8 → Option Nat} : ∀ {l : List (List UInt8)},Rd.allM f l = none → ∃ j, ∃ h : j < l.length,f (l[j]'h) = none ∧ ∀ i (hi : i < j), ∃ v,f (l[i]'(Nat.lt_trans hi h)) = some v
 | [],h=>by cases h
 | p :: r,h=>by
  rw [Rd.allM] at h
  cases hp : f p with
  | none=>exact ⟨0,by simp,hp,fun i hi=>absurd hi (Nat.not_lt_zero _)⟩
  | some v =>
   cases hr : Rd.allM f r with
   | some vs=>rw [hp,hr] at h;cases h
   | none =>
    obtain ⟨j,hj,h1,h2⟩:=Rd.allM_no hr
    refine ⟨j + 1,by simp;omega,h1,fun i hi=>?_⟩
    cases i with
    | zero=>exact ⟨v,hp⟩
    | succ i=>exact h2 i (by omega)
section
variable {g hi n : Nat} {o : ByteArray} {ws : List Rd.W2} {x : Rd.W2} {d : Rd.Dt} {w : World}
set_option maxHeartbeats 1000000 in
theorem rdFour_no (h : St w g hi o ws d n) (h32 : ∀ x ∈ ws,x.1.length < 4294967281) (hv : Rd.plainW ws = none ∨ ∃ t r,ws = (t,false) :: r ∧ Rd.addr4 t = none) :
 Calls Tryz.prog 122 #[.pointer (some ⟨g,0,none⟩)] w fun e w' => Rf g w e w':=by
 have hlt:=h.low
 rcases hv with hp | ⟨t,rest,rfl,hv⟩
 · have HN:=Lib.hid (rdPlain_no h hp)
   clear h
   go_enter Tryz.func122,Tryz.ntmps122
   go_wp2_with (go_at_call 117;refine HN.out.mono ?_;rintro e w1 ⟨rfl,B1⟩;exact ⟨rfl,⟨rfl,B1⟩⟩)
 · have ht32 : t.length < 4294967281:=h32 (t,false) (by simp)
   have HP:=Lib.hid (rdPlain_any h rfl)
   have HSP:=Lib.hid (fun (W : World) hm=>split_any t 46 W ht32 hm)
   have HG:=Lib.hid (fun W : World=>rdGiveUp_any (.pointer (some ⟨g,0,none⟩)) W)
   clear h h32
   obtain ⟨ps,hps⟩ : ∃ ps,Rd.splitB 46 t = ps:=⟨_,rfl⟩
   unfold Rd.addr4 at hv
   rw [hps] at hv HSP
   have hpl : ∀ p ∈ ps,p.length ≤ 140737488355328:=fun p hp=>by
    rw [← hps] at hp
    have:=Rd.splitB_len hp
    omega
   have HPL:=Lib.hid hpl
   clear hpl hps
   by_cases h4 : ps.length = 4
   · rw [if_pos h4] at hv
     have hv2 : Rd.allM (fun p=>Rd.num p 255) ps = none:=by
      cases he : Rd.allM (fun p=>Rd.num p 255) ps with
      | none=>rfl
      | some vs=>rw [he] at hv;cases hv
     obtain ⟨j0,hj0,hno,hyes⟩:=Rd.allM_no hv2
     have HNO:=Lib.hid hno
     have HYES:=Lib.hid hyes
     have HP4:=Lib.hid h4
     have hj4 : j0 < 4:=by omega
     rw [h4] at HSP
     clear hv hv2 hno hyes h4
     go_enter Tryz.func122,Tryz.ntmps122
     go_wp2_with (first
      | (go_at_call 117;refine HP.out.mono ?_;rintro e w1 ⟨rfl,S1,K1⟩;have HM:=Lib.hid S1.ml;have HS:=Lib.hid S1;have HK:=Lib.hid (K1.toBelow (Nat.le_refl g) (Nat.le_of_lt hlt));have hg1:=S1.low;clear S1 K1)
      | (go_at_call 144;refine (HSP.out _ HM.out).mono ?_;rintro e w2 ⟨rfl,E2⟩;have HE2:=Lib.hid E2;clear E2))
     have hB12 : Below w1.heap.size w1 w2:=by rw [HE2.out];exact (Below.refl _ _).alloc (Nat.le_refl _) _
     have hlt12 : w1.heap.size < w2.heap.size:=by rw [HE2.out];simp
     have hpc : ∀ j (hj : j < ps.length),w2.cell? ⟨w1.heap.size,j,none⟩ = some (sv (ps[j]'hj)):=fun j hj=>by
      rw [HE2.out,(Has.fresh w1 9 (svs ps).toArray).cell]
      simp [svs,hj]
     have HPC:=Lib.hid hpc
     have HBg:=Lib.hid (HK.out.trans (hB12.mono (Nat.le_of_lt hg1)))
     have HL2:=Lib.hid (HS.out.gl.1.below hB12 HS.out.gl.1.size)
     have HB0:=Lib.hid ((Below.refl w2.heap.size w2).alloc (Nat.le_refl _) (.cells #[.int .u8 0,.int .u8 0,.int .u8 0,.int .u8 0] 198))
     clear hpc hB12 HE2 HM
     go_loopw [16] (fun i wr => ∃ (k : Nat) (cs : Array Value),i = .int .i64 k ∧ k ≤ j0 ∧ cs.size = 4 ∧ Hid (Below w2.heap.size w2 wr) ∧ Hid (Has wr w2.heap.size 198 cs)) (fun i _=>4 - (intOf i).toNat)
     case atStart=>exact ⟨0,_,rfl,by omega,rfl,HB0.out,Has.fresh w2 _ _⟩
     case round =>
      obtain ⟨k,cs,rfl,hk,hcs,HB,HH⟩:=hrel
      have hsz:=HB.out.size
      have hj : k < ps.length:=by rw [HP4.out];omega
      have cp : wr.cell? ⟨w1.heap.size,k,none⟩ = some (sv (ps[k]'hj)):=(HB.out.cell (p:=⟨w1.heap.size,k,none⟩) hlt12).trans (HPC.out k hj)
      have hpk:=HPL.out _ (List.getElem_mem hj)
      have hki : (k : Int) < 4:=by omega
      have HLr:=Lib.hid (HL2.out.below HB.out HL2.out.size)
      by_cases hlt0 : k < j0
      · obtain ⟨vk,hnum⟩:=HYES.out k hlt0
        have hle:=Rd.num_le hnum
        have ck : wr.cell? ⟨w2.heap.size,k,none⟩ = some (cs[k]'(by omega)):=by rw [HH.out.cell,Array.getElem?_eq_getElem (by omega)]
        have HDG:=Lib.hid (fun (W : World)=>rdDigits_ok (.pointer (some ⟨g,0,none⟩)) ⟨(ps[k]'hj).toArray⟩ W 8 (.inl rfl) (by rw [mk_size];exact hpk) (by simpa using hnum))
        generalize ps[k]'hj = pk at *
        generalize cs[k]'(by omega) = ock at ck
        have hwr : IntKind.u8.wrap (vk : Int) = (vk : Int):=by rw [IntKind.wrap_u8];omega
        clear hnum hpk
        go_wp2_with (go_at_call 142;refine (HDG.out _).mono ?_;rintro e w3 ⟨rfl,B3⟩;have c3:=(B3.cell (p:=⟨w2.heap.size,k,none⟩) HH.out.lt).trans ck;have HH3:=Lib.hid (HH.out.below B3 HH.out.lt);have f3:=HH3.out.free k;have HB3:=Lib.hid (HB.out.trans (B3.mono hsz));clear B3)
        exact ⟨⟨k + 1,_,by go_num,by omega,by rw [Array.size_setIfInBounds];exact hcs,HB3.out.setCell (Nat.le_refl _) _,HH3.out.set _ _⟩,by simp [intOf];omega⟩
      · obtain rfl : k = j0:=by omega
        have HDG:=Lib.hid (fun (W : World) (hL : Lay W)=>rdDigits_no (.pointer (some ⟨g,0,none⟩)) ⟨(ps[k]'hj).toArray⟩ W hL 8 (.inl rfl) (by rw [mk_size];exact hpk) (by simpa using HNO.out))
        generalize ps[k]'hj = pk at *
        have hg2 : g ≤ w2.heap.size:=by omega
        clear hpk
        go_wp2_with (go_at_call 142;refine (HDG.out _ HLr.out).mono ?_;rintro e w3 ⟨rfl,B3⟩;exact ⟨rfl,⟨rfl,(HBg.out.trans (HB.out.mono hg2)).trans (B3.mono (by omega))⟩⟩)
   · have h4i : ¬ (ps.length : Int) = 4:=by omega
     have h4b : (((ps.length : Nat) : Int) == 4) = false:=beq_eq_false_iff_ne.2 h4i
     clear hv h4
     go_enter Tryz.func122,Tryz.ntmps122
     go_wp2_with (first
      | (go_at_call 117;refine HP.out.mono ?_;rintro e w1 ⟨rfl,S1,K1⟩;have HM:=Lib.hid S1.ml;have HK:=Lib.hid (K1.toBelow (Nat.le_refl g) (Nat.le_of_lt hlt));have hg1:=S1.low;clear S1 K1)
      | (go_at_call 144;refine (HSP.out _ HM.out).mono ?_;rintro e w2 ⟨rfl,E2⟩;have hB12 : Below w1.heap.size w1 w2:=(by rw [E2];exact (Below.refl _ _).alloc (Nat.le_refl _) _);have HBg:=Lib.hid (HK.out.trans (hB12.mono (Nat.le_of_lt hg1)));have hs2:=hB12.size;clear E2 hB12)
      | (go_at_call 118;refine (HG.out _).mono ?_;rintro e w3 ⟨rfl,B3⟩;exact ⟨rfl,⟨rfl,HBg.out.trans (B3.mono (by omega))⟩⟩))
end
end Go.Proofs.YtekafhogiambaaaGreatDoor
namespace Go.Proofs
open Go.Shelf Go.RowKit Go.Sort Go.Lib
def Tryz.laysC245_ren : Go.Shelf.Ren:=⟨fun | 245=>113 | 279=>138 | 280=>139 | 281=>140 | 282=>141 | 316=>153 | 171=>59 | 205=>154 | 243=>87 | 246=>108 | 283=>83 | 284=>84 | 285=>85 | 286=>86 | 129=>104 | 317=>103 | 318=>105 | 319=>106 | 320=>107 | 337=>131 | 338=>132 | n=>n,fun | 9=>9 | 3=>3 | 75=>55 | 167=>188 | 4=>4 | 168=>190 | 210=>213 | 37=>51 | 0=>0 | 127=>89 | 145=>226 | 143=>224 | 2=>2 | 171=>140 | 53=>87 | 5=>5 | 173=>143 | 212=>163 | 51=>24 | 20=>20 | 213=>164 | 46=>139 | 232=>208 | 233=>209 | 80=>62 | n=>n,fun | 15=>5 | 16=>6 | 17=>1 | 18=>3 | 19=>4 | n=>n⟩
theorem Tryz.laysC245 : Go.Proofs.LaysC.n245 Tryz.prog Tryz.laysC245_ren:={
 mixed:=by kernel_rfl
 f129:=Tryz.func104.trans (congrArg some (by kernel_rfl))
 f171:=Tryz.func59.trans (congrArg some (by kernel_rfl))
 f205:=Tryz.func154.trans (congrArg some (by kernel_rfl))
 f243:=Tryz.func87.trans (congrArg some (by kernel_rfl))
 f245:=Tryz.func113.trans (congrArg some (by kernel_rfl))
 f246:=Tryz.func108.trans (congrArg some (by kernel_rfl))
 f279:=Tryz.func138.trans (congrArg some (by kernel_rfl))
 f280:=Tryz.func139.trans (congrArg some (by kernel_rfl))
 f281:=Tryz.func140.trans (congrArg some (by kernel_rfl))
 f282:=Tryz.func141.trans (congrArg some (by kernel_rfl))
 f283:=Tryz.func83.trans (congrArg some (by kernel_rfl))
 f284:=Tryz.func84.trans (congrArg some (by kernel_rfl))
 f285:=Tryz.func85.trans (congrArg some (by kernel_rfl))
 f286:=Tryz.func86.trans (congrArg some (by kernel_rfl))
 f316:=Tryz.func153.trans (congrArg some (by kernel_rfl))
 f317:=Tryz.func103.trans (congrArg some (by kernel_rfl))
 f318:=Tryz.func105.trans (congrArg some (by kernel_rfl))
 f319:=Tryz.func106.trans (congrArg some (by kernel_rfl))
 f320:=Tryz.func107.trans (congrArg some (by kernel_rfl))
 f337:=Tryz.func131.trans (congrArg some (by kernel_rfl))
 f338:=Tryz.func132.trans (congrArg some (by kernel_rfl))
 t0:=Tryz.underlying0
 a0:=Tryz.isAgg0
 z0:=Tryz.sizeOf0
 v0:=Tryz.zeroValue0
 t2:=Tryz.underlying2
 a2:=Tryz.isAgg2
 z2:=Tryz.sizeOf2
 v2:=Tryz.zeroValue2
 t3:=Tryz.underlying3
 a3:=Tryz.isAgg3
 z3:=Tryz.sizeOf3
 v3:=Tryz.zeroValue3
 t4:=Tryz.underlying4
 a4:=Tryz.isAgg4
 z4:=Tryz.sizeOf4
 v4:=Tryz.zeroValue4
 t5:=Tryz.underlying5
 a5:=Tryz.isAgg5
 z5:=Tryz.sizeOf5
 v5:=Tryz.zeroValue5
 t9:=Tryz.underlying9
 a9:=Tryz.isAgg9
 z9:=Tryz.sizeOf9
 v9:=Tryz.zeroValue9
 t20:=Tryz.underlying20
 a20:=Tryz.isAgg20
 z20:=Tryz.sizeOf20
 v20:=Tryz.zeroValue20
 t37:=Tryz.underlying51
 a37:=Tryz.isAgg51
 z37:=Tryz.sizeOf51
 v37:=Tryz.zeroValue51
 t46:=Tryz.underlying139
 a46:=Tryz.isAgg139
 z46:=Tryz.sizeOf139
 v46:=Tryz.zeroValue139
 t51:=Tryz.underlying24
 a51:=Tryz.isAgg24
 z51:=Tryz.sizeOf24
 v51:=Tryz.zeroValue24
 t53:=Tryz.underlying87
 a53:=Tryz.isAgg87
 z53:=Tryz.sizeOf87
 v53:=Tryz.zeroValue87
 t75:=Tryz.underlying55
 a75:=Tryz.isAgg55
 z75:=Tryz.sizeOf55
 v75:=Tryz.zeroValue55
 t127:=Tryz.underlying89
 a127:=Tryz.isAgg89
 z127:=Tryz.sizeOf89
 v127:=Tryz.zeroValue89
 t143:=Tryz.underlying224
 a143:=Tryz.isAgg224
 z143:=Tryz.sizeOf224
 v143:=Tryz.zeroValue224
 t145:=Tryz.underlying226
 a145:=Tryz.isAgg226
 z145:=Tryz.sizeOf226
 v145:=Tryz.zeroValue226
 t167:=Tryz.underlying188
 a167:=Tryz.isAgg188
 z167:=Tryz.sizeOf188
 v167:=Tryz.zeroValue188
 t168:=Tryz.underlying190
 a168:=Tryz.isAgg190
 z168:=Tryz.sizeOf190
 v168:=Tryz.zeroValue190
 t171:=Tryz.underlying140
 a171:=Tryz.isAgg140
 z171:=Tryz.sizeOf140
 v171:=Tryz.zeroValue140
 t173:=Tryz.underlying143
 a173:=Tryz.isAgg143
 z173:=Tryz.sizeOf143
 v173:=Tryz.zeroValue143
 t210:=Tryz.underlying213
 a210:=Tryz.isAgg213
 z210:=Tryz.sizeOf213
 v210:=Tryz.zeroValue213
 t212:=Tryz.underlying163
 a212:=Tryz.isAgg163
 z212:=Tryz.sizeOf163
 v212:=Tryz.zeroValue163
 t213:=Tryz.underlying164
 a213:=Tryz.isAgg164
 z213:=Tryz.sizeOf164
 t232:=Tryz.underlying208
 a232:=Tryz.isAgg208
 z232:=Tryz.sizeOf208
 v232:=Tryz.zeroValue208
 t233:=Tryz.underlying209
 a233:=Tryz.isAgg209
 z233:=Tryz.sizeOf209
 v233:=Tryz.zeroValue209
 g15:=by kernel_rfl
 g16:=by kernel_rfl
 g17:=by kernel_rfl
 g18:=by kernel_rfl
 g19:=by kernel_rfl
 t80:=Tryz.underlying62
 a80:=Tryz.isAgg62
 z80:=Tryz.sizeOf62
 v80:=Tryz.zeroValue62
 i0:=by kernel_rfl
 i2:=by kernel_rfl
 i3:=by kernel_rfl
 i4:=by kernel_rfl
 i5:=by kernel_rfl
 i9:=by kernel_rfl
 i20:=by kernel_rfl
 i37:=by kernel_rfl
 i46:=by kernel_rfl
 i51:=by kernel_rfl
 i53:=by kernel_rfl
 i75:=by kernel_rfl
 i80:=by kernel_rfl
 i127:=by kernel_rfl
 i143:=by kernel_rfl
 i145:=by kernel_rfl
 i167:=by kernel_rfl
 i168:=by kernel_rfl
 i171:=by kernel_rfl
 i173:=by kernel_rfl
 i210:=by kernel_rfl
 i212:=by kernel_rfl
 i232:=by kernel_rfl
 i233:=by kernel_rfl
 m15:=by kernel_rfl
 m16:=by kernel_rfl
 m17:=by kernel_rfl
 m18:=by kernel_rfl
 m19:=by kernel_rfl
 c0:=by kernel_rfl
 c2:=by kernel_rfl
 c3:=by kernel_rfl
 c4:=by kernel_rfl
 c5:=by kernel_rfl
 c9:=by kernel_rfl
 c20:=by kernel_rfl
 c37:=by kernel_rfl
 c46:=by kernel_rfl
 c51:=by kernel_rfl
 c53:=by kernel_rfl
 c75:=by kernel_rfl
 c80:=by kernel_rfl
 c127:=by kernel_rfl
 c143:=by kernel_rfl
 c145:=by kernel_rfl
 c167:=by kernel_rfl
 c168:=by kernel_rfl
 c171:=by kernel_rfl
 c173:=by kernel_rfl
 c210:=by kernel_rfl
 c212:=by kernel_rfl
 c213:=by kernel_rfl
 c232:=by kernel_rfl
 c233:=by kernel_rfl }
theorem Tryz.strconv_toError_syntax (fn s : ByteArray) (base bits : Int) (ev : Value) (w : World) (hlim : s.size ≤ 281474976710656) (hv : w.cell? ⟨5,0,none⟩ = some ev) (hev : ev = .nilIface ∨ ∃ te pe,ev = .iface te pe) :
 Calls Tryz.prog 113 #[.string fn,.string s,.int .i64 base,.int .i64 bits,.iface 188 (.int .i64 2)] w fun e w' => ∃ N,e = .returned (.iface 190 (.pointer (some ⟨N,0,none⟩))) ∧ w.heap.size ≤ N ∧ w'.heap[N]? = some (.cells #[.string fn,.string s,ev] 213 (0,0)) ∧ Below w.heap.size w w':=Any.strconv_toError_syntax Tryz.laysC245 fn s base bits ev w hlim hv hev
theorem Tryz.strconv_toError_range (fn s : ByteArray) (base bits : Int) (ev : Value) (w : World) (hlim : s.size ≤ 281474976710656) (hv : w.cell? ⟨6,0,none⟩ = some ev) (hev : ev = .nilIface ∨ ∃ te pe,ev = .iface te pe) :
 Calls Tryz.prog 113 #[.string fn,.string s,.int .i64 base,.int .i64 bits,.iface 188 (.int .i64 1)] w fun e w' => ∃ N,e = .returned (.iface 190 (.pointer (some ⟨N,0,none⟩))) ∧ w.heap.size ≤ N ∧ w'.heap[N]? = some (.cells #[.string fn,.string s,ev] 213 (0,0)) ∧ Below w.heap.size w w':=Any.strconv_toError_range Tryz.laysC245 fn s base bits ev w hlim hv hev
end Go.Proofs
