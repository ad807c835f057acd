/- Texts of the proofs, merged. -/
import Derived.Test.YtekafhogiambaaaGreatDoorZc15
import Derived.Test.YtekafhogiambaaaGreatDoorZc16
import Derived.Test.YtekafhogiambaaaGreatDoorZc25
import Derived.Test.YtekafhogiambaaaGreatDoorZc24
import Derived.Deep.CutRange
import Derived.Deep.RegionHeld3
set_option maxRecDepth 100000
namespace Go.Proofs.YtekafhogiambaaaGreatDoor
open Go.RowKit
theorem Ws.more {w : World} {hi hi' : Nat} {v : Value} {ws : List Rd.W2} (h : Ws w hi v ws) (hh : hi ≤ hi') : Ws w hi' v ws:=by
 obtain ⟨A,c,h1,h2,h3,h4,h5⟩:=h
 refine ⟨A,c,h1,h2,h3,h4,fun h0=>?_⟩
 obtain ⟨g,o,e1,e2,e3⟩:=h5 h0
 exact ⟨g,o,e1,by omega,e3⟩
theorem below_setCells {B : Nat} {a : World} : ∀ {w : World},Below B a w → ∀ {g : Nat},B ≤ g → ∀ (o : Nat) (vs : List Value),Below B a (w.setCells g o vs)
 | _,h,_,_,_, []=>h
 | w,h,g,hg,o,v :: r=>by
  rw [World.setCells]
  exact below_setCells (w:=w.setCell ⟨g,o,none⟩ v) (h.setCell (p:=⟨g,o,none⟩) hg v) hg (o + 1) r
theorem ma_set_range {g : Nat} {t : TypeId} : ∀ (vs : List Value) (o : Nat) (F : Array Value) {w : World},Has w g t F → ∃ F',Has (w.setCells g o vs) g t F' ∧ F'.size = F.size ∧ (∀ j,F'[j]? = if o ≤ j ∧ j < o + vs.length ∧ j < F.size then vs[j - o]? else F[j]?)
 | [],o,F,w,h=>⟨F,h,rfl,fun j=>by rw [if_neg (by simp;omega)]⟩
 | v :: r,o,F,w,h=>by
  obtain ⟨F',h1,h2,h4⟩:=ma_set_range r (o + 1) _ (h.set o v)
  refine ⟨F',h1,by simpa using h2,fun j=>?_⟩
  rw [h4]
  by_cases e : o = j
  · subst e
    rw [if_neg (by omega)]
    by_cases hs : o < F.size
    · rw [if_pos ⟨by omega,by simp,hs⟩]
      simp [hs]
    · rw [if_neg (by omega)]
      simp [hs]
  · by_cases hc : o + 1 ≤ j ∧ j < o + 1 + r.length ∧ j < F.size
    · rw [if_pos (by simpa using hc),if_pos (by simp;omega)]
      rw [show j - o = (j - (o + 1)) + 1 by omega,List.getElem?_cons_succ]
    · rw [if_neg (by simpa using hc),if_neg (by simp;omega)]
      simp [e]
theorem ma_set_all {w : World} {g : Nat} {t : TypeId} {F G : Array Value} (h : Has w g t F) (hs : G.size = F.size) : Has (w.setCells g 0 G.toList) g t G:=by
 obtain ⟨F',h1,h2,h4⟩:=ma_set_range (w:=w) G.toList 0 _ h
 have e : F' = G:=by
  apply Array.ext_getElem?
  intro j
  rw [h4]
  by_cases hj : j < F.size
  · rw [if_pos ⟨Nat.zero_le _,by simp;omega,hj⟩]
    simp
  · rw [if_neg (by omega),Array.getElem?_eq_none (by omega),Array.getElem?_eq_none (by omega)]
 rw [e] at h1
 exact h1
theorem ma_set_data {w : World} {g : Nat} {t : TypeId} {r : Rv} (h : Has w g t r.cells) (d : Dv) : Has (w.setCells g 4 d.cells.toList) g t ({ r with d:=d } : Rv).cells:=by
 obtain ⟨F',h1,h2,h4⟩:=ma_set_range (w:=w) d.cells.toList 4 _ h
 have e : F' = ({ r with d:=d } : Rv).cells:=by
  apply Array.ext_getElem?
  intro j
  rw [h4]
  by_cases hj : j < 12
  · rcases (by omega : j = 0 ∨ j = 1 ∨ j = 2 ∨ j = 3 ∨ j = 4 ∨ j = 5 ∨ j = 6 ∨ j = 7 ∨ j = 8 ∨ j = 9 ∨ j = 10 ∨ j = 11) with rfl | rfl | rfl | rfl | rfl | rfl | rfl | rfl | rfl | rfl | rfl | rfl <;> rfl
  · rw [if_neg (by simp [Rv.cells];omega),Array.getElem?_eq_none (by simp [Rv.cells];omega),Array.getElem?_eq_none (by simp [Rv.cells];omega)]
 rw [e] at h1
 exact h1
theorem dat_there {w : World} {g : Nat} {cs : Array Value} {t : TypeId} (h : Has w g t cs) : w.there g 0 cs.size:=fun j hj=>by
 rw [Nat.zero_add]
 exact ⟨by rw [h.cell,Array.getElem?_eq_getElem hj];rfl,h.free j⟩
theorem rec_there {w : World} {g : Nat} {cs : Array Value} {t : TypeId} (h : Has w g t cs) (o n : Nat) (hn : o + n ≤ cs.size) : w.there g o n:=fun j hj=>⟨by rw [h.cell,Array.getElem?_eq_getElem (by omega)];rfl,h.free (o + j)⟩
theorem dv_fold (d : Rd.Dt) (t : Nat) : (dv d).fold t = dv (Rd.foldD t d):=by
 unfold Dv.fold Rd.foldD dv
 by_cases h1 : Rd.isHost t <;> by_cases h2 : Rd.isMail t <;> simp [h1,h2]
def RdNo : Prop := ∀ (t : Nat) (o : ByteArray) (v : Value) (ws : List Rd.W2) (w : World),t ≤ 65535 → Rd.nm o.data.toList = true → o.size ≤ 140737488355328 → Ws w w.heap.size v ws → Gl w w.heap.size → (∀ x ∈ ws,x.1.length < 4294967281) → Rd.readR o.data.toList t ws = none →
 Calls Tryz.prog 77 #[.int .u16 t,v,.string o] w fun e w' => ∃ x : Nat,x ≠ 0 ∧ e = .returned (.tuple #[(dv Rd.dt0).val,.int .i64 x]) ∧ Below w.heap.size w w'
def RcP (w : World) (g : Nat) (hi : Nat × Nat) (s : Ma.S) (f : Tk.Wd) (R : Ma.Ans (Nat × Ma.Rc)) (e : Ending) (w' : World) : Prop:=match R with
 | .ok (h,c)=>e = .returned (rvOf c).val ∧ (∃ us,MM w' g hi { s with ttl:=h } f us) ∧ Kb g w.heap.size w w'
 | .error x=>Fell w g x e w'
section
variable {g : Nat} {hi : Nat × Nat} {s : Ma.S} {f : Tk.Wd} {ws : List Tk.Wd} {w : World}
set_option linter.unusedSimpArgs false in
set_option maxHeartbeats 8000000 in
theorem maRec_any (h : MM w g hi s f ws) (hs : Mk s) (bl : Bool) (hne : bl = false → ws ≠ []) (hrd : RdNo ∨ ∃ y,Ma.record s f bl ws = .ok y) :
 Calls Tryz.prog 41 #[.pointer (some ⟨g,0,none⟩),.bool bl] w fun e w' => RcP w g hi s f (Ma.record s f bl ws) e w':=by
 have hi4 : (Tryz.prog.info? 69).map (·.size) = some 4:=by kernel_rfl
 have HI:=Lib.hid hi4
 have hgw:=h.lt
 have htop:=h.top
 have HOW:=Lib.hid (fun (W : World) (hM : MM W g hi s f ws)=>maOwner_any hM hs bl hne)
 have HMa:=Lib.hid (h.keep ((Below.refl w.heap.size w).alloc (Nat.le_refl _) (.cells #[.string ⟨#[]⟩,.int .u16 0,.int .u16 0,.int .u32 0,.string ⟨#[]⟩,.string ⟨#[]⟩,.string ⟨#[]⟩,.int .u32 0,.int .u32 0,.int .u32 0,.int .u32 0,.int .u32 0] 39)))
 have HKa:=Lib.hid ((Kb.refl g w.heap.size w).alloc (Nat.le_refl _) (.cells #[.string ⟨#[]⟩,.int .u16 0,.int .u16 0,.int .u32 0,.string ⟨#[]⟩,.string ⟨#[]⟩,.string ⟨#[]⟩,.int .u32 0,.int .u32 0,.int .u32 0,.int .u32 0,.int .u32 0] 39))
 have HZa:=Lib.hid (Has.fresh w 39 #[.string ⟨#[]⟩,.int .u16 0,.int .u16 0,.int .u32 0,.string ⟨#[]⟩,.string ⟨#[]⟩,.string ⟨#[]⟩,.int .u32 0,.int .u32 0,.int .u32 0,.int .u32 0,.int .u32 0])
 have hga : w.heap.size ≠ g:=by omega
 have hsza : (w.alloc (.cells #[.string ⟨#[]⟩,.int .u16 0,.int .u16 0,.int .u32 0,.string ⟨#[]⟩,.string ⟨#[]⟩,.string ⟨#[]⟩,.int .u32 0,.int .u32 0,.int .u32 0,.int .u32 0,.int .u32 0] 39)).heap.size = w.heap.size + 1:=by simp
 have HSA:=Lib.hid hsza
 clear hsza hi4
 cases hO : Ma.owner s f bl ws with
 | error x =>
  have hR : Ma.record s f bl ws = .error x:=by unfold Ma.record;rw [hO]
  rw [hR]
  rw [hO] at HOW
  clear hR hO hrd h hs hne
  go_enter Tryz.func41,Tryz.ntmps41
  go_wp2_with (go_at_call 74;refine (HOW.out _ HMa.out).mono ?_;rintro e w1 ⟨rfl,BG⟩;exact ⟨rfl,⟨rfl,(HKa.out.below (Nat.le_of_lt hgw)).trans BG⟩⟩)
 | ok y =>
  obtain ⟨n,ws1⟩:=y
  rw [hO] at HOW
  have HTC:=Lib.hid (fun (W : World) (hM : MM W g hi s f ws1)=>maTc_any hM)
  cases hT : Ma.tc s.fx ws1 s.ttl s.ttl false false with
  | error x =>
   have hR : Ma.record s f bl ws = .error x:=by unfold Ma.record;rw [hO];dsimp only;rw [hT]
   rw [hR]
   rw [hT] at HTC
   clear hR hO hT hrd h hs hne
   go_enter Tryz.func41,Tryz.ntmps41
   go_wp2_with (first
    | (go_at_call 74;refine (HOW.out _ HMa.out).mono ?_;rintro e w1 ⟨rfl,M1,K1⟩;have HM1:=Lib.hid (M1.keep ((Below.refl w1.heap.size w1).alloc (Nat.le_refl _) (.cells #[sv n,.int .u16 0,.int .u16 1,.int .u32 0,.string ⟨#[]⟩,.string ⟨#[]⟩,.string ⟨#[]⟩,.int .u32 0,.int .u32 0,.int .u32 0,.int .u32 0,.int .u32 0] 39)));have k1:=HKa.out.on K1;have HK1:=Lib.hid (k1.alloc k1.size (.cells #[sv n,.int .u16 0,.int .u16 1,.int .u32 0,.string ⟨#[]⟩,.string ⟨#[]⟩,.string ⟨#[]⟩,.int .u32 0,.int .u32 0,.int .u32 0,.int .u32 0,.int .u32 0] 39));clear M1 K1 k1)
    | (go_at_call 75;refine (HTC.out _ HM1.out).mono ?_;rintro e w2 ⟨rfl,BG⟩;exact ⟨rfl,⟨rfl,(HK1.out.below (Nat.le_of_lt hgw)).trans BG⟩⟩))
  | ok y2 =>
   obtain ⟨hl,t,ws2⟩:=y2
   rw [hT] at HTC
   have HS:=Lib.hid hs
   have hR : Ma.record s f bl ws = match Ma.tail s.o f ws2 with | .error x=>.error x | .ok y=>.ok (hl,⟨n,y.1,t,y.2⟩):=by
    unfold Ma.record
    rw [hO]
    dsimp only
    rw [hT]
    dsimp only
    cases Ma.tail s.o f ws2 <;> rfl
   obtain ⟨R,hRe⟩ : ∃ R,Ma.record s f bl ws = R:=⟨_,rfl⟩
   rw [hRe] at hR hrd ⊢
   have HRD:=Lib.hid hrd
   have HG:=Lib.hid (fun (x : Tk.Wd) (n : Nat) (W : World)=>maGiveUp_any x n W)
   have HTC2 : Hid (∀ (W : World),MM W g hi s f ws1 → Calls Tryz.prog 75 #[.pointer (some ⟨g,0,none⟩)] W fun e w' => e = .returned (.int .u32 t) ∧ MM w' g hi { s with ttl:=hl } f ws2 ∧ Kb g W.heap.size W w'):=HTC
   have HOW2 : Hid (∀ (W : World),MM W g hi s f ws → Calls Tryz.prog 74 #[.pointer (some ⟨g,0,none⟩),.bool bl] W fun e w' => e = .returned (sv n) ∧ MM w' g hi s f ws1 ∧ Kb g W.heap.size W w'):=HOW
   clear hRe hO hT hrd h hs hne HTC HOW
   go_enter Tryz.func41,Tryz.ntmps41
   go_upto_region 3 with (first
    | (go_at_call 74;refine (HOW2.out _ HMa.out).mono ?_;rintro e w1 ⟨rfl,M1,K1⟩;have hs1:=K1.size;rw [HSA.out] at hs1;have HM1:=Lib.hid (M1.keep ((Below.refl w1.heap.size w1).alloc (Nat.le_refl _) (.cells #[sv n,.int .u16 0,.int .u16 1,.int .u32 0,.string ⟨#[]⟩,.string ⟨#[]⟩,.string ⟨#[]⟩,.int .u32 0,.int .u32 0,.int .u32 0,.int .u32 0,.int .u32 0] 39)));have k1:=HKa.out.on K1;have HK1:=Lib.hid (k1.alloc k1.size (.cells #[sv n,.int .u16 0,.int .u16 1,.int .u32 0,.string ⟨#[]⟩,.string ⟨#[]⟩,.string ⟨#[]⟩,.int .u32 0,.int .u32 0,.int .u32 0,.int .u32 0,.int .u32 0] 39));have HX1:=Lib.hid (Has.fresh w1 39 #[sv n,.int .u16 0,.int .u16 1,.int .u32 0,.string ⟨#[]⟩,.string ⟨#[]⟩,.string ⟨#[]⟩,.int .u32 0,.int .u32 0,.int .u32 0,.int .u32 0,.int .u32 0]);have HZ1:=Lib.hid ((K1.has HZa.out HZa.out.lt hga).alloc (.cells #[sv n,.int .u16 0,.int .u16 1,.int .u32 0,.string ⟨#[]⟩,.string ⟨#[]⟩,.string ⟨#[]⟩,.int .u32 0,.int .u32 0,.int .u32 0,.int .u32 0,.int .u32 0] 39));have hg1 : w1.heap.size ≠ g:=(by omega);have hb1 : hi.2 ≤ w1.heap.size:=(by omega);have hz1 : w.heap.size ≠ w1.heap.size:=(by omega);have hwb : w.heap.size ≤ w1.heap.size:=(by omega);clear M1 K1 k1)
    | (go_at_call 75;refine (HTC2.out _ HM1.out).mono ?_;rintro e w2 ⟨rfl,M2,K2⟩;have hx2:=K2.has HX1.out HX1.out.lt hg1;have c3 : w2.cell? ⟨w1.heap.size,3,none⟩ = some (.int .u32 0):=hx2.cell 3;have f3:=hx2.free 3;have HX2:=Lib.hid (hx2.set 3 (.int .u32 t));have HZ2:=Lib.hid ((K2.has HZ1.out HZ1.out.lt hga).far (p:=⟨w1.heap.size,3,none⟩) hz1 (.int .u32 t));have HM2:=Lib.hid (M2.keepB (below_set_ge w2 ⟨w1.heap.size,3,none⟩ hb1 (.int .u32 t)));have HK2:=Lib.hid ((HK1.out.on K2).setHi (p:=⟨w1.heap.size,3,none⟩) hwb (.int .u32 t));clear M2 K2 hx2))
   clear c3 f3 HMa HKa HZa HSA HM1 HK1 HX1 HZ1 HOW2 HTC2 hs1
   generalize w2.setCell ⟨w1.heap.size,3,none⟩ (.int .u32 t) = w3 at *
   have HX3 : Hid (Has w3 w1.heap.size 39 #[sv n,.int .u16 0,.int .u16 1,.int .u32 t,.string ⟨#[]⟩,.string ⟨#[]⟩,.string ⟨#[]⟩,.int .u32 0,.int .u32 0,.int .u32 0,.int .u32 0,.int .u32 0]):=HX2
   clear HX2
   generalize w1.heap.size = bx at *
   obtain ⟨A,cp,c8⟩:=HM2.out.front
   cases ws2 with
   | nil =>
    have hR2 : R = .error (Ma.at_ f 93):=hR
    subst hR2
    have HF:=Lib.hid HM2.out.first
    obtain ⟨ft,fq,fl,fc⟩:=f
    clear hR HRD
    go_wp2_with (first
     | (refine wpList_load_mid rfl 69 (.tmp 26) rfl g _ rfl [sv ft,.bool fq,.int .i64 fl,.int .i64 fc] _ HF.out Tryz.underlying69 rfl HI.out ?_)
     | (go_at_call 40;refine (HG.out ⟨ft,fq,fl,fc⟩ 93 _).mono ?_;rintro e w4 ⟨rfl,BG⟩;exact ⟨rfl,⟨rfl,(HK2.out.below (Nat.le_of_lt hgw)).trans (BG.mono (Nat.le_of_lt HM2.out.lt))⟩⟩))
   | cons k r =>
    have HT:=Lib.hid (fun (W : World) (hM : MM W g hi { s with ttl:=hl } f (k :: r))=>maTake_any hM)
    have hkl:=HM2.out.wordLen
    have HTY:=Lib.hid (fun (W : World) (hG : Ga W hi.1)=>TypeOf_any ⟨k.text.toArray⟩ W hG.layA hG.lay (by rw [mk_size];exact Nat.le_trans hkl (by decide)))
    obtain ⟨ty,hty⟩ : ∃ x,Rd.tyOf k.text = x:=⟨_,rfl⟩
    rw [show (⟨k.text.toArray⟩ : ByteArray).data.toList = k.text from by simp,hty] at HTY
    have HQ:=Lib.hid hty
    obtain ⟨kt,kq,kl,kc⟩:=k
    replace HQ : Hid (Rd.tyOf kt = ty):=HQ
    simp only [wv] at HT
    have hlen : ((((r.length : Nat) : Int) + 1) == 0) = false:=beq_eq_false_iff_ne.2 (by omega)
    have HTL : Hid (R = match Ma.tail s.o f (⟨kt,kq,kl,kc⟩ :: r) with | .error x=>.error x | .ok y=>.ok (hl,⟨n,y.1,t,y.2⟩)):=hR
    clear hR hkl hty
    cases ty with
    | none =>
     have hR2 : R = .error (Ma.at_ ⟨kt,kq,kl,kc⟩ 93):=by
      rw [HTL.out]
      unfold Ma.tail
      cases kq
      · dsimp only
        rw [if_neg (by decide),HQ.out]
      · rfl
     subst hR2
     replace HTY : Hid (∀ (W : World),Ga W hi.1 → Calls Tryz.prog 76 #[.string ⟨kt.toArray⟩] W fun e w' => e = .returned (.tuple #[.int .u16 0,.bool false]) ∧ Below W.heap.size W w'):=HTY
     clear HTL HRD HQ
     go_wp2_with (first
      | (go_at_call 71;refine (HT.out _ HM2.out).mono ?_;rintro e w4 ⟨rfl,M4,K4⟩;have ht4:=M4.top;have HM4:=Lib.hid (M4.keep ((Below.refl w4.heap.size w4).alloc (Nat.le_refl _) (.cells #[sv kt,.bool kq,.int .i64 kl,.int .i64 kc] 69)));have HW4:=Lib.hid (Has.fresh w4 69 #[sv kt,.bool kq,.int .i64 kl,.int .i64 kc]);have HX4:=Lib.hid ((K4.has HX3.out HX3.out.lt hg1).alloc (.cells #[sv kt,.bool kq,.int .i64 kl,.int .i64 kc] 69));have HZ4:=Lib.hid ((K4.has HZ2.out HZ2.out.lt hga).alloc (.cells #[sv kt,.bool kq,.int .i64 kl,.int .i64 kc] 69));have k4:=HK2.out.on K4;have HK4:=Lib.hid (k4.alloc k4.size (.cells #[sv kt,.bool kq,.int .i64 kl,.int .i64 kc] 69));clear M4 K4 k4)
      | (go_at_call 76;refine (HTY.out _ HM4.out.ga).mono ?_;rintro e w5 ⟨rfl,B5⟩;have HM5:=Lib.hid (HM4.out.keep B5);have HW5:=Lib.hid (HW4.out.below B5 HW4.out.lt);have d1 : w5.cell? ⟨w4.heap.size,1,none⟩ = some (.bool kq):=HW5.out.cell 1;have HX5:=Lib.hid (HX4.out.below B5 HX4.out.lt);have HZ5:=Lib.hid (HZ4.out.below B5 HZ4.out.lt);have HK5:=Lib.hid (HK4.out.onB B5);clear B5)
      | (refine wpList_load_row rfl 69 (.tmp 6) rfl w4.heap.size rfl 69 #[sv kt,.bool kq,.int .i64 kl,.int .i64 kc] (0,0) _ HW5.out Tryz.underlying69 rfl HI.out ?_)
      | (go_at_call 40;refine (HG.out ⟨kt,kq,kl,kc⟩ 93 _).mono ?_;rintro e w6 ⟨rfl,BG⟩;exact ⟨rfl,⟨rfl,(HK5.out.below (Nat.le_of_lt hgw)).trans (BG.mono (Nat.le_of_lt HM5.out.lt))⟩⟩))
    | some ty =>
     have hts:=Rd.tyOf_small HQ.out
     replace HTY : Hid (∀ (W : World),Ga W hi.1 → Calls Tryz.prog 76 #[.string ⟨kt.toArray⟩] W fun e w' => e = .returned (.tuple #[.int .u16 ty,.bool true]) ∧ Below W.heap.size W w'):=HTY
     cases kq with
     | true =>
      have hR2 : R = .error (Ma.at_ ⟨kt,true,kl,kc⟩ 93):=HTL.out
      subst hR2
      clear HTL HRD HQ
      go_wp2_with (first
       | (go_at_call 71;refine (HT.out _ HM2.out).mono ?_;rintro e w4 ⟨rfl,M4,K4⟩;have ht4:=M4.top;have HM4:=Lib.hid (M4.keep ((Below.refl w4.heap.size w4).alloc (Nat.le_refl _) (.cells #[sv kt,.bool true,.int .i64 kl,.int .i64 kc] 69)));have HW4:=Lib.hid (Has.fresh w4 69 #[sv kt,.bool true,.int .i64 kl,.int .i64 kc]);have HX4:=Lib.hid ((K4.has HX3.out HX3.out.lt hg1).alloc (.cells #[sv kt,.bool true,.int .i64 kl,.int .i64 kc] 69));have HZ4:=Lib.hid ((K4.has HZ2.out HZ2.out.lt hga).alloc (.cells #[sv kt,.bool true,.int .i64 kl,.int .i64 kc] 69));have k4:=HK2.out.on K4;have HK4:=Lib.hid (k4.alloc k4.size (.cells #[sv kt,.bool true,.int .i64 kl,.int .i64 kc] 69));clear M4 K4 k4)
       | (go_at_call 76;refine (HTY.out _ HM4.out.ga).mono ?_;rintro e w5 ⟨rfl,B5⟩;have HM5:=Lib.hid (HM4.out.keep B5);have HW5:=Lib.hid (HW4.out.below B5 HW4.out.lt);have d1 : w5.cell? ⟨w4.heap.size,1,none⟩ = some (.bool true):=HW5.out.cell 1;have HX5:=Lib.hid (HX4.out.below B5 HX4.out.lt);have HZ5:=Lib.hid (HZ4.out.below B5 HZ4.out.lt);have HK5:=Lib.hid (HK4.out.onB B5);clear B5)
       | (refine wpList_load_row rfl 69 (.tmp 6) rfl w4.heap.size rfl 69 #[sv kt,.bool true,.int .i64 kl,.int .i64 kc] (0,0) _ HW5.out Tryz.underlying69 rfl HI.out ?_)
       | (go_at_call 40;refine (HG.out ⟨kt,true,kl,kc⟩ 93 _).mono ?_;rintro e w6 ⟨rfl,BG⟩;exact ⟨rfl,⟨rfl,(HK5.out.below (Nat.le_of_lt hgw)).trans (BG.mono (Nat.le_of_lt HM5.out.lt))⟩⟩))
     | false =>
      have hR2 : R = match Rd.readR s.o ty (r.map Ma.w2) with | none=>.error (Ma.at_ ⟨kt,false,kl,kc⟩ 41) | some d=>.ok (hl,⟨n,ty,t,Rd.foldD ty d⟩):=by
       rw [HTL.out]
       unfold Ma.tail
       dsimp only
       rw [if_neg (by decide),HQ.out]
       dsimp only
       cases Rd.readR s.o ty (r.map Ma.w2) <;> rfl
      have HR2:=Lib.hid hR2
      clear hR2 HTL HQ
      go_upto_region 9 with (first
       | (go_at_call 71;refine (HT.out _ HM2.out).mono ?_;rintro e w4 ⟨rfl,M4,K4⟩;have ht4:=M4.top;have HM4:=Lib.hid (M4.keep ((Below.refl w4.heap.size w4).alloc (Nat.le_refl _) (.cells #[sv kt,.bool false,.int .i64 kl,.int .i64 kc] 69)));have HW4:=Lib.hid (Has.fresh w4 69 #[sv kt,.bool false,.int .i64 kl,.int .i64 kc]);have HX4:=Lib.hid ((K4.has HX3.out HX3.out.lt hg1).alloc (.cells #[sv kt,.bool false,.int .i64 kl,.int .i64 kc] 69));have HZ4:=Lib.hid ((K4.has HZ2.out HZ2.out.lt hga).alloc (.cells #[sv kt,.bool false,.int .i64 kl,.int .i64 kc] 69));have k4:=HK2.out.on K4;have HK4:=Lib.hid (k4.alloc k4.size (.cells #[sv kt,.bool false,.int .i64 kl,.int .i64 kc] 69));clear M4 K4 k4)
       | (go_at_call 76;refine (HTY.out _ HM4.out.ga).mono ?_;rintro e w5 ⟨rfl,B5⟩;have HM5:=Lib.hid (HM4.out.keep B5);have HW5:=Lib.hid (HW4.out.below B5 HW4.out.lt);have d1 : w5.cell? ⟨w4.heap.size,1,none⟩ = some (.bool false):=HW5.out.cell 1;have HX5:=Lib.hid (HX4.out.below B5 HX4.out.lt);have HZ5:=Lib.hid (HZ4.out.below B5 HZ4.out.lt);have HK5:=Lib.hid (HK4.out.onB B5);clear B5))
      have HS5 : Hid (Mk s):=HS.out
      have hsz5 : g < w5.heap.size:=HM5.out.lt
      have hbk : w4.heap.size ≠ g:=by omega
      clear d1 HTY HT HM4 HW4 HX4 HZ4 HK4 c8 HM2 HX3 HZ2 HK2 hlen
      generalize w4.heap.size = bk at *
      have key : ∃ (d1 d2 d3 : ByteArray) (n0 n1 n2 n3 n4 : Nat) (PX : Nat → Prop) (A5 : Option Addr) (c5 : Nat),
       ((∀ x,PX x → x = 0 ∧ ∃ d,Rd.readR s.o ty (r.map Ma.w2) = some d ∧ dv d = ⟨d1,d2,d3,n0,n1,n2,n3,n4⟩) ∨ (∀ x,PX x → x ≠ 0 ∧ Rd.readR s.o ty (r.map Ma.w2) = none)) ∧
       w5.cell? ⟨g,8,none⟩ = some (.slice A5 r.length c5) ∧
       ∀ W,Below w5.heap.size w5 W → Calls Tryz.prog 77 #[.int .u16 ty,.slice A5 r.length c5,sv s.o] W fun e w' => ∃ x : Nat,e = .returned (.tuple #[.agg #[.string d1,.string d2,.string d3,.int .u32 n0,.int .u32 n1,.int .u32 n2,.int .u32 n3,.int .u32 n4],.int .i64 x]) ∧ PX x ∧ Below W.heap.size W w':=by
       obtain ⟨vr,vw,hh5,hw5⟩:=HM5.out.wp
       have hws:=hw5.words2
       obtain ⟨A5,c5,rfl,_,_,hlw,_⟩:=hw5
       have e8 : w5.cell? ⟨g,8,none⟩ = some (.slice A5 r.length c5):=by rw [hh5.cell];rfl
       have hle:=HM5.out.le
       have hga5:=HM5.out.ga
       have hon : Rd.nm (⟨s.o.toArray⟩ : ByteArray).data.toList = true:=by simpa using HS5.out.o
       have hos : (⟨s.o.toArray⟩ : ByteArray).size ≤ 140737488355328:=by rw [mk_size];exact HS5.out.os
       have h32 : ∀ x ∈ r.map Ma.w2,x.1.length < 4294967281:=fun x hx=>by
        obtain ⟨y,hy,rfl⟩:=List.mem_map.1 hx
        have:=hlw y hy
        simp only [Ma.w2]
        omega
       have hW : ∀ W,Below w5.heap.size w5 W → Ws W W.heap.size (.slice A5 r.length c5) (r.map Ma.w2) ∧ Gl W W.heap.size:=fun W hb=>by
        have hz:=hb.size
        exact ⟨(hws.keep (hb.mono (by omega))).more (by omega),((hga5.below (hb.mono (by omega))).more (by omega)).1⟩
       cases hrr : Rd.readR s.o ty (r.map Ma.w2) with
       | some d =>
        refine ⟨(dv d).raw,(dv d).host,(dv d).mail,d.n0,d.n1,d.n2,d.n3,d.n4,fun x=>x = 0,A5,c5,.inl (fun x hx=>⟨hx,d,rfl,rfl⟩),e8,fun W hb=>?_⟩
        refine (rdRead_ok hts hon hos (hW W hb).1 (hW W hb).2 h32 (d:=d) (by simpa using hrr)).mono ?_
        rintro e w' ⟨rfl,B⟩
        exact ⟨0,rfl,rfl,B⟩
       | none =>
        rcases HRD.out with hno | ⟨y,hy⟩
        · refine ⟨⟨#[]⟩,⟨#[]⟩,⟨#[]⟩,0,0,0,0,0,fun x=>x ≠ 0,A5,c5,.inr (fun x hx=>⟨hx,rfl⟩),e8,fun W hb=>?_⟩
          refine (hno ty _ _ _ W hts hon hos (hW W hb).1 (hW W hb).2 h32 (by simpa using hrr)).mono ?_
          rintro e w' ⟨x,hx,rfl,B⟩
          exact ⟨x,rfl,hx,B⟩
        · have h2:=HR2.out
          rw [hrr,hy] at h2
          cases h2
      obtain ⟨d1,d2,d3,n0,n1,n2,n3,n4,PX,A5,c5,hpx,e8,hrc⟩:=key
      have e0 : w5.cell? ⟨g,0,none⟩ = some (sv s.o):=HM5.out.old0.1
      have hon0:=HS5.o
      have HPX:=Lib.hid hpx
      have HRC:=Lib.hid hrc
      have HKP:=Lib.hid (fun (W : World) (hb : Below w5.heap.size w5 W)=>(show (W.cell? ⟨g,8,none⟩ = some (.slice A5 r.length c5) ∧ W.cell? ⟨g,0,none⟩ = some (sv s.o)) ∧ Below w5.heap.size w5 W from ⟨⟨(hb.cell (p:=⟨g,8,none⟩) hsz5).trans e8,(hb.cell (p:=⟨g,0,none⟩) hsz5).trans e0⟩,hb⟩))
      have HN5 : Hid (Has (w5.alloc (.cells #[.string ⟨#[]⟩,.string ⟨#[]⟩,.string ⟨#[]⟩,.int .u32 0,.int .u32 0,.int .u32 0,.int .u32 0,.int .u32 0] 37)).drew w5.heap.size 37 #[.string ⟨#[]⟩,.string ⟨#[]⟩,.string ⟨#[]⟩,.int .u32 0,.int .u32 0,.int .u32 0,.int .u32 0,.int .u32 0]):=Has.fresh w5 _ _
      have hi8 : (Tryz.prog.info? 37).map (·.size) = some 8:=by kernel_rfl
      have HI8:=Lib.hid hi8
      clear hpx hrc HRD HS HS5 hi8
      refine wp_region_noPanic ?_
      refine wp_region_held_drew (S:=(fun W=>(W.cell? ⟨g,8,none⟩ = some (.slice A5 r.length c5) ∧ W.cell? ⟨g,0,none⟩ = some (sv s.o)) ∧ Below w5.heap.size w5 W)) (by kernel_rfl) ?hrx1 (fun hHeld=>?_)
      case hrx1 =>
       try dsimp only
       (first | with_reducible assumption | with_reducible exact HKP.out _ HW6.out | with_reducible exact HKP.out _ (HW6.out.alloc HW6.out.size _) | with_reducible exact HKP.out _ (((Below.refl _ _).alloc (Nat.le_refl _) _).drew) | with_reducible exact HKP.out _ (below_setCells HW6.out (Nat.le_refl _) _ _) | with_reducible exact HKP.out _ (Below.refl _ _).drew)
      refine wpAnyH_take (i:=0) (oi:={ dst:=some 46,op:=Go.Op.move (Go.Operand.tmp 7),type:=34,pos := "read.go:84",after:=#[],guard:=none }) (v:=?vrx2) rfl (by kernel_rfl) (by kernel_rfl) (by kernel_rfl) (fun _ _ _ h=>h) (Or.inl ⟨by rfl,?hrx2⟩) (by assumption) ?_
      case hrx2 =>
       intro w hSw
       try dsimp only at hSw
       go_simp
       try with_reducible rfl
      try simp only [Act.put,List.setIfInBounds_toArray,List.set_cons_zero,List.set_cons_succ]
      refine wpAnyH_take (i:=1) (oi:={ dst:=some 47,op:=Go.Op.move (Go.Operand.tmp 0),type:=94,pos := "read.go:84",after:=#[],guard:=none }) (v:=?vrx3) rfl (by kernel_rfl) (by kernel_rfl) (by kernel_rfl) (fun _ _ _ h=>h) (Or.inl ⟨by rfl,?hrx3⟩) (by assumption) ?_
      case hrx3 =>
       intro w hSw
       try dsimp only at hSw
       go_simp
       try with_reducible rfl
      try simp only [Act.put,List.setIfInBounds_toArray,List.set_cons_zero,List.set_cons_succ]
      refine wpAnyH_take (i:=2) (oi:={ dst:=some 48,op:=Go.Op.nilCheck (Go.Operand.tmp 47),type:=0,pos := "read.go:84",after:=#[{ on:=1,ground:=Go.Ground.data }],guard:=none }) (v:=?vrx4) rfl (by kernel_rfl) (by kernel_rfl) (by kernel_rfl) (fun _ _ _ h=>h) (Or.inl ⟨by rfl,?hrx4⟩) (by assumption) ?_
      case hrx4 =>
       intro w hSw
       try dsimp only at hSw
       go_simp
       try with_reducible rfl
      try simp only [Act.put,List.setIfInBounds_toArray,List.set_cons_zero,List.set_cons_succ]
      refine wpAnyH_take (i:=3) (oi:={ dst:=some 49,op:=Go.Op.fieldAddr 72 (Go.Operand.tmp 48) 5,type:=0,pos := "read.go:84",after:=#[{ on:=2,ground:=Go.Ground.data }],guard:=none }) (v:=?vrx5) rfl (by kernel_rfl) (by kernel_rfl) (by kernel_rfl) (fun _ _ _ h=>h) (Or.inl ⟨by rfl,?hrx5⟩) (by assumption) ?_
      case hrx5 =>
       intro w hSw
       try dsimp only at hSw
       go_simp
       try with_reducible rfl
      try simp only [Act.put,List.setIfInBounds_toArray,List.set_cons_zero,List.set_cons_succ]
      refine wpAnyH_take (i:=4) (oi:={ dst:=some 50,op:=Go.Op.load 70 (Go.Operand.tmp 49),type:=70,pos := "read.go:84",after:=#[{ on:=3,ground:=Go.Ground.data }],guard:=none }) (v:=?vrx6) rfl (by kernel_rfl) (by kernel_rfl) (by kernel_rfl) (fun _ _ _ h=>h) (Or.inl ⟨by rfl,?hrx6⟩) (by assumption) ?_
      case hrx6 =>
       intro w hSw
       try dsimp only at hSw
       go_simp
       try with_reducible rfl
      try simp only [Act.put,List.setIfInBounds_toArray,List.set_cons_zero,List.set_cons_succ]
      refine wpAnyH_take (i:=5) (oi:={ dst:=some 51,op:=Go.Op.move (Go.Operand.tmp 0),type:=94,pos := "read.go:84",after:=#[],guard:=none }) (v:=?vrx7) rfl (by kernel_rfl) (by kernel_rfl) (by kernel_rfl) (fun _ _ _ h=>h) (Or.inl ⟨by rfl,?hrx7⟩) (by assumption) ?_
      case hrx7 =>
       intro w hSw
       try dsimp only at hSw
       go_simp
       try with_reducible rfl
      try simp only [Act.put,List.setIfInBounds_toArray,List.set_cons_zero,List.set_cons_succ]
      refine wpAnyH_take (i:=6) (oi:={ dst:=some 52,op:=Go.Op.nilCheck (Go.Operand.tmp 51),type:=0,pos := "read.go:84",after:=#[{ on:=5,ground:=Go.Ground.data }],guard:=none }) (v:=?vrx8) rfl (by kernel_rfl) (by kernel_rfl) (by kernel_rfl) (fun _ _ _ h=>h) (Or.inl ⟨by rfl,?hrx8⟩) (by assumption) ?_
      case hrx8 =>
       intro w hSw
       try dsimp only at hSw
       go_simp
       try with_reducible rfl
      try simp only [Act.put,List.setIfInBounds_toArray,List.set_cons_zero,List.set_cons_succ]
      refine wpAnyH_take (i:=7) (oi:={ dst:=some 53,op:=Go.Op.fieldAddr 72 (Go.Operand.tmp 52) 0,type:=0,pos := "read.go:84",after:=#[{ on:=6,ground:=Go.Ground.data }],guard:=none }) (v:=?vrx9) rfl (by kernel_rfl) (by kernel_rfl) (by kernel_rfl) (fun _ _ _ h=>h) (Or.inl ⟨by rfl,?hrx9⟩) (by assumption) ?_
      case hrx9 =>
       intro w hSw
       try dsimp only at hSw
       go_simp
       try with_reducible rfl
      try simp only [Act.put,List.setIfInBounds_toArray,List.set_cons_zero,List.set_cons_succ]
      refine wpAnyH_take (i:=8) (oi:={ dst:=some 54,op:=Go.Op.load 22 (Go.Operand.tmp 53),type:=22,pos := "read.go:84",after:=#[{ on:=7,ground:=Go.Ground.data }],guard:=none }) (v:=?vrx10) rfl (by kernel_rfl) (by kernel_rfl) (by kernel_rfl) (fun _ _ _ h=>h) (Or.inl ⟨by rfl,?hrx10⟩) (by assumption) ?_
      case hrx10 =>
       intro w hSw
       try dsimp only at hSw
       go_simp
       try with_reducible rfl
      try simp only [Act.put,List.setIfInBounds_toArray,List.set_cons_zero,List.set_cons_succ]
      refine wpAnyH_ready (rs := [9,13]) (by kernel_rfl) (by simp) ?_
      refine AllReadyH.cons (o:={ dst:=some 55,op:=Go.Op.call { callee:=Go.Callee.value (Go.Operand.func 77),args:=#[Go.Operand.tmp 46,Go.Operand.tmp 50,Go.Operand.tmp 54],argTypes:=#[34,70,22] },type:=133,pos := "read.go:84",after:=#[{ on:=0,ground:=Go.Ground.data },{ on:=4,ground:=Go.Ground.data },{ on:=8,ground:=Go.Ground.data }],guard:=none }) rfl (fun K hK=>?srx11) ?mrx11
      case srx11 =>
       go_simp
       (first | (go_at_call 77;(refine (HRC.out _ (by go_split_ands;assumption)).mono ?_);rintro e W6 ⟨x,rfl,hx,B6⟩;have HW6 : Hid (Below w5.heap.size w5 W6):=(by go_split_ands;exact below_nm rfl (by assumption) B6);have HX6:=Lib.hid hx;first | (have HN6:=Lib.hid (HN5.out.below B6 (by simp));have HT6:=Lib.hid (dat_there HN6.out)) | skip;clear B6 hx) | (refine wp_store_mid 37 (.tmp 9) (.tmp 56) rfl w5.heap.size 0 #[.string d1,.string d2,.string d3,.int .u32 n0,.int .u32 n1,.int .u32 n2,.int .u32 n3,.int .u32 n4] rfl rfl HT6.out HI8.out (by simp [Value.oneCell']) ?_))
       try go_wp2_with fail
       refine hK.out _ _ ?hrx11 (fun hHeld=>?_)
       case hrx11 =>
        try dsimp only
        (first | with_reducible assumption | with_reducible exact HKP.out _ HW6.out | with_reducible exact HKP.out _ (HW6.out.alloc HW6.out.size _) | with_reducible exact HKP.out _ (((Below.refl _ _).alloc (Nat.le_refl _) _).drew) | with_reducible exact HKP.out _ (below_setCells HW6.out (Nat.le_refl _) _ _) | with_reducible exact HKP.out _ (Below.refl _ _).drew)
       clear hK K
       try simp only [Act.put,List.setIfInBounds_toArray,List.set_cons_zero,List.set_cons_succ]
       refine wpAnyH_take (i:=10) (oi:={ dst:=some 45,op:=Go.Op.move (Go.Operand.tmp 55),type:=133,pos := "read.go:84",after:=#[{ on:=9,ground:=Go.Ground.data }],guard:=none }) (v:=?vrx12) rfl (by kernel_rfl) (by kernel_rfl) (by kernel_rfl) (fun _ _ _ h=>h) (Or.inl ⟨by rfl,?hrx12⟩) (by assumption) ?_
       case hrx12 =>
        intro w hSw
        try dsimp only at hSw
        go_simp
        try with_reducible rfl
       try simp only [Act.put,List.setIfInBounds_toArray,List.set_cons_zero,List.set_cons_succ]
       refine wpAnyH_take (i:=11) (oi:={ dst:=some 56,op:=Go.Op.extract (Go.Operand.tmp 45) 0,type:=37,pos := "read.go:84",after:=#[{ on:=10,ground:=Go.Ground.data }],guard:=none }) (v:=?vrx13) rfl (by kernel_rfl) (by kernel_rfl) (by kernel_rfl) (fun _ _ _ h=>h) (Or.inl ⟨by rfl,?hrx13⟩) (by assumption) ?_
       case hrx13 =>
        intro w hSw
        try dsimp only at hSw
        go_simp
        try with_reducible rfl
       try simp only [Act.put,List.setIfInBounds_toArray,List.set_cons_zero,List.set_cons_succ]
       refine wpAnyH_take (i:=12) (oi:={ dst:=some 57,op:=Go.Op.extract (Go.Operand.tmp 45) 1,type:=27,pos := "read.go:84",after:=#[{ on:=10,ground:=Go.Ground.data },{ on:=14,ground:=Go.Ground.gcOnly Go.Departure.lateStores }],guard:=none }) (v:=?vrx14) rfl (by kernel_rfl) (by kernel_rfl) (by kernel_rfl) (fun _ _ _ h=>h) (Or.inl ⟨by rfl,?hrx14⟩) (by assumption) ?_
       case hrx14 =>
        intro w hSw
        try dsimp only at hSw
        go_simp
        try with_reducible rfl
       try simp only [Act.put,List.setIfInBounds_toArray,List.set_cons_zero,List.set_cons_succ]
       refine wpAnyH_ready (rs := [13]) (by kernel_rfl) (by simp) ?_
       refine AllReadyH.cons (o:={ dst:=some 9,op:=Go.Op.alloc 37,type:=0,pos := "read.go:84",after:=#[],guard:=none }) rfl (fun K hK=>?_) AllReadyH.nil
       go_simp
       refine hK.out _ _ ?hrx15 (fun hHeld=>?_)
       case hrx15 =>
        try dsimp only
        (first | with_reducible assumption | with_reducible exact HKP.out _ HW6.out | with_reducible exact HKP.out _ (HW6.out.alloc HW6.out.size _) | with_reducible exact HKP.out _ (((Below.refl _ _).alloc (Nat.le_refl _) _).drew) | with_reducible exact HKP.out _ (below_setCells HW6.out (Nat.le_refl _) _ _) | with_reducible exact HKP.out _ (Below.refl _ _).drew)
       clear hK K
       try simp only [Act.put,List.setIfInBounds_toArray,List.set_cons_zero,List.set_cons_succ]
       refine wpAnyH_ready (rs := [14]) (by kernel_rfl) (by simp) ?_
       refine AllReadyH.cons (o:={ dst:=none,op:=Go.Op.store 37 (Go.Operand.tmp 9) (Go.Operand.tmp 56),type:=0,pos := "read.go:84",after:=#[{ on:=13,ground:=Go.Ground.data },{ on:=11,ground:=Go.Ground.data },{ on:=9,ground:=Go.Ground.chain },{ on:=0,ground:=Go.Ground.phase },{ on:=1,ground:=Go.Ground.phase },{ on:=2,ground:=Go.Ground.phase },{ on:=3,ground:=Go.Ground.phase },{ on:=4,ground:=Go.Ground.phase },{ on:=5,ground:=Go.Ground.phase },{ on:=6,ground:=Go.Ground.phase },{ on:=7,ground:=Go.Ground.phase },{ on:=8,ground:=Go.Ground.phase },{ on:=9,ground:=Go.Ground.phase },{ on:=10,ground:=Go.Ground.phase },{ on:=11,ground:=Go.Ground.phase },{ on:=12,ground:=Go.Ground.textOnly Go.Departure.lateStores },{ on:=13,ground:=Go.Ground.phase }],guard:=none }) rfl (fun K hK=>?_) AllReadyH.nil
       go_simp
       refine hK.out _ _ ?hrx16 (fun hHeld=>?_)
       case hrx16 =>
        try dsimp only
        (first | with_reducible assumption | with_reducible exact HKP.out _ HW6.out | with_reducible exact HKP.out _ (HW6.out.alloc HW6.out.size _) | with_reducible exact HKP.out _ (((Below.refl _ _).alloc (Nat.le_refl _) _).drew) | with_reducible exact HKP.out _ (below_setCells HW6.out (Nat.le_refl _) _ _) | with_reducible exact HKP.out _ (Below.refl _ _).drew)
       clear hK K
       try simp only [Act.put,List.setIfInBounds_toArray,List.set_cons_zero,List.set_cons_succ]
       refine wpAnyH_take (i:=15) (oi:={ dst:=some 10,op:=Go.Op.assign (Go.Operand.tmp 57),type:=27,pos := "read.go:84",after:=#[{ on:=12,ground:=Go.Ground.data },{ on:=14,ground:=Go.Ground.chain },{ on:=0,ground:=Go.Ground.phase },{ on:=1,ground:=Go.Ground.phase },{ on:=2,ground:=Go.Ground.phase },{ on:=3,ground:=Go.Ground.phase },{ on:=4,ground:=Go.Ground.phase },{ on:=5,ground:=Go.Ground.phase },{ on:=6,ground:=Go.Ground.phase },{ on:=7,ground:=Go.Ground.phase },{ on:=8,ground:=Go.Ground.phase },{ on:=9,ground:=Go.Ground.phase },{ on:=10,ground:=Go.Ground.phase },{ on:=11,ground:=Go.Ground.phase },{ on:=12,ground:=Go.Ground.phase },{ on:=13,ground:=Go.Ground.phase },{ on:=14,ground:=Go.Ground.phase }],guard:=none }) (v:=?vrx17) rfl (by kernel_rfl) (by kernel_rfl) (by kernel_rfl) (fun _ _ _ h=>h) (Or.inl ⟨by rfl,?hrx17⟩) (by assumption) ?_
       case hrx17 =>
        intro w hSw
        try dsimp only at hSw
        go_simp
        try with_reducible rfl
       try simp only [Act.put,List.setIfInBounds_toArray,List.set_cons_zero,List.set_cons_succ]
       refine wpAnyH_done (by kernel_rfl) ?_ _
       refine NoPanic.normal ?_
       have hD : Has (W6.alloc (.cells #[.string d1,.string d2,.string d3,.int .u32 n0,.int .u32 n1,.int .u32 n2,.int .u32 n3,.int .u32 n4] 37)) W6.heap.size 37 #[.string d1,.string d2,.string d3,.int .u32 n0,.int .u32 n1,.int .u32 n2,.int .u32 n3,.int .u32 n4]:=Has.fresh W6 _ _
       have hB : Below w5.heap.size w5 (W6.alloc (.cells #[.string d1,.string d2,.string d3,.int .u32 n0,.int .u32 n1,.int .u32 n2,.int .u32 n3,.int .u32 n4] 37)):=HW6.out.alloc HW6.out.size _
       have hyy : w5.heap.size ≤ W6.heap.size:=HW6.out.size
       generalize W6.alloc (.cells #[.string d1,.string d2,.string d3,.int .u32 n0,.int .u32 n1,.int .u32 n2,.int .u32 n3,.int .u32 n4] 37) = W7 at *
       generalize W6.heap.size = y at *
       have HM7:=Lib.hid (HM5.out.keep hB)
       have HW7:=Lib.hid (HW5.out.below hB HW5.out.lt)
       have HX7:=Lib.hid (HX5.out.below hB HX5.out.lt)
       have HZ7:=Lib.hid (HZ5.out.below hB HZ5.out.lt)
       have HK7:=Lib.hid (HK5.out.onB hB)
       have HD7:=Lib.hid hD
       have HL7 : Hid (LayR W7):=HM7.out.ga.1.2.1
       have hbxl : bx < W7.heap.size:=HX7.out.lt
       have hi12 : (Tryz.prog.info? 39).map (·.size) = some 12:=by kernel_rfl
       have HIR:=Lib.hid hi12
       clear hi12 hD hB e8 e0 HRC HKP HN5
       rcases HPX.out with hp | hp
       · obtain ⟨hx0,d,hrd,hdv⟩:=hp x HX6.out
         subst hx0
         have hR3:=HR2.out
         rw [hrd] at hR3
         have hsm:=Rd.readR_small hon0 hrd
         have HF : Hid (∀ W,LayR W → Calls Tryz.prog 33 #[.int .u16 ty,.agg #[.string d1,.string d2,.string d3,.int .u32 n0,.int .u32 n1,.int .u32 n2,.int .u32 n3,.int .u32 n4]] W fun e w' => e = .returned (.agg (dv (Rd.foldD ty d)).cells) ∧ Below W.heap.size W w'):=fun W hL=>by
          have h:=pdFold_any ty (dv d) W hts hL (by show (⟨d.host.toArray⟩ : ByteArray).size ≤ _;rw [mk_size];omega) (by show (⟨d.mail.toArray⟩ : ByteArray).size ≤ _;rw [mk_size];omega)
          rw [dv_fold,hdv] at h
          exact h
         subst hR3
         clear hp HPX HR2 hsm hrd hdv hon0
         go_wp2_with (first
          | (refine wpList_load_row rfl 37 (.tmp 9) rfl y rfl 37 #[.string d1,.string d2,.string d3,.int .u32 n0,.int .u32 n1,.int .u32 n2,.int .u32 n3,.int .u32 n4] (0,0) _ HD7.out Tryz.underlying37 rfl HI8.out ?_)
          | (go_at_call 33;refine (HF.out _ HL7.out).mono ?_;rintro e W8 ⟨rfl,B8⟩;have HX8:=Lib.hid (HX7.out.below B8 hbxl);have c1 : W8.cell? ⟨bx,1,none⟩ = some (.int .u16 0):=HX8.out.cell 1;have f1:=HX8.out.free 1;have HX9 : Hid (Has (W8.setCell ⟨bx,1,none⟩ (.int .u16 ty)) bx 39 (⟨⟨n.toArray⟩,ty,1,t,dv Rd.dt0⟩ : Rv).cells):=HX8.out.set 1 (.int .u16 ty);have HT9:=Lib.hid (rec_there HX9.out 4 8 (Nat.le_refl 12));have HX10 : Hid (Has ((W8.setCell ⟨bx,1,none⟩ (.int .u16 ty)).setCells bx 4 (dv (Rd.foldD ty d)).cells.toList) bx 39 (rvOf (⟨n,ty,t,Rd.foldD ty d⟩ : Ma.Rc)).cells):=ma_set_data HX9.out _;have HZ10:=Lib.hid (((HZ7.out.below B8 HZ7.out.lt).far (p:=⟨bx,1,none⟩) hz1 (.int .u16 ty)).farCells (g':=bx) hz1 (dv (Rd.foldD ty d)).cells.toList 4);have HM10:=Lib.hid ((HM7.out.keep B8).keepB (below_setCells (below_set_ge W8 ⟨bx,1,none⟩ hb1 (.int .u16 ty)) hb1 4 (dv (Rd.foldD ty d)).cells.toList));have HK10:=Lib.hid ((HK7.out.onB B8).trans (Kb.of_below (below_setCells (below_set_ge W8 ⟨bx,1,none⟩ hwb (.int .u16 ty)) hwb 4 (dv (Rd.foldD ty d)).cells.toList)));clear B8)
          | (refine wpList_store_mid rfl 37 (.tmp 67) (.tmp 65) rfl bx 4 (dv (Rd.foldD ty d)).cells rfl rfl HT9.out HI8.out (by simp [Dv.cells,Value.oneCell']) ?_;revert HX10 HZ10 HM10 HK10;generalize World.setCells (W8.setCell ⟨bx,1,none⟩ (.int .u16 ty)) bx 4 (dv (Rd.foldD ty d)).cells.toList = W10;intro HX10 HZ10 HM10 HK10;clear c1 f1 HX8 HX9 HT9;rename_i K0 A0;refine wpList_nil ?_;change K0 _ _;refine A0 _ _ ?_;clear A0;go_wp2_with (first | (refine wpList_load_row rfl 39 (.tmp 5) rfl bx rfl 39 (rvOf (⟨n,ty,t,Rd.foldD ty d⟩ : Ma.Rc)).cells (0,0) _ HX10.out Tryz.underlying39 rfl HIR.out ?_) | (refine wpList_store_row rfl 39 (.tmp 4) (.tmp 68) rfl w.heap.size (rvOf (⟨n,ty,t,Rd.foldD ty d⟩ : Ma.Rc)).cells rfl rfl 39 _ HZ10.out HIR.out rfl (by simp [rvOf,Rv.cells,Value.oneCell']) ?_))))
         refine bodyPost_ret (results_cell_row rfl _ _ w.heap.size 39 (rvOf (⟨n,ty,t,Rd.foldD ty d⟩ : Ma.Rc)).cells (0,0) _ rfl (HZ10.out.row _) Tryz.underlying39 rfl HIR.out) rfl ?_
         exact ⟨rfl,⟨r,HM10.out.keepB (below_setRow (Below.refl _ _) htop.2 _)⟩,HK10.out.trans (Kb.of_below (below_setRow (Below.refl _ _) (Nat.le_refl _) _))⟩
       · obtain ⟨hx0,hrd⟩:=hp x HX6.out
         have hR3:=HR2.out
         rw [hrd] at hR3
         subst hR3
         have hxi : ((x : Int) != 0) = true:=bne_iff_ne.2 (by omega)
         clear hp HPX HR2 hrd hon0
         go_wp2_with (first
          | (refine wpList_load_row rfl 69 (.tmp 6) rfl bk rfl 69 #[sv kt,.bool false,.int .i64 kl,.int .i64 kc] (0,0) _ HW7.out Tryz.underlying69 rfl HI.out ?_)
          | (go_at_call 40;refine (HG.out ⟨kt,false,kl,kc⟩ 41 _).mono ?_;rintro e w9 ⟨rfl,BG⟩;exact ⟨rfl,⟨rfl,(HK7.out.below (Nat.le_of_lt hgw)).trans (BG.mono (Nat.le_of_lt HM7.out.lt))⟩⟩))
      refine AllReadyH.cons (o:={ dst:=some 9,op:=Go.Op.alloc 37,type:=0,pos := "read.go:84",after:=#[],guard:=none }) rfl (fun K hK=>?_) AllReadyH.nil
      go_simp
      refine hK.out _ _ ?hrx18 (fun hHeld=>?_)
      case hrx18 =>
       try dsimp only
       (first | with_reducible assumption | with_reducible exact HKP.out _ HW6.out | with_reducible exact HKP.out _ (HW6.out.alloc HW6.out.size _) | with_reducible exact HKP.out _ (((Below.refl _ _).alloc (Nat.le_refl _) _).drew) | with_reducible exact HKP.out _ (below_setCells HW6.out (Nat.le_refl _) _ _) | with_reducible exact HKP.out _ (Below.refl _ _).drew)
      clear hK K
      try simp only [Act.put,List.setIfInBounds_toArray,List.set_cons_zero,List.set_cons_succ]
      refine wpAnyH_ready (rs := [9]) (by kernel_rfl) (by simp) ?_
      refine AllReadyH.cons (o:={ dst:=some 55,op:=Go.Op.call { callee:=Go.Callee.value (Go.Operand.func 77),args:=#[Go.Operand.tmp 46,Go.Operand.tmp 50,Go.Operand.tmp 54],argTypes:=#[34,70,22] },type:=133,pos := "read.go:84",after:=#[{ on:=0,ground:=Go.Ground.data },{ on:=4,ground:=Go.Ground.data },{ on:=8,ground:=Go.Ground.data }],guard:=none }) rfl (fun K hK=>?_) AllReadyH.nil
      go_simp
      (first | (go_at_call 77;(refine (HRC.out _ (by go_split_ands;assumption)).mono ?_);rintro e W6 ⟨x,rfl,hx,B6⟩;have HW6 : Hid (Below w5.heap.size w5 W6):=(by go_split_ands;exact below_nm rfl (by assumption) B6);have HX6:=Lib.hid hx;first | (have HN6:=Lib.hid (HN5.out.below B6 (by simp));have HT6:=Lib.hid (dat_there HN6.out)) | skip;clear B6 hx) | (refine wp_store_mid 37 (.tmp 9) (.tmp 56) rfl w5.heap.size 0 #[.string d1,.string d2,.string d3,.int .u32 n0,.int .u32 n1,.int .u32 n2,.int .u32 n3,.int .u32 n4] rfl rfl HT6.out HI8.out (by simp [Value.oneCell']) ?_))
      try go_wp2_with fail
      refine hK.out _ _ ?hrx19 (fun hHeld=>?_)
      case hrx19 =>
       try dsimp only
       (first | with_reducible assumption | with_reducible exact HKP.out _ HW6.out | with_reducible exact HKP.out _ (HW6.out.alloc HW6.out.size _) | with_reducible exact HKP.out _ (((Below.refl _ _).alloc (Nat.le_refl _) _).drew) | with_reducible exact HKP.out _ (below_setCells HW6.out (Nat.le_refl _) _ _) | with_reducible exact HKP.out _ (Below.refl _ _).drew)
      clear hK K
      try simp only [Act.put,List.setIfInBounds_toArray,List.set_cons_zero,List.set_cons_succ]
      refine wpAnyH_take (i:=10) (oi:={ dst:=some 45,op:=Go.Op.move (Go.Operand.tmp 55),type:=133,pos := "read.go:84",after:=#[{ on:=9,ground:=Go.Ground.data }],guard:=none }) (v:=?vrx20) rfl (by kernel_rfl) (by kernel_rfl) (by kernel_rfl) (fun _ _ _ h=>h) (Or.inl ⟨by rfl,?hrx20⟩) (by assumption) ?_
      case hrx20 =>
       intro w hSw
       try dsimp only at hSw
       go_simp
       try with_reducible rfl
      try simp only [Act.put,List.setIfInBounds_toArray,List.set_cons_zero,List.set_cons_succ]
      refine wpAnyH_take (i:=11) (oi:={ dst:=some 56,op:=Go.Op.extract (Go.Operand.tmp 45) 0,type:=37,pos := "read.go:84",after:=#[{ on:=10,ground:=Go.Ground.data }],guard:=none }) (v:=?vrx21) rfl (by kernel_rfl) (by kernel_rfl) (by kernel_rfl) (fun _ _ _ h=>h) (Or.inl ⟨by rfl,?hrx21⟩) (by assumption) ?_
      case hrx21 =>
       intro w hSw
       try dsimp only at hSw
       go_simp
       try with_reducible rfl
      try simp only [Act.put,List.setIfInBounds_toArray,List.set_cons_zero,List.set_cons_succ]
      refine wpAnyH_take (i:=12) (oi:={ dst:=some 57,op:=Go.Op.extract (Go.Operand.tmp 45) 1,type:=27,pos := "read.go:84",after:=#[{ on:=10,ground:=Go.Ground.data },{ on:=14,ground:=Go.Ground.gcOnly Go.Departure.lateStores }],guard:=none }) (v:=?vrx22) rfl (by kernel_rfl) (by kernel_rfl) (by kernel_rfl) (fun _ _ _ h=>h) (Or.inl ⟨by rfl,?hrx22⟩) (by assumption) ?_
      case hrx22 =>
       intro w hSw
       try dsimp only at hSw
       go_simp
       try with_reducible rfl
      try simp only [Act.put,List.setIfInBounds_toArray,List.set_cons_zero,List.set_cons_succ]
      refine wpAnyH_ready (rs := [14]) (by kernel_rfl) (by simp) ?_
      refine AllReadyH.cons (o:={ dst:=none,op:=Go.Op.store 37 (Go.Operand.tmp 9) (Go.Operand.tmp 56),type:=0,pos := "read.go:84",after:=#[{ on:=13,ground:=Go.Ground.data },{ on:=11,ground:=Go.Ground.data },{ on:=9,ground:=Go.Ground.chain },{ on:=0,ground:=Go.Ground.phase },{ on:=1,ground:=Go.Ground.phase },{ on:=2,ground:=Go.Ground.phase },{ on:=3,ground:=Go.Ground.phase },{ on:=4,ground:=Go.Ground.phase },{ on:=5,ground:=Go.Ground.phase },{ on:=6,ground:=Go.Ground.phase },{ on:=7,ground:=Go.Ground.phase },{ on:=8,ground:=Go.Ground.phase },{ on:=9,ground:=Go.Ground.phase },{ on:=10,ground:=Go.Ground.phase },{ on:=11,ground:=Go.Ground.phase },{ on:=12,ground:=Go.Ground.textOnly Go.Departure.lateStores },{ on:=13,ground:=Go.Ground.phase }],guard:=none }) rfl (fun K hK=>?_) AllReadyH.nil
      (first | (go_at_call 77;(refine (HRC.out _ (by go_split_ands;assumption)).mono ?_);rintro e W6 ⟨x,rfl,hx,B6⟩;have HW6 : Hid (Below w5.heap.size w5 W6):=(by go_split_ands;exact below_nm rfl (by assumption) B6);have HX6:=Lib.hid hx;first | (have HN6:=Lib.hid (HN5.out.below B6 (by simp));have HT6:=Lib.hid (dat_there HN6.out)) | skip;clear B6 hx) | (refine wp_store_mid 37 (.tmp 9) (.tmp 56) rfl w5.heap.size 0 #[.string d1,.string d2,.string d3,.int .u32 n0,.int .u32 n1,.int .u32 n2,.int .u32 n3,.int .u32 n4] rfl rfl HT6.out HI8.out (by simp [Value.oneCell']) ?_))
      refine hK.out _ _ ?hrx23 (fun hHeld=>?_)
      case hrx23 =>
       exact HKP.out _ (below_setCells HW6.out (Nat.le_refl _) _ _)
      clear hK K
      try simp only [Act.put,List.setIfInBounds_toArray,List.set_cons_zero,List.set_cons_succ]
      refine wpAnyH_take (i:=15) (oi:={ dst:=some 10,op:=Go.Op.assign (Go.Operand.tmp 57),type:=27,pos := "read.go:84",after:=#[{ on:=12,ground:=Go.Ground.data },{ on:=14,ground:=Go.Ground.chain },{ on:=0,ground:=Go.Ground.phase },{ on:=1,ground:=Go.Ground.phase },{ on:=2,ground:=Go.Ground.phase },{ on:=3,ground:=Go.Ground.phase },{ on:=4,ground:=Go.Ground.phase },{ on:=5,ground:=Go.Ground.phase },{ on:=6,ground:=Go.Ground.phase },{ on:=7,ground:=Go.Ground.phase },{ on:=8,ground:=Go.Ground.phase },{ on:=9,ground:=Go.Ground.phase },{ on:=10,ground:=Go.Ground.phase },{ on:=11,ground:=Go.Ground.phase },{ on:=12,ground:=Go.Ground.phase },{ on:=13,ground:=Go.Ground.phase },{ on:=14,ground:=Go.Ground.phase }],guard:=none }) (v:=?vrx24) rfl (by kernel_rfl) (by kernel_rfl) (by kernel_rfl) (fun _ _ _ h=>h) (Or.inl ⟨by rfl,?hrx24⟩) (by with_reducible assumption) ?_
      case hrx24 =>
       intro w hSw
       try dsimp only at hSw
       go_simp
       try with_reducible rfl
      try simp only [Act.put,List.setIfInBounds_toArray,List.set_cons_zero,List.set_cons_succ]
      refine wpAnyH_done (by kernel_rfl) ?_ _
      refine NoPanic.normal ?_
      have hD : Has (W6.setCells w5.heap.size 0 (#[.string d1,.string d2,.string d3,.int .u32 n0,.int .u32 n1,.int .u32 n2,.int .u32 n3,.int .u32 n4] : Array Value).toList) w5.heap.size 37 #[.string d1,.string d2,.string d3,.int .u32 n0,.int .u32 n1,.int .u32 n2,.int .u32 n3,.int .u32 n4]:=ma_set_all HN6.out rfl
      have hB : Below w5.heap.size w5 (W6.setCells w5.heap.size 0 (#[.string d1,.string d2,.string d3,.int .u32 n0,.int .u32 n1,.int .u32 n2,.int .u32 n3,.int .u32 n4] : Array Value).toList):=below_setCells HW6.out (Nat.le_refl _) _ _
      generalize W6.setCells w5.heap.size 0 (#[.string d1,.string d2,.string d3,.int .u32 n0,.int .u32 n1,.int .u32 n2,.int .u32 n3,.int .u32 n4] : Array Value).toList = W7 at *
      have hyy : w5.heap.size ≤ w5.heap.size:=Nat.le_refl _
      obtain ⟨y,hyd⟩ : ∃ y,y = w5.heap.size:=⟨_,rfl⟩
      rw [← hyd] at hD
      replace hyy : w5.heap.size ≤ y:=by rw [hyd];exact Nat.le_refl _
      simp only [← hyd]
      have HM7:=Lib.hid (HM5.out.keep hB)
      have HW7:=Lib.hid (HW5.out.below hB HW5.out.lt)
      have HX7:=Lib.hid (HX5.out.below hB HX5.out.lt)
      have HZ7:=Lib.hid (HZ5.out.below hB HZ5.out.lt)
      have HK7:=Lib.hid (HK5.out.onB hB)
      have HD7:=Lib.hid hD
      have HL7 : Hid (LayR W7):=HM7.out.ga.1.2.1
      have hbxl : bx < W7.heap.size:=HX7.out.lt
      have hi12 : (Tryz.prog.info? 39).map (·.size) = some 12:=by kernel_rfl
      have HIR:=Lib.hid hi12
      clear hi12 hD hB e8 e0 HRC HKP HN5
      rcases HPX.out with hp | hp
      · obtain ⟨hx0,d,hrd,hdv⟩:=hp x HX6.out
        subst hx0
        have hR3:=HR2.out
        rw [hrd] at hR3
        have hsm:=Rd.readR_small hon0 hrd
        have HF : Hid (∀ W,LayR W → Calls Tryz.prog 33 #[.int .u16 ty,.agg #[.string d1,.string d2,.string d3,.int .u32 n0,.int .u32 n1,.int .u32 n2,.int .u32 n3,.int .u32 n4]] W fun e w' => e = .returned (.agg (dv (Rd.foldD ty d)).cells) ∧ Below W.heap.size W w'):=fun W hL=>by
         have h:=pdFold_any ty (dv d) W hts hL (by show (⟨d.host.toArray⟩ : ByteArray).size ≤ _;rw [mk_size];omega) (by show (⟨d.mail.toArray⟩ : ByteArray).size ≤ _;rw [mk_size];omega)
         rw [dv_fold,hdv] at h
         exact h
        subst hR3
        clear hp HPX HR2 hsm hrd hdv hon0
        go_wp2_with (first
         | (refine wpList_load_row rfl 37 (.tmp 9) rfl y rfl 37 #[.string d1,.string d2,.string d3,.int .u32 n0,.int .u32 n1,.int .u32 n2,.int .u32 n3,.int .u32 n4] (0,0) _ HD7.out Tryz.underlying37 rfl HI8.out ?_)
         | (go_at_call 33;refine (HF.out _ HL7.out).mono ?_;rintro e W8 ⟨rfl,B8⟩;have HX8:=Lib.hid (HX7.out.below B8 hbxl);have c1 : W8.cell? ⟨bx,1,none⟩ = some (.int .u16 0):=HX8.out.cell 1;have f1:=HX8.out.free 1;have HX9 : Hid (Has (W8.setCell ⟨bx,1,none⟩ (.int .u16 ty)) bx 39 (⟨⟨n.toArray⟩,ty,1,t,dv Rd.dt0⟩ : Rv).cells):=HX8.out.set 1 (.int .u16 ty);have HT9:=Lib.hid (rec_there HX9.out 4 8 (Nat.le_refl 12));have HX10 : Hid (Has ((W8.setCell ⟨bx,1,none⟩ (.int .u16 ty)).setCells bx 4 (dv (Rd.foldD ty d)).cells.toList) bx 39 (rvOf (⟨n,ty,t,Rd.foldD ty d⟩ : Ma.Rc)).cells):=ma_set_data HX9.out _;have HZ10:=Lib.hid (((HZ7.out.below B8 HZ7.out.lt).far (p:=⟨bx,1,none⟩) hz1 (.int .u16 ty)).farCells (g':=bx) hz1 (dv (Rd.foldD ty d)).cells.toList 4);have HM10:=Lib.hid ((HM7.out.keep B8).keepB (below_setCells (below_set_ge W8 ⟨bx,1,none⟩ hb1 (.int .u16 ty)) hb1 4 (dv (Rd.foldD ty d)).cells.toList));have HK10:=Lib.hid ((HK7.out.onB B8).trans (Kb.of_below (below_setCells (below_set_ge W8 ⟨bx,1,none⟩ hwb (.int .u16 ty)) hwb 4 (dv (Rd.foldD ty d)).cells.toList)));clear B8)
         | (refine wpList_store_mid rfl 37 (.tmp 67) (.tmp 65) rfl bx 4 (dv (Rd.foldD ty d)).cells rfl rfl HT9.out HI8.out (by simp [Dv.cells,Value.oneCell']) ?_;revert HX10 HZ10 HM10 HK10;generalize World.setCells (W8.setCell ⟨bx,1,none⟩ (.int .u16 ty)) bx 4 (dv (Rd.foldD ty d)).cells.toList = W10;intro HX10 HZ10 HM10 HK10;clear c1 f1 HX8 HX9 HT9;rename_i K0 A0;refine wpList_nil ?_;change K0 _ _;refine A0 _ _ ?_;clear A0;go_wp2_with (first | (refine wpList_load_row rfl 39 (.tmp 5) rfl bx rfl 39 (rvOf (⟨n,ty,t,Rd.foldD ty d⟩ : Ma.Rc)).cells (0,0) _ HX10.out Tryz.underlying39 rfl HIR.out ?_) | (refine wpList_store_row rfl 39 (.tmp 4) (.tmp 68) rfl w.heap.size (rvOf (⟨n,ty,t,Rd.foldD ty d⟩ : Ma.Rc)).cells rfl rfl 39 _ HZ10.out HIR.out rfl (by simp [rvOf,Rv.cells,Value.oneCell']) ?_))))
        refine bodyPost_ret (results_cell_row rfl _ _ w.heap.size 39 (rvOf (⟨n,ty,t,Rd.foldD ty d⟩ : Ma.Rc)).cells (0,0) _ rfl (HZ10.out.row _) Tryz.underlying39 rfl HIR.out) rfl ?_
        exact ⟨rfl,⟨r,HM10.out.keepB (below_setRow (Below.refl _ _) htop.2 _)⟩,HK10.out.trans (Kb.of_below (below_setRow (Below.refl _ _) (Nat.le_refl _) _))⟩
      · obtain ⟨hx0,hrd⟩:=hp x HX6.out
        have hR3:=HR2.out
        rw [hrd] at hR3
        subst hR3
        have hxi : ((x : Int) != 0) = true:=bne_iff_ne.2 (by omega)
        clear hp HPX HR2 hrd hon0
        go_wp2_with (first
         | (refine wpList_load_row rfl 69 (.tmp 6) rfl bk rfl 69 #[sv kt,.bool false,.int .i64 kl,.int .i64 kc] (0,0) _ HW7.out Tryz.underlying69 rfl HI.out ?_)
         | (go_at_call 40;refine (HG.out ⟨kt,false,kl,kc⟩ 41 _).mono ?_;rintro e w9 ⟨rfl,BG⟩;exact ⟨rfl,⟨rfl,(HK7.out.below (Nat.le_of_lt hgw)).trans (BG.mono (Nat.le_of_lt HM7.out.lt))⟩⟩))
end
end Go.Proofs.YtekafhogiambaaaGreatDoor
