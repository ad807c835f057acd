/- Texts of the proofs, merged. -/
import Derived.Test.YtekafhogiambaaaGreatDoorZc38
import Derived.Test.YtekafhogiambaaaGreatDoorZc2
import Derived.Test.YtekafhogiambaaaGreatDoorZc41
import Derived.Test.YtekafhogiambaaaGreatDoorZc37
import Derived.Test.YtekafhogiambaaaGreatDoorZc40
import Derived.Test.YtekafhogiambaaaGreatDoorZc3
import Derived.Shelf.Strings.Builder1
set_option maxRecDepth 100000
namespace Go.Proofs.YtekafhogiambaaaGreatDoor.Mb
open Rd (By)
theorem small_small (c : UInt8) : Nm.small (Nm.small c) = Nm.small c:=by
 have h1:=Nm.small_val c
 have h2:=Nm.small_val (Nm.small c)
 refine UInt8.toNat_inj.1 ?_
 rw [h2]
 by_cases h : 65 ≤ c.toNat ∧ c.toNat ≤ 90
 · rw [if_pos h] at h1
   rw [if_neg (by omega)]
 · rw [if_neg h] at h1
   rw [if_neg (by omega)]
theorem fold_fold (s : By) : Nm.fold (Nm.fold s) = Nm.fold s:=by simp [Nm.fold,small_small,Function.comp_def]
theorem foldD_fold (t : Nat) (d : Rd.Dt) : Rd.foldD t (Rd.foldD t d) = Rd.foldD t d:=by
 unfold Rd.foldD
 cases h1 : Rd.isHost t <;> cases h2 : Rd.isMail t <;> simp [fold_fold]
theorem dt_fold (t : Nat) (d : Dv) : (d.fold t).dt = Rd.foldD t d.dt:=by
 unfold Dv.fold Rd.foldD Dv.dt
 cases h1 : Rd.isHost t <;> cases h2 : Rd.isMail t <;> simp
theorem readR_other {o : By} {t : Nat} {ws : List Rd.W2} (h : ∀ x r,ws = x :: r → ¬ (x.1 = [92,35] ∧ x.2 = false)) : Rd.readR o t ws = Rd.knownR o t ws:=by
 cases ws with
 | nil=>rfl
 | cons x r =>
  unfold Rd.readR
  simp only [h x r rfl,if_false]
theorem readR_tell {t : Nat} {d : Dv} {o : By} (ho : Rd.nm o = true) (hf : d.fits) (h : Rd.ok t d.dt = true) : Rd.readR o t (Rd.tellQ d.dt (txs d) (Rd.parts t) 0) = some d.dt:=by
 have hN : ∀ i,Rd.hasN d.dt i ≤ 4294967295:=fun i=>by
  match i with
  | 0=>exact hf 0
  | 1=>exact hf 1
  | 2=>exact hf 2
  | 3=>exact hf 3
  | _ + 4=>exact hf 4
 by_cases hp : Rd.parts t = [4,0,0,0,0,0,0]
 · have hraw : d.dt.raw.length ≤ 65535:=ok_raw h
   obtain ⟨r,h1,h2⟩:=Rd.any_tell (ls:=txs d) (n:=0) hraw
   have e : Rd.tellQ d.dt (txs d) [4,0,0,0,0,0,0] 0 = Rd.pcsQ d.dt (txs d) 0 4:=by simp [Rd.tellQ,Rd.pcsQ]
   rw [hp,e,h1]
   unfold Rd.readR
   simp only [and_self,if_true]
   rw [h2,Option.bind_some,Rd.takeR_raw hp hraw]
   rw [Rd.ok_parts,Bool.and_eq_true,hp] at h
   have hb:=h.2
   generalize d.dt = q at *
   obtain ⟨qr,qh,qm,q0,q1,q2,q3,q4⟩:=q
   simp [Rd.bare,Rd.hasRaw,Rd.hasHost,Rd.hasMail,Rd.nums] at hb
   simp [hb]
 · rw [readR_other (Rd.first_no d.dt (txs d) hp)]
   refine Rd.known_tell2 ho hN (fun h16=>?_) h hp
   subst h16
   obtain ⟨n,hn⟩:=fit_of h (p:=3) (by decide)
   exact (fit3 hn).1
theorem shS_tell (t : Nat) (d : Dv) (ls : List By) : shS t d ls = Rd.joinB 32 ((Rd.tellQ d.dt ls (Rd.parts t) 0).map Rd.wdB):=by
 rw [← sh_eq,wds_tell,join_sp,← Rd.joinB_drop]
theorem parts_head (t : Nat) : ∃ p ps,Rd.parts t = p :: ps ∧ p ≠ 0 ∧ p ≤ 9:=by
 refine Rd.by_type (P:=fun t => ∃ p ps,Rd.parts t = p :: ps ∧ p ≠ 0 ∧ p ≤ 9) ?_ ?_ ?_ ?_ ?_ ?_ ?_ ?_ ?_ (fun t a b c d e f g h i=>⟨4,_,Rd.parts_other a b c d e f g h i,by decide,by decide⟩) t
 all_goals exact ⟨_,_,rfl,by decide,by decide⟩
theorem tell_some {t : Nat} {d : Dv} (h : Rd.ok t d.dt = true) : ∃ x r,Rd.tellQ d.dt (txs d) (Rd.parts t) 0 = x :: r:=by
 obtain ⟨p,ps,e,h0,h9⟩:=parts_head t
 rw [e,Rd.tellQ]
 have : ∃ x r,Rd.pcsQ d.dt (txs d) 0 p = x :: r:=by
  unfold Rd.pcsQ
  rcases (by omega : p = 1 ∨ p = 2 ∨ p = 3 ∨ p = 4 ∨ p = 5 ∨ p = 6 ∨ p = 7 ∨ p = 8 ∨ p = 9) with rfl | rfl | rfl | rfl | rfl | rfl | rfl | rfl | rfl
  case inr.inr.inl =>
   obtain ⟨n,hn⟩:=fit_of h (p:=3) (by rw [e];simp)
   have h1:=(fit3 hn).2
   cases hl : txs d with
   | nil=>exact absurd hl h1
   | cons a l=>exact ⟨_,_,rfl⟩
  all_goals exact ⟨_,_,rfl⟩
 obtain ⟨x,r,e2⟩:=this
 exact ⟨x,r ++ _,by rw [e2];rfl⟩
def rw_ (r : Rv) : List (By × Bool):=Tk.recW (Nm.fold r.nm.data.toList) r.ttl r.ty (r.d.fold r.ty).dt (txs (r.d.fold r.ty))
theorem lineL_words {r : Rv} (h : Rd.ok r.ty r.d.dt = true) : Mp.lineL r = Tk.lineB (rw_ r):=by
 have hk : Rd.ok r.ty (r.d.fold r.ty).dt = true:=by rw [Rd.ok_fold];exact h
 obtain ⟨x,l,e⟩:=tell_some hk
 unfold Mp.lineL Mp.words Tk.lineB rw_ Tk.recW
 rw [shS_tell,e,Mp.join5]
 simp [Rd.joinB,Rd.wdB]
theorem headL_words (o : By) : Mp.headL o = Tk.lineB (Tk.orgW (Nm.fold o)):=by
 unfold Mp.headL Tk.lineB Tk.orgW
 simp [Rd.joinB,Rd.wdB]
def rcOf (r : Rv) : Ma.Rc:=⟨Nm.fold r.nm.data.toList,r.ty,r.ttl,Rd.foldD r.ty r.d.dt⟩
def Pr (r : Rv) : Prop:=r.ty ≤ 65535 ∧ r.d.fits ∧ Mp.okL r = 0
theorem fits_fold {d : Dv} (h : d.fits) (t : Nat) : (d.fold t).fits:=by
 intro k
 have:=h k
 unfold Dv.fold
 cases Rd.isHost t <;> cases Rd.isMail t <;> exact this
theorem text_dollar {n : By} (h : Rd.nm n = true) : (match Nm.fold (Nm.text n) with
 | x :: _=>x == 36
 | []=>false) = false:=by
 have key : ∀ c : UInt8, ∃ d r,Nm.esc1 false c = d :: r ∧ Nm.small d ≠ 36:=fun c=>by
  unfold Nm.esc1
  by_cases hm : Nm.mark false c = true
  · rw [if_pos hm]
    exact ⟨92,_,rfl,by decide⟩
  · rw [if_neg hm]
    by_cases hc : Nm.clear false c = true
    · rw [if_pos hc]
      refine ⟨c, [],rfl,fun e=>?_⟩
      have hv:=Nm.small_val c
      rw [e] at hv
      have : c.toNat = 36:=by
       have h36 : (36 : UInt8).toNat = 36:=rfl
       split at hv <;> omega
      simp [Nm.mark,this] at hm
    · rw [if_neg hc]
      exact ⟨92,_,rfl,by decide⟩
 unfold Rd.nm at h
 unfold Nm.text
 cases hs : Nm.split n with
 | none=>rw [hs] at h;cases h
 | some ls =>
  cases ls with
  | nil=>decide
  | cons l r =>
   show (match Nm.fold (Nm.textL (l :: r)) with
    | x :: _=>x == 36
    | []=>false) = false
   rw [Nm.textL_cons]
   cases l with
   | nil=>rfl
   | cons a q =>
    obtain ⟨d,t,e,h1⟩:=key a
    rw [show Nm.esc false (a :: q) = Nm.esc1 false a ++ Nm.esc false q from by simp [Nm.esc],e]
    simp only [List.cons_append,Nm.fold,List.map_cons]
    simpa using h1
theorem entry_rec {r : Rv} (h : Pr r) {s : Ma.S} (hs : Rd.nm s.o = true) (hfx : s.fx = false) (hlen : s.recs.length < 4096) {ws : List Tk.Wd} (hw : Tk.bareW ws = rw_ r) :
 ∃ x l,ws = x :: l ∧ Ma.entry s false x l = .ok { s with ttl:=r.ttl,recs:=s.recs ++ [rcOf r] }:=by
 obtain ⟨hty,hf,hk⟩:=h
 obtain ⟨hn,_,httl,hok⟩:=Mp.okL_zero hk
 have hkf : Rd.ok r.ty (r.d.fold r.ty).dt = true:=by rw [Rd.ok_fold];exact hok
 have hnf : Rd.nm (Nm.fold r.nm.data.toList) = true:=by rw [Rd.nm_fold];exact hn
 unfold rw_ Tk.recW at hw
 obtain ⟨l1,c1,t1,rfl,h1⟩:=Mh.bareW_cons hw
 obtain ⟨l2,c2,t2,rfl,h2⟩:=Mh.bareW_cons h1
 obtain ⟨l3,c3,t3,rfl,h3⟩:=Mh.bareW_cons h2
 obtain ⟨l4,c4,t4,rfl,h4⟩:=Mh.bareW_cons h3
 refine ⟨_,_,rfl,?_⟩
 have hd : Ma.isDir false (⟨Nm.text (Nm.fold r.nm.data.toList),false,l1,c1⟩ : Tk.Wd) = false:=text_dollar hnf
 have hnm : Ma.name s.o (⟨Nm.text (Nm.fold r.nm.data.toList),false,l1,c1⟩ : Tk.Wd) = some (Nm.fold r.nm.data.toList):=Rd.nameR_text hnf hs
 have hnum : Ma.num (⟨Rd.dec r.ttl,false,l2,c2⟩ : Tk.Wd) = some r.ttl:=Rd.num_dec (by omega) (by decide)
 have hin : Ma.num (⟨[73,78],false,l3,c3⟩ : Tk.Wd) = none:=Mh.num_IN
 have hkw : Ma.kw (⟨[73,78],false,l3,c3⟩ : Tk.Wd) = [105,110]:=Mh.kw_IN
 have hic : Ma.isClass (⟨[73,78],false,l3,c3⟩ : Tk.Wd) = true:=by unfold Ma.isClass;rw [hkw];rfl
 have hto : Rd.tyOf (Rd.tyText r.ty) = some r.ty:=Rd.tyOf_text hty
 have hw2 : t4.map Ma.w2 = Rd.tellQ (r.d.fold r.ty).dt (txs (r.d.fold r.ty)) (Rd.parts r.ty) 0:=h4
 have hrd : Rd.readR s.o r.ty (t4.map Ma.w2) = some (r.d.fold r.ty).dt:=by rw [hw2];exact readR_tell hs (fits_fold hf _) hkf
 have hne : ¬ s.recs.length = 4096:=by omega
 obtain ⟨so,sttl,sfx,srecs⟩:=s
 obtain rfl : sfx = false:=hfx
 simp only at hs hlen hnm hrd hne
 simp only [Ma.entry,hd,Bool.false_eq_true,if_false,hne,Ma.record,Ma.owner,hnm,Ma.tc,hnum,Option.isSome_some,Option.getD_some,and_self,if_true,httl,hin,Option.isSome_none,false_and,hic,hkw,Bool.true_eq_false,and_false,Ma.tail,hto,hrd,fold_fold,dt_fold,foldD_fold,rcOf]
theorem entries_recs {s : Ma.S} (hs : Rd.nm s.o = true) (hfx : s.fx = false) : ∀ {l : List Rv} {es : List Tk.En} {ttl : Nat} {recs : List Ma.Rc},(∀ r ∈ l,Pr r) → recs.length + l.length ≤ 4096 → Tk.bareE es = l.map (fun r=>(false,rw_ r)) →
 ∃ h,Ma.entries { s with ttl:=ttl,recs:=recs } es = .ok { s with ttl:=h,recs:=recs ++ l.map rcOf }
 | [],es,ttl,recs,_,_,he=>by
  obtain rfl : es = []:=List.map_eq_nil_iff.1 he
  exact ⟨ttl,by simp [Ma.entries]⟩
 | r :: l,es,ttl,recs,hl,hn,he=>by
  cases es with
  | nil=>cases he
  | cons e es =>
   simp only [Tk.bareE,List.map_cons,List.cons.injEq,Prod.mk.injEq] at he
   obtain ⟨⟨hb,hw⟩,he⟩:=he
   rw [List.length_cons] at hn
   obtain ⟨x,t,e1,e2⟩:=entry_rec (hl r (by simp)) (s:={ s with ttl:=ttl,recs:=recs }) hs hfx (by show recs.length < 4096;omega) hw
   obtain ⟨h,e3⟩:=entries_recs hs hfx (l:=l) (es:=es) (ttl:=r.ttl) (recs:=recs ++ [rcOf r]) (fun y hy=>hl y (by simp [hy])) (by rw [List.length_append,List.length_singleton];omega) he
   refine ⟨h,?_⟩
   rw [Ma.entries,e1]
   dsimp only
   rw [hb,e2]
   dsimp only
   rw [e3]
   simp
theorem flat_congr {f g : Rv → By} : ∀ {l : List Rv},(∀ r ∈ l,f r = g r) → l.flatMap f = l.flatMap g
 | [],_=>rfl
 | a :: l,h=>by rw [List.flatMap_cons,List.flatMap_cons,h a (by simp),flat_congr (fun r hr=>h r (by simp [hr]))]
theorem print_parse {o other : By} (ho : Rd.nm o = true) (hot : Rd.nm other = true) (ttl : Nat) {l : List Rv} (hl : ∀ r ∈ l,Pr r) (hn : l.length ≤ 4096) :
 ∃ es h,Tk.tells (Mp.textL o l) = .ok es ∧ (∀ e ∈ es,e.words ≠ []) ∧ es.length = l.length + 1 ∧ Ma.entries ⟨other,ttl,false, []⟩ es = .ok ⟨Nm.fold o,h,false,l.map rcOf⟩:=by
 have hof : Rd.nm (Nm.fold o) = true:=by rw [Rd.nm_fold];exact ho
 have hall : ∀ xs ∈ Tk.orgW (Nm.fold o) :: l.map rw_,xs ≠ [] ∧ ∀ x ∈ xs,Tk.GoodL x:=by
  intro xs hx
  rcases List.mem_cons.1 hx with rfl | hx
  · exact Tk.goodL_org hof
  · obtain ⟨r,hr,rfl⟩:=List.mem_map.1 hx
    obtain ⟨hty,hf,hk⟩:=hl r hr
    obtain ⟨hnm,_,_,hok⟩:=Mp.okL_zero hk
    exact Tk.goodL_rec (by rw [Rd.nm_fold];exact hnm) (by rw [Rd.ok_fold];exact hok)
 obtain ⟨es,h1,h2⟩:=Tk.tells_lines hall
 have e : (Tk.orgW (Nm.fold o) :: l.map rw_).flatMap Tk.lineB = Mp.textL o l:=by
  unfold Mp.textL
  rw [List.flatMap_cons,headL_words,List.flatMap_map]
  congr 1
  have : ∀ r ∈ l,Tk.lineB (rw_ r) = Mp.lineL r:=fun r hr=>(lineL_words (Mp.okL_zero (hl r hr).2.2).2.2.2).symm
  exact flat_congr this
 rw [e] at h1
 have hne : ∀ x ∈ es,x.words ≠ []:=fun x hx hnil=>by
  have hm : (x.blank,Tk.bareW x.words) ∈ Tk.bareE es:=List.mem_map.2 ⟨x,hx,rfl⟩
  rw [h2] at hm
  obtain ⟨xs,hxs,e2⟩:=List.mem_map.1 hm
  rw [hnil] at e2
  simp only [Tk.bareW,List.map_nil,Prod.mk.injEq] at e2
  exact (hall xs hxs).1 e2.2
 have hlen : es.length = l.length + 1:=by
  have:=congrArg List.length h2
  simpa [Tk.bareE] using this
 cases es with
 | nil=>cases hlen
 | cons e0 es =>
  simp only [Tk.bareE,List.map_cons,List.cons.injEq,Prod.mk.injEq,List.map_map] at h2
  obtain ⟨⟨hb,hw⟩,h3⟩:=h2
  unfold Tk.orgW at hw
  obtain ⟨l1,c1,t1,e1,h4⟩:=Mh.bareW_cons hw
  obtain ⟨l2,c2,t2,e2,h5⟩:=Mh.bareW_cons h4
  obtain rfl:=Mh.bareW_nil h5
  subst e2
  obtain ⟨h,e3⟩:=entries_recs (s:=⟨Nm.fold o,ttl,false, []⟩) hof rfl (l:=l) (es:=es) (ttl:=ttl) (recs := []) hl (by simpa using hn) h3
  refine ⟨e0 :: es,h,h1,hne,hlen,?_⟩
  have hd : Ma.isDir false (⟨[36,79,82,73,71,73,78],false,l1,c1⟩ : Tk.Wd) = true:=by
   show (match Nm.fold [36,79,82,73,71,73,78] with
    | x :: _=>x == 36
    | []=>false) = true
   decide
  have hkw : Ma.kw (⟨[36,79,82,73,71,73,78],false,l1,c1⟩ : Tk.Wd) = [36,111,114,105,103,105,110]:=show Nm.fold [36,79,82,73,71,73,78] = _ by decide
  have hnm : Ma.name other (⟨Nm.text (Nm.fold o),false,l2,c2⟩ : Tk.Wd) = some (Nm.fold o):=Rd.nameR_text hof hot
  rw [Ma.entries,e1]
  dsimp only
  rw [hb]
  simp only [Ma.entry,hd,if_true,Ma.directive,hkw,hnm]
  rw [e3]
  simp
end Go.Proofs.YtekafhogiambaaaGreatDoor.Mb
namespace Go.Proofs.YtekafhogiambaaaGreatDoor.Mb
open Rd (By Dt)
theorem tyOf_le {s : By} {t : Nat} (h : Rd.tyOf s = some t) : t ≤ 65535:=by
 unfold Rd.tyOf at h
 split at h
 · rename_i x hx
   injection h with h
   have:=List.mem_of_find?_eq_some hx
   simp only [Rd.tyTab,List.mem_cons,List.not_mem_nil,or_false] at this
   rcases this with rfl | rfl | rfl | rfl | rfl | rfl | rfl | rfl | rfl <;> (subst h;decide)
 · split at h
   · exact num_le h
   · cases h
theorem foldD_ok (t : Nat) (d : Dt) : Rd.ok t (Rd.foldD t d) = Rd.ok t d:=by
 unfold Rd.foldD Rd.ok
 dsimp only
 cases hh : Rd.isHost t <;> cases hm : Rd.isMail t <;> simp [Rd.nm_fold]
structure Gd (c : Ma.Rc) : Prop where
 nm : Rd.nm c.nm = true
 fold : Nm.fold c.nm = c.nm
 ty : c.ty ≤ 65535
 ttl : c.ttl ≤ 2147483647
 ok : Okd c.ty c.d
 dfold : Rd.foldD c.ty c.d = c.d
structure Gs (s : Ma.S) : Prop where
 o : Rd.nm s.o = true
 ttl : s.ttl ≤ 2147483647
 len : s.recs.length ≤ 4096
 recs : ∀ c ∈ s.recs,Gd c
theorem Gs.record {s : Ma.S} (h : Gs s) {f : Tk.Wd} {bl : Bool} {ws : List Tk.Wd} {y : Nat × Ma.Rc} (hr : Ma.record s f bl ws = .ok y) : y.1 ≤ 2147483647 ∧ Gd y.2:=by
 unfold Ma.record at hr
 split at hr
 · cases hr
 · rename_i n ws2 ho
   split at hr
   · cases hr
   · rename_i hl t ws3 ht
     split at hr
     · cases hr
     · rename_i ty d htl
       injection hr with hr
       subst hr
       have h2:=Ma.tc_le _ _ _ _ _ _ _ h.ttl h.ttl ht
       have hn : Rd.nm n = true ∧ Nm.fold n = n:=by
        unfold Ma.owner at ho
        split at ho
        · split at ho
          · rename_i r hrr
            injection ho with ho
            injection ho with ho _
            rw [← ho]
            have:=h.recs r (List.mem_of_mem_getLast? hrr)
            exact ⟨this.nm,this.fold⟩
          · cases ho
        · split at ho
          · cases ho
          · split at ho
            · rename_i m hm
              injection ho with ho
              injection ho with ho _
              rw [← ho]
              exact ⟨by rw [Rd.nm_fold];exact Ma.name_is h.o hm,fold_fold m⟩
            · cases ho
       unfold Ma.tail at htl
       split at htl
       · cases htl
       · split at htl
         · cases htl
         · split at htl
           · cases htl
           · rename_i t2 hto
             split at htl
             · cases htl
             · rename_i d2 hd
               injection htl with htl
               injection htl with e1 e2
               subst e1;subst e2
               have hk:=readR_ok h.o hd
               refine ⟨h2.1,hn.1,hn.2,tyOf_le hto,h2.2,⟨by rw [foldD_ok];exact hk.1,?_⟩,foldD_fold _ _⟩
               exact hk.2
theorem Gs.entry {s s' : Ma.S} (h : Gs s) {bl : Bool} {x : Tk.Wd} {r : List Tk.Wd} (he : Ma.entry s bl x r = .ok s') : Gs s':=by
 unfold Ma.entry at he
 split at he
 · unfold Ma.directive at he
   split at he
   · split at he
     · split at he
       · rename_i hn
         injection he with he
         subst he
         exact ⟨Ma.name_is h.o hn,h.ttl,h.len,h.recs⟩
       · cases he
     · split at he
       · split at he
         · split at he
           · rename_i hv
             injection he with he
             subst he
             exact ⟨h.o,hv,h.len,h.recs⟩
           · cases he
         · cases he
       · cases he
   · cases he
 · split at he
   · cases he
   · rename_i hne
     split at he
     · cases he
     · rename_i hl c hr
       injection he with he
       subst he
       obtain ⟨h1,h2⟩:=h.record hr
       refine ⟨h.o,h1,?_,fun y hy=>?_⟩
       · have:=h.len
         simp
         omega
       · rcases List.mem_append.1 hy with hy | hy
         · exact h.recs y hy
         · rw [List.mem_singleton.1 hy]
           exact h2
theorem Gs.entries : ∀ {es : List Tk.En} {s s' : Ma.S},Gs s → Ma.entries s es = .ok s' → Gs s'
 | [],s,s',h,he=>by
  rw [Ma.entries] at he
  injection he with he
  rw [← he];exact h
 | e :: es,s,s',h,he=>by
  rw [Ma.entries] at he
  split at he
  · cases he
  · split at he
    · cases he
    · rename_i s1 h1
      exact Gs.entries (h.entry h1) he
theorem Gs.start {o : By} {ttl : Nat} (ho : Rd.nm o = true) (ht : ttl ≤ 2147483647) : Gs ⟨o,ttl,false, []⟩:=⟨ho,ht,Nat.zero_le _,fun c h=>by cases h⟩
theorem Gd.pr {c : Ma.Rc} (h : Gd c) : Pr (rvOf c) ∧ rcOf (rvOf c) = c:=by
 obtain ⟨hk,n0,n1,n2,n3,n4⟩:=h.ok
 have hd : (dv c.d).dt = c.d:=by
  obtain ⟨r,hh,m,a,b,d,e,f⟩:=c.d
  rfl
 refine ⟨⟨h.ty,fun k=>?_,?_⟩,?_⟩
 · match k with
   | 0=>exact n0
   | 1=>exact n1
   | 2=>exact n2
   | 3=>exact n3
   | _ + 4=>exact n4
 · show Mp.okL (rvOf c) = 0
   have h1 : Rd.nm (rvOf c).nm.data.toList = true:=h.nm
   have h2 : (rvOf c).ttl ≤ 2147483647:=h.ttl
   have h3 : Rd.ok (rvOf c).ty (rvOf c).d.dt = true:=by
    show Rd.ok c.ty (dv c.d).dt = true
    rw [hd];exact hk
   unfold Mp.okL
   rw [if_pos h1,if_pos (show (rvOf c).cl = 1 from rfl),if_pos h2,if_pos h3]
 · have e1 : Nm.fold (rvOf c).nm.data.toList = c.nm:=h.fold
   have e2 : Rd.foldD (rvOf c).ty (rvOf c).d.dt = c.d:=by
    show Rd.foldD c.ty (dv c.d).dt = c.d
    rw [hd];exact h.dfold
   unfold rcOf
   rw [e1,e2]
   rfl
theorem parse_print {es : List Tk.En} {s' : Ma.S} {o : By} {ttl : Nat} (ho : Rd.nm o = true) (ht : ttl ≤ 2147483647) (he : Ma.entries ⟨o,ttl,false, []⟩ es = .ok s') :
 s'.recs.length ≤ 4096 ∧ Mp.bad (s'.recs.map rvOf) = 0 ∧ (∀ r ∈ s'.recs.map rvOf,Pr r) ∧ (s'.recs.map rvOf).map rcOf = s'.recs:=by
 have h:=Gs.entries (Gs.start ho ht) he
 have hp : ∀ r ∈ s'.recs.map rvOf,Pr r:=fun r hr=>by
  obtain ⟨c,hc,rfl⟩:=List.mem_map.1 hr
  exact (h.recs c hc).pr.1
 refine ⟨h.len,?_,hp,?_⟩
 · have : ∀ l : List Rv,(∀ r ∈ l,Pr r) → Mp.bad l = 0:=by
    intro l
    induction l with
    | nil=>intro _;rfl
    | cons a l ih =>
     intro hl
     rw [Mp.bad,if_pos (hl a (by simp)).2.2]
     exact ih (fun r hr=>hl r (by simp [hr]))
   exact this _ hp
 · rw [List.map_map]
   have : ∀ c ∈ s'.recs,(rcOf ∘ rvOf) c = c:=fun c hc=>(h.recs c hc).pr.2
   have:=List.map_congr_left this
   rw [this,List.map_id']
end Go.Proofs.YtekafhogiambaaaGreatDoor.Mb
namespace Go.Proofs.YtekafhogiambaaaGreatDoor.Mb
open Rd (By Dt)
theorem nm_size {n : By} (h : Rd.nm n = true ∨ n = []) : n.length ≤ 255:=by
 rcases h with h | h
 · exact Rd.nm_len h
 · rw [h];exact Nat.zero_le _
theorem ok_names {t : Nat} {d : Dt} (h : Rd.ok t d = true) : (Rd.nm d.host = true ∨ d.host = []) ∧ (Rd.nm d.mail = true ∨ d.mail = []):=by
 unfold Rd.ok at h
 simp only [Bool.and_eq_true,beq_iff_eq,Bool.or_eq_true] at h
 obtain ⟨⟨⟨⟨⟨⟨⟨⟨⟨_,h1⟩,h2⟩,h3⟩,h4⟩,_⟩,_⟩,_⟩,_⟩,_⟩:=h
 refine ⟨?_,?_⟩
 · rcases h2 with h2 | h2
   · exact .inl (by rw [← h1];exact h2)
   · exact .inr h2
 · rcases h4 with h4 | h4
   · exact .inl (by rw [← h3];exact h4)
   · exact .inr h4
theorem size_of (s : ByteArray) : s.size = s.data.toList.length:=by simp
theorem fine_pr {r : Rv} (h : Pr r) : Mp.Fine r:=by
 obtain ⟨h1,h2,h3⟩:=h
 obtain ⟨k1,k2,k3,k4⟩:=Mp.okL_zero h3
 have hr:=ok_raw k4
 obtain ⟨n1,n2⟩:=ok_names k4
 have m1:=nm_size n1
 have m2:=nm_size n2
 have m0:=Rd.nm_len k1
 have e0:=size_of r.nm
 have e1:=size_of r.d.host
 have e2:=size_of r.d.mail
 have e3:=size_of r.d.raw
 have q1 : r.d.dt.host = r.d.host.data.toList:=rfl
 have q2 : r.d.dt.mail = r.d.mail.data.toList:=rfl
 have q3 : r.d.dt.raw = r.d.raw.data.toList:=rfl
 rw [q1] at m1
 rw [q2] at m2
 rw [q3] at hr
 exact ⟨h1,by omega,h2,⟨by omega,by omega,by omega⟩,by omega⟩
theorem rv_back {r : Rv} (h : Pr r) : rvOf (rcOf r) = r.fold:=by
 obtain ⟨h1,h2,h3⟩:=h
 obtain ⟨k1,k2,k3,k4⟩:=Mp.okL_zero h3
 obtain ⟨nm,ty,cl,ttl,d⟩:=r
 simp only at k2
 subst k2
 have e : dv (Rd.foldD ty d.dt) = d.fold ty:=by
  rw [← dt_fold]
  exact dv_dt _
 show (⟨⟨(Nm.fold nm.data.toList).toArray⟩,ty,1,ttl,dv (Rd.foldD ty d.dt)⟩ : Rv) = ⟨⟨(Nm.fold nm.data.toList).toArray⟩,ty,1,ttl,d.fold ty⟩
 rw [e]
theorem printV_form {o : By} {l : List Rv} : ∃ (S : ByteArray) (K : Nat),Mp.printV o l = .tuple #[.string S,.int .i64 K] ∧
 ((K = 0 ∧ S.data.toList = Mp.textL o l ∧ Rd.nm o = true ∧ Mp.bad l = 0 ∧ S.size ≤ 262144) ∨ (K ≠ 0 ∧ S = ⟨#[]⟩ ∧ (Rd.nm o = true → Mp.bad l = 0 → K = 2))):=by
 unfold Mp.printV
 by_cases h1 : Rd.nm o = true
 · rw [if_pos h1]
   by_cases h2 : Mp.bad l = 0
   · rw [if_pos h2]
     by_cases h3 : (Mp.textL o l).length ≤ 262144
     · rw [if_pos h3]
       refine ⟨⟨(Mp.textL o l).toArray⟩,0,rfl,.inl ⟨rfl,by simp,h1,h2,?_⟩⟩
       rw [size_of]
       simpa using h3
     · rw [if_neg h3]
       exact ⟨⟨#[]⟩,2,rfl,.inr ⟨by decide,rfl,fun _ _=>rfl⟩⟩
   · rw [if_neg h2]
     exact ⟨⟨#[]⟩,Mp.bad l,rfl,.inr ⟨h2,rfl,fun _ h=>absurd h h2⟩⟩
 · rw [if_neg h1]
   exact ⟨⟨#[]⟩,11,rfl,.inr ⟨by decide,rfl,fun h=>absurd h h1⟩⟩
end Go.Proofs.YtekafhogiambaaaGreatDoor.Mb
namespace Go.Proofs.YtekafhogiambaaaGreatDoor
open Go.RowKit
set_option maxHeartbeats 1000000 in
theorem copyCheck_any (B b : Nat) (bs : List Value) (w : World) (h : Lib.IsBuilder 53 5 B b bs w) :
 Calls Tryz.prog 28 #[.pointer (some ⟨b,0,none⟩)] w fun e w' => e = .returned (.tuple #[]) ∧ Lib.BuilderAt 53 5 B b (.pointer (some ⟨b,0,none⟩)) bs w' ∧ Below B w w':=by
 have hsz : (Tryz.prog.info? 53).map (·.size) = some 2:=by kernel_rfl
 obtain ⟨j,hj,hjs⟩:=Option.map_eq_some_iff.1 hsz
 rcases h with h | h
 · have hsh:=h.shape
   have hfz:=h.frozen0
   have h0:=h.cell0
   have HF:=Lib.hid (⟨h.used _,(Below.refl B w).setCell (p:=⟨b,0,none⟩) h.1 (.pointer (some ⟨b,0,none⟩))⟩ : Lib.BuilderAt 53 5 B b (.pointer (some ⟨b,0,none⟩)) bs (w.setCell ⟨b,0,none⟩ (.pointer (some ⟨b,0,none⟩))) ∧ Below B w (w.setCell ⟨b,0,none⟩ (.pointer (some ⟨b,0,none⟩))))
   clear h
   go_enter Tryz.func28,Tryz.ntmps28
   go_wp2
   rw [Lib.run_to_unsafe w ⟨b,0,none⟩ Tryz.underlying50 Tryz.underlying106 hj (by rw [hjs];decide) hsh (Nat.zero_lt_succ 1)]
   simp only [Result.andThen]
   rw [Oper.upon_value]
   go_wp2
   rw [run_callFunc_extern Tryz.func47 (by kernel_rfl) (by kernel_rfl) (by kernel_rfl) (e:=Extern.AbiNoEscape.same) (by kernel_rfl)]
   rw [Lib.run_noEscape]
   simp only [Result.andThen]
   rw [Oper.upon_value]
   go_wp2
   rw [Lib.run_from_unsafe w ⟨b,0,none⟩ Tryz.underlying106 Tryz.underlying50 hj hsh (by kernel_rfl)]
   simp only [Result.andThen]
   rw [Oper.upon_value]
   go_wp2
   go_end0
   exact ⟨rfl,HF.out⟩
 · have h0:=h.cell0
   have HF:=Lib.hid h
   clear h
   go_enter Tryz.func28,Tryz.ntmps28
   go_wp2
   rw [Lib.run_neq_ptr_same w _ Tryz.underlying50 hj]
   go_wp2
   go_end0
   exact ⟨rfl,HF.out,Below.refl B _⟩
set_option maxHeartbeats 1000000 in
theorem bldWrite_any (B b : Nat) (bs : List Value) (s : ByteArray) (w : World) (h : Lib.IsBuilder 53 5 B b bs w) (hlen : bs.length + s.size ≤ 140737488355328) (hBw : B ≤ w.heap.size) :
 Calls Tryz.prog 15 #[.pointer (some ⟨b,0,none⟩),.string s] w fun e w' => e = .returned (.tuple #[.int .i64 s.size,.nilIface]) ∧ Lib.BuilderAt 53 5 B b (.pointer (some ⟨b,0,none⟩)) (bs ++ Lib.strCells s) w' ∧ Below B w w':=by
 obtain ⟨i0,hi,hz0,hz1,hz2⟩:=info_parts Tryz.infoByte
 have HC:=Lib.hid (copyCheck_any B b bs w h)
 clear h
 go_enter Tryz.func15,Tryz.ntmps15
 go_wp2_with (go_at_call 28;refine HC.out.mono ?_)
 rintro e w1 ⟨rfl,⟨hB,v,hbk,hown,hne⟩,hb1⟩
 have c0 : w1.cell? ⟨b,0,none⟩ = some (.pointer (some ⟨b,0,none⟩)):=by rw [Lib.cell_of_heap hbk];rfl
 have c1 : w1.cell? ⟨b,1,none⟩ = some v:=by rw [Lib.cell_of_heap hbk];rfl
 go_wp2_with (at_builtin;refine Lib.wpList_append_own_string _ rfl _ _ 51 9 rfl B 5 i0 Tryz.underlying51 Tryz.underlying9 hi hz0 hz1 hz2 _ _ _ rfl hown s rfl ?c3 ?c4 ?c5 ?_)
 case c3=>unfold maxLen;omega
 case c4=>omega
 case c5=>have:=hb1.size;omega
 intro v' w2 hown' hgrow _
 have hlt : b < w1.heap.size:=(Array.getElem?_eq_some_iff.1 hbk).1
 have hb2 : w2.heap[b]? = some (.cells #[.pointer (some ⟨b,0,none⟩),v] 53 (0,0)):=(hgrow.block b hlt (fun e=>hne e.symm)).trans hbk
 have d0 : w2.cell? ⟨b,0,none⟩ = some (.pointer (some ⟨b,0,none⟩)):=by rw [Lib.cell_of_heap hb2];rfl
 have d1 : w2.cell? ⟨b,1,none⟩ = some v:=by rw [Lib.cell_of_heap hb2];rfl
 have f1 : w2.frozen? ⟨b,1,none⟩ = false:=Lib.frozen_of_heap hb2 1
 obtain ⟨ao,cap,rfl⟩:=own_form hown'
 go_wp2
 go_ret2
 refine ⟨rfl,?_,?_⟩
 · exact Lib.BuilderAt.put hB hb2 (bs':=bs ++ Lib.strCells s) (by simpa [Lib.strCells_length] using hown') (by decide)
 · exact (hb1.grown hgrow (by have:=hb1.size;omega) (fun k hk=>(hown.lt k hk).1)).setCell (p:=⟨b,1,none⟩) hB _
end Go.Proofs.YtekafhogiambaaaGreatDoor
