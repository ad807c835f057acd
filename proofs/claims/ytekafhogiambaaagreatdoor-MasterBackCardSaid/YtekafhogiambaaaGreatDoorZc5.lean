/- Texts of the proofs, merged. -/
import Derived.Test.YtekafhogiambaaaGreatDoorZc4
import Derived.Lib.AppendStr
set_option maxRecDepth 100000
namespace Go.Proofs.YtekafhogiambaaaGreatDoor
open Go.RowKit Go.Lib
def RowIs (w : World) (g B : Nat) (ls : List (List UInt8)) : Prop :=
 ∃ v bs,Has w g 169 #[v,.bool (decide (255 < (Nm.body ls).length + 1))] ∧ w.ownsRow B 5 1 v bs.length (bv bs) ∧ bs.length ≤ 254 ∧ ((Nm.body ls).length ≤ 254 → bs = Nm.body ls)
def Typed (w w' : World) (g : Nat) : Prop := ∀ k c e fr,w.heap[k]? = some (.cells c e fr) → e ≠ 5 → k ≠ g → w'.heap[k]? = w.heap[k]?
theorem Typed.refl (w : World) (g : Nat) : Typed w w g:=fun _ _ _ _ _ _ _=>rfl
theorem Typed.trans {a b c : World} {g : Nat} (h : Typed a b g) (k : Typed b c g) : Typed a c g:=fun i x e fr hi he hg=>by
 have h1:=h i x e fr hi he hg
 exact (k i x e fr (h1.trans hi) he hg).trans h1
theorem Typed.alloc {a b : World} {g : Nat} (h : Typed a b g) (o : Obj) : Typed a (b.alloc o) g:=h.trans fun i _ _ _ hi _ _=>Below.heap_alloc b o i (Array.getElem?_eq_some_iff.1 hi).1
theorem Typed.drew {a b : World} {g : Nat} (h : Typed a b g) : Typed a b.drew g:=h
theorem Typed.drewN {a b : World} {g : Nat} (h : Typed a b g) (n : Nat) : Typed a (b.drewN n) g:=h
theorem Typed.set {a b : World} {g : Nat} (h : Typed a b g) (i : Nat) (u : Value) : Typed a (b.setCell ⟨g,i,none⟩ u) g:=h.trans fun k _ _ _ _ _ hg=>heap_setCell_other b _ k u hg
theorem Typed.own {a b c : World} {g B n : Nat} {v : Value} {xs : List Value} (h : Typed a b g) (ho : b.ownsRow B 5 1 v n xs) (hg : b.grownBy c v.ownBlock) : Typed a c g:=h.trans fun k x e fr hk he _=>by
 refine hg.block k (Array.getElem?_eq_some_iff.1 hk).1 ?_
 intro hv
 rcases ho.2 with ⟨rfl,_⟩ | ⟨g',cap,cur,rfl,_,hh,_⟩
 · simp [Value.ownBlock] at hv
 · simp [Value.ownBlock] at hv
   subst hv
   rw [hh] at hk
   injection hk with hk
   injection hk with _ hk
   exact he hk.symm
theorem has_ne_own {w : World} {g B n : Nat} {t e : TypeId} {cs : Array Value} {v : Value} {xs : List Value} (h : Has w g t cs) (ho : w.ownsRow B e 1 v n xs) (hne : t ≠ e) : some g ≠ v.ownBlock:=by
 rcases ho.2 with ⟨rfl,_⟩ | ⟨g',cap,cur,rfl,_,hh,_⟩
 · simp [Value.ownBlock]
 · intro hv
   simp [Value.ownBlock] at hv
   subst hv
   have h':=h.symm.trans hh
   injection h' with h'
   injection h' with _ h'
   exact hne h'
theorem own_far {w : World} {g B n : Nat} {t e : TypeId} {cs : Array Value} {v : Value} {xs : List Value} (ho : w.ownsRow B e 1 v n xs) (h : Has w g t cs) (hne : t ≠ e) (i : Nat) (u : Value) : (w.setCell ⟨g,i,none⟩ u).ownsRow B e 1 v n xs:=by
 have hno:=has_ne_own h ho hne
 refine ⟨ho.1,?_⟩
 rcases ho.2 with hn | ⟨g',cap,cur,rfl,hb,hh,rest⟩
 · exact .inl hn
 · refine .inr ⟨g',cap,cur,rfl,hb,?_,rest⟩
   rw [heap_setCell_other];exact hh
   intro e;exact hno (by simp [Value.ownBlock];exact e.symm)
def AddPost (w : World) (g B : Nat) (ls : List (List UInt8)) (l : List UInt8) (e : Ending) (w' : World) : Prop :=
 Below B w w' ∧ Typed w w' g ∧
 if 1 ≤ l.length ∧ l.length ≤ 63 then e = .returned (.int .i64 0) ∧ RowIs w' g B (ls ++ [l]) else e = .returned (.int .i64 10) ∧ RowIs w' g B ls
set_option maxHeartbeats 1000000 in
theorem add_any (w : World) (g B : Nat) (ls : List (List UInt8)) (s : ByteArray) (h : RowIs w g B ls) (hB : B ≤ g) (hs : s.size ≤ 140737488355328) :
 Calls Tryz.prog 135 #[.pointer (some ⟨g,0,none⟩),.string s] w (AddPost w g B ls s.data.toList):=by
 obtain ⟨i0,hi,hz0,hz1,hz2⟩:=info_parts Tryz.infoByte
 have hsl : s.data.toList.length = s.size:=by simp
 have HSL:=Lib.hid hsl
 clear hsl
 have HR:=Lib.hid h
 obtain ⟨v,bs,hH,hown,hbs,hbody⟩:=h
 have hlt:=hH.lt
 have c0 : w.cell? ⟨g,0,none⟩ = some v:=by rw [hH.cell];rfl
 have c1 : w.cell? ⟨g,1,none⟩ = some (.bool (decide (255 < (Nm.body ls).length + 1))):=by rw [hH.cell];rfl
 have f0:=hH.free 0
 have f1:=hH.free 1
 obtain ⟨ad,cp,hv⟩:=own_form hown
 subst hv
 have HH:=Lib.hid hH
 have HO:=Lib.hid hown
 have HB:=Lib.hid hbody
 clear hH hown hbody
 by_cases h0 : s.size = 0
 · have h0b : ((s.size : Int) == 0) = true:=by simp [h0]
   clear h0
   go_enter Tryz.func135,Tryz.ntmps135
   go_wp2
   go_ret
   exact ⟨Below.refl _ _,Typed.refl _ _,by rw [if_neg (by rw [HSL.out];have:=beq_iff_eq.1 h0b;omega)];exact ⟨rfl,HR.out⟩⟩
 · have h0b : ((s.size : Int) == 0) = false:=by simp [h0]
   by_cases h63 : 63 < s.size
   · go_enter Tryz.func135,Tryz.ntmps135
     go_wp2
     go_ret
     exact ⟨Below.refl _ _,Typed.refl _ _,by rw [if_neg (by rw [HSL.out];omega)];exact ⟨rfl,HR.out⟩⟩
   · by_cases hbig : 255 < bs.length + 1 + s.size + 1
     · go_enter Tryz.func135,Tryz.ntmps135
       go_wp2
       go_ret
       refine ⟨(Below.refl _ _).setCell (p:=⟨g,1,none⟩) hB _,(Typed.refl _ _).set 1 _,?_⟩
       rw [if_pos (by rw [HSL.out];omega)]
       have hbl:=Nm.body_snoc_length ls s.data.toList
       rw [HSL.out] at hbl
       have hlong : 255 < (Nm.body (ls ++ [s.data.toList])).length + 1:=by
        by_cases hle : (Nm.body ls).length ≤ 254
        · have:=HB.out hle;rw [this] at hbig;omega
        · omega
       refine ⟨rfl,_,bs,?_,own_far HO.out HH.out (by decide) 1 _,hbs,fun h=>by omega⟩
       rw [decide_eq_true hlong]
       exact HH.out.set 1 (.bool true)
     · go_enter Tryz.func135,Tryz.ntmps135
       go_wp2_with (first
        | (at_builtin
           refine wpList_append_own _ rfl (.tmp 31) (.tmp 35) _ rfl B 5 i0 _ 1 1 Tryz.underlying51 hi hz0 hz1 hz2 rfl (by decide) _ bs.length (bv bs) rfl (HO.out.alloc _) ⟨w.heap.size,0,none⟩ 1 1 [.int .u8 (s.size : Nat)] rfl rfl (cell_one_new _ _ _) (by simp [Value.oneCell']) (by unfold maxLen;omega) (by omega) (by simp;omega) ?_
           intro v1 w1 hown1 hg1 _
           obtain ⟨ad1,cp1,rfl⟩:=own_form hown1
           have hH1:=(HH.out.alloc _).grown hg1 (has_ne_own HH.out HO.out (by decide))
           have d0:=hH1.cell 0
           have d0f:=hH1.free 0
           have HH1:=Lib.hid (hH1.set 0 (.slice ad1 (bs.length + 1) cp1))
           have HO1:=Lib.hid (own_far hown1 hH1 (by decide) 0 (.slice ad1 (bs.length + 1) cp1))
           have HB1:=Lib.hid (((((Below.refl _ _).alloc (by omega) _).grown hg1 (by simp;omega) (fun j hj=>(HO.out.lt j hj).1)).setCell (p:=⟨g,0,none⟩) hB (.slice ad1 (bs.length + 1) cp1) : Below B w _))
           have HT1:=Lib.hid ((((Typed.refl w g).alloc _).own (HO.out.alloc _) hg1).set 0 (.slice ad1 (bs.length + 1) cp1))
           clear hown1 hg1 hH1)
        | (at_builtin
           refine wpList_append_own_string _ rfl (.tmp 43) (.tmp 44) _ _ rfl B 5 i0 Tryz.underlying51 Tryz.underlying9 hi hz0 hz1 hz2 _ (bs.length + 1) _ rfl HO1.out s rfl (by unfold maxLen;omega) (by omega) (Nat.le_trans (by omega) HB1.out.size) ?_
           intro v2 w2 hown2 hg2 _
           obtain ⟨ad2,cp2,rfl⟩:=own_form hown2
           have hH2:=HH1.out.grown hg2 (has_ne_own HH1.out HO1.out (by decide))
           have e0:=hH2.cell 0
           have e0f:=hH2.free 0
           have HH2:=Lib.hid (hH2.set 0 (.slice ad2 (bs.length + 1 + s.size) cp2))
           have HO2:=Lib.hid (own_far hown2 hH2 (by decide) 0 (.slice ad2 (bs.length + 1 + s.size) cp2))
           have HB2:=Lib.hid ((HB1.out.grown hg2 (Nat.le_trans (by omega) HB1.out.size) (fun j hj=>(HO1.out.lt j hj).1)).setCell (p:=⟨g,0,none⟩) hB (.slice ad2 (bs.length + 1 + s.size) cp2))
           have HT2:=Lib.hid ((HT1.out.own HO1.out hg2).set 0 (.slice ad2 (bs.length + 1 + s.size) cp2))
           clear hown2 hg2 hH2))
       go_ret
       refine ⟨HB2.out,HT2.out,?_⟩
       rw [if_pos (by rw [HSL.out];omega)]
       have hbl:=Nm.body_snoc_length ls s.data.toList
       rw [HSL.out] at hbl
       have hx : UInt8.ofNat s.data.toList.length :: s.data.toList = Nm.lab s.data.toList:=rfl
       have hxs : bv bs ++ [Value.int .u8 (s.size : Nat)] ++ strCells s = bv (bs ++ Nm.lab s.data.toList):=by
        rw [← hx,bv_append,strCells_bv,List.append_assoc]
        have : ((UInt8.ofNat s.data.toList.length).toNat : Int) = (s.size : Nat):=by rw [HSL.out];simp;omega
        simp only [bv,List.map_cons,this];rfl
       have hlen : (bs ++ Nm.lab s.data.toList).length = bs.length + 1 + s.size:=by rw [List.length_append,Nm.lab_length,HSL.out];omega
       refine ⟨rfl,.slice ad2 (bs.length + 1 + s.size) cp2,bs ++ Nm.lab s.data.toList,?_,?_,by rw [hlen];omega,fun h=>?_⟩
       · have hd : decide (255 < (Nm.body (ls ++ [s.data.toList])).length + 1) = decide (255 < (Nm.body ls).length + 1):=by
          by_cases hle : (Nm.body ls).length ≤ 254
          · have:=HB.out hle;rw [this] at hbig;rw [decide_eq_false (by omega),decide_eq_false (by omega)]
          · rw [decide_eq_true (by omega),decide_eq_true (by omega)]
         rw [hd];exact HH2.out
       · rw [hlen,← hxs];exact HO2.out
       · rw [HB.out (by omega),Nm.body_append];simp [Nm.body]
theorem add_ok (w : World) (g B : Nat) (ls : List (List UInt8)) (l : List UInt8) (h : RowIs w g B ls) (hB : B ≤ g) (hg : 1 ≤ l.length ∧ l.length ≤ 63) :
 Calls Tryz.prog 135 #[.pointer (some ⟨g,0,none⟩),.string ⟨l.toArray⟩] w fun e w' => e = .returned (.int .i64 0) ∧ Below B w w' ∧ Typed w w' g ∧ RowIs w' g B (ls ++ [l]) :=
 (add_any w g B ls ⟨l.toArray⟩ h hB (by rw [mk_size];omega)).mono fun _ _ ⟨a,b,c⟩=>by rw [if_pos hg] at c;exact ⟨c.1,a,b,c.2⟩
theorem add_no (w : World) (g B : Nat) (ls : List (List UInt8)) (l : List UInt8) (h : RowIs w g B ls) (hB : B ≤ g) (hs : l.length ≤ 140737488355328) (hg : ¬ (1 ≤ l.length ∧ l.length ≤ 63)) :
 Calls Tryz.prog 135 #[.pointer (some ⟨g,0,none⟩),.string ⟨l.toArray⟩] w fun e w' => e = .returned (.int .i64 10) ∧ Below B w w' ∧ Typed w w' g ∧ RowIs w' g B ls :=
 (add_any w g B ls ⟨l.toArray⟩ h hB hs).mono fun _ _ ⟨a,b,c⟩=>by rw [if_neg hg] at c;exact ⟨c.1,a,b,c.2⟩
theorem own_typed {w w' : World} {g b n : Nat} {v : Value} {xs : List Value} {cs : Array Value} (h : w.ownsRow b 9 1 v n xs) (ht : Typed w w' g) (hg : Has w g 169 cs) : w'.ownsRow b 9 1 v n xs:=by
 have hne:=has_ne_own hg h (by decide)
 refine ⟨h.1,?_⟩
 rcases h.2 with hn | ⟨g',cap,cur,rfl,hb,hh,rest⟩
 · exact .inl hn
 · exact .inr ⟨g',cap,cur,rfl,hb,(ht g' _ _ _ hh (by decide) (fun e=>hne (by simp [Value.ownBlock];exact e.symm))).trans hh,rest⟩
theorem RowIs.start (w : World) (B : Nat) : RowIs (w.alloc (.cells #[.slice none 0 0,.bool false] 169)) w.heap.size B [] :=
 ⟨.slice none 0 0, [],Has.fresh w _ _,World.ownsRow_nil _ _ _ _,by simp,fun _=>rfl⟩
theorem RowIs.below {w w' : World} {g B B' : Nat} {ls : List (List UInt8)} (h : RowIs w g B ls) (hb : Below B' w w') (hB : w.heap.size ≤ B') : RowIs w' g B ls:=by
 obtain ⟨v,bs,hH,ho,a,b⟩:=h
 exact ⟨v,bs,hH.below hb (Nat.lt_of_lt_of_le hH.lt hB),own_below ho hb hB,a,b⟩
theorem RowIs.lt {w : World} {g B : Nat} {ls : List (List UInt8)} (h : RowIs w g B ls) : g < w.heap.size:=by
 obtain ⟨v,bs,hH,_⟩:=h;exact hH.lt
theorem RowIs.drewN {w : World} {g B : Nat} {ls : List (List UInt8)} (h : RowIs w g B ls) (n : Nat) : RowIs (w.drewN n) g B ls:=h
def nameR (ls : List (List UInt8)) : Value:=if 255 < (Nm.body ls).length + 1 then .tuple #[.string ⟨#[]⟩,.int .i64 2] else .tuple #[sv (Nm.glue ls),.int .i64 0]
set_option maxHeartbeats 1000000 in
theorem rowName_any (w : World) (g B : Nat) (ls : List (List UInt8)) (h : RowIs w g B ls) :
 Calls Tryz.prog 111 #[.pointer (some ⟨g,0,none⟩)] w fun e w' => e = .returned (nameR ls) ∧ w' = w:=by
 obtain ⟨v,bs,hH,hown,hbs,hbody⟩:=h
 have c0 : w.cell? ⟨g,0,none⟩ = some v:=by rw [hH.cell];rfl
 obtain ⟨ad,cp,hv⟩:=own_form hown
 subst hv
 have HO:=Lib.hid hown
 unfold nameR
 by_cases hl : 255 < (Nm.body ls).length + 1
 · rw [if_pos hl]
   have c1 : w.cell? ⟨g,1,none⟩ = some (.bool true):=by rw [hH.cell,decide_eq_true hl];rfl
   clear hH hown hbody hl
   go_enter Tryz.func111,Tryz.ntmps111
   go_wp2
   go_ret2
   exact ⟨rfl,rfl⟩
 · rw [if_neg hl]
   have c1 : w.cell? ⟨g,1,none⟩ = some (.bool false):=by rw [hH.cell,decide_eq_false hl];rfl
   have HE:=Lib.hid (hbody (by omega))
   clear hH hown hbody hl
   go_enter Tryz.func111,Tryz.ntmps111
   go_wp2_with (refine wpList_convert_own _ rfl 51 22 (.tmp 11) rfl 5 Tryz.underlying51 Tryz.underlying5 Tryz.underlying22 B bs.length _ bs rfl HO.out ?_)
   go_ret2
   refine ⟨?_,rfl⟩
   show Ending.returned (.tuple #[.string (⟨bs.toArray⟩ ++ ⟨#[0]⟩),.int .i64 0]) = _
   rw [string_eq (s:=⟨bs.toArray⟩ ++ ⟨#[0]⟩) (l:=Nm.glue ls) (by rw [cat_list,HE.out];rfl)]
theorem rowName_long (w : World) (g B : Nat) (ls : List (List UInt8)) (h : RowIs w g B ls) (hl : 255 < (Nm.body ls).length + 1) :
 Calls Tryz.prog 111 #[.pointer (some ⟨g,0,none⟩)] w fun e w' => e = .returned (.tuple #[.string ⟨#[]⟩,.int .i64 2]) ∧ w = w' :=
 (rowName_any w g B ls h).mono fun _ _ ⟨a,b⟩=>⟨by rw [a,nameR,if_pos hl],b.symm⟩
theorem rowName_ok (w : World) (g B : Nat) (ls : List (List UInt8)) (h : RowIs w g B ls) (hl : ¬ 255 < (Nm.body ls).length + 1) :
 Calls Tryz.prog 111 #[.pointer (some ⟨g,0,none⟩)] w fun e w' => e = .returned (.tuple #[sv (Nm.glue ls),.int .i64 0]) ∧ w = w' :=
 (rowName_any w g B ls h).mono fun _ _ ⟨a,b⟩=>⟨by rw [a,nameR,if_neg hl],b.symm⟩
end Go.Proofs.YtekafhogiambaaaGreatDoor
