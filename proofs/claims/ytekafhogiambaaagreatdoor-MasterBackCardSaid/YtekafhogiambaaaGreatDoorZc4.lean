/- Texts of the proofs, merged. -/
import Derived.Test.YtekafhogiambaaaGreatDoorZc3
import Derived.Test.YtekafhogiambaaaGreatDoorZc1
import Derived.Test.YtekafhogiambaaaGreatDoorRows
import Derived.Laws.StructEq
import Derived.MapKept
set_option maxRecDepth 100000
namespace Go.Proofs.YtekafhogiambaaaGreatDoor
open Go.RowKit
set_option maxHeartbeats 400000 in
theorem small_any (c : UInt8) (w : World) :
 Calls Tryz.prog 53 #[.int .u8 (c.toNat : Int)] w fun e w' => e = .returned (.int .u8 ((Nm.small c).toNat : Int)) ∧ w = w':=by
 have hc:=c.toNat_lt
 have hv:=Nm.small_val c
 have HV:=Lib.hid hv
 clear hv
 by_cases h1 : 65 ≤ c.toNat
 · by_cases h2 : c.toNat ≤ 90
   · go_enter Tryz.func53,Tryz.ntmps53
     go_wp2
     go_ret
     exact ⟨ret_int (by rw [HV.out,if_pos ⟨h1,h2⟩];omega),rfl⟩
   · go_enter Tryz.func53,Tryz.ntmps53
     go_wp2
     go_ret
     exact ⟨ret_int (by rw [HV.out,if_neg (by omega)]),rfl⟩
 · go_enter Tryz.func53,Tryz.ntmps53
   go_wp2
   go_ret
   exact ⟨ret_int (by rw [HV.out,if_neg (by omega)]),rfl⟩
set_option maxHeartbeats 400000 in
theorem fold1_any (B : Nat) (v : Value) (n : Nat) (xs : List Value) (c : UInt8) (w : World) (hB : B ≤ w.heap.size) (hown : w.ownsRow B 5 1 v n xs) (hn : n + 1 ≤ 140737488355328) :
 Calls Tryz.prog 52 #[v,.int .u8 (c.toNat : Int)] w fun e w' => ∃ v',e = .returned v' ∧ w'.ownsRow B 5 1 v' (n + 1) (xs ++ [.int .u8 ((Nm.small c).toNat : Int)]) ∧ Below B w w':=by
 obtain ⟨i0,hi,hz0,hz1,hz2⟩:=info_parts Tryz.infoByte
 have hcb:=c.toNat_lt
 have hcs:=(Nm.small c).toNat_lt
 go_enter Tryz.func52,Tryz.ntmps52
 go_wp2_with (first | (go_at_call 53;refine (small_any c _).mono ?_;rintro e w' ⟨rfl,rfl⟩) | (at_builtin;refine wpList_append_own _ rfl (.tmp 5) (.tmp 8) _ rfl B 5 i0 _ 1 1 Tryz.underlying51 hi hz0 hz1 hz2 rfl (by decide) v n xs rfl (hown.alloc _) ⟨w.heap.size,0,none⟩ 1 1 [.int .u8 ((Nm.small c).toNat : Int)] rfl rfl ?c1 ?c2 ?c3 ?c4 ?c5 (fun v' w1 hown1 hg1 _=>?_)))
 case c1=>exact cell_one_new _ _ _
 case c2=>simp [Value.oneCell']
 case c3=>unfold maxLen;omega
 case c4=>omega
 case c5=>simp;omega
 go_ret
 refine ⟨v',rfl,hown1,?_⟩
 refine ((Below.refl _ _).alloc hB _).grown hg1 (by simp;omega) ?_
 intro k hk
 exact (hown.lt k hk).1
end Go.Proofs.YtekafhogiambaaaGreatDoor
namespace Go.Proofs.YtekafhogiambaaaGreatDoor
open Go.RowKit
def mkc (os : List Nat) (c : Nat) : Array Value:=((os.map fun (o : Nat)=>Value.int .u8 (o : Int)) ++ List.replicate (128 - os.length) (Value.int .u8 0) ++ [Value.int .i64 (c : Int)]).toArray
theorem mkc_zero : Tryz.zeroCells80 = mkc [] 0:=by kernel_rfl
theorem mkc_size {os : List Nat} (c : Nat) (h : os.length ≤ 128) : (mkc os c).size = 129:=by simp [mkc];omega
theorem mkc_count {os : List Nat} (c : Nat) (h : os.length ≤ 128) : (mkc os c)[128]? = some (.int .i64 (c : Int)):=by
 unfold mkc
 rw [List.getElem?_toArray,List.getElem?_append_right (by simp;omega)]
 simp [show 128 - (os.length + (128 - os.length)) = 0 from by omega]
theorem mkc_free {os : List Nat} (c j : Nat) (h : os.length ≤ j) (h2 : j < 128) : (mkc os c)[j]? = some (.int .u8 0):=by
 unfold mkc
 rw [List.getElem?_toArray,List.getElem?_append_left (by simp;omega),List.getElem?_append_right (by simp;omega)]
 simp [List.getElem?_replicate];omega
theorem mkc_at {os : List Nat} (c j o : Nat) (h : os[j]? = some o) : (mkc os c)[j]? = some (.int .u8 (o : Int)):=by
 have hj : j < os.length:=(List.getElem?_eq_some_iff.1 h).1
 unfold mkc
 rw [List.getElem?_toArray,List.getElem?_append_left (by simp;omega),List.getElem?_append_left (by simpa using hj)]
 simp [h]
theorem mkc_push {os : List Nat} (c x : Nat) (h : os.length < 128) : (mkc os c).setIfInBounds os.length (.int .u8 (x : Int)) = mkc (os ++ [x]) c:=by
 unfold mkc
 rw [List.setIfInBounds_toArray,List.append_assoc,List.set_append_right _ _ (by simp)]
 congr 1
 obtain ⟨m,hm⟩ : ∃ m,128 - os.length = m + 1:=⟨127 - os.length,by omega⟩
 have hm' : 128 - (os ++ [x]).length = m:=by simp;omega
 rw [hm,hm',List.replicate_succ]
 simp
theorem mkc_set {os : List Nat} (c d : Nat) (h : os.length ≤ 128) : (mkc os c).setIfInBounds 128 (.int .i64 (d : Int)) = mkc os d:=by
 unfold mkc
 rw [List.setIfInBounds_toArray,List.set_append_right _ _ (by simp;omega)]
 simp [show 128 - (os.length + (128 - os.length)) = 0 from by omega]
def At (l : List UInt8) (k : Nat) (ps : List (List UInt8)) : Prop:=k ≤ l.length ∧ l = Nm.body ps ++ l.drop k ∧ (Nm.body ps).length = k ∧ Nm.Good ps ∧ Nm.sp l = (Nm.sp (l.drop k)).map (ps ++ ·)
def Over (l : List UInt8) (k : Nat) : Prop:=l.length < k ∧ k ≤ 400 ∧ Nm.sp l = none
theorem At.zero (l : List UInt8) : At l 0 []:=⟨Nat.zero_le _,rfl,rfl,(by intro x hx;simp at hx),(by simp)⟩
theorem At.step {l : List UInt8} {k : Nat} {ps : List (List UInt8)} {c : UInt8} (h : At l k ps) (hk : k < l.length) (hc : l[k] = c) (h0 : c.toNat ≠ 0) (h2 : c.toNat ≤ 63) (hl : l.length ≤ 255) :
 At l (k + 1 + c.toNat) (ps ++ [(l.drop (k + 1)).take c.toNat]) ∨ Over l (k + 1 + c.toNat):=by
 obtain ⟨_,a,b,g,d⟩:=h
 have e : l.drop k = c :: l.drop (k + 1):=by rw [← hc];exact Nm.drop_cons hk
 rw [e] at a d
 by_cases h3 : c.toNat ≤ (l.drop (k + 1)).length
 · left
   obtain ⟨p,q⟩:=Nm.sp_step a d h0 h2 h3
   have hb : Nm.body (ps ++ [(l.drop (k + 1)).take c.toNat]) = Nm.body ps ++ c :: (l.drop (k + 1)).take c.toNat:=by
    rw [Nm.body_append];congr 1;rw [Nm.body_cons,Nm.lab_take h3];simp [Nm.body_nil]
   have hd : l.drop (k + 1 + c.toNat) = (l.drop (k + 1)).drop c.toNat:=by rw [List.drop_drop]
   refine ⟨by simp at h3;omega,by rw [hb,hd];exact p,?_,?_,by rw [hd];exact q⟩
   · rw [Nm.body_snoc_length,b,List.length_take,Nat.min_eq_left h3]
   · intro x hx
     rcases List.mem_append.1 hx with hx | hx
     · exact g x hx
     · simp at hx;subst hx;simp at h3 ⊢;omega
 · right
   refine ⟨by simp at h3;omega,by omega,?_⟩
   rw [d,Nm.sp_bad h0 (Or.inr (by omega))];rfl
theorem At.bad {l : List UInt8} {k : Nat} {ps : List (List UInt8)} (h : At l k ps) (hk : k < l.length) (h2 : 63 < (l[k]).toNat) : Nm.sp l = none:=by
 rw [h.2.2.2.2,Nm.drop_cons hk,Nm.sp_bad (by omega) (Or.inl h2)];rfl
theorem At.endless {l : List UInt8} {ps : List (List UInt8)} (h : At l l.length ps) : Nm.sp l = none:=by
 rw [h.2.2.2.2,List.drop_length];rfl
theorem At.early {l : List UInt8} {k : Nat} {ps : List (List UInt8)} (h : At l k ps) (hk : k + 1 < l.length) (h2 : (l[k]).toNat = 0) : Nm.sp l = none:=by
 rw [h.2.2.2.2,Nm.drop_cons (by omega),Nm.sp_zero h2,if_neg (by simp;omega)];rfl
theorem At.done {l : List UInt8} {k : Nat} {ps : List (List UInt8)} (h : At l k ps) (hk : k + 1 = l.length) (h2 : (l[k]).toNat = 0) : Nm.sp l = some ps:=by
 rw [h.2.2.2.2,Nm.drop_cons (by omega),Nm.sp_zero h2,if_pos (by simp;omega)];simp
theorem At.few {l : List UInt8} {k : Nat} {ps : List (List UInt8)} (h : At l k ps) (hl : l.length ≤ 255) : 2 * ps.length ≤ k ∧ ps.length ≤ 127:=by
 have:=Nm.good_count h.2.2.2.1
 have h1:=h.1
 have hb:=h.2.2.1
 omega
def marksV (ls : List (List UInt8)) : Array Value:=mkc (Nm.offs ls) ls.length
def marksR (l : List UInt8) : Value:=match Nm.split l with
 | none=>.tuple #[.agg (mkc [] 0),.bool false]
 | some ls=>.tuple #[.agg (marksV ls),.bool true]
theorem marksR_none {l : List UInt8} (h : Nm.split l = none) : marksR l = .tuple #[.agg (mkc [] 0),.bool false]:=by unfold marksR;rw [h]
theorem marksR_some {l : List UInt8} {ls : List (List UInt8)} (h : Nm.split l = some ls) : marksR l = .tuple #[.agg (marksV ls),.bool true]:=by unfold marksR;rw [h]
theorem mkc_one (os : List Nat) (c : Nat) : (mkc os c).all (·.oneCell') = true:=by
 rw [Array.all_eq_true_iff_forall_mem]
 intro v hv
 simp [mkc] at hv
 rcases hv with ⟨a,_,rfl⟩ | ⟨_,rfl⟩ | rfl <;> rfl
theorem markInfo {os : List Nat} (c : Nat) (h : os.length ≤ 128) : (Tryz.prog.info? 80).map (·.size) = some (mkc os c).size:=by
 rw [mkc_size c h];kernel_rfl
theorem zeroMarks_size : (mkc [] 0).size = Tryz.zeroCells80.size:=by rw [mkc_zero]
theorem marks_no {w wr : World} {a : Act} {l : List UInt8} (h2 : a.tmps.getD 2 undef = .pointer (some ⟨w.heap.size,0,none⟩)) (h3 : a.tmps.getD 3 undef = .bool false) (hd : a.defers = [])
 (hA : Has wr w.heap.size 80 (mkc [] 0)) (hB : Below w.heap.size w wr) (hl : Nm.split l = none) :
 bodyPost Tryz.prog Tryz.f26 (fun e w' => e = .returned (marksR l) ∧ Below w.heap.size w w') .ret a (wr.setRow w.heap.size (mkc [] 0)):=by
 refine bodyPost_ret (results_row_tmp (p:=2) (u:=3) (ty:=80) rfl _ _ w.heap.size 80 (mkc [] 0) _ h2 (hA.row _) Tryz.underlying80 rfl (markInfo 0 (by simp))) hd ?_
 exact ⟨by rw [h3,marksR_none hl],below_setRow hB (Nat.le_refl _) _⟩
theorem marks_yes {w wr : World} {a : Act} {l : List UInt8} {ps : List (List UInt8)} (h2 : a.tmps.getD 2 undef = .pointer (some ⟨w.heap.size,0,none⟩)) (h3 : a.tmps.getD 3 undef = .bool true) (hd : a.defers = [])
 (hA : Has wr w.heap.size 80 (mkc [] 0)) (hB : Below w.heap.size w wr) (hl : Nm.split l = some ps) (hp : ps.length ≤ 127) :
 bodyPost Tryz.prog Tryz.f26 (fun e w' => e = .returned (marksR l) ∧ Below w.heap.size w w') .ret a (wr.setRow w.heap.size (marksV ps)):=by
 refine bodyPost_ret (results_row_tmp (p:=2) (u:=3) (ty:=80) rfl _ _ w.heap.size 80 (marksV ps) _ h2 (hA.row _) Tryz.underlying80 rfl (markInfo _ (by rw [Nm.offs_length];omega))) hd ?_
 exact ⟨by rw [h3,marksR_some hl],below_setRow hB (Nat.le_refl _) _⟩
set_option maxHeartbeats 1000000 in
theorem marksOf_any (s : ByteArray) (w : World) (hs : s.size ≤ 140737488355328) :
 Calls Tryz.prog 26 #[.string s] w fun e w' => e = .returned (marksR s.data.toList) ∧ Below w.heap.size w w':=by
 have hz : Has ((w.alloc (.cells Tryz.zeroCells80 80)).alloc (.cells Tryz.zeroCells80 80)) w.heap.size 80 (mkc [] 0):=by
  rw [mkc_zero];exact (Has.fresh w _ _).alloc _
 have hz2 : Has ((w.alloc (.cells Tryz.zeroCells80 80)).alloc (.cells Tryz.zeroCells80 80)) (w.heap.size + 1) 80 (mkc [] 0):=by
  rw [mkc_zero];have:=Has.fresh (w.alloc (.cells (mkc [] 0) 80)) 80 (mkc [] 0);simpa using this
 have hz1 : Has (w.alloc (.cells Tryz.zeroCells80 80)) w.heap.size 80 (mkc [] 0):=by
  rw [mkc_zero];exact Has.fresh w _ _
 have HZ:=Lib.hid hz
 have HZ1:=Lib.hid hz1
 have HZ2:=Lib.hid hz2
 have HM : Hid (∀ c : Nat,(Tryz.prog.info? 80).map (·.size) = some (mkc [] c).size):=fun c=>markInfo c (by simp)
 have HM0 : Hid ((Tryz.prog.info? 80).map (·.size) = some Tryz.zeroCells80.size):=by rw [Hid,← zeroMarks_size];exact HM.out 0
 clear hz hz2 hz1
 by_cases hbig : s.size ≤ 255
 · go_enter Tryz.func26,Tryz.ntmps26
   go_wp2
   have hb0 : Below w.heap.size w ((w.alloc (.cells Tryz.zeroCells80 80)).alloc (.cells Tryz.zeroCells80 80)):=((Below.refl _ _).alloc (Nat.le_refl _) _).alloc (by simp) _
   generalize (w.alloc (.cells Tryz.zeroCells80 80)).alloc (.cells Tryz.zeroCells80 80) = w1 at *
   go_loopw [5] (fun i wr => ∃ k c : Nat, ∃ ps,i = .int .i64 k ∧ c = ps.length ∧ Has wr w.heap.size 80 (mkc [] 0) ∧ Has wr (w.heap.size + 1) 80 (mkc (Nm.starts ps) c) ∧ Below w.heap.size w wr ∧ (At s.data.toList k ps ∨ Over s.data.toList k)) (fun i _=>s.size - (intOf i).toNat)
   case atStart=>exact ⟨0,0, [],rfl,rfl,HZ.out,HZ2.out,hb0,.inl (At.zero _)⟩
   case round =>
    clear HZ1 HZ HZ2 hb0
    obtain ⟨k,c,ps,rfl,hc,hA,hB,hbel,hat⟩:=hrel
    have HA:=Lib.hid hA
    have HB:=Lib.hid hB
    have HBL:=Lib.hid hbel
    have HC:=Lib.hid hc
    have hsz : s.data.toList.length = s.size:=by simp
    have HSZ:=Lib.hid hsz
    clear hA hB hbel hc hsz
    have HSP : Hid (Nm.split s.data.toList = Nm.sp s.data.toList):=Nm.split_of_sp (by rw [HSZ.out];exact hbig)
    rcases hat with hat | hat
    · have hk:=hat.1
      rw [HSZ.out] at hk
      have hfew:=hat.few (by rw [HSZ.out];exact hbig)
      rw [← HC.out] at hfew
      obtain ⟨hf1,hf2⟩:=hfew
      have hstl : (Nm.starts ps).length = c:=by rw [Nm.starts_length,HC.out]
      have HSL:=Lib.hid hstl
      have AT:=Lib.hid hat
      clear hat hstl
      by_cases hlt : k < s.size
      · have h8 : s[k].toNat < 256:=s[k].toNat_lt
        by_cases h0 : s[k].toNat = 0
        · by_cases hns : k + 1 < s.size
          · go_wp2_with (refine wpList_store_row rfl 80 (.tmp 2) (.tmp 54) rfl w.heap.size Tryz.zeroCells80 rfl rfl 80 (mkc [] 0) HA.out HM0.out zeroMarks_size (by rw [mkc_zero];exact mkc_one _ _) ?_)
            rw [mkc_zero]
            exact marks_no rfl rfl rfl HA.out HBL.out (by rw [HSP.out];exact (AT.out.early (by rw [HSZ.out];exact hns) h0))
          · have hq : (s.size : Int) - 1 = k:=by omega
            have h128 : wr.cell? ⟨w.heap.size + 1,128,none⟩ = some (.int .i64 c):=by rw [HB.out.cell,mkc_count _ (by rw [HSL.out];omega)]
            have hcc : wr.cell? ⟨w.heap.size + 1,c,none⟩ = some (.int .u8 0):=by rw [HB.out.cell,mkc_free _ _ (by rw [HSL.out];omega) (by omega)]
            have hfr : ∀ i,wr.frozen? ⟨w.heap.size + 1,i,none⟩ = false:=HB.out.free
            have hB2 : Hid (Has (wr.setCell ⟨w.heap.size + 1,c,none⟩ (.int .u8 k)) (w.heap.size + 1) 80 (marksV ps)):=by
             have:=HB.out.set c (.int .u8 (k : Int))
             have e:=mkc_push (os:=Nm.starts ps) c k (by rw [HSL.out];omega)
             rw [HSL.out] at e
             rw [e] at this
             have e2 : marksV ps = mkc (Nm.starts ps ++ [k]) c:=by unfold marksV Nm.offs;rw [AT.out.2.2.1,HC.out]
             rw [e2];exact this
            have hA2 : Hid (Has (wr.setCell ⟨w.heap.size + 1,c,none⟩ (.int .u8 k)) w.heap.size 80 (mkc [] 0)):=HA.out.far (by simp) _
            have HS : Hid (Nm.split s.data.toList = some ps):=by rw [Hid,HSP.out];exact AT.out.done (by rw [HSZ.out];omega) h0
            have HI : Hid ((Tryz.prog.info? 80).map (·.size) = some (marksV ps).size):=markInfo _ (by rw [Nm.offs_length,← HC.out];omega)
            have HOld : Hid ((mkc [] 0).size = (marksV ps).size):=by rw [Hid,mkc_size _ (by simp),marksV,mkc_size _ (by rw [Nm.offs_length,← HC.out];omega)]
            go_wp2_with (first | (refine wpList_load_row rfl 80 (.tmp 4) rfl (w.heap.size + 1) rfl 80 (marksV ps) (0,0) _ hB2.out Tryz.underlying80 rfl HI.out ?_) | (refine wpList_store_row rfl 80 (.tmp 2) (.tmp 61) rfl w.heap.size (marksV ps) rfl rfl 80 (mkc [] 0) hA2.out HI.out HOld.out (mkc_one _ _) ?_))
            exact marks_yes rfl rfl rfl hA2.out (HBL.out.setCell (by simp) _) HS.out (by rw [← HC.out];omega)
        · by_cases h63 : 63 < s[k].toNat
          · have hne : ((s[k].toNat : Int) != 0) = true:=by rw [bne_iff_ne];omega
            by_cases hns : k + 1 < s.size
            · go_wp2_with (refine wpList_store_row rfl 80 (.tmp 2) (.tmp 54) rfl w.heap.size Tryz.zeroCells80 rfl rfl 80 (mkc [] 0) HA.out HM0.out zeroMarks_size (by rw [mkc_zero];exact mkc_one _ _) ?_)
              rw [mkc_zero]
              exact marks_no rfl rfl rfl HA.out HBL.out (by rw [HSP.out];exact (AT.out.bad (by rw [HSZ.out];exact hlt) h63))
            · have hq : (s.size : Int) - 1 = k:=by omega
              go_wp2_with (refine wpList_store_row rfl 80 (.tmp 2) (.tmp 54) rfl w.heap.size Tryz.zeroCells80 rfl rfl 80 (mkc [] 0) HA.out HM0.out zeroMarks_size (by rw [mkc_zero];exact mkc_one _ _) ?_)
              rw [mkc_zero]
              exact marks_no rfl rfl rfl HA.out HBL.out (by rw [HSP.out];exact (AT.out.bad (by rw [HSZ.out];exact hlt) h63))
          · have h128 : wr.cell? ⟨w.heap.size + 1,128,none⟩ = some (.int .i64 c):=by rw [HB.out.cell,mkc_count _ (by rw [HSL.out];omega)]
            have hcc : wr.cell? ⟨w.heap.size + 1,c,none⟩ = some (.int .u8 0):=by rw [HB.out.cell,mkc_free _ _ (by rw [HSL.out];omega) (by omega)]
            have hfr : ∀ i,wr.frozen? ⟨w.heap.size + 1,i,none⟩ = false:=HB.out.free
            have h128' : ∀ v,(wr.setCell ⟨w.heap.size + 1,c,none⟩ v).cell? ⟨w.heap.size + 1,128,none⟩ = some (.int .i64 c):=fun v=>by rw [cell_set_off v (by omega)];exact h128
            have H2 : Hid (Has ((wr.setCell ⟨w.heap.size + 1,c,none⟩ (.int .u8 k)).setCell ⟨w.heap.size + 1,128,none⟩ (.int .i64 ((c : Int) + 1))) (w.heap.size + 1) 80 (mkc (Nm.starts ps ++ [k]) (c + 1))):=by
             have:=(HB.out.set c (.int .u8 (k : Int))).set 128 (.int .i64 ((c + 1 : Nat) : Int))
             have e:=mkc_push (os:=Nm.starts ps) c k (by rw [HSL.out];omega)
             rw [HSL.out] at e
             rw [e,mkc_set _ _ (by simp [HSL.out];omega)] at this
             exact this
            have HST:=Lib.hid (AT.out.step (c:=s[k]) (by rw [HSZ.out];exact hlt) rfl h0 (Nat.le_of_not_lt h63) (by rw [HSZ.out];exact hbig))
            have HSN : Hid (∀ x,mkc (Nm.starts (ps ++ [x])) (c + 1) = mkc (Nm.starts ps ++ [k]) (c + 1)):=fun x=>by rw [Nm.starts_snoc,AT.out.2.2.1]
            go_wp2
            go_roundw
            case rel =>
             refine ⟨k + 1 + s[k].toNat,c + 1,ps ++ [(s.data.toList.drop (k + 1)).take s[k].toNat],by go_num,by rw [List.length_append,HC.out];rfl,(HA.out.far (by simp) _).far (by simp) _,?_,(HBL.out.setCell (by simp) _).setCell (by simp) _,HST.out⟩
             rw [HSN.out];exact H2.out
            case measure=>simp [intOf];omega
      · obtain rfl : k = s.size:=by omega
        go_wp2_with (refine wpList_store_row rfl 80 (.tmp 2) (.tmp 54) rfl w.heap.size Tryz.zeroCells80 rfl rfl 80 (mkc [] 0) HA.out HM0.out zeroMarks_size (by rw [mkc_zero];exact mkc_one _ _) ?_)
        rw [mkc_zero]
        exact marks_no rfl rfl rfl HA.out HBL.out (by rw [HSP.out];exact (by have:=AT.out;rw [← HSZ.out] at this;exact this.endless))
    · have hov:=hat.1
      rw [HSZ.out] at hov
      have hov2:=hat.2.1
      go_wp2_with (refine wpList_store_row rfl 80 (.tmp 2) (.tmp 54) rfl w.heap.size Tryz.zeroCells80 rfl rfl 80 (mkc [] 0) HA.out HM0.out zeroMarks_size (by rw [mkc_zero];exact mkc_one _ _) ?_)
      rw [mkc_zero]
      exact marks_no rfl rfl rfl HA.out HBL.out (by rw [HSP.out];exact (hat.2.2))
 · go_enter Tryz.func26,Tryz.ntmps26
   go_wp2_with (refine wpList_store_row rfl 80 (.tmp 2) (.tmp 9) rfl w.heap.size Tryz.zeroCells80 rfl rfl 80 (mkc [] 0) HZ1.out HM0.out zeroMarks_size (by rw [mkc_zero];exact mkc_one _ _) ?_)
   rw [mkc_zero]
   exact marks_no rfl rfl rfl HZ1.out ((Below.refl _ _).alloc (Nat.le_refl _) _) (Nm.split_long (by simpa using hbig))
end Go.Proofs.YtekafhogiambaaaGreatDoor
namespace Go.Proofs.YtekafhogiambaaaGreatDoor
open Go.RowKit
set_option maxHeartbeats 400000 in
theorem label_any (s : ByteArray) (g i : Nat) (ls : List (List UInt8)) (w : World) (h : Has w g 80 (marksV ls)) (hn : Nm.split s.data.toList = some ls) (hi : i < ls.length) :
 Calls Tryz.prog 80 #[.pointer (some ⟨g,0,none⟩),.string s,.int .i64 i] w fun e w' => e = .returned (sv ls[i]) ∧ ∃ n,w' = w.drewN n:=by
 obtain ⟨hl,hg,h255⟩:=Nm.split_some.1 hn
 have hlen : (Nm.glue ls).length = s.size:=by rw [← hl];simp
 have hcut : sv ls[i] = .string (s.extract ((Nm.body (ls.take i)).length + 1) (Nm.body (ls.take (i + 1))).length):=by
  unfold sv
  rw [← string_eq (s:=s.extract _ _)]
  rw [extract_list,hl,Nm.label_cut hi]
 have hcnt:=Nm.good_count hg
 have hbl:=Nm.glue_length ls
 have h255' : s.size ≤ 255:=by simpa using h255
 have c1 : w.cell? ⟨g,i,none⟩ = some (.int .u8 ((Nm.body (ls.take i)).length : Nat)):=by rw [h.cell];exact mkc_at _ _ _ (Nm.offs_get ls i (by omega))
 have c2 : w.cell? ⟨g,i + 1,none⟩ = some (.int .u8 ((Nm.body (ls.take (i + 1))).length : Nat)):=by rw [h.cell];exact mkc_at _ _ _ (Nm.offs_get ls (i + 1) (by omega))
 have hts:=Nm.take_succ_body hi
 have hle:=Nm.body_take_le (ls:=ls) (i:=i + 1)
 have hi' : i + 1 ≤ 127:=by omega
 have hb1 : (Nm.body (ls.take i)).length + 1 ≤ (Nm.body (ls.take (i + 1))).length:=by omega
 have hb2 : (Nm.body (ls.take (i + 1))).length + 1 ≤ s.size:=by omega
 rw [hcut]
 clear hcut hl hg h255 hn hlen hcnt hbl hts hle h
 generalize (Nm.body (ls.take (i + 1))).length = b at *
 generalize (Nm.body (ls.take i)).length = a at *
 go_enter Tryz.func80,Tryz.ntmps80
 go_wp2
 go_quiet (fail)
 go_wp2
 go_ret
 exact ⟨rfl,_,rfl⟩
theorem marks_none (s : ByteArray) (w : World) (hs : s.size ≤ 140737488355328) (h : Nm.split s.data.toList = none) :
 Calls Tryz.prog 26 #[.string s] w fun e w' => e = .returned (.tuple #[.agg (mkc [] 0),.bool false]) ∧ Below w.heap.size w w' :=
 (marksOf_any s w hs).mono fun _ _ ⟨he,hb⟩=>⟨by rw [he,marksR_none h],hb⟩
theorem marks_some (s : ByteArray) (ls : List (List UInt8)) (w : World) (hs : s.size ≤ 140737488355328) (h : Nm.split s.data.toList = some ls) :
 Calls Tryz.prog 26 #[.string s] w fun e w' => e = .returned (.tuple #[.agg (marksV ls),.bool true]) ∧ Below w.heap.size w w' :=
 (marksOf_any s w hs).mono fun _ _ ⟨he,hb⟩=>⟨by rw [he,marksR_some h],hb⟩
theorem few {l : List UInt8} {ls : List (List UInt8)} (h : Nm.split l = some ls) : ls.length ≤ 127:=by
 obtain ⟨hl,hg,h255⟩:=Nm.split_some.1 h
 have:=Nm.good_count hg
 have:=Nm.glue_length ls
 rw [hl] at h255
 omega
theorem marks_stored {w w1 : World} {os : List Nat} {c : Nat} (hb : Below w.heap.size w w1) :
 Has ((w1.alloc (.cells Tryz.zeroCells80 80)).setRow w1.heap.size (mkc os c)) w1.heap.size 80 (mkc os c) ∧ Below w.heap.size w ((w1.alloc (.cells Tryz.zeroCells80 80)).setRow w1.heap.size (mkc os c)) :=
 ⟨(Has.fresh w1 _ _).row _,below_setRow (hb.alloc hb.size _) hb.size _⟩
theorem Check_any (s : ByteArray) (w : World) (hs : s.size ≤ 140737488355328) :
 Calls Tryz.prog 13 #[.string s] w fun e w' => e = .returned (.int .i64 (if (Nm.split s.data.toList).isSome then 0 else 11)) ∧ Below w.heap.size w w':=by
 have HZ : ∀ w1 : World,Hid (Has (w1.alloc (.cells Tryz.zeroCells80 80)) w1.heap.size 80 Tryz.zeroCells80):=fun w1=>Has.fresh w1 _ _
 rcases hn : Nm.split s.data.toList with _ | ls
 · have hm:=Lib.hid (marks_none s w hs hn)
   have HI:=Lib.hid (markInfo (os := []) 0 (by simp))
   clear hn
   go_enter Tryz.func13,Tryz.ntmps13
   go_wp2_with (first | (go_at_call 26;refine hm.out.mono ?_;rintro e w1 ⟨rfl,hb1⟩) | (refine wpList_store_row rfl 80 (.tmp 3) (.tmp 8) rfl w1.heap.size (mkc [] 0) rfl rfl 80 Tryz.zeroCells80 (HZ w1).out HI.out zeroMarks_size.symm (mkc_one _ _) ?_))
   go_ret
   exact ⟨rfl,(marks_stored hb1).2⟩
 · have hm:=Lib.hid (marks_some s ls w hs hn)
   have ho : (Nm.offs ls).length ≤ 128:=by rw [Nm.offs_length];have:=few hn;omega
   have HI : Hid ((Tryz.prog.info? 80).map (·.size) = some (marksV ls).size):=markInfo (os:=Nm.offs ls) ls.length ho
   have HO : Hid (Tryz.zeroCells80.size = (marksV ls).size):=by rw [Hid,← zeroMarks_size,mkc_size _ (by simp),marksV,mkc_size _ ho]
   clear hn
   go_enter Tryz.func13,Tryz.ntmps13
   go_wp2_with (first | (go_at_call 26;refine hm.out.mono ?_;rintro e w1 ⟨rfl,hb1⟩) | (refine wpList_store_row rfl 80 (.tmp 3) (.tmp 8) rfl w1.heap.size (marksV ls) rfl rfl 80 Tryz.zeroCells80 (HZ w1).out HI.out HO.out (mkc_one _ _) ?_))
   go_ret
   exact ⟨rfl,(marks_stored hb1).2⟩
def labelsOf (l : List UInt8) : List (List UInt8):=(Nm.split l).getD []
set_option maxHeartbeats 400000 in
theorem Labels_any (s : ByteArray) (w : World) (hs : s.size ≤ 140737488355328) :
 Calls Tryz.prog 49 #[.string s] w fun e w' => ∃ v,e = .returned v ∧ w'.ownsRow w.heap.size 9 1 v (labelsOf s.data.toList).length (svs (labelsOf s.data.toList)) ∧ Below w.heap.size w w':=by
 have HZ : ∀ w1 : World,Hid (Has (w1.alloc (.cells Tryz.zeroCells80 80)) w1.heap.size 80 Tryz.zeroCells80):=fun w1=>Has.fresh w1 _ _
 obtain ⟨i0,hi,hz0,hz1,hz2⟩:=info_parts Tryz.infoString
 unfold labelsOf
 rcases hn : Nm.split s.data.toList with _ | ls
 · have hm:=Lib.hid (marks_none s w hs hn)
   have HI:=Lib.hid (markInfo (os := []) 0 (by simp))
   have hc : ∀ w1 : World,((w1.alloc (.cells Tryz.zeroCells80 80)).setRow w1.heap.size (mkc [] 0)).cell? ⟨w1.heap.size,128,none⟩ = some (.int .i64 0):=fun w1=>by
    rw [((Has.fresh w1 _ _).row _).cell];exact mkc_count 0 (by simp)
   clear hn
   go_enter Tryz.func49,Tryz.ntmps49
   go_wp2_with (first | (go_at_call 26;refine hm.out.mono ?_;rintro e w1 ⟨rfl,hb1⟩) | (refine wpList_store_row rfl 80 (.tmp 3) (.tmp 10) rfl w1.heap.size (mkc [] 0) rfl rfl 80 Tryz.zeroCells80 (HZ w1).out HI.out zeroMarks_size.symm (mkc_one _ _) ?_))
   refine wp_loop_rounds 1 ?_
   rw [rounds_succ]
   go_wp2
   go_ret
   exact ⟨_,rfl,World.ownsRow_nil _ _ _ _,(marks_stored hb1).2⟩
 · have hm:=Lib.hid (marks_some s ls w hs hn)
   have hfew:=few hn
   have ho : (Nm.offs ls).length ≤ 128:=by rw [Nm.offs_length];omega
   have HI : Hid ((Tryz.prog.info? 80).map (·.size) = some (marksV ls).size):=markInfo (os:=Nm.offs ls) ls.length ho
   have HO : Hid (Tryz.zeroCells80.size = (marksV ls).size):=by rw [Hid,← zeroMarks_size,mkc_size _ (by simp),marksV,mkc_size _ ho]
   have hc : ∀ w1 : World,((w1.alloc (.cells Tryz.zeroCells80 80)).setRow w1.heap.size (marksV ls)).cell? ⟨w1.heap.size,128,none⟩ = some (.int .i64 (ls.length : Nat)):=fun w1=>by
    rw [((Has.fresh w1 _ _).row _).cell];exact mkc_count _ ho
   have HN:=Lib.hid hn
   clear hn
   go_enter Tryz.func49,Tryz.ntmps49
   go_wp2_with (first | (go_at_call 26;refine hm.out.mono ?_;rintro e w1 ⟨rfl,hb1⟩) | (refine wpList_store_row rfl 80 (.tmp 3) (.tmp 10) rfl w1.heap.size (marksV ls) rfl rfl 80 Tryz.zeroCells80 (HZ w1).out HI.out HO.out (mkc_one _ _) ?_))
   have hst:=marks_stored (os:=Nm.offs ls) (c:=ls.length) hb1
   have hbs:=hb1.size
   change Has ((w1.alloc (.cells Tryz.zeroCells80 80)).setRow w1.heap.size (marksV ls)) w1.heap.size 80 (marksV ls) ∧ Below w.heap.size w ((w1.alloc (.cells Tryz.zeroCells80 80)).setRow w1.heap.size (marksV ls)) at hst
   have hsz2 : ((w1.alloc (.cells Tryz.zeroCells80 80)).setRow w1.heap.size (marksV ls)).heap.size = w1.heap.size + 1:=by simp
   generalize (w1.alloc (.cells Tryz.zeroCells80 80)).setRow w1.heap.size (marksV ls) = w2 at *
   go_loopw [5,14] (fun v i wr => ∃ k : Nat,i = .int .i64 k ∧ k ≤ ls.length ∧ wr.ownsRow w2.heap.size 9 1 v k (svs (ls.take k)) ∧ Below w2.heap.size w2 wr) (fun _ i _=>ls.length - (intOf i).toNat)
   case atStart=>exact ⟨0,rfl,Nat.zero_le _,World.ownsRow_nil _ _ _ _,Below.refl _ _⟩
   case round =>
    obtain ⟨k,rfl,hk,hown,hb⟩:=hrel
    have HW:=Lib.hid hown
    have HB:=Lib.hid hb
    have hbs2:=hb.size
    have hM : Has wr w1.heap.size 80 (marksV ls):=hst.1.below hb (by omega)
    have HM:=Lib.hid hM
    clear hown hb hM hsz2
    by_cases hlt : k < ls.length
    · have hsn : svs (ls.take (k + 1)) = svs (ls.take k) ++ [sv ls[k]]:=by rw [List.take_succ_eq_append_getElem hlt,svs_append];rfl
      have HSN:=Lib.hid hsn
      clear hsn
      go_wp2_with (first | (go_at_call 80;refine (label_any s _ k ls _ HM.out HN.out hlt).mono ?_;rintro e w3 ⟨rfl,nn,rfl⟩) | (at_builtin;refine wpList_append_own _ rfl (.tmp 17) (.tmp 21) _ rfl w2.heap.size 9 i0 _ 1 16 Tryz.underlying45 hi hz0 hz1 hz2 rfl (by decide) _ k (svs (ls.take k)) rfl (World.ownsRow.alloc (w:=wr.drewN nn) HW.out _) ⟨wr.heap.size,0,none⟩ 1 1 [sv ls[k]] rfl rfl ?c1 ?c2 ?c3 ?c4 ?c5 (fun v' w4 hown1 hg1 _=>?_)))
      case c1=>exact cell_one_new _ _ _
      case c2=>simp [Value.oneCell']
      case c3=>unfold maxLen;omega
      case c4=>omega
      case c5=>simp;omega
      go_roundw
      case rel=>exact ⟨k + 1,by go_num,by omega,by rw [HSN.out];exact hown1,(((below_drewN HB.out nn).alloc (by simp;omega) _).grown hg1 (by simp;omega) (fun j hj=>(HW.out.lt j hj).1))⟩
      case measure=>simp [intOf];omega
    · obtain rfl : k = ls.length:=by omega
      have hw : wr.ownsRow w2.heap.size 9 1 u5 ls.length (svs ls):=by have:=HW.out;rwa [List.take_length] at this
      have HW2:=Lib.hid hw
      clear hw HW
      go_wp2
      go_ret
      exact ⟨_,rfl,own_mono HW2.out hst.2.size,hst.2.trans (HB.out.mono hst.2.size)⟩
end Go.Proofs.YtekafhogiambaaaGreatDoor
namespace Go.Proofs.YtekafhogiambaaaGreatDoor
open Go.RowKit
theorem At.cut {l : List UInt8} {k : Nat} {ps : List (List UInt8)} {t : ByteArray} (h : t.data.toList = l.drop k) (hk : k < l.length) (_ : At l k ps) : ∃ h0 : 0 < t.size,t[0] = l[k]:=by
 have hs : t.size = l.length - k:=by have:=congrArg List.length h;simpa using this
 refine ⟨by omega,?_⟩
 have e : t.data.toList = l[k] :: l.drop (k + 1):=by rw [h];exact Nm.drop_cons hk
 have h0 : 0 < t.data.toList.length:=by rw [e,List.length_cons];omega
 have h2 : t.data.toList[0]'h0 = l[k]:=by simp only [e,List.getElem_cons_zero]
 rw [← h2];rfl
theorem At.short {l : List UInt8} {k : Nat} {ps : List (List UInt8)} (h : At l k ps) (hk : k < l.length) (h0 : (l[k]).toNat ≠ 0) (h3 : l.length < k + 1 + (l[k]).toNat) : Nm.sp l = none:=by
 rw [h.2.2.2.2,Nm.drop_cons hk,Nm.sp_bad h0 (Or.inr (by simp;omega))];rfl
theorem At.piece {l : List UInt8} {k : Nat} {t : ByteArray} (h : t.data.toList = l.drop k) (c : Nat) : Value.string (t.extract 1 (c + 1)) = sv ((l.drop (k + 1)).take c):=by
 rw [string_eq (extract_list t 1 (c + 1)),h,List.drop_drop]
 show Value.string _ = Value.string _
 rw [show c + 1 - 1 = c from by omega]
theorem At.left {l : List UInt8} {k : Nat} {t : ByteArray} (h : t.data.toList = l.drop k) (c : Nat) : (t.extract (c + 1) t.size).data.toList = l.drop (k + 1 + c):=by
 have hs : t.size = t.data.toList.length:=by simp
 rw [extract_list,List.take_of_length_le (by rw [List.length_drop];omega),h,List.drop_drop]
 congr 1;omega
def SplitPost (w : World) (o : Option (List (List UInt8))) (e : Ending) (w' : World) : Prop :=
 ∃ v,Below w.heap.size w w' ∧ match o with
  | none=>e = .returned (.tuple #[v,.bool false])
  | some ls=>e = .returned (.tuple #[v,.bool true]) ∧ w'.ownsRow w.heap.size 9 1 v ls.length (svs ls)
theorem split_no {w w' : World} {l : List UInt8} {v x : Value} (hb : Below w.heap.size w w') (hl : Nm.split l = none) (hx : x = .bool false) : SplitPost w (Nm.split l) (.returned (.tuple #[v,x])) w':=by
 rw [hl];exact ⟨v,hb,by rw [hx]⟩
theorem split_yes {w w' : World} {l : List UInt8} {v x : Value} {ls : List (List UInt8)} (hb : Below w.heap.size w w') (hl : Nm.split l = some ls) (hx : x = .bool true) (ho : w'.ownsRow w.heap.size 9 1 v ls.length (svs ls)) : SplitPost w (Nm.split l) (.returned (.tuple #[v,x])) w':=by
 rw [hl];exact ⟨v,hb,by rw [hx],ho⟩
theorem eqb_no {a b : Int} (h : a ≠ b) : Value.bool (a == b) = .bool false:=by rw [beq_eq_false_iff_ne.2 h]
theorem eqb_yes {a b : Int} (h : a = b) : Value.bool (a == b) = .bool true:=by rw [beq_iff_eq.2 h]
set_option maxHeartbeats 1000000 in
theorem Split_any (s : ByteArray) (w : World) (_ : s.size ≤ 140737488355328) :
 Calls Tryz.prog 12 #[.string s] w (SplitPost w (Nm.split s.data.toList)):=by
 obtain ⟨i0,hi,hz0,hz1,hz2⟩:=info_parts Tryz.infoString
 by_cases hbig : s.size ≤ 255
 · have hsz : s.data.toList.length = s.size:=by simp
   have hsp : Nm.split s.data.toList = Nm.sp s.data.toList:=Nm.split_of_sp (by rw [hsz];exact hbig)
   have HSZ:=Lib.hid hsz
   have HSP:=Lib.hid hsp
   clear hsz hsp
   go_enter Tryz.func12,Tryz.ntmps12
   go_wp2
   go_loopw [4,5] (fun v t wr => ∃ k ps, ∃ t' : ByteArray,t = .string t' ∧ t'.data.toList = s.data.toList.drop k ∧ At s.data.toList k ps ∧ wr.ownsRow w.heap.size 9 1 v ps.length (svs ps) ∧ Below w.heap.size w wr) (fun _ t _=>match t with | .string t' => t'.size | _=>0)
   case atStart=>exact ⟨0, [],s,rfl,rfl,At.zero _,World.ownsRow_nil _ _ _ _,Below.refl _ _⟩
   case round =>
    obtain ⟨k,ps,t,rfl,ht,hat,hown,hbel⟩:=hrel
    have hk:=hat.1
    rw [HSZ.out] at hk
    have hfew:=(hat.few (by rw [HSZ.out];exact hbig)).2
    have hts : t.size + k = s.size:=by have h:=congrArg List.length ht;simp at h;omega
    have hts1 : t.size + k ≤ s.size:=by omega
    have hts2 : s.size ≤ t.size + k:=by omega
    have HT:=Lib.hid ht
    have AT:=Lib.hid hat
    have HW:=Lib.hid hown
    have HB:=Lib.hid hbel
    have hbs:=hbel.size
    clear ht hat hown hbel hts
    by_cases hlt : k < s.size
    · obtain ⟨hpos,hc0⟩:=AT.out.cut HT.out (by rw [HSZ.out];exact hlt)
      have HC0:=Lib.hid hc0
      clear hc0
      have h8 : t[0].toNat < 256:=t[0].toNat_lt
      by_cases h0 : t[0].toNat = 0
      · go_wp2
        go_ret2
        by_cases h1 : k + 1 < s.size
        · exact split_no HB.out (by rw [HSP.out];exact AT.out.early (by rw [HSZ.out];exact h1) (by rw [← HC0.out];exact h0)) (eqb_no (by omega))
        · exact split_yes HB.out (by rw [HSP.out];exact AT.out.done (by rw [HSZ.out];omega) (by rw [← HC0.out];exact h0)) (eqb_yes (by omega)) HW.out
      · have hne : ((t[0].toNat : Int) == 0) = false:=beq_eq_false_iff_ne.2 (by omega)
        by_cases h63 : 63 < t[0].toNat
        · go_wp2
          go_ret2
          exact split_no HB.out (by rw [HSP.out];exact AT.out.bad (by rw [HSZ.out];exact hlt) (by rw [← HC0.out];exact h63)) rfl
        · by_cases hsh : t.size < 1 + t[0].toNat
          · go_wp2
            go_ret2
            exact split_no HB.out (by rw [HSP.out];exact AT.out.short (by rw [HSZ.out];exact hlt) (by rw [← HC0.out];exact h0) (by rw [← HC0.out,HSZ.out];omega)) rfl
          · have HST:=Lib.hid ((AT.out.step (c:=t[0]) (by rw [HSZ.out];exact hlt) HC0.out.symm h0 (by omega) (by rw [HSZ.out];exact hbig)).resolve_right (fun h=>by have:=h.1;rw [HSZ.out] at this;omega))
            have HP:=Lib.hid (At.piece HT.out t[0].toNat)
            have HL:=Lib.hid (At.left HT.out t[0].toNat)
            go_wp2_with (at_builtin;refine wpList_append_own _ rfl (.tmp 32) (.tmp 37) _ rfl w.heap.size 9 i0 _ 1 16 Tryz.underlying45 hi hz0 hz1 hz2 rfl (by decide) _ ps.length (svs ps) rfl (HW.out.alloc _) ⟨wr.heap.size,0,none⟩ 1 1 [sv ((s.data.toList.drop (k + 1)).take t[0].toNat)] rfl rfl ?c1 ?c2 ?c3 ?c4 ?c5 (fun v' w4 hown1 hg1 _=>?_))
            case c1=>rw [← HP.out];exact cell_one_new _ _ _
            case c2=>simp [Value.oneCell']
            case c3=>unfold maxLen;omega
            case c4=>omega
            case c5=>simp;omega
            go_roundw
            case rel =>
             refine ⟨k + 1 + t[0].toNat,ps ++ [(s.data.toList.drop (k + 1)).take t[0].toNat],_,rfl,HL.out,HST.out,?_,(HB.out.alloc hbs _).grown hg1 (by simp;omega) (fun j hj=>(HW.out.lt j hj).1)⟩
             rw [List.length_append,svs_append];exact hown1
            case measure=>simp;omega
    · obtain rfl : k = s.size:=by omega
      go_wp2
      go_ret2
      exact split_no HB.out (by rw [HSP.out];have:=AT.out;rw [← HSZ.out] at this;exact this.endless) rfl
 · go_enter Tryz.func12,Tryz.ntmps12
   go_wp2
   go_ret2
   exact split_no (Below.refl _ _) (Nm.split_long (by simpa using hbig)) rfl
end Go.Proofs.YtekafhogiambaaaGreatDoor
namespace Go.Proofs.YtekafhogiambaaaGreatDoor
open Go.RowKit
set_option maxHeartbeats 400000 in
theorem each_fold (s : ByteArray) (w : World) (hs : s.size ≤ 140737488355328) :
 Calls Tryz.prog 51 #[.string s,.func (.func 52) #[] #[]] w fun e w' => e = .returned (.string ⟨(Nm.fold s.data.toList).toArray⟩) ∧ Below w.heap.size w w':=by
 obtain ⟨i0,hi,hz0,hz1,hz2⟩:=info_parts Tryz.infoByte
 go_enter Tryz.func51,Tryz.ntmps51
 go_wp2_with (first | (at_make;refine wpList_make_own _ rfl _ _ 51 rfl w.heap.size 5 i0 _ 1 Tryz.underlying51 hi hz0 hz1 .i64 .i64 s.size s.size rfl rfl rfl (by rw [hz2];omega) (by unfold maxLen;omega) (Nat.le_refl _) ?_;intro w1 hown1 hg1))
 go_loopw [5,12] (fun v i wr => ∃ k : Nat,k ≤ s.size ∧ i = .int .i64 k ∧ wr.ownsRow w.heap.size 5 1 v k (bv ((s.data.toList.take k).map Nm.small)) ∧ Below w.heap.size w wr) (fun _ i _=>s.size - (intOf i).toNat)
 case atStart=>exact ⟨0,Nat.zero_le _,rfl,by simpa [bv] using hown1,(Below.refl _ _).grown hg1 (Nat.le_refl _) (by simp)⟩
 case round =>
  obtain ⟨k,hk,rfl,hown,hb⟩:=hrel
  have HO:=Lib.hid hown
  have HB:=Lib.hid hb
  have hbs:=hb.size
  clear hown hb
  by_cases hlt : k < s.size
  · go_wp2_with (first | (go_at_call 52;refine (fold1_any w.heap.size _ k _ s[k] _ hbs HO.out (by omega)).mono ?_;rintro e w2 ⟨v',rfl,hown',hb'⟩))
    go_roundw
    case rel=>exact ⟨k + 1,by omega,by go_num,by rw [bv_take_succ s _ k hlt];exact hown',HB.out.trans hb'⟩
    case measure=>simp [intOf];omega
  · obtain rfl : k = s.size:=by omega
    have HO' : Hid (wr.ownsRow w.heap.size 5 1 u5 s.size (bv (Nm.fold s.data.toList))):=by
     have:=HO.out
     rw [List.take_of_length_le (by simp)] at this
     exact this
    clear HO
    go_wp2_with (refine wpList_convert_own _ rfl 51 9 (.tmp 22) rfl 5 Tryz.underlying51 Tryz.underlying5 Tryz.underlying9 w.heap.size s.size _ (Nm.fold s.data.toList) rfl HO'.out ?_)
    go_ret
    exact ⟨rfl,HB.out⟩
theorem Fold_any (s : ByteArray) (w : World) (hs : s.size ≤ 140737488355328) :
 Calls Tryz.prog 31 #[.string s] w fun e w' => e = .returned (.string ⟨(Nm.fold s.data.toList).toArray⟩) ∧ Below w.heap.size w w':=by
 go_enter Tryz.func31,Tryz.ntmps31
 go_wp2_with (first | (go_at_call 51;refine (each_fold s _ hs).mono ?_;rintro e w1 ⟨rfl,hb1⟩))
 go_ret
 exact ⟨rfl,hb1⟩
def lowAt (l : List UInt8) (k j : Nat) : UInt8:=if j < k then Nm.small (l.getD j 0) else l.getD j 0
theorem lowAt_lt {l : List UInt8} {k j : Nat} (h : j < k) : lowAt l k j = Nm.small (l.getD j 0):=if_pos h
theorem lowAt_ge {l : List UInt8} {k j : Nat} (h : k ≤ j) : lowAt l k j = l.getD j 0:=if_neg (by omega)
set_option maxHeartbeats 400000 in
theorem Low_any (s : ByteArray) (w : World) (hs : s.size ≤ 140737488355328) :
 Calls Tryz.prog 42 #[.string s] w fun e w' => e = .returned (.string ⟨(Nm.fold s.data.toList).toArray⟩) ∧ Below w.heap.size w w':=by
 go_enter Tryz.func42,Tryz.ntmps42
 have kc:=fun (w : World)=>run_bytes_of_string (P:=Tryz.prog) w 9 51 5 s Tryz.underlying9 Tryz.underlying51 Tryz.underlying5
 go_wp2
 have hcell : ∀ j,j < s.size → (w.alloc (.cells (bytesRow s (grownCap w s.size 0 5)) 5 ((bytesRow s (grownCap w s.size 0 5)).size,(bytesRow s (grownCap w s.size 0 5)).size + 1))).drew.cell? ⟨w.heap.size,j,none⟩ = some (.int .u8 ((lowAt s.data.toList 0 j).toNat : Int)):=by
  intro j hj
  show (w.alloc _).cell? _ = _
  rw [World.cell?_alloc_mark,bytesRow_at s _ j hj,lowAt_ge (Nat.zero_le _)]
  simp [List.getD,hj]
 have hsz : s.size ≤ (bytesRow s (grownCap w s.size 0 5)).size:=by simp [bytesRow]
 have hfree : ∀ j,j < s.size → (w.alloc (.cells (bytesRow s (grownCap w s.size 0 5)) 5 ((bytesRow s (grownCap w s.size 0 5)).size,(bytesRow s (grownCap w s.size 0 5)).size + 1))).drew.frozen? ⟨w.heap.size,j,none⟩ = false:=by
  intro j hj
  show (w.alloc _).frozen? _ = _
  rw [World.frozen?_alloc_mark,decide_eq_false (by omega)];rfl
 have hb0 : Below w.heap.size w (w.alloc (.cells (bytesRow s (grownCap w s.size 0 5)) 5 ((bytesRow s (grownCap w s.size 0 5)).size,(bytesRow s (grownCap w s.size 0 5)).size + 1))).drew:=((Below.refl _ _).alloc (Nat.le_refl _) _).drew
 generalize (w.alloc (.cells (bytesRow s (grownCap w s.size 0 5)) 5 ((bytesRow s (grownCap w s.size 0 5)).size,(bytesRow s (grownCap w s.size 0 5)).size + 1))).drew = w1 at *
 generalize grownCap w s.size 0 5 = cap
 have HC:=Lib.hid hcell
 have HF:=Lib.hid hfree
 clear hcell hfree hsz
 go_loopw [4] (fun i wr => ∃ k : Nat,k ≤ s.size ∧ i = .int .i64 k ∧ (∀ j,j < s.size → wr.cell? ⟨w.heap.size,j,none⟩ = some (.int .u8 ((lowAt s.data.toList k j).toNat : Int))) ∧ (∀ j,j < s.size → wr.frozen? ⟨w.heap.size,j,none⟩ = false) ∧ Below w.heap.size w wr) (fun i _=>s.size - (intOf i).toNat)
 case atStart=>exact ⟨0,Nat.zero_le _,rfl,HC.out,HF.out,hb0⟩
 case round =>
  obtain ⟨k,hk,rfl,hc,hf,hb⟩:=hrel
  have HC:=Lib.hid hc
  have HF:=Lib.hid hf
  have HB:=Lib.hid hb
  clear hc hf hb
  by_cases hlt : k < s.size
  · have hck:=HC.out k hlt
    rw [lowAt_ge (Nat.le_refl _)] at hck
    have hfk:=HF.out k hlt
    have HV:=Lib.hid (Nm.small_val (s.data.toList.getD k 0))
    have hc8:=(s.data.toList.getD k 0).toNat_lt
    have HL:=Lib.hid (fun j=>@lowAt_lt s.data.toList (k + 1) j)
    have hstep : ∀ (u : Int),u = ((Nm.small (s.data.toList.getD k 0)).toNat : Int) → ∀ j,j < s.size → (wr.setCell ⟨w.heap.size,k,none⟩ (.int .u8 u)).cell? ⟨w.heap.size,j,none⟩ = some (.int .u8 ((lowAt s.data.toList (k + 1) j).toNat : Int)):=by
     intro u hu j hj
     by_cases hjk : j = k
     · subst hjk
       rw [lowAt_lt (by omega),← hu]
       exact cell_set_same _ hck
     · rw [cell_set_off _ (Ne.symm hjk),HC.out j hj]
       unfold lowAt
       by_cases h : j < k
       · rw [if_pos h,if_pos (by omega)]
       · rw [if_neg h,if_neg (by omega)]
    have HS:=Lib.hid hstep
    clear hstep
    generalize s.data.toList.getD k 0 = c at *
    have hfin : ∀ u : Int,u = ((Nm.small c).toNat : Int) → u = (c.toNat : Int) → ∀ j,j < s.size → wr.cell? ⟨w.heap.size,j,none⟩ = some (.int .u8 ((lowAt s.data.toList (k + 1) j).toNat : Int)):=by
     intro u hu hu2 j hj
     have:=HS.out u hu j hj
     by_cases hjk : j = k
     · subst hjk
       rw [cell_set_same _ hck] at this
       rw [hck,← hu2];exact this
     · rwa [cell_set_off _ (Ne.symm hjk)] at this
    have HFI:=Lib.hid hfin
    clear hfin
    by_cases h1a : 65 ≤ c.toNat
    · by_cases h1b : c.toNat ≤ 90
      · go_wp2
        go_roundw
        case rel=>exact ⟨k + 1,by omega,by go_num,HS.out _ (by rw [HV.out,if_pos ⟨h1a,h1b⟩];omega),fun j hj=>by rw [World.frozen?_setCell];exact HF.out j hj,HB.out.setCell (Nat.le_refl _) _⟩
        case measure=>simp [intOf];omega
      · go_wp2
        go_roundw
        case rel=>exact ⟨k + 1,by omega,by go_num,HFI.out _ (by rw [HV.out,if_neg (by omega)]) rfl,HF.out,HB.out⟩
        case measure=>simp [intOf];omega
    · go_wp2
      go_roundw
      case rel=>exact ⟨k + 1,by omega,by go_num,HFI.out _ (by rw [HV.out,if_neg (by omega)]) rfl,HF.out,HB.out⟩
      case measure=>simp [intOf];omega
  · obtain rfl : k = s.size:=by omega
    have HFO : Hid (∀ j (hj : j < (Nm.fold s.data.toList).length),wr.cell? ⟨w.heap.size,j,none⟩ = some (.int .u8 ((Nm.fold s.data.toList)[j].toNat : Int))):=fun j hj=>by
     have hj' : j < s.size:=by simpa [Nm.fold] using hj
     rw [HC.out j hj',lowAt_lt hj']
     rw [Nm.fold_get]
    have hln : s.size = (Nm.fold s.data.toList).length:=by simp [Nm.fold]
    have HLN:=Lib.hid hln
    clear hln
    go_wp2_with (refine wpList_convert_cells _ rfl 51 9 (.tmp 33) rfl 5 Tryz.underlying51 Tryz.underlying5 Tryz.underlying9 w.heap.size s.size _ (Nm.fold s.data.toList) HLN.out rfl HFO.out ?_)
    go_ret
    exact ⟨rfl,HB.out⟩
theorem refFold_any (s : ByteArray) (w : World) (hs : s.size ≤ 140737488355328) :
 Calls Tryz.prog 24 #[.string s] w fun e w' => e = .returned (.string ⟨(Nm.fold s.data.toList).toArray⟩) ∧ Below w.heap.size w w':=by
 go_enter Tryz.func24,Tryz.ntmps24
 go_wp2_with (first | (go_at_call 42;refine (Low_any s _ hs).mono ?_;rintro e w1 ⟨rfl,hb1⟩))
 go_ret
 exact ⟨rfl,hb1⟩
end Go.Proofs.YtekafhogiambaaaGreatDoor
namespace Go.Proofs.YtekafhogiambaaaGreatDoor
open Go.RowKit
set_option maxHeartbeats 1000000 in
theorem rdNames_any (t : Nat) (w : World) (_ht : t ≤ 65535) :
 Calls Tryz.prog 43 #[.int .u16 t] w fun e w' => e = .returned (.tuple #[.bool (Rd.isHost t),.bool (Rd.isMail t)]) ∧ w = w':=by
 unfold Rd.isHost Rd.isMail
 by_cases h6 : t = 6
 · subst h6
   go_enter Tryz.func43,Tryz.ntmps43
   go_wp2
   go_ret2
   exact ⟨rfl,rfl⟩
 have k6 : ((t : Int) == 6) = false:=by simp;omega
 have q6 : (t == 6) = false:=by simp [h6]
 by_cases h2 : t = 2
 · subst h2
   go_enter Tryz.func43,Tryz.ntmps43
   go_wp2
   go_ret2
   exact ⟨rfl,rfl⟩
 by_cases h5 : t = 5
 · subst h5
   go_enter Tryz.func43,Tryz.ntmps43
   go_wp2
   go_ret2
   exact ⟨rfl,rfl⟩
 by_cases h12 : t = 12
 · subst h12
   go_enter Tryz.func43,Tryz.ntmps43
   go_wp2
   go_ret2
   exact ⟨rfl,rfl⟩
 by_cases h15 : t = 15
 · subst h15
   go_enter Tryz.func43,Tryz.ntmps43
   go_wp2
   go_ret2
   exact ⟨rfl,rfl⟩
 by_cases h33 : t = 33
 · subst h33
   go_enter Tryz.func43,Tryz.ntmps43
   go_wp2
   go_ret2
   exact ⟨rfl,rfl⟩
 have k2 : ((t : Int) == 2) = false:=by simp;omega
 have k5 : ((t : Int) == 5) = false:=by simp;omega
 have k12 : ((t : Int) == 12) = false:=by simp;omega
 have k15 : ((t : Int) == 15) = false:=by simp;omega
 have k33 : ((t : Int) == 33) = false:=by simp;omega
 have q : (t == 2 || t == 5 || t == 12 || t == 6 || t == 15 || t == 33) = false:=by simp [h2,h5,h12,h6,h15,h33]
 rw [q,q6]
 clear q q6 h2 h5 h6 h12 h15 h33
 go_enter Tryz.func43,Tryz.ntmps43
 go_wp2
 go_ret2
 exact ⟨rfl,rfl⟩
theorem rd_cons_of (t : ByteArray) (h : 0 < t.size) : t.data.toList = t[0] :: t.data.toList.drop 1:=by
 have h0 : 0 < t.data.toList.length:=by simpa using h
 have e:=List.drop_eq_getElem_cons (i:=0) h0
 rw [List.drop_zero] at e
 exact e
def TextsPost (w : World) (o : Option (List (List UInt8))) (e : Ending) (w' : World) : Prop :=
 ∃ v,Below w.heap.size w w' ∧ match o with
  | none=>e = .returned (.tuple #[v,.bool false])
  | some ls=>e = .returned (.tuple #[v,.bool (decide (0 < ls.length))]) ∧ w'.ownsRow w.heap.size 9 1 v ls.length (svs ls)
theorem texts_no {w w' : World} {l : List UInt8} {v : Value} (hb : Below w.heap.size w w') (h : Rd.tx l = none) : TextsPost w (Rd.tx l) (.returned (.tuple #[v,.bool false])) w':=by
 rw [h];exact ⟨v,hb,rfl⟩
theorem texts_yes {w w' : World} {l : List UInt8} {v x : Value} {ls : List (List UInt8)} (hb : Below w.heap.size w w') (h : Rd.tx l = some ls) (hx : x = .bool (decide (0 < ls.length))) (ho : w'.ownsRow w.heap.size 9 1 v ls.length (svs ls)) : TextsPost w (Rd.tx l) (.returned (.tuple #[v,x])) w':=by
 rw [h];exact ⟨v,hb,by rw [hx],ho⟩
end Go.Proofs.YtekafhogiambaaaGreatDoor
namespace Go.Proofs.YtekafhogiambaaaGreatDoor
open Go.RowKit
theorem rdIs_any (s : ByteArray) (w : World) (hs : s.size ≤ 140737488355328) :
 Calls Tryz.prog 6 #[.string s] w fun e w' => e = .returned (.bool (Rd.nm s.data.toList)) ∧ Below w.heap.size w w':=by
 unfold Rd.nm
 have HC:=Lib.hid (Split_any s w hs)
 cases h : Nm.split s.data.toList with
 | none =>
  rw [h] at HC
  clear h
  go_enter Tryz.func6,Tryz.ntmps6
  go_wp2_with (go_at_call 12;refine HC.out.mono ?_;rintro e w1 ⟨v,hb1,rfl⟩)
  go_ret
  exact ⟨rfl,hb1⟩
 | some ls =>
  rw [h] at HC
  clear h
  go_enter Tryz.func6,Tryz.ntmps6
  go_wp2_with (go_at_call 12;refine HC.out.mono ?_;rintro e w1 ⟨v,hb1,rfl,_⟩)
  go_ret
  exact ⟨rfl,hb1⟩
end Go.Proofs.YtekafhogiambaaaGreatDoor
namespace Go.Proofs.YtekafhogiambaaaGreatDoor
open Go.RowKit
structure Dv where
 raw : ByteArray
 host : ByteArray
 mail : ByteArray
 n0 : Nat
 n1 : Nat
 n2 : Nat
 n3 : Nat
 n4 : Nat
namespace Dv
def val (d : Dv) : Value:=.agg #[.string d.raw,.string d.host,.string d.mail,.int .u32 d.n0,.int .u32 d.n1,.int .u32 d.n2,.int .u32 d.n3,.int .u32 d.n4]
def cells (d : Dv) : Array Value:=#[.string d.raw,.string d.host,.string d.mail,.int .u32 d.n0,.int .u32 d.n1,.int .u32 d.n2,.int .u32 d.n3,.int .u32 d.n4]
def dt (d : Dv) : Rd.Dt:=⟨d.raw.data.toList,d.host.data.toList,d.mail.data.toList,d.n0,d.n1,d.n2,d.n3,d.n4⟩
def n (d : Dv) : Nat → Nat
 | 0=>d.n0
 | 1=>d.n1
 | 2=>d.n2
 | 3=>d.n3
 | _=>d.n4
def fits (d : Dv) : Prop := ∀ k,d.n k ≤ 4294967295
theorem cell_n (d : Dv) {k : Nat} (hk : k < 5) : d.cells[3 + k]? = some (.int .u32 (d.n k)):=by
 match k,hk with
 | 0,_=>rfl
 | 1,_=>rfl
 | 2,_=>rfl
 | 3,_=>rfl
 | 4,_=>rfl
end Dv
theorem dv_raw {W : World} {g : Nat} {d : Dv} {t : TypeId} (h : Has W g t d.cells) : W.cell? ⟨g,0,none⟩ = some (.string d.raw):=by rw [h.cell];rfl
theorem dv_host {W : World} {g : Nat} {d : Dv} {t : TypeId} (h : Has W g t d.cells) : W.cell? ⟨g,1,none⟩ = some (.string d.host):=by rw [h.cell];rfl
theorem dv_mail {W : World} {g : Nat} {d : Dv} {t : TypeId} (h : Has W g t d.cells) : W.cell? ⟨g,2,none⟩ = some (.string d.mail):=by rw [h.cell];rfl
theorem dv_n {W : World} {g k : Nat} {d : Dv} {t : TypeId} (h : Has W g t d.cells) (hk : k < 5) : W.cell? ⟨g,3 + k,none⟩ = some (.int .u32 (d.n k : Nat)):=by rw [h.cell];exact d.cell_n hk
namespace Rd
def head (t : Nat) (d : Dt) : Bool:=rawOk t d.raw && (isHost t == nm d.host) && (isHost t || d.host == []) && (isMail t == nm d.mail) && (isMail t || d.mail == [])
end Rd
end Go.Proofs.YtekafhogiambaaaGreatDoor
namespace Go.Proofs.YtekafhogiambaaaGreatDoor
open Go.RowKit
def dv (d : Rd.Dt) : Dv:=⟨⟨d.raw.toArray⟩,⟨d.host.toArray⟩,⟨d.mail.toArray⟩,d.n0,d.n1,d.n2,d.n3,d.n4⟩
theorem dv_dt (d : Dv) : dv d.dt = d:=rfl
end Go.Proofs.YtekafhogiambaaaGreatDoor
