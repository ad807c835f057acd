/- Texts of the proofs, merged. -/
import Derived.Test.YtekafhogiambaaaGreatDoorZc19
import Derived.Test.YtekafhogiambaaaGreatDoorZc22
import Derived.Test.YtekafhogiambaaaGreatDoorZc2
import Derived.Test.YtekafhogiambaaaGreatDoorZc4
set_option maxRecDepth 100000
namespace Go.Proofs.YtekafhogiambaaaGreatDoor
open Go.RowKit
section
variable {g B i e c n : Nat} {A : Option Addr} {l : List UInt8} {x : Dv} {W : World}
set_option maxHeartbeats 1000000 in
theorem rd_raw_no (h : Has W g 195 (rC A l.length c i e x n)) (h65 : i + 65535 < e) (he : e ≤ 9223372036854775807) :
 Calls Tryz.prog 155 #[.pointer (some ⟨g,0,none⟩)] W fun en W' => en = .returned (.int .i64 40) ∧ Below B W W':=by
 have c1 : W.cell? ⟨g,1,none⟩ = some (.int .i64 i):=by rw [h.cell];rfl
 have c2 : W.cell? ⟨g,2,none⟩ = some (.int .i64 e):=by rw [h.cell];rfl
 have hw1 : IntKind.i64.wrap ((e : Int) - (i : Int)) = (e : Int) - (i : Int):=by rw [IntKind.wrap_i64];omega
 have hd : decide ((65535 : Int) < (e : Int) - (i : Int)) = true:=by simp;omega
 clear h
 go_enter Tryz.func155,Tryz.ntmps155
 go_wp2
 go_quiet (fail)
 go_wp2
 go_ret
 exact ⟨rfl,below_qn _ _ _⟩
set_option maxHeartbeats 1000000 in
theorem rd_num_no (v j : Int) (er : Int) (he : er ≠ 0) :
 Calls Tryz.prog 157 #[.pointer (some ⟨g,0,none⟩),.int .u32 v,.int .i64 j,.int .i64 er] W fun en W' => en = .returned (.int .i64 40) ∧ Below B W W':=by
 have hd : (er != 0) = true:=by simpa using he
 go_enter Tryz.func157,Tryz.ntmps157
 go_wp2
 go_ret
 exact ⟨rfl,Below.refl _ _⟩
set_option maxHeartbeats 1000000 in
theorem rd_name_no (h : Has W g 195 (rC A l.length c i e x n)) (hB : B ≤ W.heap.size) (hc : l.length ≤ c) (hm : l.length ≤ 211106232532992) (hb : Bs W 0 B A l) {k : Nat} {y : ByteArray} {j : Nat} {er : Int} (hT : prTakeV l i = .tuple #[.string y,.int .i64 j,.int .i64 er]) (hj : er = 0 → e < j) :
 Calls Tryz.prog 156 #[.pointer (some ⟨g,0,none⟩),.pointer (some ⟨g,k,none⟩)] W fun en W' => en = .returned (.int .i64 (if er = 0 then 40 else er)) ∧ Below B W W':=by
 have c0 : W.cell? ⟨g,0,none⟩ = some (.slice A l.length c):=by rw [h.cell];rfl
 have c1 : W.cell? ⟨g,1,none⟩ = some (.int .i64 i):=by rw [h.cell];rfl
 have hgw:=h.lt
 have HT : ∀ W2 : World,W2.heap = W.heap → Hid (Calls Tryz.prog 163 #[.slice A l.length c,.int .i64 i] W2 fun e' w' => e' = .returned (.tuple #[.string y,.int .i64 j,.int .i64 er]) ∧ Below W2.heap.size W2 w'):=fun W2 h2=>by
  have:=prTake_any A l c i W2 hc hm 0 (fun h0=>by
   obtain ⟨g',o',e1,e2,e3,e4⟩:=hb h0
   exact ⟨g',o',e1,e2,by rw [h2];omega,fun q hq=>by rw [← e4 q hq];unfold World.cell?;rw [h2]⟩)
  rw [hT] at this
  exact this
 have HH:=Lib.hid h
 clear h hb hT
 have H5 : ∀ w5 : World,Below W.drew.heap.size W.drew w5 → Has w5 g 195 (rC A l.length c i e x n):=fun w5 B5=>Has.below (w:=W.drew) HH.out B5 hgw
 by_cases h0 : er = 0
 · subst h0
   have hj:=hj rfl
   have hd : decide ((e : Int) < (j : Int)) = true:=by simp;omega
   rw [if_pos rfl]
   go_enter Tryz.func156,Tryz.ntmps156
   go_wp2
   go_region_with (go_at_call 163;refine (HT W.drew rfl).out.mono ?_;rintro e' w5 ⟨rfl,B5⟩;have h5:=H5 w5 B5;have d1 : w5.cell? ⟨g,1,none⟩ = some (.int .i64 i):=(by rw [h5.cell];rfl);have d2 : w5.cell? ⟨g,2,none⟩ = some (.int .i64 e):=(by rw [h5.cell];rfl);have hb5 : Below B W w5:=Below.trans (Below.refl B W).drew (B5.mono (by show B ≤ W.heap.size;omega));have HB5:=Lib.hid hb5;clear h5 hb5 B5)
   all_goals
    simp only [Act.put,List.getElem_toArray,List.getElem_cons_succ,List.getElem_cons_zero,List.setIfInBounds_toArray,List.set_cons_zero,List.set_cons_succ]
    go_wp2
    go_ret
    exact ⟨rfl,HB5.out⟩
 · rw [if_neg h0]
   have hd : (er != 0) = true:=by simpa using h0
   clear h0
   go_enter Tryz.func156,Tryz.ntmps156
   go_wp2
   go_region_with (go_at_call 163;refine (HT W.drew rfl).out.mono ?_;rintro e' w5 ⟨rfl,B5⟩;have h5:=H5 w5 B5;have d1 : w5.cell? ⟨g,1,none⟩ = some (.int .i64 i):=(by rw [h5.cell];rfl);have d2 : w5.cell? ⟨g,2,none⟩ = some (.int .i64 e):=(by rw [h5.cell];rfl);have hb5 : Below B W w5:=Below.trans (Below.refl B W).drew (B5.mono (by show B ≤ W.heap.size;omega));have HB5:=Lib.hid hb5;clear h5 hb5 B5)
   all_goals
    simp only [Act.put,List.getElem_toArray,List.getElem_cons_succ,List.getElem_cons_zero,List.setIfInBounds_toArray,List.set_cons_zero,List.set_cons_succ]
    go_wp2
    go_ret
    exact ⟨rfl,HB5.out⟩
end
def PtP (g B c E : Nat) (A : Option Addr) (L : List UInt8) (o : Option Rd.TS) (er : Int) (W : World) (en : Ending) (W' : World) : Prop :=
 match o with
 | some s=>en = .returned (.int .i64 0) ∧ Has W' g 195 (rC A L.length c s.1 E (dv s.2.1) s.2.2) ∧ Below B W W'
 | none=>en = .returned (.int .i64 er) ∧ Below B W W'
theorem rC_setN (A : Option Addr) (m c i e : Nat) (d : Rd.Dt) {n : Nat} (hn : n < 5) (v j : Nat) :
 ((((rC A m c i e (dv d) n).setIfInBounds (6 + n) (.int .u32 v)).setIfInBounds 11 (.int .i64 (n + 1 : Nat))).setIfInBounds 1 (.int .i64 j)) = rC A m c j e (dv (Rd.setN d n v)) (n + 1):=by
 rcases (by omega : n = 0 ∨ n = 1 ∨ n = 2 ∨ n = 3 ∨ n = 4) with rfl | rfl | rfl | rfl | rfl <;> simp [rC,Rd.setN,dv]
theorem tkN_some {L : List UInt8} {i : Nat} {x : List UInt8 × Nat} (h : Rd.tkN L i = some x) (hi : i ≤ L.length) : prTakeV L i = .tuple #[.string ⟨x.1.toArray⟩,.int .i64 x.2,.int .i64 0]:=by
 unfold Rd.tkN at h
 unfold prTakeV
 rw [if_neg (by omega),show ((i : Int)).toNat = i from rfl]
 cases hk : Pr.tk L i i 1 with
 | err e=>rw [hk] at h;cases h
 | ok ls bh=>rw [hk] at h;injection h with h;subst h;rfl
theorem tkN_none {L : List UInt8} {i : Nat} (h : Rd.tkN L i = none) (hi : i ≤ L.length) {p : Nat} (hp : p = 5 ∨ p = 6 ∨ p = 7) (d : Rd.Dt) (n : Nat) : prTakeV L i = .tuple #[.string ⟨#[]⟩,.int .i64 0,.int .i64 (Rd.tkE L p (i,d,n))]:=by
 unfold Rd.tkN at h
 unfold prTakeV Rd.tkE
 rw [if_neg (by omega),if_pos hp,show ((i : Int)).toNat = i from rfl]
 cases hk : Pr.tk L i i 1 with
 | err e=>rfl
 | ok ls bh=>rw [hk] at h;cases h
theorem tkE_late {L : List UInt8} {i : Nat} {x : List UInt8 × Nat} (h : Rd.tkN L i = some x) (p : Nat) (d : Rd.Dt) (n : Nat) : Rd.tkE L p (i,d,n) = 40:=by
 unfold Rd.tkN at h
 unfold Rd.tkE
 cases hk : Pr.tk L i i 1 with
 | err e=>rw [hk] at h;cases h
 | ok ls bh=>simp
section
variable {g B i E c p n g0 o0 : Nat} {L : List UInt8} {d : Rd.Dt} {W : World}
set_option maxHeartbeats 2000000 in
theorem part_all (h : Has W g 195 (rC (some ⟨g0,o0,none⟩) L.length c i E (dv d) n)) (hB : B ≤ g) (hc : L.length ≤ c) (hm : c ≤ 9223372036854775807) (hl1 : L.length ≤ 140737488355328) (hb : Bs W 0 B (some ⟨g0,o0,none⟩) L)
 (hp9 : p ≤ 9) (hi : i ≤ E) (hEL : E ≤ L.length) (hn5 : 8 ≤ p → n < 5) :
 Calls Tryz.prog 143 #[.pointer (some ⟨g,0,none⟩),.int .u8 p] W fun en W' => PtP g B c E (some ⟨g0,o0,none⟩) L (Rd.tkP L E p (i,d,n)) (Rd.tkE L p (i,d,n)) W en W':=by
 have HH:=Lib.hid h
 have hgw:=h.lt
 by_cases p0 : p = 0
 · subst p0
   have e : Rd.tkP L E 0 (i,d,n) = some (i,d,n):=rfl
   rw [e]
   clear h hb
   go_enter Tryz.func143,Tryz.ntmps143
   go_wp2
   go_ret
   exact ⟨rfl,HH.out,Below.refl _ _⟩
 by_cases p4 : p ≤ 4
 · by_cases h65 : E - i ≤ 65535
   · have e : Rd.tkP L E p (i,d,n) = some (E,{ d with raw:=(L.drop i).take (E - i) },n):=by
      unfold Rd.tkP
      rw [if_neg p0,if_pos p4,if_pos h65]
     have HR:=Lib.hid (rd_raw h hB (.inr ⟨g0,o0,rfl⟩) hi hEL (by omega) hc hm hb ⟨((L.drop i).take (E - i)).toArray⟩ rfl)
     rw [e]
     clear h hb e
     rcases (by omega : p = 1 ∨ p = 2 ∨ p = 3 ∨ p = 4) with rfl | rfl | rfl | rfl
     all_goals
      (go_enter Tryz.func143,Tryz.ntmps143
       go_wp2_with (go_at_call 155;refine HR.out.mono ?_;rintro e' w5 ⟨rfl,H5,B5⟩;have HH5:=Lib.hid H5;have HB5:=Lib.hid B5;clear H5 B5)
       go_ret
       exact ⟨rfl,HH5.out,HB5.out⟩)
   · have e : Rd.tkP L E p (i,d,n) = none:=by
      unfold Rd.tkP
      rw [if_neg p0,if_pos p4,if_neg h65]
     have e2 : Rd.tkE L p (i,d,n) = 40:=by
      unfold Rd.tkE
      rw [if_neg (by omega)]
     have HR:=Lib.hid (rd_raw_no (B:=B) h (by omega) (by omega))
     rw [e,e2]
     clear h hb e e2
     rcases (by omega : p = 1 ∨ p = 2 ∨ p = 3 ∨ p = 4) with rfl | rfl | rfl | rfl
     all_goals
      (go_enter Tryz.func143,Tryz.ntmps143
       go_wp2_with (go_at_call 155;refine HR.out.mono ?_;rintro e' w5 ⟨rfl,B5⟩;have HB5:=Lib.hid B5;clear B5)
       go_ret
       exact ⟨rfl,HB5.out⟩)
 by_cases p7 : p ≤ 7
 · have hiL : i ≤ L.length:=by omega
   have hB2 : B ≤ W.heap.size:=by omega
   cases hx : Rd.tkN L i with
   | none =>
    have e : Rd.tkP L E p (i,d,n) = none:=by
     unfold Rd.tkP
     rw [if_neg p0,if_neg p4]
     by_cases p6 : p ≤ 6
     · rw [if_pos p6,hx];rfl
     · rw [if_neg p6,if_pos (by omega),hx];rfl
    have hv:=tkN_none hx hiL (p:=p) (by omega) d n
    have hne:=Rd.tkE_pos L p (i,d,n)
    rw [e]
    generalize Rd.tkE L p (i,d,n) = er at *
    have HR:=fun k=>Lib.hid (rd_name_no (k:=k) h hB2 hc (by omega) hb hv (fun h0=>absurd h0 hne))
    rw [if_neg hne] at HR
    clear h hb e hv hne hx
    rcases (by omega : p = 5 ∨ p = 6 ∨ p = 7) with rfl | rfl | rfl
    all_goals
     (go_enter Tryz.func143,Tryz.ntmps143
      go_wp2_with (go_at_call 156;refine (HR _).out.mono ?_;rintro e' w5 ⟨rfl,B5⟩;have HB5:=Lib.hid B5;clear B5)
      go_ret
      exact ⟨rfl,HB5.out⟩)
   | some x =>
    have hv:=tkN_some hx hiL
    by_cases hxe : x.2 ≤ E
    · rcases (by omega : (p = 5 ∨ p = 6) ∨ p = 7) with p56 | rfl
      · have e : Rd.tkP L E p (i,d,n) = some (x.2,{ d with host:=x.1 },n):=by
         unfold Rd.tkP
         rw [if_neg p0,if_neg p4,if_pos (by omega),hx,Option.bind_some,if_pos hxe]
        have HR:=Lib.hid (rd_name h hB hc (by omega) hb (k:=4) (.inl rfl) hxe hv)
        rw [show ((rC (some ⟨g0,o0,none⟩) L.length c i E (dv d) n).setIfInBounds 4 (.string ⟨x.1.toArray⟩)).setIfInBounds 1 (.int .i64 x.2) = rC (some ⟨g0,o0,none⟩) L.length c x.2 E (dv { d with host:=x.1 }) n from rfl] at HR
        rw [e]
        clear h hb e hv hx
        rcases p56 with rfl | rfl
        all_goals
         (go_enter Tryz.func143,Tryz.ntmps143
          go_wp2_with (go_at_call 156;refine HR.out.mono ?_;rintro e' w5 ⟨rfl,H5,B5⟩;have HH5:=Lib.hid H5;have HB5:=Lib.hid B5;clear H5 B5)
          go_ret
          exact ⟨rfl,HH5.out,HB5.out⟩)
      · have e : Rd.tkP L E 7 (i,d,n) = some (x.2,{ d with mail:=x.1 },n):=by
         unfold Rd.tkP
         rw [if_neg p0,if_neg p4,if_neg (by omega),if_pos rfl,hx,Option.bind_some,if_pos hxe]
        have HR:=Lib.hid (rd_name h hB hc (by omega) hb (k:=5) (.inr rfl) hxe hv)
        rw [show ((rC (some ⟨g0,o0,none⟩) L.length c i E (dv d) n).setIfInBounds 5 (.string ⟨x.1.toArray⟩)).setIfInBounds 1 (.int .i64 x.2) = rC (some ⟨g0,o0,none⟩) L.length c x.2 E (dv { d with mail:=x.1 }) n from rfl] at HR
        rw [e]
        clear h hb e hv hx
        go_enter Tryz.func143,Tryz.ntmps143
        go_wp2_with (go_at_call 156;refine HR.out.mono ?_;rintro e' w5 ⟨rfl,H5,B5⟩;have HH5:=Lib.hid H5;have HB5:=Lib.hid B5;clear H5 B5)
        go_ret
        exact ⟨rfl,HH5.out,HB5.out⟩
    · have e : Rd.tkP L E p (i,d,n) = none:=by
       unfold Rd.tkP
       rw [if_neg p0,if_neg p4]
       by_cases p6 : p ≤ 6
       · rw [if_pos p6,hx,Option.bind_some,if_neg hxe]
       · rw [if_neg p6,if_pos (by omega),hx,Option.bind_some,if_neg hxe]
      have e2:=tkE_late hx p d n
      have HR:=fun k=>Lib.hid (rd_name_no (k:=k) h hB2 hc (by omega) hb hv (fun _=>by omega))
      rw [if_pos rfl] at HR
      rw [e,e2]
      clear h hb e e2 hv hx
      rcases (by omega : p = 5 ∨ p = 6 ∨ p = 7) with rfl | rfl | rfl
      all_goals
       (go_enter Tryz.func143,Tryz.ntmps143
        go_wp2_with (go_at_call 156;refine (HR _).out.mono ?_;rintro e' w5 ⟨rfl,B5⟩;have HB5:=Lib.hid B5;clear B5)
        go_ret
        exact ⟨rfl,HB5.out⟩)
 have hn:=hn5 (by omega)
 have c0 : W.cell? ⟨g,0,none⟩ = some (.slice (some ⟨g0,o0,none⟩) L.length c):=by rw [h.cell];rfl
 have c1 : W.cell? ⟨g,1,none⟩ = some (.int .i64 i):=by rw [h.cell];rfl
 have c2 : W.cell? ⟨g,2,none⟩ = some (.int .i64 E):=by rw [h.cell];rfl
 have hec : E ≤ c:=by omega
 have hle : (L.take E).length = E:=by rw [List.length_take];omega
 have e2 : Rd.tkE L p (i,d,n) = 40:=by
  unfold Rd.tkE
  rw [if_neg (by omega)]
 rw [e2]
 clear e2
 rcases (by omega : p = 8 ∨ p = 9) with rfl | rfl
 · by_cases hE : i + 2 ≤ E
   · have e : Rd.tkP L E 8 (i,d,n) = some (i + 2,Rd.setN d n (Oc.num ((L.drop i).take 2)),n + 1):=by
      unfold Rd.tkP
      rw [if_neg p0,if_neg p4,if_neg (by omega),if_neg (by omega),if_pos rfl,if_pos hE]
     have hT : ∀ k : Nat,Calls Tryz.prog 82 #[.slice (some ⟨g0,o0,none⟩) E c,.int .i64 i] (W.drewN k) fun e' w' => e' = .returned (.tuple #[.int .u16 (Oc.num ((L.drop i).take 2) : Nat),.int .i64 (i + 2 : Nat),.int .i64 0]) ∧ W.drewN k = w':=fun k=>by
      have:=take_u16_ok (some ⟨g0,o0,none⟩) (L.take E) c i (W.drewN k) (by omega) (by omega) 0 B ((hb.take E).drewN k) (by omega)
      rw [hle,List.drop_take,List.take_take,Nat.min_eq_left (by omega)] at this
      exact this
     have hv:=Rd.num_le2 (L.drop i)
     generalize Oc.num ((L.drop i).take 2) = v at *
     obtain ⟨j,hj⟩ : ∃ j,i + 2 = j:=⟨_,rfl⟩
     rw [hj] at e
     simp only [hj] at hT
     clear hj hE
     have HT:=Lib.hid hT
     have hR : ∀ k : Nat,Calls Tryz.prog 157 #[.pointer (some ⟨g,0,none⟩),.int .u32 v,.int .i64 j,.int .i64 0] (W.drewN k) fun en W' => en = .returned (.int .i64 0) ∧ Has W' g 195 (rC (some ⟨g0,o0,none⟩) L.length c j E (dv (Rd.setN d n v)) (n + 1)) ∧ Below B W W':=fun k=>by
      have:=rd_num (W:=W.drewN k) (show Has (W.drewN k) g 195 _ from h) hB v j hn
      rw [rC_setN _ _ _ _ _ _ hn] at this
      exact this.mono fun _ _ ⟨h1,h2,h3⟩=>⟨h1,h2,(below_qn B W k).trans h3⟩
     have HR:=Lib.hid hR
     have hwn : IntKind.u32.wrap (v : Int) = (v : Int):=by rw [IntKind.wrap_u32];omega
     rw [e]
     clear h hb hT hR e
     go_enter Tryz.func143,Tryz.ntmps143
     go_wp2
     go_quiet ((go_at_call 82;exact quiet_same (HT.out _)))
     go_wp2_with (go_at_call 157;(with_reducible refine (HR.out _).mono ?_);rintro e' w5 ⟨rfl,H5,B5⟩;have HH5:=Lib.hid H5;have HB5:=Lib.hid B5;clear H5 B5)
     go_ret
     exact ⟨rfl,HH5.out,HB5.out⟩
   · have e : Rd.tkP L E 8 (i,d,n) = none:=by
      unfold Rd.tkP
      rw [if_neg p0,if_neg p4,if_neg (by omega),if_neg (by omega),if_pos rfl,if_neg hE]
     have hT : ∀ k : Nat,Calls Tryz.prog 82 #[.slice (some ⟨g0,o0,none⟩) E c,.int .i64 i] (W.drewN k) fun e' w' => e' = .returned (.tuple #[.int .u16 0,.int .i64 0,.int .i64 6]) ∧ W.drewN k = w':=fun k=>by
      have:=take_u16 (some ⟨g0,o0,none⟩) (L.take E) c i (W.drewN k) (by omega) (by omega) 0 B ((hb.take E).drewN k)
      unfold takeV at this
      rw [hle,if_neg (by omega),if_pos (by omega)] at this
      exact this
     have HT:=Lib.hid hT
     have HR:=Lib.hid (fun k : Nat=>rd_num_no (g:=g) (B:=B) (W:=W.drewN k) 0 0 6 (by decide))
     rw [e]
     clear h hb hT e
     go_enter Tryz.func143,Tryz.ntmps143
     go_wp2
     go_quiet ((go_at_call 82;exact quiet_same (HT.out _)))
     go_wp2_with (go_at_call 157;refine (HR.out _).mono ?_;rintro e' w5 ⟨rfl,B5⟩;have HB5:=Lib.hid ((below_qn B W _).trans B5);clear B5)
     go_ret
     exact ⟨rfl,HB5.out⟩
 · by_cases hE : i + 4 ≤ E
   · have e : Rd.tkP L E 9 (i,d,n) = some (i + 4,Rd.setN d n (Oc.num ((L.drop i).take 4)),n + 1):=by
      unfold Rd.tkP
      rw [if_neg p0,if_neg p4,if_neg (by omega),if_neg (by omega),if_neg (by omega),if_pos hE]
     have hT : ∀ k : Nat,Calls Tryz.prog 158 #[.slice (some ⟨g0,o0,none⟩) E c,.int .i64 i] (W.drewN k) fun e' w' => e' = .returned (.tuple #[.int .u32 (Oc.num ((L.drop i).take 4) : Nat),.int .i64 (i + 4 : Nat),.int .i64 0]) ∧ W.drewN k = w':=fun k=>by
      have:=take_u32_ok (some ⟨g0,o0,none⟩) (L.take E) c i (W.drewN k) (by omega) (by omega) 0 B ((hb.take E).drewN k) (by omega)
      rw [hle,List.drop_take,List.take_take,Nat.min_eq_left (by omega)] at this
      exact this
     have hv:=Rd.num_le4 (L.drop i)
     generalize Oc.num ((L.drop i).take 4) = v at *
     obtain ⟨j,hj⟩ : ∃ j,i + 4 = j:=⟨_,rfl⟩
     rw [hj] at e
     simp only [hj] at hT
     clear hj hE
     have HT:=Lib.hid hT
     have hR : ∀ k : Nat,Calls Tryz.prog 157 #[.pointer (some ⟨g,0,none⟩),.int .u32 v,.int .i64 j,.int .i64 0] (W.drewN k) fun en W' => en = .returned (.int .i64 0) ∧ Has W' g 195 (rC (some ⟨g0,o0,none⟩) L.length c j E (dv (Rd.setN d n v)) (n + 1)) ∧ Below B W W':=fun k=>by
      have:=rd_num (W:=W.drewN k) (show Has (W.drewN k) g 195 _ from h) hB v j hn
      rw [rC_setN _ _ _ _ _ _ hn] at this
      exact this.mono fun _ _ ⟨h1,h2,h3⟩=>⟨h1,h2,(below_qn B W k).trans h3⟩
     have HR:=Lib.hid hR
     rw [e]
     clear h hb hT hR e
     go_enter Tryz.func143,Tryz.ntmps143
     go_wp2
     go_quiet ((go_at_call 158;exact quiet_same (HT.out _)))
     go_wp2_with (go_at_call 157;(with_reducible refine (HR.out _).mono ?_);rintro e' w5 ⟨rfl,H5,B5⟩;have HH5:=Lib.hid H5;have HB5:=Lib.hid B5;clear H5 B5)
     go_ret
     exact ⟨rfl,HH5.out,HB5.out⟩
   · have e : Rd.tkP L E 9 (i,d,n) = none:=by
      unfold Rd.tkP
      rw [if_neg p0,if_neg p4,if_neg (by omega),if_neg (by omega),if_neg (by omega),if_neg hE]
     have hT : ∀ k : Nat,Calls Tryz.prog 158 #[.slice (some ⟨g0,o0,none⟩) E c,.int .i64 i] (W.drewN k) fun e' w' => e' = .returned (.tuple #[.int .u32 0,.int .i64 0,.int .i64 6]) ∧ W.drewN k = w':=fun k=>by
      have:=take_u32 (some ⟨g0,o0,none⟩) (L.take E) c i (W.drewN k) (by omega) (by omega) 0 B ((hb.take E).drewN k)
      unfold takeV at this
      rw [hle,if_neg (by omega),if_pos (by omega)] at this
      exact this
     have HT:=Lib.hid hT
     have HR:=Lib.hid (fun k : Nat=>rd_num_no (g:=g) (B:=B) (W:=W.drewN k) 0 0 6 (by decide))
     rw [e]
     clear h hb hT e
     go_enter Tryz.func143,Tryz.ntmps143
     go_wp2
     go_quiet ((go_at_call 158;exact quiet_same (HT.out _)))
     go_wp2_with (go_at_call 157;refine (HR.out _).mono ?_;rintro e' w5 ⟨rfl,B5⟩;have HB5:=Lib.hid ((below_qn B W _).trans B5);clear B5)
     go_ret
     exact ⟨rfl,HB5.out⟩
end
end Go.Proofs.YtekafhogiambaaaGreatDoor
