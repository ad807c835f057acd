/- Texts of the proofs, merged. -/
import Derived.Test.YtekafhogiambaaaGreatDoorZc17
import Derived.Test.YtekafhogiambaaaGreatDoorZc4
import Derived.Test.YtekafhogiambaaaGreatDoorZc18
import Derived.Test.YtekafhogiambaaaGreatDoorZc13
import Derived.StillTailTactics
import Derived.BigQuiet
set_option maxRecDepth 100000
namespace Go.Proofs.YtekafhogiambaaaGreatDoor
open Go.RowKit
def rC (A : Option Addr) (m c : Nat) (i e : Nat) (x : Dv) (n : Nat) : Array Value:=#[.slice A m c,.int .i64 i,.int .i64 e,.string x.raw,.string x.host,.string x.mail,.int .u32 x.n0,.int .u32 x.n1,.int .u32 x.n2,.int .u32 x.n3,.int .u32 x.n4,.int .i64 n]
theorem Bs.take {w : World} {lo hi : Nat} {A : Option Addr} {l : List UInt8} (h : Bs w lo hi A l) (k : Nat) : Bs w lo hi A (l.take k):=fun h0=>by
 rw [List.length_take] at h0
 obtain ⟨g,o,rfl,h1,h2,hc⟩:=h (by omega)
 refine ⟨g,o,rfl,h1,h2,fun j hj=>?_⟩
 rw [List.length_take] at hj
 rw [List.getElem_take]
 exact hc j (by omega)
def Ad (A : Option Addr) (l : List UInt8) (c : Nat) : Prop:=(A = none ∧ l = [] ∧ c = 0) ∨ ∃ g o,A = some ⟨g,o,none⟩
theorem has_q {W Wq : World} {g n : Nat} {t : TypeId} {cs : Array Value} (hq : W.drewN n = Wq) (h : Has W g t cs) : Has Wq g t cs:=by rw [← hq];exact h
theorem below_q {W Wq : World} {n : Nat} (B : Nat) (hq : W.drewN n = Wq) : Below B W Wq:=by
 have h:=Below.refl B W
 rw [← hq]
 exact ⟨h.os,h.tape,h.output,h.size,h.block⟩
section
variable {g B i e c n : Nat} {A : Option Addr} {l : List UInt8} {x : Dv} {W : World}
set_option maxHeartbeats 1000000 in
theorem rd_raw (h : Has W g 195 (rC A l.length c i e x n)) (hB : B ≤ g) (hA : Ad A l c) (hie : i ≤ e) (hel : e ≤ l.length) (h65 : e ≤ i + 65535) (hc : l.length ≤ c) (hm : c ≤ 9223372036854775807) (hb : Bs W 0 B A l) (y : ByteArray) (hy : (l.drop i).take (e - i) = y.data.toList) :
 Calls Tryz.prog 155 #[.pointer (some ⟨g,0,none⟩)] W fun en W' => en = .returned (.int .i64 0) ∧ Has W' g 195 (rC A l.length c e e { x with raw:=y } n) ∧ Below B W W':=by
 have c0 : W.cell? ⟨g,0,none⟩ = some (.slice A l.length c):=by rw [h.cell];rfl
 have c1 : W.cell? ⟨g,1,none⟩ = some (.int .i64 i):=by rw [h.cell];rfl
 have c2 : W.cell? ⟨g,2,none⟩ = some (.int .i64 e):=by rw [h.cell];rfl
 have c3 : W.cell? ⟨g,3,none⟩ = some (.string x.raw):=by rw [h.cell];rfl
 have hec : e ≤ c:=by omega
 have f1:=h.free 1
 have f3:=h.free 3
 have hw1 : IntKind.i64.wrap ((e : Int) - (i : Int)) = (e : Int) - (i : Int):=by rw [IntKind.wrap_i64];omega
 have hd : decide ((65535 : Int) < (e : Int) - (i : Int)) = false:=by simp;omega
 have HH:=Lib.hid h
 have HBS:=Lib.hid hb
 have HY:=Lib.hid hy
 clear h hb hy
 rcases hA with ⟨rfl,rfl,rfl⟩ | ⟨g0,o0,rfl⟩
 · obtain rfl : e = 0:=by simpa using hel
   obtain rfl : i = 0:=by omega
   have hy0 : (⟨#[]⟩ : ByteArray) = y:=(string_eq (l := []) (by rw [← HY.out];rfl)).symm
   subst hy0
   go_enter Tryz.func155,Tryz.ntmps155
   go_wp2
   go_quiet (fail)
   go_wp2
   have hcv : ∀ W2 : World,Sem.run Tryz.prog (convert 51 9 (.slice none 0 0)) W2 = .ok (.string ⟨#[]⟩) W2:=fun W2=>run_convert_bs (w:=W2) (P:=Tryz.prog) 51 9 5 Tryz.underlying51 Tryz.underlying5 Tryz.underlying9 0 0 none 0 0 [] rfl Bs.nil
   generalize hq : World.drewN _ _ = Wq
   have q0 : Wq.cell? ⟨g,0,none⟩ = some (.slice none 0 0):=by rw [← hq];exact c0
   have q1 : Wq.cell? ⟨g,1,none⟩ = some (.int .i64 0):=by rw [← hq];exact c1
   have q2 : Wq.cell? ⟨g,2,none⟩ = some (.int .i64 0):=by rw [← hq];exact c2
   have q3 : Wq.cell? ⟨g,3,none⟩ = some (.string x.raw):=by rw [← hq];exact c3
   have e1 : Wq.frozen? ⟨g,1,none⟩ = false:=by rw [← hq];exact f1
   have e3 : Wq.frozen? ⟨g,3,none⟩ = false:=by rw [← hq];exact f3
   have k2:=hcv Wq.drew
   have HHQ:=Lib.hid (has_q hq HH.out)
   have HBQ:=Lib.hid (below_q B hq)
   clear c0 c1 c2 c3 f1 f3 hq hcv
   go_region
   go_wp2
   all_goals
    go_ret
    have h:=HHQ.out
    have hbq:=HBQ.out
    exact ⟨rfl,(h.set 3 (.string ⟨#[]⟩)).set 1 (.int .i64 0),((hbq.setCell hB (.string ⟨#[]⟩)).setCell hB (.int .i64 0)).drew⟩
 · go_enter Tryz.func155,Tryz.ntmps155
   go_wp2
   go_quiet (fail)
   go_wp2
   have hcv : ∀ W2 : World,W2.heap = W.heap → Sem.run Tryz.prog (convert 51 9 (.slice (if c = i then some ⟨g0,o0,none⟩ else some ⟨g0,o0 + i,none⟩) (e - i) (c - i))) W2 = .ok (.string ⟨y.data.toList.toArray⟩) W2:=fun W2 h2=>by
    have h:=run_convert_bs (w:=W2) (P:=Tryz.prog) 51 9 5 Tryz.underlying51 Tryz.underlying5 Tryz.underlying9 0 B (if c = i then some ⟨g0,o0,none⟩ else some ⟨g0,o0 + i,none⟩) (e - i) (c - i) ((l.drop i).take (e - i)) (by rw [List.length_take,List.length_drop];omega) (fun h0=>by
     obtain ⟨g',o',e1,e2,e3,e4⟩:=HBS.out.sub i (e - i) (by omega) h0
     rw [if_neg (by intro e';rw [List.length_take,List.length_drop] at h0;omega)]
     exact ⟨g',o',e1,e2,e3,fun j hj=>by rw [← e4 j hj];unfold World.cell?;rw [h2]⟩)
    rw [HY.out] at h
    exact h
   generalize hq : World.drewN _ _ = Wq
   have q0 : Wq.cell? ⟨g,0,none⟩ = some (.slice (some ⟨g0,o0,none⟩) l.length c):=by rw [← hq];exact c0
   have q1 : Wq.cell? ⟨g,1,none⟩ = some (.int .i64 i):=by rw [← hq];exact c1
   have q2 : Wq.cell? ⟨g,2,none⟩ = some (.int .i64 e):=by rw [← hq];exact c2
   have q3 : Wq.cell? ⟨g,3,none⟩ = some (.string x.raw):=by rw [← hq];exact c3
   have e1 : Wq.frozen? ⟨g,1,none⟩ = false:=by rw [← hq];exact f1
   have e3 : Wq.frozen? ⟨g,3,none⟩ = false:=by rw [← hq];exact f3
   have k1 : ∀ W2 : World,W2.heap = Wq.heap → Sem.run Tryz.prog (convert 51 9 (.slice (if c = i then some ⟨g0,o0,none⟩ else some ⟨g0,o0 + i,none⟩) (e - i) (c - i))) W2 = .ok (.string ⟨y.data.toList.toArray⟩) W2:=fun W2 h2=>hcv W2 (by rw [h2,← hq];rfl)
   have k2:=k1 Wq.drew rfl
   have HHQ:=Lib.hid (has_q hq HH.out)
   have HBQ:=Lib.hid (below_q B hq)
   clear c0 c1 c2 c3 f1 f3 hq hcv k1
   go_region
   go_wp2
   all_goals
    try subst_vars
    go_ret
    have h:=HHQ.out
    have hbq:=HBQ.out
    exact ⟨rfl,(h.set 3 (.string y)).set 1 (.int .i64 e),((hbq.setCell hB (.string y)).setCell hB (.int .i64 e)).drew⟩
set_option maxHeartbeats 1000000 in
theorem rd_num (h : Has W g 195 (rC A l.length c i e x n)) (hB : B ≤ g) (v j : Nat) (hn : n < 5) :
 Calls Tryz.prog 157 #[.pointer (some ⟨g,0,none⟩),.int .u32 v,.int .i64 j,.int .i64 0] W fun en W' => en = .returned (.int .i64 0) ∧ Has W' g 195 ((((rC A l.length c i e x n).setIfInBounds (6 + n) (.int .u32 v)).setIfInBounds 11 (.int .i64 (n + 1 : Nat))).setIfInBounds 1 (.int .i64 j)) ∧ Below B W W':=by
 have c11 : W.cell? ⟨g,11,none⟩ = some (.int .i64 n):=by rw [h.cell];rfl
 have c1 : W.cell? ⟨g,1,none⟩ = some (.int .i64 i):=by rw [h.cell];rfl
 obtain ⟨u,hu⟩ : ∃ u,(rC A l.length c i e x n)[6 + n]'(by show _ < 12;omega) = u:=⟨_,rfl⟩
 have cn : W.cell? ⟨g,6 + n,none⟩ = some u:=by rw [h.cell,← hu];simp
 have f11:=h.free 11
 have f1:=h.free 1
 have fn:=h.free (6 + n)
 have hni : ((n : Nat) : Int) < 5:=by omega
 have hnj : (0 : Int) ≤ ((n : Nat) : Int):=by omega
 have hw : IntKind.i64.wrap ((n : Int) + 1) = (n : Int) + 1:=by rw [IntKind.wrap_i64];omega
 have HH:=Lib.hid h
 clear h hu
 go_enter Tryz.func157,Tryz.ntmps157
 go_wp2
 go_region
 obtain ⟨W1,hW1⟩ : ∃ W1,W.setCell ⟨g,6 + n,none⟩ (.int .u32 v) = W1:=⟨_,rfl⟩
 rw [hW1]
 have h1:=HH.out.set (6 + n) (.int .u32 v)
 have hb1:=(Below.refl B W).setCell (p:=⟨g,6 + n,none⟩) hB (.int .u32 v)
 rw [hW1] at h1 hb1
 have d11 : W1.drew.cell? ⟨g,11,none⟩ = some (.int .i64 n):=by
  show W1.cell? _ = _
  rw [h1.cell,Array.getElem?_setIfInBounds_ne (by omega)]
  rfl
 have d1 : W1.drew.cell? ⟨g,1,none⟩ = some (.int .i64 i):=by
  show W1.cell? _ = _
  rw [h1.cell,Array.getElem?_setIfInBounds_ne (by omega)]
  rfl
 have g11 : W1.drew.frozen? ⟨g,11,none⟩ = false:=h1.free 11
 have g1 : W1.drew.frozen? ⟨g,1,none⟩ = false:=h1.free 1
 have H1:=Lib.hid (show Has W1.drew g 195 _ from h1)
 have HB1:=Lib.hid hb1.drew
 clear h1 hb1 hW1 c11 c1 cn f11 f1 fn
 generalize W1.drew = W2 at *
 go_wp2
 go_ret
 exact ⟨rfl,(H1.out.set 11 (.int .i64 (n + 1))).set 1 (.int .i64 j),(HB1.out.setCell hB (.int .i64 (n + 1))).setCell hB (.int .i64 j)⟩
set_option maxHeartbeats 1000000 in
theorem rd_name (h : Has W g 195 (rC A l.length c i e x n)) (hB : B ≤ g) (hc : l.length ≤ c) (hm : l.length ≤ 211106232532992) (hb : Bs W 0 B A l) {j k : Nat} (hk : k = 4 ∨ k = 5) (hje : j ≤ e) {y : ByteArray} (hT : prTakeV l i = .tuple #[.string y,.int .i64 j,.int .i64 0]) :
 Calls Tryz.prog 156 #[.pointer (some ⟨g,0,none⟩),.pointer (some ⟨g,k,none⟩)] W fun en W' => en = .returned (.int .i64 0) ∧ Has W' g 195 (((rC A l.length c i e x n).setIfInBounds k (.string y)).setIfInBounds 1 (.int .i64 j)) ∧ Below B W W':=by
 have c0 : W.cell? ⟨g,0,none⟩ = some (.slice A l.length c):=by rw [h.cell];rfl
 have c1 : W.cell? ⟨g,1,none⟩ = some (.int .i64 i):=by rw [h.cell];rfl
 have hgw:=h.lt
 have HT : ∀ W2 : World,W2.heap = W.heap → Hid (Calls Tryz.prog 163 #[.slice A l.length c,.int .i64 i] W2 fun e' w' => e' = .returned (.tuple #[.string y,.int .i64 j,.int .i64 0]) ∧ Below W2.heap.size W2 w'):=fun W2 h2=>by
  have:=prTake_any A l c i W2 hc hm 0 (fun h0=>by
   obtain ⟨g',o',e1,e2,e3,e4⟩:=hb h0
   exact ⟨g',o',e1,e2,by rw [h2];omega,fun q hq=>by rw [← e4 q hq];unfold World.cell?;rw [h2]⟩)
  rw [hT] at this
  exact this
 have HH:=Lib.hid h
 clear h hb hT
 have hkk : k < 12:=by omega
 have H5 : ∀ w5 : World,Below W.drew.heap.size W.drew w5 → Has w5 g 195 (rC A l.length c i e x n):=fun w5 B5=>Has.below (w:=W.drew) HH.out B5 hgw
 go_enter Tryz.func156,Tryz.ntmps156
 go_wp2
 rcases hk with rfl | rfl
 all_goals
  go_region_with (go_at_call 163;refine (HT W.drew rfl).out.mono ?_;rintro e' w5 ⟨rfl,B5⟩;have h5:=H5 w5 B5;have d1 : w5.cell? ⟨g,1,none⟩ = some (.int .i64 i):=(by rw [h5.cell];rfl);have d2 : w5.cell? ⟨g,2,none⟩ = some (.int .i64 e):=(by rw [h5.cell];rfl);have d4 : w5.cell? ⟨g,4,none⟩ = some (.string x.host):=(by rw [h5.cell];rfl);have d5 : w5.cell? ⟨g,5,none⟩ = some (.string x.mail):=(by rw [h5.cell];rfl);have f1:=h5.free 1;have f4:=h5.free 4;have f5:=h5.free 5;have HH5:=Lib.hid h5;have hb5 : Below B W w5:=Below.trans (Below.refl B W).drew (B5.mono (by show B ≤ W.heap.size;omega));have HB5:=Lib.hid hb5;clear h5 hb5 B5)
  all_goals
   simp only [Act.put,List.getElem_toArray,List.getElem_cons_succ,List.getElem_cons_zero,List.setIfInBounds_toArray,List.set_cons_zero,List.set_cons_succ]
   go_wp2
   go_ret
   exact ⟨rfl,(HH5.out.set _ (.string y)).set 1 (.int .i64 j),(HB5.out.setCell hB (.string y)).setCell hB (.int .i64 j)⟩
end
end Go.Proofs.YtekafhogiambaaaGreatDoor
