/- Texts of the proofs, merged. -/
import Derived.Test.YtekafhogiambaaaGreatDoorZc27
import Derived.Test.YtekafhogiambaaaGreatDoorZc1
import Derived.Test.YtekafhogiambaaaGreatDoorZc3
import Derived.WalkMore
import Derived.ScopeJumps
set_option maxRecDepth 100000
namespace Go.Proofs.YtekafhogiambaaaGreatDoor
open Go.RowKit
set_option maxHeartbeats 1000000 in
theorem beginEntry_any (s : ByteArray) (at_ line lineAt dep fl_ fc : Nat) (bl : Bool) (el : Nat) (vw ve : Value) (g : Nat) (w : World) (h : Has w g 91 (lxc s at_ line lineAt dep fl_ fc bl el vw ve)) (hat : at_ ≤ s.size) :
 Calls Tryz.prog 61 #[.pointer (some ⟨g,0,none⟩)] w fun e w' => e = .returned (.tuple #[]) ∧ Has w' g 91 (lxc s at_ line lineAt dep fl_ fc (Tk.blank (nb s at_)) line (.slice none 0 0) ve) ∧ w.grownBy w' (some g):=by
 have HN:=Lib.hid (next_any s at_ line lineAt dep fl_ fc bl el vw ve g w.drew h hat)
 have c2 : w.cell? ⟨g,2,none⟩ = some (.int .i64 line):=h.cell 2
 have c7 : w.cell? ⟨g,7,none⟩ = some (.bool bl):=h.cell 7
 have c8 : w.cell? ⟨g,8,none⟩ = some (.int .i64 el):=h.cell 8
 have c9 : w.cell? ⟨g,9,none⟩ = some vw:=h.cell 9
 have f7:=h.free 7
 have f8:=h.free 8
 have f9:=h.free 9
 have H:=Lib.hid h
 clear h
 have HB:=Lib.hid (isBlank_any (nb s at_))
 generalize Tk.blank (nb s at_) = bb at *
 generalize ((nb s at_).toNat : Int) = q at *
 clear hat
 go_enter Tryz.func61,Tryz.ntmps61
 go_wp2
 go_region_with (first
  | (go_at_call 62;refine HN.out.mono ?_;rintro e w1 ⟨rfl,n,rfl⟩)
  | (go_at_call 88;refine (HB.out _).mono ?_;rintro e w1 ⟨rfl,rfl⟩))
 all_goals
  go_wp2
  go_end0
  exact ⟨rfl,(((show Has (w.drewN _) g 91 (lxc s at_ line lineAt dep fl_ fc bl el vw ve) from H.out).set 7 _).set 8 _).set 9 _,grown_set (grown_set (grown_set (grown_drewN w _ _) 7 _) 8 _) 9 _⟩
set_option maxHeartbeats 1000000 in
theorem endLine_in (s : ByteArray) (at_ line lineAt dep fl_ fc : Nat) (bl : Bool) (el : Nat) (vw ve : Value) (g : Nat) (w : World) (h : Has w g 91 (lxc s at_ line lineAt dep fl_ fc bl el vw ve)) (hl : line ≤ 1048576) (hd : dep ≠ 0) :
 Calls Tryz.prog 89 #[.pointer (some ⟨g,0,none⟩)] w fun e w' => e = .returned (.tuple #[]) ∧ Has w' g 91 (lxc s at_ (line + 1) at_ dep fl_ fc bl el vw ve) ∧ w.grownBy w' (some g):=by
 have HB:=Lib.hid (beginLine_any s at_ line lineAt dep fl_ fc bl el vw ve g w h hl)
 have hd2 : ((dep : Int) == 0) = false:=beq_eq_false_iff_ne.2 (by omega)
 clear h
 go_enter Tryz.func89,Tryz.ntmps89
 go_wp2_with (go_at_call 60;refine HB.out.mono ?_;rintro e w1 ⟨rfl,h1,g1⟩;have c4 : w1.cell? ⟨g,4,none⟩ = some (.int .i64 dep):=h1.cell 4;have H1:=Lib.hid h1;have G1:=Lib.hid g1;clear h1 g1)
 go_end0
 exact ⟨rfl,H1.out,G1.out⟩
set_option maxHeartbeats 1000000 in
theorem endLine_out (s : ByteArray) (at_ line lineAt fl_ fc : Nat) (bl : Bool) (el : Nat) (vw ve : Value) (ws : List Tk.Wd) (out : List Ex) (g b : Nat) (w : World) (h : Has w g 91 (lxc s at_ line lineAt 0 fl_ fc bl el vw ve))
 (hT : Tx w b vw ve ws out) (hgb : g < b) (hb : b ≤ w.heap.size) (hn : out.length ≤ 1048576) (hws : ws.length ≤ 1048576) (hl : line ≤ 1048576) (hat : at_ ≤ s.size) :
 Calls Tryz.prog 89 #[.pointer (some ⟨g,0,none⟩)] w fun e w' => e = .returned (.tuple #[]) ∧ ∃ ve',Has w' g 91 (lxc s at_ (line + 1) at_ 0 fl_ fc (Tk.blank (nb s at_)) (line + 1) (.slice none 0 0) ve') ∧ Tx w' b (.slice none 0 0) ve' [] (closeEx bl el vw ws out) ∧ Kb g b w w':=by
 have HB:=Lib.hid (beginLine_any s at_ line lineAt 0 fl_ fc bl el vw ve g w h hl)
 have HE:=Lib.hid (fun (W : World) (hW : Has W g 91 (lxc s at_ (line + 1) at_ 0 fl_ fc bl el vw ve)) (hG : w.grownBy W (some g))=>endEntry_any s at_ (line + 1) at_ 0 fl_ fc bl el vw ve ws out g b W hW (hT.farSet hgb hG) hgb (Nat.le_trans hb hG.size) hn hws)
 have HS:=Lib.hid (fun (x : Value) (W : World) (hW : Has W g 91 (lxc s at_ (line + 1) at_ 0 fl_ fc bl el vw x))=>beginEntry_any s at_ (line + 1) at_ 0 fl_ fc bl el vw x g W hW hat)
 have HGB:=Lib.hid hgb
 have HBB:=Lib.hid hb
 clear h hT hgb hb hn hws hl hat
 go_enter Tryz.func89,Tryz.ntmps89
 go_wp2_with (first
  | (go_at_call 60;refine HB.out.mono ?_;rintro e w1 ⟨rfl,h1,g1⟩;have c4 : w1.cell? ⟨g,4,none⟩ = some (.int .i64 (0 : Nat)):=h1.cell 4;have H1:=Lib.hid h1;have G1:=Lib.hid g1;clear h1 g1)
  | (go_at_call 69;refine (HE.out _ H1.out G1.out).mono ?_;rintro e w2 ⟨rfl,x,h2,e2,b2⟩;have H2:=Lib.hid h2;have E2:=Lib.hid e2;have B2:=Lib.hid ((Kb.grown G1.out HBB.out).trans b2);clear h2 e2 b2 c4)
  | (go_at_call 61;refine (HS.out _ _ H2.out).mono ?_;rintro e w3 ⟨rfl,h3,g3⟩;have H3:=Lib.hid h3;have G3:=Lib.hid g3;clear h3 g3))
 go_end0
 exact ⟨rfl,_,H3.out,(Tx.start E2.out).farSet HGB.out G3.out,B2.out.trans (Kb.grown G3.out (Nat.le_trans HBB.out B2.out.size))⟩
end Go.Proofs.YtekafhogiambaaaGreatDoor
namespace Go.Proofs.YtekafhogiambaaaGreatDoor
open Go.RowKit
section
variable (s : ByteArray) (at_ line lineAt dep fl_ fc : Nat) (bl : Bool) (el : Nat) (vw ve : Value) (g : Nat) (w : World)
set_option maxHeartbeats 1000000 in
theorem pass_other (h : Has w g 91 (lxc s at_ line lineAt dep fl_ fc bl el vw ve)) (hat : at_ < s.size) (hs : s.size ≤ 1048576)
 (h10 : (nb s at_).toNat ≠ 10) (h40 : (nb s at_).toNat ≠ 40) (h41 : (nb s at_).toNat ≠ 41) :
 Calls Tryz.prog 66 #[.pointer (some ⟨g,0,none⟩)] w fun e w' => e = .returned (.tuple #[]) ∧ Has w' g 91 (lxc s (at_ + 1) line lineAt dep fl_ fc bl el vw ve) ∧ w.grownBy w' (some g):=by
 have HN:=Lib.hid (next_has s at_ line lineAt dep fl_ fc bl el vw ve g w h (Nat.le_of_lt hat))
 have q10 : (((nb s at_).toNat : Int) == 10) = false:=beq_eq_false_iff_ne.2 (by omega)
 have q40 : (((nb s at_).toNat : Int) == 40) = false:=beq_eq_false_iff_ne.2 (by omega)
 have q41 : (((nb s at_).toNat : Int) == 41) = false:=beq_eq_false_iff_ne.2 (by omega)
 generalize ((nb s at_).toNat : Int) = q at *
 have hb : at_ ≤ 1048576:=by omega
 clear h h10 h40 h41 hat hs
 go_enter Tryz.func66,Tryz.ntmps66
 go_wp2_with (go_at_call 62;refine HN.out.mono ?_;rintro e w1 ⟨rfl,h1,g1⟩;have c1 : w1.cell? ⟨g,1,none⟩ = some (.int .i64 at_):=h1.cell 1;have f1:=h1.free 1;have HA:=Lib.hid h1;have HG:=Lib.hid g1;clear h1 g1)
 go_end0
 exact ⟨rfl,HA.out.set 1 _,grown_set HG.out 1 _⟩
set_option maxHeartbeats 1000000 in
theorem pass_cl (h : Has w g 91 (lxc s at_ line lineAt (dep + 1) fl_ fc bl el vw ve)) (hat : at_ < s.size) (hs : s.size ≤ 1048576) (hd : dep ≤ 1048576) (h41 : (nb s at_).toNat = 41) :
 Calls Tryz.prog 66 #[.pointer (some ⟨g,0,none⟩)] w fun e w' => e = .returned (.tuple #[]) ∧ Has w' g 91 (lxc s (at_ + 1) line lineAt dep fl_ fc bl el vw ve) ∧ w.grownBy w' (some g):=by
 have HN:=Lib.hid (next_has s at_ line lineAt (dep + 1) fl_ fc bl el vw ve g w h (Nat.le_of_lt hat))
 have HQ : Hid (((nb s at_).toNat : Int) = 41):=by rw [Hid,h41];rfl
 rw [HQ.out] at HN
 have hb : at_ ≤ 1048576:=by omega
 have HS : Hid (∀ W : World,Has W g 91 (lxc s at_ line lineAt (dep + 1) fl_ fc bl el vw ve) → Has ((W.setCell ⟨g,1,none⟩ (.int .i64 ((at_ : Int) + 1))).setCell ⟨g,4,none⟩ (.int .i64 (dep : Int))) g 91 (lxc s (at_ + 1) line lineAt dep fl_ fc bl el vw ve)):=fun W hW=>(hW.set 1 _).set 4 _
 clear h h41 hat hs HQ
 go_enter Tryz.func66,Tryz.ntmps66
 go_wp2_with (go_at_call 62;refine HN.out.mono ?_;rintro e w1 ⟨rfl,h1,g1⟩;have c1 : w1.cell? ⟨g,1,none⟩ = some (.int .i64 at_):=h1.cell 1;have f1:=h1.free 1;have c4 : w1.cell? ⟨g,4,none⟩ = some (.int .i64 ((dep : Int) + 1)):=h1.cell 4;have f4:=h1.free 4;have HA:=Lib.hid h1;have HG:=Lib.hid g1;clear h1 g1)
 go_end0
 refine ⟨rfl,?_,grown_set (grown_set HG.out 1 _) 4 _⟩
 exact HS.out _ HA.out
set_option maxHeartbeats 1000000 in
theorem pass_op0 (h : Has w g 91 (lxc s at_ line lineAt 0 fl_ fc bl el vw ve)) (hat : at_ < s.size) (hs : s.size ≤ 1048576) (hl : lineAt ≤ at_) (h40 : (nb s at_).toNat = 40) :
 Calls Tryz.prog 66 #[.pointer (some ⟨g,0,none⟩)] w fun e w' => e = .returned (.tuple #[]) ∧ Has w' g 91 (lxc s (at_ + 1) line lineAt 1 line (1 + at_ - lineAt) bl el vw ve) ∧ w.grownBy w' (some g):=by
 have HN:=Lib.hid (next_has s at_ line lineAt 0 fl_ fc bl el vw ve g w h (Nat.le_of_lt hat))
 have HQ : Hid (((nb s at_).toNat : Int) = 40):=by rw [Hid,h40];rfl
 rw [HQ.out] at HN
 have hb : at_ ≤ 1048576:=by omega
 have HSP:=Lib.hid (fun (W : World) (hW : Has W g 91 (lxc s at_ line lineAt 0 fl_ fc bl el vw ve))=>spot_any s at_ line lineAt 0 fl_ fc bl el vw ve g W hW at_ hb (by omega))
 have HC : Hid ((1 + (at_ : Int) - lineAt) = ((1 + at_ - lineAt : Nat) : Int)):=by rw [Hid];omega
 rw [HC.out] at HSP
 generalize 1 + at_ - lineAt = col at *
 clear h h40 hat hs HQ hl HC
 go_enter Tryz.func66,Tryz.ntmps66
 go_wp2_with (first
  | (go_at_call 62;refine HN.out.mono ?_;rintro e w1 ⟨rfl,h1,g1⟩;have c1 : w1.cell? ⟨g,1,none⟩ = some (.int .i64 at_):=h1.cell 1;have c4 : w1.cell? ⟨g,4,none⟩ = some (.int .i64 0):=h1.cell 4;have HA:=Lib.hid h1;have HG:=Lib.hid g1;clear h1 g1)
  | (go_at_call 64;refine (HSP.out _ HA.out).mono ?_;rintro e w2 ⟨rfl,g2⟩;have h2:=HA.out.grown g2 (by simp);have d1 : w2.cell? ⟨g,1,none⟩ = some (.int .i64 at_):=h2.cell 1;have d4 : w2.cell? ⟨g,4,none⟩ = some (.int .i64 0):=h2.cell 4;have d5 : w2.cell? ⟨g,5,none⟩ = some (.int .i64 fl_):=h2.cell 5;have d6 : w2.cell? ⟨g,6,none⟩ = some (.int .i64 fc):=h2.cell 6;have f1:=h2.free 1;have f4:=h2.free 4;have f5:=h2.free 5;have f6:=h2.free 6;have HA2:=Lib.hid h2;have HG2:=Lib.hid (grown_trans HG.out (grown_any g2 (some g)));clear h2 g2 c1 c4))
 go_end0
 exact ⟨rfl,(((HA2.out.set 5 _).set 6 _).set 1 _).set 4 _,grown_set (grown_set (grown_set (grown_set HG2.out 5 _) 6 _) 1 _) 4 _⟩
set_option maxHeartbeats 1000000 in
theorem pass_op (h : Has w g 91 (lxc s at_ line lineAt dep fl_ fc bl el vw ve)) (hat : at_ < s.size) (hs : s.size ≤ 1048576) (hd : dep ≠ 0) (hd2 : dep ≤ 1048576) (h40 : (nb s at_).toNat = 40) :
 Calls Tryz.prog 66 #[.pointer (some ⟨g,0,none⟩)] w fun e w' => e = .returned (.tuple #[]) ∧ Has w' g 91 (lxc s (at_ + 1) line lineAt (dep + 1) fl_ fc bl el vw ve) ∧ w.grownBy w' (some g):=by
 have HN:=Lib.hid (next_has s at_ line lineAt dep fl_ fc bl el vw ve g w h (Nat.le_of_lt hat))
 have HQ : Hid (((nb s at_).toNat : Int) = 40):=by rw [Hid,h40];rfl
 rw [HQ.out] at HN
 have hb : at_ ≤ 1048576:=by omega
 have hq : ((dep : Int) == 0) = false:=beq_eq_false_iff_ne.2 (by omega)
 clear h h40 hat hs HQ hd
 go_enter Tryz.func66,Tryz.ntmps66
 go_wp2_with (go_at_call 62;refine HN.out.mono ?_;rintro e w1 ⟨rfl,h1,g1⟩;have c1 : w1.cell? ⟨g,1,none⟩ = some (.int .i64 at_):=h1.cell 1;have f1:=h1.free 1;have c4 : w1.cell? ⟨g,4,none⟩ = some (.int .i64 dep):=h1.cell 4;have f4:=h1.free 4;have HA:=Lib.hid h1;have HG:=Lib.hid g1;clear h1 g1)
 go_end0
 exact ⟨rfl,(HA.out.set 1 _).set 4 _,grown_set (grown_set HG.out 1 _) 4 _⟩
set_option maxHeartbeats 1000000 in
theorem pass_lf (h : Has w g 91 (lxc s at_ line lineAt dep fl_ fc bl el vw ve)) (hat : at_ < s.size) (hs : s.size ≤ 1048576) (h10 : (nb s at_).toNat = 10) (R : World → Prop)
 (hE : ∀ W,Has W g 91 (lxc s (at_ + 1) line lineAt dep fl_ fc bl el vw ve) → w.grownBy W (some g) → Calls Tryz.prog 89 #[.pointer (some ⟨g,0,none⟩)] W fun e w' => e = .returned (.tuple #[]) ∧ R w') :
 Calls Tryz.prog 66 #[.pointer (some ⟨g,0,none⟩)] w fun e w' => e = .returned (.tuple #[]) ∧ R w':=by
 have HN:=Lib.hid (next_has s at_ line lineAt dep fl_ fc bl el vw ve g w h (Nat.le_of_lt hat))
 have HQ : Hid (((nb s at_).toNat : Int) = 10):=by rw [Hid,h10];rfl
 rw [HQ.out] at HN
 have hb : at_ ≤ 1048576:=by omega
 have HE:=Lib.hid hE
 clear h h10 hat hs HQ hE
 go_enter Tryz.func66,Tryz.ntmps66
 go_wp2_with (first
  | (go_at_call 62;refine HN.out.mono ?_;rintro e w1 ⟨rfl,h1,g1⟩;have c1 : w1.cell? ⟨g,1,none⟩ = some (.int .i64 at_):=h1.cell 1;have f1:=h1.free 1;have HA:=Lib.hid h1;have HG:=Lib.hid g1;clear h1 g1)
  | (go_at_call 89;refine (HE.out _ (HA.out.set 1 _) (grown_set HG.out 1 _)).mono ?_;rintro e w2 ⟨rfl,r⟩;have HR:=Lib.hid r;clear r))
 go_end0
 exact ⟨rfl,HR.out⟩
end
end Go.Proofs.YtekafhogiambaaaGreatDoor
namespace Go.Proofs.YtekafhogiambaaaGreatDoor
open Go.RowKit
set_option maxHeartbeats 2000000 in
theorem put_any (s : ByteArray) (at_ line lineAt dep fl_ fc : Nat) (bl : Bool) (el : Nat) (vw ve : Value) (ws : List Tk.Wd) (out : List Ex) (g b : Nat) (w : World) (h : Has w g 91 (lxc s at_ line lineAt dep fl_ fc bl el vw ve))
 (hT : Tx w b vw ve ws out) (hgb : g < b) (hb : b ≤ w.heap.size) (hws : ws.length ≤ 1048576) (t : ByteArray) (q : Bool) (p : Nat) (hp : p ≤ 1048576) (hl : lineAt ≤ p) :
 Calls Tryz.prog 67 #[.pointer (some ⟨g,0,none⟩),.int .i64 p,.agg #[.string t,.bool q,.int .i64 0,.int .i64 0]] w fun e w' => e = .returned (.tuple #[]) ∧
  ∃ vw',Has w' g 91 (lxc s at_ line lineAt dep fl_ fc bl el vw' ve) ∧ Tx w' b vw' ve (ws ++ [⟨t.data.toList,q,line,1 + p - lineAt⟩]) out ∧ Kb g b w w':=by
 have hg3 : g < w.heap.size:=h.lt
 have HSP:=Lib.hid (fun (W : World) (hW : Has W g 91 (lxc s at_ line lineAt dep fl_ fc bl el vw ve))=>spot_any s at_ line lineAt dep fl_ fc bl el vw ve g W hW p hp (by omega))
 have hC : (1 + (p : Int) - lineAt) = ((1 + p - lineAt : Nat) : Int):=by omega
 rw [hC] at HSP
 clear hC
 generalize 1 + p - lineAt = col at *
 clear hp hl
 have HLW:=Lib.hid hws
 have HA0:=Lib.hid (h.alloc (.cells #[.string t,.bool q,.int .i64 0,.int .i64 0] 69))
 have HT0:=Lib.hid hT
 have HX0:=Lib.hid (Has.fresh w 69 #[.string t,.bool q,.int .i64 0,.int .i64 0])
 have HB0 : Hid (Below w.heap.size w (w.alloc (.cells #[.string t,.bool q,.int .i64 0,.int .i64 0] 69))):=(Below.refl _ w).alloc (Nat.le_refl _) _
 have HGB:=Lib.hid hgb
 have HBB:=Lib.hid hb
 clear h hT hgb hb hws
 go_enter Tryz.func67,Tryz.ntmps67
 go_wp2_with (go_at_call 64;refine (HSP.out _ HA0.out).mono ?_;rintro e w1 ⟨rfl,g1⟩;have HA1:=Lib.hid (HA0.out.grown g1 (by simp));have HX1:=Lib.hid (HX0.out.grown g1 (by simp));have HB1:=Lib.hid (HB0.out.grown g1 (by simp) (fun k e=>by cases e));clear g1)
 have hs1 : w.heap.size < w1.heap.size:=HX1.out.lt
 have HA2:=Lib.hid (HA1.out.alloc (.cells #[.int .i64 line,.int .i64 col] 31))
 have HX2:=Lib.hid (HX1.out.alloc (.cells #[.int .i64 line,.int .i64 col] 31))
 have HP2:=Lib.hid (Has.fresh w1 31 #[.int .i64 line,.int .i64 col])
 have HB2:=Lib.hid (HB1.out.alloc HB1.out.size (.cells #[.int .i64 line,.int .i64 col] 31))
 generalize w1.heap.size = gp at *
 generalize w1.alloc (.cells #[.int .i64 line,.int .i64 col] 31) = w2 at *
 clear HA1 HX1 HB1 HSP HA0 HX0 HB0
 generalize hbx : w.heap.size = bx at *
 have p0 : w2.cell? ⟨gp,0,none⟩ = some (.int .i64 line):=HP2.out.cell 0
 have p1 : w2.cell? ⟨gp,1,none⟩ = some (.int .i64 col):=HP2.out.cell 1
 have x2 : w2.cell? ⟨bx,2,none⟩ = some (.int .i64 0):=HX2.out.cell 2
 have x3 : w2.cell? ⟨bx,3,none⟩ = some (.int .i64 0):=HX2.out.cell 3
 have y2:=HX2.out.free 2
 have y3:=HX2.out.free 3
 have HBX:=Lib.hid hbx
 clear hbx
 go_region
 all_goals
  go_wp2
  have HX3 : Hid (Has ((w2.setCell ⟨bx,2,none⟩ (.int .i64 line)).setCell ⟨bx,3,none⟩ (.int .i64 col)).drew bx 69 #[.string t,.bool q,.int .i64 line,.int .i64 col]):=(HX2.out.set 2 (.int .i64 line)).set 3 (.int .i64 col)
  have HA3 : Hid (Has ((w2.setCell ⟨bx,2,none⟩ (.int .i64 line)).setCell ⟨bx,3,none⟩ (.int .i64 col)).drew g 91 (lxc s at_ line lineAt dep fl_ fc bl el vw ve)):=(HA2.out.far (p:=⟨bx,2,none⟩) (by show g ≠ bx;omega) _).far (p:=⟨bx,3,none⟩) (by show g ≠ bx;omega) _
  have HB3 : Hid (Below bx w ((w2.setCell ⟨bx,2,none⟩ (.int .i64 line)).setCell ⟨bx,3,none⟩ (.int .i64 col)).drew):=((HB2.out.setCell (p:=⟨bx,2,none⟩) (Nat.le_refl _) _).setCell (p:=⟨bx,3,none⟩) (Nat.le_refl _) _).drew
  have HT3:=Lib.hid (HT0.out.below HB3.out (Nat.le_of_eq HBX.out))
  clear p0 p1 x2 x3 y2 y3 HX2 HA2 HP2 HB2 HT0
  generalize ((w2.setCell ⟨bx,2,none⟩ (.int .i64 line)).setCell ⟨bx,3,none⟩ (.int .i64 col)).drew = w3 at *
  obtain ⟨ad,cp,hvw,hcp⟩:=ownK_form HT3.out.wr
  subst hvw
  have hws:=HLW.out
  have hb3 : b ≤ w3.heap.size:=by have:=HB3.out.size;have:=HBX.out;have:=HBB.out;omega
  obtain ⟨i4,z4,hi4,hz4,hs4,hb4,hc4⟩:=info_word
  obtain ⟨vw2,w4,hr,ho,hg4,hv4⟩:=run_append_where (P:=Tryz.prog) (w:=w3.drew.alloc (.cells #[.string t,.bool q,.int .i64 line,.int .i64 col] 69)) b 70 70 69 i4 z4 4 40 Tryz.underlying70 hi4 hz4 hs4 hb4 hc4 (by decide) (.slice ad ws.length cp) ws.length (fl wc ws)
   ((tk_drew HT3.out.wr).alloc _) ⟨w3.heap.size,0,none⟩ 1 1 [.string t,.bool q,.int .i64 line,.int .i64 col] rfl (tk_cells_new w3.drew _ _) (by simp [Value.oneCell']) (by decide) (by unfold maxLen;omega) (by omega) (by simp;omega)
  have HE : Hid (Tx w4 b vw2 ve (ws ++ [⟨t.data.toList,q,line,col⟩]) out):=(HT3.out.drew.alloc (.cells #[.string t,.bool q,.int .i64 line,.int .i64 col] 69)).put (by rw [fl_append,fl_one];exact ho) hg4 hv4
  have hne : some g ≠ (Value.slice ad ws.length cp).ownBlock:=fun e=>by have:=(HT3.out.wr.lt g e.symm).1;have:=HGB.out;omega
  have h4 : Has w4 g 91 (lxc s at_ line lineAt dep fl_ fc bl el (.slice ad ws.length cp) ve) :=
   Has.grown ((show Has w3.drew g 91 (lxc s at_ line lineAt dep fl_ fc bl el (.slice ad ws.length cp) ve) from HA3.out).alloc _) hg4 hne
  have d9 : w4.cell? ⟨g,9,none⟩ = some (.slice ad ws.length cp):=h4.cell 9
  have f9 : w4.frozen? ⟨g,9,none⟩ = false:=h4.free 9
  have c9 : w3.cell? ⟨g,9,none⟩ = some (.slice ad ws.length cp):=HA3.out.cell 9
  have e9 : (w3.alloc (.cells #[.string t,.bool q,.int .i64 line,.int .i64 col] 69)).cell? ⟨g,9,none⟩ = some (.slice ad ws.length cp):=(HA3.out.alloc _).cell 9
  have x0 : w3.cell? ⟨bx,0,none⟩ = some (.string t):=HX3.out.cell 0
  have x1 : w3.cell? ⟨bx,1,none⟩ = some (.bool q):=HX3.out.cell 1
  have x2 : w3.cell? ⟨bx,2,none⟩ = some (.int .i64 line):=HX3.out.cell 2
  have x3 : w3.cell? ⟨bx,3,none⟩ = some (.int .i64 col):=HX3.out.cell 3
  have H4:=Lib.hid h4
  have hbw : Below b w3 w4:=(((Below.refl b w3).drew).alloc (by simp;omega) _).grown hg4 (by simp;omega) (fun k e=>by have:=(HT3.out.wr.lt k e).1;omega)
  have HBW : Hid (Kb g b w w4):=Kb.of_below ((HB3.out.mono HBB.out).trans hbw)
  obtain ⟨ad2,cp2,rfl,_⟩:=ownK_form ho
  have HR:=Lib.hid hr
  clear hr ho hg4 hv4 h4 hbw hne HX3 HA3 HB3 HT3 hi4 hz4 hs4 hb4 hc4
  go_region_law (refine append_run (.tmp 21) (.tmp 23) _ _ rfl _ _ rfl rfl HR.out ?_)
  all_goals
   go_wp2
   go_end0
   exact ⟨rfl,_,H4.out.set 9 _,HE.out.farSet HGB.out (grown_set (World.grownBy.refl w4 _) 9 _),HBW.out.set 9 _⟩
end Go.Proofs.YtekafhogiambaaaGreatDoor
namespace Go.Proofs.YtekafhogiambaaaGreatDoor
open Go.RowKit
def LxM (w : World) (g b : Nat) (s : ByteArray) (at_ lineAt : Nat) (σ : Tk.St) (n : Nat) : Prop :=
 ∃ vw ve out,Has w g 91 (lxc s at_ σ.line lineAt σ.dep σ.fl σ.fc σ.bl σ.el vw ve) ∧ Tx w b vw ve σ.ws out ∧ out.map Ex.en = σ.es ∧ out.length ≤ n ∧ σ.ws.length ≤ n ∧ σ.line ≤ n + 1 ∧ σ.dep ≤ n ∧ lineAt ≤ n
theorem LxM.far {w w' : World} {g b : Nat} {s : ByteArray} {at_ lineAt : Nat} {σ : Tk.St} {n at' : Nat} (h : LxM w g b s at_ lineAt σ n) (hgb : g < b) (hw : w.grownBy w' (some g))
 (hs : ∀ vw ve,Has w g 91 (lxc s at_ σ.line lineAt σ.dep σ.fl σ.fc σ.bl σ.el vw ve) → Has w' g 91 (lxc s at' σ.line lineAt σ.dep σ.fl σ.fc σ.bl σ.el vw ve)) : LxM w' g b s at' lineAt σ n:=by
 obtain ⟨vw,ve,out,h1,h2,h3⟩:=h
 exact ⟨vw,ve,out,hs vw ve h1,h2.farSet hgb hw,h3⟩
theorem nb_drop {s : ByteArray} {at_ : Nat} (h : at_ < s.size) : s.data.toList.drop at_ = nb s at_ :: s.data.toList.drop (at_ + 1):=by
 have hl : at_ < s.data.toList.length:=by simpa using h
 rw [List.drop_eq_getElem_cons hl]
 unfold nb
 rw [List.getD_eq_getElem?_getD,List.getElem?_eq_getElem hl]
 rfl
theorem nb_end {s : ByteArray} {at_ : Nat} (h : s.size ≤ at_) : nb s at_ = 10:=by
 unfold nb
 rw [List.getD_eq_getElem?_getD,List.getElem?_eq_none (by simpa using h)]
 rfl
theorem drop_end {s : ByteArray} {at_ : Nat} (h : s.size ≤ at_) : s.data.toList.drop at_ = []:=List.drop_eq_nil_of_le (by simpa using h)
theorem hb_nb (s : ByteArray) (at_ : Nat) : Tk.hb (s.data.toList.drop at_) = Tk.blank (nb s at_):=by
 by_cases h : at_ < s.size
 · rw [nb_drop h];rfl
 · rw [drop_end (by omega),nb_end (by omega)];rfl
theorem close_en (σ : Tk.St) (vw : Value) (out : List Ex) (h : out.map Ex.en = σ.es) : (closeEx σ.bl σ.el vw σ.ws out).map Ex.en = σ.done:=by
 unfold closeEx Tk.St.done
 split
 · exact h
 · rw [List.map_append,h];rfl
theorem close_len (bl : Bool) (el : Nat) (vw : Value) (ws : List Tk.Wd) (out : List Ex) : (closeEx bl el vw ws out).length ≤ out.length + 1:=by
 unfold closeEx
 split <;> simp
theorem pass_step (s : ByteArray) (at_ lineAt : Nat) (σ : Tk.St) (g b : Nat) (w : World) (h : LxM w g b s at_ lineAt σ at_) (hgb : g < b) (hb : b ≤ w.heap.size) (hat : at_ < s.size) (hs : s.size ≤ 262144) (hc : σ.col + lineAt = at_ + 1)
 (he : Tk.ends (nb s at_) = true) (h59 : (nb s at_).toNat ≠ 59) (h34 : (nb s at_).toNat ≠ 34) (h41 : (nb s at_).toNat = 41 → σ.dep ≠ 0) :
 Calls Tryz.prog 66 #[.pointer (some ⟨g,0,none⟩)] w fun e w' => e = .returned (.tuple #[]) ∧ ∃ lineAt' σ',LxM w' g b s (at_ + 1) lineAt' σ' (at_ + 1) ∧ σ'.col + lineAt' = at_ + 2 ∧ Kb g b w w' ∧ Tk.play (Tk.lx (s.data.toList.drop at_)) σ = Tk.play (Tk.lx (s.data.toList.drop (at_ + 1))) σ':=by
 obtain ⟨vw,ve,out,h1,h2,h3,h4,h5,h6,h7,h8⟩:=h
 have hlx : Tk.lx (s.data.toList.drop at_) = .ch (nb s at_) :: Tk.lx (s.data.toList.drop (at_ + 1)):=by rw [nb_drop hat,Tk.lx_ch h59 h34 he]
 rw [hlx]
 by_cases h10 : (nb s at_).toNat = 10
 · have hp : Tk.play (.ch (nb s at_) :: Tk.lx (s.data.toList.drop (at_ + 1))) σ = Tk.play (Tk.lx (s.data.toList.drop (at_ + 1))) (σ.nl (Tk.blank (nb s (at_ + 1)))):=by
    rw [Tk.play,if_pos h10,Tk.hp_lx,hb_nb]
   rw [hp]
   obtain ⟨σl,σc,σd,σfl,σfc,σbl,σel,σws,σes⟩:=σ
   simp only at h1 h2 h3 h4 h5 h6 h7 h8 hc
   by_cases hd : σd = 0
   · subst hd
     refine pass_lf s at_ σl lineAt 0 σfl σfc σbl σel vw ve g w h1 hat (by omega) h10 _ (fun W hW hG=>?_)
     refine (endLine_out s (at_ + 1) σl lineAt σfl σfc σbl σel vw ve σws out g b W hW (h2.farSet hgb hG) hgb (Nat.le_trans hb hG.size) (by omega) (by omega) (by omega) (by omega)).mono ?_
     rintro e w2 ⟨rfl,ve',a1,a2,a3⟩
     have hcl:=close_len σbl σel vw σws out
     refine ⟨rfl,at_ + 1,⟨σl + 1,1,0,σfl,σfc,Tk.blank (nb s (at_ + 1)),σl + 1, [],Tk.St.done ⟨σl,σc,0,σfl,σfc,σbl,σel,σws,σes⟩⟩,⟨.slice none 0 0,ve',_,a1,a2,close_en ⟨σl,σc,0,σfl,σfc,σbl,σel,σws,σes⟩ vw out h3,by omega,by simp,by show σl + 1 ≤ at_ + 1 + 1;omega,by simp,Nat.le_refl _⟩,by show 1 + (at_ + 1) = at_ + 2;omega,(Kb.grown hG hb).trans a3,rfl⟩
   · refine pass_lf s at_ σl lineAt σd σfl σfc σbl σel vw ve g w h1 hat (by omega) h10 _ (fun W hW hG=>?_)
     refine (endLine_in s (at_ + 1) σl lineAt σd σfl σfc σbl σel vw ve g W hW (by omega) hd).mono ?_
     rintro e w2 ⟨rfl,a1,a2⟩
     have hG2:=grown_trans hG a2
     refine ⟨rfl,at_ + 1,⟨σl + 1,1,σd,σfl,σfc,σbl,σel,σws,σes⟩,⟨vw,ve,out,a1,h2.farSet hgb hG2,h3,by omega,by show σws.length ≤ _;omega,by show σl + 1 ≤ _;omega,by show σd ≤ _;omega,Nat.le_refl _⟩,by show 1 + (at_ + 1) = at_ + 2;omega,Kb.grown hG2 hb,?_⟩
     simp only [Tk.St.nl]
     rw [if_neg hd]
 by_cases h40 : (nb s at_).toNat = 40
 · have hp : Tk.play (.ch (nb s at_) :: Tk.lx (s.data.toList.drop (at_ + 1))) σ = Tk.play (Tk.lx (s.data.toList.drop (at_ + 1))) σ.op:=by
    rw [Tk.play,if_neg h10,if_pos h40]
   rw [hp]
   obtain ⟨σl,σc,σd,σfl,σfc,σbl,σel,σws,σes⟩:=σ
   simp only at h1 h2 h3 h4 h5 h6 h7 h8 hc
   by_cases hd : σd = 0
   · subst hd
     refine (pass_op0 s at_ σl lineAt σfl σfc σbl σel vw ve g w h1 hat (by omega) h8 h40).mono ?_
     rintro e w2 ⟨rfl,a1,a2⟩
     have hcc : 1 + at_ - lineAt = σc:=by omega
     rw [hcc] at a1
     exact ⟨rfl,lineAt,⟨σl,σc + 1,1,σl,σc,σbl,σel,σws,σes⟩,⟨vw,ve,out,a1,h2.farSet hgb a2,h3,by omega,by show σws.length ≤ _;omega,by show σl ≤ _;omega,by show 1 ≤ _;omega,by omega⟩,by show σc + 1 + lineAt = _;omega,Kb.grown a2 hb,rfl⟩
   · refine (pass_op s at_ σl lineAt σd σfl σfc σbl σel vw ve g w h1 hat (by omega) hd (by omega) h40).mono ?_
     rintro e w2 ⟨rfl,a1,a2⟩
     refine ⟨rfl,lineAt,⟨σl,σc + 1,σd + 1,σfl,σfc,σbl,σel,σws,σes⟩,⟨vw,ve,out,a1,h2.farSet hgb a2,h3,by omega,by show σws.length ≤ _;omega,by show σl ≤ _;omega,by show σd + 1 ≤ _;omega,by omega⟩,by show σc + 1 + lineAt = _;omega,Kb.grown a2 hb,?_⟩
     simp only [Tk.St.op]
     rw [if_neg hd,if_neg hd]
 by_cases h41' : (nb s at_).toNat = 41
 · have hd:=h41 h41'
   have hp : Tk.play (.ch (nb s at_) :: Tk.lx (s.data.toList.drop (at_ + 1))) σ = Tk.play (Tk.lx (s.data.toList.drop (at_ + 1))) σ.cl:=by
    rw [Tk.play,if_neg h10,if_neg h40,if_pos h41',if_neg hd]
   rw [hp]
   obtain ⟨σl,σc,σd,σfl,σfc,σbl,σel,σws,σes⟩:=σ
   simp only at h1 h2 h3 h4 h5 h6 h7 h8 hc hd
   obtain ⟨d,rfl⟩ : ∃ d,σd = d + 1:=⟨σd - 1,by omega⟩
   refine (pass_cl s at_ σl lineAt d σfl σfc σbl σel vw ve g w h1 hat (by omega) (by omega) h41').mono ?_
   rintro e w2 ⟨rfl,a1,a2⟩
   exact ⟨rfl,lineAt,⟨σl,σc + 1,d,σfl,σfc,σbl,σel,σws,σes⟩,⟨vw,ve,out,a1,h2.farSet hgb a2,h3,by omega,by show σws.length ≤ _;omega,by show σl ≤ _;omega,by show d ≤ _;omega,by omega⟩,by show σc + 1 + lineAt = _;omega,Kb.grown a2 hb,rfl⟩
 · have hp : Tk.play (.ch (nb s at_) :: Tk.lx (s.data.toList.drop (at_ + 1))) σ = Tk.play (Tk.lx (s.data.toList.drop (at_ + 1))) (σ.go 1):=by
    rw [Tk.play,if_neg h10,if_neg h40,if_neg h41']
   rw [hp]
   obtain ⟨σl,σc,σd,σfl,σfc,σbl,σel,σws,σes⟩:=σ
   simp only at h1 h2 h3 h4 h5 h6 h7 h8 hc
   refine (pass_other s at_ σl lineAt σd σfl σfc σbl σel vw ve g w h1 hat (by omega) h10 h40 h41').mono ?_
   rintro e w2 ⟨rfl,a1,a2⟩
   exact ⟨rfl,lineAt,⟨σl,σc + 1,σd,σfl,σfc,σbl,σel,σws,σes⟩,⟨vw,ve,out,a1,h2.farSet hgb a2,h3,by omega,by show σws.length ≤ _;omega,by show σl ≤ _;omega,by show σd ≤ _;omega,by omega⟩,by show σc + 1 + lineAt = _;omega,Kb.grown a2 hb,rfl⟩
section
variable {s : ByteArray} {at_ lineAt n g b : Nat} {σ : Tk.St} {w w' : World}
theorem LxM.go (h : LxM w g b s at_ lineAt σ n) (k : Nat) {n' : Nat} (hn : n ≤ n') : LxM w g b s at_ lineAt (σ.go k) n':=by
 obtain ⟨vw,ve,out,h1,h2,h3,h4,h5,h6,h7,h8⟩:=h
 exact ⟨vw,ve,out,h1,h2,h3,Nat.le_trans h4 hn,Nat.le_trans h5 hn,by show σ.line ≤ _;omega,by show σ.dep ≤ _;omega,Nat.le_trans h8 hn⟩
theorem LxM.more (h : LxM w g b s at_ lineAt σ n) {n' : Nat} (hn : n ≤ n') : LxM w g b s at_ lineAt σ n':=by
 obtain ⟨vw,ve,out,h1,h2,h3,h4,h5,h6,h7,h8⟩:=h
 exact ⟨vw,ve,out,h1,h2,h3,Nat.le_trans h4 hn,Nat.le_trans h5 hn,by omega,by omega,Nat.le_trans h8 hn⟩
theorem LxM.c0 (h : LxM w g b s at_ lineAt σ n) : w.cell? ⟨g,0,none⟩ = some (.string s):=by
 obtain ⟨vw,ve,out,h1,_⟩:=h;exact h1.cell 0
theorem LxM.c1 (h : LxM w g b s at_ lineAt σ n) : w.cell? ⟨g,1,none⟩ = some (.int .i64 at_):=by
 obtain ⟨vw,ve,out,h1,_⟩:=h;exact h1.cell 1
theorem LxM.c4 (h : LxM w g b s at_ lineAt σ n) : w.cell? ⟨g,4,none⟩ = some (.int .i64 σ.dep):=by
 obtain ⟨vw,ve,out,h1,_⟩:=h;exact h1.cell 4
theorem LxM.c5 (h : LxM w g b s at_ lineAt σ n) : w.cell? ⟨g,5,none⟩ = some (.int .i64 σ.fl):=by
 obtain ⟨vw,ve,out,h1,_⟩:=h;exact h1.cell 5
theorem LxM.c6 (h : LxM w g b s at_ lineAt σ n) : w.cell? ⟨g,6,none⟩ = some (.int .i64 σ.fc):=by
 obtain ⟨vw,ve,out,h1,_⟩:=h;exact h1.cell 6
theorem LxM.free (h : LxM w g b s at_ lineAt σ n) (i : Nat) : w.frozen? ⟨g,i,none⟩ = false:=by
 obtain ⟨vw,ve,out,h1,_⟩:=h;exact h1.free i
theorem LxM.inc (h : LxM w g b s at_ lineAt σ n) (hgb : g < b) : LxM (w.setCell ⟨g,1,none⟩ (.int .i64 ((at_ : Int) + 1))) g b s (at_ + 1) lineAt σ n :=
 h.far hgb (grown_set (World.grownBy.refl w _) 1 _) (fun _ _ hh=>hh.set 1 _)
theorem LxM.none (h : LxM w g b s at_ lineAt σ n) (hgb : g < b) (hw : w.grownBy w' none) : LxM w' g b s at_ lineAt σ n :=
 h.far hgb (grown_any hw _) (fun _ _ hh=>hh.grown hw (by simp))
theorem next_M (h : LxM w g b s at_ lineAt σ n) (hgb : g < b) (hat : at_ ≤ s.size) :
 Calls Tryz.prog 62 #[.pointer (some ⟨g,0,none⟩)] w fun e w' => e = .returned (.int .u8 ((nb s at_).toNat : Int)) ∧ LxM w' g b s at_ lineAt σ n ∧ w.grownBy w' none:=by
 obtain ⟨vw,ve,out,h1,h2⟩:=h
 exact (next_any s at_ σ.line lineAt σ.dep σ.fl σ.fc σ.bl σ.el vw ve g w h1 hat).mono fun _ _ ⟨he,k,hw⟩=>⟨he,by rw [hw];exact LxM.none ⟨vw,ve,out,h1,h2⟩ hgb (grown_drewN w k _),by rw [hw];exact grown_drewN w k _⟩
theorem atEnd_M (h : LxM w g b s at_ lineAt σ n) (hgb : g < b) :
 Calls Tryz.prog 63 #[.pointer (some ⟨g,0,none⟩)] w fun e w' => e = .returned (.bool ((at_ : Int) == (s.size : Int))) ∧ LxM w' g b s at_ lineAt σ n ∧ w.grownBy w' none:=by
 obtain ⟨vw,ve,out,h1,h2⟩:=h
 exact (atEnd_any s at_ σ.line lineAt σ.dep σ.fl σ.fc σ.bl σ.el vw ve g w h1).mono fun _ _ ⟨he,k,hw⟩=>⟨he,by rw [hw];exact LxM.none ⟨vw,ve,out,h1,h2⟩ hgb (grown_drewN w k _),by rw [hw];exact grown_drewN w k _⟩
theorem spot_M (h : LxM w g b s at_ lineAt σ n) (hgb : g < b) (hn : n ≤ 262144) {p : Nat} (hp : p ≤ 1048576) {col : Nat} (hc : col + lineAt = p + 1) :
 Calls Tryz.prog 64 #[.pointer (some ⟨g,0,none⟩),.int .i64 p] w fun e w' => e = .returned (.agg #[.int .i64 σ.line,.int .i64 col]) ∧ LxM w' g b s at_ lineAt σ n ∧ w.grownBy w' none:=by
 obtain ⟨vw,ve,out,h1,h2⟩:=h
 have hla : lineAt ≤ n:=h2.2.2.2.2.2.2
 have e : (1 + (p : Int) - lineAt) = (col : Int):=by omega
 have hs:=spot_any s at_ σ.line lineAt σ.dep σ.fl σ.fc σ.bl σ.el vw ve g w h1 p hp (by omega)
 rw [e] at hs
 exact hs.mono fun _ _ ⟨he,hw⟩=>⟨he,LxM.none ⟨vw,ve,out,h1,h2⟩ hgb hw,hw⟩
theorem take_M (h : LxM w g b s at_ lineAt σ n) (hgb : g < b) (hat : at_ < s.size) (hs : s.size ≤ 262144) :
 Calls Tryz.prog 68 #[.pointer (some ⟨g,0,none⟩)] w fun e w' => e = .returned (.tuple #[]) ∧ LxM w' g b s (at_ + tk1 s at_) lineAt σ n ∧ w.grownBy w' (some g):=by
 obtain ⟨vw,ve,out,h1,h2,h3⟩:=h
 exact (take_any s at_ σ.line lineAt σ.dep σ.fl σ.fc σ.bl σ.el vw ve g w h1 hat (by omega)).mono fun _ _ ⟨he,hh,hw⟩=>⟨he,⟨vw,ve,out,hh,h2.farSet hgb hw,h3⟩,hw⟩
theorem put_M (h : LxM w g b s at_ lineAt σ n) (hgb : g < b) (hb : b ≤ w.heap.size) (t : ByteArray) (q : Bool) {p : Nat} (hp : p ≤ 1048576) (hnp : n ≤ p) (hc : σ.col + lineAt = p + 1) (k : Nat) :
 Calls Tryz.prog 67 #[.pointer (some ⟨g,0,none⟩),.int .i64 p,.agg #[.string t,.bool q,.int .i64 0,.int .i64 0]] w fun e w' => e = .returned (.tuple #[]) ∧ LxM w' g b s at_ lineAt (σ.put t.data.toList q k) (n + 1) ∧ Kb g b w w':=by
 obtain ⟨vw,ve,out,h1,h2,h3,h4,h5,h6,h7,h8⟩:=h
 have e : 1 + p - lineAt = σ.col:=by omega
 have hh:=put_any s at_ σ.line lineAt σ.dep σ.fl σ.fc σ.bl σ.el vw ve σ.ws out g b w h1 h2 hgb hb (by omega) t q p hp (by omega)
 rw [e] at hh
 refine hh.mono ?_
 rintro e w2 ⟨rfl,vw',a1,a2,a3⟩
 refine ⟨rfl,⟨vw',ve,out,a1,a2,h3,by omega,?_,by show σ.line ≤ _;omega,by show σ.dep ≤ _;omega,by omega⟩,a3⟩
 show (σ.ws ++ [_]).length ≤ n + 1
 simp
 omega
end
end Go.Proofs.YtekafhogiambaaaGreatDoor
namespace Go.Proofs.YtekafhogiambaaaGreatDoor.Tk
def adv (p : Nat × Nat) (c : UInt8) : Nat × Nat:=if c.toNat = 10 then (p.1 + 1,1) else (p.1,p.2 + 1)
def advs (p : Nat × Nat) (l : By) : Nat × Nat:=l.foldl adv p
def noLf (l : By) : Prop := ∀ c ∈ l,c.toNat ≠ 10
def Pc.raw : Pc → By
 | .ch c => [c]
 | .rem b=>b
 | .bare b=>b
 | .quo b=>34 :: b ++ [34]
 | .bad b=>b
def raws (ps : List Pc) : By:=(ps.map Pc.raw).flatten
theorem raws_cons (p : Pc) (ps : List Pc) : raws (p :: ps) = p.raw ++ raws ps:=by simp [raws]
def Pc.wf : Pc → Prop
 | .ch c=>ends c = true ∧ c.toNat ≠ 59 ∧ c.toNat ≠ 34
 | .rem b=>noLf b ∧ ∃ r,b = 59 :: r
 | .bare b=>noLf b ∧ ∃ c r,b = c :: r ∧ ends c = false
 | .quo b=>noLf b
 | .bad b => ∃ r,b = 34 :: r ∧ quoLen r = none
theorem ends_lf {c : UInt8} (h : ends c = false) : c.toNat ≠ 10:=fun e=>by simp [ends,e] at h
theorem bare_noLf : ∀ (l : By),noLf (l.take (bareLen l)):=by
 intro l
 induction l using bareLen.induct with
 | case1=>simp [noLf]
 | case2 c h=>simp [noLf,bareLen,h]
 | case3 c h=>simp only [Bool.not_eq_true] at h;simp [noLf,bareLen,h,ends_lf h]
 | case4 c d r h=>simp [noLf,bareLen,h]
 | case5 c d r h1 h2 ih =>
  simp only [Bool.not_eq_true] at h1
  rw [bareLen,if_neg (by simp [h1]),if_pos h2]
  intro x hx
  rw [show 2 + bareLen r = bareLen r + 1 + 1 by omega,List.take_succ_cons,List.take_succ_cons] at hx
  simp only [List.mem_cons] at hx
  rcases hx with rfl | rfl | hx
  · omega
  · exact h2.2
  · exact ih x hx
 | case6 c d r h1 h2 ih =>
  simp only [Bool.not_eq_true] at h1
  rw [bareLen,if_neg (by simp [h1]),if_neg h2]
  intro x hx
  rw [show 1 + bareLen (d :: r) = bareLen (d :: r) + 1 by omega,List.take_succ_cons] at hx
  simp only [List.mem_cons] at hx
  rcases hx with rfl | hx
  · exact ends_lf h1
  · exact ih x hx
theorem quo_noLf : ∀ (l : By) (k : Nat),quoLen l = some k → noLf (l.take k) ∧ l.drop k = 34 :: l.drop (k + 1):=by
 intro l
 induction l using quoLen.induct with
 | case1=>intro k h;simp [quoLen] at h
 | case2 c h =>
  intro k hk
  simp [quoLen,h] at hk
  subst hk
  exact ⟨by simp [noLf],by simp;exact UInt8.toNat_inj.1 h⟩
 | case3 c h=>intro k hk;simp [quoLen,h] at hk
 | case4 c d r h=>intro k hk;simp [quoLen,h] at hk
 | case5 c d r h1 h2 =>
  intro k hk
  simp [quoLen,h2] at hk
  subst hk
  exact ⟨by simp [noLf],by simp;exact UInt8.toNat_inj.1 h2⟩
 | case6 c d r h1 h2 h3 ih =>
  intro k hk
  rw [quoLen,if_neg h1,if_neg h2,if_pos h3] at hk
  rcases hq : quoLen r with _ | j
  · rw [hq] at hk;cases hk
  · rw [hq] at hk
    simp at hk
    subst hk
    obtain ⟨ha,hb⟩:=ih j hq
    refine ⟨?_,?_⟩
    · intro x hx
      rw [show 2 + j = j + 1 + 1 by omega,List.take_succ_cons,List.take_succ_cons] at hx
      simp only [List.mem_cons] at hx
      rcases hx with rfl | rfl | hx
      · exact h1
      · exact h3.2
      · exact ha x hx
    · rw [show 2 + j = j + 1 + 1 by omega,List.drop_succ_cons,List.drop_succ_cons,List.drop_succ_cons,List.drop_succ_cons]
      exact hb
 | case7 c d r h1 h2 h3 ih =>
  intro k hk
  rw [quoLen,if_neg h1,if_neg h2,if_neg h3] at hk
  rcases hq : quoLen (d :: r) with _ | j
  · rw [hq] at hk;cases hk
  · rw [hq] at hk
    simp at hk
    subst hk
    obtain ⟨ha,hb⟩:=ih j hq
    refine ⟨?_,?_⟩
    · intro x hx
      rw [show 1 + j = j + 1 by omega,List.take_succ_cons] at hx
      simp only [List.mem_cons] at hx
      rcases hx with rfl | hx
      · exact h1
      · exact ha x hx
    · rw [show 1 + j = j + 1 by omega,List.drop_succ_cons,List.drop_succ_cons]
      exact hb
theorem rem_noLf : ∀ (l : By),noLf (l.take (remLen l))
 | []=>by simp [noLf]
 | c :: r=>by
  have ih:=rem_noLf r
  rw [remLen]
  split
  · simp [noLf]
  · rename_i h
    rw [show 1 + remLen r = remLen r + 1 by omega,List.take_succ_cons]
    intro x hx
    simp only [List.mem_cons] at hx
    rcases hx with rfl | hx
    · exact h
    · exact ih x hx
theorem lx_all : ∀ (n : Nat) (l : By),l.length ≤ n → raws (lx l) = l ∧ ∀ p ∈ lx l,p.wf:=by
 intro n
 induction n with
 | zero =>
  intro l h
  obtain rfl : l = []:=List.eq_nil_of_length_eq_zero (by omega)
  exact ⟨rfl,by simp [lx_nil]⟩
 | succ n ih =>
  intro l h
  rcases l with _ | ⟨c,r⟩
  · exact ⟨rfl,by simp [lx_nil]⟩
  simp only [List.length_cons] at h
  by_cases h1 : c.toNat = 59
  · obtain ⟨ha,hb⟩:=ih (r.drop (remLen r)) (by simp;omega)
    rw [lx_rem h1,raws_cons,ha]
    refine ⟨by simp [Pc.raw],?_⟩
    intro p hp
    rcases List.mem_cons.1 hp with rfl | hp
    · refine ⟨?_,_,by rw [show c = 59 from UInt8.toNat_inj.1 h1]⟩
      intro x hx
      rcases List.mem_cons.1 hx with rfl | hx
      · omega
      · exact rem_noLf r x hx
    · exact hb p hp
  by_cases h2 : c.toNat = 34
  · rcases hq : quoLen r with _ | k
    · rw [lx_bad h2 hq]
      refine ⟨by simp [raws,Pc.raw],?_⟩
      intro p hp
      simp only [List.mem_singleton] at hp
      subst hp
      exact ⟨r,by rw [show c = 34 from UInt8.toNat_inj.1 h2],hq⟩
    · obtain ⟨ha,hb⟩:=ih (r.drop (k + 1)) (by simp;omega)
      obtain ⟨hc,hd⟩:=quo_noLf r k hq
      rw [lx_quo h2 hq,raws_cons,ha]
      refine ⟨?_,?_⟩
      · simp only [Pc.raw,List.append_assoc,List.cons_append,List.nil_append]
        rw [← hd,List.take_append_drop,show c = 34 from UInt8.toNat_inj.1 h2]
      · intro p hp
        rcases List.mem_cons.1 hp with rfl | hp
        · exact hc
        · exact hb p hp
  by_cases h3 : ends c = true
  · obtain ⟨ha,hb⟩:=ih r (by omega)
    rw [lx_ch h1 h2 h3,raws_cons,ha]
    refine ⟨rfl,?_⟩
    intro p hp
    rcases List.mem_cons.1 hp with rfl | hp
    · exact ⟨h3,h1,h2⟩
    · exact hb p hp
  · have h3 : ends c = false:=by simpa using h3
    have hpos:=bareLen_pos (r:=r) h3
    obtain ⟨ha,hb⟩:=ih ((c :: r).drop (bareLen (c :: r))) (by simp only [List.length_drop,List.length_cons];omega)
    rw [lx_bare h3,raws_cons,ha]
    refine ⟨by simp only [Pc.raw,List.take_append_drop],?_⟩
    intro p hp
    rcases List.mem_cons.1 hp with rfl | hp
    · refine ⟨bare_noLf _,c,r.take (bareLen (c :: r) - 1),?_,h3⟩
      obtain ⟨k,hk⟩ : ∃ k,bareLen (c :: r) = k + 1:=⟨_,(Nat.sub_add_cancel hpos).symm⟩
      rw [hk,List.take_succ_cons,Nat.add_sub_cancel]
    · exact hb p hp
theorem raws_lx (l : By) : raws (lx l) = l:=(lx_all _ l (Nat.le_refl _)).1
theorem lx_wf (l : By) : ∀ p ∈ lx l,p.wf:=(lx_all _ l (Nat.le_refl _)).2
structure Qs where
 line : Nat
 col : Nat
 beg : Bool
 bl : Bool
 el : Nat
 ws : List Wd
 es : List En
def Qs.done (x : Qs) : List En:=if x.ws = [] then x.es else x.es ++ [⟨x.bl,x.el,x.ws⟩]
def mo (r : List (UInt8 × Nat)) : By:=(r.takeWhile (·.2 == 4)).map (·.1)
def Qs.begin (x : Qs) (c : UInt8) : Qs:=if x.beg then { x with beg:=false,bl:=blank c,el:=x.line,ws := [] } else x
def Qs.word (x : Qs) (c : UInt8) (k : Nat) (m : By) : Qs :=
 if k = 3 then { x with ws:=x.ws ++ [⟨c :: m,false,x.line,x.col⟩] }
 else if k = 5 then { x with ws:=x.ws ++ [⟨m.dropLast,true,x.line,x.col⟩] } else x
def Qs.stop (x : Qs) (k : Nat) : Qs:=if k = 2 then { x with es:=x.done,beg:=true,bl:=false,el:=0,ws := [] } else x
def Qs.adv (x : Qs) (c : UInt8) : Qs:={ x with line:=(Tk.adv (x.line,x.col) c).1,col:=(Tk.adv (x.line,x.col) c).2 }
def Qs.step (x : Qs) (c : UInt8) (k : Nat) (m : By) : Qs:=(((x.begin c).word c k m).stop k).adv c
def p2 : List (UInt8 × Nat) → Qs → List En
 | [],x=>x.done
 | (c,k) :: r,x=>p2 r (x.step c k (mo r))
end Go.Proofs.YtekafhogiambaaaGreatDoor.Tk
namespace Go.Proofs.YtekafhogiambaaaGreatDoor
open Go.RowKit
def jumps (J : Nat → Act → World → Prop) (Q : Exit → Act → World → Prop) : Exit → Act → World → Prop
 | .goto l,a,w=>J l a w
 | e,a,w=>Q e a w
section
variable {P : Program} {a : Act} {w : World} {Q : Exit → Act → World → Prop}
@[go_sem] theorem jumps_goto (J : Nat → Act → World → Prop) (l : Nat) : jumps J Q (.goto l) a w = J l a w:=rfl
@[go_sem] theorem jumps_normal (J : Nat → Act → World → Prop) : jumps J Q .normal a w = Q .normal a w:=rfl
@[go_sem] theorem jumps_exit (J : Nat → Act → World → Prop) (id : Nat) : jumps J Q (.exit id) a w = Q (.exit id) a w:=rfl
@[go_sem] theorem jumps_ret (J : Nat → Act → World → Prop) : jumps J Q .ret a w = Q .ret a w:=rfl
@[go_sem] theorem jumps_panic (J : Nat → Act → World → Prop) (ch : List PanicEntry) : jumps J Q (.panic ch) a w = Q (.panic ch) a w:=rfl
theorem wp_scope_many {c : Code} (J : Nat → Nat → Act → World → Prop)
 (first : c.wp P (jumps (fun l a w => ∃ n,J n l a w) Q) a w)
 (pass : ∀ n l a w,J n l a w → ∃ rest,findLabel c l = some rest ∧ rest.wp P (jumps (fun l' a' w' => ∃ n',n' < n ∧ J n' l' a' w') Q) a w) : (Code.scope c).wp P Q a w:=by
 intro b k cs
 have key : ∀ n l a w,J n l a w → ∀ K,gotoIn l (.inScope c :: k) = some K → ∃ e a' w',Q e a' w' ∧ Arrives P (lone (b.at a K) cs w) b k cs e a' w':=by
  intro n
  induction n using Nat.strongRecOn with
  | _ n ih =>
   intro l a w hJ K hK
   obtain ⟨rest,hf,hp⟩:=pass n l a w hJ
   have hg : gotoIn l (.inScope c :: k) = some (.code rest :: .inScope c :: k):=by simp [gotoIn,hf]
   rw [hg] at hK
   injection hK with hK
   subst hK
   obtain ⟨e,a₁,w₁,hq,harr⟩:=hp b (.inScope c :: k) cs
   cases e with
   | normal=>exact ⟨.normal,a₁,w₁,hq,Steps.trans harr (.one step_inScope)⟩
   | exit id=>exact ⟨.exit id,a₁,w₁,hq,fun k' hk=>harr k' (by simp [exitTo,hk])⟩
   | goto l' =>
    obtain ⟨n',hlt,hJ'⟩:=hq
    obtain ⟨rest',hf',_⟩:=pass n' l' a₁ w₁ hJ'
    have hg' : gotoIn l' (.inScope c :: k) = some (.code rest' :: .inScope c :: k):=by simp [gotoIn,hf']
    obtain ⟨e₂,a₂,w₂,hq₂,harr₂⟩:=ih n' hlt l' a₁ w₁ hJ' _ hg'
    exact ⟨e₂,a₂,w₂,hq₂,.of_steps (harr _ hg') harr₂⟩
   | ret=>exact ⟨_,a₁,w₁,hq,harr⟩
   | panic ch=>exact ⟨_,a₁,w₁,hq,harr⟩
   | outgrown=>exact ⟨_,a₁,w₁,hq,harr⟩
 obtain ⟨e,a₁,w₁,hq,harr⟩:=first b (.inScope c :: k) cs
 cases e with
 | normal=>exact ⟨.normal,a₁,w₁,hq,.head step_scope (Steps.trans harr (.one step_inScope))⟩
 | exit id=>exact ⟨.exit id,a₁,w₁,hq,fun k' hk=>.head step_scope (harr k' (by simp [exitTo,hk]))⟩
 | goto l' =>
  obtain ⟨n,hJ'⟩:=hq
  obtain ⟨rest',hf',_⟩:=pass n l' a₁ w₁ hJ'
  have hg' : gotoIn l' (.inScope c :: k) = some (.code rest' :: .inScope c :: k):=by simp [gotoIn,hf']
  obtain ⟨e₂,a₂,w₂,hq₂,harr₂⟩:=key n l' a₁ w₁ hJ' _ hg'
  exact ⟨e₂,a₂,w₂,hq₂,.of_steps (.head step_scope (harr _ hg')) harr₂⟩
 | ret=>exact ⟨_,a₁,w₁,hq,.of_steps (.one step_scope) harr⟩
 | panic ch=>exact ⟨_,a₁,w₁,hq,.of_steps (.one step_scope) harr⟩
 | outgrown=>exact ⟨_,a₁,w₁,hq,.of_steps (.one step_scope) harr⟩
end
theorem cons_of {n : Nat} {l : List Value} (h : l.length = n + 1) : ∃ u r,l = u :: r ∧ r.length = n:=by
 rcases l with _ | ⟨u,r⟩
 · simp at h
 · exact ⟨u,r,rfl,by simpa using h⟩
set_option maxHeartbeats 2000000 in
theorem fr125 {motive : Array Value → Prop} (H : ∀ u0 u1 u2 u3 u4 u5 u6 u7 u8 u9 u10 u11 u12 u13 u14 u15 u16 u17 u18 u19 u20 u21 u22 u23 u24 u25 u26 u27 u28 u29 u30 u31 u32 u33 u34 u35 u36 u37 u38 u39 u40 u41 u42 u43 u44 u45 u46 u47 u48 u49 u50 u51 u52 u53 u54 u55 u56 u57 u58 u59 u60 u61 u62 u63 u64 u65 u66 u67 u68 u69 u70 u71 u72 u73 u74 u75 u76 u77 u78 u79 u80 u81 u82 u83 u84 u85 u86 u87 u88 u89 u90 u91 u92 u93 u94 u95 u96 u97 u98 u99 u100 u101 u102 u103 u104 u105 u106 u107 u108 u109 u110 u111 u112 u113 u114 u115 u116 u117 u118 u119 u120 u121 u122 u123 u124 : Value,motive #[u0,u1,u2,u3,u4,u5,u6,u7,u8,u9,u10,u11,u12,u13,u14,u15,u16,u17,u18,u19,u20,u21,u22,u23,u24,u25,u26,u27,u28,u29,u30,u31,u32,u33,u34,u35,u36,u37,u38,u39,u40,u41,u42,u43,u44,u45,u46,u47,u48,u49,u50,u51,u52,u53,u54,u55,u56,u57,u58,u59,u60,u61,u62,u63,u64,u65,u66,u67,u68,u69,u70,u71,u72,u73,u74,u75,u76,u77,u78,u79,u80,u81,u82,u83,u84,u85,u86,u87,u88,u89,u90,u91,u92,u93,u94,u95,u96,u97,u98,u99,u100,u101,u102,u103,u104,u105,u106,u107,u108,u109,u110,u111,u112,u113,u114,u115,u116,u117,u118,u119,u120,u121,u122,u123,u124]) (t : Array Value) (h0 : t.size = 125) : motive t:=by
 obtain ⟨l⟩:=t
 have h : l.length = 125:=h0
 clear h0
 obtain ⟨u0,l0,rfl,h0⟩:=cons_of h
 obtain ⟨u1,l1,rfl,h1⟩:=cons_of h0
 obtain ⟨u2,l2,rfl,h2⟩:=cons_of h1
 obtain ⟨u3,l3,rfl,h3⟩:=cons_of h2
 obtain ⟨u4,l4,rfl,h4⟩:=cons_of h3
 obtain ⟨u5,l5,rfl,h5⟩:=cons_of h4
 obtain ⟨u6,l6,rfl,h6⟩:=cons_of h5
 obtain ⟨u7,l7,rfl,h7⟩:=cons_of h6
 obtain ⟨u8,l8,rfl,h8⟩:=cons_of h7
 obtain ⟨u9,l9,rfl,h9⟩:=cons_of h8
 obtain ⟨u10,l10,rfl,h10⟩:=cons_of h9
 obtain ⟨u11,l11,rfl,h11⟩:=cons_of h10
 obtain ⟨u12,l12,rfl,h12⟩:=cons_of h11
 obtain ⟨u13,l13,rfl,h13⟩:=cons_of h12
 obtain ⟨u14,l14,rfl,h14⟩:=cons_of h13
 obtain ⟨u15,l15,rfl,h15⟩:=cons_of h14
 obtain ⟨u16,l16,rfl,h16⟩:=cons_of h15
 obtain ⟨u17,l17,rfl,h17⟩:=cons_of h16
 obtain ⟨u18,l18,rfl,h18⟩:=cons_of h17
 obtain ⟨u19,l19,rfl,h19⟩:=cons_of h18
 obtain ⟨u20,l20,rfl,h20⟩:=cons_of h19
 obtain ⟨u21,l21,rfl,h21⟩:=cons_of h20
 obtain ⟨u22,l22,rfl,h22⟩:=cons_of h21
 obtain ⟨u23,l23,rfl,h23⟩:=cons_of h22
 obtain ⟨u24,l24,rfl,h24⟩:=cons_of h23
 obtain ⟨u25,l25,rfl,h25⟩:=cons_of h24
 obtain ⟨u26,l26,rfl,h26⟩:=cons_of h25
 obtain ⟨u27,l27,rfl,h27⟩:=cons_of h26
 obtain ⟨u28,l28,rfl,h28⟩:=cons_of h27
 obtain ⟨u29,l29,rfl,h29⟩:=cons_of h28
 obtain ⟨u30,l30,rfl,h30⟩:=cons_of h29
 obtain ⟨u31,l31,rfl,h31⟩:=cons_of h30
 obtain ⟨u32,l32,rfl,h32⟩:=cons_of h31
 obtain ⟨u33,l33,rfl,h33⟩:=cons_of h32
 obtain ⟨u34,l34,rfl,h34⟩:=cons_of h33
 obtain ⟨u35,l35,rfl,h35⟩:=cons_of h34
 obtain ⟨u36,l36,rfl,h36⟩:=cons_of h35
 obtain ⟨u37,l37,rfl,h37⟩:=cons_of h36
 obtain ⟨u38,l38,rfl,h38⟩:=cons_of h37
 obtain ⟨u39,l39,rfl,h39⟩:=cons_of h38
 obtain ⟨u40,l40,rfl,h40⟩:=cons_of h39
 obtain ⟨u41,l41,rfl,h41⟩:=cons_of h40
 obtain ⟨u42,l42,rfl,h42⟩:=cons_of h41
 obtain ⟨u43,l43,rfl,h43⟩:=cons_of h42
 obtain ⟨u44,l44,rfl,h44⟩:=cons_of h43
 obtain ⟨u45,l45,rfl,h45⟩:=cons_of h44
 obtain ⟨u46,l46,rfl,h46⟩:=cons_of h45
 obtain ⟨u47,l47,rfl,h47⟩:=cons_of h46
 obtain ⟨u48,l48,rfl,h48⟩:=cons_of h47
 obtain ⟨u49,l49,rfl,h49⟩:=cons_of h48
 obtain ⟨u50,l50,rfl,h50⟩:=cons_of h49
 obtain ⟨u51,l51,rfl,h51⟩:=cons_of h50
 obtain ⟨u52,l52,rfl,h52⟩:=cons_of h51
 obtain ⟨u53,l53,rfl,h53⟩:=cons_of h52
 obtain ⟨u54,l54,rfl,h54⟩:=cons_of h53
 obtain ⟨u55,l55,rfl,h55⟩:=cons_of h54
 obtain ⟨u56,l56,rfl,h56⟩:=cons_of h55
 obtain ⟨u57,l57,rfl,h57⟩:=cons_of h56
 obtain ⟨u58,l58,rfl,h58⟩:=cons_of h57
 obtain ⟨u59,l59,rfl,h59⟩:=cons_of h58
 obtain ⟨u60,l60,rfl,h60⟩:=cons_of h59
 obtain ⟨u61,l61,rfl,h61⟩:=cons_of h60
 obtain ⟨u62,l62,rfl,h62⟩:=cons_of h61
 obtain ⟨u63,l63,rfl,h63⟩:=cons_of h62
 obtain ⟨u64,l64,rfl,h64⟩:=cons_of h63
 obtain ⟨u65,l65,rfl,h65⟩:=cons_of h64
 obtain ⟨u66,l66,rfl,h66⟩:=cons_of h65
 obtain ⟨u67,l67,rfl,h67⟩:=cons_of h66
 obtain ⟨u68,l68,rfl,h68⟩:=cons_of h67
 obtain ⟨u69,l69,rfl,h69⟩:=cons_of h68
 obtain ⟨u70,l70,rfl,h70⟩:=cons_of h69
 obtain ⟨u71,l71,rfl,h71⟩:=cons_of h70
 obtain ⟨u72,l72,rfl,h72⟩:=cons_of h71
 obtain ⟨u73,l73,rfl,h73⟩:=cons_of h72
 obtain ⟨u74,l74,rfl,h74⟩:=cons_of h73
 obtain ⟨u75,l75,rfl,h75⟩:=cons_of h74
 obtain ⟨u76,l76,rfl,h76⟩:=cons_of h75
 obtain ⟨u77,l77,rfl,h77⟩:=cons_of h76
 obtain ⟨u78,l78,rfl,h78⟩:=cons_of h77
 obtain ⟨u79,l79,rfl,h79⟩:=cons_of h78
 obtain ⟨u80,l80,rfl,h80⟩:=cons_of h79
 obtain ⟨u81,l81,rfl,h81⟩:=cons_of h80
 obtain ⟨u82,l82,rfl,h82⟩:=cons_of h81
 obtain ⟨u83,l83,rfl,h83⟩:=cons_of h82
 obtain ⟨u84,l84,rfl,h84⟩:=cons_of h83
 obtain ⟨u85,l85,rfl,h85⟩:=cons_of h84
 obtain ⟨u86,l86,rfl,h86⟩:=cons_of h85
 obtain ⟨u87,l87,rfl,h87⟩:=cons_of h86
 obtain ⟨u88,l88,rfl,h88⟩:=cons_of h87
 obtain ⟨u89,l89,rfl,h89⟩:=cons_of h88
 obtain ⟨u90,l90,rfl,h90⟩:=cons_of h89
 obtain ⟨u91,l91,rfl,h91⟩:=cons_of h90
 obtain ⟨u92,l92,rfl,h92⟩:=cons_of h91
 obtain ⟨u93,l93,rfl,h93⟩:=cons_of h92
 obtain ⟨u94,l94,rfl,h94⟩:=cons_of h93
 obtain ⟨u95,l95,rfl,h95⟩:=cons_of h94
 obtain ⟨u96,l96,rfl,h96⟩:=cons_of h95
 obtain ⟨u97,l97,rfl,h97⟩:=cons_of h96
 obtain ⟨u98,l98,rfl,h98⟩:=cons_of h97
 obtain ⟨u99,l99,rfl,h99⟩:=cons_of h98
 obtain ⟨u100,l100,rfl,h100⟩:=cons_of h99
 obtain ⟨u101,l101,rfl,h101⟩:=cons_of h100
 obtain ⟨u102,l102,rfl,h102⟩:=cons_of h101
 obtain ⟨u103,l103,rfl,h103⟩:=cons_of h102
 obtain ⟨u104,l104,rfl,h104⟩:=cons_of h103
 obtain ⟨u105,l105,rfl,h105⟩:=cons_of h104
 obtain ⟨u106,l106,rfl,h106⟩:=cons_of h105
 obtain ⟨u107,l107,rfl,h107⟩:=cons_of h106
 obtain ⟨u108,l108,rfl,h108⟩:=cons_of h107
 obtain ⟨u109,l109,rfl,h109⟩:=cons_of h108
 obtain ⟨u110,l110,rfl,h110⟩:=cons_of h109
 obtain ⟨u111,l111,rfl,h111⟩:=cons_of h110
 obtain ⟨u112,l112,rfl,h112⟩:=cons_of h111
 obtain ⟨u113,l113,rfl,h113⟩:=cons_of h112
 obtain ⟨u114,l114,rfl,h114⟩:=cons_of h113
 obtain ⟨u115,l115,rfl,h115⟩:=cons_of h114
 obtain ⟨u116,l116,rfl,h116⟩:=cons_of h115
 obtain ⟨u117,l117,rfl,h117⟩:=cons_of h116
 obtain ⟨u118,l118,rfl,h118⟩:=cons_of h117
 obtain ⟨u119,l119,rfl,h119⟩:=cons_of h118
 obtain ⟨u120,l120,rfl,h120⟩:=cons_of h119
 obtain ⟨u121,l121,rfl,h121⟩:=cons_of h120
 obtain ⟨u122,l122,rfl,h122⟩:=cons_of h121
 obtain ⟨u123,l123,rfl,h123⟩:=cons_of h122
 obtain ⟨u124,l124,rfl,h124⟩:=cons_of h123
 obtain rfl : l124 = []:=List.eq_nil_of_length_eq_zero h124
 exact H u0 u1 u2 u3 u4 u5 u6 u7 u8 u9 u10 u11 u12 u13 u14 u15 u16 u17 u18 u19 u20 u21 u22 u23 u24 u25 u26 u27 u28 u29 u30 u31 u32 u33 u34 u35 u36 u37 u38 u39 u40 u41 u42 u43 u44 u45 u46 u47 u48 u49 u50 u51 u52 u53 u54 u55 u56 u57 u58 u59 u60 u61 u62 u63 u64 u65 u66 u67 u68 u69 u70 u71 u72 u73 u74 u75 u76 u77 u78 u79 u80 u81 u82 u83 u84 u85 u86 u87 u88 u89 u90 u91 u92 u93 u94 u95 u96 u97 u98 u99 u100 u101 u102 u103 u104 u105 u106 u107 u108 u109 u110 u111 u112 u113 u114 u115 u116 u117 u118 u119 u120 u121 u122 u123 u124
end Go.Proofs.YtekafhogiambaaaGreatDoor
namespace Go.Proofs.YtekafhogiambaaaGreatDoor
open Go.RowKit
def Fr (a : Act) (g rc : Nat) (st : Value) : Prop :=
 a.defers = [] ∧ a.tmps.size = 125 ∧ a.tmps[0]? = some (.pointer (some ⟨g,0,none⟩)) ∧ a.tmps[2]? = some (.pointer (some ⟨rc,0,none⟩)) ∧ a.tmps[3]? = some (.int .i64 0) ∧ a.tmps[4]? = some st
set_option maxHeartbeats 2000000 in
theorem Fr.elim {g rc : Nat} {st : Value} {motive : Act → Prop} (H : ∀ u1 u5 u6 u7 u8 u9 u10 u11 u12 u13 u14 u15 u16 u17 u18 u19 u20 u21 u22 u23 u24 u25 u26 u27 u28 u29 u30 u31 u32 u33 u34 u35 u36 u37 u38 u39 u40 u41 u42 u43 u44 u45 u46 u47 u48 u49 u50 u51 u52 u53 u54 u55 u56 u57 u58 u59 u60 u61 u62 u63 u64 u65 u66 u67 u68 u69 u70 u71 u72 u73 u74 u75 u76 u77 u78 u79 u80 u81 u82 u83 u84 u85 u86 u87 u88 u89 u90 u91 u92 u93 u94 u95 u96 u97 u98 u99 u100 u101 u102 u103 u104 u105 u106 u107 u108 u109 u110 u111 u112 u113 u114 u115 u116 u117 u118 u119 u120 u121 u122 u123 u124 : Value,motive { tmps:=#[(.pointer (some ⟨g,0,none⟩)),u1,(.pointer (some ⟨rc,0,none⟩)),(.int .i64 0),st,u5,u6,u7,u8,u9,u10,u11,u12,u13,u14,u15,u16,u17,u18,u19,u20,u21,u22,u23,u24,u25,u26,u27,u28,u29,u30,u31,u32,u33,u34,u35,u36,u37,u38,u39,u40,u41,u42,u43,u44,u45,u46,u47,u48,u49,u50,u51,u52,u53,u54,u55,u56,u57,u58,u59,u60,u61,u62,u63,u64,u65,u66,u67,u68,u69,u70,u71,u72,u73,u74,u75,u76,u77,u78,u79,u80,u81,u82,u83,u84,u85,u86,u87,u88,u89,u90,u91,u92,u93,u94,u95,u96,u97,u98,u99,u100,u101,u102,u103,u104,u105,u106,u107,u108,u109,u110,u111,u112,u113,u114,u115,u116,u117,u118,u119,u120,u121,u122,u123,u124],defers := [] }) {a : Act} (h : Fr a g rc st) : motive a:=by
 obtain ⟨t,d⟩:=a
 obtain ⟨rfl,h1,h2,h3,h4,h5⟩:=h
 revert h2 h3 h4 h5
 refine fr125 (motive:=fun t=>t[0]? = some (.pointer (some ⟨g,0,none⟩)) → t[2]? = some (.pointer (some ⟨rc,0,none⟩)) → t[3]? = some (.int .i64 0) → t[4]? = some st → motive { tmps:=t,defers := [] }) ?_ t h1
 intro u0 u1 u2 u3 u4 u5 u6 u7 u8 u9 u10 u11 u12 u13 u14 u15 u16 u17 u18 u19 u20 u21 u22 u23 u24 u25 u26 u27 u28 u29 u30 u31 u32 u33 u34 u35 u36 u37 u38 u39 u40 u41 u42 u43 u44 u45 u46 u47 u48 u49 u50 u51 u52 u53 u54 u55 u56 u57 u58 u59 u60 u61 u62 u63 u64 u65 u66 u67 u68 u69 u70 u71 u72 u73 u74 u75 u76 u77 u78 u79 u80 u81 u82 u83 u84 u85 u86 u87 u88 u89 u90 u91 u92 u93 u94 u95 u96 u97 u98 u99 u100 u101 u102 u103 u104 u105 u106 u107 u108 u109 u110 u111 u112 u113 u114 u115 u116 u117 u118 u119 u120 u121 u122 u123 u124 h2 h3 h4 h5
 have e0 : u0 = .pointer (some ⟨g,0,none⟩):=Option.some.inj h2
 have e2 : u2 = .pointer (some ⟨rc,0,none⟩):=Option.some.inj h3
 have e3 : u3 = .int .i64 0:=Option.some.inj h4
 have e4 : u4 = st:=Option.some.inj h5
 rw [e0,e2,e3,e4]
 exact H u1 u5 u6 u7 u8 u9 u10 u11 u12 u13 u14 u15 u16 u17 u18 u19 u20 u21 u22 u23 u24 u25 u26 u27 u28 u29 u30 u31 u32 u33 u34 u35 u36 u37 u38 u39 u40 u41 u42 u43 u44 u45 u46 u47 u48 u49 u50 u51 u52 u53 u54 u55 u56 u57 u58 u59 u60 u61 u62 u63 u64 u65 u66 u67 u68 u69 u70 u71 u72 u73 u74 u75 u76 u77 u78 u79 u80 u81 u82 u83 u84 u85 u86 u87 u88 u89 u90 u91 u92 u93 u94 u95 u96 u97 u98 u99 u100 u101 u102 u103 u104 u105 u106 u107 u108 u109 u110 u111 u112 u113 u114 u115 u116 u117 u118 u119 u120 u121 u122 u123 u124
end Go.Proofs.YtekafhogiambaaaGreatDoor
