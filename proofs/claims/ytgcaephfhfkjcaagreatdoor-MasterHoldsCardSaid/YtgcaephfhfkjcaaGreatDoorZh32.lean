/- Texts of the proofs, merged. -/
import Derived.Test.YtgcaephfhfkjcaaGreatDoorZh30
namespace Go.Proofs.YtgcaephfhfkjcaaGreatDoor
open Go.RowKit

set_option maxHeartbeats 1000000 in
set_option maxRecDepth 100000 in
theorem beginEntry_any (s : ByteArray) (at_ line lineAt dep fl_ fc : Nat) (bl : Bool) (el : Nat) (vw ve : Value) (g : Nat) (w : World) (h : Has w g 103 (lxc s at_ line lineAt dep fl_ fc bl el vw ve)) (hat : at_ ≤ s.size) :
    Calls Tryz.prog 81 #[.pointer (some ⟨g, 0, none⟩)] w fun e w' => e = .returned (.tuple #[]) ∧ Has w' g 103 (lxc s at_ line lineAt dep fl_ fc (Tk.blank (nb s at_)) line (.slice none 0 0) ve) ∧ w.grownBy w' (some g) := by
  have HN := Lib.hid (next_any s at_ line lineAt dep fl_ fc bl el vw ve g w.drew h hat)
  have c2 : w.cell? ⟨g, 2, none⟩ = some (.int .i64 line) := h.cell 2
  have c7 : w.cell? ⟨g, 7, none⟩ = some (.bool bl) := h.cell 7
  have c8 : w.cell? ⟨g, 8, none⟩ = some (.int .i64 el) := h.cell 8
  have c9 : w.cell? ⟨g, 9, none⟩ = some vw := h.cell 9
  have f7 := h.free 7
  have f8 := h.free 8
  have f9 := h.free 9
  have H := Lib.hid h
  clear h
  have HB := Lib.hid (isBlank_any (nb s at_))
  generalize Tk.blank (nb s at_) = bb at *
  generalize ((nb s at_).toNat : Int) = q at *
  clear hat
  go_enter Tryz.func81, Tryz.ntmps81
  go_wp2
  go_region_with (first
    | (go_at_call 82; refine HN.out.mono ?_; rintro e w1 ⟨rfl, n, rfl⟩)
    | (go_at_call 109; refine (HB.out _).mono ?_; rintro e w1 ⟨rfl, rfl⟩))
  all_goals
    go_wp2
    go_end0
    exact ⟨rfl, (((show Has (w.drewN _) g 103 (lxc s at_ line lineAt dep fl_ fc bl el vw ve) from H.out).set 7 _).set 8 _).set 9 _, grown_set (grown_set (grown_set (grown_drewN w _ _) 7 _) 8 _) 9 _⟩

set_option maxHeartbeats 1000000 in
set_option maxRecDepth 100000 in
/-- a line's end within parentheses. -/
theorem endLine_in (s : ByteArray) (at_ line lineAt dep fl_ fc : Nat) (bl : Bool) (el : Nat) (vw ve : Value) (g : Nat) (w : World) (h : Has w g 103 (lxc s at_ line lineAt dep fl_ fc bl el vw ve)) (hl : line ≤ 1048576) (hd : dep ≠ 0) :
    Calls Tryz.prog 110 #[.pointer (some ⟨g, 0, none⟩)] w fun e w' => e = .returned (.tuple #[]) ∧ Has w' g 103 (lxc s at_ (line + 1) at_ dep fl_ fc bl el vw ve) ∧ w.grownBy w' (some g) := by
  have HB := Lib.hid (beginLine_any s at_ line lineAt dep fl_ fc bl el vw ve g w h hl)
  have hd2 : ((dep : Int) == 0) = false := beq_eq_false_iff_ne.2 (by omega)
  clear h
  go_enter Tryz.func110, Tryz.ntmps110
  go_wp2_with (go_at_call 80; refine HB.out.mono ?_; rintro e w1 ⟨rfl, h1, g1⟩; have c4 : w1.cell? ⟨g, 4, none⟩ = some (.int .i64 dep) := h1.cell 4; have H1 := Lib.hid h1; have G1 := Lib.hid g1; clear h1 g1)
  go_end0
  exact ⟨rfl, H1.out, G1.out⟩
set_option maxHeartbeats 1000000 in
set_option maxRecDepth 100000 in
/-- a line's end outside of parentheses. -/
theorem endLine_out (s : ByteArray) (at_ line lineAt fl_ fc : Nat) (bl : Bool) (el : Nat) (vw ve : Value) (ws : List Tk.Wd) (out : List Ex) (g b : Nat) (w : World) (h : Has w g 103 (lxc s at_ line lineAt 0 fl_ fc bl el vw ve))
    (hT : Tx w b vw ve ws out) (hgb : g < b) (hb : b ≤ w.heap.size) (hn : out.length ≤ 1048576) (hws : ws.length ≤ 1048576) (hl : line ≤ 1048576) (hat : at_ ≤ s.size) :
    Calls Tryz.prog 110 #[.pointer (some ⟨g, 0, none⟩)] w fun e w' => e = .returned (.tuple #[]) ∧ ∃ ve', Has w' g 103 (lxc s at_ (line + 1) at_ 0 fl_ fc (Tk.blank (nb s at_)) (line + 1) (.slice none 0 0) ve') ∧ Tx w' b (.slice none 0 0) ve' [] (closeEx bl el vw ws out) ∧ Kb g b w w' := by
  have HB := Lib.hid (beginLine_any s at_ line lineAt 0 fl_ fc bl el vw ve g w h hl)
  have HE := Lib.hid (fun (W : World) (hW : Has W g 103 (lxc s at_ (line + 1) at_ 0 fl_ fc bl el vw ve)) (hG : w.grownBy W (some g)) => endEntry_any s at_ (line + 1) at_ 0 fl_ fc bl el vw ve ws out g b W hW (hT.farSet hgb hG) hgb (Nat.le_trans hb hG.size) hn hws)
  have HS := Lib.hid (fun (x : Value) (W : World) (hW : Has W g 103 (lxc s at_ (line + 1) at_ 0 fl_ fc bl el vw x)) => beginEntry_any s at_ (line + 1) at_ 0 fl_ fc bl el vw x g W hW hat)
  have HGB := Lib.hid hgb
  have HBB := Lib.hid hb
  clear h hT hgb hb hn hws hl hat
  go_enter Tryz.func110, Tryz.ntmps110
  go_wp2_with (first
    | (go_at_call 80; refine HB.out.mono ?_; rintro e w1 ⟨rfl, h1, g1⟩; have c4 : w1.cell? ⟨g, 4, none⟩ = some (.int .i64 (0 : Nat)) := h1.cell 4; have H1 := Lib.hid h1; have G1 := Lib.hid g1; clear h1 g1)
    | (go_at_call 89; refine (HE.out _ H1.out G1.out).mono ?_; rintro e w2 ⟨rfl, x, h2, e2, b2⟩; have H2 := Lib.hid h2; have E2 := Lib.hid e2; have B2 := Lib.hid ((Kb.grown G1.out HBB.out).trans b2); clear h2 e2 b2 c4)
    | (go_at_call 81; refine (HS.out _ _ H2.out).mono ?_; rintro e w3 ⟨rfl, h3, g3⟩; have H3 := Lib.hid h3; have G3 := Lib.hid g3; clear h3 g3))
  go_end0
  exact ⟨rfl, _, H3.out, (Tx.start E2.out).farSet HGB.out G3.out, B2.out.trans (Kb.grown G3.out (Nat.le_trans HBB.out B2.out.size))⟩
end Go.Proofs.YtgcaephfhfkjcaaGreatDoor
namespace Go.Proofs.YtgcaephfhfkjcaaGreatDoor
open Go.RowKit

section
variable (s : ByteArray) (at_ line lineAt dep fl_ fc : Nat) (bl : Bool) (el : Nat) (vw ve : Value) (g : Nat) (w : World)
set_option maxHeartbeats 1000000 in
set_option maxRecDepth 100000 in
/-- a byte that is neither a line's end nor a parenthesis. -/
theorem pass_other (h : Has w g 103 (lxc s at_ line lineAt dep fl_ fc bl el vw ve)) (hat : at_ < s.size) (hs : s.size ≤ 1048576)
    (h10 : (nb s at_).toNat ≠ 10) (h40 : (nb s at_).toNat ≠ 40) (h41 : (nb s at_).toNat ≠ 41) :
    Calls Tryz.prog 86 #[.pointer (some ⟨g, 0, none⟩)] w fun e w' => e = .returned (.tuple #[]) ∧ Has w' g 103 (lxc s (at_ + 1) line lineAt dep fl_ fc bl el vw ve) ∧ w.grownBy w' (some g) := by
  have HN := Lib.hid (next_has s at_ line lineAt dep fl_ fc bl el vw ve g w h (Nat.le_of_lt hat))
  have q10 : (((nb s at_).toNat : Int) == 10) = false := beq_eq_false_iff_ne.2 (by omega)
  have q40 : (((nb s at_).toNat : Int) == 40) = false := beq_eq_false_iff_ne.2 (by omega)
  have q41 : (((nb s at_).toNat : Int) == 41) = false := beq_eq_false_iff_ne.2 (by omega)
  generalize ((nb s at_).toNat : Int) = q at *
  have hb : at_ ≤ 1048576 := by omega
  clear h h10 h40 h41 hat hs
  go_enter Tryz.func86, Tryz.ntmps86
  go_wp2_with (go_at_call 82; refine HN.out.mono ?_; rintro e w1 ⟨rfl, h1, g1⟩; have c1 : w1.cell? ⟨g, 1, none⟩ = some (.int .i64 at_) := h1.cell 1; have f1 := h1.free 1; have HA := Lib.hid h1; have HG := Lib.hid g1; clear h1 g1)
  go_end0
  exact ⟨rfl, HA.out.set 1 _, grown_set HG.out 1 _⟩
set_option maxHeartbeats 1000000 in
set_option maxRecDepth 100000 in
/-- a parenthesis is closed. -/
theorem pass_cl (h : Has w g 103 (lxc s at_ line lineAt (dep + 1) fl_ fc bl el vw ve)) (hat : at_ < s.size) (hs : s.size ≤ 1048576) (hd : dep ≤ 1048576) (h41 : (nb s at_).toNat = 41) :
    Calls Tryz.prog 86 #[.pointer (some ⟨g, 0, none⟩)] w fun e w' => e = .returned (.tuple #[]) ∧ Has w' g 103 (lxc s (at_ + 1) line lineAt dep fl_ fc bl el vw ve) ∧ w.grownBy w' (some g) := by
  have HN := Lib.hid (next_has s at_ line lineAt (dep + 1) fl_ fc bl el vw ve g w h (Nat.le_of_lt hat))
  have HQ : Hid (((nb s at_).toNat : Int) = 41) := by rw [Hid, h41]; rfl
  rw [HQ.out] at HN
  have hb : at_ ≤ 1048576 := by omega
  have HS : Hid (∀ W : World, Has W g 103 (lxc s at_ line lineAt (dep + 1) fl_ fc bl el vw ve) → Has ((W.setCell ⟨g, 1, none⟩ (.int .i64 ((at_ : Int) + 1))).setCell ⟨g, 4, none⟩ (.int .i64 (dep : Int))) g 103 (lxc s (at_ + 1) line lineAt dep fl_ fc bl el vw ve)) := fun W hW => (hW.set 1 _).set 4 _
  clear h h41 hat hs HQ
  go_enter Tryz.func86, Tryz.ntmps86
  go_wp2_with (go_at_call 82; refine HN.out.mono ?_; rintro e w1 ⟨rfl, h1, g1⟩; have c1 : w1.cell? ⟨g, 1, none⟩ = some (.int .i64 at_) := h1.cell 1; have f1 := h1.free 1; have c4 : w1.cell? ⟨g, 4, none⟩ = some (.int .i64 ((dep : Int) + 1)) := h1.cell 4; have f4 := h1.free 4; have HA := Lib.hid h1; have HG := Lib.hid g1; clear h1 g1)
  go_end0
  refine ⟨rfl, ?_, grown_set (grown_set HG.out 1 _) 4 _⟩
  exact HS.out _ HA.out
set_option maxHeartbeats 1000000 in
set_option maxRecDepth 100000 in
/-- a parenthesis is opened, the first. -/
theorem pass_op0 (h : Has w g 103 (lxc s at_ line lineAt 0 fl_ fc bl el vw ve)) (hat : at_ < s.size) (hs : s.size ≤ 1048576) (hl : lineAt ≤ at_) (h40 : (nb s at_).toNat = 40) :
    Calls Tryz.prog 86 #[.pointer (some ⟨g, 0, none⟩)] w fun e w' => e = .returned (.tuple #[]) ∧ Has w' g 103 (lxc s (at_ + 1) line lineAt 1 line (1 + at_ - lineAt) bl el vw ve) ∧ w.grownBy w' (some g) := by
  have HN := Lib.hid (next_has s at_ line lineAt 0 fl_ fc bl el vw ve g w h (Nat.le_of_lt hat))
  have HQ : Hid (((nb s at_).toNat : Int) = 40) := by rw [Hid, h40]; rfl
  rw [HQ.out] at HN
  have hb : at_ ≤ 1048576 := by omega
  have HSP := Lib.hid (fun (W : World) (hW : Has W g 103 (lxc s at_ line lineAt 0 fl_ fc bl el vw ve)) => spot_any s at_ line lineAt 0 fl_ fc bl el vw ve g W hW at_ hb (by omega))
  have HC : Hid ((1 + (at_ : Int) - lineAt) = ((1 + at_ - lineAt : Nat) : Int)) := by rw [Hid]; omega
  rw [HC.out] at HSP
  generalize 1 + at_ - lineAt = col at *
  clear h h40 hat hs HQ hl HC
  go_enter Tryz.func86, Tryz.ntmps86
  go_wp2_with (first
    | (go_at_call 82; refine HN.out.mono ?_; rintro e w1 ⟨rfl, h1, g1⟩; have c1 : w1.cell? ⟨g, 1, none⟩ = some (.int .i64 at_) := h1.cell 1; have c4 : w1.cell? ⟨g, 4, none⟩ = some (.int .i64 0) := h1.cell 4; have HA := Lib.hid h1; have HG := Lib.hid g1; clear h1 g1)
    | (go_at_call 84; refine (HSP.out _ HA.out).mono ?_; rintro e w2 ⟨rfl, g2⟩; have h2 := HA.out.grown g2 (by simp); have d1 : w2.cell? ⟨g, 1, none⟩ = some (.int .i64 at_) := h2.cell 1; have d4 : w2.cell? ⟨g, 4, none⟩ = some (.int .i64 0) := h2.cell 4; have d5 : w2.cell? ⟨g, 5, none⟩ = some (.int .i64 fl_) := h2.cell 5; have d6 : w2.cell? ⟨g, 6, none⟩ = some (.int .i64 fc) := h2.cell 6; have f1 := h2.free 1; have f4 := h2.free 4; have f5 := h2.free 5; have f6 := h2.free 6; have HA2 := Lib.hid h2; have HG2 := Lib.hid (grown_trans HG.out (grown_any g2 (some g))); clear h2 g2 c1 c4))
  go_end0
  exact ⟨rfl, (((HA2.out.set 5 _).set 6 _).set 1 _).set 4 _, grown_set (grown_set (grown_set (grown_set HG2.out 5 _) 6 _) 1 _) 4 _⟩
set_option maxHeartbeats 1000000 in
set_option maxRecDepth 100000 in
/-- a parenthesis is opened, not the first. -/
theorem pass_op (h : Has w g 103 (lxc s at_ line lineAt dep fl_ fc bl el vw ve)) (hat : at_ < s.size) (hs : s.size ≤ 1048576) (hd : dep ≠ 0) (hd2 : dep ≤ 1048576) (h40 : (nb s at_).toNat = 40) :
    Calls Tryz.prog 86 #[.pointer (some ⟨g, 0, none⟩)] w fun e w' => e = .returned (.tuple #[]) ∧ Has w' g 103 (lxc s (at_ + 1) line lineAt (dep + 1) fl_ fc bl el vw ve) ∧ w.grownBy w' (some g) := by
  have HN := Lib.hid (next_has s at_ line lineAt dep fl_ fc bl el vw ve g w h (Nat.le_of_lt hat))
  have HQ : Hid (((nb s at_).toNat : Int) = 40) := by rw [Hid, h40]; rfl
  rw [HQ.out] at HN
  have hb : at_ ≤ 1048576 := by omega
  have hq : ((dep : Int) == 0) = false := beq_eq_false_iff_ne.2 (by omega)
  clear h h40 hat hs HQ hd
  go_enter Tryz.func86, Tryz.ntmps86
  go_wp2_with (go_at_call 82; refine HN.out.mono ?_; rintro e w1 ⟨rfl, h1, g1⟩; have c1 : w1.cell? ⟨g, 1, none⟩ = some (.int .i64 at_) := h1.cell 1; have f1 := h1.free 1; have c4 : w1.cell? ⟨g, 4, none⟩ = some (.int .i64 dep) := h1.cell 4; have f4 := h1.free 4; have HA := Lib.hid h1; have HG := Lib.hid g1; clear h1 g1)
  go_end0
  exact ⟨rfl, (HA.out.set 1 _).set 4 _, grown_set (grown_set HG.out 1 _) 4 _⟩
set_option maxHeartbeats 1000000 in
set_option maxRecDepth 100000 in
/-- a line's end: what endLine leaves, R, is what is left. -/
theorem pass_lf (h : Has w g 103 (lxc s at_ line lineAt dep fl_ fc bl el vw ve)) (hat : at_ < s.size) (hs : s.size ≤ 1048576) (h10 : (nb s at_).toNat = 10) (R : World → Prop)
    (hE : ∀ W, Has W g 103 (lxc s (at_ + 1) line lineAt dep fl_ fc bl el vw ve) → w.grownBy W (some g) → Calls Tryz.prog 110 #[.pointer (some ⟨g, 0, none⟩)] W fun e w' => e = .returned (.tuple #[]) ∧ R w') :
    Calls Tryz.prog 86 #[.pointer (some ⟨g, 0, none⟩)] w fun e w' => e = .returned (.tuple #[]) ∧ R w' := by
  have HN := Lib.hid (next_has s at_ line lineAt dep fl_ fc bl el vw ve g w h (Nat.le_of_lt hat))
  have HQ : Hid (((nb s at_).toNat : Int) = 10) := by rw [Hid, h10]; rfl
  rw [HQ.out] at HN
  have hb : at_ ≤ 1048576 := by omega
  have HE := Lib.hid hE
  clear h h10 hat hs HQ hE
  go_enter Tryz.func86, Tryz.ntmps86
  go_wp2_with (first
    | (go_at_call 82; refine HN.out.mono ?_; rintro e w1 ⟨rfl, h1, g1⟩; have c1 : w1.cell? ⟨g, 1, none⟩ = some (.int .i64 at_) := h1.cell 1; have f1 := h1.free 1; have HA := Lib.hid h1; have HG := Lib.hid g1; clear h1 g1)
    | (go_at_call 110; refine (HE.out _ (HA.out.set 1 _) (grown_set HG.out 1 _)).mono ?_; rintro e w2 ⟨rfl, r⟩; have HR := Lib.hid r; clear r))
  go_end0
  exact ⟨rfl, HR.out⟩
end
end Go.Proofs.YtgcaephfhfkjcaaGreatDoor
namespace Go.Proofs.YtgcaephfhfkjcaaGreatDoor
open Go.RowKit

set_option maxHeartbeats 2000000 in
set_option maxRecDepth 100000 in
theorem put_any (s : ByteArray) (at_ line lineAt dep fl_ fc : Nat) (bl : Bool) (el : Nat) (vw ve : Value) (ws : List Tk.Wd) (out : List Ex) (g b : Nat) (w : World) (h : Has w g 103 (lxc s at_ line lineAt dep fl_ fc bl el vw ve))
    (hT : Tx w b vw ve ws out) (hgb : g < b) (hb : b ≤ w.heap.size) (hws : ws.length ≤ 1048576) (t : ByteArray) (q : Bool) (p : Nat) (hp : p ≤ 1048576) (hl : lineAt ≤ p) :
    Calls Tryz.prog 87 #[.pointer (some ⟨g, 0, none⟩), .int .i64 p, .agg #[.string t, .bool q, .int .i64 0, .int .i64 0]] w fun e w' => e = .returned (.tuple #[]) ∧
      ∃ vw', Has w' g 103 (lxc s at_ line lineAt dep fl_ fc bl el vw' ve) ∧ Tx w' b vw' ve (ws ++ [⟨t.data.toList, q, line, 1 + p - lineAt⟩]) out ∧ Kb g b w w' := by
  have hg3 : g < w.heap.size := h.lt
  have HSP := Lib.hid (fun (W : World) (hW : Has W g 103 (lxc s at_ line lineAt dep fl_ fc bl el vw ve)) => spot_any s at_ line lineAt dep fl_ fc bl el vw ve g W hW p hp (by omega))
  have hC : (1 + (p : Int) - lineAt) = ((1 + p - lineAt : Nat) : Int) := by omega
  rw [hC] at HSP
  clear hC
  generalize 1 + p - lineAt = col at *
  clear hp hl
  have HLW := Lib.hid hws
  have HA0 := Lib.hid (h.alloc (.cells #[.string t, .bool q, .int .i64 0, .int .i64 0] 79))
  have HT0 := Lib.hid hT
  have HX0 := Lib.hid (Has.fresh w 79 #[.string t, .bool q, .int .i64 0, .int .i64 0])
  have HB0 : Hid (Below w.heap.size w (w.alloc (.cells #[.string t, .bool q, .int .i64 0, .int .i64 0] 79))) := (Below.refl _ w).alloc (Nat.le_refl _) _
  have HGB := Lib.hid hgb
  have HBB := Lib.hid hb
  clear h hT hgb hb hws
  go_enter Tryz.func87, Tryz.ntmps87
  go_wp2_with (go_at_call 84; refine (HSP.out _ HA0.out).mono ?_; rintro e w1 ⟨rfl, g1⟩; have HA1 := Lib.hid (HA0.out.grown g1 (by simp)); have HX1 := Lib.hid (HX0.out.grown g1 (by simp)); have HB1 := Lib.hid (HB0.out.grown g1 (by simp) (fun k e => by cases e)); clear g1)
  have hs1 : w.heap.size < w1.heap.size := HX1.out.lt
  have HA2 := Lib.hid (HA1.out.alloc (.cells #[.int .i64 line, .int .i64 col] 40))
  have HX2 := Lib.hid (HX1.out.alloc (.cells #[.int .i64 line, .int .i64 col] 40))
  have HP2 := Lib.hid (Has.fresh w1 40 #[.int .i64 line, .int .i64 col])
  have HB2 := Lib.hid (HB1.out.alloc HB1.out.size (.cells #[.int .i64 line, .int .i64 col] 40))
  generalize w1.heap.size = gp at *
  generalize w1.alloc (.cells #[.int .i64 line, .int .i64 col] 40) = w2 at *
  clear HA1 HX1 HB1 HSP HA0 HX0 HB0
  generalize hbx : w.heap.size = bx at *
  have p0 : w2.cell? ⟨gp, 0, none⟩ = some (.int .i64 line) := HP2.out.cell 0
  have p1 : w2.cell? ⟨gp, 1, none⟩ = some (.int .i64 col) := HP2.out.cell 1
  have x2 : w2.cell? ⟨bx, 2, none⟩ = some (.int .i64 0) := HX2.out.cell 2
  have x3 : w2.cell? ⟨bx, 3, none⟩ = some (.int .i64 0) := HX2.out.cell 3
  have y2 := HX2.out.free 2
  have y3 := HX2.out.free 3
  have HBX := Lib.hid hbx
  clear hbx
  go_region
  all_goals
    go_wp2
    have HX3 : Hid (Has ((w2.setCell ⟨bx, 2, none⟩ (.int .i64 line)).setCell ⟨bx, 3, none⟩ (.int .i64 col)).drew bx 79 #[.string t, .bool q, .int .i64 line, .int .i64 col]) := (HX2.out.set 2 (.int .i64 line)).set 3 (.int .i64 col)
    have HA3 : Hid (Has ((w2.setCell ⟨bx, 2, none⟩ (.int .i64 line)).setCell ⟨bx, 3, none⟩ (.int .i64 col)).drew g 103 (lxc s at_ line lineAt dep fl_ fc bl el vw ve)) := (HA2.out.far (p := ⟨bx, 2, none⟩) (by show g ≠ bx; omega) _).far (p := ⟨bx, 3, none⟩) (by show g ≠ bx; omega) _
    have HB3 : Hid (Below bx w ((w2.setCell ⟨bx, 2, none⟩ (.int .i64 line)).setCell ⟨bx, 3, none⟩ (.int .i64 col)).drew) := ((HB2.out.setCell (p := ⟨bx, 2, none⟩) (Nat.le_refl _) _).setCell (p := ⟨bx, 3, none⟩) (Nat.le_refl _) _).drew
    have HT3 := Lib.hid (HT0.out.below HB3.out (Nat.le_of_eq HBX.out))
    clear p0 p1 x2 x3 y2 y3 HX2 HA2 HP2 HB2 HT0
    generalize ((w2.setCell ⟨bx, 2, none⟩ (.int .i64 line)).setCell ⟨bx, 3, none⟩ (.int .i64 col)).drew = w3 at *
    obtain ⟨ad, cp, hvw, hcp⟩ := ownK_form HT3.out.wr
    subst hvw
    have hws := HLW.out
    have hb3 : b ≤ w3.heap.size := by have := HB3.out.size; have := HBX.out; have := HBB.out; omega
    obtain ⟨i4, z4, hi4, hz4, hs4, hb4, hc4⟩ := info_word
    obtain ⟨vw2, w4, hr, ho, hg4, hv4⟩ := run_append_where (P := Tryz.prog) (w := w3.drew.alloc (.cells #[.string t, .bool q, .int .i64 line, .int .i64 col] 79)) b 80 80 79 i4 z4 4 40 Tryz.underlying80 hi4 hz4 hs4 hb4 hc4 (by decide) (.slice ad ws.length cp) ws.length (fl wc ws)
      ((tk_drew HT3.out.wr).alloc _) ⟨w3.heap.size, 0, none⟩ 1 1 [.string t, .bool q, .int .i64 line, .int .i64 col] rfl (tk_cells_new w3.drew _ _) (by simp [Value.oneCell']) (by decide) (by unfold maxLen; omega) (by omega) (by simp; omega)
    have HE : Hid (Tx w4 b vw2 ve (ws ++ [⟨t.data.toList, q, line, col⟩]) out) := (HT3.out.drew.alloc (.cells #[.string t, .bool q, .int .i64 line, .int .i64 col] 79)).put (by rw [fl_append, fl_one]; exact ho) hg4 hv4
    have hne : some g ≠ (Value.slice ad ws.length cp).ownBlock := fun e => by have := (HT3.out.wr.lt g e.symm).1; have := HGB.out; omega
    have h4 : Has w4 g 103 (lxc s at_ line lineAt dep fl_ fc bl el (.slice ad ws.length cp) ve) :=
      Has.grown ((show Has w3.drew g 103 (lxc s at_ line lineAt dep fl_ fc bl el (.slice ad ws.length cp) ve) from HA3.out).alloc _) hg4 hne
    have d9 : w4.cell? ⟨g, 9, none⟩ = some (.slice ad ws.length cp) := h4.cell 9
    have f9 : w4.frozen? ⟨g, 9, none⟩ = false := h4.free 9
    have c9 : w3.cell? ⟨g, 9, none⟩ = some (.slice ad ws.length cp) := HA3.out.cell 9
    have e9 : (w3.alloc (.cells #[.string t, .bool q, .int .i64 line, .int .i64 col] 79)).cell? ⟨g, 9, none⟩ = some (.slice ad ws.length cp) := (HA3.out.alloc _).cell 9
    have x0 : w3.cell? ⟨bx, 0, none⟩ = some (.string t) := HX3.out.cell 0
    have x1 : w3.cell? ⟨bx, 1, none⟩ = some (.bool q) := HX3.out.cell 1
    have x2 : w3.cell? ⟨bx, 2, none⟩ = some (.int .i64 line) := HX3.out.cell 2
    have x3 : w3.cell? ⟨bx, 3, none⟩ = some (.int .i64 col) := HX3.out.cell 3
    have H4 := Lib.hid h4
    have hbw : Below b w3 w4 := (((Below.refl b w3).drew).alloc (by simp; omega) _).grown hg4 (by simp; omega) (fun k e => by have := (HT3.out.wr.lt k e).1; omega)
    have HBW : Hid (Kb g b w w4) := Kb.of_below ((HB3.out.mono HBB.out).trans hbw)
    obtain ⟨ad2, cp2, rfl, _⟩ := ownK_form ho
    have HR := Lib.hid hr
    clear hr ho hg4 hv4 h4 hbw hne HX3 HA3 HB3 HT3 hi4 hz4 hs4 hb4 hc4
    go_region_law (refine append_run (.tmp 21) (.tmp 23) _ _ rfl _ _ rfl rfl HR.out ?_)
    all_goals
      go_wp2
      go_end0
      exact ⟨rfl, _, H4.out.set 9 _, HE.out.farSet HGB.out (grown_set (World.grownBy.refl w4 _) 9 _), HBW.out.set 9 _⟩
end Go.Proofs.YtgcaephfhfkjcaaGreatDoor
namespace Go.Proofs.YtgcaephfhfkjcaaGreatDoor
open Go.RowKit

/-- the lexer's state in memory. -/
def LxM (w : World) (g b : Nat) (s : ByteArray) (at_ lineAt : Nat) (σ : Tk.St) (n : Nat) : Prop :=
  ∃ vw ve out, Has w g 103 (lxc s at_ σ.line lineAt σ.dep σ.fl σ.fc σ.bl σ.el vw ve) ∧ Tx w b vw ve σ.ws out ∧ out.map Ex.en = σ.es ∧ out.length ≤ n ∧ σ.ws.length ≤ n ∧ σ.line ≤ n + 1 ∧ σ.dep ≤ n ∧ lineAt ≤ n
theorem LxM.far {w w' : World} {g b : Nat} {s : ByteArray} {at_ lineAt : Nat} {σ : Tk.St} {n at' : Nat} (h : LxM w g b s at_ lineAt σ n) (hgb : g < b) (hw : w.grownBy w' (some g))
    (hs : ∀ vw ve, Has w g 103 (lxc s at_ σ.line lineAt σ.dep σ.fl σ.fc σ.bl σ.el vw ve) → Has w' g 103 (lxc s at' σ.line lineAt σ.dep σ.fl σ.fc σ.bl σ.el vw ve)) : LxM w' g b s at' lineAt σ n := by
  obtain ⟨vw, ve, out, h1, h2, h3⟩ := h
  exact ⟨vw, ve, out, hs vw ve h1, h2.farSet hgb hw, h3⟩
theorem nb_drop {s : ByteArray} {at_ : Nat} (h : at_ < s.size) : s.data.toList.drop at_ = nb s at_ :: s.data.toList.drop (at_ + 1) := by
  have hl : at_ < s.data.toList.length := by simpa using h
  rw [List.drop_eq_getElem_cons hl]
  unfold nb
  rw [List.getD_eq_getElem?_getD, List.getElem?_eq_getElem hl]
  rfl
theorem nb_end {s : ByteArray} {at_ : Nat} (h : s.size ≤ at_) : nb s at_ = 10 := by
  unfold nb
  rw [List.getD_eq_getElem?_getD, List.getElem?_eq_none (by simpa using h)]
  rfl
theorem drop_end {s : ByteArray} {at_ : Nat} (h : s.size ≤ at_) : s.data.toList.drop at_ = [] := List.drop_eq_nil_of_le (by simpa using h)
theorem hb_nb (s : ByteArray) (at_ : Nat) : Tk.hb (s.data.toList.drop at_) = Tk.blank (nb s at_) := by
  by_cases h : at_ < s.size
  · rw [nb_drop h]; rfl
  · rw [drop_end (by omega), nb_end (by omega)]; rfl
theorem close_en (σ : Tk.St) (vw : Value) (out : List Ex) (h : out.map Ex.en = σ.es) : (closeEx σ.bl σ.el vw σ.ws out).map Ex.en = σ.done := by
  unfold closeEx Tk.St.done
  split
  · exact h
  · rw [List.map_append, h]; rfl
theorem close_len (bl : Bool) (el : Nat) (vw : Value) (ws : List Tk.Wd) (out : List Ex) : (closeEx bl el vw ws out).length ≤ out.length + 1 := by
  unfold closeEx
  split <;> simp

theorem pass_step (s : ByteArray) (at_ lineAt : Nat) (σ : Tk.St) (g b : Nat) (w : World) (h : LxM w g b s at_ lineAt σ at_) (hgb : g < b) (hb : b ≤ w.heap.size) (hat : at_ < s.size) (hs : s.size ≤ 262144) (hc : σ.col + lineAt = at_ + 1)
    (he : Tk.ends (nb s at_) = true) (h59 : (nb s at_).toNat ≠ 59) (h34 : (nb s at_).toNat ≠ 34) (h41 : (nb s at_).toNat = 41 → σ.dep ≠ 0) :
    Calls Tryz.prog 86 #[.pointer (some ⟨g, 0, none⟩)] w fun e w' => e = .returned (.tuple #[]) ∧ ∃ lineAt' σ', LxM w' g b s (at_ + 1) lineAt' σ' (at_ + 1) ∧ σ'.col + lineAt' = at_ + 2 ∧ Kb g b w w' ∧ Tk.play (Tk.lx (s.data.toList.drop at_)) σ = Tk.play (Tk.lx (s.data.toList.drop (at_ + 1))) σ' := by
  obtain ⟨vw, ve, out, h1, h2, h3, h4, h5, h6, h7, h8⟩ := h
  have hlx : Tk.lx (s.data.toList.drop at_) = .ch (nb s at_) :: Tk.lx (s.data.toList.drop (at_ + 1)) := by rw [nb_drop hat, Tk.lx_ch h59 h34 he]
  rw [hlx]
  by_cases h10 : (nb s at_).toNat = 10
  · have hp : Tk.play (.ch (nb s at_) :: Tk.lx (s.data.toList.drop (at_ + 1))) σ = Tk.play (Tk.lx (s.data.toList.drop (at_ + 1))) (σ.nl (Tk.blank (nb s (at_ + 1)))) := by
      rw [Tk.play, if_pos h10, Tk.hp_lx, hb_nb]
    rw [hp]
    obtain ⟨σl, σc, σd, σfl, σfc, σbl, σel, σws, σes⟩ := σ
    simp only at h1 h2 h3 h4 h5 h6 h7 h8 hc
    by_cases hd : σd = 0
    · subst hd
      refine pass_lf s at_ σl lineAt 0 σfl σfc σbl σel vw ve g w h1 hat (by omega) h10 _ (fun W hW hG => ?_)
      refine (endLine_out s (at_ + 1) σl lineAt σfl σfc σbl σel vw ve σws out g b W hW (h2.farSet hgb hG) hgb (Nat.le_trans hb hG.size) (by omega) (by omega) (by omega) (by omega)).mono ?_
      rintro e w2 ⟨rfl, ve', a1, a2, a3⟩
      have hcl := close_len σbl σel vw σws out
      refine ⟨rfl, at_ + 1, ⟨σl + 1, 1, 0, σfl, σfc, Tk.blank (nb s (at_ + 1)), σl + 1, [], Tk.St.done ⟨σl, σc, 0, σfl, σfc, σbl, σel, σws, σes⟩⟩, ⟨.slice none 0 0, ve', _, a1, a2, close_en ⟨σl, σc, 0, σfl, σfc, σbl, σel, σws, σes⟩ vw out h3, by omega, by simp, by show σl + 1 ≤ at_ + 1 + 1; omega, by simp, Nat.le_refl _⟩, by show 1 + (at_ + 1) = at_ + 2; omega, (Kb.grown hG hb).trans a3, rfl⟩
    · refine pass_lf s at_ σl lineAt σd σfl σfc σbl σel vw ve g w h1 hat (by omega) h10 _ (fun W hW hG => ?_)
      refine (endLine_in s (at_ + 1) σl lineAt σd σfl σfc σbl σel vw ve g W hW (by omega) hd).mono ?_
      rintro e w2 ⟨rfl, a1, a2⟩
      have hG2 := grown_trans hG a2
      refine ⟨rfl, at_ + 1, ⟨σl + 1, 1, σd, σfl, σfc, σbl, σel, σws, σes⟩, ⟨vw, ve, out, a1, h2.farSet hgb hG2, h3, by omega, by show σws.length ≤ _; omega, by show σl + 1 ≤ _; omega, by show σd ≤ _; omega, Nat.le_refl _⟩, by show 1 + (at_ + 1) = at_ + 2; omega, Kb.grown hG2 hb, ?_⟩
      simp only [Tk.St.nl]
      rw [if_neg hd]
  by_cases h40 : (nb s at_).toNat = 40
  · have hp : Tk.play (.ch (nb s at_) :: Tk.lx (s.data.toList.drop (at_ + 1))) σ = Tk.play (Tk.lx (s.data.toList.drop (at_ + 1))) σ.op := by
      rw [Tk.play, if_neg h10, if_pos h40]
    rw [hp]
    obtain ⟨σl, σc, σd, σfl, σfc, σbl, σel, σws, σes⟩ := σ
    simp only at h1 h2 h3 h4 h5 h6 h7 h8 hc
    by_cases hd : σd = 0
    · subst hd
      refine (pass_op0 s at_ σl lineAt σfl σfc σbl σel vw ve g w h1 hat (by omega) h8 h40).mono ?_
      rintro e w2 ⟨rfl, a1, a2⟩
      have hcc : 1 + at_ - lineAt = σc := by omega
      rw [hcc] at a1
      exact ⟨rfl, lineAt, ⟨σl, σc + 1, 1, σl, σc, σbl, σel, σws, σes⟩, ⟨vw, ve, out, a1, h2.farSet hgb a2, h3, by omega, by show σws.length ≤ _; omega, by show σl ≤ _; omega, by show 1 ≤ _; omega, by omega⟩, by show σc + 1 + lineAt = _; omega, Kb.grown a2 hb, rfl⟩
    · refine (pass_op s at_ σl lineAt σd σfl σfc σbl σel vw ve g w h1 hat (by omega) hd (by omega) h40).mono ?_
      rintro e w2 ⟨rfl, a1, a2⟩
      refine ⟨rfl, lineAt, ⟨σl, σc + 1, σd + 1, σfl, σfc, σbl, σel, σws, σes⟩, ⟨vw, ve, out, a1, h2.farSet hgb a2, h3, by omega, by show σws.length ≤ _; omega, by show σl ≤ _; omega, by show σd + 1 ≤ _; omega, by omega⟩, by show σc + 1 + lineAt = _; omega, Kb.grown a2 hb, ?_⟩
      simp only [Tk.St.op]
      rw [if_neg hd, if_neg hd]
  by_cases h41' : (nb s at_).toNat = 41
  · have hd := h41 h41'
    have hp : Tk.play (.ch (nb s at_) :: Tk.lx (s.data.toList.drop (at_ + 1))) σ = Tk.play (Tk.lx (s.data.toList.drop (at_ + 1))) σ.cl := by
      rw [Tk.play, if_neg h10, if_neg h40, if_pos h41', if_neg hd]
    rw [hp]
    obtain ⟨σl, σc, σd, σfl, σfc, σbl, σel, σws, σes⟩ := σ
    simp only at h1 h2 h3 h4 h5 h6 h7 h8 hc hd
    obtain ⟨d, rfl⟩ : ∃ d, σd = d + 1 := ⟨σd - 1, by omega⟩
    refine (pass_cl s at_ σl lineAt d σfl σfc σbl σel vw ve g w h1 hat (by omega) (by omega) h41').mono ?_
    rintro e w2 ⟨rfl, a1, a2⟩
    exact ⟨rfl, lineAt, ⟨σl, σc + 1, d, σfl, σfc, σbl, σel, σws, σes⟩, ⟨vw, ve, out, a1, h2.farSet hgb a2, h3, by omega, by show σws.length ≤ _; omega, by show σl ≤ _; omega, by show d ≤ _; omega, by omega⟩, by show σc + 1 + lineAt = _; omega, Kb.grown a2 hb, rfl⟩
  · have hp : Tk.play (.ch (nb s at_) :: Tk.lx (s.data.toList.drop (at_ + 1))) σ = Tk.play (Tk.lx (s.data.toList.drop (at_ + 1))) (σ.go 1) := by
      rw [Tk.play, if_neg h10, if_neg h40, if_neg h41']
    rw [hp]
    obtain ⟨σl, σc, σd, σfl, σfc, σbl, σel, σws, σes⟩ := σ
    simp only at h1 h2 h3 h4 h5 h6 h7 h8 hc
    refine (pass_other s at_ σl lineAt σd σfl σfc σbl σel vw ve g w h1 hat (by omega) h10 h40 h41').mono ?_
    rintro e w2 ⟨rfl, a1, a2⟩
    exact ⟨rfl, lineAt, ⟨σl, σc + 1, σd, σfl, σfc, σbl, σel, σws, σes⟩, ⟨vw, ve, out, a1, h2.farSet hgb a2, h3, by omega, by show σws.length ≤ _; omega, by show σl ≤ _; omega, by show σd ≤ _; omega, by omega⟩, by show σc + 1 + lineAt = _; omega, Kb.grown a2 hb, rfl⟩
section
variable {s : ByteArray} {at_ lineAt n g b : Nat} {σ : Tk.St} {w w' : World}
theorem LxM.go (h : LxM w g b s at_ lineAt σ n) (k : Nat) {n' : Nat} (hn : n ≤ n') : LxM w g b s at_ lineAt (σ.go k) n' := by
  obtain ⟨vw, ve, out, h1, h2, h3, h4, h5, h6, h7, h8⟩ := h
  exact ⟨vw, ve, out, h1, h2, h3, Nat.le_trans h4 hn, Nat.le_trans h5 hn, by show σ.line ≤ _; omega, by show σ.dep ≤ _; omega, Nat.le_trans h8 hn⟩
theorem LxM.more (h : LxM w g b s at_ lineAt σ n) {n' : Nat} (hn : n ≤ n') : LxM w g b s at_ lineAt σ n' := by
  obtain ⟨vw, ve, out, h1, h2, h3, h4, h5, h6, h7, h8⟩ := h
  exact ⟨vw, ve, out, h1, h2, h3, Nat.le_trans h4 hn, Nat.le_trans h5 hn, by omega, by omega, Nat.le_trans h8 hn⟩
theorem LxM.c0 (h : LxM w g b s at_ lineAt σ n) : w.cell? ⟨g, 0, none⟩ = some (.string s) := by
  obtain ⟨vw, ve, out, h1, _⟩ := h; exact h1.cell 0
theorem LxM.c1 (h : LxM w g b s at_ lineAt σ n) : w.cell? ⟨g, 1, none⟩ = some (.int .i64 at_) := by
  obtain ⟨vw, ve, out, h1, _⟩ := h; exact h1.cell 1
theorem LxM.c4 (h : LxM w g b s at_ lineAt σ n) : w.cell? ⟨g, 4, none⟩ = some (.int .i64 σ.dep) := by
  obtain ⟨vw, ve, out, h1, _⟩ := h; exact h1.cell 4
theorem LxM.c5 (h : LxM w g b s at_ lineAt σ n) : w.cell? ⟨g, 5, none⟩ = some (.int .i64 σ.fl) := by
  obtain ⟨vw, ve, out, h1, _⟩ := h; exact h1.cell 5
theorem LxM.c6 (h : LxM w g b s at_ lineAt σ n) : w.cell? ⟨g, 6, none⟩ = some (.int .i64 σ.fc) := by
  obtain ⟨vw, ve, out, h1, _⟩ := h; exact h1.cell 6
theorem LxM.free (h : LxM w g b s at_ lineAt σ n) (i : Nat) : w.frozen? ⟨g, i, none⟩ = false := by
  obtain ⟨vw, ve, out, h1, _⟩ := h; exact h1.free i
theorem LxM.inc (h : LxM w g b s at_ lineAt σ n) (hgb : g < b) : LxM (w.setCell ⟨g, 1, none⟩ (.int .i64 ((at_ : Int) + 1))) g b s (at_ + 1) lineAt σ n :=
  h.far hgb (grown_set (World.grownBy.refl w _) 1 _) (fun _ _ hh => hh.set 1 _)
theorem LxM.none (h : LxM w g b s at_ lineAt σ n) (hgb : g < b) (hw : w.grownBy w' none) : LxM w' g b s at_ lineAt σ n :=
  h.far hgb (grown_any hw _) (fun _ _ hh => hh.grown hw (by simp))
theorem next_M (h : LxM w g b s at_ lineAt σ n) (hgb : g < b) (hat : at_ ≤ s.size) :
    Calls Tryz.prog 82 #[.pointer (some ⟨g, 0, none⟩)] w fun e w' => e = .returned (.int .u8 ((nb s at_).toNat : Int)) ∧ LxM w' g b s at_ lineAt σ n ∧ w.grownBy w' none := by
  obtain ⟨vw, ve, out, h1, h2⟩ := h
  exact (next_any s at_ σ.line lineAt σ.dep σ.fl σ.fc σ.bl σ.el vw ve g w h1 hat).mono fun _ _ ⟨he, k, hw⟩ => ⟨he, by rw [hw]; exact LxM.none ⟨vw, ve, out, h1, h2⟩ hgb (grown_drewN w k _), by rw [hw]; exact grown_drewN w k _⟩
theorem atEnd_M (h : LxM w g b s at_ lineAt σ n) (hgb : g < b) :
    Calls Tryz.prog 83 #[.pointer (some ⟨g, 0, none⟩)] w fun e w' => e = .returned (.bool ((at_ : Int) == (s.size : Int))) ∧ LxM w' g b s at_ lineAt σ n ∧ w.grownBy w' none := by
  obtain ⟨vw, ve, out, h1, h2⟩ := h
  exact (atEnd_any s at_ σ.line lineAt σ.dep σ.fl σ.fc σ.bl σ.el vw ve g w h1).mono fun _ _ ⟨he, k, hw⟩ => ⟨he, by rw [hw]; exact LxM.none ⟨vw, ve, out, h1, h2⟩ hgb (grown_drewN w k _), by rw [hw]; exact grown_drewN w k _⟩
theorem spot_M (h : LxM w g b s at_ lineAt σ n) (hgb : g < b) (hn : n ≤ 262144) {p : Nat} (hp : p ≤ 1048576) {col : Nat} (hc : col + lineAt = p + 1) :
    Calls Tryz.prog 84 #[.pointer (some ⟨g, 0, none⟩), .int .i64 p] w fun e w' => e = .returned (.agg #[.int .i64 σ.line, .int .i64 col]) ∧ LxM w' g b s at_ lineAt σ n ∧ w.grownBy w' none := by
  obtain ⟨vw, ve, out, h1, h2⟩ := h
  have hla : lineAt ≤ n := h2.2.2.2.2.2.2
  have e : (1 + (p : Int) - lineAt) = (col : Int) := by omega
  have hs := spot_any s at_ σ.line lineAt σ.dep σ.fl σ.fc σ.bl σ.el vw ve g w h1 p hp (by omega)
  rw [e] at hs
  exact hs.mono fun _ _ ⟨he, hw⟩ => ⟨he, LxM.none ⟨vw, ve, out, h1, h2⟩ hgb hw, hw⟩
theorem take_M (h : LxM w g b s at_ lineAt σ n) (hgb : g < b) (hat : at_ < s.size) (hs : s.size ≤ 262144) :
    Calls Tryz.prog 88 #[.pointer (some ⟨g, 0, none⟩)] w fun e w' => e = .returned (.tuple #[]) ∧ LxM w' g b s (at_ + tk1 s at_) lineAt σ n ∧ w.grownBy w' (some g) := by
  obtain ⟨vw, ve, out, h1, h2, h3⟩ := h
  exact (take_any s at_ σ.line lineAt σ.dep σ.fl σ.fc σ.bl σ.el vw ve g w h1 hat (by omega)).mono fun _ _ ⟨he, hh, hw⟩ => ⟨he, ⟨vw, ve, out, hh, h2.farSet hgb hw, h3⟩, hw⟩
theorem put_M (h : LxM w g b s at_ lineAt σ n) (hgb : g < b) (hb : b ≤ w.heap.size) (t : ByteArray) (q : Bool) {p : Nat} (hp : p ≤ 1048576) (hnp : n ≤ p) (hc : σ.col + lineAt = p + 1) (k : Nat) :
    Calls Tryz.prog 87 #[.pointer (some ⟨g, 0, none⟩), .int .i64 p, .agg #[.string t, .bool q, .int .i64 0, .int .i64 0]] w fun e w' => e = .returned (.tuple #[]) ∧ LxM w' g b s at_ lineAt (σ.put t.data.toList q k) (n + 1) ∧ Kb g b w w' := by
  obtain ⟨vw, ve, out, h1, h2, h3, h4, h5, h6, h7, h8⟩ := h
  have e : 1 + p - lineAt = σ.col := by omega
  have hh := put_any s at_ σ.line lineAt σ.dep σ.fl σ.fc σ.bl σ.el vw ve σ.ws out g b w h1 h2 hgb hb (by omega) t q p hp (by omega)
  rw [e] at hh
  refine hh.mono ?_
  rintro e w2 ⟨rfl, vw', a1, a2, a3⟩
  refine ⟨rfl, ⟨vw', ve, out, a1, a2, h3, by omega, ?_, by show σ.line ≤ _; omega, by show σ.dep ≤ _; omega, by omega⟩, a3⟩
  show (σ.ws ++ [_]).length ≤ n + 1
  simp
  omega
end
end Go.Proofs.YtgcaephfhfkjcaaGreatDoor
