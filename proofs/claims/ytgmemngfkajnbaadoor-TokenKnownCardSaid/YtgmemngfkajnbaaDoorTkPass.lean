/- The lexer's pass: over a blank, a line's end or a parenthesis. -/
import Derived.Test.YtgmemngfkajnbaaDoorTkBeg
namespace Go.Proofs.YtgmemngfkajnbaaDoor
open Go.RowKit

section
variable (s : ByteArray) (at_ line lineAt dep fl_ fc : Nat) (bl : Bool) (el : Nat) (vw ve : Value) (g : Nat) (w : World)
set_option maxHeartbeats 1000000 in
set_option maxRecDepth 100000 in
/-- a byte that is neither a line's end nor a parenthesis. -/
theorem pass_other (h : Has w g 41 (lxc s at_ line lineAt dep fl_ fc bl el vw ve)) (hat : at_ < s.size) (hs : s.size ≤ 1048576)
    (h10 : (nb s at_).toNat ≠ 10) (h40 : (nb s at_).toNat ≠ 40) (h41 : (nb s at_).toNat ≠ 41) :
    Calls Tryd.prog 15 #[.pointer (some ⟨g, 0, none⟩)] w fun e w' => e = .returned (.tuple #[]) ∧ Has w' g 41 (lxc s (at_ + 1) line lineAt dep fl_ fc bl el vw ve) ∧ w.grownBy w' (some g) := by
  have HN := Lib.hid (next_has s at_ line lineAt dep fl_ fc bl el vw ve g w h (Nat.le_of_lt hat))
  have q10 : (((nb s at_).toNat : Int) == 10) = false := beq_eq_false_iff_ne.2 (by omega)
  have q40 : (((nb s at_).toNat : Int) == 40) = false := beq_eq_false_iff_ne.2 (by omega)
  have q41 : (((nb s at_).toNat : Int) == 41) = false := beq_eq_false_iff_ne.2 (by omega)
  generalize ((nb s at_).toNat : Int) = q at *
  have hb : at_ ≤ 1048576 := by omega
  clear h h10 h40 h41 hat hs
  go_enter Tryd.func15, Tryd.ntmps15
  go_wp2_with (go_at_call 11; refine HN.out.mono ?_; rintro e w1 ⟨rfl, h1, g1⟩; have c1 : w1.cell? ⟨g, 1, none⟩ = some (.int .i64 at_) := h1.cell 1; have f1 := h1.free 1; have HA := Lib.hid h1; have HG := Lib.hid g1; clear h1 g1)
  go_end0
  exact ⟨rfl, HA.out.set 1 _, grown_set HG.out 1 _⟩
set_option maxHeartbeats 1000000 in
set_option maxRecDepth 100000 in
/-- a parenthesis is closed. -/
theorem pass_cl (h : Has w g 41 (lxc s at_ line lineAt (dep + 1) fl_ fc bl el vw ve)) (hat : at_ < s.size) (hs : s.size ≤ 1048576) (hd : dep ≤ 1048576) (h41 : (nb s at_).toNat = 41) :
    Calls Tryd.prog 15 #[.pointer (some ⟨g, 0, none⟩)] w fun e w' => e = .returned (.tuple #[]) ∧ Has w' g 41 (lxc s (at_ + 1) line lineAt dep fl_ fc bl el vw ve) ∧ w.grownBy w' (some g) := by
  have HN := Lib.hid (next_has s at_ line lineAt (dep + 1) fl_ fc bl el vw ve g w h (Nat.le_of_lt hat))
  have HQ : Hid (((nb s at_).toNat : Int) = 41) := by rw [Hid, h41]; rfl
  rw [HQ.out] at HN
  have hb : at_ ≤ 1048576 := by omega
  have HS : Hid (∀ W : World, Has W g 41 (lxc s at_ line lineAt (dep + 1) fl_ fc bl el vw ve) → Has ((W.setCell ⟨g, 1, none⟩ (.int .i64 ((at_ : Int) + 1))).setCell ⟨g, 4, none⟩ (.int .i64 (dep : Int))) g 41 (lxc s (at_ + 1) line lineAt dep fl_ fc bl el vw ve)) := fun W hW => (hW.set 1 _).set 4 _
  clear h h41 hat hs HQ
  go_enter Tryd.func15, Tryd.ntmps15
  go_wp2_with (go_at_call 11; refine HN.out.mono ?_; rintro e w1 ⟨rfl, h1, g1⟩; have c1 : w1.cell? ⟨g, 1, none⟩ = some (.int .i64 at_) := h1.cell 1; have f1 := h1.free 1; have c4 : w1.cell? ⟨g, 4, none⟩ = some (.int .i64 ((dep : Int) + 1)) := h1.cell 4; have f4 := h1.free 4; have HA := Lib.hid h1; have HG := Lib.hid g1; clear h1 g1)
  go_end0
  refine ⟨rfl, ?_, grown_set (grown_set HG.out 1 _) 4 _⟩
  exact HS.out _ HA.out
set_option maxHeartbeats 1000000 in
set_option maxRecDepth 100000 in
/-- a parenthesis is opened, the first. -/
theorem pass_op0 (h : Has w g 41 (lxc s at_ line lineAt 0 fl_ fc bl el vw ve)) (hat : at_ < s.size) (hs : s.size ≤ 1048576) (hl : lineAt ≤ at_) (h40 : (nb s at_).toNat = 40) :
    Calls Tryd.prog 15 #[.pointer (some ⟨g, 0, none⟩)] w fun e w' => e = .returned (.tuple #[]) ∧ Has w' g 41 (lxc s (at_ + 1) line lineAt 1 line (1 + at_ - lineAt) bl el vw ve) ∧ w.grownBy w' (some g) := by
  have HN := Lib.hid (next_has s at_ line lineAt 0 fl_ fc bl el vw ve g w h (Nat.le_of_lt hat))
  have HQ : Hid (((nb s at_).toNat : Int) = 40) := by rw [Hid, h40]; rfl
  rw [HQ.out] at HN
  have hb : at_ ≤ 1048576 := by omega
  have HSP := Lib.hid (fun (W : World) (hW : Has W g 41 (lxc s at_ line lineAt 0 fl_ fc bl el vw ve)) => spot_any s at_ line lineAt 0 fl_ fc bl el vw ve g W hW at_ hb (by omega))
  have HC : Hid ((1 + (at_ : Int) - lineAt) = ((1 + at_ - lineAt : Nat) : Int)) := by rw [Hid]; omega
  rw [HC.out] at HSP
  generalize 1 + at_ - lineAt = col at *
  clear h h40 hat hs HQ hl HC
  go_enter Tryd.func15, Tryd.ntmps15
  go_wp2_with (first
    | (go_at_call 11; refine HN.out.mono ?_; rintro e w1 ⟨rfl, h1, g1⟩; have c1 : w1.cell? ⟨g, 1, none⟩ = some (.int .i64 at_) := h1.cell 1; have c4 : w1.cell? ⟨g, 4, none⟩ = some (.int .i64 0) := h1.cell 4; have HA := Lib.hid h1; have HG := Lib.hid g1; clear h1 g1)
    | (go_at_call 13; refine (HSP.out _ HA.out).mono ?_; rintro e w2 ⟨rfl, g2⟩; have h2 := HA.out.grown g2 (by simp); have d1 : w2.cell? ⟨g, 1, none⟩ = some (.int .i64 at_) := h2.cell 1; have d4 : w2.cell? ⟨g, 4, none⟩ = some (.int .i64 0) := h2.cell 4; have d5 : w2.cell? ⟨g, 5, none⟩ = some (.int .i64 fl_) := h2.cell 5; have d6 : w2.cell? ⟨g, 6, none⟩ = some (.int .i64 fc) := h2.cell 6; have f1 := h2.free 1; have f4 := h2.free 4; have f5 := h2.free 5; have f6 := h2.free 6; have HA2 := Lib.hid h2; have HG2 := Lib.hid (grown_trans HG.out (grown_any g2 (some g))); clear h2 g2 c1 c4))
  go_end0
  exact ⟨rfl, (((HA2.out.set 5 _).set 6 _).set 1 _).set 4 _, grown_set (grown_set (grown_set (grown_set HG2.out 5 _) 6 _) 1 _) 4 _⟩
set_option maxHeartbeats 1000000 in
set_option maxRecDepth 100000 in
/-- a parenthesis is opened, not the first. -/
theorem pass_op (h : Has w g 41 (lxc s at_ line lineAt dep fl_ fc bl el vw ve)) (hat : at_ < s.size) (hs : s.size ≤ 1048576) (hd : dep ≠ 0) (hd2 : dep ≤ 1048576) (h40 : (nb s at_).toNat = 40) :
    Calls Tryd.prog 15 #[.pointer (some ⟨g, 0, none⟩)] w fun e w' => e = .returned (.tuple #[]) ∧ Has w' g 41 (lxc s (at_ + 1) line lineAt (dep + 1) fl_ fc bl el vw ve) ∧ w.grownBy w' (some g) := by
  have HN := Lib.hid (next_has s at_ line lineAt dep fl_ fc bl el vw ve g w h (Nat.le_of_lt hat))
  have HQ : Hid (((nb s at_).toNat : Int) = 40) := by rw [Hid, h40]; rfl
  rw [HQ.out] at HN
  have hb : at_ ≤ 1048576 := by omega
  have hq : ((dep : Int) == 0) = false := beq_eq_false_iff_ne.2 (by omega)
  clear h h40 hat hs HQ hd
  go_enter Tryd.func15, Tryd.ntmps15
  go_wp2_with (go_at_call 11; refine HN.out.mono ?_; rintro e w1 ⟨rfl, h1, g1⟩; have c1 : w1.cell? ⟨g, 1, none⟩ = some (.int .i64 at_) := h1.cell 1; have f1 := h1.free 1; have c4 : w1.cell? ⟨g, 4, none⟩ = some (.int .i64 dep) := h1.cell 4; have f4 := h1.free 4; have HA := Lib.hid h1; have HG := Lib.hid g1; clear h1 g1)
  go_end0
  exact ⟨rfl, (HA.out.set 1 _).set 4 _, grown_set (grown_set HG.out 1 _) 4 _⟩
set_option maxHeartbeats 1000000 in
set_option maxRecDepth 100000 in
/-- a line's end: what endLine leaves, R, is what is left. -/
theorem pass_lf (h : Has w g 41 (lxc s at_ line lineAt dep fl_ fc bl el vw ve)) (hat : at_ < s.size) (hs : s.size ≤ 1048576) (h10 : (nb s at_).toNat = 10) (R : World → Prop)
    (hE : ∀ W, Has W g 41 (lxc s (at_ + 1) line lineAt dep fl_ fc bl el vw ve) → w.grownBy W (some g) → Calls Tryd.prog 21 #[.pointer (some ⟨g, 0, none⟩)] W fun e w' => e = .returned (.tuple #[]) ∧ R w') :
    Calls Tryd.prog 15 #[.pointer (some ⟨g, 0, none⟩)] w fun e w' => e = .returned (.tuple #[]) ∧ R w' := by
  have HN := Lib.hid (next_has s at_ line lineAt dep fl_ fc bl el vw ve g w h (Nat.le_of_lt hat))
  have HQ : Hid (((nb s at_).toNat : Int) = 10) := by rw [Hid, h10]; rfl
  rw [HQ.out] at HN
  have hb : at_ ≤ 1048576 := by omega
  have HE := Lib.hid hE
  clear h h10 hat hs HQ hE
  go_enter Tryd.func15, Tryd.ntmps15
  go_wp2_with (first
    | (go_at_call 11; refine HN.out.mono ?_; rintro e w1 ⟨rfl, h1, g1⟩; have c1 : w1.cell? ⟨g, 1, none⟩ = some (.int .i64 at_) := h1.cell 1; have f1 := h1.free 1; have HA := Lib.hid h1; have HG := Lib.hid g1; clear h1 g1)
    | (go_at_call 21; refine (HE.out _ (HA.out.set 1 _) (grown_set HG.out 1 _)).mono ?_; rintro e w2 ⟨rfl, r⟩; have HR := Lib.hid r; clear r))
  go_end0
  exact ⟨rfl, HR.out⟩
end
end Go.Proofs.YtgmemngfkajnbaaDoor
