/- The lexer's calls that gather: beginEntry, endLine. -/
import Derived.Test.YtgmemngfkajnbaaDoorTkPut
namespace Go.Proofs.YtgmemngfkajnbaaDoor
open Go.RowKit

theorem grown_set_below {w w' : World} {g : Nat} (h : w.grownBy w' (some g)) (hg : g < w.heap.size) : Below g w w' := grown_below h (Nat.le_of_lt hg) (fun k e => by injection e with e; omega)
set_option maxHeartbeats 1000000 in
set_option maxRecDepth 100000 in
theorem beginEntry_any (s : ByteArray) (at_ line lineAt dep fl_ fc : Nat) (bl : Bool) (el : Nat) (vw ve : Value) (g : Nat) (w : World) (h : Has w g 41 (lxc s at_ line lineAt dep fl_ fc bl el vw ve)) (hat : at_ ≤ s.size) :
    Calls Tryd.prog 10 #[.pointer (some ⟨g, 0, none⟩)] w fun e w' => e = .returned (.tuple #[]) ∧ Has w' g 41 (lxc s at_ line lineAt dep fl_ fc (Tk.blank (nb s at_)) line (.slice none 0 0) ve) ∧ w.grownBy w' (some g) := by
  have HN := Lib.hid (next_any s at_ line lineAt dep fl_ fc bl el vw ve g w.drew h hat)
  have c2 : w.cell? ⟨g, 2, none⟩ = some (.int .i64 line) := h.cell 2
  have c7 : w.cell? ⟨g, 7, none⟩ = some (.bool bl) := h.cell 7
  have c8 : w.cell? ⟨g, 8, none⟩ = some (.int .i64 el) := h.cell 8
  have c9 : w.cell? ⟨g, 9, none⟩ = some vw := h.cell 9
  have f7 := h.free 7
  have f8 := h.free 8
  have f9 := h.free 9
  have H := Lib.hid h
  clear h
  have HB := Lib.hid (isBlank_any (nb s at_))
  generalize Tk.blank (nb s at_) = bb at *
  generalize ((nb s at_).toNat : Int) = q at *
  clear hat
  go_enter Tryd.func10, Tryd.ntmps10
  go_wp2
  go_region_with (first
    | (go_at_call 11; refine HN.out.mono ?_; rintro e w1 ⟨rfl, n, rfl⟩)
    | (go_at_call 20; refine (HB.out _).mono ?_; rintro e w1 ⟨rfl, rfl⟩))
  all_goals
    go_wp2
    go_end0
    exact ⟨rfl, (((show Has (w.drewN _) g 41 (lxc s at_ line lineAt dep fl_ fc bl el vw ve) from H.out).set 7 _).set 8 _).set 9 _, grown_set (grown_set (grown_set (grown_drewN w _ _) 7 _) 8 _) 9 _⟩

set_option maxHeartbeats 1000000 in
set_option maxRecDepth 100000 in
/-- a line's end within parentheses. -/
theorem endLine_in (s : ByteArray) (at_ line lineAt dep fl_ fc : Nat) (bl : Bool) (el : Nat) (vw ve : Value) (g : Nat) (w : World) (h : Has w g 41 (lxc s at_ line lineAt dep fl_ fc bl el vw ve)) (hl : line ≤ 1048576) (hd : dep ≠ 0) :
    Calls Tryd.prog 21 #[.pointer (some ⟨g, 0, none⟩)] w fun e w' => e = .returned (.tuple #[]) ∧ Has w' g 41 (lxc s at_ (line + 1) at_ dep fl_ fc bl el vw ve) ∧ w.grownBy w' (some g) := by
  have HB := Lib.hid (beginLine_any s at_ line lineAt dep fl_ fc bl el vw ve g w h hl)
  have hd2 : ((dep : Int) == 0) = false := beq_eq_false_iff_ne.2 (by omega)
  clear h
  go_enter Tryd.func21, Tryd.ntmps21
  go_wp2_with (go_at_call 9; refine HB.out.mono ?_; rintro e w1 ⟨rfl, h1, g1⟩; have c4 : w1.cell? ⟨g, 4, none⟩ = some (.int .i64 dep) := h1.cell 4; have H1 := Lib.hid h1; have G1 := Lib.hid g1; clear h1 g1)
  go_end0
  exact ⟨rfl, H1.out, G1.out⟩
set_option maxHeartbeats 1000000 in
set_option maxRecDepth 100000 in
/-- a line's end outside of parentheses. -/
theorem endLine_out (s : ByteArray) (at_ line lineAt fl_ fc : Nat) (bl : Bool) (el : Nat) (vw ve : Value) (ws : List Tk.Wd) (out : List Ex) (g b : Nat) (w : World) (h : Has w g 41 (lxc s at_ line lineAt 0 fl_ fc bl el vw ve))
    (hT : Tx w b vw ve ws out) (hgb : g < b) (hb : b ≤ w.heap.size) (hn : out.length ≤ 1048576) (hws : ws.length ≤ 1048576) (hl : line ≤ 1048576) (hat : at_ ≤ s.size) :
    Calls Tryd.prog 21 #[.pointer (some ⟨g, 0, none⟩)] w fun e w' => e = .returned (.tuple #[]) ∧ ∃ ve', Has w' g 41 (lxc s at_ (line + 1) at_ 0 fl_ fc (Tk.blank (nb s at_)) (line + 1) (.slice none 0 0) ve') ∧ Tx w' b (.slice none 0 0) ve' [] (closeEx bl el vw ws out) ∧ Kb g b w w' := by
  have HB := Lib.hid (beginLine_any s at_ line lineAt 0 fl_ fc bl el vw ve g w h hl)
  have HE := Lib.hid (fun (W : World) (hW : Has W g 41 (lxc s at_ (line + 1) at_ 0 fl_ fc bl el vw ve)) (hG : w.grownBy W (some g)) => endEntry_any s at_ (line + 1) at_ 0 fl_ fc bl el vw ve ws out g b W hW (hT.farSet hgb hG) hgb (Nat.le_trans hb hG.size) hn hws)
  have HS := Lib.hid (fun (x : Value) (W : World) (hW : Has W g 41 (lxc s at_ (line + 1) at_ 0 fl_ fc bl el vw x)) => beginEntry_any s at_ (line + 1) at_ 0 fl_ fc bl el vw x g W hW hat)
  have HGB := Lib.hid hgb
  have HBB := Lib.hid hb
  clear h hT hgb hb hn hws hl hat
  go_enter Tryd.func21, Tryd.ntmps21
  go_wp2_with (first
    | (go_at_call 9; refine HB.out.mono ?_; rintro e w1 ⟨rfl, h1, g1⟩; have c4 : w1.cell? ⟨g, 4, none⟩ = some (.int .i64 (0 : Nat)) := h1.cell 4; have H1 := Lib.hid h1; have G1 := Lib.hid g1; clear h1 g1)
    | (go_at_call 18; refine (HE.out _ H1.out G1.out).mono ?_; rintro e w2 ⟨rfl, x, h2, e2, b2⟩; have H2 := Lib.hid h2; have E2 := Lib.hid e2; have B2 := Lib.hid ((Kb.grown G1.out HBB.out).trans b2); clear h2 e2 b2 c4)
    | (go_at_call 10; refine (HS.out _ _ H2.out).mono ?_; rintro e w3 ⟨rfl, h3, g3⟩; have H3 := Lib.hid h3; have G3 := Lib.hid g3; clear h3 g3))
  go_end0
  exact ⟨rfl, _, H3.out, (Tx.start E2.out).farSet HGB.out G3.out, B2.out.trans (Kb.grown G3.out (Nat.le_trans HBB.out B2.out.size))⟩
end Go.Proofs.YtgmemngfkajnbaaDoor
