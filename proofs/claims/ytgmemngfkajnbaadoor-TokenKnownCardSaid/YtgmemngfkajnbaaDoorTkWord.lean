/- The lexer's put: a word more. -/
import Derived.Test.YtgmemngfkajnbaaDoorTkPass
namespace Go.Proofs.YtgmemngfkajnbaaDoor
open Go.RowKit

set_option maxHeartbeats 2000000 in
set_option maxRecDepth 100000 in
theorem put_any (s : ByteArray) (at_ line lineAt dep fl_ fc : Nat) (bl : Bool) (el : Nat) (vw ve : Value) (ws : List Tk.Wd) (out : List Ex) (g b : Nat) (w : World) (h : Has w g 41 (lxc s at_ line lineAt dep fl_ fc bl el vw ve))
    (hT : Tx w b vw ve ws out) (hgb : g < b) (hb : b ≤ w.heap.size) (hws : ws.length ≤ 1048576) (t : ByteArray) (q : Bool) (p : Nat) (hp : p ≤ 1048576) (hl : lineAt ≤ p) :
    Calls Tryd.prog 16 #[.pointer (some ⟨g, 0, none⟩), .int .i64 p, .agg #[.string t, .bool q, .int .i64 0, .int .i64 0]] w fun e w' => e = .returned (.tuple #[]) ∧
      ∃ vw', Has w' g 41 (lxc s at_ line lineAt dep fl_ fc bl el vw' ve) ∧ Tx w' b vw' ve (ws ++ [⟨t.data.toList, q, line, 1 + p - lineAt⟩]) out ∧ Kb g b w w' := by
  have hg3 : g < w.heap.size := h.lt
  have HSP := Lib.hid (fun (W : World) (hW : Has W g 41 (lxc s at_ line lineAt dep fl_ fc bl el vw ve)) => spot_any s at_ line lineAt dep fl_ fc bl el vw ve g W hW p hp (by omega))
  have hC : (1 + (p : Int) - lineAt) = ((1 + p - lineAt : Nat) : Int) := by omega
  rw [hC] at HSP
  clear hC
  generalize 1 + p - lineAt = col at *
  clear hp hl
  have HLW := Lib.hid hws
  have HA0 := Lib.hid (h.alloc (.cells #[.string t, .bool q, .int .i64 0, .int .i64 0] 32))
  have HT0 := Lib.hid hT
  have HX0 := Lib.hid (Has.fresh w 32 #[.string t, .bool q, .int .i64 0, .int .i64 0])
  have HB0 : Hid (Below w.heap.size w (w.alloc (.cells #[.string t, .bool q, .int .i64 0, .int .i64 0] 32))) := (Below.refl _ w).alloc (Nat.le_refl _) _
  have HGB := Lib.hid hgb
  have HBB := Lib.hid hb
  clear h hT hgb hb hws
  go_enter Tryd.func16, Tryd.ntmps16
  go_wp2_with (go_at_call 13; refine (HSP.out _ HA0.out).mono ?_; rintro e w1 ⟨rfl, g1⟩; have HA1 := Lib.hid (HA0.out.grown g1 (by simp)); have HX1 := Lib.hid (HX0.out.grown g1 (by simp)); have HB1 := Lib.hid (HB0.out.grown g1 (by simp) (fun k e => by cases e)); clear g1)
  have hs1 : w.heap.size < w1.heap.size := HX1.out.lt
  have HA2 := Lib.hid (HA1.out.alloc (.cells #[.int .i64 line, .int .i64 col] 24))
  have HX2 := Lib.hid (HX1.out.alloc (.cells #[.int .i64 line, .int .i64 col] 24))
  have HP2 := Lib.hid (Has.fresh w1 24 #[.int .i64 line, .int .i64 col])
  have HB2 := Lib.hid (HB1.out.alloc HB1.out.size (.cells #[.int .i64 line, .int .i64 col] 24))
  generalize w1.heap.size = gp at *
  generalize w1.alloc (.cells #[.int .i64 line, .int .i64 col] 24) = w2 at *
  clear HA1 HX1 HB1 HSP HA0 HX0 HB0
  generalize hbx : w.heap.size = bx at *
  have p0 : w2.cell? ⟨gp, 0, none⟩ = some (.int .i64 line) := HP2.out.cell 0
  have p1 : w2.cell? ⟨gp, 1, none⟩ = some (.int .i64 col) := HP2.out.cell 1
  have x2 : w2.cell? ⟨bx, 2, none⟩ = some (.int .i64 0) := HX2.out.cell 2
  have x3 : w2.cell? ⟨bx, 3, none⟩ = some (.int .i64 0) := HX2.out.cell 3
  have y2 := HX2.out.free 2
  have y3 := HX2.out.free 3
  have HBX := Lib.hid hbx
  clear hbx
  go_region
  all_goals
    go_wp2
    have HX3 : Hid (Has ((w2.setCell ⟨bx, 2, none⟩ (.int .i64 line)).setCell ⟨bx, 3, none⟩ (.int .i64 col)).drew bx 32 #[.string t, .bool q, .int .i64 line, .int .i64 col]) := (HX2.out.set 2 (.int .i64 line)).set 3 (.int .i64 col)
    have HA3 : Hid (Has ((w2.setCell ⟨bx, 2, none⟩ (.int .i64 line)).setCell ⟨bx, 3, none⟩ (.int .i64 col)).drew g 41 (lxc s at_ line lineAt dep fl_ fc bl el vw ve)) := (HA2.out.far (p := ⟨bx, 2, none⟩) (by show g ≠ bx; omega) _).far (p := ⟨bx, 3, none⟩) (by show g ≠ bx; omega) _
    have HB3 : Hid (Below bx w ((w2.setCell ⟨bx, 2, none⟩ (.int .i64 line)).setCell ⟨bx, 3, none⟩ (.int .i64 col)).drew) := ((HB2.out.setCell (p := ⟨bx, 2, none⟩) (Nat.le_refl _) _).setCell (p := ⟨bx, 3, none⟩) (Nat.le_refl _) _).drew
    have HT3 := Lib.hid (HT0.out.below HB3.out (Nat.le_of_eq HBX.out))
    clear p0 p1 x2 x3 y2 y3 HX2 HA2 HP2 HB2 HT0
    generalize ((w2.setCell ⟨bx, 2, none⟩ (.int .i64 line)).setCell ⟨bx, 3, none⟩ (.int .i64 col)).drew = w3 at *
    obtain ⟨ad, cp, hvw, hcp⟩ := ownK_form HT3.out.wr
    subst hvw
    have hws := HLW.out
    have hb3 : b ≤ w3.heap.size := by have := HB3.out.size; have := HBX.out; have := HBB.out; omega
    obtain ⟨i4, z4, hi4, hz4, hs4, hb4, hc4⟩ := info_word
    obtain ⟨vw2, w4, hr, ho, hg4, hv4⟩ := run_append_where (P := Tryd.prog) (w := w3.drew.alloc (.cells #[.string t, .bool q, .int .i64 line, .int .i64 col] 32)) b 28 28 32 i4 z4 4 40 Tryd.underlying28 hi4 hz4 hs4 hb4 hc4 (by decide) (.slice ad ws.length cp) ws.length (fl wc ws)
      ((tk_drew HT3.out.wr).alloc _) ⟨w3.heap.size, 0, none⟩ 1 1 [.string t, .bool q, .int .i64 line, .int .i64 col] rfl (tk_cells_new w3.drew _ _) (by simp [Value.oneCell']) (by decide) (by unfold maxLen; omega) (by omega) (by simp; omega)
    have HE : Hid (Tx w4 b vw2 ve (ws ++ [⟨t.data.toList, q, line, col⟩]) out) := (HT3.out.drew.alloc (.cells #[.string t, .bool q, .int .i64 line, .int .i64 col] 32)).put (by rw [fl_append, fl_one]; exact ho) hg4 hv4
    have hne : some g ≠ (Value.slice ad ws.length cp).ownBlock := fun e => by have := (HT3.out.wr.lt g e.symm).1; have := HGB.out; omega
    have h4 : Has w4 g 41 (lxc s at_ line lineAt dep fl_ fc bl el (.slice ad ws.length cp) ve) :=
      Has.grown ((show Has w3.drew g 41 (lxc s at_ line lineAt dep fl_ fc bl el (.slice ad ws.length cp) ve) from HA3.out).alloc _) hg4 hne
    have d9 : w4.cell? ⟨g, 9, none⟩ = some (.slice ad ws.length cp) := h4.cell 9
    have f9 : w4.frozen? ⟨g, 9, none⟩ = false := h4.free 9
    have c9 : w3.cell? ⟨g, 9, none⟩ = some (.slice ad ws.length cp) := HA3.out.cell 9
    have e9 : (w3.alloc (.cells #[.string t, .bool q, .int .i64 line, .int .i64 col] 32)).cell? ⟨g, 9, none⟩ = some (.slice ad ws.length cp) := (HA3.out.alloc _).cell 9
    have x0 : w3.cell? ⟨bx, 0, none⟩ = some (.string t) := HX3.out.cell 0
    have x1 : w3.cell? ⟨bx, 1, none⟩ = some (.bool q) := HX3.out.cell 1
    have x2 : w3.cell? ⟨bx, 2, none⟩ = some (.int .i64 line) := HX3.out.cell 2
    have x3 : w3.cell? ⟨bx, 3, none⟩ = some (.int .i64 col) := HX3.out.cell 3
    have H4 := Lib.hid h4
    have hbw : Below b w3 w4 := (((Below.refl b w3).drew).alloc (by simp; omega) _).grown hg4 (by simp; omega) (fun k e => by have := (HT3.out.wr.lt k e).1; omega)
    have HBW : Hid (Kb g b w w4) := Kb.of_below ((HB3.out.mono HBB.out).trans hbw)
    obtain ⟨ad2, cp2, rfl, _⟩ := ownK_form ho
    have HR := Lib.hid hr
    clear hr ho hg4 hv4 h4 hbw hne HX3 HA3 HB3 HT3 hi4 hz4 hs4 hb4 hc4
    go_region_law (refine append_run (.tmp 21) (.tmp 23) _ _ rfl _ _ rfl rfl HR.out ?_)
    all_goals
      go_wp2
      go_end0
      exact ⟨rfl, _, H4.out.set 9 _, HE.out.farSet HGB.out (grown_set (World.grownBy.refl w4 _) 9 _), HBW.out.set 9 _⟩
end Go.Proofs.YtgmemngfkajnbaaDoor
