/- TokenLaid: a word more, an entry more. -/
import Derived.Test.YtgmemngfkajnbaaTkLyD
namespace Go.Proofs.Ytgmemngfkajnbaa
open Go.RowKit

section
variable {w0 W W' : World} {b g nb : Nat} {vb vb' vw ve : Value} {B B' : List UInt8} {o o' : Nat} {bl : Bool} {el : Nat} {ws : List Tk.Wd} {out : List Ex}
/-- a word more. -/
theorem LM.word (h : LM w0 W b g nb vb vw ve B o bl el ws out) (hws : ws.length ≤ 1048576) (x : Tk.Wd) {z : Nat} (hz : z = W.heap.size) :
    ∃ A c w2, (Builtin.append_ #[30, 30] 30 #[vw, .slice (some ⟨z, 0, none⟩) 1 1]).run Try.prog (W.alloc (.cells #[.string ⟨x.text.toArray⟩, .bool x.quoted, .int .i64 x.line, .int .i64 x.col] 40)) = .ok (.slice A (ws.length + 1) c) w2 ∧
      w2.cell? ⟨nb, 2, none⟩ = some vw ∧ w2.frozen? ⟨nb, 2, none⟩ = false ∧ LM w0 (w2.setCell ⟨nb, 2, none⟩ (.slice A (ws.length + 1) c)) b g nb vb (.slice A (ws.length + 1) c) ve B o bl el (ws ++ [x]) out := by
  subst hz
  have h1 := h.alloc (.cells #[.string ⟨x.text.toArray⟩, .bool x.quoted, .int .i64 x.line, .int .i64 x.col] 40)
  have hgb := h.sh.lt
  have hnb := h.nb_
  have hnl := h.no.lt
  have hle := h.sh.le
  obtain ⟨i4, z4, hi4, hz4, hs4, hb4, hc4⟩ := info_word
  obtain ⟨v2, w2, hr, ho, hg, hv⟩ := run_append_where (P := Try.prog) (w := W.alloc (.cells #[.string ⟨x.text.toArray⟩, .bool x.quoted, .int .i64 x.line, .int .i64 x.col] 40)) b 30 30 40 i4 z4 4 40 Try.underlying30 hi4 hz4 hs4 hb4 hc4 (by decide) vw ws.length (fl wc ws)
    (h.tx.wr.alloc _) ⟨W.heap.size, 0, none⟩ 1 1 (wc x) rfl (tk_cells_new W _ _) (by simp [wc, Value.oneCell']) (by decide) (by unfold maxLen; omega) (by omega) (by simp; omega)
  obtain ⟨ad2, cp2, hv2, _⟩ := ownK_form ho
  subst hv2
  have hT : Tx w2 b (.slice ad2 (ws.length + 1) cp2) ve (ws ++ [x]) out := h1.tx.put (by rw [fl_append, fl_one]; exact ho) hg hv
  have hwlt : ∀ q, vw.ownBlock = some q → b ≤ q ∧ q < W.heap.size := h.tx.wr.lt
  have hqw : (Value.slice ad2 (ws.length + 1) cp2).ownBlock ≠ some nb := fun e => by
    rcases hv with hv | hv
    · exact h.qw (hv.symm.trans e)
    · rw [hv] at e; injection e with e; simp at e; omega
  have haw : Apart2 vb (.slice ad2 (ws.length + 1) cp2) := fun q e1 e2 => by
    rcases hv with hv | hv
    · exact h.aw q e1 (hv.symm.trans e2)
    · rw [hv] at e2; injection e2 with e2; simp at e2; have := (h.sh.row.lt q e1).2; omega
  have hN := h1.no.grown hg (fun e => h.qw e.symm)
  have hS : Sh w2 b g vb B o := ⟨h1.sh.has.grown hg (fun e => by have := (hwlt g e.symm).1; omega), h1.sh.row.kept hg (apart_ne h.aw), h1.sh.lt, Nat.le_trans h1.sh.le hg.size⟩
  have hne : ∀ {W1 : World} (u : Value) (q : Nat), q ≠ nb → (W1.setCell ⟨nb, 2, none⟩ u).heap[q]? = W1.heap[q]? := fun u q hq => heap_setCell_other _ ⟨nb, 2, none⟩ q u hq
  refine ⟨ad2, cp2, w2, hr, hN.cell 2, hN.free 2, ⟨hS.has.far (p := ⟨nb, 2, none⟩) (by show g ≠ nb; omega) _, own_same hS.row (fun q e => hne _ q (fun e2 => h.qb (e2 ▸ e))), hS.lt, by simpa using hS.le⟩, hN.set 2 _, hT.same ?_, haw, h.ae, h.ax, h.nb_, h.qb, hqw, h.qe, h.qx, ?_⟩
  · rintro q (e | e | ⟨y, hy, e⟩)
    · exact hne _ q (fun e2 => hqw (e2 ▸ e))
    · exact hne _ q (fun e2 => h.qe (e2 ▸ e))
    · exact hne _ q (fun e2 => h.qx y hy (e2 ▸ e))
  · exact (h1.be.grown hg (by simp; omega) (fun k e => by have := (hwlt k e).1; omega)).setCell (p := ⟨nb, 2, none⟩) (by show g ≤ nb; omega) _
/-- an entry more. -/
theorem LM.close (h : LM w0 W b g nb vb vw ve B 0 bl el ws out) (hn : out.length ≤ 1048576) {z : Nat} (hz : z = W.heap.size) :
    ∃ v2 w2, (Builtin.append_ #[26, 26] 26 #[ve, .slice (some ⟨z, 0, none⟩) 1 1]).run Try.prog (W.alloc (.cells #[.bool bl, .int .i64 el, vw] 32)) = .ok v2 w2 ∧
      LO w0 w2 b g vb v2 B (out ++ [⟨bl, el, vw, ws⟩]) := by
  subst hz
  have h1 := h.alloc (.cells #[.bool bl, .int .i64 el, vw] 32)
  have hgb := h.sh.lt
  have hnl := h.no.lt
  have hle := h.sh.le
  obtain ⟨ad, cp, hvw, _⟩ := ownK_form h.tx.wr
  subst hvw
  obtain ⟨i3, z3, hi3, hz3, hs3, hb3, hc3⟩ := info_entry
  obtain ⟨v2, w2, hr, ho, hg, hv⟩ := run_append_where (P := Try.prog) (w := W.alloc (.cells #[.bool bl, .int .i64 el, .slice ad ws.length cp] 32)) b 26 26 32 i3 z3 3 40 Try.underlying26 hi3 hz3 hs3 hb3 hc3 (by decide) ve out.length (fl ec out)
    (h.tx.er.own.alloc _) ⟨W.heap.size, 0, none⟩ 1 1 (ec ⟨bl, el, .slice ad ws.length cp, ws⟩) rfl (tk_cells_new W _ _) (by simp [ec, Value.oneCell']) (by decide) (by unfold maxLen; omega) (by omega) (by simp; omega)
  have hlt : ∀ q, ve.ownBlock = some q → b ≤ q ∧ q < W.heap.size := h.tx.er.own.lt
  have hS : Sh w2 b g vb B 0 := ⟨h1.sh.has.grown hg (fun e => by have := (hlt g e.symm).1; omega), h1.sh.row.kept hg (apart_ne h.ae), h1.sh.lt, Nat.le_trans h1.sh.le hg.size⟩
  refine ⟨v2, w2, hr, hS, h1.tx.close (by rw [fl_append, fl_one]; exact ho) hg hv, fun q e1 e2 => ?_, fun y hy => ?_, ?_⟩
  · rcases hv with hv | hv
    · exact h.ae q e1 (hv.symm.trans e2)
    · rw [hv] at e2; injection e2 with e2; simp at e2; have := (h.sh.row.lt q e1).2; omega
  · rcases List.mem_append.1 hy with hy | hy
    · exact h.ax y hy
    · rw [List.mem_singleton.1 hy]; exact h.aw
  · exact h1.be.grown hg (by simp; omega) (fun k e => by have := (hlt k e).1; omega)
theorem LM.shut (h : LM w0 W b g nb vb vw ve B 0 bl el ws out) : LO w0 W b g vb ve B out := ⟨h.sh, h.tx.er, h.ae, h.ax, h.be⟩
end
end Go.Proofs.Ytgmemngfkajnbaa
