/- TokenLaid: the sheet, the entry that is being laid, and the rows of what is wanted, in memory. -/
import Derived.Test.YtgmemngfkajnbaaTkLyB
import Derived.Test.YtgmemngfkajnbaaTkLyC
namespace Go.Proofs.Ytgmemngfkajnbaa
open Go.RowKit

theorem own_same {w w' : World} {base : Nat} {e : TypeId} {size : Nat} {v : Value} {n : Nat} {xs : List Value} (h : w.ownsRow base e size v n xs) (hb : ∀ q, v.ownBlock = some q → w'.heap[q]? = w.heap[q]?) : w'.ownsRow base e size v n xs := by
  refine ⟨h.1, ?_⟩
  rcases h.2 with h2 | ⟨g, cap, cur, rfl, h1, h2, h3⟩
  · exact .inl h2
  · exact .inr ⟨g, cap, cur, rfl, h1, (hb g rfl).trans h2, h3⟩
theorem Ers.same {W W' : World} {b : Nat} {ve : Value} {out : List Ex} (h : Ers W b ve out) (hs : ∀ q, (ve.ownBlock = some q ∨ ∃ x ∈ out, x.v.ownBlock = some q) → W'.heap[q]? = W.heap[q]?) : Ers W' b ve out :=
  ⟨own_same h.own fun q e => hs q (.inl e), fun x hx => own_same (h.dat x hx) fun q e => hs q (.inr ⟨x, hx, e⟩), h.off⟩
theorem Tx.same {W W' : World} {b : Nat} {vw ve : Value} {ws : List Tk.Wd} {out : List Ex} (h : Tx W b vw ve ws out) (hs : ∀ q, (vw.ownBlock = some q ∨ ve.ownBlock = some q ∨ ∃ x ∈ out, x.v.ownBlock = some q) → W'.heap[q]? = W.heap[q]?) : Tx W' b vw ve ws out :=
  ⟨h.er.same fun q e => hs q (.inr e), own_same h.wr fun q e => hs q (.inl e), h.off, h.far⟩
theorem Sh.above {W W' : World} {b g : Nat} {v : Value} {B : List UInt8} {o : Nat} (h : Sh W b g v B o) (hb : Below W.heap.size W W') : Sh W' b g v B o :=
  ⟨h.has.below hb h.has.lt, ownK_below h.row hb (Nat.le_refl _), h.lt, Nat.le_trans h.le hb.size⟩
theorem Pt.under {g b : Nat} {v v' : Value} {w0 W W' : World} (h : Pt g v v' W W') (hb : Below g w0 W) (hg : g < W.heap.size) (hgb : g < b) (hv : ∀ q, v.ownBlock = some q → b ≤ q) : Below g w0 W' :=
  ⟨h.os.trans hb.os, h.tape.trans hb.tape, h.output.trans hb.output, Nat.le_trans hb.size h.size, fun k hk => (h.block k (by omega) (by omega) (fun e => by have := hv k e; omega)).trans (hb.block k hk)⟩

/-- while an entry is being laid. -/
structure LM (w0 W : World) (b g nb : Nat) (vb vw ve : Value) (B : List UInt8) (o : Nat) (bl : Bool) (el : Nat) (ws : List Tk.Wd) (out : List Ex) : Prop where
  sh : Sh W b g vb B o
  no : Has W nb 32 #[.bool bl, .int .i64 el, vw]
  tx : Tx W b vw ve ws out
  aw : Apart2 vb vw
  ae : Apart2 vb ve
  ax : ∀ x ∈ out, Apart2 vb x.v
  nb_ : b ≤ nb
  qb : vb.ownBlock ≠ some nb
  qw : vw.ownBlock ≠ some nb
  qe : ve.ownBlock ≠ some nb
  qx : ∀ x ∈ out, x.v.ownBlock ≠ some nb
  be : Below g w0 W
/-- between two entries. -/
structure LO (w0 W : World) (b g : Nat) (vb ve : Value) (B : List UInt8) (out : List Ex) : Prop where
  sh : Sh W b g vb B 0
  er : Ers W b ve out
  ae : Apart2 vb ve
  ax : ∀ x ∈ out, Apart2 vb x.v
  be : Below g w0 W
section
variable {w0 W W' : World} {b g nb : Nat} {vb vb' vw ve : Value} {B B' : List UInt8} {o o' : Nat} {bl : Bool} {el : Nat} {ws : List Tk.Wd} {out : List Ex}
theorem apart_new {r : Value} {n : Nat} {base : Nat} {e : TypeId} {size : Nat} {xs : List Value} (h : Apart2 vb r) (hP : Pt g vb vb' W W') (hr : W.ownsRow base e size r n xs) : Apart2 vb' r := fun q e1 e2 => by
  rcases hP.own q e1 with h1 | h1
  · exact h q h1 e2
  · have := (hr.lt q e2).2
    omega
theorem pt_row {r : Value} {n : Nat} {e : TypeId} {size : Nat} {xs : List Value} (h : Apart2 vb r) (hP : Pt g vb vb' W W') (hg : g < b) (hr : W.ownsRow b e size r n xs) {q : Nat} (e1 : r.ownBlock = some q) : W'.heap[q]? = W.heap[q]? := by
  have := hr.lt q e1
  exact hP.block q this.2 (by omega) (fun e2 => h q e2 e1)
theorem LM.pt (h : LM w0 W b g nb vb vw ve B o bl el ws out) (hS : Sh W' b g vb' B' o') (hP : Pt g vb vb' W W') : LM w0 W' b g nb vb' vw ve B' o' bl el ws out := by
  have hgb := h.sh.lt
  have hnb := h.nb_
  have hnl := h.no.lt
  refine ⟨hS, (hP.block nb hnl (by omega) h.qb).trans h.no, h.tx.same ?_, apart_new h.aw hP h.tx.wr, apart_new h.ae hP h.tx.er.own, fun x hx => apart_new (h.ax x hx) hP (h.tx.er.dat x hx), h.nb_, fun e => ?_, h.qw, h.qe, h.qx, ?_⟩
  · rintro q (e | e | ⟨x, hx, e⟩)
    · exact pt_row h.aw hP hgb h.tx.wr e
    · exact pt_row h.ae hP hgb h.tx.er.own e
    · exact pt_row (h.ax x hx) hP hgb (h.tx.er.dat x hx) e
  · rcases hP.own nb e with h1 | h1
    · exact h.qb h1
    · omega
  · exact hP.under h.be h.sh.has.lt hgb (fun q e => (h.sh.row.lt q e).1)
theorem LM.above (h : LM w0 W b g nb vb vw ve B o bl el ws out) (hb : Below W.heap.size W W') : LM w0 W' b g nb vb vw ve B o bl el ws out := h.pt (h.sh.above hb) (Pt.below hb (Nat.le_refl _))
theorem LM.alloc (h : LM w0 W b g nb vb vw ve B o bl el ws out) (x : Obj) : LM w0 (W.alloc x) b g nb vb vw ve B o bl el ws out := h.above ((Below.refl _ _).alloc (Nat.le_refl _) _)
theorem LM.drewN (h : LM w0 W b g nb vb vw ve B o bl el ws out) (n : Nat) : LM w0 (W.drewN n) b g nb vb vw ve B o bl el ws out := h.above (below_drewN (Below.refl _ _) n)
/-- a block that was there is as it was. -/
theorem Has.pt {k : Nat} {t : TypeId} {cs : Array Value} (h : Has W k t cs) (hP : Pt g vb vb' W W') (hk : k ≠ g) (hv : vb.ownBlock ≠ some k) : Has W' k t cs := (hP.block k h.lt hk hv).trans h
/-- an entry begins. -/
theorem LO.begin (h : LO w0 W b g vb ve B out) (bl : Bool) (el : Nat) : LM w0 (W.alloc (.cells #[.bool bl, .int .i64 el, .slice none 0 0] 32)) b g W.heap.size vb (.slice none 0 0) ve B 0 bl el [] out := by
  have hb : Below W.heap.size W (W.alloc (.cells #[.bool bl, .int .i64 el, .slice none 0 0] 32)) := (Below.refl _ _).alloc (Nat.le_refl _) _
  have hgb := h.sh.lt
  have hne : ∀ {r : Value} {n : Nat} {e : TypeId} {size : Nat} {xs : List Value}, W.ownsRow b e size r n xs → r.ownBlock ≠ some W.heap.size := fun hr e => by have := (hr.lt _ e).2; omega
  exact ⟨h.sh.above hb, Has.fresh _ _ _, Tx.start (h.er.below hb (Nat.le_refl _)), fun _ _ e => (by cases e), h.ae, h.ax, h.sh.le, hne h.sh.row, (fun e => by cases e), hne h.er.own, fun x hx => hne (h.er.dat x hx), h.be.trans (hb.mono (Nat.le_of_lt h.sh.has.lt))⟩
end
end Go.Proofs.Ytgmemngfkajnbaa
