/- TokenTail's walk: the second text is well, and both are. -/
import Derived.Test.YtbmobaomnfchkaaTkTail
namespace Go.Proofs.Ytbmobaomnfchkaa
open Go.RowKit

/-- the words gathered in x, beside a row of entries; x's own block is g. -/
structure Tg (w : World) (b g : Nat) (vx vW : Value) (ws : List Tk.Wd) (out : List Ex) : Prop where
  tx : Tx w b vx vW ws out
  ltW : ∀ q, vW.ownBlock = some q → q < g
  ltO : ∀ x ∈ out, ∀ q, x.v.ownBlock = some q → q < g
  gtX : ∀ q, vx.ownBlock = some q → g < q
section
variable {w w' : World} {b g : Nat} {vx vx' vW : Value} {ws : List Tk.Wd} {out : List Ex}
theorem Tg.set (h : Tg w b g vx vW ws out) (i : Nat) (u : Value) : Tg (w.setCell ⟨g, i, none⟩ u) b g vx vW ws out := by
  have hg : w.grownBy (w.setCell ⟨g, i, none⟩ u) (some g) := grown_set (World.grownBy.refl w _) i u
  have ne : ∀ {v : Value}, (∀ q, v.ownBlock = some q → q ≠ g) → v.ownBlock = none ∨ v.ownBlock ≠ some g := fun {v} hv => by
    cases e : v.ownBlock with
    | none => exact .inl rfl
    | some q => exact .inr fun e2 => hv q e (by injection e2)
  exact ⟨⟨⟨h.tx.er.own.kept hg (ne fun q e => Nat.ne_of_lt (h.ltW q e)), fun x hx => (h.tx.er.dat x hx).kept hg (ne fun q e => Nat.ne_of_lt (h.ltO x hx q e)), h.tx.er.off⟩, h.tx.wr.kept hg (ne fun q e => (Nat.ne_of_lt (h.gtX q e)).symm), h.tx.off, h.tx.far⟩, h.ltW, h.ltO, h.gtX⟩
theorem Tg.kept (h : Tg w b g vx vW ws out) (hg : w.grownBy w' none) : Tg w' b g vx vW ws out := by
  have ne : ∀ v : Value, v.ownBlock = none ∨ v.ownBlock ≠ none := fun v => Classical.em _
  exact ⟨⟨⟨h.tx.er.own.kept hg (ne _), fun x hx => (h.tx.er.dat x hx).kept hg (ne _), h.tx.er.off⟩, h.tx.wr.kept hg (ne _), h.tx.off, h.tx.far⟩, h.ltW, h.ltO, h.gtX⟩
theorem Tg.put (h : Tg w b g vx vW ws out) (hgw : g < w.heap.size) {x : Tk.Wd} (ho : w'.ownsRow b 48 4 vx' (ws.length + 1) (fl wc (ws ++ [x]))) (hg : w.grownBy w' vx.ownBlock) (hv : vx'.ownBlock = vx.ownBlock ∨ vx'.ownBlock = some w.heap.size) : Tg w' b g vx' vW (ws ++ [x]) out := by
  refine ⟨h.tx.put ho hg hv, h.ltW, h.ltO, fun q e => ?_⟩
  rcases hv with hv | hv
  · exact h.gtX q (hv.symm.trans e)
  · rw [hv] at e
    injection e with e
    omega
end
end Go.Proofs.Ytbmobaomnfchkaa
