/- What is told is new memory: the words of one answer are written over, and the other answers stay. -/
import Derived.Test.YtgmemngfkajnbaaTkReads
import Derived.Test.YtgmemngfkajnbaaTkFacts
namespace Go.Proofs.Ytgmemngfkajnbaa
open Go.RowKit

/-- Entries, whatever it tells. -/
theorem ent_u (s : ByteArray) (hs : s.size ≤ 262144) (w : World) : Calls Try.prog 8 #[.string s] w fun e w' => Below w.heap.size w w' ∧
    ∃ ve out, e = .returned (.tuple #[ve, .agg #[.int .i64 (Tk.lineOf (Tk.tells s.data.toList)), .int .i64 (Tk.colOf (Tk.tells s.data.toList))], .int .i64 (Tk.errOf (Tk.tells s.data.toList))]) ∧ Ers w' w.heap.size ve out ∧ out.map Ex.en = Tk.entsOf (Tk.tells s.data.toList) := by
  refine (entries_any s w).mono ?_
  rintro e w' ⟨h1, h2⟩
  rw [if_neg (by omega)] at h2
  refine ⟨h1, ?_⟩
  rcases hT : Tk.tells s.data.toList with ⟨l, c, x⟩ | es
  · rw [hT] at h2
    exact ⟨.slice none 0 0, [], h2, Ers.nil _ _, rfl⟩
  · rw [hT] at h2
    exact h2

/-- a block of words. -/
def Wt (out : List Ex) (g : Nat) : Prop := ∃ x ∈ out, x.v.ownBlock = some g
/-- only the words' blocks are written, and they stay whole. -/
structure OwR (out : List Ex) (w3 wr : World) : Prop where
  os : wr.os = w3.os
  tape : wr.tape = w3.tape
  output : wr.output = w3.output
  size : wr.heap.size = w3.heap.size
  block : ∀ k, ¬ Wt out k → wr.heap[k]? = w3.heap[k]?
  rows : ∀ x ∈ out, ∃ g cp cur, x.v = .slice (some ⟨g, 0, none⟩) x.ws.length cp ∧ x.ws.length ≤ cp ∧ cp ≤ maxLen ∧ wr.heap[g]? = some (.cells cur 40 (0, 0)) ∧ cur.size = cp * 4
theorem OwR.start {w : World} {b : Nat} {v : Value} {out : List Ex} (h : Ers w b v out) (hp : ∀ x ∈ out, x.ws ≠ []) : OwR out w w := by
  refine ⟨rfl, rfl, rfl, rfl, fun _ _ => rfl, fun x hx => ?_⟩
  rcases (h.dat x hx).2 with ⟨_, h0⟩ | ⟨g, cp, cur, hv, _, hg, hn, hm, hs, _⟩
  · exact absurd (List.eq_nil_of_length_eq_zero h0) (hp x hx)
  · exact ⟨g, cp, cur, hv, hn, hm, hg, hs⟩
theorem OwR.set {out : List Ex} {w3 wr : World} (h : OwR out w3 wr) {g : Nat} (hg : Wt out g) (i : Nat) (u : Value) : OwR out w3 (wr.setCell ⟨g, i, none⟩ u) := by
  refine ⟨h.os, h.tape, h.output, by simpa using h.size, fun k hk => ?_, fun x hx => ?_⟩
  · rw [heap_setCell_other wr ⟨g, i, none⟩ k u (fun e => hk (by rw [e]; exact hg))]
    exact h.block k hk
  · obtain ⟨g', cp, cur, hv, hn, hm, hh, hs⟩ := h.rows x hx
    by_cases e : g' = g
    · subst e
      exact ⟨g', cp, _, hv, hn, hm, heap_setCell_same wr g' i cur 40 u hh, by simpa using hs⟩
    · exact ⟨g', cp, cur, hv, hn, hm, (heap_setCell_other wr ⟨g, i, none⟩ g' u (by show g' ≠ g; exact e)).trans hh, hs⟩
/-- a word's cells, whatever they hold. -/
theorem OwR.cells {out : List Ex} {w3 wr : World} (h : OwR out w3 wr) {x : Ex} (hx : x ∈ out) {g cp : Nat} {A : Option Addr} (hv : x.v = .slice A x.ws.length cp) (hA : A = some ⟨g, 0, none⟩) {k i : Nat} (hk : k < cp) (hi : i < 4) : (∃ u, wr.cell? ⟨g, k * 4 + i, none⟩ = some u) ∧ wr.frozen? ⟨g, k * 4 + i, none⟩ = false := by
  obtain ⟨g', cp', cur, hv', _, _, hh, hs⟩ := h.rows x hx
  rw [hv, hA] at hv'
  injection hv' with e1 _ e2
  injection e1 with e1
  injection e1 with e1
  subst e1 e2
  have hlt : k * 4 + i < cur.size := by omega
  exact ⟨⟨cur[k * 4 + i], by rw [cell_of_row wr g _ cur 40 (0, 0) hh, Array.getElem?_eq_getElem hlt]⟩, frozen_of_row wr g _ cur 40 hh⟩
theorem OwR.below {out : List Ex} {w3 wr : World} (h : OwR out w3 wr) {B : Nat} (hB : ∀ k, k < B → ¬ Wt out k) : Below B w3 wr :=
  ⟨h.os, h.tape, h.output, Nat.le_of_eq h.size.symm, fun k hk => h.block k (hB k hk)⟩
/-- another answer stays. -/
theorem OwR.ers {out : List Ex} {w3 wr : World} (h : OwR out w3 wr) {b : Nat} {v : Value} {o2 : List Ex} (h2 : Ers w3 b v o2) (hb : ∀ k, b ≤ k → ¬ Wt out k) : Ers wr b v o2 := by
  have keep : ∀ {k n : Nat} {e : TypeId} {u : Value} {xs : List Value}, w3.ownsRow b e k u n xs → wr.ownsRow b e k u n xs := fun {k n e u xs} ho => by
    refine ⟨ho.1, ?_⟩
    rcases ho.2 with hn | ⟨g, cap, cur, hv, hbg, hg, rest⟩
    · exact .inl hn
    · exact .inr ⟨g, cap, cur, hv, hbg, (h.block g (hb g hbg)).trans hg, rest⟩
  exact ⟨keep h2.own, fun x hx => keep (h2.dat x hx), h2.off⟩

/-- the writing over. -/
theorem wrap_succ {k cp : Nat} (h : k < cp) (hc : cp ≤ maxLen) : IntKind.i64.wrap ((k : Int) + 1) = (k : Int) + 1 := by
  unfold maxLen at hc
  rw [IntKind.wrap_i64]
  omega
end Go.Proofs.Ytgmemngfkajnbaa
