/- Two lists of entries that are one: Same. -/
import Derived.Test.YtgmemngfkajnbaaDoorTkSt
import Derived.BigQuiet
namespace Go.Proofs.YtgmemngfkajnbaaDoor
open Go.RowKit

/-- entries that are read. -/
def EnsAt (w : World) (v : Value) (es : List Tk.En) : Prop :=
  ∃ (out : List Ex) (A : Option Addr) (c : Nat), out.map Ex.en = es ∧ v = .slice A out.length c ∧ Srow ec 3 w 0 w.heap.size A out ∧ ∀ x ∈ out, ∃ A' c', x.v = .slice A' x.ws.length c' ∧ Srow wc 4 w 0 w.heap.size A' x.ws
theorem EnsAt.nil (w : World) : EnsAt w (.slice none 0 0) [] := ⟨[], none, 0, rfl, rfl, fun h => absurd h (by simp), by simp⟩
theorem Srow.below {α : Type} {enc : α → List Value} {k : Nat} {w w' : World} {B lo : Nat} {A : Option Addr} {xs : List α} (h : Srow enc k w lo B A xs) (hb : Below B w w') {hi : Nat} (hh : B ≤ hi) : Srow enc k w' lo hi A xs := fun h0 => by
  obtain ⟨g, o, e, h1, h2, h3⟩ := h h0
  exact ⟨g, o, e, h1, by omega, fun j hj => range_below hb h2 (h3 j hj)⟩
theorem EnsAt.below {w w' : World} {v : Value} {es : List Tk.En} (h : EnsAt w v es) (hb : Below w.heap.size w w') : EnsAt w' v es := by
  obtain ⟨out, A, c, h1, h2, h3, h4⟩ := h
  refine ⟨out, A, c, h1, h2, h3.below hb hb.size, fun x hx => ?_⟩
  obtain ⟨A', c', e, hr⟩ := h4 x hx
  exact ⟨A', c', e, hr.below hb hb.size⟩
theorem Ers.at_ {w : World} {b : Nat} {v : Value} {out : List Ex} (h : Ers w b v out) : EnsAt w v (out.map Ex.en) := by
  obtain ⟨A, c, hv, _, hS⟩ := Own.srow ec_len h.own
  refine ⟨out, A, c, rfl, hv, hS.more (Nat.zero_le _) (Nat.le_refl _), fun x hx => ?_⟩
  obtain ⟨A', c', hv', _, hS'⟩ := Own.srow wc_len (h.dat x hx)
  exact ⟨A', c', hv', hS'.more (Nat.zero_le _) (Nat.le_refl _)⟩
/-- the cells of a struct in a row. -/
theorem Srow.cells {α : Type} {enc : α → List Value} {k : Nat} {w : World} {lo hi : Nat} {A : Option Addr} {xs : List α} (h : Srow enc k w lo hi A xs) {j : Nat} (hj : j < xs.length) : ∃ g o, A = some ⟨g, o, none⟩ ∧ g < hi ∧ ∀ i u, (enc xs[j])[i]? = some u → w.cell? ⟨g, o + j * k + i, none⟩ = some u := by
  obtain ⟨g, o, e, _, h2, h3⟩ := h (by omega)
  exact ⟨g, o, e, h2, fun i u hu => h3 j hj i u hu⟩
theorem EnsAt.form {w : World} {v : Value} {es : List Tk.En} (h : EnsAt w v es) : ∃ A c, v = .slice A es.length c ∧ ∀ j (hj : j < es.length), ∃ g o B d, A = some ⟨g, o, none⟩ ∧ g < w.heap.size ∧
    w.cell? ⟨g, o + j * 3, none⟩ = some (.bool es[j].blank) ∧ w.cell? ⟨g, o + j * 3 + 1, none⟩ = some (.int .i64 es[j].line) ∧ w.cell? ⟨g, o + j * 3 + 2, none⟩ = some (.slice B es[j].words.length d) ∧ Srow wc 4 w 0 w.heap.size B es[j].words := by
  obtain ⟨out, A, c, rfl, h2, h3, h4⟩ := h
  refine ⟨A, c, by rw [h2, List.length_map], fun j hj => ?_⟩
  have hj' : j < out.length := by simpa using hj
  obtain ⟨g, o, hA, hg, hc⟩ := h3.cells hj'
  obtain ⟨B, d, hv, hB⟩ := h4 _ (List.getElem_mem hj')
  have c2 : w.cell? ⟨g, o + j * 3 + 2, none⟩ = some out[j].v := hc 2 _ rfl
  rw [hv] at c2
  refine ⟨g, o, B, d, hA, hg, ?_, ?_, ?_, ?_⟩
  · rw [List.getElem_map]; exact hc 0 _ rfl
  · rw [List.getElem_map]; exact hc 1 _ rfl
  · rw [List.getElem_map]; exact c2
  · rw [List.getElem_map]; exact hB
/-- the cells of a word. -/
theorem word_cells {w : World} {hi : Nat} {A : Option Addr} {ws : List Tk.Wd} (h : Srow wc 4 w 0 hi A ws) {k : Nat} (hk : k < ws.length) : ∃ g o, A = some ⟨g, o, none⟩ ∧ g < hi ∧ w.cell? ⟨g, o + k * 4, none⟩ = some (.string ⟨ws[k].text.toArray⟩) ∧
    w.cell? ⟨g, o + k * 4 + 1, none⟩ = some (.bool ws[k].quoted) ∧ w.cell? ⟨g, o + k * 4 + 2, none⟩ = some (.int .i64 ws[k].line) ∧ w.cell? ⟨g, o + k * 4 + 3, none⟩ = some (.int .i64 ws[k].col) := by
  obtain ⟨g, o, e, hg, hc⟩ := h.cells hk
  exact ⟨g, o, e, hg, hc 0 _ rfl, hc 1 _ rfl, hc 2 _ rfl, hc 3 _ rfl⟩
theorem same_entry {o1 o2 : List Ex} (h : o1.map Ex.en = o2.map Ex.en) {j : Nat} (h1 : j < o1.length) (h2 : j < o2.length) : o1[j].bl = o2[j].bl ∧ o1[j].el = o2[j].el ∧ o1[j].ws = o2[j].ws := by
  have e : (o1.map Ex.en)[j]'(by simpa using h1) = (o2.map Ex.en)[j]'(by simpa using h2) := by simp only [h]
  rw [List.getElem_map, List.getElem_map] at e
  simp only [Ex.en, Tk.En.mk.injEq] at e
  exact e

end Go.Proofs.YtgmemngfkajnbaaDoor
