/- A slice of bytes that came in has at most as many as its bulk. -/
import Derived.Test.YtnhoaceickojeaaRdItems
namespace Go.Proofs.Ytnhoaceickojeaa
open Go.ChangeShapes Go.WideShapes Go.Deep Go.RowKit

theorem bulk_pos {H : Type} (d : DataW H) : 1 ≤ Rows.uptoBulk d := by
  cases d with
  | lit x => cases x <;> simp [Rows.uptoBulk]
  | nil => simp [Rows.uptoBulk]
  | ptr d => simp [Rows.uptoBulk]
  | slice a b => simp [Rows.uptoBulk]
  | agg a => simp [Rows.uptoBulk]
  | iface a b => simp [Rows.uptoBulk]
  | map a => simp [Rows.uptoBulk]
  | held a => simp [Rows.uptoBulk]
theorem bulk_len {H : Type} : ∀ x : List (DataW H), x.length ≤ Rows.uptoBulkAll x
  | [] => Nat.zero_le _
  | c :: r => by
    have h1 := bulk_pos c
    have h2 := bulk_len r
    rw [Rows.uptoBulkAll, List.length_cons]
    omega
set_option maxRecDepth 100000 in
theorem open_bulk {H : Type} {enc : TypeId × Value → H} {W : World} {base : Nat} {v : Value} {d : DataW H} {p : List MemPlace} {T e : TypeId} (hu : Try.prog.underlying T = some (.slice e)) (hval : Value.okWide Try.prog W .any base T v) (h : DataW.Trod enc Try.prog W 0 (fun _ => true) true T v d p) :
    ∀ A n c, v = .slice A n c → n ≤ Rows.uptoBulk d := by
  intro A n c hv
  obtain ⟨a0, len, cap, rfl⟩ := okWide_slice hu hval
  obtain ⟨fuel, hf⟩ := h
  injection hv with e1 e2 e3
  subst e2
  rcases open_slice hu hf with ⟨hcs, hx⟩ | ⟨a, len', cap', m, n, D, Pl, hcs, _, hl, hm, hmm, hx, hi⟩
  · simp [Value.cells] at hcs
    omega
  · simp [Value.cells] at hcs
    obtain ⟨rfl, rfl, rfl⟩ := hcs
    simp only [Prod.mk.injEq] at hx
    obtain ⟨rfl, rfl⟩ := hx
    have := bulk_len ((List.range len).map D)
    rw [List.length_map, List.length_range] at this
    rw [Rows.uptoBulk]
    omega
end Go.Proofs.Ytnhoaceickojeaa
