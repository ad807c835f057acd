/- The document's kinds. -/
import Derived.Test.YtbmobaomnfchkaaTkRefA
import Derived.Test.YtbmobaomnfchkaaTkOwn
namespace Go.Proofs.Ytbmobaomnfchkaa
open Go.RowKit

/-- the kinds that are known, and nothing behind. -/
def OutIs (w : World) (go n : Nat) (acc : List Nat) : Prop := Has w go 3 (iv (acc ++ List.replicate (n - acc.length) 0)).toArray ∧ acc.length ≤ n
section
variable {w w' : World} {go n : Nat} {acc : List Nat}
theorem OutIs.cell (h : OutIs w go n acc) (hl : acc.length < n) : w.cell? ⟨go, acc.length, none⟩ = some (.int .i64 0) := by
  rw [h.1.cell]
  obtain ⟨m, hm⟩ : ∃ m, n - acc.length = m + 1 := ⟨n - acc.length - 1, by omega⟩
  rw [hm, List.replicate_succ]
  simp [iv]
theorem OutIs.free (h : OutIs w go n acc) (i : Nat) : w.frozen? ⟨go, i, none⟩ = false := h.1.free i
theorem OutIs.push (h : OutIs w go n acc) (hl : acc.length < n) (k : Nat) {p : Nat} (hp : acc.length = p) : OutIs (w.setCell ⟨go, p, none⟩ (.int .i64 k)) go n (acc ++ [k]) := by
  subst hp
  refine ⟨?_, by simp; omega⟩
  have h2 := h.1.set acc.length (.int .i64 k)
  obtain ⟨m, hm⟩ : ∃ m, n - acc.length = m + 1 := ⟨n - acc.length - 1, by omega⟩
  have e : (iv (acc ++ List.replicate (n - acc.length) 0)).toArray.setIfInBounds acc.length (.int .i64 k) = (iv (acc ++ [k] ++ List.replicate (n - (acc ++ [k]).length) 0)).toArray := by
    rw [hm, List.replicate_succ, List.length_append, List.length_singleton, show n - (acc.length + 1) = m by omega]
    apply Array.ext'
    simp [iv]
  rw [e] at h2
  exact h2
theorem OutIs.last {j : Nat} (h : OutIs w go n (acc ++ [j])) (k : Nat) {p : Nat} (hp : acc.length = p) : OutIs (w.setCell ⟨go, p, none⟩ (.int .i64 k)) go n (acc ++ [k]) := by
  subst hp
  refine ⟨?_, by have := h.2; simp at this ⊢; omega⟩
  have h2 := h.1.set acc.length (.int .i64 k)
  have e : (iv (acc ++ [j] ++ List.replicate (n - (acc ++ [j]).length) 0)).toArray.setIfInBounds acc.length (.int .i64 k) = (iv (acc ++ [k] ++ List.replicate (n - (acc ++ [k]).length) 0)).toArray := by
    apply Array.ext'
    simp [iv]
  rw [e] at h2
  exact h2
theorem OutIs.kept (h : OutIs w go n acc) {row : Option Nat} (hg : w.grownBy w' row) (hne : some go ≠ row) : OutIs w' go n acc := ⟨h.1.grown hg hne, h.2⟩
theorem OutIs.done (h : OutIs w go n acc) (hl : acc.length = n) {b : Nat} (hb : b ≤ go) (hm : n ≤ 1048576) : w.ownsRow b 3 1 (.slice (some ⟨go, 0, none⟩) n n) n (iv acc) := by
  subst hl
  refine ⟨by simp [iv], .inr ⟨go, acc.length, _, rfl, hb, h.1, Nat.le_refl _, ?_, ?_, ?_⟩⟩
  · unfold maxLen; omega
  · simp [iv]
  · rw [Nat.mul_one]
    simp only [Nat.sub_self, List.replicate_zero, List.append_nil]
    exact List.take_of_length_le (by simp [iv])
end
theorem own_off {w : World} {b go i k n : Nat} {e : TypeId} {v u : Value} {xs : List Value} (h : w.ownsRow b e k v n xs) (hv : ∀ q, v.ownBlock = some q → go < q) : (w.setCell ⟨go, i, none⟩ u).ownsRow b e k v n xs :=
  h.kept (grown_set (World.grownBy.refl w _) i u) (by
    cases e2 : v.ownBlock with
    | none => exact .inl rfl
    | some q => exact .inr fun e3 => by injection e3 with e3; have := hv q e2; omega)
/-- a row is cut by one. -/
theorem own_cut {w : World} {b m cp : Nat} {e : TypeId} {ad : Option Addr} {o : List Nat} (h : w.ownsRow b e 1 (.slice ad (m + 1) cp) (m + 1) (iv o)) : w.ownsRow b e 1 (.slice ad m cp) m (iv o.dropLast) := by
  have hl : o.length = m + 1 := by have := h.1; simp [iv] at this; omega
  refine ⟨by simp [iv]; omega, ?_⟩
  rcases h.2 with ⟨hv, h0⟩ | ⟨g, cap, cur, hv, hb, hg, hn, hm, hs, ht⟩
  · omega
  · injection hv with e1 e2 e3
    subst e1 e3
    refine .inr ⟨g, _, cur, rfl, hb, hg, by omega, hm, hs, ?_⟩
    have h2 : cur.toList.take (m * 1) = (cur.toList.take ((m + 1) * 1)).take m := by rw [List.take_take]; congr 1; omega
    rw [h2, ht]
    unfold iv
    rw [← List.map_take, List.dropLast_eq_take, hl]
    rfl
/-- what kinds tells. -/
def KnP (s : ByteArray) (w : World) : Ending → World → Prop := fun e w' =>
  Below w.heap.size w w' ∧ match Tk.kin (Tk.lx s.data.toList) 0 [] [] with
    | .err a x => e = .returned (.tuple #[.slice none 0 0, .int .i64 a, .int .i64 x])
    | .ok ks => ∃ v, e = .returned (.tuple #[v, .int .i64 0, .int .i64 0]) ∧ w'.ownsRow w.heap.size 3 1 v s.size (iv ks)
theorem run_zeros (w : World) (n : Nat) (hn : n ≤ 1048576) : ∃ w', (Instr.makeSlice 50 (.int .i64 (n : Int)) (.int .i64 (n : Int))).run Try.prog w = .ok (.slice (some ⟨w.heap.size, 0, none⟩) n n) w' ∧ OutIs w' w.heap.size n [] ∧ Below w.heap.size w w' := by
  obtain ⟨i1, z1, hi1, hz1, hs1, hb1, hc1⟩ := info_int
  have hz0 : z1 = .int .i64 0 := by
    have h := hz1
    have e : (Try.prog.info? 3).bind (·.zero) = some (.int .i64 0) := by kernel_rfl
    rw [hi1] at e
    simp only [Option.bind_some] at e
    rw [hz1] at e
    injection e
  have hr := run_make (P := Try.prog) w 50 3 i1 z1 Try.underlying50 hi1 hz1 .i64 .i64 n n (by omega) (Int.le_refl _) (by rw [hb1]; omega) (by omega)
  refine ⟨_, by simpa using hr, ?_, (Below.refl _ _).alloc (Nat.le_refl _) _⟩
  have e1 : madeCells z1.cells (n * i1.size) = (iv ([] ++ List.replicate (n - ([] : List Nat).length) 0)).toArray := by
    apply Array.ext'
    rw [hz0, show (Value.int .i64 0).cells = #[Value.int .i64 0] from rfl, toList_madeCells_one, hs1]
    simp [iv]
  rw [e1]
  exact ⟨Has.fresh w _ _, by simp⟩
theorem wpList_zeros {w : World} {ops : Array Oper} {rest : List Oper} {o : Oper} {a : Act} {Q : Exit → Act → World → Prop} (hg : o.guard = none) (l c : Operand) (hop : o.op = Op.makeSlice 50 l c) (n : Nat) (hl : a.eval l = .int .i64 (n : Int)) (hc : a.eval c = .int .i64 (n : Int)) (hn : n ≤ 1048576)
    (hK : ∀ w', OutIs w' w.heap.size n [] → Below w.heap.size w w' → wpList Try.prog ops Q rest (a.put o.dst (.slice (some ⟨w.heap.size, 0, none⟩) n n)) w') : wpList Try.prog ops Q (o :: rest) a w := by
  refine wpList_plain hg fun K hK' => ?_
  obtain ⟨w', hr, h1, h2⟩ := run_zeros w n hn
  unfold Oper.wp
  simp [execOp, hop, hl, hc, hr, Result.andThen]
  exact hK' _ _ (hK w' h1 h2)
end Go.Proofs.Ytbmobaomnfchkaa
