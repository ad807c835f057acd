/- What is put and taken out again leaves nothing: the statement's memory. -/
import Derived.Test.YtpnfkgjcnofjnaaLwGone
namespace Go.Proofs.Ytpnfkgjcnofjnaa
open Go.RowKit
theorem wpList_append_at {P : Program} {w : World} {ops : Array Oper} {rest : List Oper} {o : Oper} {a : Act} {Q : Exit → Act → World → Prop}
    (hg : o.guard = none) (s x : Operand) (t : TypeId) (hop : o.op = Op.call { callee := Callee.builtin Builtin.append, args := #[s, x], argTypes := #[t, t] })
    (v y : Value) (hs : a.eval s = v) (hx : a.eval x = y) {v' : Value} {w' : World} (hrun : (Builtin.append_ #[t, t] o.type #[v, y]).run P w = .ok v' w')
    (h : wpList P ops Q rest (a.put o.dst v') w') : wpList P ops Q (o :: rest) a w := by
  refine wpList_plain hg fun K hK' => ?_
  unfold Oper.wp execOp
  simp only [hop, resolve, invoke, builtin, Sem.run_bind, Sem.run_pure, Result.andThen_ok, List.map_toArray, List.map_cons, List.map_nil, hs, hx, hrun]
  exact hK' _ _ h
end Go.Proofs.Ytpnfkgjcnofjnaa
namespace Go.Proofs.Ytpnfkgjcnofjnaa.Ti
open Go.RowKit Go.Shelf Tr

set_option maxRecDepth 100000 in
theorem info_name : ∃ i z, Try.prog.info? 28 = some i ∧ i.zero = some z ∧ i.size = 1 ∧ i.bytes = 16 ∧ z.cells.size = 1 := by
  refine ⟨_, _, rfl, rfl, ?_, ?_, ?_⟩ <;> kernel_rfl
structure GnS (w wr : World) (b : Nat) (vw : Value) (L : List (By × TV)) (m : No TV) (fr : List By) (vf : Value) (F : List Nat) : Prop where
  tm : TM wr b m F
  low : ∀ q ∈ F, w.heap.size ≤ q
  bel : Below w.heap.size w wr
  was : PRow wr w.heap.size vw L
  wasF : ∀ q, vw.ownBlock = some q → q ∉ F
  row : wr.ownsRow w.heap.size 28 1 vf fr.length (svs fr)
  rowF : ∀ q, vf.ownBlock = some q → q ∉ F
  rowW : ∀ q, vf.ownBlock = some q → vw.ownBlock ≠ some q
section
variable {w wr X : World} {b : Nat} {vw : Value} {L : List (By × TV)} {m m' : No TV} {fr : List By} {vf : Value} {F F' : List Nat}
theorem GnS.below {B : Nat} (h : GnS w wr b vw L m fr vf F) (hb : Below B wr X) (hB : wr.heap.size ≤ B) : GnS w X b vw L m fr vf F :=
  ⟨h.tm.below hb hB, h.low, h.bel.trans (hb.mono (Nat.le_trans h.bel.size hB)), ownK_below h.was hb hB, h.wasF, ownK_below h.row hb hB, h.rowF, h.rowW⟩
theorem GnS.only (h : GnS w wr b vw L m fr vf F) (ht : TM X b m' F') (hn : New wr F F') (ho : Only F wr X) : GnS w X b vw L m' fr vf F' :=
  ⟨ht, fun q hq => by
    rcases hn q hq with h1 | h1
    · exact h.low q h1
    · exact Nat.le_trans h.bel.size h1, h.bel.trans (ho.below h.low h.bel.size), ownK_same h.was fun q hq => ho.block q (h.was.lt q hq).2 (h.wasF q hq), fun q hq hm => by
    rcases hn q hm with h1 | h1
    · exact h.wasF q hq h1
    · have := (h.was.lt q hq).2; omega, ownK_same h.row fun q hq => ho.block q (h.row.lt q hq).2 (h.rowF q hq), fun q hq hm => by
    rcases hn q hm with h1 | h1
    · exact h.rowF q hq h1
    · have := (h.row.lt q hq).2; omega, h.rowW⟩
theorem GnS.app (h : GnS w wr b vw L m fr vf F) (x : By) (hl : fr.length ≤ 1000000) :
    ∃ A2 c2 w2, (Builtin.append_ #[44, 44] 44 #[vf, .slice (some ⟨wr.heap.size, 0, none⟩) 1 1]).run Try.prog (wr.alloc (.cells #[sv x] 28)) = .ok (.slice A2 (fr.length + 1) c2) w2 ∧ GnS w w2 b vw L m (fr ++ [x]) (.slice A2 (fr.length + 1) c2) F := by
  obtain ⟨i4, z4, hi4, hz4, hs4, hb4, hc4⟩ := info_name
  have hz := h.bel.size
  obtain ⟨v2, w2, hr, ho, hgw, hv⟩ := run_append_where (P := Try.prog) (w := wr.alloc (.cells #[sv x] 28)) w.heap.size 44 44 28 i4 z4 1 16 Try.underlying44 hi4 hz4 hs4 hb4 hc4 (by decide) vf fr.length (svs fr)
    (h.row.alloc _) ⟨wr.heap.size, 0, none⟩ 1 1 [sv x] rfl (fun i u hu => by rw [addr_add, Nat.zero_add, (Has.fresh wr 28 #[sv x]).cell i]; simpa using hu) (by simp [Value.oneCell']) (by decide) (by unfold maxLen; omega) (by omega) (by simp; omega)
  obtain ⟨ad2, cp2, hv2, _⟩ := ownK_form ho
  subst hv2
  have hF : ∀ q ∈ F, q < wr.heap.size := h.tm.node.lt
  have hs : ∀ q, vf.ownBlock ≠ some q → q < wr.heap.size → w2.heap[q]? = wr.heap[q]? := fun q hq hlt => (hgw.block q (by simp; omega) (fun e => hq e.symm)).trans (Below.heap_alloc wr _ q hlt)
  have hq2 : ∀ q, (Value.slice ad2 (fr.length + 1) cp2).ownBlock = some q → vf.ownBlock = some q ∨ q = wr.heap.size + 1 := fun q hq => by
    rcases hv with e | e
    · exact .inl (e ▸ hq)
    · rw [e] at hq; injection hq with hq; simp at hq; exact .inr (by omega)
  refine ⟨ad2, cp2, w2, hr, h.tm.same fun q hq => hs q (fun e => h.rowF q e hq) (hF q hq), h.low, (h.bel.alloc hz _).grown hgw (by simp; omega) (fun q e => (h.row.lt q e).1), ownK_same h.was fun q hq => hs q (fun e => h.rowW q e hq) (h.was.lt q hq).2, h.wasF, ?_, fun q hq hm => ?_, fun q hq e => ?_⟩
  · rw [List.length_append, List.length_singleton]
    have : svs (fr ++ [x]) = svs fr ++ [sv x] := by simp [svs]
    rw [this]; exact ho
  · rcases hq2 q hq with h1 | h1
    · exact h.rowF q h1 hm
    · have := hF q hm; omega
  · rcases hq2 q hq with h1 | h1
    · exact h.rowW q h1 e
    · have := (h.was.lt q e).2; omega
end
theorem root_okG : ok rootN ∧ KeyOk (nents rootN) := ⟨⟨trivial, fun _ => ⟨rfl, rfl⟩⟩, fun e he => by cases he⟩
end Go.Proofs.Ytpnfkgjcnofjnaa.Ti
