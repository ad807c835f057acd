/- Going through a tree while it is changed: the statement's memory. -/
import Derived.Test.YtbcchdkicpmngaaLwGoneM
namespace Go.Proofs.Ytbcchdkicpmngaa.Ti
open Go.RowKit Go.Shelf Tr

/-- blocks that stay as they are. -/
def Kp (bs b5 bi : Nat) (vw : Value) (k : Nat) : Prop := k = bs ∨ k = b5 ∨ k = bi ∨ k = bi + 1 ∨ vw.ownBlock = some k
structure MwS (w0 W : World) (bs b5 bi b : Nat) (stop : Int) (vw : Value) (L : List (By × TV)) (m : No TV) (F : List Nat) : Prop where
  tm : TM W b m F
  low : ∀ q ∈ F, w0.heap.size ≤ q
  bel : Below w0.heap.size w0 W
  stp : Has W bs 3 #[.int .i64 stop]
  box : Has W b5 24 #[ptr b]
  it : Has W bi 24 #[ptr b]
  it2 : Has W (bi + 1) 28 #[.string ⟨#[0]⟩]
  was : PRow W w0.heap.size vw L
  kp : ∀ k, Kp bs b5 bi vw k → k ∉ F
section
variable {w0 W X : World} {bs b5 bi b : Nat} {stop : Int} {vw : Value} {L : List (By × TV)} {m m' : No TV} {F F' : List Nat}
theorem MwS.lt (h : MwS w0 W bs b5 bi b stop vw L m F) : ∀ k, Kp bs b5 bi vw k → k < W.heap.size := fun k hk => by
  rcases hk with rfl | rfl | rfl | rfl | hk
  · exact h.stp.lt
  · exact h.box.lt
  · exact h.it.lt
  · exact h.it2.lt
  · exact (h.was.lt k hk).2
theorem MwS.same (h : MwS w0 W bs b5 bi b stop vw L m F) (hb : Below w0.heap.size w0 X) (hs : ∀ k, Kp bs b5 bi vw k ∨ k ∈ F → X.heap[k]? = W.heap[k]?) : MwS w0 X bs b5 bi b stop vw L m F :=
  ⟨h.tm.same fun q hq => hs q (.inr hq), h.low, hb, (hs _ (.inl (.inl rfl))).trans h.stp, (hs _ (.inl (.inr (.inl rfl)))).trans h.box, (hs _ (.inl (.inr (.inr (.inl rfl))))).trans h.it, (hs _ (.inl (.inr (.inr (.inr (.inl rfl)))))).trans h.it2,
   ownK_same h.was fun q hq => hs q (.inl (.inr (.inr (.inr (.inr hq))))), h.kp⟩
theorem MwS.below {B : Nat} (h : MwS w0 W bs b5 bi b stop vw L m F) (hb : Below B W X) (hB : W.heap.size ≤ B) : MwS w0 X bs b5 bi b stop vw L m F :=
  h.same (h.bel.trans (hb.mono (Nat.le_trans h.bel.size hB))) fun k hk => hb.block k (by rcases hk with hk | hk; have := h.lt k hk; omega; have := h.tm.node.lt k hk; omega)
theorem MwS.only (h : MwS w0 W bs b5 bi b stop vw L m F) (ht : TM X b m' F') (hn : New W F F') (ho : Only F W X) : MwS w0 X bs b5 bi b stop vw L m' F' := by
  have hs : ∀ k, Kp bs b5 bi vw k → X.heap[k]? = W.heap[k]? := fun k hk => ho.block k (h.lt k hk) (h.kp k hk)
  refine ⟨ht, fun q hq => ?_, h.bel.trans (ho.below h.low h.bel.size), (hs _ (.inl rfl)).trans h.stp, (hs _ (.inr (.inl rfl))).trans h.box, (hs _ (.inr (.inr (.inl rfl)))).trans h.it, (hs _ (.inr (.inr (.inr (.inl rfl))))).trans h.it2, ownK_same h.was fun q hq => hs q (.inr (.inr (.inr (.inr hq)))), fun k hk hm => ?_⟩
  · rcases hn q hq with h1 | h1
    · exact h.low q h1
    · exact Nat.le_trans h.bel.size h1
  · rcases hn k hm with h1 | h1
    · exact h.kp k hk h1
    · have := h.lt k hk; omega
/-- Delete of whatever. -/
theorem DelX_any (h : TM W b m F) (s : ByteArray) (hs : s.size ≤ 140737488355328) :
    Calls Try.prog 14 #[ptr b, .string s] W fun e w' => ∃ r m' F', e = .returned (.bool r) ∧ TM w' b m' F' ∧ New W F F' ∧ Only F W w' ∧ (nents m').length ≤ (nents m).length := by
  cases hn : isN s.data.toList with
  | false => exact (DelNo_any h s hs hn).mono fun e w' ⟨h1, h2, h3⟩ => ⟨_, m, F, h1, h2, New.refl _ _, Only.of_below h3 (Nat.le_refl _) _, Nat.le_refl _⟩
  | true => exact (Del_any h s hs hn).mono fun e w' ⟨F', h1, h2, h3, h4⟩ => ⟨_, _, F', h1, h2, h3, h4, by rw [del_ents h.ok]; exact List.length_filter_le _ _⟩
theorem PutX_any (h : TM W b m F) (hf : (nents m).length < 1000000) (s : ByteArray) (v : Int) (hs : s.size ≤ 140737488355328) (hn : isN s.data.toList = true) :
    Calls Try.prog 12 #[ptr b, .string s, tz v] W fun e w' => ∃ r m' F', e = .returned (.tuple #[.bool r, .int .i64 0]) ∧ TM w' b m' F' ∧ New W F F' ∧ Only F W w' ∧ (nents m').length ≤ (nents m).length + 1 :=
  (Put_any h hf s v hs hn).mono fun e w' ⟨F', h1, h2, h3, h4⟩ => ⟨_, _, F', h1, h2, h3, h4, by rw [put_len h.ok]; split <;> omega⟩
end
/-- the first of what is read. -/
theorem PRd.take {W : World} {A : Option Addr} {n c : Nat} {L : List (By × TV)} (h : PRd W (.slice A n c) L) {k : Nat} (hk : k ≤ n) (c' : Nat) : PRd W (.slice A k c') (L.take k) := by
  obtain ⟨A', c2, e, hr⟩ := h
  injection e with e1 e2 _
  have hl : (L.take k).length = k := by rw [List.length_take]; omega
  refine ⟨A, c', by rw [hl], fun h0 => ?_⟩
  obtain ⟨g, o, hA, hg, hc⟩ := hr (by omega)
  exact ⟨g, o, e1.trans hA, hg, fun j hj => by rw [List.getElem_take]; exact hc j (by omega)⟩
theorem ClB.chg' {w1 A X : World} {B : Nat} {v : Value} {L : List (By × TV)} {m : Nat} {T : Bl} (h : ClB w1 A B v L) (hc : Chg m T A X) (hm : B < m) (hw : w1.heap.size ≤ m) (hT : ∀ q, ClT B v q → T q) : ClB w1 X B v L :=
  ⟨(hc.block _ h.box.lt (.inl hm)).trans h.box, ownK_same h.row fun q hq => hc.block q (h.row.lt q hq).2 (.inr (hT q (.inr hq))),
   hc.os.trans h.bel.os, hc.tape.trans h.bel.tape, hc.output.trans h.bel.output, Nat.le_trans h.bel.size hc.size, fun k hk => (hc.block k (Nat.lt_of_lt_of_le hk h.bel.size) (.inl (by omega))).trans (h.bel.block k hk)⟩
theorem ClB.ge {w1 A : World} {B : Nat} {v : Value} {L : List (By × TV)} (h : ClB w1 A B v L) {q : Nat} (hq : ClT B v q) : B ≤ q ∧ q < A.heap.size := by
  rcases hq with rfl | hq
  · exact ⟨Nat.le_refl _, h.box.lt⟩
  · have := h.row.lt q hq; exact ⟨by omega, this.2⟩
/-- what is written elsewhere leaves it. -/
theorem ClB.only {w1 A X : World} {B : Nat} {v : Value} {L : List (By × TV)} {F : List Nat} (h : ClB w1 A B v L) (ho : Only F A X) (hd : ∀ q, ClT B v q → q ∉ F) (hl : ∀ q ∈ F, w1.heap.size ≤ q) : ClB w1 X B v L :=
  ⟨(ho.block _ h.box.lt (hd _ (.inl rfl))).trans h.box, ownK_same h.row fun q hq => ho.block q (h.row.lt q hq).2 (hd q (.inr hq)), h.bel.trans (ho.below hl h.bel.size)⟩
theorem ClB.below {w1 A X : World} {B B' : Nat} {v : Value} {L : List (By × TV)} (h : ClB w1 A B v L) (hb : Below B' A X) (hB : A.heap.size ≤ B') : ClB w1 X B v L :=
  ⟨h.box.below hb (Nat.lt_of_lt_of_le h.box.lt hB), ownK_below h.row hb hB, h.bel.trans (hb.mono (Nat.le_trans h.bel.size hB))⟩
/-- tree, told list and what is got, apart. -/
structure MwA (w0 W : World) (bs b5 bi b bg : Nat) (stop : Int) (vw : Value) (L : List (By × TV)) (m : No TV) (F : List Nat) (v : Value) (G : List (By × TV)) : Prop where
  mw : MwS w0 W bs b5 bi b stop vw L m F
  cl : ClB w0 W bg v G
  ap : ∀ q, ClT bg v q → q ∉ F
section
variable {w0 W X : World} {bs b5 bi b bg : Nat} {stop : Int} {vw v : Value} {L G : List (By × TV)} {m m' : No TV} {F F' : List Nat}
theorem MwA.only (h : MwA w0 W bs b5 bi b bg stop vw L m F v G) (ht : TM X b m' F') (hn : New W F F') (ho : Only F W X) : MwA w0 X bs b5 bi b bg stop vw L m' F' v G :=
  ⟨h.mw.only ht hn ho, h.cl.only ho h.ap h.mw.low, fun q hq hm => by
    rcases hn q hm with h1 | h1
    · exact h.ap q hq h1
    · have := (h.cl.ge hq).2; omega⟩
/-- one pair more. -/
theorem MwA.more (h : MwA w0 W bs b5 bi b bg stop vw L m F v G) (hk : ∀ k, Kp bs b5 bi vw k → k < bg) (hw : w0.heap.size ≤ bg) (hl : G.length ≤ 1000000) (kv : By × TV) :
    ∃ A2 c2 w2, (Builtin.append_ #[27, 27] 27 #[v, .slice (some ⟨W.heap.size, 0, none⟩) 1 1]).run Try.prog (W.alloc (.cells #[sv kv.1, tz kv.2] 48)) = .ok (.slice A2 (G.length + 1) c2) w2 ∧
      w2.cell? ⟨bg, 0, none⟩ = some v ∧ w2.frozen? ⟨bg, 0, none⟩ = false ∧ MwA w0 (w2.setCell ⟨bg, 0, none⟩ (.slice A2 (G.length + 1) c2)) bs b5 bi b bg stop vw L m F (.slice A2 (G.length + 1) c2) (G ++ [kv]) ∧
      FrS (ClT bg v) W (w2.setCell ⟨bg, 0, none⟩ (.slice A2 (G.length + 1) c2)) ∧ ∀ q, ClT bg (.slice A2 (G.length + 1) c2) q → ClT bg v q ∨ W.heap.size ≤ q := by
  obtain ⟨A2, c2, w2, hr, h1, h2, hB, hfr, hsub⟩ := h.cl.more hw hl kv (T := ClT bg v) (fun q => Iff.rfl)
  refine ⟨A2, c2, w2, hr, h1, h2, ⟨h.mw.same hB.bel fun k hk' => ?_, hB, fun q hq hm => ?_⟩, hfr, hsub⟩
  · rcases hk' with hk' | hk'
    · exact hfr.block k (h.mw.lt k hk') (fun hc => by have := (h.cl.ge hc).1; have := hk k hk'; omega)
    · exact hfr.block k (h.mw.tm.node.lt k hk') (fun hc => h.ap k hc hk')
  · rcases hsub q hq with h3 | h3
    · exact h.ap q h3 hm
    · have := h.mw.tm.node.lt q hm; omega
end
end Go.Proofs.Ytbcchdkicpmngaa.Ti
