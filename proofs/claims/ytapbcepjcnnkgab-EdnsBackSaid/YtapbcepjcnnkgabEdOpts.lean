/- Options of both kinds: mayBe, and Options, which gathers. -/
import Derived.Test.YtapbcepjcnnkgabEdTell
namespace Go.Proofs.Ytapbcepjcnnkgab
open Go.RowKit Go.Shelf

/-- numbers of 16 bits, as values. -/
def nv (l : List Nat) : List Value := l.map fun n : Nat => .int .u16 (n : Int)
theorem nv_append (a b : List Nat) : nv (a ++ b) = nv a ++ nv b := by simp [nv]
theorem ed_cells_new (w : World) (t : TypeId) (l : List Value) : ∀ j u, l[j]? = some u → (w.alloc (.cells l.toArray t)).cell? ((⟨w.heap.size, 0, none⟩ : Addr).add j) = some u := by
  intro j u h
  rw [addr_add, Nat.zero_add, (Has.fresh w t l.toArray).cell]
  simpa using h
/-- what may be changed: two blocks, and rows from base on. -/
structure Fr (a5 a6 base : Nat) (W W' : World) : Prop where
  os : W'.os = W.os
  tape : W'.tape = W.tape
  output : W'.output = W.output
  size : W.heap.size ≤ W'.heap.size
  block : ∀ k, k < W.heap.size → k < base → k ≠ a5 → k ≠ a6 → W'.heap[k]? = W.heap[k]?
  same : ∀ (k : Nat) (o : Obj), W.heap[k]? = some o → isBook o = true → W'.heap[k]? = some o
section
variable {a5 a6 base : Nat} {A B C : World}
theorem Fr.refl (W : World) : Fr a5 a6 base W W := ⟨rfl, rfl, rfl, Nat.le_refl _, fun _ _ _ _ _ => rfl, fun _ _ h _ => h⟩
theorem Fr.trans (h : Fr a5 a6 base A B) (k : Fr a5 a6 base B C) : Fr a5 a6 base A C :=
  ⟨k.os.trans h.os, k.tape.trans h.tape, k.output.trans h.output, Nat.le_trans h.size k.size, fun i h1 h2 h3 h4 => (k.block i (Nat.lt_of_lt_of_le h1 h.size) h2 h3 h4).trans (h.block i h1 h2 h3 h4), fun i o h1 h2 => k.same i o (h.same i o h1 h2) h2⟩
theorem Fr.grown {row : Option Nat} (hg : A.grownBy B row) (hr : ∀ r, row = some r → (r = a5 ∨ r = a6 ∨ base ≤ r) ∧ ∃ o, A.heap[r]? = some o ∧ isBook o = false) : Fr a5 a6 base A B :=
  ⟨hg.os, hg.tape, hg.output, hg.size, fun k h1 h2 h3 h4 => hg.block k h1 (fun e => by rcases (hr k e.symm).1 with h | h | h <;> omega), (KeepsB.of_grown hg (fun r e => (hr r e).2)).same⟩
theorem Fr.alloc (o : Obj) : Fr a5 a6 base A (A.alloc o) := Fr.grown (row := none) (grown_of_below ((Below.refl _ _).alloc (Nat.le_refl _) _)) (fun r e => by cases e)
end
theorem set_grownB (W : World) (b i : Nat) (u : Value) : W.grownBy (W.setCell ⟨b, i, none⟩ u) (some b) := ⟨rfl, rfl, rfl, by simp, fun j _ hj => heap_setCell_other W ⟨b, i, none⟩ j u (fun e => hj (by rw [e]))⟩
/-- the block of a row. -/
theorem own_blk {w : World} {base k n g : Nat} {e : TypeId} {v : Value} {xs : List Value} (h : w.ownsRow base e k v n xs) (hg : v.ownBlock = some g) : base ≤ g ∧ ∃ cur, w.heap[g]? = some (.cells cur e (0, 0)) := by
  rcases h.2 with ⟨rfl, _⟩ | ⟨g', cap, cur, rfl, hb, hgb, _⟩
  · cases hg
  · have : g' = g := by simpa [Value.ownBlock] using hg
    subst this
    exact ⟨hb, cur, hgb⟩
/-- a row abides what another block suffers. -/
theorem own_past {w w' : World} {base k n : Nat} {e : TypeId} {v : Value} {xs : List Value} {row : Option Nat} (h : w.ownsRow base e k v n xs) (hg : w.grownBy w' row) (hr : ∀ r, row = some r → r < base ∨ ∃ o, w.heap[r]? = some o ∧ ∀ cs, o ≠ .cells cs e (0, 0)) : w'.ownsRow base e k v n xs := by
  refine h.kept hg ?_
  cases hv : v.ownBlock with
  | none => exact .inl rfl
  | some g =>
    refine .inr fun e' => ?_
    obtain ⟨h1, cur, h2⟩ := own_blk h hv
    rcases hr g e'.symm with h3 | ⟨o, h3, h4⟩
    · omega
    · rw [h2] at h3
      cases h3
      exact h4 cur rfl
set_option maxRecDepth 100000 in
theorem mayBe1_any (x : Ed.Op) (w : World) : Calls Try.prog 20 #[opv x] w fun e w' => (∃ v, e = .returned v) ∧ Below w.heap.size w w' := by
  have HB := Lib.hid ((Below.refl w.heap.size w).alloc (Nat.le_refl _) (.cells #[.int .u16 (x.1 : Nat), sv x.2.1] 60))
  go_enter Try.func20, Try.ntmps20
  go_wp2
  go_end0
  exact ⟨⟨_, rfl⟩, HB.out⟩
set_option maxRecDepth 100000 in
theorem mayBe_any (s : ByteArray) (w : World) (hs : s.size ≤ maxLen) : Calls Try.prog 14 #[.string s] w fun e w' => e = .returned (.bool (Ed.may s.data.toList)) ∧ Below w.heap.size w w' := by
  have HT := Lib.hid (tellM_in s w hs (fun _ W => Below w.heap.size w W) (fun i W W' row hq hg hr => hq.grown hg hq.size (fun k e => by rcases hr k e with h | h <;> omega)) (fun _ h => h)
    (fun i W _ hq hz => (mayBe1_any _ W).mono fun e W' ⟨h1, h2⟩ => ⟨h1, hq.trans (h2.mono (by omega)), KeepsB.of_below h2 (Nat.le_refl _), h2.block _ (by omega), h2.block _ (by omega)⟩))
  go_enter Try.func14, Try.ntmps14
  go_wp2_with (go_at_call 19; refine HT.out.mono ?_; rintro e w1 ⟨rfl, B1⟩; have HB1 := Lib.hid B1; clear B1)
  go_ret
  exact ⟨rfl, HB1.out⟩
theorem Try.infoU16 : (Try.prog.info? 22).map (fun i => (i.zero, i.size, i.bytes)) = some (some (.int .u16 0), 1, 2) := by kernel_rfl
theorem info_u16 : ∃ i z, Try.prog.info? 22 = some i ∧ i.zero = some z ∧ i.size = 1 ∧ i.bytes = 2 ∧ z.cells.size = 1 := by
  have h := Try.infoU16
  cases hi : Try.prog.info? 22 with
  | none => rw [hi] at h; cases h
  | some i =>
    rw [hi] at h
    simp only [Option.map_some, Option.some.injEq, Prod.mk.injEq] at h
    exact ⟨i, _, rfl, h.1, h.2.1, h.2.2, rfl⟩
theorem info_str : ∃ i z, Try.prog.info? 9 = some i ∧ i.zero = some z ∧ i.size = 1 ∧ i.bytes = 16 ∧ z.cells.size = 1 := by
  have h := Try.infoString
  cases hi : Try.prog.info? 9 with
  | none => rw [hi] at h; cases h
  | some i =>
    rw [hi] at h
    simp only [Option.map_some, Option.some.injEq, Prod.mk.injEq] at h
    exact ⟨i, _, rfl, h.1, h.2.1, h.2.2, rfl⟩
theorem own_drewN {w : World} {b k n : Nat} {e : TypeId} {v : Value} {xs : List Value} (h : w.ownsRow b e k v n xs) (j : Nat) : (w.drewN j).ownsRow b e k v n xs := h
/-- what Options answers. -/
def OptsP (l : List UInt8) (w : World) (e : Ending) (w' : World) : Prop :=
  Below w.heap.size w w' ∧ ((Ed.may l = true ∧ ∃ v5 v6, e = .returned (.tuple #[v5, v6, .bool true]) ∧ w'.ownsRow w.heap.size 22 1 v5 (Ed.nums l).length (nv (Ed.nums l)) ∧ w'.ownsRow w.heap.size 9 1 v6 (Ed.txts l).length (svs (Ed.txts l))) ∨
    (Ed.may l = false ∧ e = .returned (.tuple #[.slice none 0 0, .slice none 0 0, .bool false])))
theorem below_fr {w A B : World} {a5 a6 base : Nat} (h : Below w.heap.size w A) (k : Fr a5 a6 base A B) (h5 : w.heap.size ≤ a5) (h6 : w.heap.size ≤ a6) (hb : w.heap.size ≤ base) : Below w.heap.size w B :=
  ⟨k.os.trans h.os, k.tape.trans h.tape, k.output.trans h.output, Nat.le_trans h.size k.size, fun i hi => (k.block i (Nat.lt_of_lt_of_le hi h.size) (by omega) (by omega) (by omega)).trans (h.block i hi)⟩
theorem nums_take {l : List UInt8} {i : Nat} (h : i < (Ed.all l).length) : (Ed.nums l).take (i + 1) = (Ed.nums l).take i ++ [((Ed.all l).getD i (0, [], [])).1] := by
  unfold Ed.nums
  rw [List.take_succ_eq_append_getElem (by simpa using h), List.getElem_map, List.getD_eq_getElem?_getD, List.getElem?_eq_getElem h]
  rfl
theorem txts_take {l : List UInt8} {i : Nat} (h : i < (Ed.all l).length) : (Ed.txts l).take (i + 1) = (Ed.txts l).take i ++ [((Ed.all l).getD i (0, [], [])).2.1] := by
  unfold Ed.txts
  rw [List.take_succ_eq_append_getElem (by simpa using h), List.getElem_map, List.getD_eq_getElem?_getD, List.getElem?_eq_getElem h]
  rfl
end Go.Proofs.Ytapbcepjcnnkgab
