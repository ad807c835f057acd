/- Options of both kinds: mayBe, and Options, which gathers. -/
import Derived.Test.YtnpimahgdhpmfaaEdTell
namespace Go.Proofs.Ytnpimahgdhpmfaa
open Go.RowKit Go.Shelf

/-- numbers of 16 bits, as values. -/
def nv (l : List Nat) : List Value := l.map fun n : Nat => .int .u16 (n : Int)
theorem nv_append (a b : List Nat) : nv (a ++ b) = nv a ++ nv b := by simp [nv]
theorem ed_cells_new (w : World) (t : TypeId) (l : List Value) : ∀ j u, l[j]? = some u → (w.alloc (.cells l.toArray t)).cell? ((⟨w.heap.size, 0, none⟩ : Addr).add j) = some u := by
  intro j u h
  rw [addr_add, Nat.zero_add, (Has.fresh w t l.toArray).cell]
  simpa using h
/-- what may be changed: two blocks, and rows from base on. -/
structure Fr (a5 a6 base : Nat) (W W' : World) : Prop where
  os : W'.os = W.os
  tape : W'.tape = W.tape
  output : W'.output = W.output
  size : W.heap.size ≤ W'.heap.size
  block : ∀ k, k < W.heap.size → k < base → k ≠ a5 → k ≠ a6 → W'.heap[k]? = W.heap[k]?
  same : ∀ (k : Nat) (o : Obj), W.heap[k]? = some o → isBook o = true → W'.heap[k]? = some o
section
variable {a5 a6 base : Nat} {A B C : World}
theorem Fr.refl (W : World) : Fr a5 a6 base W W := ⟨rfl, rfl, rfl, Nat.le_refl _, fun _ _ _ _ _ => rfl, fun _ _ h _ => h⟩
theorem Fr.trans (h : Fr a5 a6 base A B) (k : Fr a5 a6 base B C) : Fr a5 a6 base A C :=
  ⟨k.os.trans h.os, k.tape.trans h.tape, k.output.trans h.output, Nat.le_trans h.size k.size, fun i h1 h2 h3 h4 => (k.block i (Nat.lt_of_lt_of_le h1 h.size) h2 h3 h4).trans (h.block i h1 h2 h3 h4), fun i o h1 h2 => k.same i o (h.same i o h1 h2) h2⟩
theorem Fr.grown {row : Option Nat} (hg : A.grownBy B row) (hr : ∀ r, row = some r → (r = a5 ∨ r = a6 ∨ base ≤ r) ∧ ∃ o, A.heap[r]? = some o ∧ isBook o = false) : Fr a5 a6 base A B :=
  ⟨hg.os, hg.tape, hg.output, hg.size, fun k h1 h2 h3 h4 => hg.block k h1 (fun e => by rcases (hr k e.symm).1 with h | h | h <;> omega), (KeepsB.of_grown hg (fun r e => (hr r e).2)).same⟩
theorem Fr.alloc (o : Obj) : Fr a5 a6 base A (A.alloc o) := Fr.grown (row := none) (grown_of_below ((Below.refl _ _).alloc (Nat.le_refl _) _)) (fun r e => by cases e)
end
theorem set_grownB (W : World) (b i : Nat) (u : Value) : W.grownBy (W.setCell ⟨b, i, none⟩ u) (some b) := ⟨rfl, rfl, rfl, by simp, fun j _ hj => heap_setCell_other W ⟨b, i, none⟩ j u (fun e => hj (by rw [e]))⟩
/-- the block of a row. -/
theorem own_blk {w : World} {base k n g : Nat} {e : TypeId} {v : Value} {xs : List Value} (h : w.ownsRow base e k v n xs) (hg : v.ownBlock = some g) : base ≤ g ∧ ∃ cur, w.heap[g]? = some (.cells cur e (0, 0)) := by
  rcases h.2 with ⟨rfl, _⟩ | ⟨g', cap, cur, rfl, hb, hgb, _⟩
  · cases hg
  · have : g' = g := by simpa [Value.ownBlock] using hg
    subst this
    exact ⟨hb, cur, hgb⟩
/-- a row abides what another block suffers. -/
theorem own_past {w w' : World} {base k n : Nat} {e : TypeId} {v : Value} {xs : List Value} {row : Option Nat} (h : w.ownsRow base e k v n xs) (hg : w.grownBy w' row) (hr : ∀ r, row = some r → r < base ∨ ∃ o, w.heap[r]? = some o ∧ ∀ cs, o ≠ .cells cs e (0, 0)) : w'.ownsRow base e k v n xs := by
  refine h.kept hg ?_
  cases hv : v.ownBlock with
  | none => exact .inl rfl
  | some g =>
    refine .inr fun e' => ?_
    obtain ⟨h1, cur, h2⟩ := own_blk h hv
    rcases hr g e'.symm with h3 | ⟨o, h3, h4⟩
    · omega
    · rw [h2] at h3
      cases h3
      exact h4 cur rfl
set_option maxRecDepth 100000 in
theorem mayBe1_any (x : Ed.Op) (w : World) : Calls Try.prog 31 #[opv x] w fun e w' => (∃ v, e = .returned v) ∧ Below w.heap.size w w' := by
  have HB := Lib.hid ((Below.refl w.heap.size w).alloc (Nat.le_refl _) (.cells #[.int .u16 (x.1 : Nat), sv x.2.1] 61))
  go_enter Try.func31, Try.ntmps31
  go_wp2
  go_end0
  exact ⟨⟨_, rfl⟩, HB.out⟩
set_option maxRecDepth 100000 in
theorem mayBe_any (s : ByteArray) (w : World) (hs : s.size ≤ maxLen) : Calls Try.prog 25 #[.string s] w fun e w' => e = .returned (.bool (Ed.may s.data.toList)) ∧ Below w.heap.size w w' := by
  have HT := Lib.hid (tellM_in s w hs (fun _ W => Below w.heap.size w W) (fun i W W' row hq hg hr => hq.grown hg hq.size (fun k e => by rcases hr k e with h | h <;> omega)) (fun _ h => h)
    (fun i W _ hq hz => (mayBe1_any _ W).mono fun e W' ⟨h1, h2⟩ => ⟨h1, hq.trans (h2.mono (by omega)), KeepsB.of_below h2 (Nat.le_refl _), h2.block _ (by omega), h2.block _ (by omega)⟩))
  go_enter Try.func25, Try.ntmps25
  go_wp2_with (go_at_call 26; refine HT.out.mono ?_; rintro e w1 ⟨rfl, B1⟩; have HB1 := Lib.hid B1; clear B1)
  go_ret
  exact ⟨rfl, HB1.out⟩
theorem Try.infoU16 : (Try.prog.info? 22).map (fun i => (i.zero, i.size, i.bytes)) = some (some (.int .u16 0), 1, 2) := by kernel_rfl
theorem info_u16 : ∃ i z, Try.prog.info? 22 = some i ∧ i.zero = some z ∧ i.size = 1 ∧ i.bytes = 2 ∧ z.cells.size = 1 := by
  have h := Try.infoU16
  cases hi : Try.prog.info? 22 with
  | none => rw [hi] at h; cases h
  | some i =>
    rw [hi] at h
    simp only [Option.map_some, Option.some.injEq, Prod.mk.injEq] at h
    exact ⟨i, _, rfl, h.1, h.2.1, h.2.2, rfl⟩
theorem info_str : ∃ i z, Try.prog.info? 9 = some i ∧ i.zero = some z ∧ i.size = 1 ∧ i.bytes = 16 ∧ z.cells.size = 1 := by
  have h := Try.infoString
  cases hi : Try.prog.info? 9 with
  | none => rw [hi] at h; cases h
  | some i =>
    rw [hi] at h
    simp only [Option.map_some, Option.some.injEq, Prod.mk.injEq] at h
    exact ⟨i, _, rfl, h.1, h.2.1, h.2.2, rfl⟩
set_option maxRecDepth 100000 in
set_option maxHeartbeats 1000000 in
theorem opts1_any (a5 a6 base : Nat) (v5 v6 : Value) (ns : List Nat) (ts : List (List UInt8)) (x : Ed.Op) (w : World) (h5 : Has w a5 46 #[v5]) (h6 : Has w a6 47 #[v6])
    (o5 : w.ownsRow base 22 1 v5 ns.length (nv ns)) (o6 : w.ownsRow base 9 1 v6 ts.length (svs ts)) (hb : base ≤ w.heap.size) (l5 : a5 < base) (l6 : a6 < base) (hne : a5 ≠ a6)
    (m5 : ns.length + 1 ≤ 8796093022208) (m6 : ts.length + 1 ≤ 8796093022208) :
    Calls Try.prog 27 #[opv x, .pointer (some ⟨a5, 0, none⟩), .pointer (some ⟨a6, 0, none⟩)] w fun e w' => (∃ v, e = .returned v) ∧ ∃ v5' v6', Has w' a5 46 #[v5'] ∧ Has w' a6 47 #[v6'] ∧
      w'.ownsRow base 22 1 v5' (ns ++ [x.1]).length (nv (ns ++ [x.1])) ∧ w'.ownsRow base 9 1 v6' (ts ++ [x.2.1]).length (svs (ts ++ [x.2.1])) ∧ Fr a5 a6 base w w' := by
  obtain ⟨i5, z5, hi5, hz5, hs5, hb5, hc5⟩ := info_u16
  obtain ⟨i6, z6, hi6, hz6, hs6, hb6, hc6⟩ := info_str
  obtain ⟨n, t, r⟩ := x
  unfold opv
  dsimp only
  have own_lt : ∀ {W : World} {v : Value} {k : Nat} {e : TypeId} {xs : List Value} {g : Nat}, W.ownsRow base e 1 v k xs → v.ownBlock = some g → base ≤ g ∧ g < W.heap.size := fun h hg => by
    obtain ⟨h1, cur, h2⟩ := own_blk h hg
    exact ⟨h1, (Array.getElem?_eq_some_iff.1 h2).1⟩
  obtain ⟨A5, C5, rfl⟩ := own_form o5
  obtain ⟨A6, C6, rfl⟩ := own_form o6
  generalize hv5 : Value.slice A5 ns.length C5 = v5 at o5 h5
  generalize hv6 : Value.slice A6 ts.length C6 = v6 at o6 h6
  have hlt6 : ∀ g, v6.ownBlock = some g → base ≤ g ∧ g < w.heap.size := fun g h => own_lt o6 h
  have HLT6 := Lib.hid hlt6
  clear hlt6
  have q5 : ((w.alloc (.cells #[.int .u16 (n : Nat), sv t] 61)).alloc (.cells #[.int .u16 (n : Nat)] 22)).ownsRow base 22 1 v5 ns.length (nv ns) := (o5.alloc _).alloc _
  have q6 : ((w.alloc (.cells #[.int .u16 (n : Nat), sv t] 61)).alloc (.cells #[.int .u16 (n : Nat)] 22)).ownsRow base 9 1 v6 ts.length (svs ts) := (o6.alloc _).alloc _
  have p5 : Has ((w.alloc (.cells #[.int .u16 (n : Nat), sv t] 61)).alloc (.cells #[.int .u16 (n : Nat)] 22)) a5 46 #[v5] := (h5.alloc _).alloc _
  have p6 : Has ((w.alloc (.cells #[.int .u16 (n : Nat), sv t] 61)).alloc (.cells #[.int .u16 (n : Nat)] 22)) a6 47 #[v6] := (h6.alloc _).alloc _
  have p1 : Has ((w.alloc (.cells #[.int .u16 (n : Nat), sv t] 61)).alloc (.cells #[.int .u16 (n : Nat)] 22)) w.heap.size 61 #[.int .u16 (n : Nat), sv t] := (Has.fresh w _ _).alloc _
  have hcn : ∀ j u, ([.int .u16 (n : Nat)] : List Value)[j]? = some u → ((w.alloc (.cells #[.int .u16 (n : Nat), sv t] 61)).alloc (.cells #[.int .u16 (n : Nat)] 22)).cell? ((⟨w.heap.size + 1, 0, none⟩ : Addr).add j) = some u := by
    have := ed_cells_new (w.alloc (.cells #[.int .u16 (n : Nat), sv t] 61)) 22 [.int .u16 (n : Nat)]
    rw [World.size_alloc] at this
    exact this
  have hb2 : base ≤ ((w.alloc (.cells #[.int .u16 (n : Nat), sv t] 61)).alloc (.cells #[.int .u16 (n : Nat)] 22)).heap.size := by simp; omega
  have hfr : Fr a5 a6 base w ((w.alloc (.cells #[.int .u16 (n : Nat), sv t] 61)).alloc (.cells #[.int .u16 (n : Nat)] 22)) := (Fr.alloc _).trans (Fr.alloc _)
  have hlt : ∀ g, v5.ownBlock = some g → base ≤ g ∧ g < w.heap.size := fun g h => own_lt o5 h
  have c5 : (w.alloc (.cells #[.int .u16 (n : Nat), sv t] 61)).cell? ⟨a5, 0, none⟩ = some v5 := by rw [(h5.alloc _).cell]; rfl
  have Q5 := Lib.hid q5
  have Q6 := Lib.hid q6
  have P5 := Lib.hid p5
  have P6 := Lib.hid p6
  have P1 := Lib.hid p1
  have HC := Lib.hid hcn
  have HB2 := Lib.hid hb2
  have HFR := Lib.hid hfr
  have HLT := Lib.hid hlt
  subst hv5 hv6
  clear q5 q6 p5 p6 p1 hcn hb2 hfr hlt own_lt h5 h6 o5 o6
  go_enter Try.func27, Try.ntmps27
  go_wp2_with (first
    | (at_builtin
       refine wpList_append_own _ rfl (.tmp 4) (.tmp 7) _ rfl base 22 i5 z5 1 2 Try.underlying46 hi5 hz5 hs5 hb5 hc5 (by decide) (.slice A5 ns.length C5) ns.length (nv ns) rfl Q5.out ⟨w.heap.size + 1, 0, none⟩ 1 1 [.int .u16 (n : Nat)] rfl rfl HC.out (by simp [Value.oneCell']) (by unfold maxLen; omega) (by omega) HB2.out ?_
       intro va wA hoA hgA _
       obtain ⟨AA, CA, rfl⟩ := own_form hoA
       have q6 := own_past Q6.out hgA (fun r e => .inr (by obtain ⟨_, cur, h2⟩ := own_blk Q5.out e; exact ⟨_, h2, fun cs h => by injection h with _ h _; cases h⟩))
       have hsA := hgA.size
       have hne5 : ∀ g, g < base ∨ w.heap.size ≤ g → some g ≠ (Value.slice A5 ns.length C5).ownBlock := fun g hg e => by have := HLT.out g e.symm; omega
       have hA5 := P5.out.grown hgA (hne5 a5 (.inl l5))
       have hA6 := P6.out.grown hgA (hne5 a6 (.inl l6))
       have hA1 := P1.out.grown hgA (hne5 w.heap.size (.inr (Nat.le_refl _)))
       have f5 := hA5.free 0
       have c55 : wA.cell? ⟨a5, 0, none⟩ = some (.slice A5 ns.length C5) := (by rw [hA5.cell]; rfl)
       have HAA := Lib.hid hoA
       have HGA := Lib.hid hgA
       have HA5 := Lib.hid (hA5.set 0 (.slice AA (ns.length + 1) CA))
       have HA6 := Lib.hid (hA6.far (p := ⟨a5, 0, none⟩) (fun e => hne e.symm) (.slice AA (ns.length + 1) CA))
       have c6 : (wA.setCell ⟨a5, 0, none⟩ (.slice AA (ns.length + 1) CA)).cell? ⟨a6, 0, none⟩ = some (.slice A6 ts.length C6) := (by rw [HA6.out.cell]; rfl)
       have c1 : (wA.setCell ⟨a5, 0, none⟩ (.slice AA (ns.length + 1) CA)).cell? ⟨w.heap.size, 1, none⟩ = some (sv t) := (by rw [(hA1.far (p := ⟨a5, 0, none⟩) (by show w.heap.size ≠ a5; omega) (.slice AA (ns.length + 1) CA)).cell]; rfl)
       have HR5 := Lib.hid (own_past hoA (set_grownB wA a5 0 (.slice AA (ns.length + 1) CA)) (fun r e => by cases e; exact .inl l5))
       have HR6 := Lib.hid (own_past q6 (set_grownB wA a5 0 (.slice AA (ns.length + 1) CA)) (fun r e => by cases e; exact .inl l5))
       have HFA := Lib.hid ((HFR.out.trans (Fr.grown hgA (fun r e => by obtain ⟨h1, cur, h2⟩ := own_blk Q5.out e; exact ⟨.inr (.inr h1), _, h2, rfl⟩))).trans (Fr.grown (set_grownB wA a5 0 (.slice AA (ns.length + 1) CA)) (fun r e => by cases e; exact ⟨.inl rfl, _, hA5, rfl⟩)))
       have HSA : Hid (w.heap.size + 2 ≤ wA.heap.size) := (by rw [Hid]; simp at hsA; omega)
       have HCC : Hid (∀ j u, ([sv t] : List Value)[j]? = some u → ((wA.setCell ⟨a5, 0, none⟩ (.slice AA (ns.length + 1) CA)).alloc (.cells #[sv t] 9)).cell? ((⟨wA.heap.size, 0, none⟩ : Addr).add j) = some u) := (by
         have := ed_cells_new (wA.setCell ⟨a5, 0, none⟩ (.slice AA (ns.length + 1) CA)) 9 [sv t]
         rw [World.size_setCell] at this
         exact this)
       clear hoA hgA hne5 hA5 hA6 hA1 q6 hsA)
    | (at_builtin
       refine wpList_append_own _ rfl (.tmp 9) (.tmp 12) _ rfl base 9 i6 z6 1 16 Try.underlying47 hi6 hz6 hs6 hb6 hc6 (by decide) (.slice A6 ts.length C6) ts.length (svs ts) rfl (HR6.out.alloc _) ⟨wA.heap.size, 0, none⟩ 1 1 [sv t] rfl rfl HCC.out (by simp [Value.oneCell']) (by unfold maxLen; omega) (by omega) (by have := HSA.out; simp; omega) ?_
       intro vb wB hoB hgB _
       obtain ⟨AB, CB, rfl⟩ := own_form hoB
       have hne6 : ∀ g, g < base → some g ≠ (Value.slice A6 ts.length C6).ownBlock := fun g hg e => by have := HLT6.out g e.symm; omega
       have hB5 := (HA5.out.alloc (.cells #[sv t] 9)).grown hgB (hne6 a5 l5)
       have hB6 := (HA6.out.alloc (.cells #[sv t] 9)).grown hgB (hne6 a6 l6)
       have q5 := own_past (HR5.out.alloc (.cells #[sv t] 9)) hgB (fun r e => .inr (by obtain ⟨_, cur, h2⟩ := own_blk (HR6.out.alloc (.cells #[sv t] 9)) e; exact ⟨_, h2, fun cs h => by injection h with _ h _; cases h⟩))
       have g6 := hB6.free 0
       have d6 : wB.cell? ⟨a6, 0, none⟩ = some (.slice A6 ts.length C6) := (by rw [hB6.cell]; rfl)
       have HB5 := Lib.hid (hB5.far (p := ⟨a6, 0, none⟩) hne (.slice AB (ts.length + 1) CB))
       have HB6 := Lib.hid (hB6.set 0 (.slice AB (ts.length + 1) CB))
       have HS5 := Lib.hid (own_past q5 (set_grownB wB a6 0 (.slice AB (ts.length + 1) CB)) (fun r e => by cases e; exact .inl l6))
       have HS6 := Lib.hid (own_past hoB (set_grownB wB a6 0 (.slice AB (ts.length + 1) CB)) (fun r e => by cases e; exact .inl l6))
       have HFB := Lib.hid (((HFA.out.trans (Fr.alloc (.cells #[sv t] 9))).trans (Fr.grown hgB (fun r e => by obtain ⟨h1, cur, h2⟩ := own_blk (HR6.out.alloc (.cells #[sv t] 9)) e; exact ⟨.inr (.inr h1), _, h2, rfl⟩))).trans (Fr.grown (set_grownB wB a6 0 (.slice AB (ts.length + 1) CB)) (fun r e => by cases e; exact ⟨.inr (.inl rfl), _, hB6, rfl⟩)))
       clear hoB hgB hne6 hB5 hB6 q5))
  go_end0
  refine ⟨⟨_, rfl⟩, _, _, HB5.out, HB6.out, ?_, ?_, HFB.out⟩
  · rw [List.length_append, nv_append]
    exact HS5.out
  · rw [List.length_append, svs_append]
    exact HS6.out
theorem own_drewN {w : World} {b k n : Nat} {e : TypeId} {v : Value} {xs : List Value} (h : w.ownsRow b e k v n xs) (j : Nat) : (w.drewN j).ownsRow b e k v n xs := h
/-- what Options answers. -/
def OptsP (l : List UInt8) (w : World) (e : Ending) (w' : World) : Prop :=
  Below w.heap.size w w' ∧ ((Ed.may l = true ∧ ∃ v5 v6, e = .returned (.tuple #[v5, v6, .bool true]) ∧ w'.ownsRow w.heap.size 22 1 v5 (Ed.nums l).length (nv (Ed.nums l)) ∧ w'.ownsRow w.heap.size 9 1 v6 (Ed.txts l).length (svs (Ed.txts l))) ∨
    (Ed.may l = false ∧ e = .returned (.tuple #[.slice none 0 0, .slice none 0 0, .bool false])))
/-- what is gathered, between two puts. -/
def OptQ (w : World) (l : List UInt8) (i : Nat) (W : World) : Prop :=
  ∃ v5 v6, Has W w.heap.size 46 #[v5] ∧ Has W (w.heap.size + 1) 47 #[v6] ∧ W.ownsRow (w.heap.size + 4) 22 1 v5 ((Ed.nums l).take i).length (nv ((Ed.nums l).take i)) ∧ W.ownsRow (w.heap.size + 4) 9 1 v6 ((Ed.txts l).take i).length (svs ((Ed.txts l).take i)) ∧ Below w.heap.size w W
theorem below_fr {w A B : World} {a5 a6 base : Nat} (h : Below w.heap.size w A) (k : Fr a5 a6 base A B) (h5 : w.heap.size ≤ a5) (h6 : w.heap.size ≤ a6) (hb : w.heap.size ≤ base) : Below w.heap.size w B :=
  ⟨k.os.trans h.os, k.tape.trans h.tape, k.output.trans h.output, Nat.le_trans h.size k.size, fun i hi => (k.block i (Nat.lt_of_lt_of_le hi h.size) (by omega) (by omega) (by omega)).trans (h.block i hi)⟩
theorem OptQ.tell (w : World) (l : List UInt8) : TellQ (w.heap.size + 2) (OptQ w l) := by
  rintro i W W' row ⟨v5, v6, h1, h2, h3, h4, h5⟩ hg hr
  have hp : ∀ r, row = some r → r < w.heap.size + 4 ∨ ∃ o, W.heap[r]? = some o ∧ isBook o = true := fun r e => by
    rcases hr r e with h | ⟨_, h⟩
    · exact .inl (by omega)
    · exact .inr h
  have hc : ∀ {t : TypeId} r, row = some r → r < w.heap.size + 4 ∨ ∃ o, W.heap[r]? = some o ∧ ∀ cs, o ≠ .cells cs t (0, 0) := fun r e => by
    rcases hp r e with h | ⟨o, h, h2⟩
    · exact .inl h
    · exact .inr ⟨o, h, fun cs e2 => by subst e2; cases h2⟩
  refine ⟨v5, v6, h1.grown hg (fun e => ?_), h2.grown hg (fun e => ?_), own_past h3 hg hc, own_past h4 hg hc, h5.grown hg h5.size (fun k e => ?_)⟩
  · rcases hr _ e.symm with h | ⟨h, _⟩ <;> omega
  · rcases hr _ e.symm with h | ⟨h, _⟩ <;> omega
  · rcases hr _ e with h | ⟨h, _⟩ <;> omega
theorem nums_take {l : List UInt8} {i : Nat} (h : i < (Ed.all l).length) : (Ed.nums l).take (i + 1) = (Ed.nums l).take i ++ [((Ed.all l).getD i (0, [], [])).1] := by
  unfold Ed.nums
  rw [List.take_succ_eq_append_getElem (by simpa using h), List.getElem_map, List.getD_eq_getElem?_getD, List.getElem?_eq_getElem h]
  rfl
theorem txts_take {l : List UInt8} {i : Nat} (h : i < (Ed.all l).length) : (Ed.txts l).take (i + 1) = (Ed.txts l).take i ++ [((Ed.all l).getD i (0, [], [])).2.1] := by
  unfold Ed.txts
  rw [List.take_succ_eq_append_getElem (by simpa using h), List.getElem_map, List.getD_eq_getElem?_getD, List.getElem?_eq_getElem h]
  rfl
theorem OptQ.zero {w W : World} {l : List UInt8} (h : Below (w.heap.size + 2) ((w.alloc (.cells #[.slice none 0 0] 46)).alloc (.cells #[.slice none 0 0] 47)) W) : OptQ w l 0 W := by
  have h1 : Has ((w.alloc (.cells #[.slice none 0 0] 46)).alloc (.cells #[.slice none 0 0] 47)) w.heap.size 46 #[.slice none 0 0] := (Has.fresh w _ _).alloc _
  have h2 : Has ((w.alloc (.cells #[.slice none 0 0] 46)).alloc (.cells #[.slice none 0 0] 47)) (w.heap.size + 1) 47 #[.slice none 0 0] := by
    have := Has.fresh (w.alloc (.cells #[.slice none 0 0] 46)) 47 #[.slice none 0 0]
    rw [World.size_alloc] at this
    exact this
  exact ⟨_, _, h1.below h (by omega), h2.below h (by omega), ⟨rfl, .inl ⟨rfl, rfl⟩⟩, ⟨rfl, .inl ⟨rfl, rfl⟩⟩, (((Below.refl _ _).alloc (Nat.le_refl _) _).alloc (by simp) _).trans (h.mono (by omega))⟩
set_option maxRecDepth 100000 in
theorem optTell_any (s : ByteArray) (w : World) (hs : s.size ≤ 8796093022208) :
    Calls Try.prog 26 #[.string s, .func (.func 27) #[] #[.pointer (some ⟨w.heap.size, 0, none⟩), .pointer (some ⟨w.heap.size + 1, 0, none⟩)]] ((w.alloc (.cells #[.slice none 0 0] 46)).alloc (.cells #[.slice none 0 0] 47))
      fun e w' => e = .returned (.bool (Ed.may s.data.toList)) ∧ OptQ w s.data.toList (Ed.all s.data.toList).length w' := by
  have e2 : ((w.alloc (.cells #[.slice none 0 0] 46)).alloc (.cells #[.slice none 0 0] 47)).heap.size = w.heap.size + 2 := by simp
  have hl : s.data.toList.length = s.size := by simp
  have hal := Ed.all_len s.data.toList
  refine tellO_in s _ (by unfold maxLen; omega) w.heap.size (w.heap.size + 1) (OptQ w s.data.toList) (by rw [e2]; exact OptQ.tell w _) (fun W h => by rw [e2] at h; exact OptQ.zero h) (fun i W hi ⟨v5, v6, h1, h2, h3, h4, h5⟩ hz => ?_)
  rw [e2] at hz
  have t1 : ((Ed.nums s.data.toList).take i).length ≤ i := List.length_take_le _ _
  have t2 : ((Ed.txts s.data.toList).take i).length ≤ i := List.length_take_le _ _
  refine (opts1_any w.heap.size (w.heap.size + 1) (w.heap.size + 4) v5 v6 _ _ ((Ed.all s.data.toList).getD i (0, [], [])) W h1 h2 h3 h4 (by omega) (by omega) (by omega) (by omega) (by omega) (by omega)).mono fun e W' ⟨g0, v5', v6', g1, g2, g3, g4, g5⟩ => ?_
  refine ⟨g0, ⟨v5', v6', g1, g2, ?_, ?_, below_fr h5 g5 (Nat.le_refl _) (by omega) (by omega)⟩, ⟨g5.size, g5.same⟩, ?_, ?_⟩
  · rw [nums_take hi]; exact g3
  · rw [txts_take hi]; exact g4
  · rw [e2]; exact g5.block _ (by omega) (by omega) (by omega) (by omega)
  · rw [e2]; exact g5.block _ (by omega) (by omega) (by omega) (by omega)
set_option maxRecDepth 100000 in
set_option maxHeartbeats 1000000 in
theorem opts_any (s : ByteArray) (w : World) (hs : s.size ≤ 8796093022208) : Calls Try.prog 16 #[.string s] w (OptsP s.data.toList w) := by
  have HT := Lib.hid (optTell_any s w hs)
  have hn : (Ed.nums s.data.toList).length = (Ed.all s.data.toList).length := by simp [Ed.nums]
  have hx : (Ed.txts s.data.toList).length = (Ed.all s.data.toList).length := by simp [Ed.txts]
  have HN : Hid ((Ed.nums s.data.toList).take (Ed.all s.data.toList).length = Ed.nums s.data.toList) := by rw [Hid, ← hn]; exact List.take_length
  have HX : Hid ((Ed.txts s.data.toList).take (Ed.all s.data.toList).length = Ed.txts s.data.toList) := by rw [Hid, ← hx]; exact List.take_length
  clear hn hx
  cases hm : Ed.may s.data.toList with
  | true =>
    have HM := Lib.hid hm
    rw [hm] at HT
    clear hm
    go_enter Try.func16, Try.ntmps16
    go_wp2_with (go_at_call 26; refine HT.out.mono ?_; rintro e w1 ⟨rfl, v5, v6, h1, h2, h3, h4, h5⟩; have c5 : w1.cell? ⟨w.heap.size, 0, none⟩ = some v5 := (by rw [h1.cell]; rfl); have c6 : w1.cell? ⟨w.heap.size + 1, 0, none⟩ = some v6 := (by rw [h2.cell]; rfl); rw [HN.out] at h3; rw [HX.out] at h4; have H3 := Lib.hid h3; have H4 := Lib.hid h4; have H5 := Lib.hid h5; clear h1 h2 h3 h4 h5)
    go_quiet (fail)
    go_wp2
    refine bodyPost_ret (results_tmp3 rfl _ _ _) rfl ?_
    exact ⟨below_drewN H5.out _, .inl ⟨HM.out, _, _, rfl, own_drewN (own_mono H3.out (by omega)) _, own_drewN (own_mono H4.out (by omega)) _⟩⟩
  | false =>
    have HM := Lib.hid hm
    rw [hm] at HT
    clear hm
    go_enter Try.func16, Try.ntmps16
    go_wp2_with (go_at_call 26; refine HT.out.mono ?_; rintro e w1 ⟨rfl, v5, v6, h1, h2, h3, h4, h5⟩; have H5 := Lib.hid h5; clear h1 h2 h3 h4 h5)
    refine bodyPost_ret (results_tmp3 rfl _ _ _) rfl ?_
    exact ⟨H5.out, .inr ⟨HM.out, rfl⟩⟩
end Go.Proofs.Ytnpimahgdhpmfaa
