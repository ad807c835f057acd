/- Plain: a name written without a pointer. -/
import Derived.Test.YtfekmolgiohegaaPrTbl
import Derived.Test.YtfekmolgiohegaaTails
import Derived.Test.YtfekmolgiohegaaConcat
namespace Go.Proofs.Ytfekmolgiohegaa
open Go.RowKit Go.Shelf
attribute [local go_sem] Oper.semAt_some

section
variable {P : Program}
/-- bytes of a string: a row of the call's own. -/
theorem run_bytes_new (w : World) (src dst e : TypeId) (s : ByteArray) (hs : P.underlying src = some .string) (hd : P.underlying dst = some (.slice e)) (he : P.underlying e = some (.int .u8)) :
    ∃ cap w', (convert src dst (.string s)).run P w = .ok (.slice (some ⟨w.heap.size, 0, none⟩) s.size cap) w' ∧ Bs w' w.heap.size (w.heap.size + 1) (some ⟨w.heap.size, 0, none⟩) s.data.toList ∧ s.size ≤ cap ∧ Below w.heap.size w w' ∧ w'.heap.size = w.heap.size + 1 := by
  refine ⟨_, _, run_bytes_of_string w src dst e s hs hd he, ?_, grownCap_ge w s.size 0 e, ((Below.refl _ _).drew).alloc (Nat.le_refl _) _, by simp⟩
  intro h0
  refine ⟨w.heap.size, 0, rfl, Nat.le_refl _, by omega, fun j hj => ?_⟩
  have hh := heap_alloc_new w.drew (.cells (bytesRow s (grownCap w s.size 0 e)) e ((bytesRow s (grownCap w s.size 0 e)).size, (bytesRow s (grownCap w s.size 0 e)).size + 1))
  rw [Nat.zero_add, cell_of_row _ w.heap.size j _ e _ hh]
  have hj' : j < s.data.size := by simpa using hj
  unfold bytesRow
  rw [Array.getElem?_append_left (by simpa using hj'), Array.getElem?_map, Array.getElem?_eq_getElem hj']
  rfl
theorem operIn_bytes {F : Fence} {nF : Nat} {w : World} {o : Oper} {a : Act} {K : Act → World → Prop} {Q : Exit → Act → World → Prop} (src dst : TypeId) (x : Operand) (hop : o.op = .convert src dst x)
    (e : TypeId) (hs : P.underlying src = some .string) (hd : P.underlying dst = some (.slice e)) (he : P.underlying e = some (.int .u8)) (s : ByteArray) (hx : a.eval x = .string s)
    (hK : ∀ cap w', Bs w' w.heap.size (w.heap.size + 1) (some ⟨w.heap.size, 0, none⟩) s.data.toList → s.size ≤ cap → Below w.heap.size w w' → w'.heap.size = w.heap.size + 1 → K (a.put o.dst (.slice (some ⟨w.heap.size, 0, none⟩) s.size cap)) w') :
    o.wpIn F nF P a w K Q := by
  obtain ⟨cap, w', hr, h1, h2, h3, h4⟩ := run_bytes_new (P := P) w src dst e s hs hd he
  unfold Oper.wpIn
  refine ⟨by simp [Oper.about, hop], ?_⟩
  rw [Oper.semAt_plain F _ _ (by rw [hop]; intro c hc'; cases hc')]
  simp [execOp, hop, hx, hr, Result.andThen]
  exact hK cap w' h1 h2 h3 h4
theorem wpListIn_bytes {F : Fence} {nF : Nat} {w : World} {ops : Array Oper} {rest : List Oper} {o : Oper} {a : Act} {Q : Exit → Act → World → Prop} (hg : o.guard = none) (src dst : TypeId) (x : Operand) (hop : o.op = .convert src dst x)
    (e : TypeId) (hs : P.underlying src = some .string) (hd : P.underlying dst = some (.slice e)) (he : P.underlying e = some (.int .u8)) (s : ByteArray) (hx : a.eval x = .string s)
    (hK : ∀ cap w', Bs w' w.heap.size (w.heap.size + 1) (some ⟨w.heap.size, 0, none⟩) s.data.toList → s.size ≤ cap → Below w.heap.size w w' → w'.heap.size = w.heap.size + 1 → wpListIn F nF P ops Q rest (a.put o.dst (.slice (some ⟨w.heap.size, 0, none⟩) s.size cap)) w') :
    wpListIn F nF P ops Q (o :: rest) a w :=
  wpListIn_plain hg fun _ hK' => operIn_bytes src dst x hop e hs hd he s hx fun cap w' h1 h2 h3 h4 => hK' _ _ (hK cap w' h1 h2 h3 h4)
end

section
variable {g base : Nat} {w w' : World} {mp : Option Nat} {t : Tab}
theorem Rg.grown_new (h : Rg g base w w') {w2 : World} {row : Option Nat} (hg : w'.grownBy w2 row) (hr : ∀ r, row = some r → w.heap.size ≤ r) (hb : base ≤ w.heap.size) : Rg g base w w2 := by
  refine ⟨h.below.grown hg (by have := h.below.size; omega) (fun k hk => by have := hr k hk; omega), fun k o hk ho hn => ?_⟩
  have h1 := h.same k o hk ho hn
  have hlt := (Array.getElem?_eq_some_iff.1 ho).1
  exact (hg.block k (Array.getElem?_eq_some_iff.1 h1).1 (fun e => by have := hr k e.symm; omega)).trans h1
theorem Rg.more (h : Rg g base w w') {w2 : World} (hb : Below w'.heap.size w' w2) (hbs : base ≤ w.heap.size) : Rg g base w w2 := h.grown_new (grown_of_below hb) (fun r e => by cases e) hbs
theorem Rg.cell (h : Rg g base w w') (hT : Tb w g base mp t) {p : Addr} {v : Value} (hc : w.cell? p = some v) (hv : ∀ m, v ≠ .map m) : w'.cell? p = some v := by
  obtain ⟨o, ho, hcs⟩ := cells_of_cell hc
  have hk : p.block ≠ g := fun e => by
    have h1 := hT.2.1
    rw [← e] at h1
    rw [show w.heap[p.block]? = _ from h1] at ho
    cases ho
    unfold World.cell? at hc
    rw [show w.heap[p.block]? = _ from h1] at hc
    simp at hc
    rcases p with ⟨pb, po, pp⟩
    cases pp with
    | none =>
      simp at hc
      rcases po with _ | po
      · simp at hc; exact hv _ hc.symm
      · simp at hc
    | some q => simp at hc
  have : w'.heap[p.block]? = some o := h.same _ _ hk ho (by cases o <;> simp_all [isMapO, Obj.isCells])
  exact (World.cell?_of_block (this.trans ho.symm)).trans hc
theorem Rg.bs (h : Rg g base w w') (hT : Tb w g base mp t) {lo hi : Nat} {A : Option Addr} {l : List UInt8} (hb : Bs w lo hi A l) : Bs w' lo hi A l := fun h0 => by
  obtain ⟨gb, o, rfl, h1, h2, hc⟩ := hb h0
  exact ⟨gb, o, rfl, h1, h2, fun j hj => h.cell hT (hc j hj) (fun m e => by cases e)⟩
end

theorem plain_nil (A : Option Addr) (n c : Nat) (s : ByteArray) (w : World) :
    Calls Try.prog 11 #[.pointer none, .slice A n c, .string s] w fun e w' => e = .returned (.tuple #[.slice none 0 0, .int .i64 8]) ∧ Below w.heap.size w w' := by
  go_enter Try.func11, Try.ntmps11
  go_wp2_with (go_at_call 21; refine (pcheck_nil _ _).mono ?_; rintro e w' ⟨rfl, rfl⟩)
  go_ret2
  exact ⟨rfl, ((Below.refl _ _).alloc (Nat.le_refl _) _).alloc (by simp) _⟩
theorem plain_no (g : Nat) (A : Option Addr) (n c : Nat) (s : ByteArray) (w : World) (hs : s.size ≤ 140737488355328) (hn : Nm.split s.data.toList = none) :
    Calls Try.prog 11 #[.pointer (some ⟨g, 0, none⟩), .slice A n c, .string s] w fun e w' => e = .returned (.tuple #[.slice none 0 0, .int .i64 11]) ∧ Below w.heap.size w w' := by
  have HC : ∀ W, Hid (Calls Try.prog 21 #[.pointer (some ⟨g, 0, none⟩), .string s] W fun e w' => e = .returned (.int .i64 11) ∧ Below W.heap.size W w') := fun W => by
    have := pcheck_any g s W hs
    rw [hn] at this
    exact this
  clear hn
  go_enter Try.func11, Try.ntmps11
  go_wp2_with (go_at_call 21; refine (HC _).out.mono ?_; rintro e w1 ⟨rfl, hb1⟩)
  go_ret2
  exact ⟨rfl, (((Below.refl _ _).alloc (Nat.le_refl _) _).alloc (by simp) _).trans (hb1.mono (by simp; omega))⟩
end Go.Proofs.Ytfekmolgiohegaa
