/- Put: a name written by a pointer where it can be. -/
import Derived.Test.YtfekmolgiohegaaPlainIn
import Derived.Test.YtfekmolgiohegaaHeldIn
import Derived.Test.YtfekmolgiohegaaOct
import Derived.Laws.Bits64b
namespace Go.Proofs.Ytfekmolgiohegaa
open Go.RowKit Go.Shelf
attribute [local go_sem] Oper.semAt_some

theorem or16 (p : Nat) (hp : p ≤ 16383) : bits .or .u16 49152 (p : Int) = ((49152 + p : Nat) : Int) := by
  have ofn : ∀ n : Nat, BitVec.ofInt 16 (n : Int) = BitVec.ofNat 16 n := fun n => by
    apply BitVec.eq_of_toNat_eq
    simp
  unfold bits
  show IntKind.u16.wrap (((BitVec.ofInt 16 ((49152 : Nat) : Int)) ||| (BitVec.ofInt 16 (p : Int))).toNat : Int) = _
  rw [ofn, ofn, BitVec.toNat_or, BitVec.toNat_ofNat, BitVec.toNat_ofNat, Nat.mod_eq_of_lt (by omega), Nat.mod_eq_of_lt (by omega)]
  have h := Nat.shiftLeft_add_eq_or_of_lt (i := 14) (b := p) (by omega) 3
  rw [Nat.shiftLeft_eq] at h
  have h2 : 49152 ||| p = 49152 + p := h.symm
  rw [h2, IntKind.wrap_u16]
  omega

theorem put_results {w : World} {tmps : Array Value} {b3 b4 : Nat} {A : Option Addr} {n c : Nat} {e : Int} (h6 : tmps[6]? = some (.pointer (some ⟨b3, 0, none⟩))) (h7 : tmps[7]? = some (.pointer (some ⟨b4, 0, none⟩)))
    (c6 : w.cell? ⟨b3, 0, none⟩ = some (.slice A n c)) (c7 : w.cell? ⟨b4, 0, none⟩ = some (.int .i64 e)) : (results Try.f13 tmps).run Try.prog w = .ok (.tuple #[.slice A n c, .int .i64 e]) w := by
  simp [results, Try.results13, go_sem, h6, h7, c6, c7]

/-- the world behind the boxes. -/
abbrev PutW (w : World) (p : Option Addr) (A : Option Addr) (n c : Nat) (s : ByteArray) (e : Int) : World :=
  (((((w.alloc (.cells #[.pointer p] 24)).alloc (.cells #[.slice A n c] 31)).alloc (.cells #[.string s] 32)).alloc (.cells #[.slice none 0 0] 31)).alloc (.cells #[.int .i64 e] 35))
theorem putW_below (w : World) (p : Option Addr) (A : Option Addr) (n c : Nat) (s : ByteArray) (e : Int) : Below w.heap.size w (PutW w p A n c s e) :=
  (((((Below.refl _ _).alloc (Nat.le_refl _) _).alloc (by simp) _).alloc (by simp; omega) _).alloc (by simp; omega) _).alloc (by simp; omega) _
theorem putW_size (w : World) (p : Option Addr) (A : Option Addr) (n c : Nat) (s : ByteArray) (e : Int) : (PutW w p A n c s e).heap.size = w.heap.size + 5 := by simp
/-- Put's own variables, in their boxes. -/
structure Boxes (W : World) (b : Nat) (p A : Option Addr) (n c : Nat) (s : ByteArray) (v : Value) (e : Int) : Prop where
  b0 : Has W b 24 #[.pointer p]
  b1 : Has W (b + 1) 31 #[.slice A n c]
  b2 : Has W (b + 1 + 1) 32 #[.string s]
  b3 : Has W (b + 1 + 1 + 1) 31 #[v]
  b4 : Has W (b + 1 + 1 + 1 + 1) 35 #[.int .i64 e]
theorem has_at {W : World} {b b' : Nat} {t : TypeId} {cs : Array Value} (h : Has W b t cs) (e : b = b') : Has W b' t cs := e ▸ h
section
variable {W W' : World} {b : Nat} {p A : Option Addr} {n c : Nat} {s : ByteArray} {v : Value} {e : Int}
theorem Boxes.new (w : World) : Boxes (PutW w p A n c s e) w.heap.size p A n c s (.slice none 0 0) e :=
  ⟨((((Has.fresh w _ _).alloc _).alloc _).alloc _).alloc _, (((has_at (Has.fresh _ _ _) (by simp)).alloc _).alloc _).alloc _, ((has_at (Has.fresh _ _ _) (by simp)).alloc _).alloc _, (has_at (Has.fresh _ _ _) (by simp)).alloc _, has_at (Has.fresh _ _ _) (by simp)⟩
theorem Boxes.below (h : Boxes W b p A n c s v e) {B : Nat} (hb : Below B W W') (hB : b + 5 ≤ B) : Boxes W' b p A n c s v e :=
  ⟨h.b0.below hb (by omega), h.b1.below hb (by omega), h.b2.below hb (by omega), h.b3.below hb (by omega), h.b4.below hb (by omega)⟩
theorem Boxes.alloc (h : Boxes W b p A n c s v e) (o : Obj) : Boxes (W.alloc o) b p A n c s v e := ⟨h.b0.alloc _, h.b1.alloc _, h.b2.alloc _, h.b3.alloc _, h.b4.alloc _⟩
theorem Boxes.rg (h : Boxes W b p A n c s v e) {g base : Nat} (hr : Rg g base W W') (hg : g < b) : Boxes W' b p A n c s v e :=
  ⟨hr.has h.b0 (by omega), hr.has h.b1 (by omega), hr.has h.b2 (by omega), hr.has h.b3 (by omega), hr.has h.b4 (by omega)⟩
theorem Boxes.grown (h : Boxes W b p A n c s v e) {row : Option Nat} (hg : W.grownBy W' row) (hr : ∀ r, row = some r → b + 5 ≤ r) : Boxes W' b p A n c s v e :=
  ⟨h.b0.grown hg (fun e => by have := hr _ e.symm; omega), h.b1.grown hg (fun e => by have := hr _ e.symm; omega), h.b2.grown hg (fun e => by have := hr _ e.symm; omega), h.b3.grown hg (fun e => by have := hr _ e.symm; omega), h.b4.grown hg (fun e => by have := hr _ e.symm; omega)⟩
theorem Boxes.set (h : Boxes W b p A n c s v e) (v' : Value) (e' : Int) : Boxes ((W.setCell ⟨b + 1 + 1 + 1, 0, none⟩ v').setCell ⟨b + 1 + 1 + 1 + 1, 0, none⟩ (.int .i64 e')) b p A n c s v' e' :=
  ⟨(h.b0.far (by simp <;> omega) _).far (by simp <;> omega) _, (h.b1.far (by simp <;> omega) _).far (by simp <;> omega) _, (h.b2.far (by simp <;> omega) _).far (by simp <;> omega) _, (h.b3.set 0 v').far (by simp) _, (h.b4.far (by simp) _).set 0 _⟩
theorem Boxes.facts (h : Boxes W b p A n c s v e) : W.cell? ⟨b, 0, none⟩ = some (.pointer p) ∧ W.cell? ⟨b + 1, 0, none⟩ = some (.slice A n c) ∧ W.cell? ⟨b + 1 + 1, 0, none⟩ = some (.string s) ∧ W.cell? ⟨b + 1 + 1 + 1, 0, none⟩ = some v ∧ W.cell? ⟨b + 1 + 1 + 1 + 1, 0, none⟩ = some (.int .i64 e) ∧
    W.frozen? ⟨b + 1 + 1 + 1, 0, none⟩ = false ∧ W.frozen? ⟨b + 1 + 1 + 1 + 1, 0, none⟩ = false ∧ ∀ v', (W.setCell ⟨b + 1 + 1 + 1, 0, none⟩ v').cell? ⟨b + 1 + 1 + 1 + 1, 0, none⟩ = some (.int .i64 e) :=
  ⟨by rw [h.b0.cell]; rfl, by rw [h.b1.cell]; rfl, by rw [h.b2.cell]; rfl, by rw [h.b3.cell]; rfl, by rw [h.b4.cell]; rfl, h.b3.free 0, h.b4.free 0, fun v' => by rw [(h.b4.far (p := ⟨b + 1 + 1 + 1, 0, none⟩) (by simp) v').cell]; rfl⟩
end
theorem put_nil (A : Option Addr) (n c : Nat) (s : ByteArray) (w : World) :
    Calls Try.prog 13 #[.pointer none, .slice A n c, .string s] w fun e w' => e = .returned (.tuple #[.slice none 0 0, .int .i64 8]) ∧ Below w.heap.size w w' := by
  have H := Lib.hid (pcheck_nil s (PutW w none A n c s 0))
  go_enter Try.func13, Try.ntmps13
  go_wp2_with (go_at_call 21; refine H.out.mono ?_; rintro e w' ⟨rfl, rfl⟩)
  refine bodyPost_ret (put_results (b3 := w.heap.size + 1 + 1 + 1) (b4 := w.heap.size + 1 + 1 + 1 + 1) rfl rfl (Boxes.new (p := none) (A := A) (n := n) (c := c) (s := s) (e := 8) w).facts.2.2.2.1 (Boxes.new (p := none) (A := A) (n := n) (c := c) (s := s) (e := 8) w).facts.2.2.2.2.1) rfl ⟨rfl, putW_below w none A n c s 8⟩
theorem put_no (g : Nat) (A : Option Addr) (n c : Nat) (s : ByteArray) (w : World) (hs : s.size ≤ 140737488355328) (hn : Nm.split s.data.toList = none) :
    Calls Try.prog 13 #[.pointer (some ⟨g, 0, none⟩), .slice A n c, .string s] w fun e w' => e = .returned (.tuple #[.slice none 0 0, .int .i64 11]) ∧ Below w.heap.size w w' := by
  have HC : Hid (Calls Try.prog 21 #[.pointer (some ⟨g, 0, none⟩), .string s] (PutW w (some ⟨g, 0, none⟩) A n c s 0) fun e w' => e = .returned (.int .i64 11) ∧ Below (w.heap.size + 5) (PutW w (some ⟨g, 0, none⟩) A n c s 0) w') := by
    have := pcheck_any g s (PutW w (some ⟨g, 0, none⟩) A n c s 0) hs
    rw [hn, putW_size] at this
    exact this
  clear hn
  go_enter Try.func13, Try.ntmps13
  go_wp2_with (go_at_call 21; refine HC.out.mono ?_; rintro e w1 ⟨rfl, hb1⟩; have hbx := Boxes.below (Boxes.new (p := some ⟨g, 0, none⟩) (A := A) (n := n) (c := c) (s := s) (e := 0) w) hb1 (Nat.le_refl _); obtain ⟨k0, k1, k2, k3, k4, z3, z4, k5⟩ := hbx.facts)
  refine bodyPost_ret (put_results (b3 := w.heap.size + 1 + 1 + 1) (b4 := w.heap.size + 1 + 1 + 1 + 1) rfl rfl (hbx.set _ _).facts.2.2.2.1 (hbx.set _ _).facts.2.2.2.2.1) rfl ⟨rfl, ?_⟩
  exact (((putW_below w (some ⟨g, 0, none⟩) A n c s 0).trans (hb1.mono (by omega))).setCell (by simp; omega) _).setCell (by simp; omega) _
end Go.Proofs.Ytfekmolgiohegaa
