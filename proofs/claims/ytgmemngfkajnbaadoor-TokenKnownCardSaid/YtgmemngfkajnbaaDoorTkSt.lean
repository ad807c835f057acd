/- The lexer in memory: its cells, the words and the entries that it gathers, each in a row of its own. -/
import Derived.Test.YtgmemngfkajnbaaDoorTkLex
import Derived.Test.YtgmemngfkajnbaaDoorRowK
namespace Go.Proofs.YtgmemngfkajnbaaDoor
open Go.RowKit

theorem grown_trans {w w' w2 : World} {row : Option Nat} (h : w.grownBy w' row) (h2 : w'.grownBy w2 row) : w.grownBy w2 row :=
  ⟨h2.os.trans h.os, h2.tape.trans h.tape, h2.output.trans h.output, Nat.le_trans h.size h2.size, fun k hk hne => (h2.block k (Nat.lt_of_lt_of_le hk h.size) hne).trans (h.block k hk hne)⟩
theorem grown_drewN (w : World) (n : Nat) (row : Option Nat) : w.grownBy (w.drewN n) row := ⟨rfl, rfl, rfl, Nat.le_refl _, fun _ _ _ => rfl⟩
theorem grown_any {w w' : World} (h : w.grownBy w' none) (row : Option Nat) : w.grownBy w' row := ⟨h.os, h.tape, h.output, h.size, fun k hk _ => h.block k hk (by simp)⟩
theorem grown_below {w w' : World} {B : Nat} {row : Option Nat} (h : w.grownBy w' row) (hB : B ≤ w.heap.size) (hr : ∀ k, row = some k → B ≤ k) : Below B w w' := below_self h hB hr
theorem grown_of {w w' : World} (h : Below w.heap.size w w') (row : Option Nat) : w.grownBy w' row := ⟨h.os, h.tape, h.output, h.size, fun k hk _ => h.block k hk⟩

/-- only block g and what lies from b on has changed. -/
structure Kb (g b : Nat) (w w' : World) : Prop where
  os : w'.os = w.os
  tape : w'.tape = w.tape
  output : w'.output = w.output
  size : w.heap.size ≤ w'.heap.size
  block : ∀ k, k < b → k ≠ g → w'.heap[k]? = w.heap[k]?
section
variable {g b : Nat} {w w' w2 : World}
theorem Kb.refl (g b : Nat) (w : World) : Kb g b w w := ⟨rfl, rfl, rfl, Nat.le_refl _, fun _ _ _ => rfl⟩
theorem Kb.trans (h : Kb g b w w') (h2 : Kb g b w' w2) : Kb g b w w2 :=
  ⟨h2.os.trans h.os, h2.tape.trans h.tape, h2.output.trans h.output, Nat.le_trans h.size h2.size, fun k hk hne => (h2.block k hk hne).trans (h.block k hk hne)⟩
theorem Kb.grown (h : w.grownBy w' (some g)) (hb : b ≤ w.heap.size) : Kb g b w w' :=
  ⟨h.os, h.tape, h.output, h.size, fun k hk hne => h.block k (by omega) (fun e => hne (by injection e))⟩
theorem Kb.of_below (h : Below b w w') : Kb g b w w' := ⟨h.os, h.tape, h.output, h.size, fun k hk _ => h.block k hk⟩
theorem Kb.set (h : Kb g b w w') (i : Nat) (u : Value) : Kb g b w (w'.setCell ⟨g, i, none⟩ u) :=
  ⟨h.os, h.tape, h.output, by simpa using h.size, fun k hk hne => (heap_setCell_other _ ⟨g, i, none⟩ k u hne).trans (h.block k hk hne)⟩
theorem Kb.mono (h : Kb g b w w') {b' : Nat} (hb : b' ≤ b) : Kb g b' w w' := ⟨h.os, h.tape, h.output, h.size, fun k hk hne => h.block k (by omega) hne⟩
theorem Kb.setHi (h : Kb g b w w') {p : Addr} (hp : b ≤ p.block) (u : Value) : Kb g b w (w'.setCell p u) :=
  ⟨h.os, h.tape, h.output, by simpa using h.size, fun k hk hne => (heap_setCell_other _ p k u (by omega)).trans (h.block k hk hne)⟩
theorem Kb.below (h : Kb g b w w') (hg : g ≤ b) : Below g w w' := ⟨h.os, h.tape, h.output, h.size, fun k hk => h.block k (by omega) (by omega)⟩
theorem Kb.below' (h : Kb g b w w') (hg : b ≤ g) : Below b w w' := ⟨h.os, h.tape, h.output, h.size, fun k hk => h.block k hk (by omega)⟩
theorem Kb.has (h : Kb g b w w') {k : Nat} {t : TypeId} {cs : Array Value} (hk : Has w k t cs) (hb : k < b) (hne : k ≠ g) : Has w' k t cs := (h.block k hb hne).trans hk
end
def wc (x : Tk.Wd) : List Value := [.string ⟨x.text.toArray⟩, .bool x.quoted, .int .i64 x.line, .int .i64 x.col]
theorem wc_len (x : Tk.Wd) : (wc x).length = 4 := rfl
/-- an entry as it lies in memory. -/
structure Ex where
  bl : Bool
  el : Nat
  v : Value
  ws : List Tk.Wd
def Ex.en (x : Ex) : Tk.En := ⟨x.bl, x.el, x.ws⟩
def ec (x : Ex) : List Value := [.bool x.bl, .int .i64 x.el, x.v]
theorem ec_len (x : Ex) : (ec x).length = 3 := rfl
/-- the entries' row. -/
structure Ers (w : World) (b : Nat) (v : Value) (out : List Ex) : Prop where
  own : w.ownsRow b 30 3 v out.length (fl ec out)
  dat : ∀ x ∈ out, w.ownsRow b 32 4 x.v x.ws.length (fl wc x.ws)
  off : ∀ x ∈ out, Apart2 x.v v
/-- the entries' row, and the words of the one that is being read. -/
structure Tx (w : World) (b : Nat) (vw ve : Value) (ws : List Tk.Wd) (out : List Ex) : Prop where
  er : Ers w b ve out
  wr : w.ownsRow b 32 4 vw ws.length (fl wc ws)
  off : Apart2 vw ve
  far : ∀ x ∈ out, Apart2 x.v vw
section
variable {w w' : World} {b : Nat} {v v' vw ve : Value} {out : List Ex} {ws : List Tk.Wd}
theorem Ers.nil (w : World) (b : Nat) : Ers w b (.slice none 0 0) [] := ⟨⟨rfl, .inl ⟨rfl, rfl⟩⟩, by simp, by simp⟩
theorem row_kept {k : Nat} {e : TypeId} {n : Nat} {ys : List Value} (h : w.ownsRow b e k v n ys) {g : Nat} (hg : g < b) (hw : w.grownBy w' (some g)) : w'.ownsRow b e k v n ys :=
  h.kept hw (by
    cases e2 : v.ownBlock with
    | none => exact .inl rfl
    | some q => exact .inr fun e3 => by injection e3 with e3; have := (h.lt q e2).1; omega)
/-- a block ahead of the rows is written. -/
theorem Ers.far (h : Ers w b v out) {g : Nat} (hg : g < b) (hw : w.grownBy w' (some g)) : Ers w' b v out :=
  ⟨row_kept h.own hg hw, fun x hx => row_kept (h.dat x hx) hg hw, h.off⟩
theorem Tx.farSet (h : Tx w b vw ve ws out) {g : Nat} (hg : g < b) (hw : w.grownBy w' (some g)) : Tx w' b vw ve ws out :=
  ⟨h.er.far hg hw, row_kept h.wr hg hw, h.off, h.far⟩
theorem Ers.below (h : Ers w b v out) {B : Nat} (hb : Below B w w') (hB : w.heap.size ≤ B) : Ers w' b v out :=
  ⟨ownK_below h.own hb hB, fun x hx => ownK_below (h.dat x hx) hb hB, h.off⟩
theorem Tx.start (h : Ers w b ve out) : Tx w b (.slice none 0 0) ve [] out :=
  ⟨h, ⟨rfl, .inl ⟨rfl, rfl⟩⟩, (fun g e => by cases e), (fun x _ g _ e => by cases e)⟩
theorem apart_ne {a c : Value} (h : Apart2 a c) : a.ownBlock = none ∨ a.ownBlock ≠ c.ownBlock := by
  cases e : a.ownBlock with
  | none => exact .inl rfl
  | some q => exact .inr fun e2 => h q e e2.symm
theorem apart_ne' {a c : Value} (h : Apart2 a c) : c.ownBlock = none ∨ c.ownBlock ≠ a.ownBlock := by
  cases e : c.ownBlock with
  | none => exact .inl rfl
  | some q => exact .inr fun e2 => h q e2.symm e
/-- a word more. -/
theorem Tx.put (h : Tx w b vw ve ws out) {x : Tk.Wd} (ho : w'.ownsRow b 32 4 v' (ws.length + 1) (fl wc (ws ++ [x]))) (g : w.grownBy w' vw.ownBlock) (hv : v'.ownBlock = vw.ownBlock ∨ v'.ownBlock = some w.heap.size) : Tx w' b v' ve (ws ++ [x]) out := by
  refine ⟨⟨h.er.own.kept g (apart_ne' h.off), fun y hy => (h.er.dat y hy).kept g (apart_ne (h.far y hy)), h.er.off⟩, by rw [List.length_append, List.length_singleton]; exact ho, fun q e e2 => ?_, fun y hy q e e2 => ?_⟩
  · rcases hv with hv | hv
    · exact h.off q (hv.symm.trans e) e2
    · rw [hv] at e
      injection e with e
      have := (h.er.own.lt q e2).2
      omega
  · rcases hv with hv | hv
    · exact h.far y hy q e (hv.symm.trans e2)
    · rw [hv] at e2
      injection e2 with e2
      have := ((h.er.dat y hy).lt q e).2
      omega
/-- an entry more. -/
theorem Tx.close (h : Tx w b vw ve ws out) {bl : Bool} {el : Nat} (ho : w'.ownsRow b 30 3 v' (out.length + 1) (fl ec (out ++ [⟨bl, el, vw, ws⟩]))) (g : w.grownBy w' ve.ownBlock) (hv : v'.ownBlock = ve.ownBlock ∨ v'.ownBlock = some w.heap.size) :
    Ers w' b v' (out ++ [⟨bl, el, vw, ws⟩]) := by
  refine ⟨by rw [List.length_append, List.length_singleton]; exact ho, fun y hy => ?_, fun y hy q e e2 => ?_⟩
  · rcases List.mem_append.1 hy with hy | hy
    · exact (h.er.dat y hy).kept g (apart_ne (h.er.off y hy))
    · rw [List.mem_singleton.1 hy]
      exact h.wr.kept g (apart_ne h.off)
  · have hlt : q < w.heap.size := by
      rcases List.mem_append.1 hy with hy | hy
      · exact ((h.er.dat y hy).lt q e).2
      · rw [List.mem_singleton.1 hy] at e
        exact (h.wr.lt q e).2
    rcases hv with hv | hv
    · rcases List.mem_append.1 hy with hy | hy
      · exact h.er.off y hy q e (hv.symm.trans e2)
      · rw [List.mem_singleton.1 hy] at e
        exact h.off q e (hv.symm.trans e2)
    · rw [hv] at e2
      injection e2 with e2
      omega
end

set_option maxRecDepth 100000 in
theorem beginLine_any (s : ByteArray) (at_ line lineAt dep fl_ fc : Nat) (bl : Bool) (el : Nat) (vw ve : Value) (g : Nat) (w : World) (h : Has w g 41 (lxc s at_ line lineAt dep fl_ fc bl el vw ve)) (hl : line ≤ 1048576) :
    Calls Tryd.prog 9 #[.pointer (some ⟨g, 0, none⟩)] w fun e w' => e = .returned (.tuple #[]) ∧ Has w' g 41 (lxc s at_ (line + 1) at_ dep fl_ fc bl el vw ve) ∧ w.grownBy w' (some g) := by
  have H1 : w.cell? ⟨g, 1, none⟩ = some (.int .i64 at_) := h.cell 1
  have H2 : w.cell? ⟨g, 2, none⟩ = some (.int .i64 line) := h.cell 2
  have H3 : w.cell? ⟨g, 3, none⟩ = some (.int .i64 lineAt) := h.cell 3
  have F2 : w.frozen? ⟨g, 2, none⟩ = false := h.free 2
  have F3 : w.frozen? ⟨g, 3, none⟩ = false := h.free 3
  have H := Lib.hid h
  clear h
  go_enter Tryd.func9, Tryd.ntmps9
  go_wp2
  go_end0
  refine ⟨rfl, ?_, ?_⟩
  · have h2 := (H.out.set 2 (.int .i64 ((line : Int) + 1))).set 3 (.int .i64 at_)
    exact h2
  · exact grown_set (grown_set (World.grownBy.refl w _) 2 _) 3 _

set_option maxRecDepth 100000 in
theorem spot_any (s : ByteArray) (at_ line lineAt dep fl_ fc : Nat) (bl : Bool) (el : Nat) (vw ve : Value) (g : Nat) (w : World) (h : Has w g 41 (lxc s at_ line lineAt dep fl_ fc bl el vw ve)) (p : Nat) (hp : p ≤ 1048576) (hl : lineAt ≤ 1048576) :
    Calls Tryd.prog 13 #[.pointer (some ⟨g, 0, none⟩), .int .i64 p] w fun e w' => e = .returned (.agg #[.int .i64 line, .int .i64 (1 + (p : Int) - lineAt)]) ∧ w.grownBy w' none := by
  have h2 := h.alloc (.cells #[.int .i64 0, .int .i64 0] 24)
  have H2 : (w.alloc (.cells #[.int .i64 0, .int .i64 0] 24)).cell? ⟨g, 2, none⟩ = some (.int .i64 line) := h2.cell 2
  have H3 : (w.alloc (.cells #[.int .i64 0, .int .i64 0] 24)).cell? ⟨g, 3, none⟩ = some (.int .i64 lineAt) := h2.cell 3
  clear h2 h
  have hi2 : (Tryd.prog.info? 24).map (·.size) = some 2 := by kernel_rfl
  have HI := Lib.hid hi2
  clear hi2
  go_enter Tryd.func13, Tryd.ntmps13
  go_wp2
  go_region
  all_goals
    go_wp2
    refine bodyPost_ret (results_cell_row rfl _ _ w.heap.size 24 #[.int .i64 line, .int .i64 (1 + (p : Int) - lineAt)] (0, 0) _ rfl (Has.fresh w _ _) Tryd.underlying24 rfl HI.out) rfl ?_
    exact ⟨rfl, grown_trans (World.grownBy_alloc w _ none) (grown_drewN _ 1 none)⟩

/-- a word's byte, and the one behind it, if it is taken along. -/
def tk1 (s : ByteArray) (at_ : Nat) : Nat := if (nb s at_).toNat = 92 ∧ (nb s (at_ + 1)).toNat ≠ 10 then 2 else 1
/-- the same, the world a letter. -/
theorem next_has (s : ByteArray) (at_ line lineAt dep fl_ fc : Nat) (bl : Bool) (el : Nat) (vw ve : Value) (g : Nat) (w : World) (h : Has w g 41 (lxc s at_ line lineAt dep fl_ fc bl el vw ve)) (hat : at_ ≤ s.size) :
    Calls Tryd.prog 11 #[.pointer (some ⟨g, 0, none⟩)] w fun e w' => e = .returned (.int .u8 ((nb s at_).toNat : Int)) ∧ Has w' g 41 (lxc s at_ line lineAt dep fl_ fc bl el vw ve) ∧ w.grownBy w' (some g) :=
  (next_any s at_ line lineAt dep fl_ fc bl el vw ve g w h hat).mono fun _ _ ⟨he, n, hw⟩ => ⟨he, by rw [hw]; exact h, by rw [hw]; exact grown_drewN w n _⟩
set_option maxRecDepth 100000 in
theorem take_any (s : ByteArray) (at_ line lineAt dep fl_ fc : Nat) (bl : Bool) (el : Nat) (vw ve : Value) (g : Nat) (w : World) (h : Has w g 41 (lxc s at_ line lineAt dep fl_ fc bl el vw ve)) (hat : at_ < s.size) (hs : s.size ≤ 1048576) :
    Calls Tryd.prog 17 #[.pointer (some ⟨g, 0, none⟩)] w fun e w' => e = .returned (.tuple #[]) ∧ Has w' g 41 (lxc s (at_ + tk1 s at_) line lineAt dep fl_ fc bl el vw ve) ∧ w.grownBy w' (some g) := by
  have HN := Lib.hid (fun (a : Nat) (ha : a ≤ s.size) (W : World) (hW : Has W g 41 (lxc s a line lineAt dep fl_ fc bl el vw ve)) => next_has s a line lineAt dep fl_ fc bl el vw ve g W hW ha)
  have H := Lib.hid h
  clear h
  have HL := Lib.hid (show at_ ≤ s.size by omega)
  have HL1 := Lib.hid (show at_ + 1 ≤ s.size by omega)
  have hb : at_ ≤ 1048576 := by omega
  clear hat hs
  have HN1 := Lib.hid (HN.out at_ HL.out w H.out)
  have HN2 := Lib.hid (HN.out (at_ + 1) HL1.out)
  clear HN
  have HW1 : Hid (∀ W : World, Has W g 41 (lxc s at_ line lineAt dep fl_ fc bl el vw ve) → Has (W.setCell ⟨g, 1, none⟩ (.int .i64 ((at_ : Int) + 1))) g 41 (lxc s (at_ + 1) line lineAt dep fl_ fc bl el vw ve)) := fun W hW => hW.set 1 _
  have HW2 : Hid (∀ W : World, Has W g 41 (lxc s (at_ + 1) line lineAt dep fl_ fc bl el vw ve) → Has (W.setCell ⟨g, 1, none⟩ (.int .i64 (((at_ + 1 : Nat) : Int) + 1))) g 41 (lxc s (at_ + 2) line lineAt dep fl_ fc bl el vw ve)) := fun W hW => hW.set 1 _
  by_cases h92 : (nb s at_).toNat = 92
  · have HQ : Hid (((nb s at_).toNat : Int) = 92) := by rw [Hid, h92]; rfl
    rw [HQ.out] at HN1
    by_cases h10 : (nb s (at_ + 1)).toNat = 10
    · have hk : tk1 s at_ = 1 := by rw [tk1, if_neg (fun e => e.2 h10)]
      rw [hk]
      clear hk
      have HQ2 : Hid (((nb s (at_ + 1)).toNat : Int) = 10) := by rw [Hid, h10]; rfl
      rw [HQ2.out] at HN2
      clear h92 h10 HQ HQ2 HW2
      go_enter Tryd.func17, Tryd.ntmps17
      go_wp2_with (go_at_call 11; first
        | (refine HN1.out.mono ?_; rintro e w1 ⟨rfl, h1, g1⟩; have c1 : w1.cell? ⟨g, 1, none⟩ = some (.int .i64 at_) := h1.cell 1; have f1 := h1.free 1; have HA := Lib.hid h1; have HG := Lib.hid g1; clear h1 g1 H)
        | (refine (HN2.out _ (HW1.out _ HA.out)).mono ?_; rintro e w2 ⟨rfl, h2, g2⟩; have HA2 := Lib.hid h2; have HG2 := Lib.hid (grown_trans (grown_set HG.out 1 _) g2); clear h2 g2 c1 f1))
      go_end0
      exact ⟨rfl, HA2.out, HG2.out⟩
    · have hk : tk1 s at_ = 2 := by rw [tk1, if_pos ⟨h92, h10⟩]
      rw [hk]
      clear hk
      have hq : (((nb s (at_ + 1)).toNat : Int) != 10) = true := by simp; omega
      generalize ((nb s (at_ + 1)).toNat : Int) = q at *
      clear h92 h10 HQ
      go_enter Tryd.func17, Tryd.ntmps17
      go_wp2_with (go_at_call 11; first
        | (refine HN1.out.mono ?_; rintro e w1 ⟨rfl, h1, g1⟩; have c1 : w1.cell? ⟨g, 1, none⟩ = some (.int .i64 at_) := h1.cell 1; have f1 := h1.free 1; have HA := Lib.hid h1; have HG := Lib.hid g1; clear h1 g1 H)
        | (refine (HN2.out _ (HW1.out _ HA.out)).mono ?_; rintro e w2 ⟨rfl, h2, g2⟩; have c2 : w2.cell? ⟨g, 1, none⟩ = some (.int .i64 ((at_ : Int) + 1)) := h2.cell 1; have f2 := h2.free 1; have HA2 := Lib.hid h2; have HG2 := Lib.hid (grown_trans (grown_set HG.out 1 _) g2); clear h2 g2 c1 f1))
      go_end0
      exact ⟨rfl, HW2.out _ HA2.out, grown_set HG2.out 1 _⟩
  · have hk : tk1 s at_ = 1 := by rw [tk1, if_neg (fun e => h92 e.1)]
    rw [hk]
    clear hk HN2 HW2
    have hq : (((nb s at_).toNat : Int) == 92) = false := beq_eq_false_iff_ne.2 (by omega)
    generalize ((nb s at_).toNat : Int) = q at *
    clear h92
    go_enter Tryd.func17, Tryd.ntmps17
    go_wp2_with (go_at_call 11; refine HN1.out.mono ?_; rintro e w1 ⟨rfl, h1, g1⟩; have c1 : w1.cell? ⟨g, 1, none⟩ = some (.int .i64 at_) := h1.cell 1; have f1 := h1.free 1; have HA := Lib.hid h1; have HG := Lib.hid g1; clear h1 g1 H)
    go_end0
    exact ⟨rfl, HW1.out _ HA.out, grown_set HG.out 1 _⟩
end Go.Proofs.YtgmemngfkajnbaaDoor
