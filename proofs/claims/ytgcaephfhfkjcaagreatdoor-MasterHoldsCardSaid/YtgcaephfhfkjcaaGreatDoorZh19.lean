/- Texts of the proofs, merged. -/
import Derived.Test.YtgcaephfhfkjcaaGreatDoorZh18
import Derived.Test.YtgcaephfhfkjcaaGreatDoorZh6
import Derived.Test.YtgcaephfhfkjcaaGreatDoorZh5
import Derived.Test.YtgcaephfhfkjcaaGreatDoorZh2
import Derived.Test.YtgcaephfhfkjcaaGreatDoorZh13
import Derived.Test.YtgcaephfhfkjcaaGreatDoorZh9
import Derived.Test.YtgcaephfhfkjcaaGreatDoorZh14
import Derived.Test.YtgcaephfhfkjcaaGreatDoorZh8
namespace Go.Proofs.YtgcaephfhfkjcaaGreatDoor
open Go.RowKit

theorem grown_trans {w w' w2 : World} {row : Option Nat} (h : w.grownBy w' row) (h2 : w'.grownBy w2 row) : w.grownBy w2 row :=
  ⟨h2.os.trans h.os, h2.tape.trans h.tape, h2.output.trans h.output, Nat.le_trans h.size h2.size, fun k hk hne => (h2.block k (Nat.lt_of_lt_of_le hk h.size) hne).trans (h.block k hk hne)⟩
theorem grown_drewN (w : World) (n : Nat) (row : Option Nat) : w.grownBy (w.drewN n) row := ⟨rfl, rfl, rfl, Nat.le_refl _, fun _ _ _ => rfl⟩
theorem grown_any {w w' : World} (h : w.grownBy w' none) (row : Option Nat) : w.grownBy w' row := ⟨h.os, h.tape, h.output, h.size, fun k hk _ => h.block k hk (by simp)⟩
/-- only block g and what lies from b on has changed. -/
structure Kb (g b : Nat) (w w' : World) : Prop where
  os : w'.os = w.os
  tape : w'.tape = w.tape
  output : w'.output = w.output
  size : w.heap.size ≤ w'.heap.size
  block : ∀ k, k < b → k ≠ g → w'.heap[k]? = w.heap[k]?
section
variable {g b : Nat} {w w' w2 : World}
theorem Kb.refl (g b : Nat) (w : World) : Kb g b w w := ⟨rfl, rfl, rfl, Nat.le_refl _, fun _ _ _ => rfl⟩
theorem Kb.trans (h : Kb g b w w') (h2 : Kb g b w' w2) : Kb g b w w2 :=
  ⟨h2.os.trans h.os, h2.tape.trans h.tape, h2.output.trans h.output, Nat.le_trans h.size h2.size, fun k hk hne => (h2.block k hk hne).trans (h.block k hk hne)⟩
theorem Kb.grown (h : w.grownBy w' (some g)) (hb : b ≤ w.heap.size) : Kb g b w w' :=
  ⟨h.os, h.tape, h.output, h.size, fun k hk hne => h.block k (by omega) (fun e => hne (by injection e))⟩
theorem Kb.of_below (h : Below b w w') : Kb g b w w' := ⟨h.os, h.tape, h.output, h.size, fun k hk _ => h.block k hk⟩
theorem Kb.set (h : Kb g b w w') (i : Nat) (u : Value) : Kb g b w (w'.setCell ⟨g, i, none⟩ u) :=
  ⟨h.os, h.tape, h.output, by simpa using h.size, fun k hk hne => (heap_setCell_other _ ⟨g, i, none⟩ k u hne).trans (h.block k hk hne)⟩
theorem Kb.mono (h : Kb g b w w') {b' : Nat} (hb : b' ≤ b) : Kb g b' w w' := ⟨h.os, h.tape, h.output, h.size, fun k hk hne => h.block k (by omega) hne⟩
theorem Kb.setHi (h : Kb g b w w') {p : Addr} (hp : b ≤ p.block) (u : Value) : Kb g b w (w'.setCell p u) :=
  ⟨h.os, h.tape, h.output, by simpa using h.size, fun k hk hne => (heap_setCell_other _ p k u (by omega)).trans (h.block k hk hne)⟩
theorem Kb.below (h : Kb g b w w') (hg : g ≤ b) : Below g w w' := ⟨h.os, h.tape, h.output, h.size, fun k hk => h.block k (by omega) (by omega)⟩
theorem Kb.below' (h : Kb g b w w') (hg : b ≤ g) : Below b w w' := ⟨h.os, h.tape, h.output, h.size, fun k hk => h.block k hk (by omega)⟩
theorem Kb.has (h : Kb g b w w') {k : Nat} {t : TypeId} {cs : Array Value} (hk : Has w k t cs) (hb : k < b) (hne : k ≠ g) : Has w' k t cs := (h.block k hb hne).trans hk
end
def wc (x : Tk.Wd) : List Value := [.string ⟨x.text.toArray⟩, .bool x.quoted, .int .i64 x.line, .int .i64 x.col]
theorem wc_len (x : Tk.Wd) : (wc x).length = 4 := rfl
/-- an entry as it lies in memory. -/
structure Ex where
  bl : Bool
  el : Nat
  v : Value
  ws : List Tk.Wd
def Ex.en (x : Ex) : Tk.En := ⟨x.bl, x.el, x.ws⟩
def ec (x : Ex) : List Value := [.bool x.bl, .int .i64 x.el, x.v]
theorem ec_len (x : Ex) : (ec x).length = 3 := rfl
/-- the entries' row. -/
structure Ers (w : World) (b : Nat) (v : Value) (out : List Ex) : Prop where
  own : w.ownsRow b 84 3 v out.length (fl ec out)
  dat : ∀ x ∈ out, w.ownsRow b 79 4 x.v x.ws.length (fl wc x.ws)
  off : ∀ x ∈ out, Apart2 x.v v
/-- the entries' row, and the words of the one that is being read. -/
structure Tx (w : World) (b : Nat) (vw ve : Value) (ws : List Tk.Wd) (out : List Ex) : Prop where
  er : Ers w b ve out
  wr : w.ownsRow b 79 4 vw ws.length (fl wc ws)
  off : Apart2 vw ve
  far : ∀ x ∈ out, Apart2 x.v vw
section
variable {w w' : World} {b : Nat} {v v' vw ve : Value} {out : List Ex} {ws : List Tk.Wd}
theorem Ers.nil (w : World) (b : Nat) : Ers w b (.slice none 0 0) [] := ⟨⟨rfl, .inl ⟨rfl, rfl⟩⟩, by simp, by simp⟩
theorem row_kept {k : Nat} {e : TypeId} {n : Nat} {ys : List Value} (h : w.ownsRow b e k v n ys) {g : Nat} (hg : g < b) (hw : w.grownBy w' (some g)) : w'.ownsRow b e k v n ys :=
  h.kept hw (by
    cases e2 : v.ownBlock with
    | none => exact .inl rfl
    | some q => exact .inr fun e3 => by injection e3 with e3; have := (h.lt q e2).1; omega)
/-- a block ahead of the rows is written. -/
theorem Ers.far (h : Ers w b v out) {g : Nat} (hg : g < b) (hw : w.grownBy w' (some g)) : Ers w' b v out :=
  ⟨row_kept h.own hg hw, fun x hx => row_kept (h.dat x hx) hg hw, h.off⟩
theorem Tx.farSet (h : Tx w b vw ve ws out) {g : Nat} (hg : g < b) (hw : w.grownBy w' (some g)) : Tx w' b vw ve ws out :=
  ⟨h.er.far hg hw, row_kept h.wr hg hw, h.off, h.far⟩
theorem Ers.below (h : Ers w b v out) {B : Nat} (hb : Below B w w') (hB : w.heap.size ≤ B) : Ers w' b v out :=
  ⟨ownK_below h.own hb hB, fun x hx => ownK_below (h.dat x hx) hb hB, h.off⟩
theorem Tx.start (h : Ers w b ve out) : Tx w b (.slice none 0 0) ve [] out :=
  ⟨h, ⟨rfl, .inl ⟨rfl, rfl⟩⟩, (fun g e => by cases e), (fun x _ g _ e => by cases e)⟩
theorem apart_ne {a c : Value} (h : Apart2 a c) : a.ownBlock = none ∨ a.ownBlock ≠ c.ownBlock := by
  cases e : a.ownBlock with
  | none => exact .inl rfl
  | some q => exact .inr fun e2 => h q e e2.symm
theorem apart_ne' {a c : Value} (h : Apart2 a c) : c.ownBlock = none ∨ c.ownBlock ≠ a.ownBlock := by
  cases e : c.ownBlock with
  | none => exact .inl rfl
  | some q => exact .inr fun e2 => h q e2.symm e
/-- a word more. -/
theorem Tx.put (h : Tx w b vw ve ws out) {x : Tk.Wd} (ho : w'.ownsRow b 79 4 v' (ws.length + 1) (fl wc (ws ++ [x]))) (g : w.grownBy w' vw.ownBlock) (hv : v'.ownBlock = vw.ownBlock ∨ v'.ownBlock = some w.heap.size) : Tx w' b v' ve (ws ++ [x]) out := by
  refine ⟨⟨h.er.own.kept g (apart_ne' h.off), fun y hy => (h.er.dat y hy).kept g (apart_ne (h.far y hy)), h.er.off⟩, by rw [List.length_append, List.length_singleton]; exact ho, fun q e e2 => ?_, fun y hy q e e2 => ?_⟩
  · rcases hv with hv | hv
    · exact h.off q (hv.symm.trans e) e2
    · rw [hv] at e
      injection e with e
      have := (h.er.own.lt q e2).2
      omega
  · rcases hv with hv | hv
    · exact h.far y hy q e (hv.symm.trans e2)
    · rw [hv] at e2
      injection e2 with e2
      have := ((h.er.dat y hy).lt q e).2
      omega
/-- an entry more. -/
theorem Tx.close (h : Tx w b vw ve ws out) {bl : Bool} {el : Nat} (ho : w'.ownsRow b 84 3 v' (out.length + 1) (fl ec (out ++ [⟨bl, el, vw, ws⟩]))) (g : w.grownBy w' ve.ownBlock) (hv : v'.ownBlock = ve.ownBlock ∨ v'.ownBlock = some w.heap.size) :
    Ers w' b v' (out ++ [⟨bl, el, vw, ws⟩]) := by
  refine ⟨by rw [List.length_append, List.length_singleton]; exact ho, fun y hy => ?_, fun y hy q e e2 => ?_⟩
  · rcases List.mem_append.1 hy with hy | hy
    · exact (h.er.dat y hy).kept g (apart_ne (h.er.off y hy))
    · rw [List.mem_singleton.1 hy]
      exact h.wr.kept g (apart_ne h.off)
  · have hlt : q < w.heap.size := by
      rcases List.mem_append.1 hy with hy | hy
      · exact ((h.er.dat y hy).lt q e).2
      · rw [List.mem_singleton.1 hy] at e
        exact (h.wr.lt q e).2
    rcases hv with hv | hv
    · rcases List.mem_append.1 hy with hy | hy
      · exact h.er.off y hy q e (hv.symm.trans e2)
      · rw [List.mem_singleton.1 hy] at e
        exact h.off q e (hv.symm.trans e2)
    · rw [hv] at e2
      injection e2 with e2
      omega
end

set_option maxRecDepth 100000 in
theorem beginLine_any (s : ByteArray) (at_ line lineAt dep fl_ fc : Nat) (bl : Bool) (el : Nat) (vw ve : Value) (g : Nat) (w : World) (h : Has w g 103 (lxc s at_ line lineAt dep fl_ fc bl el vw ve)) (hl : line ≤ 1048576) :
    Calls Tryz.prog 80 #[.pointer (some ⟨g, 0, none⟩)] w fun e w' => e = .returned (.tuple #[]) ∧ Has w' g 103 (lxc s at_ (line + 1) at_ dep fl_ fc bl el vw ve) ∧ w.grownBy w' (some g) := by
  have H1 : w.cell? ⟨g, 1, none⟩ = some (.int .i64 at_) := h.cell 1
  have H2 : w.cell? ⟨g, 2, none⟩ = some (.int .i64 line) := h.cell 2
  have H3 : w.cell? ⟨g, 3, none⟩ = some (.int .i64 lineAt) := h.cell 3
  have F2 : w.frozen? ⟨g, 2, none⟩ = false := h.free 2
  have F3 : w.frozen? ⟨g, 3, none⟩ = false := h.free 3
  have H := Lib.hid h
  clear h
  go_enter Tryz.func80, Tryz.ntmps80
  go_wp2
  go_end0
  refine ⟨rfl, ?_, ?_⟩
  · have h2 := (H.out.set 2 (.int .i64 ((line : Int) + 1))).set 3 (.int .i64 at_)
    exact h2
  · exact grown_set (grown_set (World.grownBy.refl w _) 2 _) 3 _

set_option maxRecDepth 100000 in
theorem spot_any (s : ByteArray) (at_ line lineAt dep fl_ fc : Nat) (bl : Bool) (el : Nat) (vw ve : Value) (g : Nat) (w : World) (h : Has w g 103 (lxc s at_ line lineAt dep fl_ fc bl el vw ve)) (p : Nat) (hp : p ≤ 1048576) (hl : lineAt ≤ 1048576) :
    Calls Tryz.prog 84 #[.pointer (some ⟨g, 0, none⟩), .int .i64 p] w fun e w' => e = .returned (.agg #[.int .i64 line, .int .i64 (1 + (p : Int) - lineAt)]) ∧ w.grownBy w' none := by
  have h2 := h.alloc (.cells #[.int .i64 0, .int .i64 0] 40)
  have H2 : (w.alloc (.cells #[.int .i64 0, .int .i64 0] 40)).cell? ⟨g, 2, none⟩ = some (.int .i64 line) := h2.cell 2
  have H3 : (w.alloc (.cells #[.int .i64 0, .int .i64 0] 40)).cell? ⟨g, 3, none⟩ = some (.int .i64 lineAt) := h2.cell 3
  clear h2 h
  have hi2 : (Tryz.prog.info? 40).map (·.size) = some 2 := by kernel_rfl
  have HI := Lib.hid hi2
  clear hi2
  go_enter Tryz.func84, Tryz.ntmps84
  go_wp2
  go_region
  all_goals
    go_wp2
    refine bodyPost_ret (results_cell_row rfl _ _ w.heap.size 40 #[.int .i64 line, .int .i64 (1 + (p : Int) - lineAt)] (0, 0) _ rfl (Has.fresh w _ _) Tryz.underlying40 rfl HI.out) rfl ?_
    exact ⟨rfl, grown_trans (World.grownBy_alloc w _ none) (grown_drewN _ 1 none)⟩

/-- a word's byte, and the one behind it, if it is taken along. -/
def tk1 (s : ByteArray) (at_ : Nat) : Nat := if (nb s at_).toNat = 92 ∧ (nb s (at_ + 1)).toNat ≠ 10 then 2 else 1
/-- the same, the world a letter. -/
theorem next_has (s : ByteArray) (at_ line lineAt dep fl_ fc : Nat) (bl : Bool) (el : Nat) (vw ve : Value) (g : Nat) (w : World) (h : Has w g 103 (lxc s at_ line lineAt dep fl_ fc bl el vw ve)) (hat : at_ ≤ s.size) :
    Calls Tryz.prog 82 #[.pointer (some ⟨g, 0, none⟩)] w fun e w' => e = .returned (.int .u8 ((nb s at_).toNat : Int)) ∧ Has w' g 103 (lxc s at_ line lineAt dep fl_ fc bl el vw ve) ∧ w.grownBy w' (some g) :=
  (next_any s at_ line lineAt dep fl_ fc bl el vw ve g w h hat).mono fun _ _ ⟨he, n, hw⟩ => ⟨he, by rw [hw]; exact h, by rw [hw]; exact grown_drewN w n _⟩
set_option maxRecDepth 100000 in
theorem take_any (s : ByteArray) (at_ line lineAt dep fl_ fc : Nat) (bl : Bool) (el : Nat) (vw ve : Value) (g : Nat) (w : World) (h : Has w g 103 (lxc s at_ line lineAt dep fl_ fc bl el vw ve)) (hat : at_ < s.size) (hs : s.size ≤ 1048576) :
    Calls Tryz.prog 88 #[.pointer (some ⟨g, 0, none⟩)] w fun e w' => e = .returned (.tuple #[]) ∧ Has w' g 103 (lxc s (at_ + tk1 s at_) line lineAt dep fl_ fc bl el vw ve) ∧ w.grownBy w' (some g) := by
  have HN := Lib.hid (fun (a : Nat) (ha : a ≤ s.size) (W : World) (hW : Has W g 103 (lxc s a line lineAt dep fl_ fc bl el vw ve)) => next_has s a line lineAt dep fl_ fc bl el vw ve g W hW ha)
  have H := Lib.hid h
  clear h
  have HL := Lib.hid (show at_ ≤ s.size by omega)
  have HL1 := Lib.hid (show at_ + 1 ≤ s.size by omega)
  have hb : at_ ≤ 1048576 := by omega
  clear hat hs
  have HN1 := Lib.hid (HN.out at_ HL.out w H.out)
  have HN2 := Lib.hid (HN.out (at_ + 1) HL1.out)
  clear HN
  have HW1 : Hid (∀ W : World, Has W g 103 (lxc s at_ line lineAt dep fl_ fc bl el vw ve) → Has (W.setCell ⟨g, 1, none⟩ (.int .i64 ((at_ : Int) + 1))) g 103 (lxc s (at_ + 1) line lineAt dep fl_ fc bl el vw ve)) := fun W hW => hW.set 1 _
  have HW2 : Hid (∀ W : World, Has W g 103 (lxc s (at_ + 1) line lineAt dep fl_ fc bl el vw ve) → Has (W.setCell ⟨g, 1, none⟩ (.int .i64 (((at_ + 1 : Nat) : Int) + 1))) g 103 (lxc s (at_ + 2) line lineAt dep fl_ fc bl el vw ve)) := fun W hW => hW.set 1 _
  by_cases h92 : (nb s at_).toNat = 92
  · have HQ : Hid (((nb s at_).toNat : Int) = 92) := by rw [Hid, h92]; rfl
    rw [HQ.out] at HN1
    by_cases h10 : (nb s (at_ + 1)).toNat = 10
    · have hk : tk1 s at_ = 1 := by rw [tk1, if_neg (fun e => e.2 h10)]
      rw [hk]
      clear hk
      have HQ2 : Hid (((nb s (at_ + 1)).toNat : Int) = 10) := by rw [Hid, h10]; rfl
      rw [HQ2.out] at HN2
      clear h92 h10 HQ HQ2 HW2
      go_enter Tryz.func88, Tryz.ntmps88
      go_wp2_with (go_at_call 82; first
        | (refine HN1.out.mono ?_; rintro e w1 ⟨rfl, h1, g1⟩; have c1 : w1.cell? ⟨g, 1, none⟩ = some (.int .i64 at_) := h1.cell 1; have f1 := h1.free 1; have HA := Lib.hid h1; have HG := Lib.hid g1; clear h1 g1 H)
        | (refine (HN2.out _ (HW1.out _ HA.out)).mono ?_; rintro e w2 ⟨rfl, h2, g2⟩; have HA2 := Lib.hid h2; have HG2 := Lib.hid (grown_trans (grown_set HG.out 1 _) g2); clear h2 g2 c1 f1))
      go_end0
      exact ⟨rfl, HA2.out, HG2.out⟩
    · have hk : tk1 s at_ = 2 := by rw [tk1, if_pos ⟨h92, h10⟩]
      rw [hk]
      clear hk
      have hq : (((nb s (at_ + 1)).toNat : Int) != 10) = true := by simp; omega
      generalize ((nb s (at_ + 1)).toNat : Int) = q at *
      clear h92 h10 HQ
      go_enter Tryz.func88, Tryz.ntmps88
      go_wp2_with (go_at_call 82; first
        | (refine HN1.out.mono ?_; rintro e w1 ⟨rfl, h1, g1⟩; have c1 : w1.cell? ⟨g, 1, none⟩ = some (.int .i64 at_) := h1.cell 1; have f1 := h1.free 1; have HA := Lib.hid h1; have HG := Lib.hid g1; clear h1 g1 H)
        | (refine (HN2.out _ (HW1.out _ HA.out)).mono ?_; rintro e w2 ⟨rfl, h2, g2⟩; have c2 : w2.cell? ⟨g, 1, none⟩ = some (.int .i64 ((at_ : Int) + 1)) := h2.cell 1; have f2 := h2.free 1; have HA2 := Lib.hid h2; have HG2 := Lib.hid (grown_trans (grown_set HG.out 1 _) g2); clear h2 g2 c1 f1))
      go_end0
      exact ⟨rfl, HW2.out _ HA2.out, grown_set HG2.out 1 _⟩
  · have hk : tk1 s at_ = 1 := by rw [tk1, if_neg (fun e => h92 e.1)]
    rw [hk]
    clear hk HN2 HW2
    have hq : (((nb s at_).toNat : Int) == 92) = false := beq_eq_false_iff_ne.2 (by omega)
    generalize ((nb s at_).toNat : Int) = q at *
    clear h92
    go_enter Tryz.func88, Tryz.ntmps88
    go_wp2_with (go_at_call 82; refine HN1.out.mono ?_; rintro e w1 ⟨rfl, h1, g1⟩; have c1 : w1.cell? ⟨g, 1, none⟩ = some (.int .i64 at_) := h1.cell 1; have f1 := h1.free 1; have HA := Lib.hid h1; have HG := Lib.hid g1; clear h1 g1 H)
    go_end0
    exact ⟨rfl, HW1.out _ HA.out, grown_set HG.out 1 _⟩
end Go.Proofs.YtgcaephfhfkjcaaGreatDoor
namespace Go.Proofs.YtgcaephfhfkjcaaGreatDoor
open Go.RowKit

/-- data as they lie in a reader. -/
def dv (d : Rd.Dt) : Dv := ⟨⟨d.raw.toArray⟩, ⟨d.host.toArray⟩, ⟨d.mail.toArray⟩, d.n0, d.n1, d.n2, d.n3, d.n4⟩
/-- a reader's cells. -/
def rdC (v : Value) (o : ByteArray) (d : Rd.Dt) (n : Nat) : Array Value :=
  #[v, .string o, sv d.raw, sv d.host, sv d.mail, .int .u32 d.n0, .int .u32 d.n1, .int .u32 d.n2, .int .u32 d.n3, .int .u32 d.n4, .int .i64 n]
/-- a word's cells. -/
def wdC (x : Rd.W2) (l c : Int) : List Value := [sv x.1, .bool x.2, .int .i64 l, .int .i64 c]
/-- words that lie below hi. -/
def Ws (w : World) (hi : Nat) (v : Value) (ws : List Rd.W2) : Prop :=
  ∃ A c, v = .slice A ws.length c ∧ ws.length ≤ c ∧ c ≤ 9223372036854775807 ∧ (∀ x ∈ ws, x.1.length ≤ 140737488355328) ∧
    (0 < ws.length → ∃ g o, A = some ⟨g, o, none⟩ ∧ g < hi ∧ ∀ j (h : j < ws.length), ∃ l k, w.rangeAt g (o + j * 4) (wdC ws[j] l k))
section
variable {w w' : World} {hi g : Nat} {v : Value} {ws : List Rd.W2} {x : Rd.W2} {o : ByteArray} {d : Rd.Dt} {n : Nat}
theorem Ws.keep (h : Ws w hi v ws) (hb : Below hi w w') : Ws w' hi v ws := by
  obtain ⟨A, c, h1, h2, h3, h4, h5⟩ := h
  refine ⟨A, c, h1, h2, h3, h4, fun h0 => ?_⟩
  obtain ⟨g, o, e1, e2, e3⟩ := h5 h0
  refine ⟨g, o, e1, e2, fun j hj => ?_⟩
  obtain ⟨l, k, h⟩ := e3 j hj
  exact ⟨l, k, range_below hb e2 h⟩
/-- what the program's own variables hold, all of them below B. -/
def Gl (w : World) (B : Nat) : Prop := Lay w ∧ LayR w ∧ (∃ m : Int, w.cell? ⟨2, 0, none⟩ = some (.int .i64 m)) ∧ layTop ≤ B ∧ 0 < B ∧ 2 < B
theorem Gl.below (h : Gl w hi) (hb : Below hi w w') : Gl w' hi := by
  obtain ⟨h1, ⟨t, h2⟩, ⟨m, h3⟩, h4, h5, h6⟩ := h
  exact ⟨h1.below hb h4, ⟨t, h2.below hb h5⟩, ⟨m, (hb.cell (p := ⟨2, 0, none⟩) h6).trans h3⟩, h4, h5, h6⟩
/-- a reader that has words to read. -/
def St (w : World) (g hi : Nat) (o : ByteArray) (ws : List Rd.W2) (d : Rd.Dt) (n : Nat) : Prop := ∃ v, Has w g 171 (rdC v o d n) ∧ Ws w hi v ws ∧ hi ≤ g ∧ Gl w hi
theorem St.keep (h : St w g hi o ws d n) (hb : Below w.heap.size w w') : St w' g hi o ws d n := by
  obtain ⟨v, h1, h2, h3, h4⟩ := h
  have := h1.lt
  exact ⟨v, h1.below hb h1.lt, h2.keep (hb.mono (by omega)), h3, h4.below (hb.mono (by omega))⟩
theorem St.gl (h : St w g hi o ws d n) : Gl w hi := by
  obtain ⟨v, _, _, _, h4⟩ := h
  exact h4
/-- a cell of the reader's own is written. -/
theorem St.put {w1 : World} {i : Nat} {u : Value} {d' : Rd.Dt} {n' : Nat} (h : St w g hi o ws d n) (hw : (w.setCell ⟨g, i, none⟩ u).heap = w1.heap) (hc : ∀ v, (rdC v o d n).setIfInBounds i u = rdC v o d' n') : St w1 g hi o ws d' n' := by
  obtain ⟨v, h1, h2, h3, h4⟩ := h
  have hb : Below hi w (w.setCell ⟨g, i, none⟩ u) := (Below.refl _ _).setCell h3 u
  have hb2 : ∀ k, k < hi → w1.heap[k]? = w.heap[k]? := fun k hk => by rw [← hw]; exact hb.block k hk
  have hh := h1.set i u
  rw [hc v] at hh
  have hcell : ∀ p : Addr, p.block < hi → w1.cell? p = w.cell? p := fun p hp => by unfold World.cell?; rw [hb2 _ hp]
  refine ⟨v, ?_, ?_, h3, ?_⟩
  · show w1.heap[g]? = _
    rw [← hw]; exact hh
  · obtain ⟨A, c, e1, e2, e3, e4, e5⟩ := h2
    refine ⟨A, c, e1, e2, e3, e4, fun h0 => ?_⟩
    obtain ⟨q, p, a1, a2, a3⟩ := e5 h0
    refine ⟨q, p, a1, a2, fun j hj => ?_⟩
    obtain ⟨l, k, hr⟩ := a3 j hj
    exact ⟨l, k, fun j v hj => (hcell _ a2).trans (hr j v hj)⟩
  · obtain ⟨⟨⟨a1, a2, a3⟩, a4, a5, a6⟩, ⟨t, b1⟩, ⟨m, c1⟩, k4, k5, k6⟩ := h4
    exact ⟨⟨⟨a1, a2, (hcell _ (Nat.lt_of_lt_of_le (by decide) k4)).trans a3⟩, a4, a5, (hcell _ (Nat.lt_of_lt_of_le (by decide) k4)).trans a6⟩, ⟨t, (hb2 _ k5).trans b1⟩, ⟨m, (hcell _ k6).trans c1⟩, k4, k5, k6⟩
theorem St.lt (h : St w g hi o ws d n) : g < w.heap.size := by
  obtain ⟨v, h1, _⟩ := h
  exact h1.lt
theorem St.has (h : St w g hi o ws d n) : ∃ v, Has w g 171 (rdC v o d n) := h.elim fun v h => ⟨v, h.1⟩
end
/-- what stands at the head. -/
theorem Ws.head {w : World} {hi : Nat} {v : Value} {x : Rd.W2} {ws : List Rd.W2} (h : Ws w hi v (x :: ws)) : ∃ (g o c : Nat) (l k : Int), v = .slice (some ⟨g, o, none⟩) (ws.length + 1) c ∧ ws.length + 1 ≤ c ∧ c ≤ 9223372036854775807 ∧ g < hi ∧ w.rangeAt g o (wdC x l k) ∧ Ws w hi (.slice (if c = 1 then some ⟨g, o, none⟩ else some ⟨g, o + 4, none⟩) ws.length (c - 1)) ws := by
  obtain ⟨A, c, h1, h2, h3, h4, h5⟩ := h
  obtain ⟨g, o, rfl, e2, e3⟩ := h5 (by simp)
  obtain ⟨l, k, e4⟩ := e3 0 (by simp)
  rw [List.length_cons] at h1 h2
  refine ⟨g, o, c, l, k, h1, h2, h3, e2, by simpa using e4, _, _, rfl, by omega, by omega, fun y hy => h4 y (by simp [hy]), fun h0 => ?_⟩
  rw [if_neg (by omega)]
  refine ⟨g, o + 4, rfl, e2, fun j hj => ?_⟩
  obtain ⟨l2, k2, h⟩ := e3 (j + 1) (by simp; omega)
  refine ⟨l2, k2, ?_⟩
  have e : o + 4 + j * 4 = o + (j + 1) * 4 := by omega
  rw [e]
  simpa using h
theorem wdC_cells {w : World} {g o : Nat} {x : Rd.W2} {l k : Int} (h : w.rangeAt g o (wdC x l k)) : w.cell? ⟨g, o, none⟩ = some (sv x.1) ∧ w.cell? ⟨g, o + 1, none⟩ = some (.bool x.2) ∧ w.cell? ⟨g, o + 2, none⟩ = some (.int .i64 l) ∧ w.cell? ⟨g, o + 3, none⟩ = some (.int .i64 k) :=
  ⟨h 0 _ rfl, h 1 _ rfl, h 2 _ rfl, h 3 _ rfl⟩
theorem Kb.alloc {g b : Nat} {w w' : World} (h : Kb g b w w') (hb : b ≤ w'.heap.size) (o : Obj) : Kb g b w (w'.alloc o) := h.trans (Kb.of_below ((Below.refl _ _).alloc hb o))
theorem set_words {w : World} {g : Nat} {v v' : Value} {o : ByteArray} {d : Rd.Dt} {n : Nat} (h : Has w g 171 (rdC v o d n)) : Has (w.setCell ⟨g, 0, none⟩ v') g 171 (rdC v' o d n) := h.set 0 v'
theorem new_two {w : World} {p : Addr} {u : Value} {t : TypeId} {cs : Array Value} {o : Obj} : Has (((w.setCell p u).alloc (.cells cs t)).alloc o) w.heap.size t cs := by
  have h := (Has.fresh (w.setCell p u) t cs).alloc o
  rwa [World.size_setCell] at h
end Go.Proofs.YtgcaephfhfkjcaaGreatDoor
namespace Go.Proofs.YtgcaephfhfkjcaaGreatDoor
open Go.RowKit

section
variable {g hi n : Nat} {o : ByteArray} {ws : List Rd.W2} {x : Rd.W2} {d : Rd.Dt} {w : World}
set_option maxHeartbeats 1000000 in
set_option maxRecDepth 100000 in
theorem rdNext_any (h : St w g hi o (x :: ws) d n) :
    Calls Tryz.prog 136 #[.pointer (some ⟨g, 0, none⟩)] w fun e w' => ∃ l k : Int, e = .returned (.agg #[sv x.1, .bool x.2, .int .i64 l, .int .i64 k]) ∧ St w' g hi o ws d n ∧ Kb g w.heap.size w w' := by
  obtain ⟨v, h1, h2, h3, h5⟩ := h
  have HG := Lib.hid h5
  obtain ⟨q, p, c, l, k, rfl, hc, hm, hq, hr, h4⟩ := h2.head
  have HR := Lib.hid (fun (W : World) (hb : Below w.heap.size w W) => range_below hb (by have := h1.lt; omega) hr)
  have hi4 : (Tryz.prog.info? 79).map (·.size) = some 4 := by kernel_rfl
  have HI := Lib.hid hi4
  clear hi4
  have c0 : w.cell? ⟨g, 0, none⟩ = some (.slice (some ⟨q, p, none⟩) (ws.length + 1) c) := by rw [h1.cell]; rfl
  have f0 := h1.free 0
  have hg := h1.lt
  have hqg : q ≠ g := by omega
  have e0 : ((((ws.length + 1 : Nat) : Int)) == 0) = false := beq_eq_false_iff_ne.2 (by omega)
  have HH := Lib.hid h1
  have H4 := Lib.hid h4
  clear h1 h2 h4 hr h5
  go_enter Tryz.func136, Tryz.ntmps136
  go_wp2_with (refine wpList_load_mid rfl 79 (.tmp 16) rfl q _ rfl [sv x.1, .bool x.2, .int .i64 l, .int .i64 k] _ (HR.out _ ((Below.refl _ _).alloc (Nat.le_refl _) _)) Tryz.underlying79 rfl HI.out ?_)
  all_goals
    have h4 := H4.out
    first | rw [if_neg (by assumption)] at h4 | (subst_vars; rw [if_pos rfl] at h4)
    have hk := fun v' : Value => (((Kb.refl g w.heap.size w).set 0 v').alloc (by simp) (.cells #[sv x.1, .bool x.2, .int .i64 l, .int .i64 k] 79)).alloc (by simp) (.cells #[sv x.1, .bool x.2, .int .i64 l, .int .i64 k] 79)
    refine bodyPost_ret (results_cell_row rfl _ _ w.heap.size 79 #[sv x.1, .bool x.2, .int .i64 l, .int .i64 k] (0, 0) _ rfl new_two Tryz.underlying79 rfl HI.out) rfl ?_
    exact ⟨⟨l, k, rfl⟩, ⟨_, ((set_words HH.out).alloc _).alloc _, h4.keep (((hk _).below (by omega)).mono h3), h3, HG.out.below (((hk _).below (by omega)).mono h3)⟩, hk _⟩
set_option maxHeartbeats 1000000 in
set_option maxRecDepth 100000 in
theorem rdPlain_any (h : St w g hi o (x :: ws) d n) (hx : x.2 = false) :
    Calls Tryz.prog 138 #[.pointer (some ⟨g, 0, none⟩)] w fun e w' => e = .returned (sv x.1) ∧ St w' g hi o ws d n ∧ Kb g w.heap.size w w' := by
  obtain ⟨t, q⟩ := x
  obtain rfl : q = false := hx
  have HN := Lib.hid (rdNext_any h)
  clear h
  go_enter Tryz.func138, Tryz.ntmps138
  go_wp2_with (go_at_call 136; refine HN.out.mono ?_; rintro e w1 ⟨l, k, rfl, S1, K1⟩; have HS := Lib.hid S1; have HK := Lib.hid K1; have hz := K1.size; clear S1 K1)
  go_ret
  exact ⟨rfl, HS.out.keep ((Below.refl _ _).alloc (Nat.le_refl _) _), HK.out.alloc hz _⟩
end
end Go.Proofs.YtgcaephfhfkjcaaGreatDoor
namespace Go.Proofs.YtgcaephfhfkjcaaGreatDoor
open Go.RowKit

/-- a record as it lies in a row. -/
def rvOf (r : Ma.Rc) : Rv := ⟨⟨r.nm.toArray⟩, r.ty, 1, r.ttl, dv r.d⟩
def mcl (r : Ma.Rc) : List Value := (rvOf r).cells.toList
theorem mcl_len (r : Ma.Rc) : (mcl r).length = 12 := rfl
theorem mcl_one (r : Ma.Rc) : ∀ v ∈ mcl r, v.oneCell' = true := by
  intro v hv
  simp only [mcl, Rv.cells, List.mem_cons, List.not_mem_nil, or_false] at hv
  rcases hv with rfl | rfl | rfl | rfl | rfl | rfl | rfl | rfl | rfl | rfl | rfl | rfl <;> rfl
/-- the reader's cells. -/
def mrC (o : Rd.By) (ttl : Nat) (fx : Bool) (vr : Value) (f : Tk.Wd) (vw : Value) : Array Value :=
  #[sv o, .int .u32 ttl, .bool fx, vr, sv f.text, .bool f.quoted, .int .i64 f.line, .int .i64 f.col, vw]
/-- words that lie below hi. -/
def Wp (w : World) (hi : Nat) (v : Value) (ws : List Tk.Wd) : Prop :=
  ∃ A c, v = .slice A ws.length c ∧ ws.length ≤ c ∧ c ≤ 9223372036854775807 ∧ (∀ x ∈ ws, x.text.length ≤ 262144) ∧
    (0 < ws.length → ∃ g o, A = some ⟨g, o, none⟩ ∧ g < hi ∧ ∀ j (h : j < ws.length), w.rangeAt g (o + j * 4) (wc ws[j]))
section
variable {w w' : World} {hi g : Nat} {v : Value} {ws : List Tk.Wd} {x f : Tk.Wd} {s s' : Ma.S}
theorem Wp.keep (h : Wp w hi v ws) (hb : Below hi w w') : Wp w' hi v ws := by
  obtain ⟨A, c, h1, h2, h3, h4, h5⟩ := h
  refine ⟨A, c, h1, h2, h3, h4, fun h0 => ?_⟩
  obtain ⟨g, o, e1, e2, e3⟩ := h5 h0
  exact ⟨g, o, e1, e2, fun j hj => range_below hb e2 (e3 j hj)⟩
/-- the words of data. -/
theorem Wp.words2 (h : Wp w hi v ws) : Ws w hi v (ws.map Ma.w2) := by
  obtain ⟨A, c, h1, h2, h3, h4, h5⟩ := h
  refine ⟨A, c, by rw [List.length_map]; exact h1, by rw [List.length_map]; exact h2, h3, fun x hx => ?_, fun h0 => ?_⟩
  · obtain ⟨y, hy, rfl⟩ := List.mem_map.1 hx
    have := h4 y hy
    simp only [Ma.w2]
    omega
  · rw [List.length_map] at h0
    obtain ⟨g, o, e1, e2, e3⟩ := h5 h0
    refine ⟨g, o, e1, e2, fun j hj => ?_⟩
    rw [List.length_map] at hj
    refine ⟨ws[j].line, ws[j].col, ?_⟩
    rw [List.getElem_map]
    exact e3 j hj
theorem Wp.more (h : Wp w hi v ws) {hi' : Nat} (hh : hi ≤ hi') : Wp w hi' v ws := by
  obtain ⟨A, c, h1, h2, h3, h4, h5⟩ := h
  refine ⟨A, c, h1, h2, h3, h4, fun h0 => ?_⟩
  obtain ⟨g, o, e1, e2, e3⟩ := h5 h0
  exact ⟨g, o, e1, by omega, e3⟩
/-- what stands at the head. -/
theorem Wp.head (h : Wp w hi v (x :: ws)) : ∃ (g o c : Nat), v = .slice (some ⟨g, o, none⟩) (ws.length + 1) c ∧ ws.length + 1 ≤ c ∧ c ≤ 9223372036854775807 ∧ g < hi ∧ w.rangeAt g o (wc x) ∧ Wp w hi (.slice (if c = 1 then some ⟨g, o, none⟩ else some ⟨g, o + 4, none⟩) ws.length (c - 1)) ws ∧ x.text.length ≤ 262144 := by
  obtain ⟨A, c, h1, h2, h3, h4, h5⟩ := h
  obtain ⟨g, o, rfl, e2, e3⟩ := h5 (by simp)
  have e4 := e3 0 (by simp)
  rw [List.length_cons] at h1 h2
  refine ⟨g, o, c, h1, h2, h3, e2, by simpa using e4, ⟨_, _, rfl, by omega, by omega, fun y hy => h4 y (by simp [hy]), fun h0 => ?_⟩, h4 x (by simp)⟩
  rw [if_neg (by omega)]
  refine ⟨g, o + 4, rfl, e2, fun j hj => ?_⟩
  have h := e3 (j + 1) (by simp; omega)
  have e : o + 4 + j * 4 = o + (j + 1) * 4 := by omega
  rw [e]
  simpa using h
theorem wc_cells {g o : Nat} (h : w.rangeAt g o (wc x)) : w.cell? ⟨g, o, none⟩ = some (sv x.text) ∧ w.cell? ⟨g, o + 1, none⟩ = some (.bool x.quoted) ∧ w.cell? ⟨g, o + 2, none⟩ = some (.int .i64 x.line) ∧ w.cell? ⟨g, o + 3, none⟩ = some (.int .i64 x.col) :=
  ⟨h 0 _ rfl, h 1 _ rfl, h 2 _ rfl, h 3 _ rfl⟩
/-- what the program's own variables hold, all of them below B. -/
def Ga (w : World) (B : Nat) : Prop := Gl w B ∧ LayP w ∧ LayD w ∧ 1 < B ∧ 4 < B
theorem Ga.below (h : Ga w hi) (hb : Below hi w w') : Ga w' hi := by
  obtain ⟨h1, ⟨t, h2⟩, ⟨u, h3⟩, h4, h5⟩ := h
  exact ⟨h1.below hb, ⟨t, h2.below hb h4⟩, ⟨u, h3.below hb h5⟩, h4, h5⟩
theorem Ga.more (h : Ga w hi) {hi' : Nat} (hh : hi ≤ hi') : Ga w hi' := by
  obtain ⟨⟨a, b, c, d, e, f⟩, h2, h3, h4, h5⟩ := h
  exact ⟨⟨a, b, c, by omega, by omega, by omega⟩, h2, h3, by omega, by omega⟩
theorem Ga.layA (h : Ga w hi) : LayA w := ⟨h.1.2.1, h.2.1, h.2.2.1⟩
theorem Ga.lay (h : Ga w hi) : Lay w := h.1.1
/-- a row below B stays. -/
theorem own_belowB {k n B base : Nat} {e : TypeId} {ys : List Value} (h : w.ownsRow base e k v n ys) (hb : Below B w w') (hv : ∀ q, v.ownBlock = some q → q < B) : w'.ownsRow base e k v n ys := by
  refine ⟨h.1, ?_⟩
  rcases h.2 with h0 | ⟨q, cap, cur, rfl, hbg, hg, hr⟩
  · exact .inl h0
  · exact .inr ⟨q, cap, cur, rfl, hbg, (hb.block q (hv q rfl)).trans hg, hr⟩
/-- the reader: words below hi.1, all of it below hi.2. -/
def MM (w : World) (g : Nat) (hi : Nat × Nat) (s : Ma.S) (f : Tk.Wd) (ws : List Tk.Wd) : Prop :=
  ∃ vr vw, Has w g 82 (mrC s.o s.ttl s.fx vr f vw) ∧ Own mcl 12 w (g + 1) 36 vr s.recs ∧ Wp w hi.1 vw ws ∧ hi.1 ≤ g ∧ Ga w hi.1 ∧ g < hi.2 ∧ hi.2 ≤ w.heap.size ∧ ∀ q, vr.ownBlock = some q → q < hi.2
end
section
variable {w w' : World} {g : Nat} {hi : Nat × Nat} {v : Value} {ws : List Tk.Wd} {x f : Tk.Wd} {s s' : Ma.S}
theorem MM.lt (h : MM w g hi s f ws) : g < w.heap.size := by
  obtain ⟨_, _, h1, _⟩ := h
  exact h1.lt
theorem MM.ga (h : MM w g hi s f ws) : Ga w hi.1 := by
  obtain ⟨_, _, _, _, _, _, h5, _⟩ := h
  exact h5
theorem MM.le (h : MM w g hi s f ws) : hi.1 ≤ g := by
  obtain ⟨_, _, _, _, _, h4, _⟩ := h
  exact h4
theorem MM.top (h : MM w g hi s f ws) : g < hi.2 ∧ hi.2 ≤ w.heap.size := by
  obtain ⟨_, _, _, _, _, _, _, h6, h7, _⟩ := h
  exact ⟨h6, h7⟩
theorem MM.keepB (h : MM w g hi s f ws) (hb : Below hi.2 w w') : MM w' g hi s f ws := by
  obtain ⟨vr, vw, h1, h2, h3, h4, h5, h6, h7, h8⟩ := h
  exact ⟨vr, vw, h1.below hb h6, own_belowB h2 hb h8, h3.keep (hb.mono (by omega)), h4, h5.below (hb.mono (by omega)), h6, Nat.le_trans h7 hb.size, h8⟩
theorem MM.keep (h : MM w g hi s f ws) (hb : Below w.heap.size w w') : MM w' g hi s f ws := h.keepB (hb.mono h.top.2)
theorem below_set_ge {B : Nat} (w : World) (p : Addr) (hp : B ≤ p.block) (u : Value) : Below B w (w.setCell p u) := (Below.refl B w).setCell hp u
/-- a cell of the reader's own is written. -/
theorem MM.put {i : Nat} {u : Value} (h : MM w g hi s f ws) (hc : ∀ vr vw, (mrC s.o s.ttl s.fx vr f vw).setIfInBounds i u = mrC s'.o s'.ttl s'.fx vr f vw) (hr : s'.recs = s.recs) : MM (w.setCell ⟨g, i, none⟩ u) g hi s' f ws := by
  obtain ⟨vr, vw, h1, h2, h3, h4, h5, h6, h7, h8⟩ := h
  have hb : Below hi.1 w (w.setCell ⟨g, i, none⟩ u) := below_set_ge w ⟨g, i, none⟩ h4 u
  have hh := h1.set i u
  rw [hc vr vw] at hh
  refine ⟨vr, vw, hh, ?_, h3.keep hb, h4, h5.below hb, h6, by rw [World.size_setCell]; exact h7, h8⟩
  rw [hr]
  exact row_kept h2 (Nat.lt_succ_self g) (grown_set (World.grownBy.refl w _) i u)
/-- other words are to be read. -/
theorem MM.putW {ws' : List Tk.Wd} {v' : Value} (h : MM w g hi s f ws) (hw : Wp w hi.1 v' ws') : MM (w.setCell ⟨g, 8, none⟩ v') g hi s f ws' := by
  obtain ⟨vr, vw, h1, h2, h3, h4, h5, h6, h7, h8⟩ := h
  have hb : Below hi.1 w (w.setCell ⟨g, 8, none⟩ v') := below_set_ge w ⟨g, 8, none⟩ h4 v'
  have hh := h1.set 8 v'
  exact ⟨vr, v', hh, row_kept h2 (Nat.lt_succ_self g) (grown_set (World.grownBy.refl w _) 8 v'), hw.keep hb, h4, h5.below hb, h6, by rw [World.size_setCell]; exact h7, h8⟩
theorem MM.has (h : MM w g hi s f ws) : ∃ vr vw, Has w g 82 (mrC s.o s.ttl s.fx vr f vw) := by
  obtain ⟨vr, vw, h1, _⟩ := h
  exact ⟨vr, vw, h1⟩
theorem MM.wp (h : MM w g hi s f ws) : ∃ vr vw, Has w g 82 (mrC s.o s.ttl s.fx vr f vw) ∧ Wp w hi.1 vw ws := by
  obtain ⟨vr, vw, h1, _, h3, _⟩ := h
  exact ⟨vr, vw, h1, h3⟩
end
/-- what a reader may hold. -/
structure Mk (s : Ma.S) : Prop where
  o : Rd.nm s.o = true
  os : s.o.length ≤ 140737488355328
  ttl : s.ttl ≤ 2147483647
  recs : s.recs.length ≤ 4096
  nm : ∀ r ∈ s.recs, r.nm.length ≤ 140737488355328
end Go.Proofs.YtgcaephfhfkjcaaGreatDoor
namespace Go.Proofs.YtgcaephfhfkjcaaGreatDoor.Rd

theorem parseM_iff32 {M : Nat} (hM : M ≤ 4294967295) : ∀ (l : By) (a v : Nat), a ≤ M → (Lib.parseUintM M a l = .ok v ↔ digs l = true ∧ vl a l = v ∧ v ≤ M) := by
  intro l
  induction l with
  | nil =>
    intro a v ha
    constructor
    · intro h
      have h2 : (Lib.NumEnd.ok a : Lib.NumEnd Nat) = .ok v := h
      injection h2 with h2
      subst h2
      exact ⟨rfl, rfl, ha⟩
    · rintro ⟨_, h, _⟩
      have h2 : a = v := h
      subst h2
      rfl
  | cons c r ih =>
    intro a v ha
    rw [Lib.parseUintM]
    have hd : digs (c :: r) = ((decide (48 ≤ c.toNat) && decide (c.toNat ≤ 57)) && digs r) := rfl
    have hv : vl a (c :: r) = vl (10 * a + (c.toNat - 48)) r := rfl
    by_cases hc : 48 ≤ c.toNat ∧ c.toNat ≤ 57
    · rw [if_pos hc, if_neg (by omega), hd, hv, show a * 10 = 10 * a from by omega]
      have h9 : (decide (48 ≤ c.toNat) && decide (c.toNat ≤ 57)) = true := by simpa using hc
      rw [h9, Bool.true_and]
      by_cases hm : M < 10 * a + (c.toNat - 48)
      · rw [if_pos hm]
        constructor
        · intro h; cases h
        · rintro ⟨_, h, h2⟩
          have := vl_le r (10 * a + (c.toNat - 48))
          omega
      · rw [if_neg hm]
        exact ih _ _ (by omega)
    · rw [if_neg hc, hd]
      have h9 : (decide (48 ≤ c.toNat) && decide (c.toNat ≤ 57)) = false := by
        rw [Bool.eq_false_iff]; simpa using hc
      rw [h9]
      constructor
      · intro h; cases h
      · rintro ⟨h, _⟩; cases h
theorem parse32 {l : By} (hz : ¬ (1 < l.length ∧ l.head? = some 48)) (v : Nat) : Lib.parseUintB 32 l = .ok v ↔ num l 4294967295 = some v := by
  unfold Lib.parseUintB
  by_cases h0 : l = []
  · subst h0
    rw [if_pos rfl, num_bad (.inl rfl)]
    constructor <;> intro h <;> cases h
  · rw [if_neg h0, parseM_iff32 (M := 2 ^ 32 - 1) (by decide) l 0 v (by decide)]
    have hl0 : l.length ≠ 0 := fun e => h0 (List.eq_nil_of_length_eq_zero e)
    have hvv : vl 0 l = val l := rfl
    rw [hvv]
    by_cases hd : digs l = true
    · by_cases h12 : 12 < l.length
      · rw [num_bad (.inr (.inr h12))]
        constructor
        · rintro ⟨_, h, h2⟩
          exfalso
          match l, hl0, hz, hd, h12, h with
          | c :: r, _, hz, hd, h12, h =>
            have hc : 48 ≤ c.toNat ∧ c.toNat ≤ 57 := by
              have := List.all_eq_true.1 hd c (by simp)
              simpa using this
            have hne : c.toNat ≠ 48 := fun e => hz ⟨by omega, by simp only [List.head?_cons]; congr 1; exact UInt8.toNat_inj.1 e⟩
            have hg := vl_ge r (10 * 0 + (c.toNat - 48))
            have hval : val (c :: r) = vl (10 * 0 + (c.toNat - 48)) r := rfl
            have hp : 10 ^ 12 ≤ 10 ^ r.length := Nat.pow_le_pow_right (by omega) (by simp at h12; omega)
            have h1 : 1 * 10 ^ r.length ≤ (10 * 0 + (c.toNat - 48)) * 10 ^ r.length := Nat.mul_le_mul_right _ (by omega)
            have hq : (10 : Nat) ^ 12 = 1000000000000 := by decide
            have hq2 : (2 : Nat) ^ 32 - 1 = 4294967295 := by decide
            omega
        · intro h; cases h
      · rw [num_dig (by intro h; rcases h with h | h | h; exact hl0 h; exact hz h; exact h12 h) hd]
        have hq2 : (2 : Nat) ^ 32 - 1 = 4294967295 := by decide
        rw [hq2]
        by_cases hm : 4294967295 < val l
        · rw [if_pos hm]
          constructor
          · rintro ⟨_, h, h2⟩; omega
          · intro h; cases h
        · rw [if_neg hm]
          constructor
          · rintro ⟨_, h, _⟩; rw [h]
          · intro h; injection h with h; exact ⟨hd, h, by omega⟩
    · rw [num_nodig (by simpa using hd)]
      constructor
      · rintro ⟨h, _⟩; exact absurd h hd
      · intro h; cases h
end Go.Proofs.YtgcaephfhfkjcaaGreatDoor.Rd
