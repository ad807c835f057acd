/- Texts of the proofs, merged. -/
import Derived.Test.YtopcklpmeaghmaaGreatDoorG34
import Derived.Test.YtopcklpmeaghmaaGreatDoorG16
import Derived.Laws.Bits64b
import Derived.Test.YtopcklpmeaghmaaGreatDoorG5
import Derived.Test.YtopcklpmeaghmaaGreatDoorG21
/- Put: a name written by a pointer where it can be. -/
namespace Go.Proofs.YtopcklpmeaghmaaGreatDoor
open Go.RowKit Go.Shelf
attribute [local go_sem] Oper.semAt_some

theorem or16 (p : Nat) (hp : p ≤ 16383) : bits .or .u16 49152 (p : Int) = ((49152 + p : Nat) : Int) := by
  have ofn : ∀ n : Nat, BitVec.ofInt 16 (n : Int) = BitVec.ofNat 16 n := fun n => by
    apply BitVec.eq_of_toNat_eq
    simp
  unfold bits
  show IntKind.u16.wrap (((BitVec.ofInt 16 ((49152 : Nat) : Int)) ||| (BitVec.ofInt 16 (p : Int))).toNat : Int) = _
  rw [ofn, ofn, BitVec.toNat_or, BitVec.toNat_ofNat, BitVec.toNat_ofNat, Nat.mod_eq_of_lt (by omega), Nat.mod_eq_of_lt (by omega)]
  have h := Nat.shiftLeft_add_eq_or_of_lt (i := 14) (b := p) (by omega) 3
  rw [Nat.shiftLeft_eq] at h
  have h2 : 49152 ||| p = 49152 + p := h.symm
  rw [h2, IntKind.wrap_u16]
  omega

theorem put_results {w : World} {tmps : Array Value} {b3 b4 : Nat} {A : Option Addr} {n c : Nat} {e : Int} (h6 : tmps[6]? = some (.pointer (some ⟨b3, 0, none⟩))) (h7 : tmps[7]? = some (.pointer (some ⟨b4, 0, none⟩)))
    (c6 : w.cell? ⟨b3, 0, none⟩ = some (.slice A n c)) (c7 : w.cell? ⟨b4, 0, none⟩ = some (.int .i64 e)) : (results Tryz.f35 tmps).run Tryz.prog w = .ok (.tuple #[.slice A n c, .int .i64 e]) w := by
  simp [results, Tryz.results35, go_sem, h6, h7, c6, c7]

/-- the world behind the boxes. -/
abbrev PutW (w : World) (p : Option Addr) (A : Option Addr) (n c : Nat) (s : ByteArray) (e : Int) : World :=
  (((((w.alloc (.cells #[.pointer p] 51)).alloc (.cells #[.slice A n c] 48)).alloc (.cells #[.string s] 23)).alloc (.cells #[.slice none 0 0] 48)).alloc (.cells #[.int .i64 e] 28))
theorem putW_below (w : World) (p : Option Addr) (A : Option Addr) (n c : Nat) (s : ByteArray) (e : Int) : Below w.heap.size w (PutW w p A n c s e) :=
  (((((Below.refl _ _).alloc (Nat.le_refl _) _).alloc (by simp) _).alloc (by simp; omega) _).alloc (by simp; omega) _).alloc (by simp; omega) _
theorem putW_size (w : World) (p : Option Addr) (A : Option Addr) (n c : Nat) (s : ByteArray) (e : Int) : (PutW w p A n c s e).heap.size = w.heap.size + 5 := by simp
/-- Put's own variables, in their boxes. -/
structure Boxes (W : World) (b : Nat) (p A : Option Addr) (n c : Nat) (s : ByteArray) (v : Value) (e : Int) : Prop where
  b0 : Has W b 51 #[.pointer p]
  b1 : Has W (b + 1) 48 #[.slice A n c]
  b2 : Has W (b + 1 + 1) 23 #[.string s]
  b3 : Has W (b + 1 + 1 + 1) 48 #[v]
  b4 : Has W (b + 1 + 1 + 1 + 1) 28 #[.int .i64 e]
theorem has_at {W : World} {b b' : Nat} {t : TypeId} {cs : Array Value} (h : Has W b t cs) (e : b = b') : Has W b' t cs := e ▸ h
section
variable {W W' : World} {b : Nat} {p A : Option Addr} {n c : Nat} {s : ByteArray} {v : Value} {e : Int}
theorem Boxes.new (w : World) : Boxes (PutW w p A n c s e) w.heap.size p A n c s (.slice none 0 0) e :=
  ⟨((((Has.fresh w _ _).alloc _).alloc _).alloc _).alloc _, (((has_at (Has.fresh _ _ _) (by simp)).alloc _).alloc _).alloc _, ((has_at (Has.fresh _ _ _) (by simp)).alloc _).alloc _, (has_at (Has.fresh _ _ _) (by simp)).alloc _, has_at (Has.fresh _ _ _) (by simp)⟩
theorem Boxes.below (h : Boxes W b p A n c s v e) {B : Nat} (hb : Below B W W') (hB : b + 5 ≤ B) : Boxes W' b p A n c s v e :=
  ⟨h.b0.below hb (by omega), h.b1.below hb (by omega), h.b2.below hb (by omega), h.b3.below hb (by omega), h.b4.below hb (by omega)⟩
theorem Boxes.alloc (h : Boxes W b p A n c s v e) (o : Obj) : Boxes (W.alloc o) b p A n c s v e := ⟨h.b0.alloc _, h.b1.alloc _, h.b2.alloc _, h.b3.alloc _, h.b4.alloc _⟩
theorem Boxes.rg (h : Boxes W b p A n c s v e) {g base : Nat} (hr : Rg g base W W') (hg : g < b) : Boxes W' b p A n c s v e :=
  ⟨hr.has h.b0 (by omega), hr.has h.b1 (by omega), hr.has h.b2 (by omega), hr.has h.b3 (by omega), hr.has h.b4 (by omega)⟩
theorem Boxes.grown (h : Boxes W b p A n c s v e) {row : Option Nat} (hg : W.grownBy W' row) (hr : ∀ r, row = some r → b + 5 ≤ r) : Boxes W' b p A n c s v e :=
  ⟨h.b0.grown hg (fun e => by have := hr _ e.symm; omega), h.b1.grown hg (fun e => by have := hr _ e.symm; omega), h.b2.grown hg (fun e => by have := hr _ e.symm; omega), h.b3.grown hg (fun e => by have := hr _ e.symm; omega), h.b4.grown hg (fun e => by have := hr _ e.symm; omega)⟩
theorem Boxes.set (h : Boxes W b p A n c s v e) (v' : Value) (e' : Int) : Boxes ((W.setCell ⟨b + 1 + 1 + 1, 0, none⟩ v').setCell ⟨b + 1 + 1 + 1 + 1, 0, none⟩ (.int .i64 e')) b p A n c s v' e' :=
  ⟨(h.b0.far (by simp <;> omega) _).far (by simp <;> omega) _, (h.b1.far (by simp <;> omega) _).far (by simp <;> omega) _, (h.b2.far (by simp <;> omega) _).far (by simp <;> omega) _, (h.b3.set 0 v').far (by simp) _, (h.b4.far (by simp) _).set 0 _⟩
theorem Boxes.facts (h : Boxes W b p A n c s v e) : W.cell? ⟨b, 0, none⟩ = some (.pointer p) ∧ W.cell? ⟨b + 1, 0, none⟩ = some (.slice A n c) ∧ W.cell? ⟨b + 1 + 1, 0, none⟩ = some (.string s) ∧ W.cell? ⟨b + 1 + 1 + 1, 0, none⟩ = some v ∧ W.cell? ⟨b + 1 + 1 + 1 + 1, 0, none⟩ = some (.int .i64 e) ∧
    W.frozen? ⟨b + 1 + 1 + 1, 0, none⟩ = false ∧ W.frozen? ⟨b + 1 + 1 + 1 + 1, 0, none⟩ = false ∧ ∀ v', (W.setCell ⟨b + 1 + 1 + 1, 0, none⟩ v').cell? ⟨b + 1 + 1 + 1 + 1, 0, none⟩ = some (.int .i64 e) :=
  ⟨by rw [h.b0.cell]; rfl, by rw [h.b1.cell]; rfl, by rw [h.b2.cell]; rfl, by rw [h.b3.cell]; rfl, by rw [h.b4.cell]; rfl, h.b3.free 0, h.b4.free 0, fun v' => by rw [(h.b4.far (p := ⟨b + 1 + 1 + 1, 0, none⟩) (by simp) v').cell]; rfl⟩
end
theorem put_nil (A : Option Addr) (n c : Nat) (s : ByteArray) (w : World) :
    Calls Tryz.prog 35 #[.pointer none, .slice A n c, .string s] w fun e w' => e = .returned (.tuple #[.slice none 0 0, .int .i64 8]) ∧ Below w.heap.size w w' := by
  have H := Lib.hid (pcheck_nil s (PutW w none A n c s 0))
  go_enter Tryz.func35, Tryz.ntmps35
  go_wp2_with (go_at_call 67; refine H.out.mono ?_; rintro e w' ⟨rfl, rfl⟩)
  refine bodyPost_ret (put_results (b3 := w.heap.size + 1 + 1 + 1) (b4 := w.heap.size + 1 + 1 + 1 + 1) rfl rfl (Boxes.new (p := none) (A := A) (n := n) (c := c) (s := s) (e := 8) w).facts.2.2.2.1 (Boxes.new (p := none) (A := A) (n := n) (c := c) (s := s) (e := 8) w).facts.2.2.2.2.1) rfl ⟨rfl, putW_below w none A n c s 8⟩
theorem put_no (g : Nat) (A : Option Addr) (n c : Nat) (s : ByteArray) (w : World) (hs : s.size ≤ 140737488355328) (hn : Nm.split s.data.toList = none) :
    Calls Tryz.prog 35 #[.pointer (some ⟨g, 0, none⟩), .slice A n c, .string s] w fun e w' => e = .returned (.tuple #[.slice none 0 0, .int .i64 11]) ∧ Below w.heap.size w w' := by
  have HC : Hid (Calls Tryz.prog 67 #[.pointer (some ⟨g, 0, none⟩), .string s] (PutW w (some ⟨g, 0, none⟩) A n c s 0) fun e w' => e = .returned (.int .i64 11) ∧ Below (w.heap.size + 5) (PutW w (some ⟨g, 0, none⟩) A n c s 0) w') := by
    have := pcheck_any g s (PutW w (some ⟨g, 0, none⟩) A n c s 0) hs
    rw [hn, putW_size] at this
    exact this
  clear hn
  go_enter Tryz.func35, Tryz.ntmps35
  go_wp2_with (go_at_call 67; refine HC.out.mono ?_; rintro e w1 ⟨rfl, hb1⟩; have hbx := Boxes.below (Boxes.new (p := some ⟨g, 0, none⟩) (A := A) (n := n) (c := c) (s := s) (e := 0) w) hb1 (Nat.le_refl _); obtain ⟨k0, k1, k2, k3, k4, z3, z4, k5⟩ := hbx.facts)
  refine bodyPost_ret (put_results (b3 := w.heap.size + 1 + 1 + 1) (b4 := w.heap.size + 1 + 1 + 1 + 1) rfl rfl (hbx.set _ _).facts.2.2.2.1 (hbx.set _ _).facts.2.2.2.2.1) rfl ⟨rfl, ?_⟩
  exact (((putW_below w (some ⟨g, 0, none⟩) A n c s 0).trans (hb1.mono (by omega))).setCell (by simp; omega) _).setCell (by simp; omega) _
end Go.Proofs.YtopcklpmeaghmaaGreatDoor
/- Put: a name written by a pointer where it can be: the walk. -/
namespace Go.Proofs.YtopcklpmeaghmaaGreatDoor
open Go.RowKit Go.Shelf
attribute [local go_sem] Oper.semAt_some

theorem book_boxes {B b : Nat} {p A : Option Addr} {n c : Nat} {s : ByteArray} {v : Value} {e : Int} (hb : b + 5 ≤ B) : Book B (fun _ W => Boxes W b p A n c s v e) := fun _ W W' row hi hg hr => hi.grown hg (fun r e => by have := (hr r e).1; omega)
theorem put16_nil (q : Nat) (w : World) (hq : q < 65536) :
    Calls Tryz.prog 37 #[.slice none 0 0, .int .u16 q] w fun e w' => ∃ g cp, e = .returned (.slice (some ⟨g, 0, none⟩) 2 2) ∧ w'.ownsRow w.heap.size 5 1 (.slice (some ⟨g, 0, none⟩) 2 cp) 2 (bv (Oc.beb 2 q)) ∧ Below w.heap.size w w' :=
  put_u16 none [] 0 q w (Nat.le_refl 0) (by simp) hq 0 Bs.nil
theorem glue_front (ls : List (List UInt8)) (i : Nat) : (Nm.glue ls).take (Nm.body (ls.take i)).length = Nm.body (ls.take i) := by
  have e : Nm.glue ls = Nm.body (ls.take i) ++ Nm.glue (ls.drop i) := by
    unfold Nm.glue
    rw [← List.append_assoc, ← Nm.body_append, List.take_append_drop]
  rw [e, List.take_left]
theorem set_grown (W : World) (b i : Nat) (u : Value) : W.grownBy (W.setCell ⟨b, i, none⟩ u) (some b) := ⟨rfl, rfl, rfl, by simp, fun j _ hj => heap_setCell_other W ⟨b, i, none⟩ j u (fun e => hj (by rw [e]))⟩
theorem own_set {W : World} {base b i n : Nat} {e : TypeId} {v : Value} {xs : List Value} (h : W.ownsRow base e 1 v n xs) (hb : b < base) (u : Value) : (W.setCell ⟨b, i, none⟩ u).ownsRow base e 1 v n xs := by
  refine h.kept (set_grown W b i u) ?_
  rcases h.2 with ⟨rfl, _⟩ | ⟨g, cap, cur, rfl, hg, _⟩
  · exact .inl rfl
  · refine .inr fun e' => ?_
    have : g = b := by simpa [Value.ownBlock] using e'
    omega
/-- a round has left: the bytes are laid down. -/
def PutX (g base : Nat) (t : Tab) (l : List UInt8) (ls : List (List UInt8)) (w : World) (A : Option Addr) (c : Nat) (s : ByteArray) (k : Code) (_i : Nat) (W : World) : Prop :=
  k = .ret ∧ ∃ B m d mp', Boxes W w.heap.size (some ⟨g, 0, none⟩) A l.length c s (.slice B m d) 0 ∧ W.ownsRow w.heap.size 5 1 (.slice B m d) (l ++ (Pr.pw false t l.length ls).2).length (bv (l ++ (Pr.pw false t l.length ls).2)) ∧ Tb W g base mp' (Pr.pw false t l.length ls).1 ∧ Rg g base w W
theorem own_grown {W W' : World} {B b : Nat} {e : TypeId} {v : Value} {n : Nat} {xs : List Value} {row : Option Nat} (h : W.ownsRow b e 1 v n xs) (hg : W.grownBy W' row) (hr : ∀ r, row = some r → B ≤ r ∧ ∃ o : Obj, W.heap[r]? = some o ∧ isBook o = true) : W'.ownsRow b e 1 v n xs := by
  refine h.kept hg ?_
  rcases h.2 with ⟨rfl, _⟩ | ⟨g, cap, cur, rfl, _, hgb, _⟩
  · exact .inl rfl
  · refine .inr fun e' => ?_
    obtain ⟨_, o, ho, ho2⟩ := hr g (by simpa [Value.ownBlock] using e'.symm)
    rw [hgb] at ho; cases ho; cases ho2
theorem PutX.book {g base : Nat} {t : Tab} {l : List UInt8} {ls : List (List UInt8)} {w : World} {A : Option Addr} {c : Nat} {s : ByteArray} {B : Nat} (hB : w.heap.size + 5 ≤ B) (hg : g < w.heap.size) (hb : base ≤ w.heap.size) (k : Code) : Book B (PutX g base t l ls w A c s k) := by
  rintro i W W' row ⟨hk, B', m, d, mp, h1, h2, h3, h4⟩ hgr hr
  refine ⟨hk, B', m, d, mp, h1.grown hgr (fun r e => by have := (hr r e).1; omega), own_grown h2 hgr hr, h3.grown hgr (fun e => ?_) (fun r e o ho => ?_), h4.grown_new hgr (fun r e => ?_) hb⟩
  · have := (hr g e.symm).1; omega
  · obtain ⟨_, o', ho', hbk⟩ := hr r e
    rw [ho] at ho'
    cases ho'
    cases o <;> simp_all [isBook, isMapO]
  · have := (hr r e).1; omega

set_option maxRecDepth 100000 in
set_option maxHeartbeats 2000000 in
theorem put_in (g base : Nat) (mp : Option Nat) (t : Tab) (A : Option Addr) (l : List UInt8) (c : Nat) (s : ByteArray) (ls : List (List UInt8)) (w : World) (hT : Tb w g base mp t) (hbase : base ≤ w.heap.size)
    (hs : Nm.split s.data.toList = some ls) (_hc : l.length ≤ c) (hnil : A = none → c = 0) (hm : l.length ≤ 140737488355000) (hr : Bs w 0 w.heap.size A l) (ht : t.length ≤ 140737488354000) :
    Calls Tryz.prog 35 #[.pointer (some ⟨g, 0, none⟩), .slice A l.length c, .string s] w (PutDone false g base t l ls w) := by
  obtain ⟨hgl, hgd, h255⟩ := Nm.split_some.1 hs
  have hfew := few hs
  have hgw := hT.2.1.lt
  have hsz : s.size = (Nm.glue ls).length := by rw [← hgl]; simp
  have hs255 : s.size ≤ 255 := by rw [hsz, ← hgl]; exact h255
  have HC : Hid (Calls Tryz.prog 67 #[.pointer (some ⟨g, 0, none⟩), .string s] (PutW w (some ⟨g, 0, none⟩) A l.length c s 0) fun e w' => e = .returned (.int .i64 0) ∧ Below (w.heap.size + 5) (PutW w (some ⟨g, 0, none⟩) A l.length c s 0) w') := by
    have := pcheck_any g s (PutW w (some ⟨g, 0, none⟩) A l.length c s 0) (by omega)
    rw [hs, putW_size] at this
    exact this
  have mixed : Tryz.prog.follows .mixedOrders = true := by kernel_rfl
  refine (callsIn_wide (n := 4)).1 ?_
  refine callsIn_of_wp_marks Tryz.func35 rfl trivial ?_ rfl
  simp only [Tryz.ntmps35, List.size_toArray, List.length_cons, List.length_nil, Nat.reduceAdd, Nat.reduceSub, Array.replicate_succ, Array.replicate_zero, List.push_toArray, List.append_toArray, List.nil_append, List.cons_append]
  have HT := Lib.hid hT
  have HS := Lib.hid hs
  have HR := Lib.hid hr
  have HN := Lib.hid hnil
  have HZ := Lib.hid hsz
  have HG := Lib.hid hgl
  clear hT hs hgl hgd h255 hnil hr hsz
  gi_wp2_with (refine ⟨trivial, ?_⟩; gi_at_call 67; refine (callsIn_wide.2 HC.out).mono ?_; rintro e w2 ⟨rfl, hb2⟩; have hbx := Boxes.below (Boxes.new (p := some ⟨g, 0, none⟩) (A := A) (n := l.length) (c := c) (s := s) (e := 0) w) hb2 (Nat.le_refl _); have hbf2 := hbx.facts.2.2.1)
  gi_wp2_with (refine ⟨trivial, ?_⟩; gi_at_call 68; refine (callsIn_wide.2 (tails_any _ _)).mono ?_; rintro e w3 ⟨rfl, rfl⟩)
  have hbs2 := hb2.size
  rw [putW_size] at hbs2
  have hb03 : Below w.heap.size w (w2.alloc (.cells #[.string s] 23)) := ((putW_below w (some ⟨g, 0, none⟩) A l.length c s 0).trans (hb2.mono (by omega))).alloc (by omega) _
  have HX := Lib.hid (hbx.alloc (.cells #[.string s] 23))
  have HB3 := Lib.hid hb03
  clear hb2 hbx hbf2 hb03 HC
  refine wpIn_rangeFunc_N rfl (by omega) (gf := 92) (lb := #[.pointer (some ⟨w2.heap.size, 0, none⟩)]) rfl trivial (enters_of Tryz.func92 (by kernel_rfl) rfl) (lo := w2.heap.size) (by simp)
    (tails_seq 3 (by omega) w2.heap.size w2.heap.size s ls HS.out _ (Has.fresh w2 _ _) (Nat.le_refl _)) (fun _ => rfl)
    (fun i W => PlI false g base t l ls w i W ∧ Boxes W w.heap.size (some ⟨g, 0, none⟩) A l.length c s (.slice none 0 0) 0)
    (PutX g base t l ls w A c s)
    (book_and (PlI.book (by simp; omega) hgw hbase) (book_boxes (by simp; omega)))
    (PutX.book (by simp; omega) hgw hbase)
    ⟨⟨mp, t, HT.out.below HB3.out, Pr.Cont.zero _ _ _ _, Nat.le_refl _, Pr.Ahead.zero _ _, Rg.of_below HB3.out hbase⟩, HX.out⟩
    (fun i => { tmps := #[.pointer (some ⟨g, 0, none⟩), .slice A l.length c, .string s, .pointer (some ⟨w.heap.size, 0, none⟩), .pointer (some ⟨w.heap.size + 1, 0, none⟩), .pointer (some ⟨w.heap.size + 1 + 1, 0, none⟩), .pointer (some ⟨w.heap.size + 1 + 1 + 1, 0, none⟩), .pointer (some ⟨w.heap.size + 1 + 1 + 1 + 1, 0, none⟩), .int .i64 0,
      .int .i64 ((Nm.body (ls.take i)).length : Nat), sv (Nm.glue (ls.drop i)), undef, undef, .pointer (some ⟨g, 0, none⟩), .string s, .int .i64 0, .int .i64 0, .bool false, undef, .string s, .func (.func 92) #[] #[.pointer (some ⟨w2.heap.size, 0, none⟩)], .int .i64 ((Nm.body (ls.take i)).length : Nat), sv (Nm.glue (ls.drop i)), undef, undef, undef, undef, undef, undef, undef, undef, undef, undef, undef, undef,
      undef, undef, undef, undef, undef, undef, undef, undef, undef, undef, undef, undef, undef, undef, undef, undef, undef, undef, undef, undef], defers := [] }) ?assign ?body ?done ?stop
  case assign =>
    intro l2 i W K hK
    unfold tailV
    gi_wp2
    exact hK
  case body =>
    rintro l2 i W ⟨⟨mp2, T, hT2, hC2, hl2, hA2, hR2⟩, hBX⟩ hi
    have hsz2 := hR2.below.size
    have hbt : (Nm.body (ls.take i)).length ≤ 255 := by
      have h1 := Nm.body_take_le (ls := ls) (i := i)
      have h2 := HZ.out
      rw [Nm.glue_length] at h2
      omega
    have hbt2 : (Nm.body (ls.take i)).length ≤ s.size := by
      have h1 := Nm.body_take_le (ls := ls) (i := i)
      have h2 := HZ.out
      rw [Nm.glue_length] at h2
      omega
    have hgd : (Nm.glue (ls.drop i)).length ≤ 255 := by
      have h1 := glue_at ls i
      have h2 := congrArg List.length h1
      rw [List.length_drop] at h2
      have h3 := HZ.out
      omega
    have hlk := look_tb hT2 (s := ⟨(Nm.glue (ls.drop i)).toArray⟩) (by rw [mk_size]; omega)
    have hcg := hT2.cell
    obtain ⟨k0, k1, k2, k3, k4, z3, z4, k5⟩ := hBX.facts
    have HBX := Lib.hid hBX
    have HT2 := Lib.hid hT2
    have HR2 := Lib.hid hR2
    have HA2 := Lib.hid hA2
    have HC2 := Lib.hid hC2
    clear hBX hT2 hR2 hA2 hC2
    simp only at hlk
    by_cases hf : 0 ≤ findI T (Nm.glue (ls.drop i))
    · obtain ⟨p, hp⟩ : ∃ p : Nat, findI T (Nm.glue (ls.drop i)) = p := ⟨(findI T (Nm.glue (ls.drop i))).toNat, by omega⟩
      have hp16 : p ≤ 16383 := by have := findI_max (n := Nm.glue (ls.drop i)) HT2.out.2.2.1; omega
      rw [if_pos hf, decide_eq_true hf, hp] at hlk
      have HP : Hid (Pr.pw false t l.length ls = (T, Nm.body (ls.take i) ++ Oc.beb 2 (49152 + p))) := by
        have := HC2.out.ptr hi hf
        rw [hp] at this
        exact this
      clear hf hp
      dsimp only
      gi_wp2
      have hS0 : Below W.heap.size W W.drew := (Below.refl _ _).drew
      have hfront : (s.extract 0 (Nm.body (ls.take i)).length).data.toList = Nm.body (ls.take i) := by
        rw [extract_list, HG.out]
        exact glue_front ls i
      have HFR := Lib.hid hfront
      clear hfront
      have hlt := (HBX.out.b4).lt
      have hld1 : ∀ W', Below W.heap.size W W' → W'.cell? ⟨w.heap.size + 1, 0, none⟩ = some (.slice A l.length c) := fun W' h => (h.cell (p := ⟨w.heap.size + 1, 0, none⟩) (show w.heap.size + 1 < W.heap.size by omega)).trans k1
      have hld2 : ∀ W', Below W.heap.size W W' → W'.cell? ⟨w.heap.size + 1 + 1, 0, none⟩ = some (.string s) := fun W' h => (h.cell (p := ⟨w.heap.size + 1 + 1, 0, none⟩) (show w.heap.size + 1 + 1 < W.heap.size by omega)).trans k2
      have hSof : ∀ W', Below W.heap.size W W' → (W'.cell? ⟨w.heap.size + 1, 0, none⟩ = some (.slice A l.length c) ∧ W'.cell? ⟨w.heap.size + 1 + 1, 0, none⟩ = some (.string s)) := fun W' h => ⟨hld1 W' h, hld2 W' h⟩
      have hS00 := hSof _ hS0
      have h16 := or16 p hp16
      obtain ⟨q, hq⟩ : ∃ q : Nat, 49152 + p = q := ⟨_, rfl⟩
      have hq2 : q < 65536 := by omega
      rw [hq] at h16 HP
      clear hq
      have hz0 : (0 : Int) ≤ ((Nm.body (ls.take i)).length : Int) := by omega
      have hz1 : ((Nm.body (ls.take i)).length : Int) ≤ (s.size : Int) := by omega
      clear k0 k1 k2 k3 k4 z3 z4 k5 hlk hcg
      refine wpIn_region_S2 (S := fun W' => W'.cell? ⟨w.heap.size + 1, 0, none⟩ = some (.slice A l.length c) ∧ W'.cell? ⟨w.heap.size + 1 + 1, 0, none⟩ = some (.string s)) mixed 12 #[false, false, false, false, false, false, false, false, false, false, false, false] rfl rfl ?_
      refine wpAnyS_take (i := 0) (v := .slice A l.length c) rfl (by kernel_rfl) (by kernel_rfl) (by kernel_rfl) (by kernel_rfl) (fun _ _ _ h => h) ⟨Or.inl ⟨by rfl, fun W' hW' => (by have := hW'.1; go_simp)⟩, rfl, fun _ => rfl⟩ hS00 ?_
      simp only [Act.put, List.setIfInBounds_toArray, List.set_cons_zero]
      refine wpAnyS_take (i := 1) (v := .string s) rfl (by kernel_rfl) (by kernel_rfl) (by kernel_rfl) (by kernel_rfl) (fun _ _ _ h => h) ⟨Or.inl ⟨by rfl, fun W' hW' => (by have := hW'.2; go_simp)⟩, rfl, fun _ => rfl⟩ hS00 ?_
      simp only [Act.put, List.setIfInBounds_toArray, List.set_cons_zero, List.set_cons_succ]
      refine wpAnyS_take (i := 2) (v := .int .i64 ((Nm.body (ls.take i)).length : Nat)) rfl (by kernel_rfl) (by kernel_rfl) (by kernel_rfl) (by kernel_rfl) (fun _ _ _ h => h) ⟨Or.inl ⟨by rfl, fun W' hW' => (by go_simp)⟩, rfl, fun _ => rfl⟩ hS00 ?_
      simp only [Act.put, List.setIfInBounds_toArray, List.set_cons_zero, List.set_cons_succ]
      refine wpAnyS_take (i := 3) (v := .string (s.extract 0 (Nm.body (ls.take i)).length)) rfl (by kernel_rfl) (by kernel_rfl) (by kernel_rfl) (by kernel_rfl) (fun _ _ _ h => h) ⟨Or.inl ⟨by rfl, fun W' hW' => (by go_simp)⟩, rfl, fun _ => rfl⟩ hS00 ?_
      simp only [Act.put, List.setIfInBounds_toArray, List.set_cons_zero, List.set_cons_succ]
      refine wpAnyS_take (i := 5) (v := .int .u16 p) rfl (by kernel_rfl) (by kernel_rfl) (by kernel_rfl) (by kernel_rfl) (fun _ _ _ h => h) ⟨Or.inl ⟨by rfl, fun W' hW' => (by go_simp)⟩, rfl, fun _ => rfl⟩ hS00 ?_
      simp only [Act.put, List.setIfInBounds_toArray, List.set_cons_zero, List.set_cons_succ]
      refine wpAnyS_take (i := 6) (v := .int .u16 (q : Int)) rfl (by kernel_rfl) (by kernel_rfl) (by kernel_rfl) (by kernel_rfl) (fun _ _ _ h => h) ⟨Or.inl ⟨by rfl, fun W' hW' => (by rw [← h16]; go_simp)⟩, rfl, fun _ => rfl⟩ hS00 ?_
      simp only [Act.put, List.setIfInBounds_toArray, List.set_cons_zero, List.set_cons_succ]
      refine wpAnyS_ready (rs := [4, 7]) (by kernel_rfl) (by simp) ?_
      refine AllS.cons rfl rfl (fun K hK => ?_) (AllS.cons rfl rfl (fun K hK => ?_) AllS.nil)
      · obtain ⟨cap6, w6, hr6, hb6, hcap6, hbl6, hsz6⟩ := run_bytes_new (P := Tryz.prog) W.drew 23 48 5 (s.extract 0 (Nm.body (ls.take i)).length) Tryz.underlying23 Tryz.underlying48 Tryz.underlying5
        go_simp
        have hS6 : Below W.heap.size W w6 := hS0.trans hbl6
        have hz6 : w6.heap.size = W.heap.size + 1 := hsz6
        have hb66 : Bs w6 W.heap.size (W.heap.size + 1) (some ⟨W.heap.size, 0, none⟩) (Nm.body (ls.take i)) := by have := hb6; rw [HFR.out] at this; exact this
        clear hb6 hsz6 hbl6
        refine hK _ _ (hSof _ hS6) ?_
        clear hK K hr6
        refine wpAnyS_ready (rs := [7]) (by kernel_rfl) (by simp) (AllS.cons rfl rfl (fun K hK => ?_) AllS.nil)
        go_simp
        refine ⟨trivial, (CallsIn.inRound l2 (callsIn_wide.2 (put16_nil q w6 hq2))).mono ?_⟩
        rintro e w7 ⟨g7, cp7, rfl, hO7, hB7⟩
        have hs67 := hB7.size
        have hS7 : Below W.heap.size W w7 := hS6.trans (hB7.mono (by omega))
        have hbp := (Bs.of_own hO7).more (Nat.zero_le _) (Nat.le_refl _)
        have hbb := (hb66.keep (hB7.mono (by omega))).more (Nat.zero_le _) (by omega : _ ≤ w7.heap.size)
        refine hK _ _ (hSof _ hS7) ?_
        clear hK K hO7 hB7 hb66
        refine wpAnyS_ready (rs := [8]) (by kernel_rfl) (by simp) (AllS.cons rfl rfl (fun K hK => ?_) AllS.nil)
        go_simp
        have hS8 := hS7.alloc (Nat.le_trans (Nat.le_refl _) hS7.size) (.cells #[.slice A l.length c, .slice (some ⟨W.heap.size, 0, none⟩) (Nm.body (ls.take i)).length cap6, .slice (some ⟨g7, 0, none⟩) 2 2] 48)
        have hF := Has.fresh w7 48 #[.slice A l.length c, .slice (some ⟨W.heap.size, 0, none⟩) (Nm.body (ls.take i)).length cap6, .slice (some ⟨g7, 0, none⟩) 2 2]
        have hcat := concat3 w7.heap.size A (some ⟨W.heap.size, 0, none⟩) (some ⟨g7, 0, none⟩) c cap6 2 l.length (Nm.body (ls.take i)).length 2 l (Nm.body (ls.take i)) (Oc.beb 2 q) (w7.alloc (.cells #[.slice A l.length c, .slice (some ⟨W.heap.size, 0, none⟩) (Nm.body (ls.take i)).length cap6, .slice (some ⟨g7, 0, none⟩) 2 2] 48))
          (by simp) (by rw [hF.cell]; rfl) (by rw [hF.cell]; rfl) (by rw [hF.cell]; rfl) rfl rfl (by simp [Oc.beb])
          ((((HR2.out.bs HT.out HR.out).more (Nat.le_refl _) hsz2).keep hS8).more (Nat.le_refl _) hS8.size) ((hbb.alloc (Nat.le_refl _) _).more (Nat.le_refl _) (by simp)) ((hbp.alloc (Nat.le_refl _) _).more (Nat.le_refl _) (by simp)) HN.out (fun e => by cases e) (fun e => by cases e) (by simp [Oc.beb]; omega)
        have HCAT := Lib.hid hcat
        clear hF hcat hbb hbp
        refine hK _ _ (hSof _ hS8) ?_
        clear hK K
        refine wpAnyS_ready (rs := [9]) (by kernel_rfl) (by simp) (AllS.cons rfl rfl (fun K hK => ?_) AllS.nil)
        go_simp
        refine ⟨trivial, ?_⟩
        (with_reducible refine (CallsIn.inRound l2 (callsIn_wide.2 HCAT.out)).mono ?_)
        rintro e w9 ⟨v9, rfl, hO9, hB9⟩
        obtain ⟨n9, hn9⟩ : ∃ n9, (l ++ (Nm.body (ls.take i) ++ Oc.beb 2 q)).length = n9 := ⟨_, rfl⟩
        rw [hn9] at hO9
        have HN9 := Lib.hid hn9
        clear hn9
        obtain ⟨A9, d9, rfl⟩ := own_form hO9
        have HO9 := Lib.hid hO9
        clear hO9
        have hS9 : Below W.heap.size W w9 := hS8.trans (hB9.mono hS8.size)
        have hsz8 := hS8.size
        have hsz7 := hS7.size
        have hbx9 := Boxes.below HBX.out hS9 (by omega)
        obtain ⟨k0, k1, k2, k3, k4, z3, z4, k5⟩ := hbx9.facts
        refine hK _ _ (hSof _ hS9) ?_
        clear hK K
        refine wpAnyS_ready (rs := [10]) (by kernel_rfl) (by simp) (AllS.cons rfl rfl (fun K hK => ?_) AllS.nil)
        go_simp
        refine hK _ _ ⟨by rw [(hbx9.b1.far (p := ⟨w.heap.size + 1 + 1 + 1, 0, none⟩) (by simp) _).cell]; rfl, by rw [(hbx9.b2.far (p := ⟨w.heap.size + 1 + 1 + 1, 0, none⟩) (by simp) _).cell]; rfl⟩ ?_
        clear hK K
        refine wpAnyS_ready (rs := [11]) (by kernel_rfl) (by simp) (AllS.cons rfl rfl (fun K hK => ?_) AllS.nil)
        go_simp
        have hbx := hbx9.set (.slice A9 n9 d9) 0
        refine hK _ _ ⟨hbx.facts.2.1, hbx.facts.2.2.1⟩ ?_
        clear hK K
        refine wpAnyS_done (by kernel_rfl) ?_ _
        clear k0 k1 k2 k3 k4 z3 z4 k5
        gi_wp2
        have hlt9 := hS9.size
        refine ⟨((Keeps.of_below hS9 (Nat.le_refl _)).trans (Keeps.setCell _ (by simp; omega))).trans (Keeps.setCell _ (by simp; omega)), rfl, A9, n9, d9, mp2, hbx, ?_, ?_, ?_⟩
        · rw [HP.out]
          exact own_to (own_mono (own_set (own_set HO9.out (by simp; omega) _) (by simp; omega) _) (by simp; omega)) HN9.out.symm rfl
        · rw [HP.out]
          exact ((HT2.out.below hS9).set (by omega) hbx9.b3).set (by omega) (hbx9.b4.far (p := ⟨w.heap.size + 1 + 1 + 1, 0, none⟩) (by simp) _)
        · exact (((HR2.out.more hS9 hbase).grown_new (set_grown _ _ _ _) (fun r e => by cases e; omega) hbase).grown_new (set_grown _ _ _ _) (fun r e => by cases e; omega) hbase)
      · go_simp
        refine ⟨trivial, (CallsIn.inRound l2 (callsIn_wide.2 (put16_nil q W.drew hq2))).mono ?_⟩
        rintro e w6 ⟨g7, cp7, rfl, hO6, hB6⟩
        have hS6 : Below W.heap.size W w6 := hS0.trans hB6
        have hs6 := hS6.size
        refine hK _ _ (hSof _ hS6) ?_
        clear hK K
        refine wpAnyS_ready (rs := [4]) (by kernel_rfl) (by simp) (AllS.cons rfl rfl (fun K hK => ?_) AllS.nil)
        obtain ⟨cap6, w7, hr6, hb6, hcap6, hbl6, hsz6⟩ := run_bytes_new (P := Tryz.prog) w6 23 48 5 (s.extract 0 (Nm.body (ls.take i)).length) Tryz.underlying23 Tryz.underlying48 Tryz.underlying5
        go_simp
        have hS7 : Below W.heap.size W w7 := hS6.trans (hbl6.mono hs6)
        have hbp := ((Bs.of_own hO6).more (Nat.zero_le _) (Nat.le_refl _)).keep hbl6
        have hbp := hbp.more (Nat.le_refl _) (by omega : _ ≤ w7.heap.size)
        have hbb : Bs w7 0 w7.heap.size (some ⟨w6.heap.size, 0, none⟩) (Nm.body (ls.take i)) := by have := hb6.more (Nat.zero_le _) (by omega : _ ≤ w7.heap.size); rw [HFR.out] at this; exact this
        refine hK _ _ (hSof _ hS7) ?_
        have hs67 : w6.heap.size + 1 ≤ w7.heap.size := by omega
        clear hK K hO6 hB6 hb6 hr6 hbl6 hsz6
        refine wpAnyS_ready (rs := [8]) (by kernel_rfl) (by simp) (AllS.cons rfl rfl (fun K hK => ?_) AllS.nil)
        go_simp
        have hS8 := hS7.alloc (Nat.le_trans (Nat.le_refl _) hS7.size) (.cells #[.slice A l.length c, .slice (some ⟨w6.heap.size, 0, none⟩) (Nm.body (ls.take i)).length cap6, .slice (some ⟨g7, 0, none⟩) 2 2] 48)
        have hF := Has.fresh w7 48 #[.slice A l.length c, .slice (some ⟨w6.heap.size, 0, none⟩) (Nm.body (ls.take i)).length cap6, .slice (some ⟨g7, 0, none⟩) 2 2]
        have hcat := concat3 w7.heap.size A (some ⟨w6.heap.size, 0, none⟩) (some ⟨g7, 0, none⟩) c cap6 2 l.length (Nm.body (ls.take i)).length 2 l (Nm.body (ls.take i)) (Oc.beb 2 q) (w7.alloc (.cells #[.slice A l.length c, .slice (some ⟨w6.heap.size, 0, none⟩) (Nm.body (ls.take i)).length cap6, .slice (some ⟨g7, 0, none⟩) 2 2] 48))
          (by simp) (by rw [hF.cell]; rfl) (by rw [hF.cell]; rfl) (by rw [hF.cell]; rfl) rfl rfl (by simp [Oc.beb])
          ((((HR2.out.bs HT.out HR.out).more (Nat.le_refl _) hsz2).keep hS8).more (Nat.le_refl _) hS8.size) ((hbb.alloc (Nat.le_refl _) _).more (Nat.le_refl _) (by simp)) ((hbp.alloc (Nat.le_refl _) _).more (Nat.le_refl _) (by simp)) HN.out (fun e => by cases e) (fun e => by cases e) (by simp [Oc.beb]; omega)
        have HCAT := Lib.hid hcat
        clear hF hcat hbb hbp
        refine hK _ _ (hSof _ hS8) ?_
        clear hK K
        refine wpAnyS_ready (rs := [9]) (by kernel_rfl) (by simp) (AllS.cons rfl rfl (fun K hK => ?_) AllS.nil)
        go_simp
        refine ⟨trivial, ?_⟩
        (with_reducible refine (CallsIn.inRound l2 (callsIn_wide.2 HCAT.out)).mono ?_)
        rintro e w9 ⟨v9, rfl, hO9, hB9⟩
        obtain ⟨n9, hn9⟩ : ∃ n9, (l ++ (Nm.body (ls.take i) ++ Oc.beb 2 q)).length = n9 := ⟨_, rfl⟩
        rw [hn9] at hO9
        have HN9 := Lib.hid hn9
        clear hn9
        obtain ⟨A9, d9, rfl⟩ := own_form hO9
        have HO9 := Lib.hid hO9
        clear hO9
        have hS9 : Below W.heap.size W w9 := hS8.trans (hB9.mono hS8.size)
        have hsz8 := hS8.size
        have hsz7 := hS7.size
        have hbx9 := Boxes.below HBX.out hS9 (by omega)
        obtain ⟨k0, k1, k2, k3, k4, z3, z4, k5⟩ := hbx9.facts
        refine hK _ _ (hSof _ hS9) ?_
        clear hK K
        refine wpAnyS_ready (rs := [10]) (by kernel_rfl) (by simp) (AllS.cons rfl rfl (fun K hK => ?_) AllS.nil)
        go_simp
        refine hK _ _ ⟨by rw [(hbx9.b1.far (p := ⟨w.heap.size + 1 + 1 + 1, 0, none⟩) (by simp) _).cell]; rfl, by rw [(hbx9.b2.far (p := ⟨w.heap.size + 1 + 1 + 1, 0, none⟩) (by simp) _).cell]; rfl⟩ ?_
        clear hK K
        refine wpAnyS_ready (rs := [11]) (by kernel_rfl) (by simp) (AllS.cons rfl rfl (fun K hK => ?_) AllS.nil)
        go_simp
        have hbx := hbx9.set (.slice A9 n9 d9) 0
        refine hK _ _ ⟨hbx.facts.2.1, hbx.facts.2.2.1⟩ ?_
        clear hK K
        refine wpAnyS_done (by kernel_rfl) ?_ _
        clear k0 k1 k2 k3 k4 z3 z4 k5
        gi_wp2
        have hlt9 := hS9.size
        refine ⟨((Keeps.of_below hS9 (Nat.le_refl _)).trans (Keeps.setCell _ (by simp; omega))).trans (Keeps.setCell _ (by simp; omega)), rfl, A9, n9, d9, mp2, hbx, ?_, ?_, ?_⟩
        · rw [HP.out]
          exact own_to (own_mono (own_set (own_set HO9.out (by simp; omega) _) (by simp; omega) _) (by simp; omega)) HN9.out.symm rfl
        · rw [HP.out]
          exact ((HT2.out.below hS9).set (by omega) hbx9.b3).set (by omega) (hbx9.b4.far (p := ⟨w.heap.size + 1 + 1 + 1, 0, none⟩) (by simp) _)
        · exact (((HR2.out.more hS9 hbase).grown_new (set_grown _ _ _ _) (fun r e => by cases e; omega) hbase).grown_new (set_grown _ _ _ _) (fun r e => by cases e; omega) hbase)
    · rw [if_neg hf, decide_eq_false hf] at hlk
      have hrem := remember_any g base mp2 T ⟨(Nm.glue (ls.drop i)).toArray⟩ (l.length + (Nm.body (ls.take i)).length) W HT2.out (by omega) (by rw [mk_size]; omega) (by omega) (by omega)
      rw [Int.natCast_add] at hrem
      have HREM := Lib.hid hrem
      have HF := Lib.hid hf
      clear hrem hf
      dsimp only
      gi_wp2_with (refine ⟨trivial, ?_⟩; gi_at_call 69; refine (CallsIn.inRound l2 (callsIn_wide.2 HREM.out)).mono ?_; rintro e w5 ⟨rfl, mp5, hT5, hR5⟩)
      have hlen := Pr.rem_len T (Nm.glue (ls.drop i)) (l.length + (Nm.body (ls.take i)).length)
      exact ⟨hR5.keeps (by omega), ⟨mp5, _, hT5, HC2.out.step hi (fun h => absurd h.1 (Int.not_le.2 HF.out)), by omega, HA2.out.step hi, HR2.out.trans hR5⟩, HBX.out.rg hR5 hgw⟩
  case done =>
    rintro D W hD ⟨⟨mp2, T, hT2, hC2, hl2, hA2, hR2⟩, hBX⟩ hK
    obtain ⟨k0, k1, k2, k3, k4, z3, z4, k5⟩ := hBX.facts
    have hsz2 := hR2.below.size
    have hlt := hBX.b4.lt
    have hDl := (Array.getElem?_eq_some_iff.1 hK).1
    simp only [World.size_alloc] at hD
    have HK := Lib.hid hK
    have HT2 := Lib.hid hT2
    have HP := Lib.hid hC2.done
    have HR2 := Lib.hid hR2
    have HBX := Lib.hid hBX
    have HB := Lib.hid ((hR2.bs HT.out HR.out).more (Nat.le_refl _) hsz2)
    clear hK hT2 hC2 hA2 hR2 hBX k0 k3 k4 z3 z4 k5
    dsimp only
    gi_wp2_with (refine wpListIn_bytes rfl 23 48 (.tmp 51) rfl 5 Tryz.underlying23 Tryz.underlying48 Tryz.underlying5 s rfl ?_; intro cap w6 hb6 hcap6 hbl6 hsz6)
    have hF := Has.fresh w6 48 #[.slice A l.length c, .slice (some ⟨W.heap.size, 0, none⟩) s.size cap]
    rw [hsz6] at hF
    have hsl : s.size = s.data.toList.length := by simp
    have hbl7 : Below W.heap.size W (w6.alloc (.cells #[.slice A l.length c, .slice (some ⟨W.heap.size, 0, none⟩) s.size cap] 48)) := hbl6.alloc (by omega) _
    have hcat := concat2 (W.heap.size + 1) A (some ⟨W.heap.size, 0, none⟩) c cap l.length s.size l s.data.toList (w6.alloc (.cells #[.slice A l.length c, .slice (some ⟨W.heap.size, 0, none⟩) s.size cap] 48))
      (by simp; omega) (by rw [hF.cell]; rfl) (by rw [hF.cell]; rfl) rfl hsl ((HB.out.keep hbl7).more (Nat.le_refl _) (by simp; omega)) ((hb6.alloc (by omega) _).more (Nat.zero_le _) (by simp; omega)) HN.out (fun e => by cases e) (by rw [List.length_append, ← hsl]; omega)
    have HCAT := Lib.hid hcat
    have HB7 := Lib.hid hbl7
    clear hb6 hF hcat hsl hbl6 hbl7
    gi_wp2_with (refine ⟨trivial, ?_⟩; gi_at_call 34; refine (callsIn_wide.2 HCAT.out).mono ?_; rintro e w8 ⟨v8, rfl, hO8, hB8⟩; obtain ⟨n9, hn9⟩ : ∃ n9, (l ++ s.data.toList).length = n9 := ⟨_, rfl⟩; rw [hn9] at hO8; have HN9 := Lib.hid hn9; clear hn9; obtain ⟨A9, d9, rfl⟩ := own_form hO8; have HO8 := Lib.hid hO8; clear hO8; have HB8 := Lib.hid hB8; have hbx8 := Boxes.below HBX.out (HB7.out.trans (hB8.mono (by simp; omega))) (by omega); clear hB8; obtain ⟨k0, k1', k2', k3, k4, z3, z4, k5⟩ := hbx8.facts)
    have hsz8 := HB8.out.size
    simp only [World.size_alloc] at hsz8
    have hB08 : Below W.heap.size W w8 := HB7.out.trans (HB8.out.mono (by simp; omega))
    have hbx := hbx8.set (.slice A9 n9 d9) 0
    have hK8 : ((w8.setCell ⟨w.heap.size + 1 + 1 + 1, 0, none⟩ (.slice A9 n9 d9)).setCell ⟨w.heap.size + 1 + 1 + 1 + 1, 0, none⟩ (.int .i64 0)).heap[D]? = some (.deferred (some [])) := by
      rw [heap_setCell_other _ _ _ _ (by show D ≠ w.heap.size + 1 + 1 + 1 + 1; omega), heap_setCell_other _ _ _ _ (by show D ≠ w.heap.size + 1 + 1 + 1; omega)]
      exact (hB08.block D hDl).trans HK.out
    refine ⟨by simp, .inl ⟨_, _, rfl, run_takeDeferred hK8, ?_⟩⟩
    have hbxf := hbx.grown (grownBy_putObj' _ D (.deferred none)) (fun r e => by cases e; omega)
    refine ⟨_, put_results rfl rfl hbxf.facts.2.2.2.1 hbxf.facts.2.2.2.2.1, _, mp2, rfl, ?_, ?_, ?_⟩
    · rw [HP.out, ← HG.out]
      refine ownsRow_putObj ?_ _ hK8 rfl
      exact own_to (own_mono (own_set (own_set HO8.out (by simp; omega) _) (by simp; omega) _) (by simp; omega)) HN9.out.symm rfl
    · rw [HP.out]
      refine Tb.grown (((HT2.out.below hB08).set (by omega) hbx8.b3).set (by omega) (hbx8.b4.far (p := ⟨w.heap.size + 1 + 1 + 1, 0, none⟩) (by simp) _)) (grownBy_putObj' _ D _) (fun e => ?_) (fun r e o ho => ?_)
      · injection e with e; omega
      · cases e; rw [hK8] at ho; cases ho; rfl
    · exact ((((HR2.out.more hB08 hbase).grown_new (set_grown _ _ _ _) (fun r e => by cases e; omega) hbase).grown_new (set_grown _ _ _ _) (fun r e => by cases e; omega) hbase)).grown_new (grownBy_putObj' _ D _) (fun r e => by cases e; omega) hbase
  case stop =>
    rintro D k i W hD ⟨rfl, B, m, d, mp2, hBX, hO, hT2, hR2⟩ hK
    simp only [World.size_alloc] at hD
    gi_wp2
    refine ⟨by simp, .inl ⟨_, _, rfl, run_takeDeferred hK, ?_⟩⟩
    have hbxf := hBX.grown (grownBy_putObj' _ D (.deferred none)) (fun r e => by cases e; omega)
    refine ⟨_, put_results rfl rfl hbxf.facts.2.2.2.1 hbxf.facts.2.2.2.2.1, _, mp2, rfl, ownsRow_putObj hO _ hK rfl, ?_, hR2.grown_new (grownBy_putObj' _ D _) (fun r e => by cases e; omega) hbase⟩
    refine hT2.grown (grownBy_putObj' _ D _) (fun e => ?_) (fun r e o ho => ?_)
    · injection e with e; omega
    · cases e; rw [hK] at ho; cases ho; rfl
end Go.Proofs.YtopcklpmeaghmaaGreatDoor
/- Put: the program's, any type. -/
namespace Go.Proofs.YtopcklpmeaghmaaGreatDoor
open Go.RowKit

/-- a value that is a slice of these bytes. -/
def RdS (W : World) (v : Value) (l : List UInt8) : Prop := ∃ A c, v = .slice A l.length c ∧ l.length ≤ c ∧ (A = none → c = 0) ∧ Bs W 0 W.heap.size A l
theorem rds_own {W : World} {b : Nat} {v : Value} {l : List UInt8} (h : W.ownsRow b 5 1 v l.length (bv l)) : RdS W v l := by
  obtain ⟨A, c, rfl⟩ := own_form h
  refine ⟨A, c, rfl, ?_, fun hA => ?_, (Bs.of_own h).more (Nat.zero_le _) (Nat.le_refl _)⟩
  · rcases h.2 with ⟨hv, h0⟩ | ⟨g, cap, cur, hv, _, _, hc, _⟩
    · injection hv with _ _ h3; omega
    · injection hv with _ _ h3; omega
  · subst hA
    rcases h.2 with ⟨hv, _⟩ | ⟨g, cap, cur, hv, _⟩
    · injection hv
    · injection hv with h1; cases h1
theorem rds_tight {W : World} {b g cp : Nat} {l : List UInt8} (h : W.ownsRow b 5 1 (.slice (some ⟨g, 0, none⟩) l.length cp) l.length (bv l)) : RdS W (.slice (some ⟨g, 0, none⟩) l.length l.length) l :=
  ⟨_, _, rfl, Nat.le_refl _, (fun e => by cases e), (Bs.of_own h).more (Nat.zero_le _) (Nat.le_refl _)⟩
/-- a row of the call's own, perhaps cut at its end. -/
def RowO (W : World) (b : Nat) (v : Value) (l : List UInt8) : Prop :=
  W.ownsRow b 5 1 v l.length (bv l) ∨ ∃ g cp, v = .slice (some ⟨g, 0, none⟩) l.length l.length ∧ W.ownsRow b 5 1 (.slice (some ⟨g, 0, none⟩) l.length cp) l.length (bv l)
theorem RowO.rds {W : World} {b : Nat} {v : Value} {l : List UInt8} (h : RowO W b v l) : RdS W v l := by
  rcases h with h | ⟨g, cp, rfl, h⟩
  · exact rds_own h
  · exact rds_tight h
theorem RowO.mono {W : World} {b b' : Nat} {v : Value} {l : List UInt8} (h : RowO W b v l) (hb : b' ≤ b) : RowO W b' v l := by
  rcases h with h | ⟨g, cp, rfl, h⟩
  · exact .inl (own_mono h hb)
  · exact .inr ⟨g, cp, rfl, own_mono h hb⟩
theorem RowO.below {W W' : World} {b : Nat} {v : Value} {l : List UInt8} (h : RowO W b v l) (hb : Below W.heap.size W W') : RowO W' b v l := by
  rcases h with h | ⟨g, cp, rfl, h⟩
  · exact .inl (own_below h hb (Nat.le_refl _))
  · exact .inr ⟨g, cp, rfl, own_below h hb (Nat.le_refl _)⟩
/-- while the parts of data are being written. -/
def PuP (w1 : World) (g base gd : Nat) (T : Tab) (l : List UInt8) (d : Dv) (hl ml : List (List UInt8)) (ps : List Nat) (v : Value) (W : World) : Prop :=
  ∃ mp, RdS W v (Rd.wrs T l d.dt hl ml ps).2.1 ∧ Tb W g base mp (Rd.wrs T l d.dt hl ml ps).1 ∧ Rg g base w1 W ∧ Has W gd 27 d.cells ∧ w1.heap.size ≤ W.heap.size ∧
    (Rd.wrs T l d.dt hl ml ps).2.1.length ≤ l.length + 70000 * ps.length ∧ (Rd.wrs T l d.dt hl ml ps).1.length ≤ T.length + 200 * ps.length ∧ ((∃ p ∈ ps, p ≠ 0) → RowO W w1.heap.size v (Rd.wrs T l d.dt hl ml ps).2.1)
section
variable {w1 W W' : World} {g base gd : Nat} {T : Tab} {l : List UInt8} {d : Dv} {hl ml : List (List UInt8)} {ps : List Nat} {v v' : Value}
/-- bytes that were put behind, the table as it was. -/
theorem pup_low (h : PuP w1 g base gd T l d hl ml ps v W) (hb : base ≤ w1.heap.size) (k : Below W.heap.size W W') (p : Nat) (x : List UInt8) (hx : x.length ≤ 70000)
    (he : Rd.wr1 d.dt hl ml (Rd.nums ps) p (Rd.wrs T l d.dt hl ml ps).1 (Rd.wrs T l d.dt hl ml ps).2.1 = ((Rd.wrs T l d.dt hl ml ps).1, (Rd.wrs T l d.dt hl ml ps).2.1 ++ x))
    (hv : RowO W' W.heap.size v' ((Rd.wrs T l d.dt hl ml ps).2.1 ++ x)) : PuP w1 g base gd T l d hl ml (ps ++ [p]) v' W' := by
  obtain ⟨mp, _, h2, h3, h4, h5, h6, h7, _⟩ := h
  have hs := Rd.wrs_snoc T l d.dt hl ml ps p
  rw [he] at hs
  refine ⟨mp, by rw [hs.2]; exact hv.rds, by rw [hs.1]; exact h2.below k, h3.more k hb, h4.below k h4.lt, Nat.le_trans h5 k.size, ?_, ?_, fun _ => by rw [hs.2]; exact hv.mono h5⟩
  · rw [hs.2]; simp only [List.length_append, List.length_cons, List.length_nil]; omega
  · rw [hs.1]; simp only [List.length_append, List.length_cons, List.length_nil]; omega
theorem pup_same (h : PuP w1 g base gd T l d hl ml ps v W) (p : Nat) (hp : p = 0)
    (he : Rd.wr1 d.dt hl ml (Rd.nums ps) p (Rd.wrs T l d.dt hl ml ps).1 (Rd.wrs T l d.dt hl ml ps).2.1 = ((Rd.wrs T l d.dt hl ml ps).1, (Rd.wrs T l d.dt hl ml ps).2.1)) : PuP w1 g base gd T l d hl ml (ps ++ [p]) v W := by
  obtain ⟨mp, h1, h2, h3, h4, h5, h6, h7, h8⟩ := h
  have hs := Rd.wrs_snoc T l d.dt hl ml ps p
  rw [he] at hs
  refine ⟨mp, by rw [hs.2]; exact h1, by rw [hs.1]; exact h2, h3, h4, h5, ?_, ?_, fun ⟨q, hq, hq0⟩ => by rw [hs.2]; exact h8 ⟨q, (List.mem_append.1 hq).resolve_right (fun e => hq0 ((List.mem_singleton.1 e).trans hp)), hq0⟩⟩
  · rw [hs.2]; simp only [List.length_append, List.length_cons, List.length_nil]; omega
  · rw [hs.1]; simp only [List.length_append, List.length_cons, List.length_nil]; omega
/-- a name that was put behind. -/
theorem pup_name (h : PuP w1 g base gd T l d hl ml ps v W) (hne : gd ≠ g) (plain : Bool) (ls : List (List UInt8)) (hg : Nm.Good ls) (h255 : (Nm.glue ls).length ≤ 255) (p : Nat)
    (he : Rd.wr1 d.dt hl ml (Rd.nums ps) p (Rd.wrs T l d.dt hl ml ps).1 (Rd.wrs T l d.dt hl ml ps).2.1 = ((Pr.pw plain (Rd.wrs T l d.dt hl ml ps).1 (Rd.wrs T l d.dt hl ml ps).2.1.length ls).1, (Rd.wrs T l d.dt hl ml ps).2.1 ++ (Pr.pw plain (Rd.wrs T l d.dt hl ml ps).1 (Rd.wrs T l d.dt hl ml ps).2.1.length ls).2))
    {e : Ending} (hd : PutDone plain g base (Rd.wrs T l d.dt hl ml ps).1 (Rd.wrs T l d.dt hl ml ps).2.1 ls W e W') : ∃ v', e = .returned (.tuple #[v', .int .i64 0]) ∧ PuP w1 g base gd T l d hl ml (ps ++ [p]) v' W' := by
  obtain ⟨mp, _, h2, h3, h4, h5, h6, h7, _⟩ := h
  obtain ⟨v', mp', he2, k1, k2, k3⟩ := hd
  have hs := Rd.wrs_snoc T l d.dt hl ml ps p
  rw [he] at hs
  have p3 := (Pr.pw_len plain ls (Rd.wrs T l d.dt hl ml ps).1 (Rd.wrs T l d.dt hl ml ps).2.1.length).2.2.1 hg
  have p4 := Pr.pw_tab plain ls (Rd.wrs T l d.dt hl ml ps).1 (Rd.wrs T l d.dt hl ml ps).2.1.length
  have hc := Nm.good_count hg
  have hgl := Nm.glue_length ls
  refine ⟨v', he2, mp', by rw [hs.2]; exact rds_own k1, by rw [hs.1]; exact k2, h3.trans k3, k3.has h4 hne, Nat.le_trans h5 k3.below.size, ?_, ?_, fun _ => by rw [hs.2]; exact .inl (own_mono k1 h5)⟩
  · rw [hs.2]; simp only [List.length_append, List.length_cons, List.length_nil]; omega
  · rw [hs.1]; simp only [List.length_append, List.length_cons, List.length_nil]; omega
end
end Go.Proofs.YtopcklpmeaghmaaGreatDoor
