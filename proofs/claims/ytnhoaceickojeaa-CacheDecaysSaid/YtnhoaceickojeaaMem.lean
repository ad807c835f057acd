/- Plain words and lemmas over memory that all texts of a seat use: no function of the program is named. -/
import Derived.Test.YtnhoaceickojeaaRows
import Derived.WalkKit
import Derived.WalkSpells
import Derived.WalkLawsBesides
import Derived.Lib.Hide
import Derived.Deep.QuietTactic
import Derived.BigQuiet
import Derived.Lib.Strings
import Derived.ArgAppend
import Derived.Laws.AppendOwnNone
import Derived.Lib.FrozenHead
namespace Go.Proofs.Ytnhoaceickojeaa
open Go.RowKit

/-- The bytes of a list as values. -/
def bv (l : List UInt8) : List Value := l.map fun c => Value.int .u8 (c.toNat : Int)
theorem bv_append (a b : List UInt8) : bv (a ++ b) = bv a ++ bv b := by simp [bv]
theorem bv_length (a : List UInt8) : (bv a).length = a.length := by simp [bv]

theorem Try.infoByte : (Try.prog.info? 5).map (fun i => (i.zero, i.size, i.bytes)) = some (some (.int .u8 0), 1, 1) := by kernel_rfl
theorem Try.infoString : (Try.prog.info? 9).map (fun i => (i.zero, i.size, i.bytes)) = some (some (.string ⟨#[]⟩), 1, 16) := by kernel_rfl


theorem ret_int {k : IntKind} {a b : Int} (h : a = b) : Ending.returned (.int k a) = .returned (.int k b) := by rw [h]
theorem ret_bool {a b : Bool} (h : a = b) : Ending.returned (.bool a) = .returned (.bool b) := by rw [h]

theorem own_cells {w : World} {base : Nat} {e : TypeId} {g : Nat} {n c : Nat} {xs : List Value} (h : w.ownsRow base e 1 (.slice (some ⟨g, 0, none⟩) n c) n xs) (j : Nat) (u : Value) (hu : xs[j]? = some u) : w.cell? ⟨g, j, none⟩ = some u := by
  have := h.cells (g := g) rfl j u hu
  unfold Addr.add at this
  split at this <;> simp_all

section
variable {P : Program} (w : World)
theorem run_convert_own (src dst e : TypeId) (hs : P.underlying src = some (.slice e)) (he : P.underlying e = some (.int .u8)) (hd : P.underlying dst = some .string)
    (base n : Nat) (v : Value) (l : List UInt8) (hown : w.ownsRow base e 1 v n (bv l)) : (convert src dst v).run P w = .ok (.string ⟨l.toArray⟩) w := by
  have hl : n = l.length := by have := hown.1; simp [bv] at this; omega
  rcases hown.2 with ⟨rfl, h0⟩ | ⟨g, cap, cur, rfl, hb, hg, hnc, hm, hcs, ht⟩
  · have : l = [] := List.eq_nil_of_length_eq_zero (by omega)
    subst this
    rw [run_convert_bytes_string w src dst e none 0 0 hs he hd]
    unfold Conv.bytesToString
    rfl
  · subst hl
    refine run_convert_bytes_back w src dst e ⟨g, 0, none⟩ cap l hs he hd ?_
    intro j hj
    exact hown.cells (g := g) rfl j _ (by simp [bv, hj])
theorem wpList_convert_own {ops : Array Oper} {rest : List Oper} {o : Oper} {a : Act} {Q : Exit → Act → World → Prop} (hgd : o.guard = none) (src dst : TypeId) (x : Operand) (ho : o.op = .convert src dst x)
    (e : TypeId) (hs : P.underlying src = some (.slice e)) (he : P.underlying e = some (.int .u8)) (hd : P.underlying dst = some .string)
    (base n : Nat) (v : Value) (l : List UInt8) (hx : a.eval x = v) (hown : w.ownsRow base e 1 v n (bv l))
    (h : wpList P ops Q rest (a.put o.dst (.string ⟨l.toArray⟩)) w) : wpList P ops Q (o :: rest) a w := by
  refine wpList_plain hgd fun _ hK => ?_
  unfold Oper.wp execOp
  simp only [ho, hx, Sem.run_bind, Sem.run_pure, Result.andThen_ok, run_convert_own w src dst e hs he hd base n v l hown]
  exact hK _ _ h
theorem wpList_convert_cells {ops : Array Oper} {rest : List Oper} {o : Oper} {a : Act} {Q : Exit → Act → World → Prop} (hgd : o.guard = none) (src dst : TypeId) (x : Operand) (ho : o.op = .convert src dst x)
    (e : TypeId) (hs : P.underlying src = some (.slice e)) (he : P.underlying e = some (.int .u8)) (hd : P.underlying dst = some .string)
    (g n cap : Nat) (l : List UInt8) (hn : n = l.length) (hx : a.eval x = .slice (some ⟨g, 0, none⟩) n cap) (hc : ∀ j (hj : j < l.length), w.cell? ⟨g, j, none⟩ = some (.int .u8 (l[j].toNat : Int)))
    (h : wpList P ops Q rest (a.put o.dst (.string ⟨l.toArray⟩)) w) : wpList P ops Q (o :: rest) a w := by
  subst hn
  have hr := run_convert_bytes_back w src dst e ⟨g, 0, none⟩ cap l hs he hd (fun j hj => by
    have : (⟨g, 0, none⟩ : Addr).add j = ⟨g, j, none⟩ := by unfold Addr.add; split <;> simp_all
    rw [this]; exact hc j hj)
  refine wpList_plain hgd fun _ hK => ?_
  unfold Oper.wp execOp
  simp only [ho, hx, Sem.run_bind, Sem.run_pure, Result.andThen_ok, hr]
  exact hK _ _ h
end

theorem cell_set_same {w : World} {p : Addr} {u : Value} (v : Value) (h : w.cell? p = some u) : (w.setCell p v).cell? p = some v := World.cell?_setCell_same' w p v (by simp [h])
theorem cell_set_ne {w : World} {p q : Addr} (v : Value) (h : p ≠ q) : (w.setCell p v).cell? q = w.cell? q := by
  apply World.cell?_setCell_other
  exact h
theorem cell_set_off {w : World} {g i j : Nat} (v : Value) (h : i ≠ j) : (w.setCell ⟨g, i, none⟩ v).cell? ⟨g, j, none⟩ = w.cell? ⟨g, j, none⟩ := cell_set_ne v (fun e => h (by injection e))

/-- a block is known whole: these cells, none of them frozen. -/
def Has (w : World) (g : Nat) (t : TypeId) (cs : Array Value) : Prop := w.heap[g]? = some (.cells cs t (0, 0))
section
variable {w w' : World} {g : Nat} {t : TypeId} {cs : Array Value}
theorem Has.lt (h : Has w g t cs) : g < w.heap.size := (Array.getElem?_eq_some_iff.1 h).1
theorem Has.cell (h : Has w g t cs) (i : Nat) : w.cell? ⟨g, i, none⟩ = cs[i]? := cell_of_row w g i cs t (0, 0) h
theorem Has.free (h : Has w g t cs) (i : Nat) : w.frozen? ⟨g, i, none⟩ = false := frozen_of_row w g i cs t h
theorem Has.fresh (w : World) (t : TypeId) (cs : Array Value) : Has (w.alloc (.cells cs t)) w.heap.size t cs := heap_alloc_new w _
theorem Has.alloc (h : Has w g t cs) (o : Obj) : Has (w.alloc o) g t cs := (Below.heap_alloc w o g h.lt).trans h
theorem Has.set (h : Has w g t cs) (i : Nat) (u : Value) : Has (w.setCell ⟨g, i, none⟩ u) g t (cs.setIfInBounds i u) := heap_setCell_same w g i cs t u h
theorem Has.far (h : Has w g t cs) {p : Addr} (hp : g ≠ p.block) (u : Value) : Has (w.setCell p u) g t cs := (heap_setCell_other w p g u hp).trans h
theorem Has.row (h : Has w g t cs) (ds : Array Value) : Has (w.setRow g ds) g t ds := setRow_heap w g cs ds t (0, 0) h
theorem Has.rowFar (h : Has w g t cs) {g' : Nat} (hp : g ≠ g') (ds : Array Value) : Has (w.setRow g' ds) g t cs := (setRow_other w g' g ds hp).trans h
theorem Has.below {B : Nat} (h : Has w g t cs) (hb : Below B w w') (hg : g < B) : Has w' g t cs := (hb.block g hg).trans h
end
theorem below_setRow {B : Nat} {a w : World} (h : Below B a w) {g : Nat} (hg : B ≤ g) (cs : Array Value) : Below B a (w.setRow g cs) :=
  ⟨h.os, h.tape, h.output, by simpa using h.size, fun k hk => (setRow_other w g k cs (by omega)).trans (h.block k hk)⟩

theorem results_row_tmp {P : Program} {fn : Func} {p u : Tmp} {ty : TypeId} (h : fn.results = #[.cell p ty, .tmp u]) (tmps : Array Value) (w : World) (g : Nat) (t : TypeId) (cs : Array Value) (d : TypeDesc)
    (hp : tmps.getD p undef = .pointer (some ⟨g, 0, none⟩)) (hg : Has w g t cs)
    (hu : P.underlying ty = some d) (hd : (match d with | .struct _ | .array _ _ => true | _ => false) = true) (hi : (P.info? ty).map (·.size) = some cs.size) :
    (results fn tmps).run P w = .ok (.tuple #[.agg cs, tmps.getD u undef]) w := by
  rw [results_cell_tmp h tmps P w, hp]
  have : (asAddr (.pointer (some ⟨g, 0, none⟩))).run P w = .ok ⟨g, 0, none⟩ w := rfl
  rw [this]
  simp only [Result.andThen_ok, run_loadVar_row w g t ty cs (0, 0) d hg hu hd hi]

theorem string_eq {s : ByteArray} {l : List UInt8} (h : s.data.toList = l) : s = ⟨l.toArray⟩ := by
  subst h; rfl
theorem extract_list (s : ByteArray) (a b : Nat) : (s.extract a b).data.toList = (s.data.toList.drop a).take (b - a) := by
  rw [Lib.extract_data]
/-- a string as a value, and a list of them. -/
abbrev sv (l : List UInt8) : Value := .string ⟨l.toArray⟩
def svs (ls : List (List UInt8)) : List Value := ls.map sv
theorem svs_append (a b : List (List UInt8)) : svs (a ++ b) = svs a ++ svs b := by simp [svs]

theorem below_drewN {B : Nat} {a w : World} (h : Below B a w) (n : Nat) : Below B a (w.drewN n) := ⟨h.os, h.tape, h.output, h.size, h.block⟩
theorem own_mono {w : World} {b b' : Nat} {e : TypeId} {size : Nat} {v : Value} {n : Nat} {xs : List Value} (h : w.ownsRow b e size v n xs) (hb : b' ≤ b) : w.ownsRow b' e size v n xs := by
  refine ⟨h.1, ?_⟩
  rcases h.2 with hn | ⟨g, cap, cur, hv, hg, rest⟩
  · exact .inl hn
  · exact .inr ⟨g, cap, cur, hv, Nat.le_trans hb hg, rest⟩
theorem own_below {w w' : World} {b B : Nat} {e : TypeId} {size : Nat} {v : Value} {n : Nat} {xs : List Value} (h : w.ownsRow b e size v n xs) (hb : Below B w w') (hB : w.heap.size ≤ B) : w'.ownsRow b e size v n xs := by
  refine ⟨h.1, ?_⟩
  rcases h.2 with hn | ⟨g, cap, cur, hv, hg, hh, rest⟩
  · exact .inl hn
  · exact .inr ⟨g, cap, cur, hv, hg, (hb.block g (Nat.lt_of_lt_of_le (Array.getElem?_eq_some_iff.1 hh).1 hB)).trans hh, rest⟩

/-- a slice of strings reads as a list of them; its cells lie below block B. -/
def Rd (w : World) (B : Nat) (v : Value) (ls : List (List UInt8)) : Prop :=
  ∃ A c, v = .slice A ls.length c ∧ ls.length ≤ c ∧ (0 < ls.length → ∃ g o, A = some ⟨g, o, none⟩ ∧ g < B ∧ ∀ j (h : j < ls.length), w.cell? ⟨g, o + j, none⟩ = some (sv ls[j]))
theorem Rd.of_own {w : World} {b : Nat} {e : TypeId} {v : Value} {ls : List (List UInt8)} (h : w.ownsRow b e 1 v ls.length (svs ls)) : Rd w w.heap.size v ls := by
  rcases h.2 with ⟨rfl, h0⟩ | ⟨g, cap, cur, rfl, hb, hg, hc, _⟩
  · exact ⟨none, 0, by rw [h0], by omega, fun h => by omega⟩
  · refine ⟨_, _, rfl, hc, fun _ => ⟨g, 0, rfl, (Array.getElem?_eq_some_iff.1 hg).1, fun j hj => ?_⟩⟩
    rw [Nat.zero_add]
    exact own_cells h j _ (by simp [svs, hj])
theorem Rd.keep {w w' : World} {B : Nat} {v : Value} {ls : List (List UInt8)} (h : Rd w B v ls) (hb : Below B w w') : Rd w' B v ls := by
  obtain ⟨A, c, e, hc, hr⟩ := h
  refine ⟨A, c, e, hc, fun h0 => ?_⟩
  obtain ⟨g, o, rfl, hg, hcell⟩ := hr h0
  exact ⟨g, o, rfl, hg, fun j hj => (hb.cell (p := ⟨g, o + j, none⟩) hg).trans (hcell j hj)⟩
theorem Rd.mono {w : World} {B B' : Nat} {v : Value} {ls : List (List UInt8)} (h : Rd w B v ls) (hb : B ≤ B') : Rd w B' v ls := by
  obtain ⟨A, c, e, hc, hr⟩ := h
  refine ⟨A, c, e, hc, fun h0 => ?_⟩
  obtain ⟨g, o, rfl, hg, hcell⟩ := hr h0
  exact ⟨g, o, rfl, by omega, hcell⟩

theorem bv_take_succ (s : ByteArray) (f : UInt8 → UInt8) (k : Nat) (hk : k < s.size) : bv ((s.data.toList.take (k + 1)).map f) = bv ((s.data.toList.take k).map f) ++ [.int .u8 ((f s[k]).toNat : Int)] := by
  rw [List.take_succ_eq_append_getElem (by simpa using hk)]
  simp [bv]; rfl


/-- bytes that stand from a slice's head on, in a block from lo on and below hi. -/
def Bs (w : World) (lo hi : Nat) (A : Option Addr) (l : List UInt8) : Prop :=
  0 < l.length → ∃ g o, A = some ⟨g, o, none⟩ ∧ lo ≤ g ∧ g < hi ∧ ∀ j (h : j < l.length), w.cell? ⟨g, o + j, none⟩ = some (.int .u8 (l[j].toNat : Int))
theorem addr_add (g o j : Nat) : (⟨g, o, none⟩ : Addr).add j = ⟨g, o + j, none⟩ := by unfold Addr.add; split <;> simp_all
section
variable {w w' : World} {lo hi lo' hi' : Nat} {A : Option Addr} {l : List UInt8}
theorem Bs.nil : Bs w lo hi A [] := fun h => absurd h (by simp)
theorem Bs.keep (h : Bs w lo hi A l) (hb : Below hi w w') : Bs w' lo hi A l := fun h0 => by
  obtain ⟨g, o, rfl, hlo, hhi, hc⟩ := h h0
  exact ⟨g, o, rfl, hlo, hhi, fun j hj => (hb.cell (p := ⟨g, o + j, none⟩) hhi).trans (hc j hj)⟩
theorem Bs.more (h : Bs w lo hi A l) (h1 : lo' ≤ lo) (h2 : hi ≤ hi') : Bs w lo' hi' A l := fun h0 => by
  obtain ⟨g, o, rfl, hlo, hhi, hc⟩ := h h0
  exact ⟨g, o, rfl, by omega, by omega, hc⟩
theorem Bs.cell (h : Bs w lo hi A l) {k : Nat} (hk : k < l.length) : ∃ g o, A = some ⟨g, o, none⟩ ∧ lo ≤ g ∧ g < hi ∧ w.cell? ⟨g, o + k, none⟩ = some (.int .u8 (l[k].toNat : Int)) := by
  obtain ⟨g, o, rfl, hlo, hhi, hc⟩ := h (by omega)
  exact ⟨g, o, rfl, hlo, hhi, hc k hk⟩
theorem Bs.drewN (h : Bs w lo hi A l) (n : Nat) : Bs (w.drewN n) lo hi A l := h
theorem Bs.of_own {e : TypeId} {n c : Nat} (h : w.ownsRow lo e 1 (.slice A n c) n (bv l)) : Bs w lo w.heap.size A l := fun h0 => by
  have hn : n = l.length := by have := h.1; simp [bv] at this; omega
  rcases h.2 with ⟨hv, h00⟩ | ⟨g, cap, cur, hv, hb, hg, _⟩
  · omega
  · injection hv with h1 h2 h3
    subst h1
    refine ⟨g, 0, rfl, hb, (Array.getElem?_eq_some_iff.1 hg).1, fun j hj => ?_⟩
    have := h.cells (g := g) rfl j (.int .u8 (l[j].toNat : Int)) (by simp [bv, hj])
    rwa [addr_add] at this
end
theorem bv_get (l : List UInt8) (j : Nat) (h : j < l.length) : (bv l)[j]? = some (.int .u8 (l[j].toNat : Int)) := by simp [bv, h]
theorem bv_get? {l : List UInt8} {j : Nat} {u : Value} (h : (bv l)[j]? = some u) : ∃ hj : j < l.length, u = .int .u8 (l[j].toNat : Int) := by
  have hj : j < l.length := by have := (List.getElem?_eq_some_iff.1 h).1; simpa [bv] using this
  refine ⟨hj, ?_⟩
  rw [bv_get l j hj] at h
  injection h with h
  exact h.symm
theorem bv_one (l : List UInt8) : ∀ u ∈ bv l, u.oneCell' = true := by
  intro u hu
  simp only [bv, List.mem_map] at hu
  obtain ⟨c, _, rfl⟩ := hu
  rfl
theorem Bs.at_ {w : World} {lo hi : Nat} {b : Addr} {l : List UInt8} (h : Bs w lo hi (some b) l) : ∀ j u, (bv l)[j]? = some u → w.cell? (b.add j) = some u := by
  intro j u hu
  obtain ⟨hj, rfl⟩ := bv_get? hu
  obtain ⟨g, o, hh, _, _, hc⟩ := h (by omega)
  injection hh with hh
  subst hh
  rw [addr_add]
  exact hc j hj

section
variable {P : Program} {w : World}
/-- bytes that are read, as a string: nil or not. -/
theorem run_convert_bs (src dst e : TypeId) (hs : P.underlying src = some (.slice e)) (he : P.underlying e = some (.int .u8)) (hd : P.underlying dst = some .string)
    (lo hi : Nat) (A : Option Addr) (n c : Nat) (l : List UInt8) (hn : n = l.length) (h : Bs w lo hi A l) : (convert src dst (.slice A n c)).run P w = .ok (.string ⟨l.toArray⟩) w := by
  subst hn
  rcases A with _ | b
  · have : l = [] := by
      rcases l with _ | ⟨x, r⟩
      · rfl
      · obtain ⟨g, o, hh, _⟩ := h (by simp); cases hh
    subst this
    show (convert src dst (.slice none 0 c)).run P w = _
    rw [run_convert_bytes_string w src dst e none 0 c hs he hd]
    unfold Conv.bytesToString
    rfl
  · refine run_convert_bytes_back w src dst e b c l hs he hd ?_
    intro j hj
    exact h.at_ j _ (bv_get l j hj)
theorem wpList_convert_bs {ops : Array Oper} {rest : List Oper} {o : Oper} {a : Act} {Q : Exit → Act → World → Prop} (hgd : o.guard = none) (src dst : TypeId) (x : Operand) (ho : o.op = .convert src dst x)
    (e : TypeId) (hs : P.underlying src = some (.slice e)) (he : P.underlying e = some (.int .u8)) (hd : P.underlying dst = some .string)
    (lo hi : Nat) (A : Option Addr) (n c : Nat) (l : List UInt8) (hn : n = l.length) (hx : a.eval x = .slice A n c) (hr : Bs w lo hi A l)
    (h : wpList P ops Q rest (a.put o.dst (.string ⟨l.toArray⟩)) w) : wpList P ops Q (o :: rest) a w := by
  refine wpList_plain hgd fun _ hK => ?_
  unfold Oper.wp execOp
  simp only [ho, hx, Sem.run_bind, Sem.run_pure, Result.andThen_ok, run_convert_bs (w := w) src dst e hs he hd lo hi A n c l hn hr]
  exact hK _ _ h
/-- bytes that are read are put behind a row of the call's own. -/
theorem wpList_append_bs {ops : Array Oper} {rest : List Oper} {o : Oper} {a : Act} {Q : Exit → Act → World → Prop} (hgd : o.guard = none) (s x : Operand) (t : TypeId)
    (ho : o.op = .call { callee := .builtin .append, args := #[s, x], argTypes := #[t, t] })
    (base : Nat) (e : TypeId) (i : TypeInfo) (z : Value) (ht : P.underlying t = some (.slice e)) (hi : P.info? e = some i) (hz : i.zero = some z)
    (hsize : i.size = 1) (hby : i.bytes = 1) (hzs : z.cells.size = 1)
    (v : Value) (n : Nat) (xs : List Value) (hs : a.eval s = v) (hown : w.ownsRow base e 1 v n xs)
    (lo hi' : Nat) (A : Option Addr) (c : Nat) (l : List UInt8) (hx : a.eval x = .slice A l.length c) (hr : Bs w lo hi' A l) (hnil : A = none → c = 0)
    (h63 : n + l.length ≤ 140737488355328) (hbase : base ≤ w.heap.size)
    (h : ∀ v' w', w'.ownsRow base e 1 v' (n + l.length) (xs ++ bv l) → w.grownBy w' v.ownBlock → wpList P ops Q rest (a.put o.dst v') w') : wpList P ops Q (o :: rest) a w := by
  rcases A with _ | ad
  · have h0 : l.length = 0 := by
      rcases Nat.eq_zero_or_pos l.length with h0 | h0
      · exact h0
      · obtain ⟨g, o, hh, _⟩ := hr h0; cases hh
    have hl : l = [] := List.eq_nil_of_length_eq_zero h0
    subst hl
    have := hnil rfl
    subst this
    exact wpList_append_own_none hgd s x t ho base e i 1 ht hi v n xs hs hown hx (h _ _ (by simpa [bv] using hown) (World.grownBy.refl w _))
  · exact wpList_append_own w hgd s x t ho base e i z 1 1 ht hi hz hsize hby hzs (by decide) v n xs hs hown ad l.length c (bv l) hx (by simp [bv]) hr.at_ (bv_one l) (by unfold maxLen; omega) (by omega) hbase (fun v' w' a b _ => h v' w' a b)
end

theorem Bs.alloc {w : World} {lo hi : Nat} {A : Option Addr} {l : List UInt8} (h : Bs w lo hi A l) (hhi : hi ≤ w.heap.size) (o : Obj) : Bs (w.alloc o) lo hi A l := h.keep ((Below.refl _ _).alloc hhi o)
theorem Bs.none_nil {w : World} {lo hi : Nat} {l : List UInt8} (h : Bs w lo hi none l) : l = [] := by
  rcases l with _ | ⟨x, r⟩
  · rfl
  · obtain ⟨g, o, hh, _⟩ := h (by simp); cases hh
/-- one byte put behind bytes that are read and fill their slice: there is no room, so a new row is made. -/
theorem wpList_append_full {P : Program} {w : World} {ops : Array Oper} {rest : List Oper} {o : Oper} {a : Act} {Q : Exit → Act → World → Prop} (hgd : o.guard = none) (s x : Operand) (t : TypeId)
    (ho : o.op = .call { callee := .builtin .append, args := #[s, x], argTypes := #[t, t] })
    (e : TypeId) (i : TypeInfo) (z : Value) (ht : P.underlying t = some (.slice e)) (hi : P.info? e = some i) (hz : i.zero = some z)
    (hsize : i.size = 1) (hby : i.bytes = 1) (hzs : z.cells.size = 1)
    (lo hi' : Nat) (A : Option Addr) (l : List UInt8) (hs : a.eval s = .slice A l.length l.length) (hr : Bs w lo hi' A l) (hhi : hi' ≤ w.heap.size)
    (u : Value) (hu : u.oneCell' = true) (et : TypeId) (hx : a.eval x = .slice (some ⟨w.heap.size, 0, none⟩) 1 1)
    (h63 : l.length + 1 ≤ 140737488355328)
    (h : ∀ v' w', w'.ownsRow w.heap.size e 1 v' (l.length + 1) (bv l ++ [u]) → Below w.heap.size w w' → wpList P ops Q rest (a.put o.dst v') w') : wpList P ops Q (o :: rest) a (w.alloc (.cells #[u] et)) := by
  refine wpList_append_grows _ hgd s x t ho e i z 1 1 ht hi hz hsize hby hzs (by decide) A l.length l.length (bv l) hs ?_ (by simp [bv]) ?_ ⟨w.heap.size, 0, none⟩ 1 1 [u] hx rfl (cell_one_new _ _ _) ?_ (by omega) (by unfold maxLen; omega) (by omega) (fun v' w' h1 h2 => h v' w' (own_mono h1 (by simp)) ?_)
  · rintro rfl
    have := hr.none_nil
    subst this
    exact ⟨rfl, rfl⟩
  · rintro b rfl j y hj
    exact (hr.alloc hhi _).at_ j y hj
  · intro y hy
    simp at hy
    subst hy
    exact hu
  · exact ((Below.refl _ _).alloc (Nat.le_refl _) _).grown h2 (by simp) (by simp)
/-- one byte put behind a row of the call's own. -/
theorem wpList_append_one {P : Program} {w : World} {ops : Array Oper} {rest : List Oper} {o : Oper} {a : Act} {Q : Exit → Act → World → Prop} (hgd : o.guard = none) (s x : Operand) (t : TypeId)
    (ho : o.op = .call { callee := .builtin .append, args := #[s, x], argTypes := #[t, t] })
    (e : TypeId) (i : TypeInfo) (z : Value) (ht : P.underlying t = some (.slice e)) (hi : P.info? e = some i) (hz : i.zero = some z)
    (hsize : i.size = 1) (hby : i.bytes = 1) (hzs : z.cells.size = 1)
    (base : Nat) (w0 : World) (v : Value) (n : Nat) (xs : List Value) (hs : a.eval s = v) (hown : w.ownsRow base e 1 v n xs) (hb : Below base w0 w) (hbase : base ≤ w0.heap.size)
    (u : Value) (hu : u.oneCell' = true) (et : TypeId) (hx : a.eval x = .slice (some ⟨w.heap.size, 0, none⟩) 1 1)
    (h63 : n + 1 ≤ 140737488355328)
    (h : ∀ v' w', w'.ownsRow base e 1 v' (n + 1) (xs ++ [u]) → Below base w0 w' → wpList P ops Q rest (a.put o.dst v') w') : wpList P ops Q (o :: rest) a (w.alloc (.cells #[u] et)) := by
  have hbs := hb.size
  refine wpList_append_own _ hgd s x t ho base e i z 1 1 ht hi hz hsize hby hzs (by decide) v n xs hs (hown.alloc _) ⟨w.heap.size, 0, none⟩ 1 1 [u] hx rfl (cell_one_new _ _ _) ?_ (by unfold maxLen; omega) (by omega) (by simp; omega) (fun v' w' h1 h2 _ => h v' w' h1 ?_)
  · intro y hy
    simp at hy
    subst hy
    exact hu
  · exact (hb.alloc (by omega) _).grown h2 (by simp; omega) (fun k hk => (hown.lt k hk).1)

theorem own_form {w : World} {B n : Nat} {e : TypeId} {v : Value} {xs : List Value} (h : w.ownsRow B e 1 v n xs) : ∃ ad cp, v = .slice ad n cp := by
  rcases h.2 with ⟨rfl, h0⟩ | ⟨g', cap, cur, rfl, _⟩
  · exact ⟨none, 0, by rw [h0]⟩
  · exact ⟨_, _, rfl⟩
theorem own_pos {w : World} {B n : Nat} {e : TypeId} {v : Value} {xs : List Value} (h : w.ownsRow B e 1 v n xs) (hn : 0 < n) : ∃ g cp, v = .slice (some ⟨g, 0, none⟩) n cp ∧ n ≤ cp ∧ B ≤ g ∧ g < w.heap.size := by
  rcases h.2 with ⟨rfl, h0⟩ | ⟨g', cap, cur, rfl, hb, hg, hc, _⟩
  · omega
  · exact ⟨g', cap, rfl, hc, hb, (Array.getElem?_eq_some_iff.1 hg).1⟩
theorem own_to {w : World} {B n m : Nat} {e : TypeId} {v : Value} {xs ys : List Value} (h : w.ownsRow B e 1 v n xs) (hn : n = m) (hx : xs = ys) : w.ownsRow B e 1 v m ys := by subst hn hx; exact h

theorem strCells_bv (s : ByteArray) : Lib.strCells s = bv s.data.toList := by simp [Lib.strCells, bv]
/-- a row of the call's own (not nil), perhaps cut at its end. -/
def Cut (w : World) (base : Nat) (e : TypeId) (v : Value) (n : Nat) (xs : List Value) : Prop :=
  ∃ g cp cq, v = .slice (some ⟨g, 0, none⟩) n cp ∧ n ≤ cp ∧ w.ownsRow base e 1 (.slice (some ⟨g, 0, none⟩) n cq) n xs ∧ (cp = n ∨ cp = cq)
theorem own_le {w : World} {B n cq : Nat} {g : Option Addr} {e : TypeId} {xs : List Value} (h : w.ownsRow B e 1 (.slice g n cq) n xs) : n ≤ cq := by
  rcases h.2 with ⟨hv, h0⟩ | ⟨g', cap, cur, hv, _, _, hc, _⟩
  · omega
  · injection hv with _ _ h3
    omega
theorem Cut.of_own {w : World} {B n : Nat} {e : TypeId} {v : Value} {xs : List Value} (h : w.ownsRow B e 1 v n xs) (hn : 0 < n) : Cut w B e v n xs := by
  obtain ⟨g, cp, rfl, hc, _⟩ := own_pos h hn
  exact ⟨g, cp, cp, rfl, hc, h, .inr rfl⟩
theorem Cut.below {w w' : World} {B B' n : Nat} {e : TypeId} {v : Value} {xs : List Value} (h : Cut w B e v n xs) (hb : Below B' w w') (hB : w.heap.size ≤ B') : Cut w' B e v n xs := by
  obtain ⟨g, cp, cq, rfl, hc, ho, hq⟩ := h
  exact ⟨g, cp, cq, rfl, hc, own_below ho hb hB, hq⟩
theorem Cut.bs {w : World} {B n : Nat} {e : TypeId} {A : Option Addr} {c : Nat} {l : List UInt8} (h : Cut w B e (.slice A n c) n (bv l)) : Bs w B w.heap.size A l := by
  obtain ⟨g, cp, cq, hv, hc, ho, hq⟩ := h
  injection hv with h1 h2 h3
  subst h1
  exact Bs.of_own ho
theorem Cut.len {w : World} {B n : Nat} {e : TypeId} {v : Value} {xs : List Value} (h : Cut w B e v n xs) : xs.length = n := by
  obtain ⟨g, cp, cq, rfl, hc, ho, hq⟩ := h
  have := ho.1
  omega
theorem below_self {w w' : World} {B : Nat} {row : Option Nat} (h : w.grownBy w' row) (hB : B ≤ w.heap.size) (hr : ∀ k, row = some k → B ≤ k) : Below B w w' := (Below.refl B w).grown h hB hr

section
variable {P : Program} {w : World}
theorem run_append_string_full (t u ty e : TypeId) (i : TypeInfo) (ht : P.underlying t = some (.slice e)) (hu : P.underlying u = some .string) (hi : P.info? e = some i) (hz : i.zero = some (.int .u8 0))
    (hsize : i.size = 1) (hby : i.bytes = 1) (base : Nat) (v : Value) (n : Nat) (xs : List Value) (h : Cut w base e v n xs) (s : ByteArray)
    (hb : n + s.size ≤ 140737488355328) (hbase : base ≤ w.heap.size) :
    ∃ v' w', (Builtin.append_ #[t, u] ty #[v, .string s]).run P w = .ok v' w' ∧ Cut w' base e v' (n + s.size) (xs ++ bv s.data.toList) ∧ Below base w w' := by
  obtain ⟨g, cp, cq, rfl, hcp, ho, hq⟩ := h
  have hlt := ho.lt g rfl
  by_cases hs : cp = cq
  · subst hs
    obtain ⟨v', w', hr, h2, h3, hiff⟩ := Lib.run_append_own_string (P := P) w base t u ty e i ht hu hi hz hsize hby _ n xs ho s (by unfold maxLen; omega) hb hbase
    refine ⟨v', w', hr, ?_, below_self h3 hbase (fun k hk => (ho.lt k hk).1)⟩
    rw [← strCells_bv]
    rcases Nat.eq_zero_or_pos (n + s.size) with h0 | h0
    · rcases h2.2 with ⟨rfl, _⟩ | ⟨g', cap, cur, rfl, _, _, hc', _⟩
      · have := (hiff.1 rfl).1
        injection this with this
        cases this
      · exact ⟨g', cap, cap, rfl, hc', h2, .inr rfl⟩
    · exact Cut.of_own h2 h0
  · have hcn : cp = n := by rcases hq with h | h <;> omega
    subst hcn
    by_cases h0 : s.size = 0
    · have hn : bv s.data.toList = [] := List.eq_nil_of_length_eq_zero (by rw [bv_length]; simpa using h0)
      refine ⟨.slice (some ⟨g, 0, none⟩) cp cp, w, ?_, ?_, Below.refl _ _⟩
      · have hf := Lib.run_firstCells_string (P := P) w 1 s
        have hn2 : Lib.strCells s = [] := by rw [strCells_bv]; exact hn
        rw [h0, hn2] at hf
        simp [Builtin.append_, run_underlying ht, run_underlying hu, sizeOf, typeInfo, hi, hsize, Builtin.lenOf, h0, hf, storeCells]
      · rw [h0, hn, List.append_nil]
        exact ⟨g, cp, cq, rfl, hcp, ho, .inl rfl⟩
    · have hr := Lib.run_append_grow_string (P := P) w t u ty e i (.int .u8 0) ht hu hi hz ⟨g, 0, none⟩ cp cp xs (by rw [hsize]; exact ho.1) (ho.cells (g := g) rfl) s (by omega) (by omega) (by rw [hby]; exact growslice_fits (by omega) (by omega))
      have hge := grownCap_ge w (cp + s.size) cp e
      have hcm : grownCap w (cp + s.size) cp e ≤ maxLen := grownCap_le_maxLen w (cp + s.size) cp e (by unfold maxLen; omega)
      have hxl : xs.length = cp := by have := ho.1; omega
      refine ⟨_, _, hr, Cut.of_own ⟨?_, .inr ⟨w.heap.size, _, _, rfl, hbase, heap_alloc_new w.drew _, hge, hcm, ?_, ?_⟩⟩ (by omega), ((Below.refl _ _).drew).alloc hbase _⟩
      · rw [List.length_append, bv_length, hxl]; simp
      · have hz1 : (Value.int IntKind.u8 0).cells.size = 1 := rfl
        simp only [Array.size_append, List.size_toArray, size_zeroCells, hz1, hxl, Lib.strCells_length]
        omega
      · have hlen : (xs ++ bv s.data.toList).length = (cp + s.size) * 1 := by rw [List.length_append, bv_length, hxl]; simp
        simp only [Array.toList_append, List.append_assoc, strCells_bv]
        rw [← List.append_assoc, ← hlen]
        exact List.take_left
end

section
variable {P : Program} {w : World}
theorem run_append_bs_full (t ty e : TypeId) (i : TypeInfo) (ht : P.underlying t = some (.slice e)) (hi : P.info? e = some i) (hz : i.zero = some (.int .u8 0))
    (hsize : i.size = 1) (hby : i.bytes = 1) (base : Nat) (v : Value) (n : Nat) (xs : List Value) (h : Cut w base e v n xs)
    (lo hi' : Nat) (A : Option Addr) (c : Nat) (l : List UInt8) (hr : Bs w lo hi' A l) (hnil : A = none → c = 0)
    (hb : n + l.length ≤ 140737488355328) (hbase : base ≤ w.heap.size) :
    ∃ v' w', (Builtin.append_ #[t, t] ty #[v, .slice A l.length c]).run P w = .ok v' w' ∧ Cut w' base e v' (n + l.length) (xs ++ bv l) ∧ Below base w w' := by
  obtain ⟨g, cp, cq, rfl, hcp, ho, hq⟩ := h
  have same : l = [] → ∃ v' w', (Builtin.append_ #[t, t] ty #[.slice (some ⟨g, 0, none⟩) n cp, .slice A l.length c]).run P w = .ok v' w' ∧ Cut w' base e v' (n + l.length) (xs ++ bv l) ∧ Below base w w' := by
    rintro rfl
    refine ⟨.slice (some ⟨g, 0, none⟩) n cp, w, ?_, ⟨g, cp, cq, rfl, hcp, by simpa [bv] using ho, by simpa using hq⟩, Below.refl _ _⟩
    rcases A with _ | b
    · simp [Builtin.append_, run_underlying ht, sizeOf, typeInfo, hi, Builtin.lenOf, Builtin.firstCells, hcp, storeCells]
    · have hf := run_firstCells_some (P := P) w 1 0 b 0 c [] (by simp) (by simp)
      simp [Builtin.append_, run_underlying ht, sizeOf, typeInfo, hi, hsize, Builtin.lenOf, hcp, hf, storeCells]
  rcases A with _ | b
  · exact same hr.none_nil
  · by_cases h0 : l = []
    · exact same h0
    · have hl : 0 < l.length := List.length_pos_iff.2 h0
      by_cases hs : cp = cq
      · subst hs
        obtain ⟨v', w', hrun, h2, h3, _⟩ := run_append_own (P := P) w base t ty e i (.int .u8 0) 1 1 ht hi hz hsize hby rfl (by decide) _ n xs ho b l.length c (bv l) (by simp [bv]) hr.at_ (bv_one l) (by unfold maxLen; omega) (by omega) hbase
        exact ⟨v', w', hrun, Cut.of_own h2 (by omega), below_self h3 hbase (fun k hk => (ho.lt k hk).1)⟩
      · have hcn : cp = n := by rcases hq with h | h <;> omega
        subst hcn
        obtain ⟨v', w', hrun, h2, h3⟩ := run_append_arg_grows (P := P) w t ty e i (.int .u8 0) 1 1 ht hi hz hsize hby rfl (by decide) ⟨g, 0, none⟩ cp cp xs ho.1 (ho.cells (g := g) rfl) b l.length c (bv l) (by simp [bv]) hr.at_ (by omega) (by unfold maxLen; omega) (by omega)
        exact ⟨v', w', hrun, Cut.of_own (own_mono h2 hbase) (by omega), below_self h3 hbase (by simp)⟩
theorem wpList_append_run {ops : Array Oper} {rest : List Oper} {o : Oper} {a : Act} {Q : Exit → Act → World → Prop} (hgd : o.guard = none) (s x : Operand) (t u : TypeId)
    (ho : o.op = .call { callee := .builtin .append, args := #[s, x], argTypes := #[t, u] }) (v y : Value) (hs : a.eval s = v) (hx : a.eval x = y) {R : Value → World → Prop}
    (hrun : ∃ v' w', (Builtin.append_ #[t, u] o.type #[v, y]).run P w = .ok v' w' ∧ R v' w')
    (h : ∀ v' w', R v' w' → wpList P ops Q rest (a.put o.dst v') w') : wpList P ops Q (o :: rest) a w := by
  refine wpList_plain hgd fun K hK => ?_
  obtain ⟨v', w', hr, h2⟩ := hrun
  unfold Oper.wp execOp
  simp only [ho, resolve, invoke, builtin, Sem.run_bind, Sem.run_pure, Result.andThen_ok, List.map_toArray, List.map_cons, List.map_nil, hs, hx, hr]
  exact hK _ _ (h v' w' h2)
end

theorem Bs.sub {w : World} {lo hi g o : Nat} {l : List UInt8} (h : Bs w lo hi (some ⟨g, o, none⟩) l) (k m : Nat) (hk : k + m ≤ l.length) : Bs w lo hi (some ⟨g, o + k, none⟩) ((l.drop k).take m) := fun h0 => by
  have hl : ((l.drop k).take m).length = m := by rw [List.length_take, List.length_drop]; omega
  obtain ⟨g', o', hh, hlo, hhi, hc⟩ := h (by omega)
  injection hh with hh
  injection hh with h1 h2
  subst h1 h2
  refine ⟨g, o + k, rfl, hlo, hhi, fun j hj => ?_⟩
  have := hc (k + j) (by omega)
  rw [← Nat.add_assoc] at this
  rw [this]
  simp

theorem Has.grown {w w' : World} {g : Nat} {t : TypeId} {cs : Array Value} {row : Option Nat} (h : Has w g t cs) (hg : w.grownBy w' row) (hne : some g ≠ row) : Has w' g t cs := (hg.block g h.lt hne).trans h
theorem Bs.grown {w w' : World} {lo hi k : Nat} {A : Option Addr} {l : List UInt8} (h : Bs w lo hi A l) (hg : w.grownBy w' (some k)) (hk : k < lo ∨ hi ≤ k) : Bs w' lo hi A l := fun h0 => by
  obtain ⟨g, o, rfl, h1, h2, hc⟩ := h h0
  exact ⟨g, o, rfl, h1, h2, fun j hj => hg.cell (hc j hj) (by simp; omega)⟩
theorem grown_set {w w' : World} {k : Nat} (h : w.grownBy w' (some k)) (i : Nat) (u : Value) : w.grownBy (w'.setCell ⟨k, i, none⟩ u) (some k) := by
  refine ⟨h.os, h.tape, h.output, by simpa using h.size, fun j hj hne => ?_⟩
  rw [heap_setCell_other _ ⟨k, i, none⟩ j u (by intro e; subst e; exact hne rfl)]
  exact h.block j hj hne
/-- make of bytes, a length and a capacity: all cells are 0. -/
theorem wpList_make_lc {P : Program} {w : World} {ops : Array Oper} {rest : List Oper} {o : Oper} {a : Act} {Q : Exit → Act → World → Prop}
    (hg : o.guard = none) (l c : Operand) (t : TypeId) (hop : o.op = Op.makeSlice t l c)
    (e : TypeId) (i : TypeInfo) (h1 : P.underlying t = some (.slice e)) (h2 : P.info? e = some i) (h3 : i.zero = some (.int .u8 0)) (h4 : i.size = 1) (h5 : i.bytes = 1)
    (kl kc : IntKind) (L C : Int) (n m : Nat) (hl : a.eval l = .int kl L) (hc : a.eval c = .int kc C) (hL : L = (n : Int)) (hC : C = (m : Int)) (hnm : n ≤ m) (b3 : m ≤ 140737488355328)
    (hK : ∀ w', Has w' w.heap.size e (List.replicate m (Value.int .u8 0)).toArray → Below w.heap.size w w' → w'.heap.size = w.heap.size + 1 → wpList P ops Q rest (a.put o.dst (.slice (some ⟨w.heap.size, 0, none⟩) n m)) w') :
    wpList P ops Q (o :: rest) a w := by
  refine wpList_plain hg fun K hK' => ?_
  have hrun := run_make (P := P) w t e i (.int .u8 0) h1 h2 h3 kl kc n m (by omega) (by omega) (by rw [h5]; omega) (by omega)
  subst hL hC
  unfold Oper.wp
  simp [execOp, hop, hl, hc, hrun, Result.andThen]
  refine hK' _ _ (hK _ ?_ ((Below.refl _ _).alloc (Nat.le_refl _) _) (by simp))
  have hz : (Value.int .u8 0).cells = #[Value.int .u8 0] := rfl
  have e1 : madeCells (Value.int .u8 0).cells (m * i.size) = (List.replicate m (Value.int .u8 0)).toArray := by
    apply Array.ext'
    rw [hz, toList_madeCells_one, h4, Nat.mul_one]
  rw [e1]
  exact Has.fresh w e _

theorem Bs.ad {w : World} {lo hi : Nat} {A : Option Addr} {l : List UInt8} (h : Bs w lo hi A l) (h0 : 0 < (bv l).length) : ∃ ad, A = some ad ∧ ∀ j v, (bv l)[j]? = some v → w.cell? (ad.add j) = some v := by
  rw [bv_length] at h0
  obtain ⟨g, o, rfl, _⟩ := h h0
  exact ⟨_, rfl, h.at_⟩
theorem Has.bs {w : World} {g hi : Nat} {t : TypeId} {cs : Array Value} {l : List UInt8} (h : Has w g t cs) (hg : g < hi) (hc : ∀ j (hj : j < l.length), cs[j]? = some (.int .u8 (l[j].toNat : Int))) : Bs w g hi (some ⟨g, 0, none⟩) l := fun _ =>
  ⟨g, 0, rfl, Nat.le_refl _, hg, fun j hj => by rw [Nat.zero_add, h.cell]; exact hc j hj⟩

theorem mk_size (l : List UInt8) : (⟨l.toArray⟩ : ByteArray).size = l.length := rfl
theorem own_at {w : World} {b n cp k : Nat} {e : TypeId} {ad : Option Addr} {xs : List Value} (h : w.ownsRow b e 1 (.slice ad n cp) n xs) (hk : k < n) : ∃ g, ad = some ⟨g, 0, none⟩ ∧ n ≤ cp ∧ ∀ j u, xs[j]? = some u → w.cell? ⟨g, j, none⟩ = some u := by
  rcases h.2 with ⟨_, h0⟩ | ⟨g', cap, cur, hv, _, _, hc, _⟩
  · omega
  · injection hv with h1 h2 h3
    subst h1 h3
    exact ⟨g', rfl, hc, fun j u hu => own_cells h j u hu⟩
theorem cat_list (a b : ByteArray) : (a ++ b).data.toList = a.data.toList ++ b.data.toList := by simp

end Go.Proofs.Ytnhoaceickojeaa
