/- Texts of the proofs, merged. -/
import Derived.Test.YtbipcflmmfipbaaDoorG7
import Derived.Test.YtbipcflmmfipbaaDoorG2
import Derived.MapKept
import Derived.Laws.StructEq
import Derived.Test.YtbipcflmmfipbaaDoorG3
import Derived.Test.YtbipcflmmfipbaaDoorG10
import Derived.Laws.AppendOwnNone
import Derived.Lib.AppendStr
import Derived.Test.YtbipcflmmfipbaaDoorG9
import Derived.Test.YtbipcflmmfipbaaDoorG17
/- The document's table of names: what is remembered, and where it is found. -/
namespace Go.Proofs.YtbipcflmmfipbaaDoor
open Go.RowKit

def ints (t : List Nat) : List Value := t.map fun (p : Nat) => Value.int .i64 p
theorem str_eq {a n : ByteArray} (h : a.data.toList = n.data.toList) : (a.toList == n.toList) = true :=
  (beq_toListBytes a n).symm.trans <| (MapKept.bytes_beq _ _).2 (by rw [string_eq (s := a) rfl, string_eq (s := n) rfl, h])
theorem str_ne {a n : ByteArray} (h : a.data.toList ≠ n.data.toList) : (a.toList == n.toList) = false := by
  rw [← beq_toListBytes, Bool.eq_false_iff]
  intro hb
  have := (MapKept.bytes_beq _ _).1 hb
  subst this
  exact h rfl
theorem sv_of (l : List UInt8) : ∃ s : ByteArray, sv l = .string s ∧ s.data.toList = l := ⟨⟨l.toArray⟩, rfl, rfl⟩

end Go.Proofs.YtbipcflmmfipbaaDoor
/- The document's table: keeping names and places. Laws for rows of the call's own. -/
namespace Go.Proofs.YtbipcflmmfipbaaDoor
open Go.RowKit

theorem Tryd.infoApiName : (Tryd.prog.info? 23).map (fun i => (i.zero, i.size, i.bytes)) = some (some (.string ⟨#[]⟩), 1, 16) := by kernel_rfl
theorem Tryd.infoIntT : (Tryd.prog.info? 3).map (fun i => (i.zero, i.size, i.bytes)) = some (some (.int .i64 0), 1, 8) := by kernel_rfl

section
variable {w w' : World} {b b2 n n2 : Nat} {e e2 : TypeId} {v v2 : Value} {xs ys : List Value}
/-- rows of two types are two. -/
theorem own_apart (h : w.ownsRow b e 1 v n xs) (h2 : w.ownsRow b2 e2 1 v2 n2 ys) (hne : e2 ≠ e) : v2.ownBlock = none ∨ v2.ownBlock ≠ v.ownBlock := by
  rcases h2.2 with ⟨rfl, _⟩ | ⟨g2, cap2, cur2, rfl, _, hg2, _⟩
  · exact .inl rfl
  · refine .inr fun e' => ?_
    rcases h.2 with ⟨rfl, _⟩ | ⟨g, cap, cur, rfl, _, hg, _⟩
    · simp [Value.ownBlock] at e'
    · have : g2 = g := by simpa [Value.ownBlock] using e'
      subst this
      rw [hg] at hg2
      cases hg2
      exact hne rfl
theorem own_still (h : w.ownsRow b e 1 v n xs) (h2 : w.ownsRow b2 e2 1 v2 n2 ys) (hne : e2 ≠ e) (hg : w.grownBy w' v.ownBlock) : w'.ownsRow b2 e2 1 v2 n2 ys := h2.kept hg (own_apart h h2 hne)
theorem own_alloc (h : w.ownsRow b e 1 v n xs) (o : Obj) : (w.alloc o).ownsRow b e 1 v n xs := World.ownsRow.alloc h o
end
/-- values that are built into a new slice are put behind a row of the call's own. -/
theorem wpList_append_new {P : Program} {w : World} {ops : Array Oper} {rest : List Oper} {o : Oper} {a : Act} {Q : Exit → Act → World → Prop} (hgd : o.guard = none) (s x : Operand) (t : TypeId)
    (ho : o.op = .call { callee := .builtin .append, args := #[s, x], argTypes := #[t, t] })
    (e : TypeId) (i : TypeInfo) (z : Value) (bytes : Nat) (ht : P.underlying t = some (.slice e)) (hi : P.info? e = some i) (hz : i.zero = some z)
    (hsize : i.size = 1) (hby : i.bytes = bytes) (hzs : z.cells.size = 1)
    (base : Nat) (w0 : World) (v : Value) (n : Nat) (xs : List Value) (hs : a.eval s = v) (hown : w.ownsRow base e 1 v n xs) (hb : Below base w0 w) (hbase : base ≤ w0.heap.size)
    (us : List Value) (hu : ∀ u ∈ us, u.oneCell' = true) (et : TypeId) (m : Nat) (hm : us.length = m) (hx : a.eval x = .slice (some ⟨w.heap.size, 0, none⟩) m m)
    (h63 : n + m ≤ 140737488355328) (hbytes : (n + m) * bytes ≤ 140737488355328)
    (h : ∀ v' w', w'.ownsRow base e 1 v' (n + m) (xs ++ us) → Below base w0 w' → (w.alloc (.cells us.toArray et)).grownBy w' v.ownBlock → wpList P ops Q rest (a.put o.dst v') w') : wpList P ops Q (o :: rest) a (w.alloc (.cells us.toArray et)) := by
  have hbs := hb.size
  subst hm
  refine wpList_append_own _ hgd s x t ho base e i z 1 bytes ht hi hz hsize hby hzs (by decide) v n xs hs (hown.alloc _) ⟨w.heap.size, 0, none⟩ us.length us.length us hx (by omega) ?_ hu (by unfold maxLen; omega) hbytes (by simp; omega) (fun v' w' h1 h2 _ => h v' w' h1 ?_ h2)
  · intro j u hj
    have hH := Has.fresh w et us.toArray
    rw [addr_add, Nat.zero_add, hH.cell]
    simpa using hj
  · exact (hb.alloc (by omega) _).grown h2 (by simp; omega) (fun k hk => (hown.lt k hk).1)
/-- a row of the call's own is put behind another one. -/
theorem append_rows {P : Program} {w : World} (t ty e : TypeId) (i : TypeInfo) (z : Value) (bytes : Nat) (ht : P.underlying t = some (.slice e)) (hi : P.info? e = some i) (hz : i.zero = some z)
    (hsize : i.size = 1) (hby : i.bytes = bytes) (hzs : z.cells.size = 1)
    (base b2 : Nat) (v v2 : Value) (n m : Nat) (xs us : List Value) (hown : w.ownsRow base e 1 v n xs) (h2 : w.ownsRow b2 e 1 v2 m us) (hu : ∀ u ∈ us, u.oneCell' = true)
    (h63 : n + m ≤ 140737488355328) (hbytes : (n + m) * bytes ≤ 140737488355328) (hbase : base ≤ w.heap.size) :
    ∃ v' w', (Builtin.append_ #[t, t] ty #[v, v2]).run P w = .ok v' w' ∧ w'.ownsRow base e 1 v' (n + m) (xs ++ us) ∧ w.grownBy w' v.ownBlock := by
  have hl : us.length = m := by have := h2.1; omega
  rcases h2.2 with ⟨rfl, h0⟩ | ⟨g, cap, cur, rfl, hb, hg, hc, _⟩
  · subst h0
    have hus : us = [] := List.eq_nil_of_length_eq_zero hl
    subst hus
    refine ⟨v, w, ?_, by simpa using hown, World.grownBy.refl w _⟩
    exact run_append_owned_none (P := P) (w := w) base t ty e i 1 ht hi v n xs hown
  · obtain ⟨v', w', hrun, a1, a2, _⟩ := run_append_own (P := P) w base t ty e i z 1 bytes ht hi hz hsize hby hzs (by decide) v n xs hown ⟨g, 0, none⟩ m cap us (by omega) (fun j u hj => by rw [addr_add, Nat.zero_add]; exact own_cells h2 j u hj) hu (by unfold maxLen; omega) hbytes hbase
    exact ⟨v', w', hrun, a1, a2⟩

theorem svs_one (ls : List (List UInt8)) : ∀ u ∈ svs ls, u.oneCell' = true := by
  intro u hu
  simp only [svs, List.mem_map] at hu
  obtain ⟨_, _, rfl⟩ := hu
  rfl
theorem ints_one (ls : List Nat) : ∀ u ∈ ints ls, u.oneCell' = true := by
  intro u hu
  simp only [ints, List.mem_map] at hu
  obtain ⟨_, _, rfl⟩ := hu
  rfl
theorem ints_append (a b : List Nat) : ints (a ++ b) = ints a ++ ints b := by simp [ints]

section
variable {base : Nat} {w w' w2 : World}
end
theorem has_not_own {w : World} {g b n : Nat} {t e : TypeId} {cs : Array Value} {v : Value} {xs : List Value} (h : Has w g t cs) (ho : w.ownsRow b e 1 v n xs) (hte : t ≠ e) : some g ≠ v.ownBlock := by
  rcases ho.2 with ⟨rfl, _⟩ | ⟨g', cap, cur, rfl, _, hgb, _⟩
  · simp [Value.ownBlock]
  · intro e'
    obtain rfl : g = g' := by simpa [Value.ownBlock] using e'
    rw [show w.heap[g]? = _ from h] at hgb
    cases hgb
    exact hte rfl
theorem gr_set (W : World) (b i : Nat) (u : Value) : W.grownBy (W.setCell ⟨b, i, none⟩ u) (some b) := ⟨rfl, rfl, rfl, by simp, fun j _ hj => heap_setCell_other W ⟨b, i, none⟩ j u (fun e => hj (by rw [e]))⟩

end Go.Proofs.YtbipcflmmfipbaaDoor
/- The document's answer to writing a name. -/
namespace Go.Proofs.YtbipcflmmfipbaaDoor
open Go.RowKit

theorem rSplit_no (s : ByteArray) (w : World) (hs : s.size ≤ 140737488355328) (h : Nm.split s.data.toList = none) :
    Calls Tryd.prog 102 #[.string s] w fun e w' => ∃ v, e = .returned (.tuple #[v, .bool false]) ∧ Below w.heap.size w w' :=
  (Split_any s w hs).mono fun _ _ hp => by rw [h] at hp; obtain ⟨v, hb, he⟩ := hp; exact ⟨v, he, hb⟩
theorem rSplit_yes (s : ByteArray) (ls : List (List UInt8)) (w : World) (hs : s.size ≤ 140737488355328) (h : Nm.split s.data.toList = some ls) :
    Calls Tryd.prog 102 #[.string s] w fun e w' => ∃ ad cp, e = .returned (.tuple #[.slice ad ls.length cp, .bool true]) ∧ w'.ownsRow w.heap.size 9 1 (.slice ad ls.length cp) ls.length (svs ls) ∧ Below w.heap.size w w' :=
  (Split_any s w hs).mono fun _ _ hp => by
    rw [h] at hp
    obtain ⟨v, hb, he, ho⟩ := hp
    obtain ⟨ad, cp, rfl⟩ := own_form ho
    exact ⟨ad, cp, he, ho, hb⟩
theorem own_tail {w : World} {b n g c m : Nat} {e : TypeId} {ls : List (List UInt8)} (h : w.ownsRow b e 1 (.slice (some ⟨g, 0, none⟩) n c) n (svs ls)) (hn : n = ls.length) (hm : m ≤ n) :
    Rd w w.heap.size (.slice (some ⟨g, m, none⟩) (n - m) (c - m)) (ls.drop m) := by
  subst hn
  have hg : g < w.heap.size := (h.lt g rfl).2
  have hc := own_le h
  refine ⟨_, _, by rw [List.length_drop], by rw [List.length_drop]; omega, fun _ => ⟨g, m, rfl, hg, fun j hj => ?_⟩⟩
  rw [List.length_drop] at hj
  exact own_cells h (m + j) _ (by simp [svs, show m + j < ls.length by omega])
/-- how far it has come. -/
def RpI (plain : Bool) (t : Tab) (l : List UInt8) (ls : List (List UInt8)) (w : World) (vL : Value) (k : Nat) (nw : Tab) (vO vN vP : Value) (wr : World) : Prop :=
  wr.ownsRow w.heap.size 5 1 vO (l ++ Nm.body (ls.take k)).length (bv (l ++ Nm.body (ls.take k))) ∧ wr.ownsRow w.heap.size 23 1 vN nw.length (svs (nw.map (·.1))) ∧ wr.ownsRow w.heap.size 3 1 vP nw.length (ints (nw.map (·.2))) ∧
  wr.ownsRow w.heap.size 9 1 vL ls.length (svs ls) ∧ Below w.heap.size w wr ∧ Pr.Cont plain t l.length ls k (t ++ nw) ∧ Pr.Ahead t (t ++ nw) ls k ∧ nw.length ≤ k

/-- one byte, then a label: the row of bytes is a label longer. -/
theorem lab_bytes (l : List UInt8) {ls : List (List UInt8)} {k : Nat} (hk : k < ls.length) : l ++ Nm.body (ls.take (k + 1)) = (l ++ Nm.body (ls.take k)) ++ [UInt8.ofNat (ls[k]'hk).length] ++ (ls[k]'hk) := by
  rw [List.take_succ_eq_append_getElem hk, Nm.body_append]
  simp [Nm.body, Nm.lab]
theorem bv_one8 (n : Nat) (h : n < 256) : [Value.int .u8 (n : Int)] = bv [UInt8.ofNat n] := by
  simp [bv]; omega

end Go.Proofs.YtbipcflmmfipbaaDoor
/- Tables made, sizes, and the known names of each statement. -/
namespace Go.Proofs.YtbipcflmmfipbaaDoor
open Go.RowKit

set_option maxHeartbeats 400000 in
theorem pnew_any (w : World) :
    Calls Tryd.prog 14 #[] w fun e w' => e = .returned (.pointer (some ⟨w.heap.size, 0, none⟩)) ∧ w' = w.alloc (.cells #[.map none] 92) := by
  go_enter Tryd.func14, Tryd.ntmps14
  go_wp2
  go_ret
  exact ⟨rfl, rfl⟩
theorem Tb.new (w : World) {base : Nat} (hb : base ≤ w.heap.size) : Tb (w.alloc (.cells #[.map none] 92)) w.heap.size base none [] :=
  ⟨hb, Has.fresh w _ _, (fun x hx => by cases hx), fun _ => rfl, fun m e => by cases e⟩
theorem rIs_any (s : ByteArray) (w : World) (hs : s.size ≤ 140737488355328) :
    Calls Tryd.prog 100 #[.string s] w fun e w' => e = .returned (.bool (Nm.split s.data.toList).isSome) ∧ Below w.heap.size w w' := by
  cases h : Nm.split s.data.toList with
  | none =>
    have HC := Lib.hid (rSplit_no s w hs h)
    clear h
    go_enter Tryd.func100, Tryd.ntmps100
    go_wp2_with (go_at_call 102; refine HC.out.mono ?_; rintro e w1 ⟨v, rfl, hb1⟩)
    go_ret
    exact ⟨rfl, hb1⟩
  | some ls =>
    have HC := Lib.hid (rSplit_yes s ls w hs h)
    clear h
    go_enter Tryd.func100, Tryd.ntmps100
    go_wp2_with (go_at_call 102; refine HC.out.mono ?_; rintro e w1 ⟨ad, cp, rfl, ho, hb1⟩)
    go_ret
    exact ⟨rfl, hb1⟩
def ab : List (List UInt8) := [[97], [98]]
def cb : List (List UInt8) := [[99], [98]]
def tab1 : Tab := [([1, 97, 1, 98, 0], 0), ([1, 98, 0], 2)]
theorem ab_split : Nm.split [1, 97, 1, 98, 0] = some ab := by rfl
theorem cb_split : Nm.split [1, 99, 1, 98, 0] = some cb := by rfl
theorem ab_put : Pr.pw false [] 0 ab = (tab1, [1, 97, 1, 98, 0]) := by rfl
theorem cb_put : Pr.pw false tab1 5 cb = (tab1 ++ [([1, 99, 1, 98, 0], 5)], [1, 99, 192, 2]) := by rfl
theorem cb_take : Pr.tk [1, 97, 1, 98, 0, 1, 99, 192, 2] 5 5 1 = .ok cb 9 := by
  have h1 := Pr.pw_sound (ls := ab) (t := []) (b := []) false (Nm.split_some.1 ab_split).2.1 (by decide) (Pr.Snd.nil _)
  rw [show ([] : List UInt8).length = 0 from rfl, ab_put] at h1
  have h2 := Pr.pw_sound (ls := cb) (t := tab1) (b := [1, 97, 1, 98, 0]) false (Nm.split_some.1 cb_split).2.1 (by decide) h1.2
  rw [show ([1, 97, 1, 98, 0] : List UInt8).length = 5 from rfl, cb_put] at h2
  exact h2.1 [] 5 1 (Nat.le_refl _) (by decide)
theorem wput1 (g base : Nat) (w : World) (hT : Tb w g base none []) (hb : base ≤ w.heap.size) :
    Calls Tryd.prog 58 #[.pointer (some ⟨g, 0, none⟩), .slice none 0 0, .string ⟨#[1, 97, 1, 98, 0]⟩] w fun e w' => ∃ A c mp, e = .returned (.tuple #[.slice A 5 c, .int .i64 0]) ∧ w'.ownsRow w.heap.size 5 1 (.slice A 5 c) 5 (bv [1, 97, 1, 98, 0]) ∧ Tb w' g base mp tab1 ∧ Rg g base w w' := by
  refine (put_in g base none [] none [] 0 ⟨#[1, 97, 1, 98, 0]⟩ ab w hT hb ab_split (by simp) (fun _ => rfl) (by simp) Bs.nil (by simp)).mono ?_
  rintro e w' ⟨v, mp, rfl, h1, h2, h3⟩
  rw [show ([] : List UInt8).length = 0 from rfl, ab_put] at h1 h2
  obtain ⟨A, c, rfl⟩ := own_form h1
  exact ⟨A, c, mp, rfl, h1, h2, h3⟩
theorem wput2 (g base : Nat) (mp : Option Nat) (A : Option Addr) (c : Nat) (w : World) (hT : Tb w g base mp tab1) (hb : base ≤ w.heap.size) (ho : w.ownsRow base 5 1 (.slice A 5 c) 5 (bv [1, 97, 1, 98, 0])) :
    Calls Tryd.prog 58 #[.pointer (some ⟨g, 0, none⟩), .slice A 5 c, .string ⟨#[1, 99, 1, 98, 0]⟩] w fun e w' => ∃ A c, e = .returned (.tuple #[.slice A 9 c, .int .i64 0]) ∧ w'.ownsRow w.heap.size 5 1 (.slice A 9 c) 9 (bv [1, 97, 1, 98, 0, 1, 99, 192, 2]) ∧ Below base w w' := by
  obtain ⟨g0, hA, hc, _⟩ := own_at ho (by omega : 0 < 5)
  refine (put_in g base mp tab1 A [1, 97, 1, 98, 0] c ⟨#[1, 99, 1, 98, 0]⟩ cb w hT hb cb_split hc (fun e => by rw [hA] at e; cases e) (by simp) ((Bs.of_own ho).more (Nat.zero_le _) (Nat.le_refl _)) (by simp [tab1])).mono ?_
  rintro e w' ⟨v, mp, rfl, h1, h2, h3⟩
  rw [show ([1, 97, 1, 98, 0] : List UInt8).length = 5 from rfl, cb_put] at h1 h2
  obtain ⟨A, c, rfl⟩ := own_form h1
  exact ⟨A, c, rfl, h1, h3.below⟩
theorem wtake (A : Option Addr) (c b : Nat) (w : World) (ho : w.ownsRow b 5 1 (.slice A 9 c) 9 (bv [1, 97, 1, 98, 0, 1, 99, 192, 2])) :
    Calls Tryd.prog 144 #[.slice A 9 c, .int .i64 5] w fun e w' => e = .returned (.tuple #[.string ⟨#[1, 99, 1, 98, 0]⟩, .int .i64 9, .int .i64 0]) ∧ Below w.heap.size w w' := by
  obtain ⟨g0, hA, hc, _⟩ := own_at ho (by omega : 0 < 9)
  refine (prTake_any A [1, 97, 1, 98, 0, 1, 99, 192, 2] c 5 w hc (by simp) 0 ((Bs.of_own ho).more (Nat.zero_le _) (Nat.le_refl _))).mono ?_
  rintro e w' ⟨rfl, h⟩
  refine ⟨?_, h⟩
  unfold prTakeV
  rw [if_neg (by simp), show ((5 : Int).toNat) = 5 from rfl, cb_take]
  rfl
end Go.Proofs.YtbipcflmmfipbaaDoor
