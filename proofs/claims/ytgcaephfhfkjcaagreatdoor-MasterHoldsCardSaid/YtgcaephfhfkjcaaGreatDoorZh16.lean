/- Texts of the proofs, merged. -/
import Derived.Test.YtgcaephfhfkjcaaGreatDoorZh15
import Derived.OrdersIn
import Derived.OrdersHeld
import Derived.Test.YtgcaephfhfkjcaaGreatDoorZh8
import Derived.Laws.Bits64b
import Derived.Test.YtgcaephfhfkjcaaGreatDoorZh5
import Derived.Test.YtgcaephfhfkjcaaGreatDoorZh9
import Derived.Deep.CutBlock
import Derived.Test.YtgcaephfhfkjcaaGreatDoorZh4
import Derived.MapKept
import Derived.Laws.StructEq
import Derived.Test.YtgcaephfhfkjcaaGreatDoorZh11
import Derived.Laws.AppendOwnNone
import Derived.Lib.AppendStr
import Derived.Test.YtgcaephfhfkjcaaGreatDoorZh14
import Derived.Deep.RegionHeld
namespace Go.Proofs.YtgcaephfhfkjcaaGreatDoor
open Go.RowKit Go.Shelf
attribute [local go_sem] Oper.semAt_some

section
variable {P : Program}
end

section
variable {g base : Nat} {w w' : World} {mp : Option Nat} {t : Tab}
theorem Rg.grown_new (h : Rg g base w w') {w2 : World} {row : Option Nat} (hg : w'.grownBy w2 row) (hr : ∀ r, row = some r → w.heap.size ≤ r) (hb : base ≤ w.heap.size) : Rg g base w w2 := by
  refine ⟨h.below.grown hg (by have := h.below.size; omega) (fun k hk => by have := hr k hk; omega), fun k o hk ho hn => ?_⟩
  have h1 := h.same k o hk ho hn
  have hlt := (Array.getElem?_eq_some_iff.1 ho).1
  exact (hg.block k (Array.getElem?_eq_some_iff.1 h1).1 (fun e => by have := hr k e.symm; omega)).trans h1
theorem Rg.more (h : Rg g base w w') {w2 : World} (hb : Below w'.heap.size w' w2) (hbs : base ≤ w.heap.size) : Rg g base w w2 := h.grown_new (grown_of_below hb) (fun r e => by cases e) hbs
end

end Go.Proofs.YtgcaephfhfkjcaaGreatDoor
namespace Go.Proofs.YtgcaephfhfkjcaaGreatDoor
open Go.RowKit

section
variable {F : Fence} {n : Nat} {P : Program} {ops : Array Oper} {Q : Exit → Act → World → Prop} {md : Region.Mode} {S : World → Prop}

def isDefer (o : Oper) : Bool := match o.op with | .defer _ => true | _ => false
theorem plain_of {o : Oper} (h : isDefer o = false) : ∀ c, o.op ≠ .defer c := fun c e => by simp [isDefer, e] at h

/-- in every world that meets S it leaves v, and nothing else; and it is about to make no call. -/
def YieldsS (P : Program) (ops : Array Oper) (S : World → Prop) (o : Oper) (v : Value) (a : Act) : Prop := YieldsIf P ops S o v a ∧ (isDefer o = false) ∧ ∀ w, o.about P w a.eval = none

theorem YieldsS.wpOpIn {i : Nat} {o : Oper} {v : Value} {a : Act} (hi : ops[i]? = some o) (hy : YieldsS P ops S o v a)
    {K : Act → World → Prop} {w : World} (hS : S w) (h : K (a.put o.dst v) w) : wpOpIn F n P ops Q i K a w := by
  unfold Go.wpOpIn
  simp only [hi]
  have hab : ∀ f, o.about P w a.eval = some f → F.fn f := fun f hf => by rw [hy.2.2 w] at hf; cases hf
  rcases hy.1 with ⟨hw, hv⟩ | ⟨hw, rfl⟩
  · simp only [hw, if_true, Oper.wpIn, Oper.semAt_plain F _ _ (plain_of hy.2.1), hv w hS, Oper.uponIn]; exact ⟨hab, h⟩
  · simp only [hw, Bool.false_eq_true, if_false]; exact ⟨hab, h⟩

/-- whatever order is picked from here on, and S holds behind every operation that is carried out. -/
def wpAnyS (F : Fence) (n : Nat) (P : Program) (md : Region.Mode) (ops : Array Oper) (Q : Exit → Act → World → Prop) (S : World → Prop) : Nat → Array Bool → Act → World → Prop
  | 0, listed, a, w => Region.ready md ops listed = [] ∧ Q .normal a w
  | fuel + 1, listed, a, w =>
    (Region.ready md ops listed = [] → Q .normal a w) ∧
    ∀ i ∈ Region.ready md ops listed, wpOpIn F n P ops Q i (fun a' w' => S w' ∧ wpAnyS F n P md ops Q S fuel (listed.setIfInBounds i true) a' w') a w
/-- each of these comes up next; behind it S holds, and the rest goes in whatever order. -/
def AllS (F : Fence) (n : Nat) (P : Program) (md : Region.Mode) (ops : Array Oper) (Q : Exit → Act → World → Prop) (S : World → Prop) (fuel : Nat) (listed : Array Bool) (a : Act) (w : World) (rs : List Nat) : Prop :=
  ∀ i ∈ rs, wpOpIn F n P ops Q i (fun a' w' => S w' ∧ wpAnyS F n P md ops Q S fuel (listed.setIfInBounds i true) a' w') a w
theorem AllS.nil {fuel : Nat} {listed : Array Bool} {a : Act} {w : World} : AllS F n P md ops Q S fuel listed a w [] := fun _ h => by cases h
theorem AllS.cons {fuel : Nat} {listed : Array Bool} {a : Act} {w : World} {i : Nat} {o : Oper} {rs : List Nat} (ho : ops[i]? = some o) (hg : o.guard = none)
    (h : ∀ K' : Act → World → Prop, (∀ a w, S w → wpAnyS F n P md ops Q S fuel (listed.setIfInBounds i true) a w → K' a w) → Oper.wpIn F n P o a w K' Q)
    (hs : AllS F n P md ops Q S fuel listed a w rs) : AllS F n P md ops Q S fuel listed a w (i :: rs) := fun j hj => by
  rcases List.mem_cons.1 hj with rfl | hj
  · exact wpOpIn_step ho (fun K' hK => by simp only [Region.wanted, hg, if_true]; exact h K' (fun a w hS hW => hK a w ⟨hS, hW⟩))
  · exact hs j hj
end
end Go.Proofs.YtgcaephfhfkjcaaGreatDoor
namespace Go.Proofs.YtgcaephfhfkjcaaGreatDoor
open Go.RowKit

/-- a row of the call's own, perhaps cut at its end. -/
def RowO (W : World) (b : Nat) (v : Value) (l : List UInt8) : Prop :=
  W.ownsRow b 5 1 v l.length (bv l) ∨ ∃ g cp, v = .slice (some ⟨g, 0, none⟩) l.length l.length ∧ W.ownsRow b 5 1 (.slice (some ⟨g, 0, none⟩) l.length cp) l.length (bv l)
theorem RowO.mono {W : World} {b b' : Nat} {v : Value} {l : List UInt8} (h : RowO W b v l) (hb : b' ≤ b) : RowO W b' v l := by
  rcases h with h | ⟨g, cp, rfl, h⟩
  · exact .inl (own_mono h hb)
  · exact .inr ⟨g, cp, rfl, own_mono h hb⟩
theorem RowO.below {W W' : World} {b : Nat} {v : Value} {l : List UInt8} (h : RowO W b v l) (hb : Below W.heap.size W W') : RowO W' b v l := by
  rcases h with h | ⟨g, cp, rfl, h⟩
  · exact .inl (own_below h hb (Nat.le_refl _))
  · exact .inr ⟨g, cp, rfl, own_below h hb (Nat.le_refl _)⟩
section
variable {w1 W W' : World} {g base gd : Nat} {T : Tab} {l : List UInt8} {d : Dv} {hl ml : List (List UInt8)} {ps : List Nat} {v v' : Value}
end
end Go.Proofs.YtgcaephfhfkjcaaGreatDoor
namespace Go.Proofs.YtgcaephfhfkjcaaGreatDoor
open Go.RowKit

theorem rd_hasN2 (d : Dv) {n : Nat} (h : n < 5) : Rd.hasN d.dt n = d.n n := by
  rcases (by omega : n = 0 ∨ n = 1 ∨ n = 2 ∨ n = 3 ∨ n = 4) with rfl | rfl | rfl | rfl | rfl <;> rfl
end Go.Proofs.YtgcaephfhfkjcaaGreatDoor
namespace Go.Proofs.YtgcaephfhfkjcaaGreatDoor
open Go.RowKit

def ints (t : List Nat) : List Value := t.map fun (p : Nat) => Value.int .i64 p
end Go.Proofs.YtgcaephfhfkjcaaGreatDoor
namespace Go.Proofs.YtgcaephfhfkjcaaGreatDoor
open Go.RowKit

section
variable {w w' : World} {b b2 n n2 : Nat} {e e2 : TypeId} {v v2 : Value} {xs ys : List Value}
end
section
variable {base : Nat} {w w' w2 : World}
end
theorem has_not_own {w : World} {g b n : Nat} {t e : TypeId} {cs : Array Value} {v : Value} {xs : List Value} (h : Has w g t cs) (ho : w.ownsRow b e 1 v n xs) (hte : t ≠ e) : some g ≠ v.ownBlock := by
  rcases ho.2 with ⟨rfl, _⟩ | ⟨g', cap, cur, rfl, _, hgb, _⟩
  · simp [Value.ownBlock]
  · intro e'
    obtain rfl : g = g' := by simpa [Value.ownBlock] using e'
    rw [show w.heap[g]? = _ from h] at hgb
    cases hgb
    exact hte rfl
end Go.Proofs.YtgcaephfhfkjcaaGreatDoor
namespace Go.Proofs.YtgcaephfhfkjcaaGreatDoor
open Go.RowKit

namespace Rd
/-- the bytes that data of a type come to, at a place; hl and ml: the labels of its names. -/
def put (T : Tab) (a t : Nat) (d : Dt) (hl ml : List By) : Tab × By :=
  if t = 2 ∨ t = 5 ∨ t = 12 then Pr.pw false T a hl
  else if t = 15 then ((Pr.pw false T (a + 2) hl).1, Oc.beb 2 d.n0 ++ (Pr.pw false T (a + 2) hl).2)
  else if t = 33 then ((Pr.pw true T (a + 6) hl).1, Oc.beb 2 d.n0 ++ (Oc.beb 2 d.n1 ++ (Oc.beb 2 d.n2 ++ (Pr.pw true T (a + 6) hl).2)))
  else if t = 6 then ((Pr.pw false (Pr.pw false T a hl).1 (a + (Pr.pw false T a hl).2.length) ml).1, (Pr.pw false T a hl).2 ++ ((Pr.pw false (Pr.pw false T a hl).1 (a + (Pr.pw false T a hl).2.length) ml).2 ++ (Oc.beb 4 d.n0 ++ (Oc.beb 4 d.n1 ++ (Oc.beb 4 d.n2 ++ (Oc.beb 4 d.n3 ++ Oc.beb 4 d.n4))))))
  else (T, d.raw)
end Rd
section
variable {w W : World} {g base : Nat} {T : Tab} {d : Dv} {l : List UInt8} {n c : Nat} {A : Option Addr}
end
end Go.Proofs.YtgcaephfhfkjcaaGreatDoor
namespace Go.Proofs.YtgcaephfhfkjcaaGreatDoor
open Go.RowKit

/-- what is told of a reading. -/
def trV : Pr.TR → Value
  | .err e => .tuple #[.string ⟨#[]⟩, .int .i64 0, .int .i64 e]
  | .ok ls bh => .tuple #[sv (Nm.glue ls), .int .i64 bh, .int .i64 0]
/-- what Take answers. -/
def prTakeV (l : List UInt8) (z : Int) : Value :=
  if z < 0 ∨ (l.length : Int) < z then .tuple #[.string ⟨#[]⟩, .int .i64 0, .int .i64 1] else trV (Pr.tk l z.toNat z.toNat 1)
end Go.Proofs.YtgcaephfhfkjcaaGreatDoor
namespace Go.Proofs.YtgcaephfhfkjcaaGreatDoor
open Go.RowKit

/-- a reading under way: its bytes, the labels so far, whether a pointer leads on, and whither. -/
structure RS (W : World) (g B : Nat) (A : Option Addr) (n c : Nat) (X : List UInt8) (ld : Bool) (tw : Int) : Prop where
  hB : B ≤ g
  own : ∃ vL, Has W g 247 #[.slice A n c, vL, .bool ld, .int .i64 tw] ∧ W.ownsRow B 5 1 vL X.length (bv X)
theorem has_ne_own2 {W : World} {g B : Nat} {t e : TypeId} {cs : Array Value} {v : Value} {n : Nat} {xs : List Value} (h : Has W g t cs) (ho : W.ownsRow B e 1 v n xs) (hte : t ≠ e) : some g ≠ v.ownBlock := by
  rcases ho.2 with ⟨rfl, _⟩ | ⟨g', cap, cur, rfl, _, hgb, _⟩
  · simp [Value.ownBlock]
  · intro e'
    obtain rfl : g = g' := by simpa [Value.ownBlock] using e'
    rw [show W.heap[g]? = _ from h] at hgb
    cases hgb
    exact hte rfl
theorem RS.below {W W' : World} {g B : Nat} {A : Option Addr} {n c : Nat} {X : List UInt8} {ld : Bool} {tw : Int} (h : RS W g B A n c X ld tw) (hb : Below W.heap.size W W') : RS W' g B A n c X ld tw := by
  obtain ⟨hB, vL, h1, h2⟩ := h
  exact ⟨hB, vL, h1.below hb h1.lt, own_below h2 hb (Nat.le_refl _)⟩
theorem oper_append_run {P : Program} {w : World} {o : Oper} {a : Act} {K : Act → World → Prop} {Q : Exit → Act → World → Prop} (s x : Operand) (t u : TypeId)
    (ho : o.op = .call { callee := .builtin .append, args := #[s, x], argTypes := #[t, u] }) (v y : Value) (hs : a.eval s = v) (hx : a.eval x = y) {v' : Value} {w' : World}
    (hr : (Builtin.append_ #[t, u] o.type #[v, y]).run P w = .ok v' w') (h : K (a.put o.dst v') w') : o.wp P a w K Q := by
  unfold Oper.wp execOp
  simp only [ho, resolve, invoke, builtin, Sem.run_bind, Sem.run_pure, Result.andThen_ok, List.map_toArray, List.map_cons, List.map_nil, hs, hx, hr]
  exact h
theorem set_gr (W : World) (b i : Nat) (u : Value) : W.grownBy (W.setCell ⟨b, i, none⟩ u) (some b) := ⟨rfl, rfl, rfl, by simp, fun j _ hj => heap_setCell_other W ⟨b, i, none⟩ j u (fun e => hj (by rw [e]))⟩
theorem num1 (l : List UInt8) (n : Nat) (h : n < l.length) : Oc.num ((l.drop n).take 1) = (l[n]'h).toNat := by
  have := num_step l n 0 h
  simpa [Oc.num] using this
theorem num2 (l : List UInt8) (n : Nat) (h : n + 1 < l.length) : Oc.num ((l.drop n).take 2) = (l[n]'(by omega)).toNat * 256 + (l[n + 1]'h).toNat := by
  have := num_step l n 1 h
  rw [num1 l n (by omega)] at this
  exact this
theorem take_lab (l : List UInt8) (n k : Nat) (h : n < l.length) (hk : (l[n]'h).toNat = k) (h2 : n + 1 + k ≤ l.length) : (l.drop n).take (1 + k) = Nm.lab ((l.drop (n + 1)).take k) := by
  rw [List.drop_eq_getElem_cons h, Nat.add_comm 1 k, List.take_succ_cons]
  unfold Nm.lab
  have : ((l.drop (n + 1)).take k).length = k := by rw [List.length_take, List.length_drop]; omega
  rw [this, ← hk]
  simp

set_option maxHeartbeats 1000000 in
set_option maxRecDepth 100000 in
theorem lab_few (g B n c k lo hi : Nat) (A : Option Addr) (l : List UInt8) (X : List UInt8) (ld : Bool) (tw : Int) (W : World) (h : RS W g B A l.length c X ld tw) (hc : l.length ≤ c) (hm : l.length ≤ 211106232532992) (hb : Bs W lo hi A l)
    (hn : n < l.length) (hk : (l[n]'hn).toNat = k) (hf : l.length < n + 1 + k) :
    Calls Tryz.prog 199 #[.pointer (some ⟨g, 0, none⟩), .int .i64 n] W fun e W' => e = .returned (.tuple #[.int .i64 0, .int .i64 6]) ∧ W = W' := by
  obtain ⟨hB, vL, h1, h2⟩ := h
  have c0 : W.cell? ⟨g, 0, none⟩ = some (.slice A l.length c) := by rw [h1.cell]; rfl
  have hT := takeText A l c n W hc hm lo hi hb
  have hnum : Oc.num ((l.drop n).take 1) = k := by rw [num1 l n hn, hk]
  have hv : takeTextV l n = .tuple #[.string ⟨#[]⟩, .int .i64 0, .int .i64 6] := by
    unfold takeTextV
    rw [if_neg (by omega)]
    simp only [Int.toNat_natCast, hnum]
    rw [if_pos (.inl (by omega))]
  rw [hv] at hT
  have HT := Lib.hid hT
  clear h1 h2 hT hv hnum hb
  go_enter Tryz.func199, Tryz.ntmps199
  go_wp2_with (go_at_call 121; refine HT.out.mono ?_; rintro e w' ⟨rfl, rfl⟩)
  go_ret2
  exact ⟨rfl, rfl⟩
set_option maxHeartbeats 1000000 in
set_option maxRecDepth 100000 in
theorem lab_long (g B n c k lo hi : Nat) (A : Option Addr) (l : List UInt8) (X : List UInt8) (ld : Bool) (tw : Int) (W : World) (h : RS W g B A l.length c X ld tw) (hc : l.length ≤ c) (hm : l.length ≤ 211106232532992) (hb : Bs W lo hi A l)
    (hn : n < l.length) (hk : (l[n]'hn).toNat = k) (hf : n + 1 + k ≤ l.length) (hX : X.length ≤ 254) (hL : 255 < X.length + 1 + k + 1) :
    Calls Tryz.prog 199 #[.pointer (some ⟨g, 0, none⟩), .int .i64 n] W fun e W' => e = .returned (.tuple #[.int .i64 0, .int .i64 2]) ∧ W = W' := by
  obtain ⟨hB, vL, h1, h2⟩ := h
  obtain ⟨aL, cL, rfl⟩ := own_form h2
  have c0 : W.cell? ⟨g, 0, none⟩ = some (.slice A l.length c) := by rw [h1.cell]; rfl
  have c1 : W.cell? ⟨g, 1, none⟩ = some (.slice aL X.length cL) := by rw [h1.cell]; rfl
  have hT := takeText A l c n W hc hm lo hi hb
  have hnum : Oc.num ((l.drop n).take 1) = k := by rw [num1 l n hn, hk]
  have hk8 : k < 256 := by rw [← hk]; exact (l[n]'hn).toNat_lt
  have hv : takeTextV l n = .tuple #[sv ((l.drop (n + 1)).take k), .int .i64 ((n : Int) + 1 + k), .int .i64 0] := by
    unfold takeTextV
    rw [if_neg (by omega)]
    simp only [Int.toNat_natCast, hnum]
    rw [if_neg (by omega)]
  rw [hv] at hT
  have HT := Lib.hid hT
  have hkn : Hid ((l[n]'hn).toNat = k) := hk
  clear h1 h2 hT hv hnum hb hk
  go_enter Tryz.func199, Tryz.ntmps199
  go_wp2_with (go_at_call 121; refine HT.out.mono ?_; rintro e w' ⟨rfl, rfl⟩)
  go_ret2
  exact ⟨rfl, rfl⟩

set_option maxHeartbeats 1000000 in
set_option maxRecDepth 100000 in
theorem lab_ok (g B n c k lo hi : Nat) (A : Option Addr) (l : List UInt8) (X : List UInt8) (ld : Bool) (tw : Int) (W : World) (h : RS W g B A l.length c X ld tw) (hc : l.length ≤ c) (hm : l.length ≤ 211106232532992) (hb : Bs W lo hi A l) (hBW : B ≤ W.heap.size)
    (hn : n < l.length) (hk : (l[n]'hn).toNat = k) (hf : n + 1 + k ≤ l.length) (hL : ¬ 255 < X.length + 1 + k + 1) :
    Calls Tryz.prog 199 #[.pointer (some ⟨g, 0, none⟩), .int .i64 n] W fun e W' => e = .returned (.tuple #[.int .i64 (n + 1 + k), .int .i64 0]) ∧ RS W' g B A l.length c (X ++ Nm.lab ((l.drop (n + 1)).take k)) ld tw ∧ Below B W W' := by
  obtain ⟨hB, vL, h1, h2⟩ := h
  obtain ⟨i0, hi0, hz0, hz1, hz2⟩ := info_parts Tryz.infoByte
  obtain ⟨g0, o0, rfl, hlo, hhi, hcell⟩ := hb (by omega)
  obtain ⟨aL, cL, rfl⟩ := own_form h2
  have mixed : Tryz.prog.follows .mixedOrders = true := by kernel_rfl
  have c0 : W.cell? ⟨g, 0, none⟩ = some (.slice (some ⟨g0, o0, none⟩) l.length c) := by rw [h1.cell]; rfl
  have c1 : W.cell? ⟨g, 1, none⟩ = some (.slice aL X.length cL) := by rw [h1.cell]; rfl
  have hT := takeText (some ⟨g0, o0, none⟩) l c n W hc hm lo hi hb
  have hnum : Oc.num ((l.drop n).take 1) = k := by rw [num1 l n hn, hk]
  have hk8 : k < 256 := by rw [← hk]; exact (l[n]'hn).toNat_lt
  obtain ⟨m, hmm⟩ : ∃ m : Nat, n + 1 + k = m := ⟨_, rfl⟩
  have hv : takeTextV l n = .tuple #[sv ((l.drop (n + 1)).take k), .int .i64 (m : Nat), .int .i64 0] := by
    unfold takeTextV
    rw [if_neg (by omega)]
    simp only [Int.toNat_natCast, hnum]
    rw [if_neg (by omega), ← hmm]
    congr 4
  rw [hv] at hT
  have HT := Lib.hid hT
  have hbs : Bs W.drew lo hi (some ⟨g0, o0 + n, none⟩) ((l.drop n).take (m - n)) := hb.sub n (m - n) (by omega)
  have hll : ((l.drop n).take (m - n)).length = m - n := by rw [List.length_take, List.length_drop]; omega
  obtain ⟨v', w', hrun, hO', hG', _⟩ := run_append_own (P := Tryz.prog) W.drew B 56 56 5 i0 (.int .u8 0) 1 1 Tryz.underlying56 hi0 hz0 hz1 hz2 rfl (by decide) (.slice aL X.length cL) X.length (bv X) h2 ⟨g0, o0 + n, none⟩ (m - n) (c - n) (bv ((l.drop n).take (m - n))) (by rw [bv_length, hll]; omega) hbs.at_ (bv_one _) (by unfold maxLen; omega) (by omega) hBW
  obtain ⟨aN, cN, rfl⟩ := own_form hO'
  have hq1 : (m : Int) ≤ (c : Int) := by omega
  have hq2 : n ≤ m := by omega
  have hq3 : ¬ c = n := by omega
  have hq4 : (X.length : Int) + m - n + 1 ≤ 255 := by omega
  have hq5 : m ≤ l.length := by omega
  have H1 := Lib.hid h1
  have HO := Lib.hid hO'
  have HG := Lib.hid hG'
  have H2 := Lib.hid h2
  have HTL : Hid ((l.drop n).take (m - n) = Nm.lab ((l.drop (n + 1)).take k)) := by
    have := take_lab l n k hn hk hf
    rw [show m - n = 1 + k from by omega]
    exact this
  have HM := Lib.hid hmm
  have HRUN := Lib.hid hrun
  have HL : Hid (m - n = 1 + k) := by show _ = _; omega
  clear h1 h2 hT hv hnum hb hk hO' hG' hbs hll hcell hmm hf hL hrun hi0 hz0 hz1 hz2
  go_enter Tryz.func199, Tryz.ntmps199
  go_wp2_with (go_at_call 121; refine HT.out.mono ?_; rintro e w' ⟨rfl, rfl⟩)
  refine wp_region_held (S := fun W' => W'.cell? ⟨g, 0, none⟩ = some (.slice (some ⟨g0, o0, none⟩) l.length c)) mixed ?_
  have hS0 : W.drew.cell? ⟨g, 0, none⟩ = some (.slice (some ⟨g0, o0, none⟩) l.length c) := c0
  show wpAnyH _ _ _ _ _ 16 #[false, false, false, false, false, false, false, false, false, false, false, false, false, false, false, false] _ W.drew
  refine wpAnyH_take (i := 0) (v := .pointer (some ⟨g, 0, none⟩)) rfl (by kernel_rfl) (by kernel_rfl) (by kernel_rfl) (fun _ _ _ h => h) (Or.inl ⟨by rfl, fun W' hW' => (by go_simp)⟩) hS0 ?_
  simp only [Act.put, List.setIfInBounds_toArray, List.set_cons_zero]
  refine wpAnyH_take (i := 1) (v := .pointer (some ⟨g, 0, none⟩)) rfl (by kernel_rfl) (by kernel_rfl) (by kernel_rfl) (fun _ _ _ h => h) (Or.inl ⟨by rfl, fun W' hW' => (by go_simp)⟩) hS0 ?_
  simp only [Act.put, List.setIfInBounds_toArray, List.set_cons_zero, List.set_cons_succ]
  refine wpAnyH_take (i := 2) (v := .pointer (some ⟨g, 0, none⟩)) rfl (by kernel_rfl) (by kernel_rfl) (by kernel_rfl) (fun _ _ _ h => h) (Or.inl ⟨by rfl, fun W' hW' => (by go_simp)⟩) hS0 ?_
  simp only [Act.put, List.setIfInBounds_toArray, List.set_cons_zero, List.set_cons_succ]
  refine wpAnyH_take (i := 3) (v := .pointer (some ⟨g, 1, none⟩)) rfl (by kernel_rfl) (by kernel_rfl) (by kernel_rfl) (fun _ _ _ h => h) (Or.inl ⟨by rfl, fun W' hW' => (by go_simp)⟩) hS0 ?_
  simp only [Act.put, List.setIfInBounds_toArray, List.set_cons_zero, List.set_cons_succ]
  refine wpAnyH_take (i := 5) (v := .pointer (some ⟨g, 0, none⟩)) rfl (by kernel_rfl) (by kernel_rfl) (by kernel_rfl) (fun _ _ _ h => h) (Or.inl ⟨by rfl, fun W' hW' => (by go_simp)⟩) hS0 ?_
  simp only [Act.put, List.setIfInBounds_toArray, List.set_cons_zero, List.set_cons_succ]
  refine wpAnyH_take (i := 6) (v := .pointer (some ⟨g, 0, none⟩)) rfl (by kernel_rfl) (by kernel_rfl) (by kernel_rfl) (fun _ _ _ h => h) (Or.inl ⟨by rfl, fun W' hW' => (by go_simp)⟩) hS0 ?_
  simp only [Act.put, List.setIfInBounds_toArray, List.set_cons_zero, List.set_cons_succ]
  refine wpAnyH_take (i := 7) (v := .pointer (some ⟨g, 0, none⟩)) rfl (by kernel_rfl) (by kernel_rfl) (by kernel_rfl) (fun _ _ _ h => h) (Or.inl ⟨by rfl, fun W' hW' => (by go_simp)⟩) hS0 ?_
  simp only [Act.put, List.setIfInBounds_toArray, List.set_cons_zero, List.set_cons_succ]
  refine wpAnyH_take (i := 8) (v := .slice (some ⟨g0, o0, none⟩) l.length c) rfl (by kernel_rfl) (by kernel_rfl) (by kernel_rfl) (fun _ _ _ h => h) (Or.inl ⟨by rfl, fun W' hW' => (by have := hW'; go_simp)⟩) hS0 ?_
  simp only [Act.put, List.setIfInBounds_toArray, List.set_cons_zero, List.set_cons_succ]
  refine wpAnyH_take (i := 9) (v := .int .i64 n) rfl (by kernel_rfl) (by kernel_rfl) (by kernel_rfl) (fun _ _ _ h => h) (Or.inl ⟨by rfl, fun W' hW' => (by go_simp)⟩) hS0 ?_
  simp only [Act.put, List.setIfInBounds_toArray, List.set_cons_zero, List.set_cons_succ]
  refine wpAnyH_take (i := 10) (v := .int .i64 (m : Nat)) rfl (by kernel_rfl) (by kernel_rfl) (by kernel_rfl) (fun _ _ _ h => h) (Or.inl ⟨by rfl, fun W' hW' => (by go_simp)⟩) hS0 ?_
  simp only [Act.put, List.setIfInBounds_toArray, List.set_cons_zero, List.set_cons_succ]
  refine wpAnyH_take (i := 11) (v := .slice (some ⟨g0, o0 + n, none⟩) (m - n) (c - n)) rfl (by kernel_rfl) (by kernel_rfl) (by kernel_rfl) (fun _ _ _ h => h) (Or.inl ⟨by rfl, fun W' hW' => (by go_simp)⟩) hS0 ?_
  simp only [Act.put, List.setIfInBounds_toArray, List.set_cons_zero, List.set_cons_succ]
  refine wpAnyH_ready (rs := [4]) (by kernel_rfl) (by simp) (AllReadyH.cons rfl (fun K hK => ?_) AllReadyH.nil)
  go_simp
  refine hK.out _ _ hS0 (fun _ => ?_)
  clear hK K
  refine wpAnyH_ready (rs := [12]) (by kernel_rfl) (by simp) (AllReadyH.cons (o := { dst := some 45, op := .call { callee := .builtin .append, args := #[.tmp 37, .tmp 44], argTypes := #[56, 56] }, type := 56, pos := "take.go:60", after := #[{ on := 4, ground := .data }, { on := 11, ground := .data }], guard := none }) rfl (fun K hK => ?_) AllReadyH.nil)
  rw [if_pos (by rfl)]
  refine oper_append_run (.tmp 37) (.tmp 44) _ _ rfl _ _ rfl rfl HRUN.out ?_
  simp only [Act.put, List.setIfInBounds_toArray, List.set_cons_zero, List.set_cons_succ]
  have hw1 : Has w' g 247 #[.slice (some ⟨g0, o0, none⟩) l.length c, .slice aL X.length cL, .bool ld, .int .i64 tw] := Has.grown (w := W.drew) H1.out HG.out (has_ne_own2 H1.out H2.out (by decide))
  have hS1 : w'.cell? ⟨g, 0, none⟩ = some (.slice (some ⟨g0, o0, none⟩) l.length c) := by rw [hw1.cell]; rfl
  have hc1 : w'.cell? ⟨g, 1, none⟩ = some (.slice aL X.length cL) := by rw [hw1.cell]; rfl
  have hf1 := hw1.free 1
  refine hK.out _ _ hS1 (fun _ => ?_)
  clear hK K
  refine wpAnyH_take (i := 13) (v := .pointer (some ⟨g, 0, none⟩)) rfl (by kernel_rfl) (by kernel_rfl) (by kernel_rfl) (fun _ _ _ h => h) (Or.inl ⟨by rfl, fun W' hW' => (by go_simp)⟩) hS1 ?_
  simp only [Act.put, List.setIfInBounds_toArray, List.set_cons_zero, List.set_cons_succ]
  refine wpAnyH_take (i := 14) (v := .pointer (some ⟨g, 1, none⟩)) rfl (by kernel_rfl) (by kernel_rfl) (by kernel_rfl) (fun _ _ _ h => h) (Or.inl ⟨by rfl, fun W' hW' => (by go_simp)⟩) hS1 ?_
  simp only [Act.put, List.setIfInBounds_toArray, List.set_cons_zero, List.set_cons_succ]
  refine wpAnyH_ready (rs := [15]) (by kernel_rfl) (by simp) (AllReadyH.cons rfl (fun K hK => ?_) AllReadyH.nil)
  go_simp
  have hw2 := hw1.set 1 (.slice aN (X.length + (m - n)) cN)
  have hw3 : Has (w'.setCell ⟨g, 1, none⟩ (.slice aN (X.length + (m - n)) cN)) g 247 #[.slice (some ⟨g0, o0, none⟩) l.length c, .slice aN (X.length + (m - n)) cN, .bool ld, .int .i64 tw] := hw2
  refine hK.out _ _ (by rw [hw3.cell]; rfl) (fun _ => ?_)
  clear hK K
  refine wpAnyH_done (by kernel_rfl) ?_ _
  go_wp2
  go_ret2
  have hlen : X.length + (m - n) = (X ++ Nm.lab ((l.drop (n + 1)).take k)).length := by
    rw [← HTL.out, List.length_append, List.length_take, List.length_drop]
    have := HM.out
    have := HL.out
    omega
  refine ⟨?_, ⟨hB, _, hw3, ?_⟩, ?_⟩
  · rw [← HM.out]; rfl
  · refine own_to (w := w'.setCell ⟨g, 1, none⟩ (.slice aN (X.length + (m - n)) cN)) (HO.out.kept (set_gr w' g 1 _) (.inr (has_ne_own2 hw1 HO.out (by decide)).symm)) hlen ?_
    rw [HTL.out, bv_append]
  · exact (((Below.refl B W).drew.grown HG.out hBW (fun r e => (H2.out.lt r e).1)).setCell (by show B ≤ g; exact hB) _)

set_option maxHeartbeats 1000000 in
theorem ptr_short (g B n b0 c lo hi : Nat) (A : Option Addr) (l : List UInt8) (X : List UInt8) (ld : Bool) (tw : Int) (W : World) (h : RS W g B A l.length c X ld tw) (hc : l.length ≤ c) (hm : l.length ≤ 211106232532992) (hb : Bs W lo hi A l)
    (hn : n < l.length) (hf : ¬ n + 1 < l.length) :
    Calls Tryz.prog 198 #[.pointer (some ⟨g, 0, none⟩), .int .i64 b0, .int .i64 n] W fun e W' => e = .returned (.tuple #[.int .i64 0, .int .i64 6]) ∧ W = W' := by
  obtain ⟨hB, vL, h1, h2⟩ := h
  have c0 : W.cell? ⟨g, 0, none⟩ = some (.slice A l.length c) := by rw [h1.cell]; rfl
  have hT := take_u16 A l c n W hc hm lo hi hb
  rw [takeV_short (by omega) (by omega)] at hT
  have HT := Lib.hid hT
  clear h1 h2 hT hb
  go_enter Tryz.func198, Tryz.ntmps198
  go_wp2_with (go_at_call 102; refine HT.out.mono ?_; rintro e w' ⟨rfl, rfl⟩)
  go_ret2
  exact ⟨rfl, rfl⟩
set_option maxHeartbeats 1000000 in
set_option maxRecDepth 100000 in
theorem ptr_any (g B n b0 c lo hi p : Nat) (A : Option Addr) (l : List UInt8) (X : List UInt8) (ld : Bool) (tw : Int) (W : World) (h : RS W g B A l.length c X ld tw) (hc : l.length ≤ c) (hm : l.length ≤ 211106232532992) (hb : Bs W lo hi A l)
    (hn : n + 1 < l.length) (h192 : 192 ≤ (l[n]'(by omega)).toNat) (hp : ((l[n]'(by omega)).toNat - 192) * 256 + (l[n + 1]'hn).toNat = p) :
    Calls Tryz.prog 198 #[.pointer (some ⟨g, 0, none⟩), .int .i64 b0, .int .i64 n] W fun e W' =>
      e = .returned (if p < b0 then .tuple #[.int .i64 (n + 2), .int .i64 0] else .tuple #[.int .i64 0, .int .i64 30]) ∧ RS W' g B A l.length c X true p ∧ Below B W W' := by
  obtain ⟨hB, vL, h1, h2⟩ := h
  obtain ⟨aL, cL, rfl⟩ := own_form h2
  have c0 : W.cell? ⟨g, 0, none⟩ = some (.slice A l.length c) := by rw [h1.cell]; rfl
  have c2 : W.cell? ⟨g, 2, none⟩ = some (.bool ld) := by rw [h1.cell]; rfl
  have c3 : (W.setCell ⟨g, 2, none⟩ (.bool true)).cell? ⟨g, 3, none⟩ = some (.int .i64 tw) := by rw [(h1.set 2 _).cell]; rfl
  have f2 := h1.free 2
  have f3 := h1.free 3
  have hT := take_u16 A l c n W hc hm lo hi hb
  rw [takeV_ok (by omega)] at hT
  obtain ⟨N, hN⟩ : ∃ N, Oc.num ((l.drop n).take 2) = N := ⟨_, rfl⟩
  rw [hN] at hT
  rw [num2 l n hn] at hN
  have hx8 := (l[n + 1]'hn).toNat_lt
  have hk8 := (l[n]'(by omega)).toNat_lt
  have hNp : N = 49152 + p := by omega
  have hp16 : p ≤ 16383 := by omega
  subst hNp
  have hw : IntKind.u16.wrap (((49152 + p : Nat) : Int) - 49152) = p := by rw [IntKind.wrap_u16]; omega
  have HT := Lib.hid hT
  have H1 := Lib.hid h1
  have H2 := Lib.hid h2
  have hw2 : Has ((W.setCell ⟨g, 2, none⟩ (.bool true)).setCell ⟨g, 3, none⟩ (.int .i64 p)) g 247 #[.slice A l.length c, .slice aL X.length cL, .bool true, .int .i64 p] := (h1.set 2 _).set 3 _
  have c4 : ((W.setCell ⟨g, 2, none⟩ (.bool true)).setCell ⟨g, 3, none⟩ (.int .i64 p)).cell? ⟨g, 3, none⟩ = some (.int .i64 p) := by rw [hw2.cell]; rfl
  have HW := Lib.hid hw2
  have HRS : Hid (RS ((W.setCell ⟨g, 2, none⟩ (.bool true)).setCell ⟨g, 3, none⟩ (.int .i64 p)) g B A l.length c X true p ∧ Below B W ((W.setCell ⟨g, 2, none⟩ (.bool true)).setCell ⟨g, 3, none⟩ (.int .i64 p))) := by
    refine ⟨⟨hB, _, hw2, ?_⟩, ((Below.refl _ _).setCell (by show B ≤ g; exact hB) _).setCell (by show B ≤ g; exact hB) _⟩
    exact (h2.kept (set_gr W g 2 _) (.inr (has_ne_own2 h1 h2 (by decide)).symm)).kept (set_gr _ g 3 _) (.inr (has_ne_own2 h1 h2 (by decide)).symm)
  clear h1 h2 hT hb hN hw2 hp h192
  by_cases hlt : p < b0
  · rw [if_pos hlt]
    go_enter Tryz.func198, Tryz.ntmps198
    go_wp2_with (go_at_call 102; refine HT.out.mono ?_; rintro e w' ⟨rfl, rfl⟩)
    go_ret2
    refine ⟨rfl, ?_⟩
    rw [show (49152 : Int) + p - 49152 = p from by omega]
    exact HRS.out
  · rw [if_neg hlt]
    go_enter Tryz.func198, Tryz.ntmps198
    go_wp2_with (go_at_call 102; refine HT.out.mono ?_; rintro e w' ⟨rfl, rfl⟩)
    go_ret2
    refine ⟨rfl, ?_⟩
    rw [show (49152 : Int) + p - 49152 = p from by omega]
    exact HRS.out
end Go.Proofs.YtgcaephfhfkjcaaGreatDoor
namespace Go.Proofs.YtgcaephfhfkjcaaGreatDoor
open Go.RowKit

/-- what is told of a row. -/
def RowPost (l X : List UInt8) (g B c b0 : Nat) (A : Option Addr) (W : World) (e : Ending) (W' : World) : Prop :=
  Below B W W' ∧
  ((∃ er : Int, (er == 0) = false ∧ e = .returned (.tuple #[.int .i64 0, .int .i64 er]) ∧ ∀ acc o, Pr.fin acc o (Pr.tk l b0 b0 (1 + X.length)) = .err er) ∨
   (∃ ls bh tw, e = .returned (.tuple #[.int .i64 (bh : Nat), .int .i64 0]) ∧ RS W' g B A l.length c (X ++ Nm.body ls) false tw ∧ (X ++ Nm.body ls).length ≤ 254 ∧ ∀ acc o, Pr.fin acc o (Pr.tk l b0 b0 (1 + X.length)) = .ok (acc ++ ls) (o.getD bh)) ∨
   (∃ ls bh p, e = .returned (.tuple #[.int .i64 (bh : Nat), .int .i64 0]) ∧ RS W' g B A l.length c (X ++ Nm.body ls) true (p : Nat) ∧ p < b0 ∧ (X ++ Nm.body ls).length ≤ 254 ∧
      ∀ acc o, Pr.fin acc o (Pr.tk l b0 b0 (1 + X.length)) = Pr.fin (acc ++ ls) (some (o.getD bh)) (Pr.tk l p p (1 + (X ++ Nm.body ls).length))))
theorem body_snoc' (ls : List (List UInt8)) (x : List UInt8) : Nm.body (ls ++ [x]) = Nm.body ls ++ Nm.lab x := by rw [Nm.body_append]; simp [Nm.body]

set_option maxHeartbeats 4000000 in
set_option maxRecDepth 100000 in
theorem row_in (g B b0 c lo : Nat) (A : Option Addr) (l X : List UInt8) (ld : Bool) (tw : Int) (W : World) (h : RS W g B A l.length c X ld tw) (hc : l.length ≤ c) (hm : l.length ≤ 211106232532992) (hb : Bs W lo B A l) (hBW : B ≤ W.heap.size)
    (hb0 : b0 ≤ l.length) (hX : X.length ≤ 254) :
    Calls Tryz.prog 190 #[.pointer (some ⟨g, 0, none⟩), .int .i64 b0] W (RowPost l X g B c b0 A W) := by
  have H := Lib.hid h
  have HB := Lib.hid hb
  clear h hb
  go_enter Tryz.func190, Tryz.ntmps190
  go_wp2
  go_loopw [6] (fun a wr => ∃ (n : Nat) (ls : List (List UInt8)) (ld : Bool) (tw : Int), a = .int .i64 n ∧ n ≤ l.length ∧ RS wr g B A l.length c (X ++ Nm.body ls) ld tw ∧ Below B W wr ∧ (X ++ Nm.body ls).length ≤ 254 ∧ Hid (∀ acc o, Pr.fin acc o (Pr.tk l b0 b0 (1 + X.length)) = Pr.fin (acc ++ ls) o (Pr.tk l b0 n (1 + (X ++ Nm.body ls).length)))) (fun a _ => l.length - (intOf a).toNat)
  case atStart => exact ⟨b0, [], ld, tw, rfl, hb0, by simpa [Nm.body] using H.out, Below.refl _ _, by simpa [Nm.body] using hX, by intro acc o; simp [Nm.body]⟩
  case round =>
    obtain ⟨n, ls, ld, tw, rfl, hn, hrs, hbw, hXl, HF⟩ := hrel
    obtain ⟨Y, hY⟩ : ∃ Y, X ++ Nm.body ls = Y := ⟨_, rfl⟩
    rw [hY] at hrs hXl
    have HY := Lib.hid hY
    have HR := Lib.hid hrs
    have HW := Lib.hid hbw
    have hbs := hbw.size
    have HBr := Lib.hid (HB.out.keep hbw)
    have hF := HF.out
    rw [hY] at hF
    have HF2 := Lib.hid hF
    obtain ⟨hgB, vL, hh1, hh2⟩ := hrs
    have c0 : wr.cell? ⟨g, 0, none⟩ = some (.slice A l.length c) := by rw [hh1.cell]; rfl
    have hT := take_u8 A l c n wr hc hm lo B (HB.out.keep hbw)
    have hh1' := Lib.hid hh1
    clear hY hbw hF HF hh2
    by_cases hlt : n < l.length
    · rw [takeV_ok (by omega), num1 l n hlt] at hT
      have hk8 := (l[n]'hlt).toNat_lt
      obtain ⟨k, hk⟩ : ∃ k, (l[n]'hlt).toNat = k := ⟨_, rfl⟩
      rw [hk] at hT hk8
      have HK := Lib.hid hk
      have HT := Lib.hid hT
      clear hT hk
      by_cases h0 : k = 0
      · subst h0
        have hTE : ∀ acc o, Pr.fin acc o (Pr.tk l b0 b0 (1 + X.length)) = .ok (acc ++ ls) (o.getD (n + 1)) := fun acc o => by
          rw [HF2.out acc o, Pr.tk_end hlt HK.out]; simp [Pr.fin]
        have HTE := Lib.hid hTE
        have f2 := hh1.free 2
        have c2 : wr.cell? ⟨g, 2, none⟩ = some (.bool ld) := by rw [hh1.cell]; rfl
        have hwn : Hid (RS (wr.setCell ⟨g, 2, none⟩ (.bool false)) g B A l.length c Y false tw) := by
          obtain ⟨_, vL2, k1, k2⟩ := HR.out
          refine ⟨hgB, vL2, ?_, k2.kept (set_gr _ g 2 _) (.inr (has_ne_own2 k1 k2 (by decide)).symm)⟩
          exact k1.set 2 (.bool false)
        clear hTE hh1
        go_wp2_with (go_at_call 150; refine HT.out.mono ?_; rintro e w' ⟨rfl, rfl⟩)
        go_ret2
        refine ⟨HW.out.setCell (by show B ≤ g; exact hgB) _, .inr (.inl ⟨ls, n + 1, tw, rfl, ?_, ?_, HTE.out⟩)⟩
        · rw [HY.out]; exact hwn.out
        · rw [HY.out]; exact hXl
      · by_cases h1 : 192 ≤ k
        · have hk1 : ((k : Int) == 0) = false := by simp; omega
          by_cases h2 : n + 1 < l.length
          · obtain ⟨p, hp⟩ : ∃ p, ((l[n]'hlt).toNat - 192) * 256 + (l[n + 1]'h2).toNat = p := ⟨_, rfl⟩
            have HPC := Lib.hid (ptr_any g B n b0 c lo B p A l Y ld tw wr HR.out hc hm HBr.out h2 (by rw [HK.out]; exact h1) hp)
            by_cases hlp : p < b0
            · have hTE : ∀ acc o, Pr.fin acc o (Pr.tk l b0 b0 (1 + X.length)) = Pr.fin (acc ++ ls) (some (o.getD (n + 2))) (Pr.tk l p p (1 + Y.length)) := fun acc o => by
                rw [HF2.out acc o, Pr.tk_jump _ _ hlt (by rw [HK.out]; exact h1) h2 (by rw [hp]; exact hlp), hp]
              have HTE := Lib.hid hTE
              clear hTE hp hh1
              go_wp2_with (first
                | (go_at_call 150; refine HT.out.mono ?_; rintro e w' ⟨rfl, rfl⟩)
                | (go_at_call 198; refine HPC.out.mono ?_; rw [if_pos hlp]; rintro e w' ⟨rfl, hr5, hb5⟩))
              go_ret2
              refine ⟨HW.out.trans hb5, .inr (.inr ⟨ls, n + 2, p, rfl, ?_, hlp, ?_, ?_⟩)⟩
              · rw [HY.out]; exact hr5
              · rw [HY.out]; exact hXl
              · rw [HY.out]; exact HTE.out
            · have hTE : ∀ acc o, Pr.fin acc o (Pr.tk l b0 b0 (1 + X.length)) = .err 30 := fun acc o => by
                rw [HF2.out acc o, Pr.tk_back hlt (by rw [HK.out]; exact h1) h2 (by rw [hp]; exact hlp)]; rfl
              have HTE := Lib.hid hTE
              clear hTE hp hh1
              go_wp2_with (first
                | (go_at_call 150; refine HT.out.mono ?_; rintro e w' ⟨rfl, rfl⟩)
                | (go_at_call 198; refine HPC.out.mono ?_; rw [if_neg hlp]; rintro e w' ⟨rfl, hr5, hb5⟩))
              go_ret2
              exact ⟨HW.out.trans hb5, .inl ⟨30, rfl, rfl, HTE.out⟩⟩
          · have hTE : ∀ acc o, Pr.fin acc o (Pr.tk l b0 b0 (1 + X.length)) = .err 6 := fun acc o => by
              rw [HF2.out acc o, Pr.tk_short hlt (by rw [HK.out]; exact h1) h2]; rfl
            have HTE := Lib.hid hTE
            have HPC := Lib.hid (ptr_short g B n b0 c lo B A l Y ld tw wr HR.out hc hm HBr.out hlt h2)
            clear hTE hh1
            go_wp2_with (first
              | (go_at_call 150; refine HT.out.mono ?_; rintro e w' ⟨rfl, rfl⟩)
              | (go_at_call 198; refine HPC.out.mono ?_; rintro e w' ⟨rfl, rfl⟩))
            go_ret2
            exact ⟨HW.out, .inl ⟨6, rfl, rfl, HTE.out⟩⟩
        · have hk1 : ((k : Int) == 0) = false := by simp; omega
          by_cases h3 : 64 ≤ k
          · have hTE : ∀ acc o, Pr.fin acc o (Pr.tk l b0 b0 (1 + X.length)) = .err 31 := fun acc o => by
              rw [HF2.out acc o, Pr.tk_kind hlt (by rw [HK.out]; exact h3) (by rw [HK.out]; exact h1)]; rfl
            have HTE := Lib.hid hTE
            clear hTE hh1
            go_wp2_with (go_at_call 150; refine HT.out.mono ?_; rintro e w' ⟨rfl, rfl⟩)
            go_ret2
            exact ⟨HW.out, .inl ⟨31, rfl, rfl, HTE.out⟩⟩
          · by_cases h4 : l.length < n + 1 + k
            · have hTE : ∀ acc o, Pr.fin acc o (Pr.tk l b0 b0 (1 + X.length)) = .err 6 := fun acc o => by
                rw [HF2.out acc o, Pr.tk_few hlt (by rw [HK.out]; exact h0) (by rw [HK.out]; exact h3) (by rw [HK.out]; exact h4)]; rfl
              have HTE := Lib.hid hTE
              have HLC := Lib.hid (lab_few g B n c k lo B A l Y ld tw wr HR.out hc hm HBr.out hlt HK.out h4)
              clear hTE hh1
              go_wp2_with (first
                | (go_at_call 150; refine HT.out.mono ?_; rintro e w' ⟨rfl, rfl⟩)
                | (go_at_call 199; refine HLC.out.mono ?_; rintro e w' ⟨rfl, rfl⟩))
              go_ret2
              exact ⟨HW.out, .inl ⟨6, rfl, rfl, HTE.out⟩⟩
            · by_cases h5 : 255 < 1 + Y.length + 1 + k
              · have hTE : ∀ acc o, Pr.fin acc o (Pr.tk l b0 b0 (1 + X.length)) = .err 2 := fun acc o => by
                  rw [HF2.out acc o, Pr.tk_long hlt (by rw [HK.out]; exact h0) (by rw [HK.out]; exact h3) (by rw [HK.out]; exact h4) (by rw [HK.out]; exact h5)]; rfl
                have HTE := Lib.hid hTE
                have HLC := Lib.hid (lab_long g B n c k lo B A l Y ld tw wr HR.out hc hm HBr.out hlt HK.out (by omega) hXl (by omega))
                clear hTE hh1
                go_wp2_with (first
                  | (go_at_call 150; refine HT.out.mono ?_; rintro e w' ⟨rfl, rfl⟩)
                  | (go_at_call 199; refine HLC.out.mono ?_; rintro e w' ⟨rfl, rfl⟩))
                go_ret2
                exact ⟨HW.out, .inl ⟨2, rfl, rfl, HTE.out⟩⟩
              · have hTE : ∀ acc o, Pr.fin acc o (Pr.tk l b0 b0 (1 + X.length)) = Pr.fin (acc ++ (ls ++ [(l.drop (n + 1)).take k])) o (Pr.tk l b0 (n + 1 + k) (1 + Y.length + 1 + k)) := fun acc o => by
                  rw [HF2.out acc o, Pr.tk_label _ _ hlt (by rw [HK.out]; exact h0) (by rw [HK.out]; exact h3) (by rw [HK.out]; exact h4) (by rw [HK.out]; exact h5), HK.out, List.append_assoc]
                have HTE := Lib.hid hTE
                have HLC := Lib.hid (lab_ok g B n c k lo B A l Y ld tw wr HR.out hc hm HBr.out (by omega) hlt HK.out (by omega) (by omega))
                have hll : ((l.drop (n + 1)).take k).length = k := by rw [List.length_take, List.length_drop]; omega
                have HLL := Lib.hid hll
                clear hTE hh1 hll
                go_wp2_with (first
                  | (go_at_call 150; refine HT.out.mono ?_; rintro e w' ⟨rfl, rfl⟩)
                  | (go_at_call 199; refine HLC.out.mono ?_; rintro e w' ⟨rfl, hr5, hb5⟩))
                go_roundw
                case rel =>
                  have hYY : X ++ Nm.body (ls ++ [(l.drop (n + 1)).take k]) = Y ++ Nm.lab ((l.drop (n + 1)).take k) := by rw [body_snoc', ← HY.out, List.append_assoc]
                  have hYl : (Y ++ Nm.lab ((l.drop (n + 1)).take k)).length = Y.length + 1 + k := by rw [List.length_append, Nm.lab_length, HLL.out]; omega
                  refine ⟨n + 1 + k, ls ++ [(l.drop (n + 1)).take k], ld, tw, congrArg (Value.int .i64) (by omega), by omega, by rw [hYY]; exact hr5, HW.out.trans hb5, by rw [hYY, hYl]; omega, ?_⟩
                  show ∀ acc o, _
                  intro acc o
                  rw [HTE.out, hYY, hYl]
                  congr 2
                  omega
                case measure => simp [intOf]; omega
    · have hTE : ∀ acc o, Pr.fin acc o (Pr.tk l b0 b0 (1 + X.length)) = .err 6 := fun acc o => by
        rw [HF2.out acc o, Pr.tk_out hlt]; rfl
      have HTE := Lib.hid hTE
      rw [takeV_short (by omega) (by omega)] at hT
      have HT := Lib.hid hT
      clear hTE hT hh1
      go_wp2_with (go_at_call 150; refine HT.out.mono ?_; rintro e w' ⟨rfl, rfl⟩)
      go_ret2
      exact ⟨HW.out, .inl ⟨6, rfl, rfl, HTE.out⟩⟩
end Go.Proofs.YtgcaephfhfkjcaaGreatDoor
