/- Texts of the proofs, merged. -/
import Derived.Test.YtgcaephfhfkjcaaGreatDoorZh7
import Derived.Test.YtgcaephfhfkjcaaGreatDoorZh2
import Derived.Test.YtgcaephfhfkjcaaGreatDoorZh5
import Derived.Test.YtgcaephfhfkjcaaGreatDoorZh6
import Derived.Lib.Hide
import Derived.WalkKit
import Derived.Laws.Bits64b
import Derived.Test.YtgcaephfhfkjcaaGreatDoorZh4
import Derived.Lib.ConvBytes
namespace Go.Proofs.YtgcaephfhfkjcaaGreatDoor.Nm

theorem glue_inj {x y : List By} (hx : Good x) (hy : Good y) (h : glue x = glue y) : x = y := by
  have h1 := sp_glue x hx
  rw [h, sp_glue y hy] at h1
  injection h1 with h1
  exact h1.symm
end Go.Proofs.YtgcaephfhfkjcaaGreatDoor.Nm
namespace Go.Proofs.YtgcaephfhfkjcaaGreatDoor.Rr
open Nm (sgn cmpB cmpN)

abbrev By := List UInt8
/-- the first one that is not 0. -/
def lx (x y : Int) : Int := if x = 0 then y else x
theorem lx_neg (x y : Int) : lx (-x) (-y) = - lx x y := by unfold lx; split <;> split <;> omega
/-- an order that tells -1, 0 or 1. -/
structure Od {α : Type} (c : α → α → Int) : Prop where
  neg : ∀ a b, c a b = - c b a
  range : ∀ a b, -1 ≤ c a b ∧ c a b ≤ 1
  trans : ∀ a b d, c a b ≤ 0 → c b d ≤ 0 → c a d ≤ 0
theorem Od.lex {α : Type} {c d : α → α → Int} (hc : Od c) (hd : Od d) : Od (fun a b => lx (c a b) (d a b)) where
  neg a b := by rw [hc.neg a b, hd.neg a b, lx_neg]
  range a b := by
    have := hc.range a b
    have := hd.range a b
    unfold lx
    split <;> omega
  trans a b e h1 h2 := by
    have n1 := hc.neg a b
    have n2 := hc.neg b e
    have n3 := hc.neg a e
    have t1 := hc.trans a b e
    have t2 := hc.trans e a b
    have t3 := hc.trans b e a
    have t4 := hd.trans a b e
    unfold lx at h1 h2 ⊢
    split at h1 <;> split at h2 <;> split <;> omega
theorem Od.on {α β : Type} {c : α → α → Int} (hc : Od c) (f : β → α) : Od (fun a b => c (f a) (f b)) :=
  ⟨fun _ _ => hc.neg _ _, fun _ _ => hc.range _ _, fun _ _ _ => hc.trans _ _ _⟩
/-- a key. -/
structure Ky where
  nm : By
  ty : Nat
  cl : Nat
/-- a record. -/
structure Rc where
  ky : Ky
  ttl : Nat
  d : Rd.Dt
end Go.Proofs.YtgcaephfhfkjcaaGreatDoor.Rr
namespace Go.Proofs.YtgcaephfhfkjcaaGreatDoor
open Go.RowKit

/-- a key, as it comes. -/
structure Kv where
  nm : ByteArray
  ty : Nat
  cl : Nat
def Kv.val (k : Kv) : Value := .agg #[.string k.nm, .int .u16 k.ty, .int .u16 k.cl]
def Kv.ky (k : Kv) : Rr.Ky := ⟨k.nm.data.toList, k.ty, k.cl⟩
/-- a record, as it comes. -/
structure Rv where
  nm : ByteArray
  ty : Nat
  cl : Nat
  ttl : Nat
  d : Dv
namespace Rv
def cells (r : Rv) : Array Value := #[.string r.nm, .int .u16 r.ty, .int .u16 r.cl, .int .u32 r.ttl, .string r.d.raw, .string r.d.host, .string r.d.mail, .int .u32 r.d.n0, .int .u32 r.d.n1, .int .u32 r.d.n2, .int .u32 r.d.n3, .int .u32 r.d.n4]
def val (r : Rv) : Value := .agg r.cells
def kv (r : Rv) : Kv := ⟨r.nm, r.ty, r.cl⟩
def rc (r : Rv) : Rr.Rc := ⟨r.kv.ky, r.ttl, r.d.dt⟩
end Rv
end Go.Proofs.YtgcaephfhfkjcaaGreatDoor
namespace Go.Proofs.YtgcaephfhfkjcaaGreatDoor

namespace Mp
/-- what a record's line says is wrong: 0 is nothing. -/
def okL (r : Rv) : Nat := if Rd.nm r.nm.data.toList then (if r.cl = 1 then (if r.ttl ≤ 2147483647 then (if Rd.ok r.ty r.d.dt then 0 else 40) else 91) else 92) else 90
/-- the first that is wrong. -/
def bad : List Rv → Nat
  | [] => 0
  | r :: l => if okL r = 0 then bad l else okL r
end Mp
end Go.Proofs.YtgcaephfhfkjcaaGreatDoor
namespace Go.Proofs.YtgcaephfhfkjcaaGreatDoor.Oc

abbrev By := List UInt8

/-- the bytes of a number, k of them. -/
def beb : Nat → Nat → By
  | 0, _ => []
  | k + 1, v => UInt8.ofNat (v / 256 ^ k) :: beb k v
/-- the number of some bytes. -/
def num (l : By) : Nat := l.foldl (fun a c => a * 256 + c.toNat) 0

theorem beb_length (k v : Nat) : (beb k v).length = k := by
  induction k with
  | zero => rfl
  | succ k ih => simp [beb, ih]
theorem num_snoc (l : By) (c : UInt8) : num (l ++ [c]) = num l * 256 + c.toNat := by simp [num]
theorem fold_lin (l : By) : ∀ a : Nat, l.foldl (fun a c => a * 256 + c.toNat) a = a * 256 ^ l.length + num l := by
  induction l with
  | nil => intro a; simp [num]
  | cons c t ih =>
    intro a
    have h0 := ih c.toNat
    have h1 : num (c :: t) = t.foldl (fun a c => a * 256 + c.toNat) c.toNat := by simp [num]
    rw [List.foldl_cons, ih, h1, h0, List.length_cons, Nat.pow_succ]
    rw [Nat.add_mul, Nat.mul_assoc, Nat.mul_comm 256 (256 ^ t.length)]
    omega
theorem num_cons (c : UInt8) (l : By) : num (c :: l) = c.toNat * 256 ^ l.length + num l := by
  have := fold_lin l c.toNat
  simpa [num] using this
theorem num_lt (l : By) : num l < 256 ^ l.length := by
  induction l with
  | nil => simp [num]
  | cons c t ih =>
    rw [num_cons, List.length_cons, Nat.pow_succ]
    have hc := c.toNat_lt
    have h1 : c.toNat * 256 ^ t.length ≤ 255 * 256 ^ t.length := Nat.mul_le_mul_right _ (by omega)
    omega
theorem num_beb (k v : Nat) : num (beb k v) = v % 256 ^ k := by
  induction k with
  | zero => simp [beb, num, Nat.mod_one]
  | succ k ih =>
    rw [beb, num_cons, beb_length, ih]
    have h1 : (UInt8.ofNat (v / 256 ^ k)).toNat = v / 256 ^ k % 256 := by simp
    rw [h1, Nat.pow_succ, Nat.mod_mul (x := v) (a := 256 ^ k) (b := 256), Nat.mul_comm]
    omega
theorem num_take_succ (l : By) (k : Nat) (h : k < l.length) : num (l.take (k + 1)) = num (l.take k) * 256 + l[k].toNat := by
  rw [List.take_succ_eq_append_getElem h, num_snoc]
theorem num_take_lt (l : By) (k : Nat) : num (l.take k) < 256 ^ k := by
  have := num_lt (l.take k)
  have h2 : (l.take k).length ≤ k := List.length_take_le _ _
  exact Nat.lt_of_lt_of_le this (Nat.pow_le_pow_right (by omega) h2)
end Go.Proofs.YtgcaephfhfkjcaaGreatDoor.Oc
namespace Go.Proofs.YtgcaephfhfkjcaaGreatDoor
open Go.RowKit

theorem ofInt_nat (n : Nat) : BitVec.ofInt 32 (n : Int) = BitVec.ofNat 32 n := by
  apply BitVec.eq_of_toNat_eq
  simp
theorem wrap_u32 (n : Nat) (h : n < 4294967296) : IntKind.u32.wrap (n : Int) = n := by
  have := IntWalk.u32_in (n : Int) (by omega)
  exact this
theorem or32 (a b : Nat) (ha : a < 16777216) (hb : b < 256) : bits .or .u32 ((a : Int) * 256) (b : Int) = ((a * 256 + b : Nat) : Int) := by
  have e : ((a : Int) * 256) = ((a * 256 : Nat) : Int) := by omega
  unfold bits
  rw [e]
  show IntKind.u32.wrap (((BitVec.ofInt 32 ((a * 256 : Nat) : Int)) ||| (BitVec.ofInt 32 (b : Int))).toNat : Int) = _
  rw [ofInt_nat, ofInt_nat, BitVec.toNat_or, BitVec.toNat_ofNat, BitVec.toNat_ofNat, Nat.mod_eq_of_lt (by omega), Nat.mod_eq_of_lt (by omega)]
  have h := Nat.shiftLeft_add_eq_or_of_lt (i := 8) (b := b) (by omega) a
  rw [Nat.shiftLeft_eq] at h
  have h2 : a * 256 ||| b = a * 256 + b := h.symm
  rw [h2]
  exact wrap_u32 _ (by omega)
theorem or32_0 (b : Nat) (hb : b < 256) : bits .or .u32 0 (b : Int) = (b : Int) := by
  have := or32 0 b (by omega) hb
  simpa using this
end Go.Proofs.YtgcaephfhfkjcaaGreatDoor
namespace Go.Proofs.YtgcaephfhfkjcaaGreatDoor
open Go.RowKit

theorem tight_any (A : Option Addr) (n c : Nat) (w : World) (hc : n ≤ c) :
    Calls Tryz.prog 182 #[.slice A n c] w fun e w' => e = .returned (.slice A n n) ∧ w = w' := by
  go_enter Tryz.func182, Tryz.ntmps182
  go_wp2
  go_ret
  exact ⟨rfl, rfl⟩

theorem u8v {x : Int} {n : Nat} (h : x = ((n % 256 : Nat) : Int)) : Value.int .u8 x = .int .u8 ((UInt8.ofNat n).toNat : Int) := by rw [h]; simp
theorem bv_beb1 (v : Nat) {a : Int} (ha : a = ((v % 256 : Nat) : Int)) : [Value.int .u8 a] = bv (Oc.beb 1 v) := by
  rw [u8v ha]; simp [bv, Oc.beb]
theorem bv_beb2 (v : Nat) {a b : Int} (ha : a = ((v / 256 % 256 : Nat) : Int)) (hb : b = ((v % 256 : Nat) : Int)) : [Value.int .u8 a, Value.int .u8 b] = bv (Oc.beb 2 v) := by
  rw [u8v ha, u8v hb]; simp [bv, Oc.beb]
set_option maxHeartbeats 400000 in
set_option maxRecDepth 100000 in
theorem len_u8 (w : World) : Calls Tryz.prog 151 #[.int .u32 255] w fun e w' => e = .returned (.int .i64 8) ∧ w = w' := by
  go_enter Tryz.func151, Tryz.ntmps151
  go_wp2
  go_ret
  refine ⟨?_, rfl⟩
  kernel_rfl
theorem width_u8 (w : World) : Calls Tryz.prog 172 #[] w fun e w' => e = .returned (.int .i64 1) ∧ w = w' := by
  go_enter Tryz.func172, Tryz.ntmps172
  go_wp2_with (go_at_call 151; refine (len_u8 _).mono ?_; rintro e w' ⟨rfl, rfl⟩)
  go_ret
  exact ⟨rfl, rfl⟩

set_option maxHeartbeats 400000 in
set_option maxRecDepth 100000 in
theorem len_u16 (w : World) : Calls Tryz.prog 151 #[.int .u32 65535] w fun e w' => e = .returned (.int .i64 16) ∧ w = w' := by
  go_enter Tryz.func151, Tryz.ntmps151
  go_wp2
  go_ret
  refine ⟨?_, rfl⟩
  kernel_rfl
theorem width_u16 (w : World) : Calls Tryz.prog 123 #[] w fun e w' => e = .returned (.int .i64 2) ∧ w = w' := by
  go_enter Tryz.func123, Tryz.ntmps123
  go_wp2_with (go_at_call 151; refine (len_u16 _).mono ?_; rintro e w' ⟨rfl, rfl⟩)
  go_ret
  exact ⟨rfl, rfl⟩

set_option maxHeartbeats 400000 in
set_option maxRecDepth 100000 in
theorem len_u32 (w : World) : Calls Tryz.prog 151 #[.int .u32 4294967295] w fun e w' => e = .returned (.int .i64 32) ∧ w = w' := by
  go_enter Tryz.func151, Tryz.ntmps151
  go_wp2
  go_ret
  refine ⟨?_, rfl⟩
  kernel_rfl
theorem width_u32 (w : World) : Calls Tryz.prog 185 #[] w fun e w' => e = .returned (.int .i64 4) ∧ w = w' := by
  go_enter Tryz.func185, Tryz.ntmps185
  go_wp2_with (go_at_call 151; refine (len_u32 _).mono ?_; rintro e w' ⟨rfl, rfl⟩)
  go_ret
  exact ⟨rfl, rfl⟩

set_option maxHeartbeats 400000 in
set_option maxRecDepth 100000 in
theorem put_u8 (A : Option Addr) (l : List UInt8) (c v : Nat) (w : World) (hc : l.length ≤ c) (hm : l.length ≤ 140737488355300) (hv : v < 256) (lo : Nat) (hr : Bs w lo w.heap.size A l) :
    Calls Tryz.prog 183 #[.slice A l.length c, .int .u8 v] w fun e w' => ∃ g cp, e = .returned (.slice (some ⟨g, 0, none⟩) (l.length + 1) (l.length + 1)) ∧ w'.ownsRow w.heap.size 5 1 (.slice (some ⟨g, 0, none⟩) (l.length + 1) cp) (l.length + 1) (bv (l ++ Oc.beb 1 v)) ∧ Below w.heap.size w w' := by
  obtain ⟨i0, hi, hz0, hz1, hz2⟩ := info_parts Tryz.infoByte
  have HR := Lib.hid hr
  clear hr
  go_enter Tryz.func183, Tryz.ntmps183
  go_wp2_with (first
    | (go_at_call 182; refine (tight_any _ _ _ _ hc).mono ?_; rintro e w' ⟨rfl, rfl⟩)
    | (go_at_call 172; refine (width_u8 _).mono ?_; rintro e w' ⟨rfl, rfl⟩))
  refine wp_loop_rounds 2 ?_
  rw [rounds_succ]
  go_wp2_with (at_builtin; refine wpList_append_full rfl (.tmp 15) (.tmp 22) _ rfl _ i0 _ Tryz.underlying56 hi hz0 hz1 hz2 rfl lo w.heap.size A l rfl HR.out (Nat.le_refl _) _ rfl _ rfl (by omega) ?_; intro v1 w1 O1 B1)
  obtain ⟨g, cp, rfl, hcp, hgl, hgs⟩ := own_pos O1 (by omega)
  rw [rounds_succ]
  go_wp2_with (go_at_call 182; refine (tight_any _ _ _ _ hcp).mono ?_; rintro e w' ⟨rfl, rfl⟩)
  go_ret
  refine ⟨g, cp, rfl, own_to O1 rfl ?_, B1⟩
  rw [bv_append]
  try simp only [List.append_assoc, List.cons_append, List.nil_append]
  congr 1
  exact bv_beb1 v (by omega)

set_option maxHeartbeats 400000 in
set_option maxRecDepth 100000 in
theorem put_u16 (A : Option Addr) (l : List UInt8) (c v : Nat) (w : World) (hc : l.length ≤ c) (hm : l.length ≤ 140737488355300) (hv : v < 65536) (lo : Nat) (hr : Bs w lo w.heap.size A l) :
    Calls Tryz.prog 168 #[.slice A l.length c, .int .u16 v] w fun e w' => ∃ g cp, e = .returned (.slice (some ⟨g, 0, none⟩) (l.length + 2) (l.length + 2)) ∧ w'.ownsRow w.heap.size 5 1 (.slice (some ⟨g, 0, none⟩) (l.length + 2) cp) (l.length + 2) (bv (l ++ Oc.beb 2 v)) ∧ Below w.heap.size w w' := by
  obtain ⟨i0, hi, hz0, hz1, hz2⟩ := info_parts Tryz.infoByte
  have HR := Lib.hid hr
  clear hr
  go_enter Tryz.func168, Tryz.ntmps168
  go_wp2_with (first
    | (go_at_call 182; refine (tight_any _ _ _ _ hc).mono ?_; rintro e w' ⟨rfl, rfl⟩)
    | (go_at_call 123; refine (width_u16 _).mono ?_; rintro e w' ⟨rfl, rfl⟩))
  refine wp_loop_rounds 3 ?_
  rw [rounds_succ]
  go_wp2_with (at_builtin; refine wpList_append_full rfl (.tmp 15) (.tmp 22) _ rfl _ i0 _ Tryz.underlying56 hi hz0 hz1 hz2 rfl lo w.heap.size A l rfl HR.out (Nat.le_refl _) _ rfl _ rfl (by omega) ?_; intro v1 w1 O1 B1)
  rw [rounds_succ]
  go_wp2_with (at_builtin; refine wpList_append_one rfl (.tmp 15) (.tmp 22) _ rfl _ i0 _ Tryz.underlying56 hi hz0 hz1 hz2 rfl w.heap.size w v1 (l.length + 1) _ rfl O1 B1 (Nat.le_refl _) _ rfl _ rfl (by omega) ?_; intro v2 w2 O2 B2)
  obtain ⟨g, cp, rfl, hcp, hgl, hgs⟩ := own_pos O2 (by omega)
  rw [rounds_succ]
  go_wp2_with (go_at_call 182; refine (tight_any _ _ _ _ hcp).mono ?_; rintro e w' ⟨rfl, rfl⟩)
  go_ret
  refine ⟨g, cp, rfl, own_to O2 rfl ?_, B2⟩
  rw [bv_append]
  try simp only [List.append_assoc, List.cons_append, List.nil_append]
  congr 1
  exact bv_beb2 v (by omega) (by omega)

theorem num_step (l : List UInt8) (at_ j : Nat) (h : at_ + j < l.length) : Oc.num ((l.drop at_).take (j + 1)) = Oc.num ((l.drop at_).take j) * 256 + (l[at_ + j]'h).toNat := by
  rw [Oc.num_take_succ _ _ (by rw [List.length_drop]; omega), List.getElem_drop]
/-- what Take answers: the number of k bytes at a place, the place behind them, and an error. -/
def takeV (K : IntKind) (k : Nat) (l : List UInt8) (z : Int) : Value :=
  if z < 0 ∨ (l.length : Int) < z then .tuple #[.int K 0, .int .i64 0, .int .i64 1]
  else if (l.length : Int) < z + k then .tuple #[.int K 0, .int .i64 0, .int .i64 6]
  else .tuple #[.int K (Oc.num ((l.drop z.toNat).take k)), .int .i64 (z + k), .int .i64 0]

set_option maxHeartbeats 1000000 in
set_option maxRecDepth 100000 in
theorem take_u8_ok (A : Option Addr) (l : List UInt8) (c n : Nat) (w : World) (hc : l.length ≤ c) (hm : l.length ≤ 211106232532992) (lo hi : Nat) (hr : Bs w lo hi A l) (hk : n + 1 ≤ l.length) :
    Calls Tryz.prog 150 #[.slice A l.length c, .int .i64 n] w fun e w' => e = .returned (.tuple #[.int .u8 (Oc.num ((l.drop n).take 1)), .int .i64 (n + 1), .int .i64 0]) ∧ w = w' := by
  obtain ⟨g0, o0, rfl, _, _, hcell⟩ := hr (by omega)
  have h0 : w.cell? ⟨g0, o0 + n, none⟩ = _ := hcell n (by omega)
  have b0 := (l[n]'(by omega)).toNat_lt
  have s0 := num_step l n 0 (by omega)
  have q0 := Oc.num_take_lt (l.drop n) 1
  have z0 : Oc.num ((l.drop n).take 0) = 0 := by simp [Oc.num]
  rw [z0] at s0
  clear hcell hr z0
  simp only [Nat.add_zero] at s0 b0
  generalize (l[n]'(by omega)).toNat = x0 at *
  generalize Oc.num ((l.drop n).take 1) = p1 at *
  have r1 : (0 : Nat) < 256 := by omega
  have o0 : bits .or .u32 0 (x0 : Int) = (p1 : Int) := by rw [or32_0 x0 (by omega)]; omega
  clear s0
  go_enter Tryz.func150, Tryz.ntmps150
  go_wp2_with (go_at_call 172; refine (width_u8 _).mono ?_; rintro e w' ⟨rfl, rfl⟩)
  refine wp_loop_rounds 2 ?_
  rw [rounds_succ]
  go_wp2
  rw [rounds_succ]
  go_wp2
  go_ret3
  exact ⟨rfl, rfl⟩
set_option maxHeartbeats 1000000 in
theorem take_u8 (A : Option Addr) (l : List UInt8) (c : Nat) (z : Int) (w : World) (hc : l.length ≤ c) (hm : l.length ≤ 211106232532992) (lo hi : Nat) (hr : Bs w lo hi A l) :
    Calls Tryz.prog 150 #[.slice A l.length c, .int .i64 z] w fun e w' => e = .returned (takeV .u8 1 l z) ∧ w = w' := by
  unfold takeV
  by_cases h0 : z < 0
  · rw [if_pos (.inl h0)]
    go_enter Tryz.func150, Tryz.ntmps150
    go_wp2
    go_ret3
    exact ⟨rfl, rfl⟩
  · obtain ⟨n, rfl⟩ : ∃ n : Nat, z = n := ⟨z.toNat, by omega⟩
    by_cases h1 : l.length < n
    · rw [if_pos (.inr (by omega))]
      go_enter Tryz.func150, Tryz.ntmps150
      go_wp2
      go_ret3
      exact ⟨rfl, rfl⟩
    · rw [if_neg (by omega)]
      by_cases h2 : l.length < n + 1
      · rw [if_pos (by omega)]
        go_enter Tryz.func150, Tryz.ntmps150
        go_wp2_with (go_at_call 172; refine (width_u8 _).mono ?_; rintro e w' ⟨rfl, rfl⟩)
        go_ret3
        exact ⟨rfl, rfl⟩
      · rw [if_neg (by omega)]
        exact take_u8_ok A l c n w hc hm lo hi hr (by omega)

set_option maxHeartbeats 1000000 in
set_option maxRecDepth 100000 in
theorem take_u16_ok (A : Option Addr) (l : List UInt8) (c n : Nat) (w : World) (hc : l.length ≤ c) (hm : l.length ≤ 211106232532992) (lo hi : Nat) (hr : Bs w lo hi A l) (hk : n + 2 ≤ l.length) :
    Calls Tryz.prog 102 #[.slice A l.length c, .int .i64 n] w fun e w' => e = .returned (.tuple #[.int .u16 (Oc.num ((l.drop n).take 2)), .int .i64 (n + 2), .int .i64 0]) ∧ w = w' := by
  obtain ⟨g0, o0, rfl, _, _, hcell⟩ := hr (by omega)
  have h0 : w.cell? ⟨g0, o0 + n, none⟩ = _ := hcell n (by omega)
  have b0 := (l[n]'(by omega)).toNat_lt
  have s0 := num_step l n 0 (by omega)
  have q0 := Oc.num_take_lt (l.drop n) 1
  have h1 : w.cell? ⟨g0, o0 + n + 1, none⟩ = _ := hcell (n + 1) (by omega)
  have b1 := (l[n + 1]'(by omega)).toNat_lt
  have s1 := num_step l n 1 (by omega)
  have q1 := Oc.num_take_lt (l.drop n) 2
  have z0 : Oc.num ((l.drop n).take 0) = 0 := by simp [Oc.num]
  rw [z0] at s0
  clear hcell hr z0
  simp only [Nat.add_zero] at s0 b0
  generalize (l[n]'(by omega)).toNat = x0 at *
  generalize (l[n + 1]'(by omega)).toNat = x1 at *
  generalize Oc.num ((l.drop n).take 1) = p1 at *
  generalize Oc.num ((l.drop n).take 2) = p2 at *
  have r1 : (0 : Nat) < 256 := by omega
  have o0 : bits .or .u32 0 (x0 : Int) = (p1 : Int) := by rw [or32_0 x0 (by omega)]; omega
  have o1 : bits .or .u32 ((p1 : Int) * 256) (x1 : Int) = (p2 : Int) := by rw [or32 p1 x1 (by omega) (by omega)]; omega
  clear s0 s1
  go_enter Tryz.func102, Tryz.ntmps102
  go_wp2_with (go_at_call 123; refine (width_u16 _).mono ?_; rintro e w' ⟨rfl, rfl⟩)
  refine wp_loop_rounds 3 ?_
  rw [rounds_succ]
  go_wp2
  rw [rounds_succ]
  go_wp2
  rw [rounds_succ]
  go_wp2
  go_ret3
  exact ⟨rfl, rfl⟩
set_option maxHeartbeats 1000000 in
theorem take_u16 (A : Option Addr) (l : List UInt8) (c : Nat) (z : Int) (w : World) (hc : l.length ≤ c) (hm : l.length ≤ 211106232532992) (lo hi : Nat) (hr : Bs w lo hi A l) :
    Calls Tryz.prog 102 #[.slice A l.length c, .int .i64 z] w fun e w' => e = .returned (takeV .u16 2 l z) ∧ w = w' := by
  unfold takeV
  by_cases h0 : z < 0
  · rw [if_pos (.inl h0)]
    go_enter Tryz.func102, Tryz.ntmps102
    go_wp2
    go_ret3
    exact ⟨rfl, rfl⟩
  · obtain ⟨n, rfl⟩ : ∃ n : Nat, z = n := ⟨z.toNat, by omega⟩
    by_cases h1 : l.length < n
    · rw [if_pos (.inr (by omega))]
      go_enter Tryz.func102, Tryz.ntmps102
      go_wp2
      go_ret3
      exact ⟨rfl, rfl⟩
    · rw [if_neg (by omega)]
      by_cases h2 : l.length < n + 2
      · rw [if_pos (by omega)]
        go_enter Tryz.func102, Tryz.ntmps102
        go_wp2_with (go_at_call 123; refine (width_u16 _).mono ?_; rintro e w' ⟨rfl, rfl⟩)
        go_ret3
        exact ⟨rfl, rfl⟩
      · rw [if_neg (by omega)]
        exact take_u16_ok A l c n w hc hm lo hi hr (by omega)

set_option maxHeartbeats 1000000 in
set_option maxRecDepth 100000 in
theorem take_u32_ok (A : Option Addr) (l : List UInt8) (c n : Nat) (w : World) (hc : l.length ≤ c) (hm : l.length ≤ 140737488355328) (lo hi : Nat) (hr : Bs w lo hi A l) (hk : n + 4 ≤ l.length) :
    Calls Tryz.prog 179 #[.slice A l.length c, .int .i64 n] w fun e w' => e = .returned (.tuple #[.int .u32 (Oc.num ((l.drop n).take 4)), .int .i64 (n + 4), .int .i64 0]) ∧ w = w' := by
  obtain ⟨g0, o0, rfl, _, _, hcell⟩ := hr (by omega)
  have h0 : w.cell? ⟨g0, o0 + n, none⟩ = _ := hcell n (by omega)
  have b0 := (l[n]'(by omega)).toNat_lt
  have s0 := num_step l n 0 (by omega)
  have q0 := Oc.num_take_lt (l.drop n) 1
  have h1 : w.cell? ⟨g0, o0 + n + 1, none⟩ = _ := hcell (n + 1) (by omega)
  have b1 := (l[n + 1]'(by omega)).toNat_lt
  have s1 := num_step l n 1 (by omega)
  have q1 := Oc.num_take_lt (l.drop n) 2
  have h2 : w.cell? ⟨g0, o0 + n + 2, none⟩ = _ := hcell (n + 2) (by omega)
  have b2 := (l[n + 2]'(by omega)).toNat_lt
  have s2 := num_step l n 2 (by omega)
  have q2 := Oc.num_take_lt (l.drop n) 3
  have h3 : w.cell? ⟨g0, o0 + n + 3, none⟩ = _ := hcell (n + 3) (by omega)
  have b3 := (l[n + 3]'(by omega)).toNat_lt
  have s3 := num_step l n 3 (by omega)
  have q3 := Oc.num_take_lt (l.drop n) 4
  have z0 : Oc.num ((l.drop n).take 0) = 0 := by simp [Oc.num]
  rw [z0] at s0
  clear hcell hr z0
  simp only [Nat.add_zero] at s0 b0
  generalize (l[n]'(by omega)).toNat = x0 at *
  generalize (l[n + 1]'(by omega)).toNat = x1 at *
  generalize (l[n + 2]'(by omega)).toNat = x2 at *
  generalize (l[n + 3]'(by omega)).toNat = x3 at *
  generalize Oc.num ((l.drop n).take 1) = p1 at *
  generalize Oc.num ((l.drop n).take 2) = p2 at *
  generalize Oc.num ((l.drop n).take 3) = p3 at *
  generalize Oc.num ((l.drop n).take 4) = p4 at *
  have r1 : (0 : Nat) < 256 := by omega
  have o0 : bits .or .u32 0 (x0 : Int) = (p1 : Int) := by rw [or32_0 x0 (by omega)]; omega
  have o1 : bits .or .u32 ((p1 : Int) * 256) (x1 : Int) = (p2 : Int) := by rw [or32 p1 x1 (by omega) (by omega)]; omega
  have o2 : bits .or .u32 ((p2 : Int) * 256) (x2 : Int) = (p3 : Int) := by rw [or32 p2 x2 (by omega) (by omega)]; omega
  have o3 : bits .or .u32 ((p3 : Int) * 256) (x3 : Int) = (p4 : Int) := by rw [or32 p3 x3 (by omega) (by omega)]; omega
  clear s0 s1 s2 s3
  go_enter Tryz.func179, Tryz.ntmps179
  go_wp2_with (go_at_call 185; refine (width_u32 _).mono ?_; rintro e w' ⟨rfl, rfl⟩)
  refine wp_loop_rounds 5 ?_
  rw [rounds_succ]
  go_wp2
  rw [rounds_succ]
  go_wp2
  rw [rounds_succ]
  go_wp2
  rw [rounds_succ]
  go_wp2
  rw [rounds_succ]
  go_wp2
  go_ret3
  exact ⟨rfl, rfl⟩
end Go.Proofs.YtgcaephfhfkjcaaGreatDoor
namespace Go.Proofs.YtgcaephfhfkjcaaGreatDoor
open Go.RowKit

-- what PutText answers: an error, or the text behind what there is.
set_option maxHeartbeats 1000000 in
set_option maxRecDepth 100000 in
theorem putText_ok (A : Option Addr) (l : List UInt8) (c : Nat) (s : ByteArray) (w : World) (hc : l.length ≤ c) (hm : l.length ≤ 140737488355000) (hs : s.size ≤ 255) (lo : Nat) (hr : Bs w lo w.heap.size A l) :
    Calls Tryz.prog 169 #[.slice A l.length c, .string s] w fun e w' => ∃ g cp, e = .returned (.tuple #[.slice (some ⟨g, 0, none⟩) (l.length + 1 + s.size) (l.length + 1 + s.size), .int .i64 0]) ∧
      w'.ownsRow w.heap.size 5 1 (.slice (some ⟨g, 0, none⟩) (l.length + 1 + s.size) cp) (l.length + 1 + s.size) (bv (l ++ Oc.beb 1 s.size ++ s.data.toList)) ∧ Below w.heap.size w w' := by
  obtain ⟨i0, hi, hz0, hz1, hz2⟩ := info_parts Tryz.infoByte
  have HR := Lib.hid hr
  clear hr
  go_enter Tryz.func169, Tryz.ntmps169
  go_wp2_with (first
    | (go_at_call 183; refine (put_u8 A l c s.size _ hc (by omega) (by omega) lo HR.out).mono ?_; rintro e w1 ⟨g1, cp1, rfl, O1, B1⟩; have C1 := Lib.hid (show Cut w1 w.heap.size 5 (.slice (some ⟨g1, 0, none⟩) (l.length + 1) (l.length + 1)) (l.length + 1) (bv (l ++ Oc.beb 1 s.size)) from ⟨g1, _, cp1, rfl, Nat.le_refl _, O1, .inl rfl⟩); have HB1 := Lib.hid B1; clear O1 B1)
    | (at_builtin; refine wpList_append_run rfl (.tmp 13) (.tmp 14) _ _ rfl _ _ rfl rfl (run_append_string_full _ _ _ _ i0 Tryz.underlying56 Tryz.underlying9 hi hz0 hz1 hz2 _ _ _ _ C1.out s (by omega) HB1.out.size) ?_; rintro v2 w2 ⟨C2, B2⟩; obtain ⟨g2, cp2, cq2, rfl, hcp2, O2, _⟩ := C2)
    | (go_at_call 182; refine (tight_any _ _ _ _ hcp2).mono ?_; rintro e w' ⟨rfl, rfl⟩))
  go_ret2
  refine ⟨g2, cq2, rfl, own_to O2 rfl (by simp [bv]), HB1.out.trans B2⟩

/-- what TakeText answers. -/
def takeTextV (l : List UInt8) (z : Int) : Value :=
  if z < 0 ∨ (l.length : Int) < z then .tuple #[.string ⟨#[]⟩, .int .i64 0, .int .i64 1]
  else if (l.length : Int) < z + 1 + Oc.num ((l.drop z.toNat).take 1) ∨ (l.length : Int) < z + 1 then .tuple #[.string ⟨#[]⟩, .int .i64 0, .int .i64 6]
  else .tuple #[sv ((l.drop (z.toNat + 1)).take (Oc.num ((l.drop z.toNat).take 1))), .int .i64 (z + 1 + Oc.num ((l.drop z.toNat).take 1)), .int .i64 0]
theorem takeV_arg {K : IntKind} {k : Nat} {l : List UInt8} {z : Int} (h : z < 0 ∨ (l.length : Int) < z) : takeV K k l z = .tuple #[.int K 0, .int .i64 0, .int .i64 1] := by unfold takeV; rw [if_pos h]
theorem takeV_short {K : IntKind} {k : Nat} {l : List UInt8} {z : Int} (h : ¬ (z < 0 ∨ (l.length : Int) < z)) (h2 : (l.length : Int) < z + k) : takeV K k l z = .tuple #[.int K 0, .int .i64 0, .int .i64 6] := by unfold takeV; rw [if_neg h, if_pos h2]
theorem takeV_ok {K : IntKind} {k : Nat} {l : List UInt8} {n : Nat} (h2 : n + k ≤ l.length) : takeV K k l n = .tuple #[.int K (Oc.num ((l.drop n).take k)), .int .i64 (n + k), .int .i64 0] := by
  unfold takeV; rw [if_neg (by omega), if_neg (by omega)]; simp


set_option maxHeartbeats 1000000 in
set_option maxRecDepth 100000 in
theorem takeText_ok (g0 o0 : Nat) (l : List UInt8) (c n m : Nat) (w : World) (hc : l.length ≤ c) (hm : l.length ≤ 211106232532992) (lo hi : Nat) (hr : Bs w lo hi (some ⟨g0, o0, none⟩) l) (hk : n + 1 + m ≤ l.length)
    (ht : Calls Tryz.prog 150 #[.slice (some ⟨g0, o0, none⟩) l.length c, .int .i64 n] w fun e w' => e = .returned (.tuple #[.int .u8 m, .int .i64 (n + 1), .int .i64 0]) ∧ w = w') (hm2 : m < 256) :
    Calls Tryz.prog 121 #[.slice (some ⟨g0, o0, none⟩) l.length c, .int .i64 n] w fun e w' => e = .returned (.tuple #[sv ((l.drop (n + 1)).take m), .int .i64 (n + 1 + m), .int .i64 0]) ∧ w = w' := by
  have HT := Lib.hid ht
  clear ht
  have HR := Lib.hid (hr.sub (n + 1) m hk)
  clear hr
  by_cases hcn : c = n + 1
  · obtain rfl : m = 0 := by omega
    subst hcn
    go_enter Tryz.func121, Tryz.ntmps121
    go_wp2_with (first
      | (go_at_call 150; refine HT.out.mono ?_; rintro e w1 ⟨rfl, rfl⟩)
      | (refine wpList_convert_bs rfl 56 9 (.tmp 32) rfl 5 Tryz.underlying56 Tryz.underlying5 Tryz.underlying9 lo hi _ _ _ [] (by simp) rfl Bs.nil ?_))
    go_ret3
    exact ⟨by simp, rfl⟩
  · have hcn2 : n + 1 < c := by omega
    go_enter Tryz.func121, Tryz.ntmps121
    go_wp2_with (first
      | (go_at_call 150; refine HT.out.mono ?_; rintro e w1 ⟨rfl, rfl⟩)
      | (refine wpList_convert_bs rfl 56 9 (.tmp 32) rfl 5 Tryz.underlying56 Tryz.underlying5 Tryz.underlying9 lo hi _ _ _ ((l.drop (n + 1)).take m) (by rw [List.length_take, List.length_drop]; omega) rfl HR.out ?_))
    go_ret3
    exact ⟨rfl, rfl⟩
set_option maxHeartbeats 1000000 in
set_option maxRecDepth 100000 in
theorem takeText (A : Option Addr) (l : List UInt8) (c : Nat) (z : Int) (w : World) (hc : l.length ≤ c) (hm : l.length ≤ 211106232532992) (lo hi : Nat) (hr : Bs w lo hi A l) :
    Calls Tryz.prog 121 #[.slice A l.length c, .int .i64 z] w fun e w' => e = .returned (takeTextV l z) ∧ w = w' := by
  have HT := fun w => take_u8 A l c z w hc (by omega) lo hi
  unfold takeTextV
  by_cases h0 : z < 0 ∨ (l.length : Int) < z
  · rw [if_pos h0]
    have HT1 := Lib.hid (fun (w : World) (hr : Bs w lo hi A l) => HT w hr)
    rw [takeV_arg h0] at HT1
    clear HT h0
    have HR := Lib.hid hr
    clear hr
    go_enter Tryz.func121, Tryz.ntmps121
    go_wp2_with (first
      | (go_at_call 150; refine (HT1.out _ HR.out).mono ?_; rintro e w1 ⟨rfl, rfl⟩))
    go_ret3
    exact ⟨rfl, rfl⟩
  · rw [if_neg h0]
    by_cases h1 : (l.length : Int) < z + 1
    · rw [if_pos (.inr h1)]
      have HT1 := Lib.hid (fun (w : World) (hr : Bs w lo hi A l) => HT w hr)
      rw [takeV_short h0 h1] at HT1
      clear HT h0 h1
      have HR := Lib.hid hr
      clear hr
      go_enter Tryz.func121, Tryz.ntmps121
      go_wp2_with (first
        | (go_at_call 150; refine (HT1.out _ HR.out).mono ?_; rintro e w1 ⟨rfl, rfl⟩))
      go_ret3
      exact ⟨rfl, rfl⟩
    · obtain ⟨n, rfl⟩ : ∃ n : Nat, z = n := ⟨z.toNat, by omega⟩
      obtain ⟨g0, o0, rfl, _, _, _⟩ := hr (by omega)
      have HT1 := Lib.hid (fun (w : World) (hr : Bs w lo hi (some ⟨g0, o0, none⟩) l) => HT w hr)
      rw [takeV_ok (k := 1) (by omega)] at HT1
      clear HT
      have hx := Oc.num_take_lt (l.drop n) 1
      rw [show (n : Int).toNat = n from rfl]
      generalize Oc.num ((l.drop n).take 1) = m at *
      by_cases h2 : (l.length : Int) < n + 1 + m
      · rw [if_pos (.inl h2)]
        have h3 : (l.length : Int) - (n + 1) < m := by omega
        have HR := Lib.hid hr
        clear hr
        go_enter Tryz.func121, Tryz.ntmps121
        go_wp2_with (first
          | (go_at_call 150; refine (HT1.out _ HR.out).mono ?_; rintro e w1 ⟨rfl, rfl⟩))
        go_ret3
        exact ⟨rfl, rfl⟩
      · rw [if_neg (by omega)]
        exact takeText_ok g0 o0 l c n m w hc hm lo hi hr (by omega) (HT1.out w hr) (by omega)

end Go.Proofs.YtgcaephfhfkjcaaGreatDoor
namespace Go.Proofs.YtgcaephfhfkjcaaGreatDoor
open Go.RowKit

/-- a string's bytes as a new slice. -/
theorem wpList_convert_text {P : Program} {w : World} {ops : Array Oper} {rest : List Oper} {o : Oper} {a : Act} {Q : Exit → Act → World → Prop} (hgd : o.guard = none) (src dst : TypeId) (x : Operand) (ho : o.op = .convert src dst x)
    (e : TypeId) {u : TypeDesc} (hs : P.underlying src = some u) (hd : P.underlying dst = some (.slice e)) (he : P.underlying e = some (.int .u8)) (s : ByteArray) (hx : a.eval x = .string s)
    (h : ∀ (c : Nat) (w1 : World), s.size ≤ c → Bs w1 w.heap.size (w.heap.size + 1) (some ⟨w.heap.size, 0, none⟩) s.data.toList → Below w.heap.size w w1 → w1.heap.size = w.heap.size + 1 →
      wpList P ops Q rest (a.put o.dst (.slice (some ⟨w.heap.size, 0, none⟩) s.size c)) w1) : wpList P ops Q (o :: rest) a w := by
  refine wpList_plain hgd fun _ hK => ?_
  unfold Oper.wp execOp
  simp only [ho, hx, Sem.run_bind, Sem.run_pure, Result.andThen_ok, Lib.run_convert_string_bytes w src dst e s hs hd he]
  refine hK _ _ (h _ _ (grownCap_ge w s.size 0 e) (fun _ => ⟨w.heap.size, 0, rfl, Nat.le_refl _, by omega, fun j hj => ?_⟩) ⟨rfl, rfl, rfl, by rw [Lib.bytesWorld_size]; omega, fun j hj => Lib.bytesWorld_at_old w e s j hj⟩ (Lib.bytesWorld_size w e s))
  rw [Nat.zero_add, Lib.bytesWorld_cell w e s j (by simpa using hj)]
  have : (s.data.toList.getD j 0) = s.data.toList[j] := by rw [List.getD_eq_getElem?_getD, List.getElem?_eq_getElem hj]; rfl
  rw [this]
theorem tx_at {l : List UInt8} {k : Nat} (hk : k < l.length) : l.drop k = l[k] :: l.drop (k + 1) := List.drop_eq_getElem_cons hk
theorem takeTextV_no {l : List UInt8} {k : Nat} (hk : k < l.length) (h : l.length < k + 1 + (l[k]).toNat) : takeTextV l k = .tuple #[.string ⟨#[]⟩, .int .i64 0, .int .i64 6] := by
  have e : Oc.num ((l.drop k).take 1) = (l[k]).toNat := by rw [tx_at hk, List.take_succ_cons, List.take_zero]; simp [Oc.num]
  unfold takeTextV
  rw [if_neg (by omega), if_pos (by left; simp only [Int.toNat_natCast]; rw [e]; omega)]
theorem takeTextV_yes {l : List UInt8} {k : Nat} (hk : k < l.length) (h : ¬ l.length < k + 1 + (l[k]).toNat) : takeTextV l k = .tuple #[sv ((l.drop (k + 1)).take (l[k]).toNat), .int .i64 ((k + 1 + (l[k]).toNat : Nat) : Int), .int .i64 0] := by
  have e : Oc.num ((l.drop k).take 1) = (l[k]).toNat := by rw [tx_at hk, List.take_succ_cons, List.take_zero]; simp [Oc.num]
  unfold takeTextV
  rw [if_neg (by omega), if_neg (by simp only [Int.toNat_natCast]; rw [e]; omega)]
  simp only [Int.toNat_natCast, e]
  congr 3
set_option maxHeartbeats 1000000 in
set_option maxRecDepth 100000 in
theorem textsOf_any (s : ByteArray) (w : World) (hs : s.size ≤ 8796093022208) :
    Calls Tryz.prog 98 #[.string s] w (TextsPost w (Rd.tx s.data.toList)) := by
  obtain ⟨i0, hi, hz0, hz1, hz2⟩ := info_parts Tryz.infoString
  obtain ⟨l, hl⟩ : ∃ l, s.data.toList = l := ⟨_, rfl⟩
  have hlen : s.size = l.length := by rw [← hl]; simp
  rw [hl]
  have HL := Lib.hid hl
  clear hl
  go_enter Tryz.func98, Tryz.ntmps98
  go_wp2_with (refine wpList_convert_text rfl 9 56 (.tmp 10) rfl 5 Tryz.underlying9 Tryz.underlying56 Tryz.underlying5 s rfl ?_; intro c w1 hc hb1 hB1 hz; rw [HL.out] at hb1; have HBS := Lib.hid hb1; have HB1 := Lib.hid hB1; have HZ := Lib.hid hz; clear hb1 hB1 hz)
  have hw : w.heap.size + 1 = w1.heap.size := HZ.out.symm
  have HW := Lib.hid hw
  have hwl : w.heap.size < w1.heap.size := by omega
  clear hw
  have HT : ∀ (k : Nat) (W : World), Below w1.heap.size w1 W → Hid (Calls Tryz.prog 121 #[.slice (some ⟨w.heap.size, 0, none⟩) l.length c, .int .i64 k] W fun e w' => e = .returned (takeTextV l k) ∧ W = w') := fun k W hb => takeText _ l c k W (by omega) (by omega) w.heap.size (w.heap.size + 1) (HBS.out.keep (hb.mono (by rw [HW.out]; exact Nat.le_refl _)))
  go_loopw [4, 6] (fun v i wr => ∃ (k : Nat) (acc : List (List UInt8)), i = .int .i64 k ∧ k ≤ l.length ∧ acc.length ≤ k ∧ Hid (Rd.tx l = (Rd.tx (l.drop k)).map (acc ++ ·)) ∧ Hid (wr.ownsRow w1.heap.size 9 1 v acc.length (svs acc)) ∧ Hid (Below w1.heap.size w1 wr)) (fun _ i _ => l.length - (intOf i).toNat)
  case atStart => exact ⟨0, [], rfl, Nat.zero_le _, Nat.le_refl _, by simp [Hid], World.ownsRow_nil _ _ _ _, Below.refl _ _⟩
  case round =>
    obtain ⟨k, acc, rfl, hk, hka, HX, HO, HB⟩ := hrel
    have hbs := HB.out.size
    have HTK := HT k wr HB.out
    by_cases hlt : k < l.length
    · have hm8 : (l[k]).toNat < 256 := (l[k]).toNat_lt
      by_cases hsh : l.length < k + 1 + (l[k]).toNat
      · have HN : Hid (Rd.tx l = none) := by
          have := HX.out
          rw [tx_at hlt, Rd.tx_bad (by simp; omega)] at this
          exact this
        rw [takeTextV_no hlt hsh] at HTK
        go_wp2_with (go_at_call 121; refine HTK.out.mono ?_; rintro e w2 ⟨rfl, rfl⟩)
        go_ret2
        exact texts_no (HB1.out.trans (HB.out.mono (by omega))) HN.out
      · have HN : Hid (Rd.tx l = (Rd.tx (l.drop (k + 1 + (l[k]).toNat))).map ((acc ++ [(l.drop (k + 1)).take (l[k]).toNat]) ++ ·)) := by
          have := HX.out
          rw [tx_at hlt, Rd.tx_cons (by simp; omega), Option.map_map, List.drop_drop] at this
          refine this.trans ?_
          congr 1
          funext x
          simp
        rw [takeTextV_yes hlt hsh] at HTK
        obtain ⟨ad, cp, hv⟩ := own_form HO.out
        subst hv
        generalize (l.drop (k + 1)).take (l[k]).toNat = x at *
        generalize hm : (l[k]).toNat = m at *
        clear hm
        go_wp2_with (first
          | (go_at_call 121; refine HTK.out.mono ?_; rintro e w2 ⟨rfl, rfl⟩)
          | (at_builtin; refine wpList_append_own _ rfl (.tmp 25) (.tmp 27) _ rfl w1.heap.size 9 i0 _ 1 16 Tryz.underlying70 hi hz0 hz1 hz2 rfl (by decide) _ acc.length (svs acc) rfl (HO.out.alloc _) ⟨wr.heap.size, 0, none⟩ 1 1 [sv x] rfl rfl ?c1 ?c2 ?c3 ?c4 ?c5 (fun v' w4 hown1 hg1 _ => ?_)))
        case c1 => exact cell_one_new _ _ _
        case c2 => simp [Value.oneCell']
        case c3 => unfold maxLen; omega
        case c4 => omega
        case c5 => simp; omega
        go_roundw
        case rel => exact ⟨k + 1 + m, acc ++ [x], rfl, by omega, by simp; omega, HN.out, by rw [List.length_append, svs_append]; exact hown1, (HB.out.alloc hbs _).grown hg1 (by simp; omega) (fun j hj => (HO.out.lt j hj).1)⟩
        case measure => simp [intOf]; omega
    · obtain rfl : k = l.length := by omega
      have HN : Hid (Rd.tx l = some acc) := by
        have := HX.out
        rw [List.drop_length, Rd.tx_nil] at this
        rw [this]
        simp [Hid]
      obtain ⟨ad, cp, hv⟩ := own_form HO.out
      subst hv
      go_wp2
      go_ret2
      exact texts_yes (HB1.out.trans (HB.out.mono (by omega))) HN.out (by simp) (own_mono HO.out (by omega))
end Go.Proofs.YtgcaephfhfkjcaaGreatDoor
