/- Texts of the proofs, merged. -/
import Derived.Test.YtgcaephfhfkjcaaGreatDoorZm17
import Derived.Test.YtgcaephfhfkjcaaGreatDoorZm18
import Derived.Lib.Hide
import Derived.Test.YtgcaephfhfkjcaaGreatDoorZm1
import Derived.Test.YtgcaephfhfkjcaaGreatDoorZm7
import Derived.Test.YtgcaephfhfkjcaaGreatDoorZm5
namespace Go.Proofs.YtgcaephfhfkjcaaGreatDoor
open Go.RowKit

theorem sv_eq {s : ByteArray} {l : List UInt8} (h : s.data.toList = l) : Value.string s = sv l := congrArg Value.string (string_eq h)
theorem ext_tail (r : List UInt8) : ((⟨r.toArray⟩ : ByteArray).extract 1 r.length).data.toList = r.drop 1 := by
  rw [extract_list]
  exact List.take_of_length_le (by simp)
namespace Rd
theorem flat_pos {s : By} {f : UInt8 → By} (hs : 0 < s.length) (hf : ∀ c, 0 < (f c).length) : 0 < (s.flatMap f).length := by
  cases s with
  | nil => simp at hs
  | cons c r => have := hf c; simp; omega
def showA (s : By) : By := (s.flatMap fun c => 46 :: dec c.toNat).drop 1
def hex2 (c : UInt8) : By := hex (c.toNat / 16) ++ hex (c.toNat % 16)
def showHex (s : By) : By := [92, 35, 32] ++ dec s.length ++ (if s = [] then [] else 32 :: s.flatMap hex2)
theorem dec_byte (c : UInt8) : (dec c.toNat).length ≤ 256 := by
  have := dec_len c.toNat
  have := c.toNat_lt
  omega
theorem flat_take {s : By} {k : Nat} (hk : k < s.length) (f : UInt8 → By) : (s.take (k + 1)).flatMap f = (s.take k).flatMap f ++ f (s[k]'hk) := by
  rw [List.take_add_one, List.getElem?_eq_getElem hk, List.flatMap_append]
  simp
end Rd
set_option maxHeartbeats 2000000 in
set_option maxRecDepth 100000 in
theorem rdShow_A (d : Dv) (w : World) (hraw : d.raw.size = 4) (hck : ∀ W : World, Calls Tryz.prog 74 #[.int .u16 1, d.val] W fun e w' => e = .returned (.int .i64 0) ∧ Below W.heap.size W w') :
    Calls Tryz.prog 47 #[.int .u16 1, d.val] w fun e w' => e = .returned (.tuple #[sv (Rd.showA d.raw.data.toList), .int .i64 0]) ∧ Below w.heap.size w w' := by
  have hl : d.raw.data.toList.length = d.raw.size := by simp
  have HL := Lib.hid hl
  have hr1 : 4 ≤ d.raw.size := by omega
  have hr2 : d.raw.size ≤ 4 := by omega
  have HCK := Lib.hid hck
  have HNM : Hid (∀ W : World, Calls Tryz.prog 56 #[.int .u16 1] W fun e w' => e = .returned (.tuple #[.bool false, .bool false]) ∧ W = w') := fun W => rdNames_any 1 W (by omega)
  have HNU : Hid (∀ W : World, Calls Tryz.prog 75 #[.int .u16 1] W fun e w' => e = .returned (.tuple #[.int .i64 0, .int .i64 0]) ∧ W = w') := fun W => rdNumbers_any 1 W (by omega)
  have HX0 : Hid (Has (w.alloc (.cells d.cells 34)) w.heap.size 34 d.cells) := Has.fresh w _ _
  have HB0 : Hid (Below w.heap.size w (w.alloc (.cells d.cells 34))) := (Below.refl _ w).alloc (Nat.le_refl _) _
  obtain ⟨R, hR⟩ : ∃ R, Rd.showA d.raw.data.toList = R := ⟨_, rfl⟩
  rw [hR]
  have HRR := Lib.hid hR
  clear hck hraw hl hR
  unfold Dv.val at HCK ⊢
  unfold Dv.cells at HX0 HB0
  go_enter Tryz.func47, Tryz.ntmps47
  go_wp2_with (first
    | (go_at_call 74; refine (HCK.out _).mono ?_; rintro e' w1 ⟨rfl, B1⟩; have HX : Hid (Has w1 w.heap.size 34 d.cells) := HX0.out.below B1 HX0.out.lt; have HB := Lib.hid (HB0.out.trans (B1.mono HB0.out.size)); clear B1)
    | (go_at_call 56; refine (HNM.out _).mono ?_; rintro e' w2 ⟨rfl, rfl⟩)
    | (go_at_call 75; refine (HNU.out _).mono ?_; rintro e' w3 ⟨rfl, rfl⟩))
  go_loopw [10, 11] (fun s i wr => ∃ (k : Nat) (r : List UInt8), i = .int .i64 k ∧ k ≤ 4 ∧ s = sv r ∧ Hid (r = (d.raw.data.toList.take k).flatMap fun c => 46 :: Rd.dec c.toNat) ∧ r.length ≤ 257 * k ∧ Hid (Has wr w.heap.size 34 d.cells) ∧ Hid (Below w.heap.size w wr)) (fun _ i _ => 4 - (intOf i).toNat)
  case atStart => exact ⟨0, [], rfl, Nat.zero_le _, rfl, rfl, by simp, HX.out, HB.out⟩
  case round =>
    obtain ⟨k, r, rfl, hk, rfl, HE, hrl, HX, HB⟩ := hrel
    have hsw := HB.out.size
    have c0 := dv_raw HX.out
    by_cases hk4 : k < 4
    · have hks : k < d.raw.size := by omega
      have h8 : d.raw[k].toNat < 256 := d.raw[k].toNat_lt
      have hdl := Rd.dec_byte d.raw[k]
      have HD := Lib.hid (fun W : World => rdDigits_any d.raw[k].toNat W (by omega))
      have HE2 : Hid ((r ++ [46]) ++ Rd.dec d.raw[k].toNat = (d.raw.data.toList.take (k + 1)).flatMap fun c => 46 :: Rd.dec c.toNat) := by
        have e := Rd.flat_take (s := d.raw.data.toList) (k := k) (by rw [HL.out]; exact hks) (fun c => 46 :: Rd.dec c.toNat)
        show _ = _
        rw [e, ← HE.out, List.append_assoc]
        rfl
      obtain ⟨x, hx⟩ : ∃ x, Rd.dec d.raw[k].toNat = x := ⟨_, rfl⟩
      rw [hx] at HD HE2 hdl
      clear hx
      go_wp2_with (go_at_call 76; refine (HD.out _).mono ?_; rintro e' w5 ⟨rfl, B5⟩; have HX5 := Lib.hid (HX.out.below B5 HX.out.lt); have HB5 := Lib.hid (HB.out.trans (B5.mono hsw)); clear B5)
      go_roundw
      case rel => exact ⟨k + 1, (r ++ [46]) ++ x, by go_num, by omega, sv_eq (by simp), HE2.out, by simp; omega, HX5.out, HB5.out⟩
      case measure => simp [intOf]; omega
    · obtain rfl : k = 4 := by omega
      have hpos : 0 < r.length := by
        rw [HE.out]
        exact Rd.flat_pos (by rw [List.length_take, HL.out]; omega) (fun c => by simp)
      have HF : Hid (R = r.drop 1) := by
        rw [← HRR.out]
        show _ = _
        unfold Rd.showA
        rw [HE.out, List.take_of_length_le (by rw [HL.out]; omega)]
      go_wp2
      go_ret2
      exact ⟨by rw [HF.out, ← sv_eq (ext_tail r)]; rfl, HB.out⟩
theorem Rd.hex_small2 {n : Nat} (h : n < 16) : (hex n).length = 1 := by rw [hex_small h]; rfl
set_option maxHeartbeats 2000000 in
set_option maxRecDepth 100000 in
theorem rdShow_raw (t : Nat) (d : Dv) (w : World) (ht : t ≤ 65535) (hraw : d.raw.size ≤ 65535) (hh : Rd.isHost t = false) (k1 : ((t : Int) == 1) = false) (k28 : ((t : Int) == 28) = false) (k16 : ((t : Int) == 16) = false) (hck : ∀ W : World, Calls Tryz.prog 74 #[.int .u16 t, d.val] W fun e w' => e = .returned (.int .i64 0) ∧ Below W.heap.size W w') :
    Calls Tryz.prog 47 #[.int .u16 t, d.val] w fun e w' => e = .returned (.tuple #[sv (Rd.showHex d.raw.data.toList), .int .i64 0]) ∧ Below w.heap.size w w' := by
  have hl : d.raw.data.toList.length = d.raw.size := by simp
  have HL := Lib.hid hl
  have HCK := Lib.hid hck
  obtain ⟨ml, hml⟩ : ∃ ml, Rd.isMail t = ml := ⟨_, rfl⟩
  obtain ⟨cn, hcn⟩ : ∃ cn, Rd.cnt t = cn := ⟨_, rfl⟩
  obtain ⟨bt, hbt⟩ : ∃ bt, Rd.bits t = bt := ⟨_, rfl⟩
  have HNM := Lib.hid (fun W : World => rdNames_any t W ht)
  have HNU := Lib.hid (fun W : World => rdNumbers_any t W ht)
  rw [hh, hml] at HNM
  rw [hcn, hbt] at HNU
  have HDG := Lib.hid (fun W : World => rdDigits_any d.raw.size W (by omega))
  have hdl := Rd.dec_len d.raw.size
  have HX0 : Hid (Has (w.alloc (.cells d.cells 34)) w.heap.size 34 d.cells) := Has.fresh w _ _
  have HB0 : Hid (Below w.heap.size w (w.alloc (.cells d.cells 34))) := (Below.refl _ w).alloc (Nat.le_refl _) _
  obtain ⟨R, hR⟩ : ∃ R, Rd.showHex d.raw.data.toList = R := ⟨_, rfl⟩
  rw [hR]
  unfold Rd.showHex at hR
  rw [hl] at hR
  obtain ⟨D, hD⟩ : ∃ D, Rd.dec d.raw.size = D := ⟨_, rfl⟩
  rw [hD] at HDG hdl hR
  have HRR := Lib.hid hR
  clear hck hl hR hh hml hcn hbt hD
  unfold Dv.val at HCK ⊢
  unfold Dv.cells at HX0 HB0
  go_enter Tryz.func47, Tryz.ntmps47
  go_wp2_with (first
    | (go_at_call 74; refine (HCK.out _).mono ?_; rintro e' w1 ⟨rfl, B1⟩; have HX : Hid (Has w1 w.heap.size 34 d.cells) := HX0.out.below B1 HX0.out.lt; have HB := Lib.hid (HB0.out.trans (B1.mono HB0.out.size)); have c1 := dv_raw HX.out; have hs1 := HB.out.size; clear B1)
    | (go_at_call 56; refine (HNM.out _).mono ?_; rintro e' w2 ⟨rfl, rfl⟩)
    | (go_at_call 75; refine (HNU.out _).mono ?_; rintro e' w3 ⟨rfl, rfl⟩)
    | (go_at_call 76; refine (HDG.out _).mono ?_; rintro e' w4 ⟨rfl, B4⟩; have HX4 := Lib.hid (HX.out.below B4 HX.out.lt); have HB4 := Lib.hid (HB.out.trans (B4.mono hs1)); clear B4))
  go_loopw [10, 16] (fun s i wr => ∃ (k : Nat) (r : List UInt8), i = .int .i64 k ∧ k ≤ d.raw.size ∧ s = sv r ∧ Hid (r = [92, 35, 32] ++ D ++ (if k = 0 then [] else 32 :: (d.raw.data.toList.take k).flatMap Rd.hex2)) ∧ r.length ≤ 70000 + 3 * k ∧ Hid (Has wr w.heap.size 34 d.cells) ∧ Hid (Below w.heap.size w wr)) (fun _ i _ => d.raw.size - (intOf i).toNat)
  case atStart => exact ⟨0, [92, 35, 32] ++ D, rfl, Nat.zero_le _, by rw [← sv_cat], by simp [Hid], by simp; omega, HX4.out, HB4.out⟩
  case round =>
    obtain ⟨k, r, rfl, hk, rfl, HE, hrl, HX, HB⟩ := hrel
    have hsw := HB.out.size
    have c0 := dv_raw HX.out
    by_cases hks : k < d.raw.size
    · have h8 : d.raw[k].toNat < 256 := d.raw[k].toNat_lt
      have hs1 := fun W : World => rdSmall_any (d.raw[k].toNat / 16) W (by omega)
      have hs2 := fun W : World => rdSmall_any (d.raw[k].toNat % 16) W (by omega)
      rw [show ((d.raw[k].toNat / 16 : Nat) : Int) = (d.raw[k].toNat : Int) / 16 from by omega] at hs1
      rw [show ((d.raw[k].toNat % 16 : Nat) : Int) = (d.raw[k].toNat : Int) % 16 from by omega] at hs2
      have HS1 := Lib.hid hs1
      have HS2 := Lib.hid hs2
      clear hs1 hs2
      have l1 := Rd.hex_small2 (n := d.raw[k].toNat / 16) (by omega)
      have l2 := Rd.hex_small2 (n := d.raw[k].toNat % 16) (by omega)
      have e := Rd.flat_take (s := d.raw.data.toList) (k := k) (by rw [HL.out]; exact hks) Rd.hex2
      have e2 : Rd.hex2 (d.raw.data.toList[k]'(by rw [HL.out]; exact hks)) = Rd.hex (d.raw[k].toNat / 16) ++ Rd.hex (d.raw[k].toNat % 16) := rfl
      rw [e2] at e
      obtain ⟨x, hx⟩ : ∃ x, Rd.hex (d.raw[k].toNat / 16) = x := ⟨_, rfl⟩
      obtain ⟨y, hy⟩ : ∃ y, Rd.hex (d.raw[k].toNat % 16) = y := ⟨_, rfl⟩
      rw [hx] at HS1 e l1
      rw [hy] at HS2 e l2
      have HFE := Lib.hid e
      clear e e2 hx hy
      by_cases hk0 : k = 0
      · subst hk0
        have HE2 : Hid (((r ++ [32]) ++ x) ++ y = [92, 35, 32] ++ D ++ (if 0 + 1 = 0 then [] else 32 :: (d.raw.data.toList.take (0 + 1)).flatMap Rd.hex2)) := by
          show _ = _
          rw [HE.out, if_pos rfl, if_neg (by omega), HFE.out]
          simp
        go_wp2_with (first
          | (go_at_call 77; (with_reducible refine (HS1.out _).mono ?_); rintro e' w5 ⟨rfl, rfl⟩)
          | (go_at_call 77; (with_reducible refine (HS2.out _).mono ?_); rintro e' w6 ⟨rfl, rfl⟩))
        go_roundw
        case rel => exact ⟨0 + 1, ((r ++ [32]) ++ x) ++ y, by go_num, by omega, sv_eq (by simp), HE2.out, by simp; omega, HX.out, HB.out⟩
        case measure => simp [intOf]; omega
      · have hb0 : ((k : Int) == 0) = false := beq_eq_false_iff_ne.2 (by omega)
        have HE2 : Hid ((r ++ x) ++ y = [92, 35, 32] ++ D ++ (if k + 1 = 0 then [] else 32 :: (d.raw.data.toList.take (k + 1)).flatMap Rd.hex2)) := by
          show _ = _
          rw [HE.out, if_neg hk0, if_neg (by omega), HFE.out]
          simp
        go_wp2_with (first
          | (go_at_call 77; (with_reducible refine (HS1.out _).mono ?_); rintro e' w5 ⟨rfl, rfl⟩)
          | (go_at_call 77; (with_reducible refine (HS2.out _).mono ?_); rintro e' w6 ⟨rfl, rfl⟩))
        go_roundw
        case rel => exact ⟨k + 1, (r ++ x) ++ y, by go_num, by omega, sv_eq (by simp), HE2.out, by simp; omega, HX.out, HB.out⟩
        case measure => simp [intOf]; omega
    · obtain rfl : k = d.raw.size := by omega
      have HF : Hid (R = r) := by
        rw [← HRR.out]
        show _ = _
        rw [HE.out, List.take_of_length_le (by rw [HL.out]; omega)]
        congr 1
        by_cases hz : d.raw.size = 0
        · have : d.raw.data.toList = [] := List.eq_nil_of_length_eq_zero (by rw [HL.out]; exact hz)
          rw [if_pos this, if_pos hz]
        · have : ¬ d.raw.data.toList = [] := fun e => hz (by rw [← HL.out, e]; rfl)
          rw [if_neg this, if_neg hz]
      go_wp2
      go_ret2
      exact ⟨by rw [HF.out]; rfl, HB.out⟩
end Go.Proofs.YtgcaephfhfkjcaaGreatDoor
namespace Go.Proofs.YtgcaephfhfkjcaaGreatDoor.Pr

abbrev By := List UInt8
inductive TR where
  | err (e : Int)
  | ok (ls : List By) (behind : Nat)

theorem meas {p row L a : Nat} (h : p < row) : p * (L + 2) + (L + 1 - p) < row * (L + 2) + (L + 1 - a) := by
  have h1 : (p + 1) * (L + 2) ≤ row * (L + 2) := Nat.mul_le_mul_right _ h
  rw [Nat.add_mul] at h1
  omega

/-- the name at a place in a row that begins at 'row': its labels from there on, and the place behind the row's end. -/
def tk (b : By) (row at_ size : Nat) : TR :=
  if h : at_ < b.length then
    if (b[at_]'h).toNat = 0 then .ok [] (at_ + 1)
    else if 192 ≤ (b[at_]'h).toNat then
      if h2 : at_ + 1 < b.length then
        if _hp : ((b[at_]'h).toNat - 192) * 256 + (b[at_ + 1]'h2).toNat < row then
          match tk b (((b[at_]'h).toNat - 192) * 256 + (b[at_ + 1]'h2).toNat) (((b[at_]'h).toNat - 192) * 256 + (b[at_ + 1]'h2).toNat) size with
          | .err e => .err e
          | .ok ls _ => .ok ls (at_ + 2)
        else .err 30
      else .err 6
    else if 64 ≤ (b[at_]'h).toNat then .err 31
    else if b.length < at_ + 1 + (b[at_]'h).toNat then .err 6
    else if 255 < size + 1 + (b[at_]'h).toNat then .err 2
    else match tk b row (at_ + 1 + (b[at_]'h).toNat) (size + 1 + (b[at_]'h).toNat) with
      | .err e => .err e
      | .ok ls bh => .ok ((b.drop (at_ + 1)).take (b[at_]'h).toNat :: ls) bh
  else .err 6
termination_by row * (b.length + 2) + (b.length + 1 - at_)
decreasing_by
  · exact meas (by assumption)
  · omega

/-- what is told in the end, some labels and the place being known already. -/
def fin (acc : List By) (o : Option Nat) : TR → TR
  | .err e => .err e
  | .ok ls bh => .ok (acc ++ ls) (o.getD bh)
theorem fin_nil (r : TR) : fin [] none r = r := by cases r <;> rfl

section
variable {b : By} {row at_ size : Nat}
theorem tk_out (h : ¬ at_ < b.length) : tk b row at_ size = .err 6 := by rw [tk, dif_neg h]
theorem tk_end (h : at_ < b.length) (h0 : (b[at_]'h).toNat = 0) : tk b row at_ size = .ok [] (at_ + 1) := by rw [tk, dif_pos h, if_pos h0]
theorem tk_short (h : at_ < b.length) (h1 : 192 ≤ (b[at_]'h).toNat) (h2 : ¬ at_ + 1 < b.length) : tk b row at_ size = .err 6 := by
  rw [tk, dif_pos h, if_neg (by omega), if_pos h1, dif_neg h2]
theorem tk_back (h : at_ < b.length) (h1 : 192 ≤ (b[at_]'h).toNat) (h2 : at_ + 1 < b.length) (hp : ¬ ((b[at_]'h).toNat - 192) * 256 + (b[at_ + 1]'h2).toNat < row) : tk b row at_ size = .err 30 := by
  rw [tk, dif_pos h, if_neg (by omega), if_pos h1, dif_pos h2, dif_neg hp]
theorem tk_kind (h : at_ < b.length) (h1 : 64 ≤ (b[at_]'h).toNat) (h2 : ¬ 192 ≤ (b[at_]'h).toNat) : tk b row at_ size = .err 31 := by
  rw [tk, dif_pos h, if_neg (by omega), if_neg h2, if_pos h1]
theorem tk_few (h : at_ < b.length) (h0 : (b[at_]'h).toNat ≠ 0) (h1 : ¬ 64 ≤ (b[at_]'h).toNat) (h2 : b.length < at_ + 1 + (b[at_]'h).toNat) : tk b row at_ size = .err 6 := by
  rw [tk, dif_pos h, if_neg h0, if_neg (by omega), if_neg h1, if_pos h2]
theorem tk_long (h : at_ < b.length) (h0 : (b[at_]'h).toNat ≠ 0) (h1 : ¬ 64 ≤ (b[at_]'h).toNat) (h2 : ¬ b.length < at_ + 1 + (b[at_]'h).toNat) (h3 : 255 < size + 1 + (b[at_]'h).toNat) : tk b row at_ size = .err 2 := by
  rw [tk, dif_pos h, if_neg h0, if_neg (by omega), if_neg h1, if_neg h2, if_pos h3]
theorem tk_jump (acc : List By) (o : Option Nat) (h : at_ < b.length) (h1 : 192 ≤ (b[at_]'h).toNat) (h2 : at_ + 1 < b.length) (hp : ((b[at_]'h).toNat - 192) * 256 + (b[at_ + 1]'h2).toNat < row) :
    fin acc o (tk b row at_ size) = fin acc (some (o.getD (at_ + 2))) (tk b (((b[at_]'h).toNat - 192) * 256 + (b[at_ + 1]'h2).toNat) (((b[at_]'h).toNat - 192) * 256 + (b[at_ + 1]'h2).toNat) size) := by
  rw [tk, dif_pos h, if_neg (by omega), if_pos h1, dif_pos h2, dif_pos hp]
  cases tk b (((b[at_]'h).toNat - 192) * 256 + (b[at_ + 1]'h2).toNat) (((b[at_]'h).toNat - 192) * 256 + (b[at_ + 1]'h2).toNat) size <;> rfl
theorem tk_label (acc : List By) (o : Option Nat) (h : at_ < b.length) (h0 : (b[at_]'h).toNat ≠ 0) (h1 : ¬ 64 ≤ (b[at_]'h).toNat) (h2 : ¬ b.length < at_ + 1 + (b[at_]'h).toNat) (h3 : ¬ 255 < size + 1 + (b[at_]'h).toNat) :
    fin acc o (tk b row at_ size) = fin (acc ++ [(b.drop (at_ + 1)).take (b[at_]'h).toNat]) o (tk b row (at_ + 1 + (b[at_]'h).toNat) (size + 1 + (b[at_]'h).toNat)) := by
  rw [tk, dif_pos h, if_neg h0, if_neg (by omega), if_neg h1, if_neg h2, if_neg h3]
  cases tk b row (at_ + 1 + (b[at_]'h).toNat) (size + 1 + (b[at_]'h).toNat) <;> simp [fin]
end
/-- all labels' bytes, each with its length ahead. -/
def tot : List By → Nat
  | [] => 0
  | l :: r => l.length + 1 + tot r
end Go.Proofs.YtgcaephfhfkjcaaGreatDoor.Pr
namespace Go.Proofs.YtgcaephfhfkjcaaGreatDoor

/-- what is remembered: a name's bytes, and its place. -/
abbrev Tab := List (List UInt8 × Nat)
def findI : Tab → List UInt8 → Int
  | [], _ => -1
  | (m, p) :: r, n => if m = n then p else findI r n
theorem findI_neg {t : Tab} {n : List UInt8} (h : ¬ 0 ≤ findI t n) : findI t n = -1 := by
  induction t with
  | nil => rfl
  | cons x r ih =>
    obtain ⟨m, p⟩ := x
    unfold findI at h ⊢
    split
    · rename_i he; rw [if_pos he] at h; omega
    · rename_i he; rw [if_neg he] at h; exact ih h
theorem findI_snoc (t : Tab) (k n : List UInt8) (p : Nat) : findI (t ++ [(k, p)]) n = if 0 ≤ findI t n then findI t n else if k = n then (p : Int) else -1 := by
  induction t with
  | nil => simp [findI]
  | cons x r ih =>
    obtain ⟨m, q⟩ := x
    rw [List.cons_append, findI, findI]
    by_cases he : m = n
    · rw [if_pos he, if_pos he, if_pos (by omega)]
    · rw [if_neg he, if_neg he]; exact ih
namespace Pr
/-- what is remembered, when a name is told to stand at a place. -/
def rem (t : Tab) (k : By) (p : Nat) : Tab := if 0 ≤ findI t k then t else if 16383 < p then t else t ++ [(k, p)]
theorem rem_there {t : Tab} {k : By} {p : Nat} (h : 0 ≤ findI t k) : rem t k p = t := by unfold rem; rw [if_pos h]
theorem rem_far {t : Tab} {k : By} {p : Nat} (h : 16383 < p) : rem t k p = t := by unfold rem; split <;> rfl
theorem rem_new {t : Tab} {k : By} {p : Nat} (h : ¬ 0 ≤ findI t k) (h2 : p ≤ 16383) : rem t k p = t ++ [(k, p)] := by unfold rem; rw [if_neg h, if_neg (by omega)]
theorem rem_find_ne {t : Tab} {k n : By} {p : Nat} (h : k ≠ n) : findI (rem t k p) n = findI t n := by
  unfold rem
  split
  · rfl
  · split
    · rfl
    · rw [findI_snoc, if_neg h]
      split
      · rfl
      · rename_i h3; rw [findI_neg h3]
theorem rem_len (t : Tab) (k : By) (p : Nat) : (rem t k p).length ≤ t.length + 1 := by
  unfold rem; split
  · omega
  · split
    · omega
    · simp
/-- what is written of labels at a place, and what is remembered then. -/
def pw (plain : Bool) : Tab → Nat → List By → Tab × By
  | t, _, [] => (t, [0])
  | t, at_, l :: ls =>
    if 0 ≤ findI t (Nm.glue (l :: ls)) ∧ plain = false then (t, Oc.beb 2 (49152 + (findI t (Nm.glue (l :: ls))).toNat))
    else ((pw plain (rem t (Nm.glue (l :: ls)) at_) (at_ + 1 + l.length) ls).1, Nm.lab l ++ (pw plain (rem t (Nm.glue (l :: ls)) at_) (at_ + 1 + l.length) ls).2)
theorem pw_nil (plain : Bool) (t : Tab) (a : Nat) : pw plain t a [] = (t, [0]) := rfl
theorem pw_ptr {plain : Bool} {t : Tab} {a : Nat} {l : By} {ls : List By} (h : 0 ≤ findI t (Nm.glue (l :: ls))) (hp : plain = false) :
    pw plain t a (l :: ls) = (t, Oc.beb 2 (49152 + (findI t (Nm.glue (l :: ls))).toNat)) := by rw [pw, if_pos ⟨h, hp⟩]
theorem pw_lab {plain : Bool} {t : Tab} {a : Nat} {l : By} {ls : List By} (h : ¬ (0 ≤ findI t (Nm.glue (l :: ls)) ∧ plain = false)) :
    pw plain t a (l :: ls) = ((pw plain (rem t (Nm.glue (l :: ls)) a) (a + 1 + l.length) ls).1, Nm.lab l ++ (pw plain (rem t (Nm.glue (l :: ls)) a) (a + 1 + l.length) ls).2) := by rw [pw, if_neg h]

theorem glue_cons (l : By) (ls : List By) : Nm.glue (l :: ls) = Nm.lab l ++ Nm.glue ls := by simp [Nm.glue, Nm.body]
theorem tot_body (ls : List By) : tot ls = (Nm.body ls).length := by
  induction ls with
  | nil => rfl
  | cons l r ih => rw [tot, Nm.body_cons, List.length_append, Nm.lab_length, ih]
theorem tot_glue (ls : List By) : (Nm.glue ls).length = tot ls + 1 := by rw [Nm.glue_length, tot_body]
theorem glue_inj {a b : List By} (ga : Nm.Good a) (gb : Nm.Good b) (h : Nm.glue a = Nm.glue b) : a = b := by
  have h1 := Nm.sp_glue a ga
  have h2 := Nm.sp_glue b gb
  rw [h, h2] at h1
  exact (Option.some.inj h1).symm

theorem pw_len (plain : Bool) : ∀ (ls : List By) (t : Tab) (a : Nat), 1 ≤ (pw plain t a ls).2.length ∧ (pw plain t a ls).2.length ≤ (Nm.glue ls).length + 1 ∧ (Nm.Good ls → (pw plain t a ls).2.length ≤ (Nm.glue ls).length) ∧ (plain = true → (pw plain t a ls).2 = Nm.glue ls) := by
  intro ls
  induction ls with
  | nil => intro t a; rw [pw_nil]; simp [Nm.glue, Nm.body]
  | cons l r ih =>
    intro t a
    by_cases h : 0 ≤ findI t (Nm.glue (l :: r)) ∧ plain = false
    · rw [pw_ptr h.1 h.2]
      have := tot_glue (l :: r)
      rw [tot] at this
      refine ⟨by simp [Oc.beb], by simp [Oc.beb]; omega, fun g => ?_, fun hp => by rw [h.2] at hp; cases hp⟩
      have := g l (by simp)
      simp [Oc.beb]; omega
    · rw [pw_lab h]
      obtain ⟨h1, h2, h3, h4⟩ := ih (rem t (Nm.glue (l :: r)) a) (a + 1 + l.length)
      obtain ⟨R, hR⟩ : ∃ R, pw plain (rem t (Nm.glue (l :: r)) a) (a + 1 + l.length) r = R := ⟨_, rfl⟩
      rw [hR] at h1 h2 h3 h4 ⊢
      rw [glue_cons]
      simp only [List.length_append, Nm.lab_length]
      refine ⟨by omega, by omega, fun g => ?_, fun hp => by rw [h4 hp]⟩
      have := h3 (fun x hx => g x (by simp [hx]))
      omega
theorem pw_tab (plain : Bool) : ∀ (ls : List By) (t : Tab) (a : Nat), (pw plain t a ls).1.length ≤ t.length + ls.length := by
  intro ls
  induction ls with
  | nil => intro t a; simp [pw_nil]
  | cons l r ih =>
    intro t a
    by_cases hc : 0 ≤ findI t (Nm.glue (l :: r)) ∧ plain = false
    · rw [pw_ptr hc.1 hc.2]; simp
    · rw [pw_lab hc]
      have := ih (rem t (Nm.glue (l :: r)) a) (a + 1 + l.length)
      have := rem_len t (Nm.glue (l :: r)) a
      simp only [List.length_cons]; omega

/-- how far a writing has come: i labels are behind, T is remembered. -/
def Cont (plain : Bool) (t : Tab) (a : Nat) (ls : List By) (i : Nat) (T : Tab) : Prop :=
  pw plain t a ls = ((pw plain T (a + (Nm.body (ls.take i)).length) (ls.drop i)).1, Nm.body (ls.take i) ++ (pw plain T (a + (Nm.body (ls.take i)).length) (ls.drop i)).2)
theorem Cont.zero (plain : Bool) (t : Tab) (a : Nat) (ls : List By) : Cont plain t a ls 0 t := by simp [Cont, Nm.body]
theorem Cont.step {plain : Bool} {t T : Tab} {a i : Nat} {ls : List By} (h : Cont plain t a ls i T) (hi : i < ls.length) (hn : ¬ (0 ≤ findI T (Nm.glue (ls.drop i)) ∧ plain = false)) :
    Cont plain t a ls (i + 1) (rem T (Nm.glue (ls.drop i)) (a + (Nm.body (ls.take i)).length)) := by
  unfold Cont at h ⊢
  have e := List.drop_eq_getElem_cons hi
  have eb := Nm.take_succ_body hi
  have et : Nm.body (ls.take (i + 1)) = Nm.body (ls.take i) ++ Nm.lab ls[i] := by rw [List.take_succ_eq_append_getElem hi, Nm.body_append]; simp [Nm.body]
  rw [e] at h hn ⊢
  rw [pw_lab hn] at h
  rw [h, eb, et]
  simp only [List.append_assoc]
  have e2 : a + (Nm.body (ls.take i)).length + 1 + (ls[i]).length = a + ((Nm.body (ls.take i)).length + 1 + (ls[i]).length) := by omega
  rw [e2]
theorem Cont.done {plain : Bool} {t T : Tab} {a : Nat} {ls : List By} (h : Cont plain t a ls ls.length T) : pw plain t a ls = (T, Nm.glue ls) := by
  unfold Cont at h
  rw [h, List.drop_length, List.take_length, pw_nil]
  rfl
theorem glue_drop_lt {ls : List By} {i j : Nat} (hij : i < j) (hi : i < ls.length) : (Nm.glue (ls.drop j)).length < (Nm.glue (ls.drop i)).length := by
  have e : ls.drop i = (ls.drop i).take (j - i) ++ ls.drop j := by
    have := (List.take_append_drop (j - i) (ls.drop i)).symm
    rw [List.drop_drop] at this
    rwa [show i + (j - i) = j from by omega] at this
  rw [Nm.glue_length, Nm.glue_length]
  conv => rhs; rw [e, Nm.body_append, List.length_append]
  obtain ⟨x, hx⟩ : ∃ x, (ls.drop i).take (j - i) = x := ⟨_, rfl⟩
  have hl : 1 ≤ x.length := by rw [← hx]; simp; omega
  rw [hx]
  cases x with
  | nil => simp at hl
  | cons y r => rw [Nm.body_cons, List.length_append, Nm.lab_length]; omega
/-- what is remembered of this name is not asked for again within it. -/
def Ahead (t T : Tab) (ls : List By) (i : Nat) : Prop := ∀ j, i ≤ j → j < ls.length → findI T (Nm.glue (ls.drop j)) = findI t (Nm.glue (ls.drop j))
theorem Ahead.zero (t : Tab) (ls : List By) : Ahead t t ls 0 := fun _ _ _ => rfl
theorem Ahead.step {t T : Tab} {ls : List By} {i p : Nat} (h : Ahead t T ls i) (hi : i < ls.length) : Ahead t (rem T (Nm.glue (ls.drop i)) p) ls (i + 1) := fun j hj hl => by
  rw [rem_find_ne, h j (by omega) hl]
  intro e
  have := glue_drop_lt (ls := ls) (i := i) (j := j) (by omega) hi
  rw [e] at this
  omega

/-! ### reading again -/
/-- from a place on these labels are read, in a row that begins at 'row' or behind it. -/
def Rdb (b : By) (p : Nat) (ls : List By) (row bh : Nat) : Prop := ∀ rest row' size, row ≤ row' → size + tot ls ≤ 255 → tk (b ++ rest) row' p size = .ok ls bh
theorem Rdb.more {b : By} {p : Nat} {ls : List By} {row bh : Nat} (h : Rdb b p ls row bh) (c : By) : Rdb (b ++ c) p ls row bh := fun rest row' size h1 h2 => by
  rw [List.append_assoc]; exact h _ _ _ h1 h2
theorem Rdb.row {b : By} {p : Nat} {ls : List By} {row row2 bh : Nat} (h : Rdb b p ls row bh) (hr : row ≤ row2) : Rdb b p ls row2 bh := fun rest row' size h1 h2 => h rest row' size (by omega) h2
/-- what is found is a name that is read there. -/
def Fnd (b : By) (k : By) (p : Nat) : Prop := ∃ ls bh, k = Nm.glue ls ∧ Nm.Good ls ∧ p < b.length ∧ p ≤ 16383 ∧ Rdb b p ls p bh
def Snd (b : By) (t : Tab) : Prop := ∀ k (p : Nat), findI t k = p → Fnd b k p
theorem Snd.nil (b : By) : Snd b [] := fun k p h => by rw [findI] at h; omega
theorem Fnd.more {b k : By} {p : Nat} (h : Fnd b k p) (c : By) : Fnd (b ++ c) k p := by
  obtain ⟨ls, bh, h1, h2, h3, h4, h5⟩ := h
  exact ⟨ls, bh, h1, h2, by simp; omega, h4, h5.more c⟩

theorem fin_some {acc ls : List By} {o : Option Nat} {r : TR} {bh : Nat} (h : r = .ok ls bh) : fin acc o r = .ok (acc ++ ls) (o.getD bh) := by rw [h]; rfl
theorem get_at {o x y : By} {c : UInt8} (h : x = c :: y) : ∃ hl : o.length < (o ++ x).length, (o ++ x)[o.length]'hl = c := by
  subst h
  exact ⟨by simp, by simp⟩
theorem beb_two (q : Nat) : Oc.beb 2 (49152 + q) = [UInt8.ofNat ((49152 + q) / 256), UInt8.ofNat (49152 + q)] := by simp [Oc.beb]

theorem pw_read : ∀ (ls : List By) (plain : Bool) (t : Tab) (out : By) (at0 : Nat), at0 ≤ out.length → Nm.Good ls → tot ls ≤ 254 →
    (∀ k (p : Nat), findI t k = p → k.length ≤ (Nm.glue ls).length → p < at0 ∧ Fnd out k p) →
    Rdb (out ++ (pw plain t out.length ls).2) out.length ls at0 (out ++ (pw plain t out.length ls).2).length ∧
    ∀ k (p : Nat), findI (pw plain t out.length ls).1 k = p → findI t k = p ∨ (at0 ≤ p ∧ Fnd (out ++ (pw plain t out.length ls).2) k p) := by
  intro ls
  induction ls with
  | nil =>
    intro plain t out at0 h0 g ht H
    rw [pw_nil]
    refine ⟨fun rest row' size h1 h2 => ?_, fun k p h => .inl h⟩
    obtain ⟨hl, hc⟩ := get_at (o := out) (x := [0] ++ rest) (c := 0) (y := rest) rfl
    rw [List.append_assoc]
    rw [tk_end hl (by rw [hc]; rfl)]
    simp
  | cons l r ih =>
    intro plain t out at0 h0 g ht H
    have hl1 := g l (by simp)
    have gr : Nm.Good r := fun x hx => g x (by simp [hx])
    rw [tot] at ht
    by_cases hp : 0 ≤ findI t (Nm.glue (l :: r)) ∧ plain = false
    · rw [pw_ptr hp.1 hp.2]
      obtain ⟨q, hq⟩ : ∃ q : Nat, findI t (Nm.glue (l :: r)) = q := ⟨(findI t (Nm.glue (l :: r))).toNat, by omega⟩
      obtain ⟨hq0, ls', bh, hg1, hg2, hlt, hmx, hrd⟩ := H _ q hq (Nat.le_refl _)
      obtain rfl := glue_inj g hg2 hg1
      refine ⟨fun rest row' size h1 h2 => ?_, fun k p h => .inl h⟩
      rw [hq, show ((q : Int).toNat) = q from rfl, beb_two]
      simp only [List.append_assoc, List.cons_append, List.nil_append]
      obtain ⟨B, hB⟩ : ∃ B, out ++ UInt8.ofNat ((49152 + q) / 256) :: UInt8.ofNat (49152 + q) :: rest = B := ⟨_, rfl⟩
      have e0 : B[out.length]? = some (UInt8.ofNat ((49152 + q) / 256)) := by rw [← hB]; simp
      have e1 : B[out.length + 1]? = some (UInt8.ofNat (49152 + q)) := by rw [← hB]; simp
      obtain ⟨hl, hc⟩ := List.getElem?_eq_some_iff.1 e0
      obtain ⟨hl2, hc2⟩ := List.getElem?_eq_some_iff.1 e1
      have hd : q / 256 ≤ 63 := by omega
      have v0 : (B[out.length]'hl).toNat = 192 + q / 256 := by rw [hc]; simp; omega
      have v1 : (B[out.length + 1]'hl2).toNat = q % 256 := by rw [hc2]; simp <;> omega
      have hpl : ((B[out.length]'hl).toNat - 192) * 256 + (B[out.length + 1]'hl2).toNat = q := by rw [v0, v1]; omega
      have hj := tk_jump (row := row') (size := size) [] none hl (by rw [v0]; omega) hl2 (by rw [hpl]; omega)
      rw [fin_nil, hpl] at hj
      rw [hB, hj]
      have hr2 : tk B q q size = .ok (l :: r) bh := by
        have := hrd ([UInt8.ofNat ((49152 + q) / 256), UInt8.ofNat (49152 + q)] ++ rest) q size (Nat.le_refl _) h2
        rw [← hB]
        simpa using this
      rw [fin_some hr2]
      simp
    · rw [pw_lab hp]
      have hnext : (out ++ Nm.lab l).length = out.length + 1 + l.length := by simp [Nm.lab]; omega
      obtain ⟨T, hT⟩ : ∃ T, rem t (Nm.glue (l :: r)) out.length = T := ⟨_, rfl⟩
      have hlt : (Nm.glue r).length < (Nm.glue (l :: r)).length := by rw [glue_cons, List.length_append, Nm.lab_length]; omega
      have HT : ∀ k, k.length ≤ (Nm.glue r).length → findI T k = findI t k := fun k hk => by
        rw [← hT, rem_find_ne]
        intro e; rw [← e] at hk; omega
      obtain ⟨ih1, ih2⟩ := ih plain T (out ++ Nm.lab l) at0 (by rw [hnext]; omega) gr (by omega) (fun k p hf hk => by
        rw [HT k hk] at hf
        obtain ⟨h1, h2⟩ := H k p hf (by omega)
        exact ⟨h1, h2.more _⟩)
      rw [hnext] at ih1 ih2
      rw [hT]
      obtain ⟨R, hR⟩ : ∃ R, pw plain T (out.length + 1 + l.length) r = R := ⟨_, rfl⟩
      rw [hR] at ih1 ih2 ⊢
      simp only
      have hRd : Rdb (out ++ (Nm.lab l ++ R.2)) out.length (l :: r) at0 (out ++ (Nm.lab l ++ R.2)).length := by
        intro rest row' size h1 h2
        rw [tot] at h2
        rw [show out ++ (Nm.lab l ++ R.2) ++ rest = out ++ Nm.lab l ++ R.2 ++ rest from by simp]
        have hih := ih1 rest row' (size + 1 + l.length) h1 (by omega)
        obtain ⟨B, hB⟩ : ∃ B, out ++ Nm.lab l ++ R.2 ++ rest = B := ⟨_, rfl⟩
        rw [hB] at hih ⊢
        have e0 : B[out.length]? = some (UInt8.ofNat l.length) := by rw [← hB]; simp [Nm.lab]
        obtain ⟨hl, hc⟩ := List.getElem?_eq_some_iff.1 e0
        have v0 : (B[out.length]'hl).toNat = l.length := by rw [hc]; simp; omega
        have hBl : B.length = out.length + 1 + l.length + R.2.length + rest.length := by rw [← hB]; simp [Nm.lab]; omega
        have hlab : (B.drop (out.length + 1)).take l.length = l := by
          rw [← hB]
          have e : out ++ Nm.lab l ++ R.2 ++ rest = (out ++ [UInt8.ofNat l.length]) ++ (l ++ (R.2 ++ rest)) := by simp [Nm.lab]
          rw [e, show out.length + 1 = (out ++ [UInt8.ofNat l.length]).length from by simp, List.drop_left, List.take_left]
        have hj := tk_label (row := row') (size := size) [] none hl (by rw [v0]; omega) (by rw [v0]; omega) (by rw [v0]; omega) (by rw [v0]; omega)
        rw [fin_nil, v0, hlab] at hj
        rw [hj, fin_some hih]
        simp
      refine ⟨hRd, fun k p h => ?_⟩
      rcases ih2 k p h with h | ⟨h, hf⟩
      · by_cases hk : Nm.glue (l :: r) = k
        · by_cases h9 : 0 ≤ findI t (Nm.glue (l :: r))
          · rw [← hT, rem_there h9] at h; exact .inl h
          · by_cases h8 : 16383 < out.length
            · rw [← hT, rem_far h8] at h; exact .inl h
            · have h7 := h
              rw [← hT, rem_new h9 (by omega), findI_snoc, ← hk, if_neg h9, if_pos rfl] at h7
              have h6 : p = out.length := by omega
              subst h6
              right
              refine ⟨h0, l :: r, _, hk.symm, g, ?_, by omega, hRd.row h0⟩
              rw [List.length_append, List.length_append, Nm.lab_length]; omega
        · rw [← hT, rem_find_ne hk] at h; exact .inl h
      · right
        rw [show out ++ (Nm.lab l ++ R.2) = out ++ Nm.lab l ++ R.2 from by simp]
        exact ⟨h, hf⟩
/-- a name that is put behind sound bytes: it is read there, and all is sound again. -/
theorem pw_sound {ls : List By} {t : Tab} {b : By} (plain : Bool) (g : Nm.Good ls) (h255 : (Nm.glue ls).length ≤ 255) (hs : Snd b t) :
    Rdb (b ++ (pw plain t b.length ls).2) b.length ls b.length (b ++ (pw plain t b.length ls).2).length ∧ Snd (b ++ (pw plain t b.length ls).2) (pw plain t b.length ls).1 := by
  have hl := tot_glue ls
  obtain ⟨h1, h2⟩ := pw_read ls plain t b b.length (Nat.le_refl _) g (by omega) (fun k p hf _ => by
    have := hs k p hf
    obtain ⟨ls, bh, e1, e2, e3, e4⟩ := this
    exact ⟨e3, ls, bh, e1, e2, e3, e4⟩)
  refine ⟨h1, fun k p hf => ?_⟩
  rcases h2 k p hf with h | h
  · exact (hs k p h).more _
  · exact h.2
end Pr
end Go.Proofs.YtgcaephfhfkjcaaGreatDoor
namespace Go.Proofs.YtgcaephfhfkjcaaGreatDoor.Rd

/-- one part more: the table, the bytes. -/
def wr1 (d : Dt) (hl ml : List By) (n p : Nat) (T : Tab) (l : By) : Tab × By :=
  if 1 ≤ p ∧ p ≤ 4 then (T, l ++ d.raw)
  else if p = 5 then ((Pr.pw false T l.length hl).1, l ++ (Pr.pw false T l.length hl).2)
  else if p = 6 then ((Pr.pw true T l.length hl).1, l ++ (Pr.pw true T l.length hl).2)
  else if p = 7 then ((Pr.pw false T l.length ml).1, l ++ (Pr.pw false T l.length ml).2)
  else if p = 8 then (T, l ++ Oc.beb 2 (hasN d n))
  else if p = 9 then (T, l ++ Oc.beb 4 (hasN d n))
  else (T, l)
/-- all parts of a list. -/
def wrs (T : Tab) (l : By) (d : Dt) (hl ml : List By) (ps : List Nat) : Tab × By × Nat :=
  ps.foldl (fun s p => ((wr1 d hl ml s.2.2 p s.1 s.2.1).1, (wr1 d hl ml s.2.2 p s.1 s.2.1).2, s.2.2 + if p = 8 ∨ p = 9 then 1 else 0)) (T, l, 0)
theorem wrs_nil (T : Tab) (l : By) (d : Dt) (hl ml : List By) : wrs T l d hl ml [] = (T, l, 0) := rfl
theorem wrs_n (T : Tab) (l : By) (d : Dt) (hl ml : List By) (ps : List Nat) : (wrs T l d hl ml ps).2.2 = nums ps := by
  unfold wrs
  suffices H : ∀ (ps : List Nat) (s : Tab × By × Nat), (ps.foldl (fun s p => ((wr1 d hl ml s.2.2 p s.1 s.2.1).1, (wr1 d hl ml s.2.2 p s.1 s.2.1).2, s.2.2 + if p = 8 ∨ p = 9 then 1 else 0)) s).2.2 = s.2.2 + nums ps from by rw [H]; simp
  intro ps
  induction ps with
  | nil => intro s; rfl
  | cons p r ih =>
    intro s
    rw [List.foldl_cons, ih]
    have e : nums (p :: r) = (if p = 8 ∨ p = 9 then 1 else 0) + nums r := by
      unfold nums
      by_cases h : p = 8 ∨ p = 9
      · rw [if_pos h, List.filter_cons_of_pos (by simpa using h), List.length_cons]; omega
      · rw [if_neg h, List.filter_cons_of_neg (by simpa using h)]; omega
    rw [e]; simp only; omega
theorem wrs_snoc (T : Tab) (l : By) (d : Dt) (hl ml : List By) (ps : List Nat) (p : Nat) :
    (wrs T l d hl ml (ps ++ [p])).1 = (wr1 d hl ml (nums ps) p (wrs T l d hl ml ps).1 (wrs T l d hl ml ps).2.1).1 ∧ (wrs T l d hl ml (ps ++ [p])).2.1 = (wr1 d hl ml (nums ps) p (wrs T l d hl ml ps).1 (wrs T l d hl ml ps).2.1).2 := by
  have e := wrs_n T l d hl ml ps
  unfold wrs at e ⊢
  rw [List.foldl_append, List.foldl_cons, List.foldl_nil, e]
  exact ⟨rfl, rfl⟩
theorem wr1_raw {d : Dt} {hl ml : List By} {n p : Nat} {T : Tab} {l : By} (h1 : 1 ≤ p) (h4 : p ≤ 4) : wr1 d hl ml n p T l = (T, l ++ d.raw) := by unfold wr1; rw [if_pos ⟨h1, h4⟩]
end Go.Proofs.YtgcaephfhfkjcaaGreatDoor.Rd
