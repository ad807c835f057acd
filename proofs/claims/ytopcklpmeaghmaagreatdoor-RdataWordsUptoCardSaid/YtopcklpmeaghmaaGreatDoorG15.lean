/- Texts of the proofs, merged. -/
import Derived.Test.YtopcklpmeaghmaaGreatDoorG14
/- strconv.ParseUint to the base 16, of one to four digits; the reader's hex. -/
namespace Go.Proofs.YtopcklpmeaghmaaGreatDoor
open Go.RowKit

/-- digits to the base 16, on from a. -/
def Rd.hxa : Nat → List UInt8 → Option Nat
  | a, [] => some a
  | a, c :: r => (Rd.hexD c).bind fun d => Rd.hxa (16 * a + d) r
theorem Rd.hxa_fold : ∀ (s : List UInt8) (a : Nat), (s.foldl (fun v c => match v, Rd.hexD c with
  | some v, some d => some (16 * v + d)
  | _, _ => none) (some a)) = Rd.hxa a s
  | [], _ => rfl
  | c :: r, a => by
    have hn : ∀ r : List UInt8, (r.foldl (fun v c => match v, Rd.hexD c with
      | some v, some d => some (16 * v + d)
      | _, _ => none) (none : Option Nat)) = none := fun r => by induction r with
      | nil => rfl
      | cons c r ih => rw [List.foldl_cons]; exact ih
    rw [List.foldl_cons, Rd.hxa]
    cases hd : Rd.hexD c with
    | none => exact hn r
    | some d => exact Rd.hxa_fold r _
theorem Rd.hexV_hxa (s : List UInt8) : Rd.hexV s = Rd.hxa 0 s := Rd.hxa_fold s 0
theorem Rd.hexD_lt {c : UInt8} {d : Nat} (h : Rd.hexD c = some d) : d < 16 ∧ ((48 ≤ c.toNat ∧ c.toNat ≤ 57 ∧ d = c.toNat - 48) ∨ (97 ≤ c.toNat ∧ c.toNat ≤ 102 ∧ d = c.toNat - 87) ∨ (65 ≤ c.toNat ∧ c.toNat ≤ 70 ∧ d = c.toNat - 55)) := by
  unfold Rd.hexD at h
  split at h
  · injection h with h; omega
  split at h
  · injection h with h; omega
  split at h
  · injection h with h; omega
  · cases h
theorem Rd.hxa_le : ∀ {s : List UInt8} {a v : Nat}, Rd.hxa a s = some v → a ≤ v ∧ v < (a + 1) * 16 ^ s.length
  | [], a, v, h => by injection h with h; subst h; simp
  | c :: r, a, v, h => by
    rw [Rd.hxa] at h
    cases hd : Rd.hexD c with
    | none => rw [hd] at h; cases h
    | some d =>
      rw [hd, Option.bind_some] at h
      obtain ⟨h1, h2⟩ := Rd.hxa_le h
      have hl := (Rd.hexD_lt hd).1
      refine ⟨by omega, Nat.lt_of_lt_of_le h2 ?_⟩
      rw [List.length_cons, Nat.pow_succ, Nat.mul_comm (16 ^ r.length) 16, ← Nat.mul_assoc]
      exact Nat.mul_le_mul_right _ (by omega)
theorem lower_any (c : Int) (w : World) : Calls Tryz.prog 108 #[.int .u8 c] w fun e w' => e = .returned (.int .u8 (bits .or .u8 c 32)) ∧ w = w' := by
  go_enter Tryz.func108, Tryz.ntmps108
  go_wp2
  go_ret
  exact ⟨rfl, rfl⟩
theorem low_small {n : Nat} (h1 : 97 ≤ n) (h2 : n ≤ 102) : bits BinOp.or IntKind.u8 (n : Int) 32 = (n : Int) := by
  rcases (by omega : n = 97 ∨ n = 98 ∨ n = 99 ∨ n = 100 ∨ n = 101 ∨ n = 102) with rfl | rfl | rfl | rfl | rfl | rfl <;> kernel_rfl
theorem low_great {n : Nat} (h1 : 65 ≤ n) (h2 : n ≤ 70) : bits BinOp.or IntKind.u8 (n : Int) 32 = (n : Int) + 32 := by
  rcases (by omega : n = 65 ∨ n = 66 ∨ n = 67 ∨ n = 68 ∨ n = 69 ∨ n = 70) with rfl | rfl | rfl | rfl | rfl | rfl <;> kernel_rfl
set_option maxHeartbeats 4000000 in
set_option maxRecDepth 100000 in
theorem iuint_16 (t : ByteArray) (w : World) (h0 : t.size ≠ 0) (h4 : t.size ≤ 4) {v : Nat} (hv : Rd.hxa 0 t.data.toList = some v) :
    Calls Tryz.prog 94 #[.string t, .int .i64 16, .int .i64 16] w fun e w' => e = .returned (.tuple #[.int .u64 v, .nilIface]) ∧ Below w.heap.size w w' := by
  have hemp : t.toList.isEmpty = false := empty_no h0
  have hcv := Lib.run_convert_string_bytes (P := Tryz.prog) w 9 48 5 t Tryz.underlying9 Tryz.underlying48 Tryz.underlying5
  have hB : ∀ j, j < t.size → (Lib.bytesWorld w 5 t).cell? ⟨w.heap.size, j, none⟩ = some (.int .u8 (t.data.toList.getD j 0).toNat) := fun j hj => Lib.bytesWorld_cell w 5 t j hj
  have hBel := bytesWorld_below w 5 t
  obtain ⟨W1, hW1⟩ : ∃ W1, W1 = Lib.bytesWorld w 5 t := ⟨_, rfl⟩
  rw [← hW1] at hcv hB hBel
  clear hW1
  have HBel := Lib.hid hBel
  clear hBel
  obtain ⟨bs, hL⟩ : ∃ bs, bs = t.data.toList := ⟨_, rfl⟩
  have hLn : bs.length = t.size := by rw [hL, Lib.size_eq]
  rw [← hL] at hB hv
  clear hL
  have hv4 : v < 65536 := by
    have := (Rd.hxa_le hv).2
    have h16 : 16 ^ bs.length ≤ 16 ^ 4 := Nat.pow_le_pow_right (by decide) (by omega)
    omega
  have HV := Lib.hid hv
  clear hv
  have hmv : IntKind.u64.wrap (65536 - 1) = 65535 := by rw [IntKind.wrap_u64]; decide
  go_enter Tryz.func94, Tryz.ntmps94
  go_wp2
  go_loop [12, 13, 101] (fun vu vn vi => ∃ (k acc : Nat) (a : Int), vu = .bool false ∧ vn = .int .u64 a ∧ vi = .int .i64 k ∧ k ≤ t.size ∧ Hid (a = (acc : Int)) ∧ Hid (Rd.hxa acc (bs.drop k) = some v))
    (fun _ _ vi => t.size - (intOf vi).toNat)
  case atStart => exact ⟨0, 0, 0, rfl, rfl, rfl, by omega, rfl, HV.out⟩
  case round =>
    obtain ⟨k, acc, a, rfl, rfl, rfl, hk, HA, HD⟩ := hrel
    have hle := (Rd.hxa_le HD.out).1
    have a0 : 0 ≤ a := by rw [HA.out]; omega
    have a1 : a < 65536 := by rw [HA.out]; omega
    by_cases hkn : k < t.size
    · have hc := hB k hkn
      have hdrop : bs.drop k = bs[k]'(by omega) :: bs.drop (k + 1) := List.drop_eq_getElem_cons (by omega)
      have hget : bs.getD k 0 = bs[k]'(by omega) := by simp [List.getD, List.getElem?_eq_getElem (show k < bs.length by omega)]
      have hdec := HD.out
      rw [hdrop] at hdec
      rw [hget] at hc
      generalize bs[k]'(by omega) = c at hc hdec
      have hc256 : c.toNat < 256 := c.toNat_lt
      rw [Rd.hxa] at hdec
      cases hd : Rd.hexD c with
      | none => rw [hd] at hdec; cases hdec
      | some d =>
        rw [hd, Option.bind_some] at hdec
        have hle2 := (Rd.hxa_le hdec).1
        have HDEC := Lib.hid hdec
        have ha2 : a * 16 + (d : Int) ≤ 65535 := by rw [HA.out]; omega
        obtain ⟨hd16, hcs⟩ := Rd.hexD_lt hd
        have hac : Hid (a * 16 + (d : Int) = ((16 * acc + d : Nat) : Int)) := by rw [Hid, HA.out]; omega
        clear hB hdrop hget hdec hd hle2 HD hle
        rcases hcs with ⟨g1, g2, g3⟩ | ⟨g1, g2, g3⟩ | ⟨g1, g2, g3⟩
        · have G := Lib.hid (show (c.toNat : Int) - 48 = (d : Int) by omega)
          clear g3
          go_wp2_with (go_at_call 108; refine (lower_any _ _).mono ?_; rintro e w' ⟨rfl, rfl⟩)
          exact ⟨⟨k + 1, 16 * acc + d, a * 16 + ((c.toNat : Int) - 48), rfl, rfl, by go_num, by omega, by rw [G.out]; exact hac, HDEC.out⟩, by simp [intOf]; omega⟩
        · have hlow := low_small g1 g2
          have G := Lib.hid (show (c.toNat : Int) - 97 + 10 = (d : Int) by omega)
          clear g3
          go_wp2_with (go_at_call 108; refine (lower_any _ _).mono ?_; rintro e w' ⟨rfl, rfl⟩)
          trace_state
          exact ⟨⟨k + 1, 16 * acc + d, a * 16 + ((c.toNat : Int) - 97 + 10), rfl, rfl, by go_num, by omega, by rw [G.out]; exact hac, HDEC.out⟩, by simp [intOf]; omega⟩
        · have hlow := low_great g1 g2
          have G := Lib.hid (show (c.toNat : Int) + 32 - 97 + 10 = (d : Int) by omega)
          clear g3
          go_wp2_with (go_at_call 108; refine (lower_any _ _).mono ?_; rintro e w' ⟨rfl, rfl⟩)
          trace_state
          exact ⟨⟨k + 1, 16 * acc + d, a * 16 + ((c.toNat : Int) + 32 - 97 + 10), rfl, rfl, by go_num, by omega, by rw [G.out]; exact hac, HDEC.out⟩, by simp [intOf]; omega⟩
    · have hkk : k = t.size := by omega
      subst hkk
      have hdec := HD.out
      rw [List.drop_eq_nil_of_le (by omega)] at hdec
      injection hdec with hdec
      have ha := HA.out
      rw [hdec] at ha
      subst ha
      clear hdec HD HA a0 a1 hle
      go_wp2
      go_ret2
      exact ⟨rfl, HBel.out⟩
set_option maxRecDepth 100000 in
theorem uint_16 (t : ByteArray) (w : World) (h0 : t.size ≠ 0) (h4 : t.size ≤ 4) {v : Nat} (hv : Rd.hxa 0 t.data.toList = some v) :
    Calls Tryz.prog 73 #[.string t, .int .i64 16, .int .i64 16] w fun e w' => e = .returned (.tuple #[.int .u64 v, .nilIface]) ∧ Below w.heap.size w w' := by
  have H := Lib.hid (iuint_16 t w h0 h4 hv)
  clear hv
  go_enter Tryz.func73, Tryz.ntmps73
  go_wp2_with (go_at_call 94; refine H.out.mono ?_; rintro e w1 ⟨rfl, hB⟩)
  go_ret2
  exact ⟨rfl, hB⟩
set_option maxRecDepth 100000 in
theorem rdHex_ok (p : Value) (s : List UInt8) (w : World) {v : Nat} (h : Rd.hexR s = some v) :
    Calls Tryz.prog 44 #[p, sv s] w fun e w' => e = .returned (.int .u16 v) ∧ Below w.heap.size w w' := by
  unfold Rd.hexR at h
  by_cases hb : s.length = 0 ∨ 4 < s.length
  · rw [if_pos hb] at h; cases h
  rw [if_neg hb, Rd.hexV_hxa] at h
  have hz : (⟨s.toArray⟩ : ByteArray).size = s.length := mk_size s
  obtain ⟨t, ht⟩ : ∃ t, (⟨s.toArray⟩ : ByteArray) = t := ⟨_, rfl⟩
  have hd : t.data.toList = s := by rw [← ht]
  rw [ht] at hz
  have h4 : t.size ≤ 4 := by omega
  have hv : v < 65536 := by
    have := (Rd.hxa_le h).2
    have h16 : 16 ^ s.length ≤ 16 ^ 4 := Nat.pow_le_pow_right (by decide) (by omega)
    omega
  have H := Lib.hid (uint_16 t w (by omega) h4 (by rw [hd]; exact h))
  show Calls Tryz.prog 44 #[p, .string ⟨s.toArray⟩] w _
  rw [ht]
  clear h hb ht hd hz
  go_enter Tryz.func44, Tryz.ntmps44
  go_wp2_with (go_at_call 73; refine H.out.mono ?_; rintro e w1 ⟨rfl, hB⟩)
  go_ret
  exact ⟨rfl, hB⟩
end Go.Proofs.YtopcklpmeaghmaaGreatDoor
