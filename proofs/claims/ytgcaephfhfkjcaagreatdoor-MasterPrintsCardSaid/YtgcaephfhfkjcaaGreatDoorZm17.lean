/- Texts of the proofs, merged. -/
import Derived.Test.YtgcaephfhfkjcaaGreatDoorZm4
namespace Go.Proofs.YtgcaephfhfkjcaaGreatDoor
open Go.RowKit

theorem sv_cat (a b : List UInt8) : Value.string ((⟨a.toArray⟩ : ByteArray) ++ ⟨b.toArray⟩) = sv (a ++ b) := by
  show Value.string _ = Value.string _
  congr 1
theorem one_bs (w : World) (t : TypeId) (k : Nat) (hk : k < 256) (z : Int) (hz : z = k) : Bs (w.alloc (.cells #[.int .u8 z] t)) w.heap.size (w.heap.size + 1) (some ⟨w.heap.size, 0, none⟩) [UInt8.ofNat k] := by
  subst hz
  refine Has.bs (Has.fresh w t _) (by omega) (fun j hj => ?_)
  obtain rfl : j = 0 := by simp at hj; omega
  simp
  omega
set_option maxHeartbeats 1000000 in
set_option maxRecDepth 100000 in
theorem rdDigits_any (n : Nat) (w : World) (hn : n ≤ 4294967295) :
    Calls Tryz.prog 76 #[.int .u32 n] w fun e w' => e = .returned (sv (Rd.dec n)) ∧ Below w.heap.size w w' := by
  obtain ⟨R, hR⟩ : ∃ R, Rd.dec n = R := ⟨_, rfl⟩
  rw [hR]
  have HR := Lib.hid hR
  clear hR
  go_enter Tryz.func76, Tryz.ntmps76
  go_wp2
  go_loopw [0, 3] (fun t s wr => ∃ (m : Nat) (r : List UInt8), t = .int .u32 m ∧ m + r.length ≤ 4294967295 ∧ s = sv r ∧ Hid (Rd.dec n = Rd.dec m ++ r) ∧ Hid (Below w.heap.size w wr)) (fun t _ _ => (intOf t).toNat)
  case atStart => exact ⟨n, [], rfl, by simpa using hn, rfl, by simp [Hid], Below.refl _ _⟩
  case round =>
    obtain ⟨m, r, rfl, hm, rfl, HD, HB⟩ := hrel
    have hbs := HB.out.size
    have hdg : (48 + m % 10) < 256 := by omega
    have hw8 : IntKind.u8.wrap (48 + (m : Int) % 10) = ((48 + m % 10 : Nat) : Int) := by rw [IntKind.wrap_u8]; omega
    have hcv := run_convert_bs (w := wr.alloc (.cells #[.int .u8 (48 + (m : Int) % 10)] 5)) (P := Tryz.prog) 56 9 5 Tryz.underlying56 Tryz.underlying5 Tryz.underlying9 _ _ (some ⟨wr.heap.size, 0, none⟩) 1 1 [UInt8.ofNat (48 + m % 10)] rfl (one_bs wr _ (48 + m % 10) hdg _ (by omega))
    have HB2 := Lib.hid (HB.out.alloc hbs (.cells #[.int .u8 (48 + (m : Int) % 10)] 5))
    by_cases h10 : m < 10
    · have HF : Hid (R = [UInt8.ofNat (48 + m % 10)] ++ r) := by
        have := HD.out
        rw [HR.out, Rd.dec_small h10] at this
        rw [Nat.mod_eq_of_lt h10]
        exact this
      generalize UInt8.ofNat (48 + m % 10) = x at *
      have h0 : ((m : Int) / 10 == 0) = true := by simp; omega
      go_wp2
      go_ret
      exact ⟨by rw [HF.out, ← sv_cat]; rfl, HB2.out⟩
    · have HF : Hid (Rd.dec n = Rd.dec (m / 10) ++ ([UInt8.ofNat (48 + m % 10)] ++ r)) := by
        have := HD.out
        rw [Rd.dec_more h10, List.append_assoc] at this
        exact this
      have hne : ¬ m / 10 = 0 := by omega
      have hne2 : (((m : Int) / 10) == 0) = false := by simp; omega
      generalize UInt8.ofNat (48 + m % 10) = x at *
      go_wp2
      go_roundw
      case rel => exact ⟨m / 10, [x] ++ r, by go_num, by simp; omega, by rw [← sv_cat], HF.out, HB2.out⟩
      case measure => simp [intOf]; omega

namespace Rd
def ty : Nat → Nat
  | 0 => 1
  | 1 => 2
  | 2 => 5
  | 3 => 6
  | 4 => 12
  | 5 => 15
  | 6 => 16
  | 7 => 28
  | _ => 33
def txt : Nat → By
  | 0 => [65]
  | 1 => [78, 83]
  | 2 => [67, 78, 65, 77, 69]
  | 3 => [83, 79, 65]
  | 4 => [80, 84, 82]
  | 5 => [77, 88]
  | 6 => [84, 88, 84]
  | 7 => [65, 65, 65, 65]
  | _ => [83, 82, 86]
theorem nine {p : Nat → Prop} {k : Nat} (hk : k < 9) (h0 : p 0) (h1 : p 1) (h2 : p 2) (h3 : p 3) (h4 : p 4) (h5 : p 5) (h6 : p 6) (h7 : p 7) (h8 : p 8) : p k := by
  match k, hk with
  | 0, _ => exact h0
  | 1, _ => exact h1
  | 2, _ => exact h2
  | 3, _ => exact h3
  | 4, _ => exact h4
  | 5, _ => exact h5
  | 6, _ => exact h6
  | 7, _ => exact h7
  | 8, _ => exact h8
theorem ty_le (k : Nat) : ty k ≤ 33 := by unfold ty; split <;> omega
theorem txt_len (k : Nat) : (txt k).length ≤ 5 := by unfold txt; split <;> simp
theorem tyText_at {k : Nat} (hk : k < 9) : tyText (ty k) = txt k := nine (p := fun k => tyText (ty k) = txt k) hk rfl rfl rfl rfl rfl rfl rfl rfl rfl
theorem tyText_no {t : Nat} (h : ∀ j, j < 9 → ty j ≠ t) : tyText t = [84, 89, 80, 69] ++ dec t := by
  have k0 : (1 == t) = false := beq_eq_false_iff_ne.2 (h 0 (by omega))
  have k1 : (2 == t) = false := beq_eq_false_iff_ne.2 (h 1 (by omega))
  have k2 : (5 == t) = false := beq_eq_false_iff_ne.2 (h 2 (by omega))
  have k3 : (6 == t) = false := beq_eq_false_iff_ne.2 (h 3 (by omega))
  have k4 : (12 == t) = false := beq_eq_false_iff_ne.2 (h 4 (by omega))
  have k5 : (15 == t) = false := beq_eq_false_iff_ne.2 (h 5 (by omega))
  have k6 : (16 == t) = false := beq_eq_false_iff_ne.2 (h 6 (by omega))
  have k7 : (28 == t) = false := beq_eq_false_iff_ne.2 (h 7 (by omega))
  have k8 : (33 == t) = false := beq_eq_false_iff_ne.2 (h 8 (by omega))
  unfold tyText tyTab
  simp only [List.find?, k0, k1, k2, k3, k4, k5, k6, k7, k8]
theorem tyOf_at {k : Nat} {s : By} (hk : k < 9) (h : Nm.fold s = Nm.fold (txt k)) : tyOf s = some (ty k) := by
  unfold tyOf
  rw [h]
  exact nine (p := fun k => (match tyTab.find? (fun x => Nm.fold x.2 == Nm.fold (txt k)) with | some x => some x.1 | none => if (Nm.fold (txt k)).take 4 = [116, 121, 112, 101] then num (s.drop 4) 65535 else none) = some (ty k)) hk rfl rfl rfl rfl rfl rfl rfl rfl rfl
theorem tyOf_no {s : By} (h : ∀ j, j < 9 → Nm.fold s ≠ Nm.fold (txt j)) : tyOf s = if (Nm.fold s).take 4 = [116, 121, 112, 101] then num (s.drop 4) 65535 else none := by
  have k0 : (Nm.fold [65] == Nm.fold s) = false := beq_eq_false_iff_ne.2 (fun e => h 0 (by omega) e.symm)
  have k1 : (Nm.fold [78, 83] == Nm.fold s) = false := beq_eq_false_iff_ne.2 (fun e => h 1 (by omega) e.symm)
  have k2 : (Nm.fold [67, 78, 65, 77, 69] == Nm.fold s) = false := beq_eq_false_iff_ne.2 (fun e => h 2 (by omega) e.symm)
  have k3 : (Nm.fold [83, 79, 65] == Nm.fold s) = false := beq_eq_false_iff_ne.2 (fun e => h 3 (by omega) e.symm)
  have k4 : (Nm.fold [80, 84, 82] == Nm.fold s) = false := beq_eq_false_iff_ne.2 (fun e => h 4 (by omega) e.symm)
  have k5 : (Nm.fold [77, 88] == Nm.fold s) = false := beq_eq_false_iff_ne.2 (fun e => h 5 (by omega) e.symm)
  have k6 : (Nm.fold [84, 88, 84] == Nm.fold s) = false := beq_eq_false_iff_ne.2 (fun e => h 6 (by omega) e.symm)
  have k7 : (Nm.fold [65, 65, 65, 65] == Nm.fold s) = false := beq_eq_false_iff_ne.2 (fun e => h 7 (by omega) e.symm)
  have k8 : (Nm.fold [83, 82, 86] == Nm.fold s) = false := beq_eq_false_iff_ne.2 (fun e => h 8 (by omega) e.symm)
  unfold tyOf tyTab
  simp only [List.find?, k0, k1, k2, k3, k4, k5, k6, k7, k8]
end Rd
def tyCells : Array Value := #[.int .u16 1, .int .u16 2, .int .u16 5, .int .u16 6, .int .u16 12, .int .u16 15, .int .u16 16, .int .u16 28, .int .u16 33]
def txCells : Array Value := #[.string ⟨#[65]⟩, .string ⟨#[78, 83]⟩, .string ⟨#[67, 78, 65, 77, 69]⟩, .string ⟨#[83, 79, 65]⟩, .string ⟨#[80, 84, 82]⟩, .string ⟨#[77, 88]⟩, .string ⟨#[84, 88, 84]⟩, .string ⟨#[65, 65, 65, 65]⟩, .string ⟨#[83, 82, 86]⟩]
theorem tyCell {W : World} {g k : Nat} {t : TypeId} (h : Has W g t tyCells) (hk : k < 9) : W.cell? ⟨g, k, none⟩ = some (.int .u16 (Rd.ty k : Nat)) := by
  rw [h.cell]
  exact Rd.nine (p := fun k => tyCells[k]? = some (.int .u16 (Rd.ty k : Nat))) hk rfl rfl rfl rfl rfl rfl rfl rfl rfl
theorem txCell {W : World} {g k : Nat} {t : TypeId} (h : Has W g t txCells) (hk : k < 9) : W.cell? ⟨g, k, none⟩ = some (sv (Rd.txt k)) := by
  rw [h.cell]
  exact Rd.nine (p := fun k => txCells[k]? = some (sv (Rd.txt k))) hk rfl rfl rfl rfl rfl rfl rfl rfl rfl
set_option maxRecDepth 100000 in
theorem rdTable_any (w : World) :
    Calls Tryz.prog 79 #[] w fun e w' => e = .returned (.tuple #[.slice (some ⟨w.heap.size, 0, none⟩) 9 9, .slice (some ⟨w.heap.size + 1, 0, none⟩) 9 9]) ∧ Has w' w.heap.size 30 tyCells ∧ Has w' (w.heap.size + 1) 9 txCells ∧ Below w.heap.size w w' := by
  go_enter Tryz.func79, Tryz.ntmps79
  go_wp2
  go_ret2
  have h1 := Has.fresh (w.alloc (.cells tyCells 30)) 9 txCells
  rw [World.size_alloc] at h1
  exact ⟨rfl, (Has.fresh w 30 tyCells).alloc _, h1, ((Below.refl _ _).alloc (Nat.le_refl _) _).alloc (by simp) _⟩
set_option maxHeartbeats 1000000 in
set_option maxRecDepth 100000 in
theorem rdTypeText_any (t : Nat) (w : World) (ht : t ≤ 65535) :
    Calls Tryz.prog 49 #[.int .u16 t] w fun e w' => e = .returned (sv (Rd.tyText t)) ∧ Below w.heap.size w w' := by
  obtain ⟨R, hR⟩ : ∃ R, Rd.tyText t = R := ⟨_, rfl⟩
  rw [hR]
  have HR := Lib.hid hR
  clear hR
  have HD := Lib.hid (fun W : World => rdDigits_any t W (by omega))
  go_enter Tryz.func49, Tryz.ntmps49
  go_wp2_with (go_at_call 79; refine (rdTable_any _).mono ?_; rintro e' w1 ⟨rfl, h1, h2, B1⟩; have H1 := Lib.hid h1; have H2 := Lib.hid h2; have HB := Lib.hid B1; have hs1 := B1.size; clear h1 h2 B1)
  go_loop [5] (fun i => ∃ k : Nat, i = .int .i64 k ∧ k ≤ 9 ∧ Hid (∀ j, j < k → Rd.ty j ≠ t)) (fun i => 9 - (intOf i).toNat)
  case atStart => exact ⟨0, rfl, Nat.zero_le _, fun j hj => absurd hj (by omega)⟩
  case round =>
    obtain ⟨k, rfl, hk, HJ⟩ := hrel
    by_cases hk9 : k < 9
    · have c1 := tyCell H1.out hk9
      have c2 := txCell H2.out hk9
      have hty := Rd.ty_le k
      obtain ⟨y, hy⟩ : ∃ y, Rd.ty k = y := ⟨_, rfl⟩
      obtain ⟨x, hx⟩ : ∃ x, Rd.txt k = x := ⟨_, rfl⟩
      rw [hy] at c1 hty
      rw [hx] at c2
      by_cases hyt : y = t
      · subst hyt
        have HQ : Hid (R = x) := by
          have := Rd.tyText_at hk9
          rw [hy, HR.out, hx] at this
          exact this
        clear hy hx
        go_wp2
        go_ret
        exact ⟨by rw [HQ.out]; rfl, HB.out⟩
      · have HQ : Hid (∀ j, j < k + 1 → Rd.ty j ≠ t) := fun j hj => (Nat.lt_succ_iff_lt_or_eq.1 hj).elim (HJ.out j) (fun e => by subst e; rw [hy]; exact hyt)
        have hne : ((y : Int) == (t : Int)) = false := by simp; omega
        clear hy hx
        go_wp2
        go_round
        case rel => exact ⟨k + 1, by go_num, by omega, HQ.out⟩
        case measure => simp [intOf]; omega
    · obtain rfl : k = 9 := by omega
      have HQ : Hid (R = [84, 89, 80, 69] ++ Rd.dec t) := by
        have := Rd.tyText_no HJ.out
        rw [HR.out] at this
        exact this
      have hdl : (Rd.dec t).length ≤ 65536 := by have := Rd.dec_len t; omega
      go_wp2_with (go_at_call 76; refine (HD.out _).mono ?_; rintro e' w2 ⟨rfl, B2⟩)
      go_ret
      exact ⟨by rw [HQ.out, ← sv_cat]; rfl, HB.out.trans (B2.mono hs1)⟩
end Go.Proofs.YtgcaephfhfkjcaaGreatDoor
namespace Go.Proofs.YtgcaephfhfkjcaaGreatDoor
open Go.RowKit

def hexC : ByteArray := ⟨#[48, 49, 50, 51, 52, 53, 54, 55, 56, 57, 97, 98, 99, 100, 101, 102]⟩
theorem hexC_at {k : Nat} (hk : k < 16) : hexC.extract k (k + 1) = ⟨#[Rd.hx k]⟩ := by
  have : ∀ j : Fin 16, hexC.extract j.1 (j.1 + 1) = ⟨#[Rd.hx j.1]⟩ := by decide
  exact this ⟨k, hk⟩
set_option maxHeartbeats 1000000 in
set_option maxRecDepth 100000 in
theorem rdSmall_any (n : Nat) (w : World) (hn : n ≤ 65535) :
    Calls Tryz.prog 77 #[.int .i64 n] w fun e w' => e = .returned (sv (Rd.hex n)) ∧ w = w' := by
  obtain ⟨R, hR⟩ : ∃ R, Rd.hex n = R := ⟨_, rfl⟩
  rw [hR]
  have HR := Lib.hid hR
  clear hR
  go_enter Tryz.func77, Tryz.ntmps77
  go_wp2
  go_loop [0, 3] (fun t s => ∃ (m : Nat) (r : List UInt8), t = .int .i64 m ∧ m + r.length ≤ 65535 ∧ s = sv r ∧ Hid (Rd.hex n = Rd.hex m ++ r)) (fun t _ => (intOf t).toNat)
  case atStart => exact ⟨n, [], rfl, by simpa using hn, rfl, by simp [Hid]⟩
  case round =>
    obtain ⟨m, r, rfl, hm, rfl, HD⟩ := hrel
    have hx := hexC_at (k := m % 16) (by omega)
    unfold hexC at hx
    by_cases h16 : m < 16
    · have HF : Hid (R = [Rd.hx (m % 16)] ++ r) := by
        have := HD.out
        rw [HR.out, Rd.hex_small h16] at this
        rw [Nat.mod_eq_of_lt h16]
        exact this
      have h0 : ((m : Int) / 16 == 0) = true := by simp; omega
      generalize Rd.hx (m % 16) = x at *
      go_wp2
      go_ret
      exact ⟨by rw [HF.out, ← sv_cat]; rfl, rfl⟩
    · have HF : Hid (Rd.hex n = Rd.hex (m / 16) ++ ([Rd.hx (m % 16)] ++ r)) := by
        have := HD.out
        rw [Rd.hex_more h16, List.append_assoc] at this
        exact this
      have hne2 : (((m : Int) / 16) == 0) = false := by simp; omega
      generalize Rd.hx (m % 16) = x at *
      go_wp2
      go_round
      case rel => exact ⟨m / 16, [x] ++ r, by go_num, by simp; omega, by rw [← sv_cat], HF.out⟩
      case measure => simp [intOf]; omega
end Go.Proofs.YtgcaephfhfkjcaaGreatDoor
