/- Texts of the proofs, merged. -/
import Derived.Test.YtalghgaadcdhhaaDoorG5
import Derived.Test.YtalghgaadcdhhaaDoorG4
import Derived.Lib.ParseIntB
import Derived.Test.YtalghgaadcdhhaaDoorG11
/- The document's answer on data: types' texts. -/
namespace Go.Proofs.YtalghgaadcdhhaaDoor
open Go.RowKit

theorem sv_cat (a b : List UInt8) : Value.string ((⟨a.toArray⟩ : ByteArray) ++ ⟨b.toArray⟩) = sv (a ++ b) := by
  show Value.string _ = Value.string _
  congr 1
theorem one_bs (w : World) (t : TypeId) (k : Nat) (hk : k < 256) (z : Int) (hz : z = k) : Bs (w.alloc (.cells #[.int .u8 z] t)) w.heap.size (w.heap.size + 1) (some ⟨w.heap.size, 0, none⟩) [UInt8.ofNat k] := by
  subst hz
  refine Has.bs (Has.fresh w t _) (by omega) (fun j hj => ?_)
  obtain rfl : j = 0 := by simp at hj; omega
  simp
  omega
set_option maxHeartbeats 1000000 in
set_option maxRecDepth 100000 in
theorem rdDigits_any (n : Nat) (w : World) (hn : n ≤ 4294967295) :
    Calls Tryd.prog 48 #[.int .u32 n] w fun e w' => e = .returned (sv (Rd.dec n)) ∧ Below w.heap.size w w' := by
  obtain ⟨R, hR⟩ : ∃ R, Rd.dec n = R := ⟨_, rfl⟩
  rw [hR]
  have HR := Lib.hid hR
  clear hR
  go_enter Tryd.func48, Tryd.ntmps48
  go_wp2
  go_loopw [0, 3] (fun t s wr => ∃ (m : Nat) (r : List UInt8), t = .int .u32 m ∧ m + r.length ≤ 4294967295 ∧ s = sv r ∧ Hid (Rd.dec n = Rd.dec m ++ r) ∧ Hid (Below w.heap.size w wr)) (fun t _ _ => (intOf t).toNat)
  case atStart => exact ⟨n, [], rfl, by simpa using hn, rfl, by simp [Hid], Below.refl _ _⟩
  case round =>
    obtain ⟨m, r, rfl, hm, rfl, HD, HB⟩ := hrel
    have hbs := HB.out.size
    have hdg : (48 + m % 10) < 256 := by omega
    have hw8 : IntKind.u8.wrap (48 + (m : Int) % 10) = ((48 + m % 10 : Nat) : Int) := by rw [IntKind.wrap_u8]; omega
    have hcv := run_convert_bs (w := wr.alloc (.cells #[.int .u8 (48 + (m : Int) % 10)] 5)) (P := Tryd.prog) 41 9 5 Tryd.underlying41 Tryd.underlying5 Tryd.underlying9 _ _ (some ⟨wr.heap.size, 0, none⟩) 1 1 [UInt8.ofNat (48 + m % 10)] rfl (one_bs wr _ (48 + m % 10) hdg _ (by omega))
    have HB2 := Lib.hid (HB.out.alloc hbs (.cells #[.int .u8 (48 + (m : Int) % 10)] 5))
    by_cases h10 : m < 10
    · have HF : Hid (R = [UInt8.ofNat (48 + m % 10)] ++ r) := by
        have := HD.out
        rw [HR.out, Rd.dec_small h10] at this
        rw [Nat.mod_eq_of_lt h10]
        exact this
      generalize UInt8.ofNat (48 + m % 10) = x at *
      have h0 : ((m : Int) / 10 == 0) = true := by simp; omega
      go_wp2
      go_ret
      exact ⟨by rw [HF.out, ← sv_cat]; rfl, HB2.out⟩
    · have HF : Hid (Rd.dec n = Rd.dec (m / 10) ++ ([UInt8.ofNat (48 + m % 10)] ++ r)) := by
        have := HD.out
        rw [Rd.dec_more h10, List.append_assoc] at this
        exact this
      have hne : ¬ m / 10 = 0 := by omega
      have hne2 : (((m : Int) / 10) == 0) = false := by simp; omega
      generalize UInt8.ofNat (48 + m % 10) = x at *
      go_wp2
      go_roundw
      case rel => exact ⟨m / 10, [x] ++ r, by go_num, by simp; omega, by rw [← sv_cat], HF.out, HB2.out⟩
      case measure => simp [intOf]; omega

namespace Rd
def ty : Nat → Nat
  | 0 => 1
  | 1 => 2
  | 2 => 5
  | 3 => 6
  | 4 => 12
  | 5 => 15
  | 6 => 16
  | 7 => 28
  | _ => 33
def txt : Nat → By
  | 0 => [65]
  | 1 => [78, 83]
  | 2 => [67, 78, 65, 77, 69]
  | 3 => [83, 79, 65]
  | 4 => [80, 84, 82]
  | 5 => [77, 88]
  | 6 => [84, 88, 84]
  | 7 => [65, 65, 65, 65]
  | _ => [83, 82, 86]
theorem nine {p : Nat → Prop} {k : Nat} (hk : k < 9) (h0 : p 0) (h1 : p 1) (h2 : p 2) (h3 : p 3) (h4 : p 4) (h5 : p 5) (h6 : p 6) (h7 : p 7) (h8 : p 8) : p k := by
  match k, hk with
  | 0, _ => exact h0
  | 1, _ => exact h1
  | 2, _ => exact h2
  | 3, _ => exact h3
  | 4, _ => exact h4
  | 5, _ => exact h5
  | 6, _ => exact h6
  | 7, _ => exact h7
  | 8, _ => exact h8
theorem ty_le (k : Nat) : ty k ≤ 33 := by unfold ty; split <;> omega
theorem txt_len (k : Nat) : (txt k).length ≤ 5 := by unfold txt; split <;> simp
theorem tyText_at {k : Nat} (hk : k < 9) : tyText (ty k) = txt k := nine (p := fun k => tyText (ty k) = txt k) hk rfl rfl rfl rfl rfl rfl rfl rfl rfl
theorem tyText_no {t : Nat} (h : ∀ j, j < 9 → ty j ≠ t) : tyText t = [84, 89, 80, 69] ++ dec t := by
  have k0 : (1 == t) = false := beq_eq_false_iff_ne.2 (h 0 (by omega))
  have k1 : (2 == t) = false := beq_eq_false_iff_ne.2 (h 1 (by omega))
  have k2 : (5 == t) = false := beq_eq_false_iff_ne.2 (h 2 (by omega))
  have k3 : (6 == t) = false := beq_eq_false_iff_ne.2 (h 3 (by omega))
  have k4 : (12 == t) = false := beq_eq_false_iff_ne.2 (h 4 (by omega))
  have k5 : (15 == t) = false := beq_eq_false_iff_ne.2 (h 5 (by omega))
  have k6 : (16 == t) = false := beq_eq_false_iff_ne.2 (h 6 (by omega))
  have k7 : (28 == t) = false := beq_eq_false_iff_ne.2 (h 7 (by omega))
  have k8 : (33 == t) = false := beq_eq_false_iff_ne.2 (h 8 (by omega))
  unfold tyText tyTab
  simp only [List.find?, k0, k1, k2, k3, k4, k5, k6, k7, k8]
theorem tyOf_at {k : Nat} {s : By} (hk : k < 9) (h : Nm.fold s = Nm.fold (txt k)) : tyOf s = some (ty k) := by
  unfold tyOf
  rw [h]
  exact nine (p := fun k => (match tyTab.find? (fun x => Nm.fold x.2 == Nm.fold (txt k)) with | some x => some x.1 | none => if (Nm.fold (txt k)).take 4 = [116, 121, 112, 101] then num (s.drop 4) 65535 else none) = some (ty k)) hk rfl rfl rfl rfl rfl rfl rfl rfl rfl
theorem tyOf_no {s : By} (h : ∀ j, j < 9 → Nm.fold s ≠ Nm.fold (txt j)) : tyOf s = if (Nm.fold s).take 4 = [116, 121, 112, 101] then num (s.drop 4) 65535 else none := by
  have k0 : (Nm.fold [65] == Nm.fold s) = false := beq_eq_false_iff_ne.2 (fun e => h 0 (by omega) e.symm)
  have k1 : (Nm.fold [78, 83] == Nm.fold s) = false := beq_eq_false_iff_ne.2 (fun e => h 1 (by omega) e.symm)
  have k2 : (Nm.fold [67, 78, 65, 77, 69] == Nm.fold s) = false := beq_eq_false_iff_ne.2 (fun e => h 2 (by omega) e.symm)
  have k3 : (Nm.fold [83, 79, 65] == Nm.fold s) = false := beq_eq_false_iff_ne.2 (fun e => h 3 (by omega) e.symm)
  have k4 : (Nm.fold [80, 84, 82] == Nm.fold s) = false := beq_eq_false_iff_ne.2 (fun e => h 4 (by omega) e.symm)
  have k5 : (Nm.fold [77, 88] == Nm.fold s) = false := beq_eq_false_iff_ne.2 (fun e => h 5 (by omega) e.symm)
  have k6 : (Nm.fold [84, 88, 84] == Nm.fold s) = false := beq_eq_false_iff_ne.2 (fun e => h 6 (by omega) e.symm)
  have k7 : (Nm.fold [65, 65, 65, 65] == Nm.fold s) = false := beq_eq_false_iff_ne.2 (fun e => h 7 (by omega) e.symm)
  have k8 : (Nm.fold [83, 82, 86] == Nm.fold s) = false := beq_eq_false_iff_ne.2 (fun e => h 8 (by omega) e.symm)
  unfold tyOf tyTab
  simp only [List.find?, k0, k1, k2, k3, k4, k5, k6, k7, k8]
end Rd
def tyCells : Array Value := #[.int .u16 1, .int .u16 2, .int .u16 5, .int .u16 6, .int .u16 12, .int .u16 15, .int .u16 16, .int .u16 28, .int .u16 33]
def txCells : Array Value := #[.string ⟨#[65]⟩, .string ⟨#[78, 83]⟩, .string ⟨#[67, 78, 65, 77, 69]⟩, .string ⟨#[83, 79, 65]⟩, .string ⟨#[80, 84, 82]⟩, .string ⟨#[77, 88]⟩, .string ⟨#[84, 88, 84]⟩, .string ⟨#[65, 65, 65, 65]⟩, .string ⟨#[83, 82, 86]⟩]
theorem tyCell {W : World} {g k : Nat} {t : TypeId} (h : Has W g t tyCells) (hk : k < 9) : W.cell? ⟨g, k, none⟩ = some (.int .u16 (Rd.ty k : Nat)) := by
  rw [h.cell]
  exact Rd.nine (p := fun k => tyCells[k]? = some (.int .u16 (Rd.ty k : Nat))) hk rfl rfl rfl rfl rfl rfl rfl rfl rfl
theorem txCell {W : World} {g k : Nat} {t : TypeId} (h : Has W g t txCells) (hk : k < 9) : W.cell? ⟨g, k, none⟩ = some (sv (Rd.txt k)) := by
  rw [h.cell]
  exact Rd.nine (p := fun k => txCells[k]? = some (sv (Rd.txt k))) hk rfl rfl rfl rfl rfl rfl rfl rfl rfl
set_option maxRecDepth 100000 in
theorem rdTable_any (w : World) :
    Calls Tryd.prog 45 #[] w fun e w' => e = .returned (.tuple #[.slice (some ⟨w.heap.size, 0, none⟩) 9 9, .slice (some ⟨w.heap.size + 1, 0, none⟩) 9 9]) ∧ Has w' w.heap.size 22 tyCells ∧ Has w' (w.heap.size + 1) 9 txCells ∧ Below w.heap.size w w' := by
  go_enter Tryd.func45, Tryd.ntmps45
  go_wp2
  go_ret2
  have h1 := Has.fresh (w.alloc (.cells tyCells 22)) 9 txCells
  rw [World.size_alloc] at h1
  exact ⟨rfl, (Has.fresh w 22 tyCells).alloc _, h1, ((Below.refl _ _).alloc (Nat.le_refl _) _).alloc (by simp) _⟩
set_option maxHeartbeats 1000000 in
set_option maxRecDepth 100000 in
theorem rdTypeText_any (t : Nat) (w : World) (ht : t ≤ 65535) :
    Calls Tryd.prog 19 #[.int .u16 t] w fun e w' => e = .returned (sv (Rd.tyText t)) ∧ Below w.heap.size w w' := by
  obtain ⟨R, hR⟩ : ∃ R, Rd.tyText t = R := ⟨_, rfl⟩
  rw [hR]
  have HR := Lib.hid hR
  clear hR
  have HD := Lib.hid (fun W : World => rdDigits_any t W (by omega))
  go_enter Tryd.func19, Tryd.ntmps19
  go_wp2_with (go_at_call 45; refine (rdTable_any _).mono ?_; rintro e' w1 ⟨rfl, h1, h2, B1⟩; have H1 := Lib.hid h1; have H2 := Lib.hid h2; have HB := Lib.hid B1; have hs1 := B1.size; clear h1 h2 B1)
  go_loop [5] (fun i => ∃ k : Nat, i = .int .i64 k ∧ k ≤ 9 ∧ Hid (∀ j, j < k → Rd.ty j ≠ t)) (fun i => 9 - (intOf i).toNat)
  case atStart => exact ⟨0, rfl, Nat.zero_le _, fun j hj => absurd hj (by omega)⟩
  case round =>
    obtain ⟨k, rfl, hk, HJ⟩ := hrel
    by_cases hk9 : k < 9
    · have c1 := tyCell H1.out hk9
      have c2 := txCell H2.out hk9
      have hty := Rd.ty_le k
      obtain ⟨y, hy⟩ : ∃ y, Rd.ty k = y := ⟨_, rfl⟩
      obtain ⟨x, hx⟩ : ∃ x, Rd.txt k = x := ⟨_, rfl⟩
      rw [hy] at c1 hty
      rw [hx] at c2
      by_cases hyt : y = t
      · subst hyt
        have HQ : Hid (R = x) := by
          have := Rd.tyText_at hk9
          rw [hy, HR.out, hx] at this
          exact this
        clear hy hx
        go_wp2
        go_ret
        exact ⟨by rw [HQ.out]; rfl, HB.out⟩
      · have HQ : Hid (∀ j, j < k + 1 → Rd.ty j ≠ t) := fun j hj => (Nat.lt_succ_iff_lt_or_eq.1 hj).elim (HJ.out j) (fun e => by subst e; rw [hy]; exact hyt)
        have hne : ((y : Int) == (t : Int)) = false := by simp; omega
        clear hy hx
        go_wp2
        go_round
        case rel => exact ⟨k + 1, by go_num, by omega, HQ.out⟩
        case measure => simp [intOf]; omega
    · obtain rfl : k = 9 := by omega
      have HQ : Hid (R = [84, 89, 80, 69] ++ Rd.dec t) := by
        have := Rd.tyText_no HJ.out
        rw [HR.out] at this
        exact this
      have hdl : (Rd.dec t).length ≤ 65536 := by have := Rd.dec_len t; omega
      go_wp2_with (go_at_call 48; refine (HD.out _).mono ?_; rintro e' w2 ⟨rfl, B2⟩)
      go_ret
      exact ⟨by rw [HQ.out, ← sv_cat]; rfl, HB.out.trans (B2.mono hs1)⟩
end Go.Proofs.YtalghgaadcdhhaaDoor
/- The document's answer on data: a number that a text tells, a type's number. -/
namespace Go.Proofs.YtalghgaadcdhhaaDoor
open Go.RowKit

namespace Rd
def val (l : By) : Nat := l.foldl (fun v c => 10 * v + (c.toNat - 48)) 0
theorem val_snoc (l : By) (c : UInt8) : val (l ++ [c]) = 10 * val l + (c.toNat - 48) := by unfold val; rw [List.foldl_append]; rfl
def digs (l : By) : Bool := l.all (fun c => decide (48 ≤ c.toNat) && decide (c.toNat ≤ 57))
theorem digs_snoc (l : By) (c : UInt8) : digs (l ++ [c]) = (digs l && (decide (48 ≤ c.toNat) && decide (c.toNat ≤ 57))) := by unfold digs; rw [List.all_append]; simp
theorem val_take {s : By} {k : Nat} (hk : k < s.length) : val (s.take (k + 1)) = 10 * val (s.take k) + ((s[k]'hk).toNat - 48) := by
  rw [List.take_add_one, List.getElem?_eq_getElem hk]
  exact val_snoc _ _
theorem digs_take {s : By} {k : Nat} (hk : k < s.length) : digs (s.take (k + 1)) = (digs (s.take k) && (decide (48 ≤ (s[k]'hk).toNat) && decide ((s[k]'hk).toNat ≤ 57))) := by
  rw [List.take_add_one, List.getElem?_eq_getElem hk]
  exact digs_snoc _ _
theorem digs_no {s : By} {k : Nat} (hk : k < s.length) (h : ¬ (48 ≤ (s[k]'hk).toNat ∧ (s[k]'hk).toNat ≤ 57)) : digs s = false := by
  cases hd : digs s with
  | false => rfl
  | true =>
    have := List.all_eq_true.1 hd _ (List.getElem_mem hk)
    simp only [Bool.and_eq_true, decide_eq_true_eq] at this
    exact absurd this h
theorem num_bad {s : By} {most : Nat} (h : s.length = 0 ∨ (1 < s.length ∧ s.head? = some 48) ∨ 12 < s.length) : num s most = none := by unfold num; rw [if_pos h]
theorem num_nodig {s : By} {most : Nat} (h : digs s = false) : num s most = none := by
  unfold num
  split
  · rfl
  · unfold digs at h
    rw [h]; rfl
theorem num_dig {s : By} {most : Nat} (h0 : ¬ (s.length = 0 ∨ (1 < s.length ∧ s.head? = some 48) ∨ 12 < s.length)) (h : digs s = true) : num s most = if most < val s then none else some (val s) := by
  unfold num
  rw [if_neg h0]
  unfold digs at h
  rw [h]
  rfl
theorem head_of {s : ByteArray} (h : 0 < s.size) : s.data.toList.head? = some s[0] := by
  rw [cons_of s h]; rfl
end Rd
/-- what Number answers. -/
def numV : Option Nat → Value
  | some v => .tuple #[.int .u64 v, .bool true]
  | none => .tuple #[.int .u64 0, .bool false]
set_option maxHeartbeats 1000000 in
set_option maxRecDepth 100000 in
theorem rdNumber_any (s : ByteArray) (most : Nat) (w : World) (hs : s.size ≤ 140737488355328) (_hm : most ≤ 4294967295) :
    Calls Tryd.prog 46 #[.string s, .int .u64 most] w fun e w' => e = .returned (numV (Rd.num s.data.toList most)) ∧ w = w' := by
  have hl : s.data.toList.length = s.size := by simp
  obtain ⟨R, hR⟩ : ∃ R, Rd.num s.data.toList most = R := ⟨_, rfl⟩
  rw [hR]
  have HR := Lib.hid hR
  have HL := Lib.hid hl
  clear hR hl
  by_cases h0 : s.size = 0
  · have HQ : Hid (R = none) := by rw [← HR.out]; exact Rd.num_bad (.inl (by rw [HL.out]; exact h0))
    go_enter Tryd.func46, Tryd.ntmps46
    go_wp2
    go_ret2
    exact ⟨by rw [HQ.out]; rfl, rfl⟩
  · have hpos : 0 < s.size := by omega
    have hb0 : ((s.size : Int) == 0) = false := beq_eq_false_iff_ne.2 (by omega)
    by_cases h12 : 12 < s.size
    · have HQ : Hid (R = none) := by rw [← HR.out]; exact Rd.num_bad (.inr (.inr (by rw [HL.out]; exact h12)))
      by_cases h48 : s[0].toNat = 48
      · go_enter Tryd.func46, Tryd.ntmps46
        go_wp2
        go_ret2
        exact ⟨by rw [HQ.out]; rfl, rfl⟩
      · have hb48 : ((s[0].toNat : Int) == 48) = false := beq_eq_false_iff_ne.2 (by omega)
        go_enter Tryd.func46, Tryd.ntmps46
        go_wp2
        go_ret2
        exact ⟨by rw [HQ.out]; rfl, rfl⟩
    · by_cases hz : 1 < s.size ∧ s[0].toNat = 48
      · obtain ⟨hz1, hz2⟩ := hz
        have HQ : Hid (R = none) := by
          rw [← HR.out]
          refine Rd.num_bad (.inr (.inl ⟨by rw [HL.out]; exact hz1, ?_⟩))
          rw [Rd.head_of hpos]
          congr 1
          exact UInt8.toNat_inj.1 hz2
        go_enter Tryd.func46, Tryd.ntmps46
        go_wp2
        go_ret2
        exact ⟨by rw [HQ.out]; rfl, rfl⟩
      · have HNB : Hid (¬ (s.data.toList.length = 0 ∨ (1 < s.data.toList.length ∧ s.data.toList.head? = some 48) ∨ 12 < s.data.toList.length)) := by
          show ¬ _
          rw [HL.out, Rd.head_of hpos]
          rintro (h | ⟨h1, h2⟩ | h)
          · omega
          · injection h2 with h2
            exact hz ⟨h1, by rw [h2]; rfl⟩
          · omega
        by_cases hone : s.size = 1
        · have hb1 : ¬ (1 : Int) < s.size := by omega
          clear hz
          go_enter Tryd.func46, Tryd.ntmps46
          go_wp2
          go_loop [6, 7] (fun v i => ∃ k : Nat, i = .int .i64 k ∧ k ≤ s.size ∧ v = .int .u64 (Rd.val (s.data.toList.take k) : Nat) ∧ Hid (Rd.val (s.data.toList.take k) < 10 ^ k) ∧ Hid (Rd.digs (s.data.toList.take k) = true)) (fun _ i => s.size - (intOf i).toNat)
          case atStart => exact ⟨0, rfl, Nat.zero_le _, rfl, by show 0 < 10 ^ 0; decide, rfl⟩
          case round =>
            obtain ⟨k, rfl, hk, rfl, HV, HG⟩ := hrel
            have hp10 : 10 ^ k ≤ 10 ^ 12 := Nat.pow_le_pow_right (by omega) (by omega)
            have hvb : Rd.val (s.data.toList.take k) < 1000000000000 := Nat.lt_of_lt_of_le HV.out hp10
            clear hp10
            by_cases hlt : k < s.size
            · have h8 : s[k].toNat < 256 := s[k].toNat_lt
              have e1 : s.data.toList[k]'(by rw [HL.out]; exact hlt) = s[k] := rfl
              by_cases hdg : 48 ≤ s[k].toNat ∧ s[k].toNat ≤ 57
              · have hvt := Rd.val_take (s := s.data.toList) (k := k) (by rw [HL.out]; exact hlt)
                have hgt := Rd.digs_take (s := s.data.toList) (k := k) (by rw [HL.out]; exact hlt)
                rw [e1] at hvt hgt
                have HG2 : Hid (Rd.digs (s.data.toList.take (k + 1)) = true) := by
                  show _ = _
                  rw [hgt, HG.out]; simp [hdg]
                have HV2 : Hid (Rd.val (s.data.toList.take (k + 1)) < 10 ^ (k + 1)) := by
                  show _ < _
                  have := HV.out
                  rw [hvt, Nat.pow_succ]; omega
                have HVT := Lib.hid hvt
                clear hvt hgt e1
                generalize Rd.val (s.data.toList.take k) = v at *
                go_wp2
                go_round
                case rel => exact ⟨k + 1, by go_num, by omega, by rw [HVT.out]; go_num, HV2.out, HG2.out⟩
                case measure => simp [intOf]; omega
              · have HQ : Hid (R = none) := by rw [← HR.out]; exact Rd.num_nodig (Rd.digs_no (by rw [HL.out]; exact hlt) (by rw [e1]; exact hdg))
                clear e1
                generalize Rd.val (s.data.toList.take k) = v at *
                by_cases hd2 : s[k].toNat < 48
                · go_wp2
                  go_ret2
                  exact ⟨by rw [HQ.out]; rfl, rfl⟩
                · have hd3 : 57 < s[k].toNat := by omega
                  go_wp2
                  go_ret2
                  exact ⟨by rw [HQ.out]; rfl, rfl⟩
            · obtain rfl : k = s.size := by omega
              have et : s.data.toList.take s.size = s.data.toList := List.take_of_length_le (by rw [HL.out]; exact Nat.le_refl _)
              rw [et] at hvb HG ⊢
              have HN := Lib.hid (Rd.num_dig (most := most) HNB.out HG.out)
              rw [HR.out] at HN
              clear et
              obtain ⟨v, hv⟩ : ∃ v, Rd.val s.data.toList = v := ⟨_, rfl⟩
              rw [hv] at HN hvb ⊢
              clear hv
              by_cases hmo : most < v
              · rw [if_pos hmo] at HN
                go_wp2
                go_ret2
                exact ⟨by rw [HN.out]; rfl, rfl⟩
              · rw [if_neg hmo] at HN
                go_wp2
                go_ret2
                exact ⟨by rw [HN.out]; rfl, rfl⟩
        · have hb48 : ((s[0].toNat : Int) == 48) = false := beq_eq_false_iff_ne.2 (by omega)
          have hb1 : (1 : Int) < s.size := by omega
          clear hz
          go_enter Tryd.func46, Tryd.ntmps46
          go_wp2
          go_loop [6, 7] (fun v i => ∃ k : Nat, i = .int .i64 k ∧ k ≤ s.size ∧ v = .int .u64 (Rd.val (s.data.toList.take k) : Nat) ∧ Hid (Rd.val (s.data.toList.take k) < 10 ^ k) ∧ Hid (Rd.digs (s.data.toList.take k) = true)) (fun _ i => s.size - (intOf i).toNat)
          case atStart => exact ⟨0, rfl, Nat.zero_le _, rfl, by show 0 < 10 ^ 0; decide, rfl⟩
          case round =>
            obtain ⟨k, rfl, hk, rfl, HV, HG⟩ := hrel
            have hp10 : 10 ^ k ≤ 10 ^ 12 := Nat.pow_le_pow_right (by omega) (by omega)
            have hvb : Rd.val (s.data.toList.take k) < 1000000000000 := Nat.lt_of_lt_of_le HV.out hp10
            clear hp10
            by_cases hlt : k < s.size
            · have h8 : s[k].toNat < 256 := s[k].toNat_lt
              have e1 : s.data.toList[k]'(by rw [HL.out]; exact hlt) = s[k] := rfl
              by_cases hdg : 48 ≤ s[k].toNat ∧ s[k].toNat ≤ 57
              · have hvt := Rd.val_take (s := s.data.toList) (k := k) (by rw [HL.out]; exact hlt)
                have hgt := Rd.digs_take (s := s.data.toList) (k := k) (by rw [HL.out]; exact hlt)
                rw [e1] at hvt hgt
                have HG2 : Hid (Rd.digs (s.data.toList.take (k + 1)) = true) := by
                  show _ = _
                  rw [hgt, HG.out]; simp [hdg]
                have HV2 : Hid (Rd.val (s.data.toList.take (k + 1)) < 10 ^ (k + 1)) := by
                  show _ < _
                  have := HV.out
                  rw [hvt, Nat.pow_succ]; omega
                have HVT := Lib.hid hvt
                clear hvt hgt e1
                generalize Rd.val (s.data.toList.take k) = v at *
                go_wp2
                go_round
                case rel => exact ⟨k + 1, by go_num, by omega, by rw [HVT.out]; go_num, HV2.out, HG2.out⟩
                case measure => simp [intOf]; omega
              · have HQ : Hid (R = none) := by rw [← HR.out]; exact Rd.num_nodig (Rd.digs_no (by rw [HL.out]; exact hlt) (by rw [e1]; exact hdg))
                clear e1
                generalize Rd.val (s.data.toList.take k) = v at *
                by_cases hd2 : s[k].toNat < 48
                · go_wp2
                  go_ret2
                  exact ⟨by rw [HQ.out]; rfl, rfl⟩
                · have hd3 : 57 < s[k].toNat := by omega
                  go_wp2
                  go_ret2
                  exact ⟨by rw [HQ.out]; rfl, rfl⟩
            · obtain rfl : k = s.size := by omega
              have et : s.data.toList.take s.size = s.data.toList := List.take_of_length_le (by rw [HL.out]; exact Nat.le_refl _)
              rw [et] at hvb HG ⊢
              have HN := Lib.hid (Rd.num_dig (most := most) HNB.out HG.out)
              rw [HR.out] at HN
              clear et
              obtain ⟨v, hv⟩ : ∃ v, Rd.val s.data.toList = v := ⟨_, rfl⟩
              rw [hv] at HN hvb ⊢
              clear hv
              by_cases hmo : most < v
              · rw [if_pos hmo] at HN
                go_wp2
                go_ret2
                exact ⟨by rw [HN.out]; rfl, rfl⟩
              · rw [if_neg hmo] at HN
                go_wp2
                go_ret2
                exact ⟨by rw [HN.out]; rfl, rfl⟩
end Go.Proofs.YtalghgaadcdhhaaDoor
/- What strconv.ParseUint says of digits, against the document's number. Nothing of the program. -/
namespace Go.Proofs.YtalghgaadcdhhaaDoor.Rd

def vl (a : Nat) (l : By) : Nat := l.foldl (fun v c => 10 * v + (c.toNat - 48)) a
theorem vl_ge : ∀ (l : By) (a : Nat), a * 10 ^ l.length ≤ vl a l := by
  intro l
  induction l with
  | nil => intro a; simp [vl]
  | cons c r ih =>
    intro a
    show a * 10 ^ (r.length + 1) ≤ vl (10 * a + (c.toNat - 48)) r
    refine Nat.le_trans ?_ (ih _)
    rw [Nat.pow_succ, Nat.mul_comm (10 ^ r.length) 10, ← Nat.mul_assoc, Nat.mul_comm a 10]
    exact Nat.mul_le_mul_right _ (by omega)
theorem vl_le : ∀ (l : By) (a : Nat), a ≤ vl a l := fun l a => Nat.le_trans (Nat.le_mul_of_pos_right a (Nat.pow_pos (by omega))) (vl_ge l a)
theorem parseM_iff {M : Nat} (hM : M ≤ 65535) : ∀ (l : By) (a v : Nat), a ≤ M → (Lib.parseUintM M a l = .ok v ↔ digs l = true ∧ vl a l = v ∧ v ≤ M) := by
  intro l
  induction l with
  | nil =>
    intro a v ha
    constructor
    · intro h
      have h2 : (Lib.NumEnd.ok a : Lib.NumEnd Nat) = .ok v := h
      injection h2 with h2
      subst h2
      exact ⟨rfl, rfl, ha⟩
    · rintro ⟨_, h, _⟩
      have h2 : a = v := h
      subst h2
      rfl
  | cons c r ih =>
    intro a v ha
    rw [Lib.parseUintM]
    have hd : digs (c :: r) = ((decide (48 ≤ c.toNat) && decide (c.toNat ≤ 57)) && digs r) := rfl
    have hv : vl a (c :: r) = vl (10 * a + (c.toNat - 48)) r := rfl
    by_cases hc : 48 ≤ c.toNat ∧ c.toNat ≤ 57
    · rw [if_pos hc, if_neg (by omega), hd, hv, show a * 10 = 10 * a from by omega]
      have h9 : (decide (48 ≤ c.toNat) && decide (c.toNat ≤ 57)) = true := by simpa using hc
      rw [h9, Bool.true_and]
      by_cases hm : M < 10 * a + (c.toNat - 48)
      · rw [if_pos hm]
        constructor
        · intro h; cases h
        · rintro ⟨_, h, h2⟩
          have := vl_le r (10 * a + (c.toNat - 48))
          omega
      · rw [if_neg hm]
        exact ih _ _ (by omega)
    · rw [if_neg hc, hd]
      have h9 : (decide (48 ≤ c.toNat) && decide (c.toNat ≤ 57)) = false := by
        rw [Bool.eq_false_iff]; simpa using hc
      rw [h9]
      constructor
      · intro h; cases h
      · rintro ⟨h, _⟩; cases h
theorem parse16 {l : By} (hz : ¬ (1 < l.length ∧ l.head? = some 48)) (v : Nat) : Lib.parseUintB 16 l = .ok v ↔ num l 65535 = some v := by
  unfold Lib.parseUintB
  by_cases h0 : l = []
  · subst h0
    rw [if_pos rfl, num_bad (.inl rfl)]
    constructor <;> intro h <;> cases h
  · rw [if_neg h0, parseM_iff (M := 2 ^ 16 - 1) (by decide) l 0 v (by decide)]
    have hl0 : l.length ≠ 0 := fun e => h0 (List.eq_nil_of_length_eq_zero e)
    have hvv : vl 0 l = val l := rfl
    rw [hvv]
    by_cases hd : digs l = true
    · by_cases h12 : 12 < l.length
      · rw [num_bad (.inr (.inr h12))]
        constructor
        · rintro ⟨_, h, h2⟩
          exfalso
          match l, hl0, hz, hd, h12, h with
          | c :: r, _, hz, hd, h12, h =>
            have hc : 48 ≤ c.toNat ∧ c.toNat ≤ 57 := by
              have := List.all_eq_true.1 hd c (by simp)
              simpa using this
            have hne : c.toNat ≠ 48 := fun e => hz ⟨by omega, by simp only [List.head?_cons]; congr 1; exact UInt8.toNat_inj.1 e⟩
            have hg := vl_ge r (10 * 0 + (c.toNat - 48))
            have hval : val (c :: r) = vl (10 * 0 + (c.toNat - 48)) r := rfl
            have hp : 10 ^ 12 ≤ 10 ^ r.length := Nat.pow_le_pow_right (by omega) (by simp at h12; omega)
            have h1 : 1 * 10 ^ r.length ≤ (10 * 0 + (c.toNat - 48)) * 10 ^ r.length := Nat.mul_le_mul_right _ (by omega)
            have hq : (10 : Nat) ^ 12 = 1000000000000 := by decide
            have hq2 : (2 : Nat) ^ 16 - 1 = 65535 := by decide
            omega
        · intro h; cases h
      · rw [num_dig (by intro h; rcases h with h | h | h; exact hl0 h; exact hz h; exact h12 h) hd]
        have hq2 : (2 : Nat) ^ 16 - 1 = 65535 := by decide
        rw [hq2]
        by_cases hm : 65535 < val l
        · rw [if_pos hm]
          constructor
          · rintro ⟨_, h, h2⟩; omega
          · intro h; cases h
        · rw [if_neg hm]
          constructor
          · rintro ⟨_, h, _⟩; rw [h]
          · intro h; injection h with h; exact ⟨hd, h, by omega⟩
    · rw [num_nodig (by simpa using hd)]
      constructor
      · rintro ⟨h, _⟩; exact absurd h hd
      · intro h; cases h
theorem small_dig (c : UInt8) : (48 ≤ (Nm.small c).toNat ∧ (Nm.small c).toNat ≤ 57) ↔ (48 ≤ c.toNat ∧ c.toNat ≤ 57) := by
  rw [Nm.small_val]
  split <;> omega
theorem small_id (c : UInt8) (h : 48 ≤ c.toNat ∧ c.toNat ≤ 57) : Nm.small c = c := by
  refine UInt8.toNat_inj.1 ?_
  rw [Nm.small_val, if_neg (by omega)]
theorem num_fold (l : By) (m : Nat) : num (Nm.fold l) m = num l m := by
  have hd : digs (Nm.fold l) = digs l := by
    unfold digs Nm.fold
    rw [List.all_map]
    congr 1
    funext c
    simp only [Function.comp_apply]
    rw [Bool.eq_iff_iff]
    simpa using small_dig c
  by_cases h : digs l = true
  · have : Nm.fold l = l := by
      unfold Nm.fold
      refine (List.map_congr_left (g := id) (fun c hc => ?_)).trans (List.map_id _)
      have := List.all_eq_true.1 h c hc
      exact small_id c (by simpa using this)
    rw [this]
  · rw [num_nodig (by rw [hd]; simpa using h), num_nodig (by simpa using h)]
end Go.Proofs.YtalghgaadcdhhaaDoor.Rd
/- The document's answer on data: a text's type. -/
namespace Go.Proofs.YtalghgaadcdhhaaDoor
open Go.RowKit

theorem rd_strEq {a n : ByteArray} (h : a.data.toList = n.data.toList) : (a.toList == n.toList) = true :=
  (beq_toListBytes a n).symm.trans <| (MapKept.bytes_beq _ _).2 (by rw [string_eq (s := a) rfl, string_eq (s := n) rfl, h])
theorem rd_strNe {a n : ByteArray} (h : a.data.toList ≠ n.data.toList) : (a.toList == n.toList) = false := by
  rw [← beq_toListBytes, Bool.eq_false_iff]
  intro hb
  have := (MapKept.bytes_beq _ _).1 hb
  subst this
  exact h rfl
theorem sv_str (l : List UInt8) : ∃ s : ByteArray, sv l = .string s ∧ s.data.toList = l := ⟨⟨l.toArray⟩, rfl, rfl⟩
theorem fold_len (l : List UInt8) : (Nm.fold l).length = l.length := by simp [Nm.fold]
/-- what TypeOf answers. -/
def tyV : Option Nat → Value
  | some v => .tuple #[.int .u16 v, .bool true]
  | none => .tuple #[.int .u16 0, .bool false]
theorem Rd.num_le {s : By} {most v : Nat} (h : num s most = some v) : v ≤ most := by
  unfold num at h
  split at h
  · cases h
  · split at h
    · dsimp only at h
      split at h
      · cases h
      · injection h with h; omega
    · cases h
set_option maxHeartbeats 2000000 in
set_option maxRecDepth 100000 in
theorem rdTypeOf_any (s : ByteArray) (w : World) (hs : s.size ≤ 140737488355328) :
    Calls Tryd.prog 17 #[.string s] w fun e w' => e = .returned (tyV (Rd.tyOf s.data.toList)) ∧ Below w.heap.size w w' := by
  obtain ⟨R, hR⟩ : ∃ R, Rd.tyOf s.data.toList = R := ⟨_, rfl⟩
  rw [hR]
  have HR := Lib.hid hR
  have HLW := Lib.hid (fun W : World => Low_any s W hs)
  have HLX := Lib.hid (fun (k : Nat) (W : World) => Low_any ⟨(Rd.txt k).toArray⟩ W (by rw [mk_size]; have := Rd.txt_len k; omega))
  obtain ⟨low, hlow⟩ : ∃ low : ByteArray, (⟨(Nm.fold s.data.toList).toArray⟩ : ByteArray) = low := ⟨_, rfl⟩
  rw [hlow] at HLW
  have HLO : Hid (low.data.toList = Nm.fold s.data.toList) := by show _ = _; rw [← hlow]
  have hfl : low.size = s.size := by
    have e := congrArg List.length HLO.out
    rw [fold_len] at e
    have e1 : low.data.toList.length = low.size := by simp
    have e2 : s.data.toList.length = s.size := by simp
    omega
  have hfl1 : low.size ≤ s.size := by omega
  have hfl2 : s.size ≤ low.size := by omega
  clear hR hlow hfl
  go_enter Tryd.func17, Tryd.ntmps17
  go_wp2_with (first
    | (go_at_call 44; refine (HLW.out _).mono ?_; rintro e' w1 ⟨rfl, B1⟩; have HB1 := Lib.hid B1; have hs1 := B1.size; clear B1)
    | (go_at_call 45; refine (rdTable_any _).mono ?_; rintro e' w2 ⟨rfl, h1, h2, B2⟩; have H1 := Lib.hid h1; have H2 := Lib.hid h2; have HB := Lib.hid (HB1.out.trans (B2.mono hs1)); have hs2 := B2.size; clear h1 h2 B2))
  go_loopw [7] (fun i wr => ∃ k : Nat, i = .int .i64 k ∧ k ≤ 9 ∧ Hid (∀ j, j < k → Nm.fold s.data.toList ≠ Nm.fold (Rd.txt j)) ∧ Hid (Has wr w1.heap.size 22 tyCells) ∧ Hid (Has wr (w1.heap.size + 1) 9 txCells) ∧ Hid (Below w.heap.size w wr)) (fun i _ => 9 - (intOf i).toNat)
  case atStart => exact ⟨0, rfl, Nat.zero_le _, fun j hj => absurd hj (by omega), H1.out, H2.out, HB.out⟩
  case round =>
    obtain ⟨k, rfl, hk, HJ, H1, H2, HB⟩ := hrel
    have hsw := HB.out.size
    by_cases hk9 : k < 9
    · have c1 := tyCell H1.out hk9
      have c2 := txCell H2.out hk9
      have hty := Rd.ty_le k
      have HX := Lib.hid (HLX.out k)
      have HT : Hid (Nm.fold s.data.toList = Nm.fold (Rd.txt k) → R = some (Rd.ty k)) := fun h => by rw [← HR.out]; exact Rd.tyOf_at hk9 h
      obtain ⟨y, hy⟩ : ∃ y, Rd.ty k = y := ⟨_, rfl⟩
      obtain ⟨f, hf⟩ : ∃ f : ByteArray, (⟨(Nm.fold (Rd.txt k)).toArray⟩ : ByteArray) = f := ⟨_, rfl⟩
      obtain ⟨x, hx, hx2⟩ := sv_str (Rd.txt k)
      have HF : Hid (f.data.toList = Nm.fold (Rd.txt k)) := by show _ = _; rw [← hf]
      rw [hy] at c1 hty HT
      rw [hx] at c2
      have HX2 : Hid (∀ W : World, Calls Tryd.prog 44 #[.string x] W fun e w' => e = .returned (.string f) ∧ Below W.heap.size W w') := fun W => by
        have := HX.out W
        rw [show Value.string ⟨(Rd.txt k).toArray⟩ = .string x from hx] at this
        exact this.mono fun e w' ⟨he, hb⟩ => ⟨by rw [he, ← hf], hb⟩
      have HY := Lib.hid hy
      clear hy hx hx2 hf HX
      by_cases he : low.data.toList = f.data.toList
      · have HQ : Hid (R = some y) := HT.out (by rw [← HLO.out, he, HF.out])
        have hq := rd_strEq he
        clear he
        go_wp2_with (go_at_call 44; refine (HX2.out _).mono ?_; rintro e' w3 ⟨rfl, B3⟩; have c3 := tyCell (H1.out.below B3 H1.out.lt) hk9; rw [HY.out] at c3; have HB3 := Lib.hid (HB.out.trans (B3.mono hsw)); clear B3)
        go_ret2
        exact ⟨by rw [HQ.out]; rfl, HB3.out⟩
      · have HQ : Hid (∀ j, j < k + 1 → Nm.fold s.data.toList ≠ Nm.fold (Rd.txt j)) := fun j hj => (Nat.lt_succ_iff_lt_or_eq.1 hj).elim (HJ.out j) (fun e => by subst e; exact fun e => he (by rw [HLO.out, e, HF.out]))
        have hq := rd_strNe he
        clear he
        go_wp2_with (go_at_call 44; refine (HX2.out _).mono ?_; rintro e' w3 ⟨rfl, B3⟩; have HH1 := Lib.hid (H1.out.below B3 H1.out.lt); have HH2 := Lib.hid (H2.out.below B3 H2.out.lt); have HB3 := Lib.hid (HB.out.trans (B3.mono hsw)); clear B3)
        go_roundw
        case rel => exact ⟨k + 1, by go_num, by omega, HQ.out, HH1.out, HH2.out, HB3.out⟩
        case measure => simp [intOf]; omega
    · obtain rfl : k = 9 := by omega
      have HT := Lib.hid (Rd.tyOf_no HJ.out)
      rw [HR.out] at HT
      by_cases h4 : low.size < 4
      · have HQ : Hid (R = none) := by
          rw [HT.out, if_neg]
          · rfl
          · intro e
            have e1 := congrArg List.length e
            have e2 : low.data.toList.length = low.size := by simp
            rw [← HLO.out, List.length_take] at e1
            simp at e1
            omega
        clear HT
        go_wp2
        go_ret2
        exact ⟨by rw [HQ.out]; rfl, HB.out⟩
      · obtain ⟨b, hb⟩ : ∃ b, ((low.extract 0 4).toList == (⟨#[116, 121, 112, 101]⟩ : ByteArray).toList) = b := ⟨_, rfl⟩
        have HBB := Lib.hid hb
        have e0 : (⟨#[116, 121, 112, 101]⟩ : ByteArray).toList = [116, 121, 112, 101] := by kernel_rfl
        rw [e0] at hb
        have ex : (low.extract 0 4).data.toList = (Nm.fold s.data.toList).take 4 := by rw [extract_list, HLO.out]; rfl
        cases b with
        | true =>
          have hy : (Nm.fold s.data.toList).take 4 = [116, 121, 112, 101] := by
            rw [← ex]
            by_cases hh : (low.extract 0 4).data.toList = (⟨#[116, 121, 112, 101]⟩ : ByteArray).data.toList
            · exact hh
            · have := rd_strNe hh
              rw [HBB.out] at this; cases this
          rw [if_pos hy] at HT
          have hen := rdNumber_any (s.extract 4 s.size) 65535
          have hes : (s.extract 4 s.size).data.toList = s.data.toList.drop 4 := by rw [extract_list, List.take_of_length_le (by simp)]
          rw [hes] at hen
          have HEN := Lib.hid hen
          have hsx : (s.extract 4 s.size).size ≤ 140737488355328 := by simp; omega
          clear hes hen hy ex e0
          rcases hnum : Rd.num (s.data.toList.drop 4) 65535 with _ | v
          · rw [hnum] at HEN HT
            have HEN2 : Hid (∀ W : World, Calls Tryd.prog 46 #[.string (s.extract 4 s.size), .int .u64 65535] W fun e w' => e = .returned (.tuple #[.int .u64 0, .bool false]) ∧ W = w') := fun W => HEN.out W hsx (by omega)
            go_wp2_with (go_at_call 46; refine (HEN2.out _).mono ?_; rintro e' w5 ⟨rfl, rfl⟩)
            go_ret2
            exact ⟨by rw [HT.out]; rfl, HB.out⟩
          · have hv := Rd.num_le hnum
            rw [hnum] at HEN HT
            have HEN2 : Hid (∀ W : World, Calls Tryd.prog 46 #[.string (s.extract 4 s.size), .int .u64 65535] W fun e w' => e = .returned (.tuple #[.int .u64 v, .bool true]) ∧ W = w') := fun W => HEN.out W hsx (by omega)
            go_wp2_with (go_at_call 46; refine (HEN2.out _).mono ?_; rintro e' w5 ⟨rfl, rfl⟩)
            go_ret2
            exact ⟨by rw [HT.out]; rfl, HB.out⟩
        | false =>
          have hy : ¬ (Nm.fold s.data.toList).take 4 = [116, 121, 112, 101] := by
            rw [← ex]
            intro hh
            have := rd_strEq (a := low.extract 0 4) (n := ⟨#[116, 121, 112, 101]⟩) hh
            rw [HBB.out] at this; cases this
          rw [if_neg hy] at HT
          clear hy ex e0
          go_wp2
          go_ret2
          exact ⟨by rw [HT.out]; rfl, HB.out⟩
end Go.Proofs.YtalghgaadcdhhaaDoor
/- TypeText, and numbers that texts tell: the program's. -/
namespace Go.Proofs.YtalghgaadcdhhaaDoor
open Go.RowKit

theorem rowNum {w : World} (h : LayR w) {k : Nat} (hk : k < 9) : w.cell? ⟨0, k * 9, none⟩ = some (.int .u16 (Rd.ty k : Nat)) := by
  rw [h.cell]
  exact Rd.nine (p := fun k => rowsCells[k * 9]? = some (.int .u16 (Rd.ty k : Nat))) hk rfl rfl rfl rfl rfl rfl rfl rfl rfl
theorem rowTxt {w : World} (h : LayR w) {k : Nat} (hk : k < 9) : w.cell? ⟨0, k * 9 + 1, none⟩ = some (sv (Rd.txt k)) := by
  rw [h.cell]
  exact Rd.nine (p := fun k => rowsCells[k * 9 + 1]? = some (sv (Rd.txt k))) hk rfl rfl rfl rfl rfl rfl rfl rfl rfl
theorem small_s (s : ByteArray) (w : World) (hs : s.size ≤ 140737488355328) :
    Calls Tryd.prog 41 #[.string s] w fun e w' => e = .returned (sv (Nm.fold s.data.toList)) ∧ Below w.heap.size w w' := by
  have HF := Lib.hid (Fold_any s w hs)
  go_enter Tryd.func41, Tryd.ntmps41
  go_wp2_with (go_at_call 31; refine HF.out.mono ?_; rintro e w1 ⟨rfl, hb⟩)
  go_ret
  exact ⟨rfl, hb⟩
set_option maxHeartbeats 1000000 in
set_option maxRecDepth 100000 in
theorem TypeText_any (t : Nat) (w : World) (ht : t ≤ 65535) (hL : LayA w) :
    Calls Tryd.prog 18 #[.int .u16 t] w fun e w' => e = .returned (sv (Rd.tyText t)) ∧ Below w.heap.size w w' := by
  obtain ⟨R, hR⟩ : ∃ R, Rd.tyText t = R := ⟨_, rfl⟩
  rw [hR]
  have HRES := Lib.hid hR
  clear hR
  have HL := Lib.hid hL
  have HIT := Lib.hid (fun W (h : LayP W) => itoa_any t W (by omega) h)
  clear hL
  go_enter Tryd.func18, Tryd.ntmps18
  go_wp2
  go_loop [4] (fun i => ∃ k : Nat, i = .int .i64 k ∧ k ≤ 9 ∧ Hid (∀ j, j < k → Rd.ty j ≠ t)) (fun i => 9 - (intOf i).toNat)
  case atStart => exact ⟨0, rfl, by omega, fun j hj => absurd hj (by omega)⟩
  case round =>
    obtain ⟨k, rfl, hk, HJ⟩ := hrel
    by_cases hlt : k < 9
    · have c0 := rowNum HL.out.1 hlt
      have c1 := rowTxt HL.out.1 hlt
      have ha : (0 : Nat) = 0 := rfl
      by_cases he : Rd.ty k = t
      · have hr : R = Rd.txt k := by rw [← HRES.out, ← he, Rd.tyText_at hlt]
        have HR2 := Lib.hid hr
        clear hr
        rw [he] at c0
        generalize Rd.txt k = x at *
        clear he
        go_wp2
        go_ret
        exact ⟨by rw [HR2.out]; rfl, Below.refl _ _⟩
      · have hb : (((Rd.ty k : Nat) : Int) == (t : Int)) = false := beq_eq_false_iff_ne.2 (by omega)
        have hne := Lib.hid he
        clear he
        go_wp2
        go_round
        case rel => exact ⟨k + 1, by go_num, by omega, fun j hj => (Nat.lt_succ_iff_lt_or_eq.1 hj).elim (HJ.out j) (fun e => by subst e; exact hne.out)⟩
        case measure => simp [intOf]; omega
    · obtain rfl : k = 9 := by omega
      have hr : R = [84, 89, 80, 69] ++ Rd.dec t := by rw [← HRES.out]; exact Rd.tyText_no HJ.out
      have HR2 := Lib.hid hr
      clear hr
      have hdl : (Rd.dec t).length ≤ 65536 := by have := Rd.dec_len t; omega
      go_wp2_with (go_at_call 47; refine (HIT.out _ HL.out.2.1).mono ?_; rintro e w1 ⟨rfl, hb⟩)
      go_ret
      exact ⟨by rw [HR2.out, ← sv_cat]; rfl, hb⟩
/-- what number answers. -/
def uintV (o : Option Nat) : Value := match o with
  | some v => .tuple #[.int .u32 v, .bool true]
  | none => .tuple #[.int .u32 0, .bool false]
set_option maxRecDepth 100000 in
theorem parse16_ok (s : ByteArray) (w : World) (hs : s.size ≤ 140737488355328) (hz : ¬ (1 < s.data.toList.length ∧ s.data.toList.head? = some 48)) {v : Nat} (h : Rd.num s.data.toList 65535 = some v) :
    Calls Tryd.prog 76 #[.string s, .int .i64 10, .int .i64 16] w fun e w' => e = .returned (.tuple #[.int .u64 v, .nilIface]) ∧ Below w.heap.size w w' := by
  refine (Tryd.strconv_ParseUint_10_at16_ok s (by omega) v ((Rd.parse16 hz v).2 h) w).mono ?_
  rintro e w' ⟨rfl, rfl | rfl⟩
  · exact ⟨rfl, Below.refl _ _⟩
  · exact ⟨rfl, bytesWorld_below _ _ _⟩
set_option maxRecDepth 100000 in
theorem parse16_no (s : ByteArray) (w : World) (hL : Lay w) (hs : s.size ≤ 140737488355328) (hz : ¬ (1 < s.data.toList.length ∧ s.data.toList.head? = some 48)) (h : Rd.num s.data.toList 65535 = none) :
    Calls Tryd.prog 76 #[.string s, .int .i64 10, .int .i64 16] w fun e w' => ∃ x t a, e = .returned (.tuple #[.int .u64 x, .iface t (.pointer (some a))]) ∧ Below w.heap.size w w' := by
  obtain ⟨⟨t1, p1, h1⟩, t2, p2, h2⟩ := hL
  have hno : ∀ v, Lib.parseUintB 16 s.data.toList ≠ .ok v := fun v hv => by
    have := (Rd.parse16 hz v).1 hv
    rw [h] at this; cases this
  cases hp : Lib.parseUintB 16 s.data.toList with
  | ok v => exact absurd hp (hno v)
  | «syntax» =>
    refine (Tryd.strconv_ParseUint_10_at16_syntax s (by omega) hp _ w h1 (.inr ⟨_, _, rfl⟩)).mono ?_
    rintro e w' ⟨N, rfl, _, _, hb⟩
    exact ⟨_, _, _, rfl, hb⟩
  | range =>
    refine (Tryd.strconv_ParseUint_10_at16_range s (by omega) hp _ w h2 (.inr ⟨_, _, rfl⟩)).mono ?_
    rintro e w' ⟨N, rfl, _, _, hb⟩
    exact ⟨_, _, _, rfl, hb⟩
set_option maxHeartbeats 1000000 in
set_option maxRecDepth 100000 in
theorem number16_any (s : ByteArray) (w : World) (hL : Lay w) (hs : s.size ≤ 140737488355328) :
    Calls Tryd.prog 43 #[.string s, .int .i64 16] w fun e w' => e = .returned (uintV (Rd.num s.data.toList 65535)) ∧ Below w.heap.size w w' := by
  have hl : s.data.toList.length = s.size := by simp
  have key : ∀ (hz : ¬ (1 < s.data.toList.length ∧ s.data.toList.head? = some 48)), (∃ v, v ≤ 65535 ∧ Rd.num s.data.toList 65535 = some v ∧ Calls Tryd.prog 76 #[.string s, .int .i64 10, .int .i64 16] w fun e w' => e = .returned (.tuple #[.int .u64 v, .nilIface]) ∧ Below w.heap.size w w') ∨
      (Rd.num s.data.toList 65535 = none ∧ Calls Tryd.prog 76 #[.string s, .int .i64 10, .int .i64 16] w fun e w' => ∃ x t a, e = .returned (.tuple #[.int .u64 x, .iface t (.pointer (some a))]) ∧ Below w.heap.size w w') := fun hz => by
    cases h : Rd.num s.data.toList 65535 with
    | some v => exact .inl ⟨v, Rd.num_le h, rfl, parse16_ok s w hs hz h⟩
    | none => exact .inr ⟨rfl, parse16_no s w hL hs hz h⟩
  by_cases h1 : 1 < s.size
  · have h0s : 0 < s.size := by clear hl key; omega
    have hd := Rd.head_of (s := s) h0s
    have hi1 : (1 : Int) < (s.size : Int) := by omega
    by_cases h48 : (s[0]'h0s).toNat = 48
    · have hn : Rd.num s.data.toList 65535 = none := Rd.num_bad (.inr (.inl ⟨by omega, by rw [hd]; congr 1; exact UInt8.toNat_inj.1 h48⟩))
      have HN := Lib.hid hn
      have hb : (((s[0]'h0s).toNat : Int) == 48) = true := by rw [h48]; rfl
      clear hn hd key hl h48
      go_enter Tryd.func43, Tryd.ntmps43
      go_wp2
      go_ret2
      exact ⟨by rw [HN.out]; rfl, Below.refl _ _⟩
    · have hz : ¬ (1 < s.data.toList.length ∧ s.data.toList.head? = some 48) := fun ⟨_, e⟩ => h48 (by rw [hd] at e; injection e with e; rw [e]; rfl)
      have hb : (((s[0]'h0s).toNat : Int) == 48) = false := beq_eq_false_iff_ne.2 (by omega)
      rcases key hz with ⟨v, hv, hn, hc⟩ | ⟨hn, hc⟩
      · have HN := Lib.hid hn
        have HC := Lib.hid hc
        clear hn hc hd key hl h48 hz
        go_enter Tryd.func43, Tryd.ntmps43
        go_wp2_with (go_at_call 76; refine HC.out.mono ?_; rintro e w1 ⟨rfl, hB⟩)
        go_ret2
        exact ⟨by rw [HN.out]; rfl, hB⟩
      · have HN := Lib.hid hn
        have HC := Lib.hid hc
        clear hn hc hd key hl h48 hz
        go_enter Tryd.func43, Tryd.ntmps43
        go_wp2_with (go_at_call 76; refine HC.out.mono ?_; rintro e w1 ⟨x, ty, a, rfl, hB⟩)
        go_ret2
        exact ⟨by rw [HN.out]; rfl, hB⟩
  · have hz : ¬ (1 < s.data.toList.length ∧ s.data.toList.head? = some 48) := fun ⟨e, _⟩ => h1 (by omega)
    rcases key hz with ⟨v, hv, hn, hc⟩ | ⟨hn, hc⟩
    · have HN := Lib.hid hn
      have HC := Lib.hid hc
      clear hn hc key hl hz
      go_enter Tryd.func43, Tryd.ntmps43
      go_wp2_with (go_at_call 76; refine HC.out.mono ?_; rintro e w1 ⟨rfl, hB⟩)
      go_ret2
      exact ⟨by rw [HN.out]; rfl, hB⟩
    · have HN := Lib.hid hn
      have HC := Lib.hid hc
      clear hn hc key hl hz
      go_enter Tryd.func43, Tryd.ntmps43
      go_wp2_with (go_at_call 76; refine HC.out.mono ?_; rintro e w1 ⟨x, ty, a, rfl, hB⟩)
      go_ret2
      exact ⟨by rw [HN.out]; rfl, hB⟩
end Go.Proofs.YtalghgaadcdhhaaDoor
/- TypeOf: the program's. -/
namespace Go.Proofs.YtalghgaadcdhhaaDoor
open Go.RowKit

theorem uintV_form (o : Option Nat) : ∃ (v : Nat) (b : Bool), uintV o = .tuple #[.int .u32 v, .bool b] ∧ (o = none → v = 0 ∧ b = false) ∧ (∀ x, o = some x → v = x ∧ b = true) := by
  cases o with
  | none => exact ⟨0, false, rfl, fun _ => ⟨rfl, rfl⟩, fun x h => by cases h⟩
  | some v => exact ⟨v, true, rfl, fun h => (by cases h), fun x h => by cases h; exact ⟨rfl, rfl⟩⟩
theorem pre4 (l : List UInt8) : Lib.hasPrefix l [116, 121, 112, 101] = true ↔ l.take 4 = [116, 121, 112, 101] := by
  unfold Lib.hasPrefix
  rw [List.isPrefixOf_iff_prefix, List.prefix_iff_eq_take]
  exact ⟨fun h => h.symm, fun h => h.symm⟩
theorem fold_drop4 (l : List UInt8) : (Nm.fold l).drop 4 = Nm.fold (l.drop 4) := by simp [Nm.fold, List.map_drop]
set_option maxHeartbeats 4000000 in
set_option maxRecDepth 100000 in
theorem TypeOf_any (s : ByteArray) (w : World) (hL : LayA w) (hE : Lay w) (hs : s.size ≤ 140737488355328) :
    Calls Tryd.prog 16 #[.string s] w fun e w' => e = .returned (tyV (Rd.tyOf s.data.toList)) ∧ Below w.heap.size w w' := by
  obtain ⟨R, hR⟩ : ∃ R, Rd.tyOf s.data.toList = R := ⟨_, rfl⟩
  rw [hR]
  have HR := Lib.hid hR
  have HL := Lib.hid hL
  have HE := Lib.hid hE
  have HS := Lib.hid (fun (W : World) => small_s s W hs)
  have HX := Lib.hid (fun (k : Nat) (W : World) => small_s ⟨(Rd.txt k).toArray⟩ W (by rw [mk_size]; have := Rd.txt_len k; omega))
  obtain ⟨low, hlow⟩ : ∃ low : ByteArray, (⟨(Nm.fold s.data.toList).toArray⟩ : ByteArray) = low := ⟨_, rfl⟩
  have HLO : Hid (low.data.toList = Nm.fold s.data.toList) := by show _ = _; rw [← hlow]
  have hfl : low.size = s.size := by
    have e := congrArg List.length HLO.out
    rw [fold_len] at e
    have e1 : low.data.toList.length = low.size := by simp
    have e2 : s.data.toList.length = s.size := by simp
    omega
  have hls : low.size ≤ 140737488355328 := by omega
  have e0 : sv (Nm.fold s.data.toList) = .string low := by rw [← hlow]
  rw [e0] at HS
  clear hR hlow hL hE e0 hfl
  go_enter Tryd.func16, Tryd.ntmps16
  go_wp2_with (go_at_call 41; refine (HS.out _).mono ?_; rintro e w1 ⟨rfl, B1⟩; have HB1 := Lib.hid B1; clear B1)
  go_loopw [12] (fun i wr => ∃ k : Nat, i = .int .i64 k ∧ k ≤ 9 ∧ Hid (∀ j, j < k → Nm.fold s.data.toList ≠ Nm.fold (Rd.txt j)) ∧ Hid (Below w.heap.size w wr)) (fun i _ => 9 - (intOf i).toNat)
  case atStart => exact ⟨0, rfl, by omega, fun j hj => absurd hj (by omega), HB1.out⟩
  case round =>
    obtain ⟨k, rfl, hk, HJ, HB⟩ := hrel
    have hbs := HB.out.size
    by_cases hlt : k < 9
    · have hla := HL.out.below HB.out (Nat.le_refl _)
      have c0 := rowNum hla.1 hlt
      have c1 := rowTxt hla.1 hlt
      have HTX := Lib.hid (HX.out k)
      obtain ⟨x, hx1, hx2⟩ := sv_str (Nm.fold (Rd.txt k))
      obtain ⟨y, hy1, hy2⟩ := sv_str (Rd.txt k)
      have hyy : (⟨(Rd.txt k).toArray⟩ : ByteArray) = y := by injection hy1
      rw [hyy] at HTX
      rw [← hy2] at HTX
      rw [hy1] at c1
      have hxx : sv (Nm.fold y.data.toList) = .string x := by rw [hy2, hx1]
      rw [show (sv (Nm.fold y.data.toList)) = .string x from hxx] at HTX
      have htk := @Rd.tyOf_at k s.data.toList hlt
      have HTK := Lib.hid htk
      have hty := Rd.ty_le k
      have HX2 := Lib.hid hx2
      clear hx1 hx2 hy1 hy2 hyy hxx htk hla
      generalize hyt : Rd.ty k = ty at *
      have HYT := Lib.hid hyt
      clear hyt
      by_cases he : x.data.toList = low.data.toList
      · have hb := rd_strEq he
        have HQ : Hid (R = some ty) := by rw [← HR.out]; exact HTK.out (by rw [← HLO.out, ← he, HX2.out])
        clear he
        go_wp2_with (go_at_call 41; refine (HTX.out _).mono ?_; rintro e w2 ⟨rfl, B2⟩; have HB2 := Lib.hid (HB.out.trans (B2.mono hbs)); have hlb := HL.out.below HB2.out (Nat.le_refl _); have d0 := rowNum hlb.1 hlt; rw [HYT.out] at d0; clear hlb B2)
        go_ret2
        exact ⟨by rw [HQ.out]; rfl, HB2.out⟩
      · have hb := rd_strNe he
        have HNE : Hid (Nm.fold s.data.toList ≠ Nm.fold (Rd.txt k)) := fun e => he (by rw [HLO.out, e, HX2.out])
        clear he
        go_wp2_with (go_at_call 41; refine (HTX.out _).mono ?_; rintro e w2 ⟨rfl, B2⟩; have HB2 := Lib.hid (HB.out.trans (B2.mono hbs)); clear B2)
        go_roundw
        case rel => exact ⟨k + 1, by go_num, by omega, fun j hj => (Nat.lt_succ_iff_lt_or_eq.1 hj).elim (HJ.out j) (fun e => by subst e; exact HNE.out), HB2.out⟩
        case measure => simp [intOf]; omega
    · obtain rfl : k = 9 := by omega
      have ht := Rd.tyOf_no HJ.out
      rw [HR.out] at ht
      have HT := Lib.hid ht
      clear ht
      have HCP := Lib.hid (fun (W : World) => Tryd.strings_CutPrefix low ⟨#[116, 121, 112, 101]⟩ W)
      obtain ⟨dg, hdg⟩ : ∃ dg : ByteArray, (⟨(Lib.trimPrefix low.data.toList (⟨#[116, 121, 112, 101]⟩ : ByteArray).data.toList).toArray⟩ : ByteArray) = dg := ⟨_, rfl⟩
      have hdl : dg.data.toList = Lib.trimPrefix low.data.toList [116, 121, 112, 101] := by rw [← hdg]
      have hds : dg.size ≤ 140737488355328 := by
        have e1 : dg.data.toList.length = dg.size := by simp
        have e2 : low.data.toList.length = low.size := by simp
        rw [hdl] at e1
        unfold Lib.trimPrefix at e1
        split at e1
        · rw [List.length_drop] at e1; omega
        · omega
      obtain ⟨b, hb⟩ : ∃ b, Lib.hasPrefix low.data.toList (⟨#[116, 121, 112, 101]⟩ : ByteArray).data.toList = b := ⟨_, rfl⟩
      rw [hdg, hb] at HCP
      obtain ⟨v, ok, hv, hv0, hv1⟩ := uintV_form (Rd.num dg.data.toList 65535)
      have HNU := Lib.hid (fun (W : World) (h : Lay W) => number16_any dg W h hds)
      rw [hv] at HNU
      have hb4 : Lib.hasPrefix low.data.toList [116, 121, 112, 101] = b := hb
      have hE2 := Lib.hid (HE.out.below HB.out HE.out.size)
      cases b with
      | false =>
        have hy : ¬ (Nm.fold s.data.toList).take 4 = [116, 121, 112, 101] := by
          rw [← HLO.out, ← pre4, hb4]; simp
        have hq : R = none := by rw [HT.out, if_neg hy]
        have HQ := Lib.hid hq
        clear hy hb4 hv hv0 hv1 hdl hdg hb hq
        cases ok
        all_goals
          (go_wp2_with (first
            | (go_at_call 42; refine (HCP.out _).mono ?_; rintro e w2 ⟨rfl, rfl⟩)
            | (go_at_call 43; refine (HNU.out _ hE2.out).mono ?_; rintro e w3 ⟨rfl, B3⟩))
           go_ret2
           exact ⟨by rw [HQ.out]; rfl, HB.out.trans (B3.mono hbs)⟩)
      | true =>
        have hy : (Nm.fold s.data.toList).take 4 = [116, 121, 112, 101] := by
          rw [← HLO.out, ← pre4, hb4]
        have hdd : Rd.num dg.data.toList 65535 = Rd.num (s.data.toList.drop 4) 65535 := by
          rw [hdl]
          unfold Lib.trimPrefix
          rw [hb4, if_pos rfl, HLO.out]
          show Rd.num ((Nm.fold s.data.toList).drop 4) 65535 = _
          rw [fold_drop4, Rd.num_fold]
        have hq : R = Rd.num dg.data.toList 65535 := by rw [HT.out, if_pos hy, hdd]
        cases hn : Rd.num dg.data.toList 65535 with
        | none =>
          obtain ⟨rfl, rfl⟩ := hv0 hn
          rw [hn] at hq
          have HQ := Lib.hid hq
          clear hy hb4 hv hv0 hv1 hdl hdg hb hdd hq hn
          go_wp2_with (first
            | (go_at_call 42; refine (HCP.out _).mono ?_; rintro e w2 ⟨rfl, rfl⟩)
            | (go_at_call 43; refine (HNU.out _ hE2.out).mono ?_; rintro e w3 ⟨rfl, B3⟩))
          go_ret2
          exact ⟨by rw [HQ.out]; rfl, HB.out.trans (B3.mono hbs)⟩
        | some z =>
          obtain ⟨rfl, rfl⟩ := hv1 z hn
          have hz := Rd.num_le hn
          rw [hn] at hq
          have HQ := Lib.hid hq
          clear hy hb4 hv hv0 hv1 hdl hdg hb hdd hq hn
          go_wp2_with (first
            | (go_at_call 42; refine (HCP.out _).mono ?_; rintro e w2 ⟨rfl, rfl⟩)
            | (go_at_call 43; refine (HNU.out _ hE2.out).mono ?_; rintro e w3 ⟨rfl, B3⟩))
          go_ret2
          exact ⟨by rw [HQ.out]; rfl, HB.out.trans (B3.mono hbs)⟩
end Go.Proofs.YtalghgaadcdhhaaDoor
/- A number's digits tell the number; a type's text the type. Nothing of the program. -/
namespace Go.Proofs.YtalghgaadcdhhaaDoor.Rd

theorem dg_nat {d : Nat} (h : d < 10) : (UInt8.ofNat (48 + d)).toNat = 48 + d := by
  rw [UInt8.toNat_ofNat']
  omega
theorem dec_digs (n : Nat) : digs (dec n) = true := by
  induction n using Nat.strongRecOn with
  | ind n ih =>
    by_cases h : n < 10
    · rw [dec_small h]
      show ((decide (48 ≤ (UInt8.ofNat (48 + n)).toNat) && decide ((UInt8.ofNat (48 + n)).toNat ≤ 57)) && true) = true
      rw [dg_nat h]
      simp; omega
    · rw [dec_more h, digs_snoc, ih _ (by omega), dg_nat (Nat.mod_lt _ (by omega))]
      simp; omega
theorem dec_val (n : Nat) : val (dec n) = n := by
  induction n using Nat.strongRecOn with
  | ind n ih =>
    by_cases h : n < 10
    · rw [dec_small h]
      show 10 * 0 + ((UInt8.ofNat (48 + n)).toNat - 48) = n
      rw [dg_nat h]; omega
    · rw [dec_more h, val_snoc, ih _ (by omega), dg_nat (Nat.mod_lt _ (by omega))]
      omega
theorem dec_ne (n : Nat) : dec n ≠ [] := by
  by_cases h : n < 10
  · rw [dec_small h]; simp
  · rw [dec_more h]; simp
theorem dec_head (n : Nat) (h0 : n ≠ 0) : (dec n).head? ≠ some 48 := by
  induction n using Nat.strongRecOn with
  | ind n ih =>
    by_cases h : n < 10
    · rw [dec_small h]
      intro e
      simp only [List.head?_cons] at e
      injection e with e
      have := congrArg UInt8.toNat e
      rw [dg_nat h] at this
      have h48 : (48 : UInt8).toNat = 48 := rfl
      omega
    · rw [dec_more h]
      have := ih (n / 10) (by omega) (by omega)
      have hne := dec_ne (n / 10)
      match hd : dec (n / 10), hne with
      | a :: r, _ =>
        rw [hd] at this
        simpa using this
theorem dec_short (k : Nat) : ∀ n, n < 10 ^ (k + 1) → (dec n).length ≤ k + 1 := by
  induction k with
  | zero =>
    intro n h
    rw [dec_small (by simpa using h)]; simp
  | succ k ih =>
    intro n h
    by_cases h10 : n < 10
    · rw [dec_small h10]; simp
    · rw [dec_more h10]
      have := ih (n / 10) (by rw [Nat.pow_succ] at h; exact Nat.div_lt_of_lt_mul (by omega))
      simp
      omega
theorem num_dec {n m : Nat} (hn : n ≤ m) (hm : m ≤ 4294967295) : num (dec n) m = some n := by
  have hs := dec_short 9 n (by have : (10 : Nat) ^ (9 + 1) = 10000000000 := by decide
                               omega)
  rw [num_dig ?_ (dec_digs n), dec_val, if_neg (by omega)]
  rintro (h | ⟨h1, h2⟩ | h)
  · exact dec_ne n (List.eq_nil_of_length_eq_zero h)
  · by_cases h0 : n = 0
    · subst h0
      rw [dec_small (by omega)] at h1
      simp at h1
    · exact dec_head n h0 h2
  · omega
theorem tyText_len (t : Nat) : (tyText t).length ≤ t + 10 := by
  by_cases h : ∃ k, k < 9 ∧ ty k = t
  · obtain ⟨k, hk, rfl⟩ := h
    rw [tyText_at hk]
    have := txt_len k
    omega
  · rw [tyText_no (fun j hj e => h ⟨j, hj, e⟩), List.length_append]
    have := dec_len t
    simp
    omega
/-- a type's text tells the type. -/
theorem tyBack (t : Nat) (ht : t ≤ 65535) : tyOf (tyText t) = some t := by
  by_cases h : ∃ k, k < 9 ∧ ty k = t
  · obtain ⟨k, hk, rfl⟩ := h
    rw [tyText_at hk, tyOf_at hk rfl]
  · have hno : ∀ j, j < 9 → ty j ≠ t := fun j hj e => h ⟨j, hj, e⟩
    rw [tyText_no hno]
    have hf : Nm.fold ([84, 89, 80, 69] ++ dec t) = [116, 121, 112, 101] ++ Nm.fold (dec t) := by
      unfold Nm.fold; rw [List.map_append]; rfl
    have hne : 5 ≤ (Nm.fold ([84, 89, 80, 69] ++ dec t)).length := by
      have hp : 0 < (dec t).length := List.length_pos_iff.2 (dec_ne t)
      simp [Nm.fold]; omega
    rw [tyOf_no (fun j hj e => ?_), hf, if_pos (by simp)]
    · show num (dec t) 65535 = some t
      exact num_dec ht (by omega)
    · rw [hf] at e
      refine nine (p := fun j => ¬ ([116, 121, 112, 101] ++ Nm.fold (dec t) = Nm.fold (txt j))) hj ?_ ?_ ?_ ?_ ?_ ?_ ?_ ?_ ?_ e
      all_goals
        intro e2
        have e3 := congrArg List.head? e2
        have e4 := congrArg List.length e2
        have hp : 0 < (dec t).length := List.length_pos_iff.2 (dec_ne t)
        have l1 : ([116, 121, 112, 101] ++ Nm.fold (dec t)).length = 4 + (dec t).length := by rw [List.length_append]; simp [Nm.fold]
        rw [l1] at e4
        first
          | (have l2 : ∀ m, 4 + (dec t).length = m → m ≤ 4 → False := fun m h1 h2 => by omega
             exact l2 _ e4 (by decide))
          | exact absurd (show (some (116 : UInt8)) = some 99 from e3) (by decide)
end Go.Proofs.YtalghgaadcdhhaaDoor.Rd
