/- Texts of the proofs, merged. -/
import Derived.Test.YtopcklpmeaghmaaGreatDoorG5
import Derived.Lib.ParseIntB
import Derived.Test.YtopcklpmeaghmaaGreatDoorG6
import Derived.Test.YtopcklpmeaghmaaGreatDoorG8
import Derived.Test.YtopcklpmeaghmaaGreatDoorG3
import Derived.Test.YtopcklpmeaghmaaGreatDoorShelf
import Derived.Lib.AppendIntMem
import Derived.Test.YtopcklpmeaghmaaGreatDoorG7
/- The document's answer on data: types' texts. -/
namespace Go.Proofs.YtopcklpmeaghmaaGreatDoor
open Go.RowKit

theorem sv_cat (a b : List UInt8) : Value.string ((⟨a.toArray⟩ : ByteArray) ++ ⟨b.toArray⟩) = sv (a ++ b) := by
  show Value.string _ = Value.string _
  congr 1
theorem one_bs (w : World) (t : TypeId) (k : Nat) (hk : k < 256) (z : Int) (hz : z = k) : Bs (w.alloc (.cells #[.int .u8 z] t)) w.heap.size (w.heap.size + 1) (some ⟨w.heap.size, 0, none⟩) [UInt8.ofNat k] := by
  subst hz
  refine Has.bs (Has.fresh w t _) (by omega) (fun j hj => ?_)
  obtain rfl : j = 0 := by simp at hj; omega
  simp
  omega
namespace Rd
def ty : Nat → Nat
  | 0 => 1
  | 1 => 2
  | 2 => 5
  | 3 => 6
  | 4 => 12
  | 5 => 15
  | 6 => 16
  | 7 => 28
  | _ => 33
def txt : Nat → By
  | 0 => [65]
  | 1 => [78, 83]
  | 2 => [67, 78, 65, 77, 69]
  | 3 => [83, 79, 65]
  | 4 => [80, 84, 82]
  | 5 => [77, 88]
  | 6 => [84, 88, 84]
  | 7 => [65, 65, 65, 65]
  | _ => [83, 82, 86]
theorem nine {p : Nat → Prop} {k : Nat} (hk : k < 9) (h0 : p 0) (h1 : p 1) (h2 : p 2) (h3 : p 3) (h4 : p 4) (h5 : p 5) (h6 : p 6) (h7 : p 7) (h8 : p 8) : p k := by
  match k, hk with
  | 0, _ => exact h0
  | 1, _ => exact h1
  | 2, _ => exact h2
  | 3, _ => exact h3
  | 4, _ => exact h4
  | 5, _ => exact h5
  | 6, _ => exact h6
  | 7, _ => exact h7
  | 8, _ => exact h8
theorem ty_le (k : Nat) : ty k ≤ 33 := by unfold ty; split <;> omega
theorem txt_len (k : Nat) : (txt k).length ≤ 5 := by unfold txt; split <;> simp
theorem tyText_at {k : Nat} (hk : k < 9) : tyText (ty k) = txt k := nine (p := fun k => tyText (ty k) = txt k) hk rfl rfl rfl rfl rfl rfl rfl rfl rfl
theorem tyText_no {t : Nat} (h : ∀ j, j < 9 → ty j ≠ t) : tyText t = [84, 89, 80, 69] ++ dec t := by
  have k0 : (1 == t) = false := beq_eq_false_iff_ne.2 (h 0 (by omega))
  have k1 : (2 == t) = false := beq_eq_false_iff_ne.2 (h 1 (by omega))
  have k2 : (5 == t) = false := beq_eq_false_iff_ne.2 (h 2 (by omega))
  have k3 : (6 == t) = false := beq_eq_false_iff_ne.2 (h 3 (by omega))
  have k4 : (12 == t) = false := beq_eq_false_iff_ne.2 (h 4 (by omega))
  have k5 : (15 == t) = false := beq_eq_false_iff_ne.2 (h 5 (by omega))
  have k6 : (16 == t) = false := beq_eq_false_iff_ne.2 (h 6 (by omega))
  have k7 : (28 == t) = false := beq_eq_false_iff_ne.2 (h 7 (by omega))
  have k8 : (33 == t) = false := beq_eq_false_iff_ne.2 (h 8 (by omega))
  unfold tyText tyTab
  simp only [List.find?, k0, k1, k2, k3, k4, k5, k6, k7, k8]
theorem tyOf_at {k : Nat} {s : By} (hk : k < 9) (h : Nm.fold s = Nm.fold (txt k)) : tyOf s = some (ty k) := by
  unfold tyOf
  rw [h]
  exact nine (p := fun k => (match tyTab.find? (fun x => Nm.fold x.2 == Nm.fold (txt k)) with | some x => some x.1 | none => if (Nm.fold (txt k)).take 4 = [116, 121, 112, 101] then num (s.drop 4) 65535 else none) = some (ty k)) hk rfl rfl rfl rfl rfl rfl rfl rfl rfl
theorem tyOf_no {s : By} (h : ∀ j, j < 9 → Nm.fold s ≠ Nm.fold (txt j)) : tyOf s = if (Nm.fold s).take 4 = [116, 121, 112, 101] then num (s.drop 4) 65535 else none := by
  have k0 : (Nm.fold [65] == Nm.fold s) = false := beq_eq_false_iff_ne.2 (fun e => h 0 (by omega) e.symm)
  have k1 : (Nm.fold [78, 83] == Nm.fold s) = false := beq_eq_false_iff_ne.2 (fun e => h 1 (by omega) e.symm)
  have k2 : (Nm.fold [67, 78, 65, 77, 69] == Nm.fold s) = false := beq_eq_false_iff_ne.2 (fun e => h 2 (by omega) e.symm)
  have k3 : (Nm.fold [83, 79, 65] == Nm.fold s) = false := beq_eq_false_iff_ne.2 (fun e => h 3 (by omega) e.symm)
  have k4 : (Nm.fold [80, 84, 82] == Nm.fold s) = false := beq_eq_false_iff_ne.2 (fun e => h 4 (by omega) e.symm)
  have k5 : (Nm.fold [77, 88] == Nm.fold s) = false := beq_eq_false_iff_ne.2 (fun e => h 5 (by omega) e.symm)
  have k6 : (Nm.fold [84, 88, 84] == Nm.fold s) = false := beq_eq_false_iff_ne.2 (fun e => h 6 (by omega) e.symm)
  have k7 : (Nm.fold [65, 65, 65, 65] == Nm.fold s) = false := beq_eq_false_iff_ne.2 (fun e => h 7 (by omega) e.symm)
  have k8 : (Nm.fold [83, 82, 86] == Nm.fold s) = false := beq_eq_false_iff_ne.2 (fun e => h 8 (by omega) e.symm)
  unfold tyOf tyTab
  simp only [List.find?, k0, k1, k2, k3, k4, k5, k6, k7, k8]
end Rd
def tyCells : Array Value := #[.int .u16 1, .int .u16 2, .int .u16 5, .int .u16 6, .int .u16 12, .int .u16 15, .int .u16 16, .int .u16 28, .int .u16 33]
def txCells : Array Value := #[.string ⟨#[65]⟩, .string ⟨#[78, 83]⟩, .string ⟨#[67, 78, 65, 77, 69]⟩, .string ⟨#[83, 79, 65]⟩, .string ⟨#[80, 84, 82]⟩, .string ⟨#[77, 88]⟩, .string ⟨#[84, 88, 84]⟩, .string ⟨#[65, 65, 65, 65]⟩, .string ⟨#[83, 82, 86]⟩]
theorem tyCell {W : World} {g k : Nat} {t : TypeId} (h : Has W g t tyCells) (hk : k < 9) : W.cell? ⟨g, k, none⟩ = some (.int .u16 (Rd.ty k : Nat)) := by
  rw [h.cell]
  exact Rd.nine (p := fun k => tyCells[k]? = some (.int .u16 (Rd.ty k : Nat))) hk rfl rfl rfl rfl rfl rfl rfl rfl rfl
theorem txCell {W : World} {g k : Nat} {t : TypeId} (h : Has W g t txCells) (hk : k < 9) : W.cell? ⟨g, k, none⟩ = some (sv (Rd.txt k)) := by
  rw [h.cell]
  exact Rd.nine (p := fun k => txCells[k]? = some (sv (Rd.txt k))) hk rfl rfl rfl rfl rfl rfl rfl rfl rfl
end Go.Proofs.YtopcklpmeaghmaaGreatDoor
/- The document's answer on data: a number that a text tells, a type's number. -/
namespace Go.Proofs.YtopcklpmeaghmaaGreatDoor
open Go.RowKit

namespace Rd
def val (l : By) : Nat := l.foldl (fun v c => 10 * v + (c.toNat - 48)) 0
theorem val_snoc (l : By) (c : UInt8) : val (l ++ [c]) = 10 * val l + (c.toNat - 48) := by unfold val; rw [List.foldl_append]; rfl
def digs (l : By) : Bool := l.all (fun c => decide (48 ≤ c.toNat) && decide (c.toNat ≤ 57))
theorem digs_snoc (l : By) (c : UInt8) : digs (l ++ [c]) = (digs l && (decide (48 ≤ c.toNat) && decide (c.toNat ≤ 57))) := by unfold digs; rw [List.all_append]; simp
theorem val_take {s : By} {k : Nat} (hk : k < s.length) : val (s.take (k + 1)) = 10 * val (s.take k) + ((s[k]'hk).toNat - 48) := by
  rw [List.take_add_one, List.getElem?_eq_getElem hk]
  exact val_snoc _ _
theorem digs_take {s : By} {k : Nat} (hk : k < s.length) : digs (s.take (k + 1)) = (digs (s.take k) && (decide (48 ≤ (s[k]'hk).toNat) && decide ((s[k]'hk).toNat ≤ 57))) := by
  rw [List.take_add_one, List.getElem?_eq_getElem hk]
  exact digs_snoc _ _
theorem digs_no {s : By} {k : Nat} (hk : k < s.length) (h : ¬ (48 ≤ (s[k]'hk).toNat ∧ (s[k]'hk).toNat ≤ 57)) : digs s = false := by
  cases hd : digs s with
  | false => rfl
  | true =>
    have := List.all_eq_true.1 hd _ (List.getElem_mem hk)
    simp only [Bool.and_eq_true, decide_eq_true_eq] at this
    exact absurd this h
theorem num_bad {s : By} {most : Nat} (h : s.length = 0 ∨ (1 < s.length ∧ s.head? = some 48) ∨ 12 < s.length) : num s most = none := by unfold num; rw [if_pos h]
theorem num_nodig {s : By} {most : Nat} (h : digs s = false) : num s most = none := by
  unfold num
  split
  · rfl
  · unfold digs at h
    rw [h]; rfl
theorem num_dig {s : By} {most : Nat} (h0 : ¬ (s.length = 0 ∨ (1 < s.length ∧ s.head? = some 48) ∨ 12 < s.length)) (h : digs s = true) : num s most = if most < val s then none else some (val s) := by
  unfold num
  rw [if_neg h0]
  unfold digs at h
  rw [h]
  rfl
theorem head_of {s : ByteArray} (h : 0 < s.size) : s.data.toList.head? = some s[0] := by
  rw [rd_cons_of s h]; rfl
end Rd
/-- what Number answers. -/
def numV : Option Nat → Value
  | some v => .tuple #[.int .u64 v, .bool true]
  | none => .tuple #[.int .u64 0, .bool false]
end Go.Proofs.YtopcklpmeaghmaaGreatDoor
/- What strconv.ParseUint says of digits, against the document's number. Nothing of the program. -/
namespace Go.Proofs.YtopcklpmeaghmaaGreatDoor.Rd

def vl (a : Nat) (l : By) : Nat := l.foldl (fun v c => 10 * v + (c.toNat - 48)) a
theorem vl_ge : ∀ (l : By) (a : Nat), a * 10 ^ l.length ≤ vl a l := by
  intro l
  induction l with
  | nil => intro a; simp [vl]
  | cons c r ih =>
    intro a
    show a * 10 ^ (r.length + 1) ≤ vl (10 * a + (c.toNat - 48)) r
    refine Nat.le_trans ?_ (ih _)
    rw [Nat.pow_succ, Nat.mul_comm (10 ^ r.length) 10, ← Nat.mul_assoc, Nat.mul_comm a 10]
    exact Nat.mul_le_mul_right _ (by omega)
theorem vl_le : ∀ (l : By) (a : Nat), a ≤ vl a l := fun l a => Nat.le_trans (Nat.le_mul_of_pos_right a (Nat.pow_pos (by omega))) (vl_ge l a)
theorem parseM_iff {M : Nat} (hM : M ≤ 65535) : ∀ (l : By) (a v : Nat), a ≤ M → (Lib.parseUintM M a l = .ok v ↔ digs l = true ∧ vl a l = v ∧ v ≤ M) := by
  intro l
  induction l with
  | nil =>
    intro a v ha
    constructor
    · intro h
      have h2 : (Lib.NumEnd.ok a : Lib.NumEnd Nat) = .ok v := h
      injection h2 with h2
      subst h2
      exact ⟨rfl, rfl, ha⟩
    · rintro ⟨_, h, _⟩
      have h2 : a = v := h
      subst h2
      rfl
  | cons c r ih =>
    intro a v ha
    rw [Lib.parseUintM]
    have hd : digs (c :: r) = ((decide (48 ≤ c.toNat) && decide (c.toNat ≤ 57)) && digs r) := rfl
    have hv : vl a (c :: r) = vl (10 * a + (c.toNat - 48)) r := rfl
    by_cases hc : 48 ≤ c.toNat ∧ c.toNat ≤ 57
    · rw [if_pos hc, if_neg (by omega), hd, hv, show a * 10 = 10 * a from by omega]
      have h9 : (decide (48 ≤ c.toNat) && decide (c.toNat ≤ 57)) = true := by simpa using hc
      rw [h9, Bool.true_and]
      by_cases hm : M < 10 * a + (c.toNat - 48)
      · rw [if_pos hm]
        constructor
        · intro h; cases h
        · rintro ⟨_, h, h2⟩
          have := vl_le r (10 * a + (c.toNat - 48))
          omega
      · rw [if_neg hm]
        exact ih _ _ (by omega)
    · rw [if_neg hc, hd]
      have h9 : (decide (48 ≤ c.toNat) && decide (c.toNat ≤ 57)) = false := by
        rw [Bool.eq_false_iff]; simpa using hc
      rw [h9]
      constructor
      · intro h; cases h
      · rintro ⟨h, _⟩; cases h
theorem parse16 {l : By} (hz : ¬ (1 < l.length ∧ l.head? = some 48)) (v : Nat) : Lib.parseUintB 16 l = .ok v ↔ num l 65535 = some v := by
  unfold Lib.parseUintB
  by_cases h0 : l = []
  · subst h0
    rw [if_pos rfl, num_bad (.inl rfl)]
    constructor <;> intro h <;> cases h
  · rw [if_neg h0, parseM_iff (M := 2 ^ 16 - 1) (by decide) l 0 v (by decide)]
    have hl0 : l.length ≠ 0 := fun e => h0 (List.eq_nil_of_length_eq_zero e)
    have hvv : vl 0 l = val l := rfl
    rw [hvv]
    by_cases hd : digs l = true
    · by_cases h12 : 12 < l.length
      · rw [num_bad (.inr (.inr h12))]
        constructor
        · rintro ⟨_, h, h2⟩
          exfalso
          match l, hl0, hz, hd, h12, h with
          | c :: r, _, hz, hd, h12, h =>
            have hc : 48 ≤ c.toNat ∧ c.toNat ≤ 57 := by
              have := List.all_eq_true.1 hd c (by simp)
              simpa using this
            have hne : c.toNat ≠ 48 := fun e => hz ⟨by omega, by simp only [List.head?_cons]; congr 1; exact UInt8.toNat_inj.1 e⟩
            have hg := vl_ge r (10 * 0 + (c.toNat - 48))
            have hval : val (c :: r) = vl (10 * 0 + (c.toNat - 48)) r := rfl
            have hp : 10 ^ 12 ≤ 10 ^ r.length := Nat.pow_le_pow_right (by omega) (by simp at h12; omega)
            have h1 : 1 * 10 ^ r.length ≤ (10 * 0 + (c.toNat - 48)) * 10 ^ r.length := Nat.mul_le_mul_right _ (by omega)
            have hq : (10 : Nat) ^ 12 = 1000000000000 := by decide
            have hq2 : (2 : Nat) ^ 16 - 1 = 65535 := by decide
            omega
        · intro h; cases h
      · rw [num_dig (by intro h; rcases h with h | h | h; exact hl0 h; exact hz h; exact h12 h) hd]
        have hq2 : (2 : Nat) ^ 16 - 1 = 65535 := by decide
        rw [hq2]
        by_cases hm : 65535 < val l
        · rw [if_pos hm]
          constructor
          · rintro ⟨_, h, h2⟩; omega
          · intro h; cases h
        · rw [if_neg hm]
          constructor
          · rintro ⟨_, h, _⟩; rw [h]
          · intro h; injection h with h; exact ⟨hd, h, by omega⟩
    · rw [num_nodig (by simpa using hd)]
      constructor
      · rintro ⟨h, _⟩; exact absurd h hd
      · intro h; cases h
theorem small_dig (c : UInt8) : (48 ≤ (Nm.small c).toNat ∧ (Nm.small c).toNat ≤ 57) ↔ (48 ≤ c.toNat ∧ c.toNat ≤ 57) := by
  rw [Nm.small_val]
  split <;> omega
theorem small_id (c : UInt8) (h : 48 ≤ c.toNat ∧ c.toNat ≤ 57) : Nm.small c = c := by
  refine UInt8.toNat_inj.1 ?_
  rw [Nm.small_val, if_neg (by omega)]
theorem num_fold (l : By) (m : Nat) : num (Nm.fold l) m = num l m := by
  have hd : digs (Nm.fold l) = digs l := by
    unfold digs Nm.fold
    rw [List.all_map]
    congr 1
    funext c
    simp only [Function.comp_apply]
    rw [Bool.eq_iff_iff]
    simpa using small_dig c
  by_cases h : digs l = true
  · have : Nm.fold l = l := by
      unfold Nm.fold
      refine (List.map_congr_left (g := id) (fun c hc => ?_)).trans (List.map_id _)
      have := List.all_eq_true.1 h c hc
      exact small_id c (by simpa using this)
    rw [this]
  · rw [num_nodig (by rw [hd]; simpa using h), num_nodig (by simpa using h)]
end Go.Proofs.YtopcklpmeaghmaaGreatDoor.Rd
/- What strconv.ParseUint says of digits that tell a number of at most 32 bits. Nothing of the program. -/
namespace Go.Proofs.YtopcklpmeaghmaaGreatDoor.Rd

theorem parseM_ok {M : Nat} (hM : M ≤ 4294967295) : ∀ (l : By) (a : Nat), a ≤ M → digs l = true → vl a l ≤ M → Lib.parseUintM M a l = .ok (vl a l) := by
  intro l
  induction l with
  | nil => intro a ha _ _; rfl
  | cons c r ih =>
    intro a ha hd hv
    have hd2 : ((decide (48 ≤ c.toNat) && decide (c.toNat ≤ 57)) && digs r) = true := hd
    have hv2 : vl (10 * a + (c.toNat - 48)) r ≤ M := hv
    rw [Bool.and_eq_true, Bool.and_eq_true, decide_eq_true_eq, decide_eq_true_eq] at hd2
    obtain ⟨hc, hr⟩ := hd2
    have hle := vl_le r (10 * a + (c.toNat - 48))
    rw [Lib.parseUintM, if_pos hc, if_neg (by omega), show a * 10 = 10 * a from by omega, if_neg (by omega)]
    exact ih _ (by omega) hr hv2
theorem parse_ok {B : Nat} {l : By} {v : Nat} (hB : 2 ^ B - 1 ≤ 4294967295) (h : num l (2 ^ B - 1) = some v) : Lib.parseUintB B l = .ok v := by
  have h0 : ¬ (l.length = 0 ∨ (1 < l.length ∧ l.head? = some 48) ∨ 12 < l.length) := fun hb => by rw [num_bad hb] at h; cases h
  have hd : digs l = true := by
    cases hd : digs l with
    | true => rfl
    | false => rw [num_nodig hd] at h; cases h
  have hm : val l ≤ 2 ^ B - 1 ∧ val l = v := by
    rw [num_dig h0 hd] at h
    by_cases hm : 2 ^ B - 1 < val l
    · rw [if_pos hm] at h; cases h
    · rw [if_neg hm] at h
      injection h with h
      exact ⟨by omega, h⟩
  have hl : l ≠ [] := fun e => h0 (.inl (by rw [e]; rfl))
  have hvv : vl 0 l = val l := rfl
  unfold Lib.parseUintB
  rw [if_neg hl, parseM_ok hB l 0 (by omega) hd (by rw [hvv]; exact hm.1), hvv, hm.2]
theorem num_nz {l : By} {m v : Nat} (h : num l m = some v) : ¬ (1 < l.length ∧ l.head? = some 48) := fun hb => by rw [num_bad (.inr (.inl hb))] at h; cases h
end Go.Proofs.YtopcklpmeaghmaaGreatDoor.Rd
/- What the parts of data are told by: words. Nothing of the program. -/
namespace Go.Proofs.YtopcklpmeaghmaaGreatDoor.Rd

/-- the words of one part; X: what bytes are told by. -/
def pcs (d : Dt) (X : Nat → List By) (n p : Nat) : List By :=
  if 1 ≤ p ∧ p ≤ 4 then X p
  else if p = 5 ∨ p = 6 then [Nm.text d.host] else if p = 7 then [Nm.text d.mail]
  else if p = 8 ∨ p = 9 then [dec (hasN d n)] else []
/-- the words of all parts of a list. -/
def wds (d : Dt) (X : Nat → List By) (ps : List Nat) : List By × Nat :=
  ps.foldl (fun s p => (s.1 ++ pcs d X s.2 p, s.2 + if p = 8 ∨ p = 9 then 1 else 0)) ([], 0)
theorem wds_n (d : Dt) (X : Nat → List By) (ps : List Nat) : (wds d X ps).2 = nums ps := by
  unfold wds
  suffices H : ∀ (ps : List Nat) (s : List By × Nat), (ps.foldl (fun s p => (s.1 ++ pcs d X s.2 p, s.2 + if p = 8 ∨ p = 9 then 1 else 0)) s).2 = s.2 + nums ps from by rw [H]; simp
  intro ps
  induction ps with
  | nil => intro s; rfl
  | cons p r ih =>
    intro s
    rw [List.foldl_cons, ih]
    have e : nums (p :: r) = (if p = 8 ∨ p = 9 then 1 else 0) + nums r := by
      unfold nums
      by_cases h : p = 8 ∨ p = 9
      · rw [if_pos h, List.filter_cons_of_pos (by simpa using h), List.length_cons]; omega
      · rw [if_neg h, List.filter_cons_of_neg (by simpa using h)]; omega
    rw [e]; simp only; omega
theorem wds_snoc (d : Dt) (X : Nat → List By) (ps : List Nat) (p : Nat) : (wds d X (ps ++ [p])).1 = (wds d X ps).1 ++ pcs d X (nums ps) p := by
  have e := wds_n d X ps
  unfold wds at e ⊢
  rw [List.foldl_append, List.foldl_cons, List.foldl_nil, e]
theorem pcs_raw {d : Dt} {X : Nat → List By} {n p : Nat} (h1 : 1 ≤ p) (h4 : p ≤ 4) : pcs d X n p = X p := by unfold pcs; rw [if_pos ⟨h1, h4⟩]
theorem pcs_len {d : Dt} {X : Nat → List By} {n p : Nat} {m : Nat} (hX : ∀ p, (X p).length ≤ m) : (pcs d X n p).length ≤ m + 1 := by
  unfold pcs
  have := hX p
  split
  · omega
  split
  · simp
  split
  · simp
  split
  · simp
  · simp
end Go.Proofs.YtopcklpmeaghmaaGreatDoor.Rd
/- Numbers as digits: strconv.FormatUint, strconv.Itoa. -/
namespace Go.Proofs.YtopcklpmeaghmaaGreatDoor
open Go.RowKit Go.Sort Go.Lib

/-- the table of the powers of ten is as its initialiser lays it. -/
def LayP (w : World) : Prop := ∃ t, Has w 1 t ((Lib.pow10Tab.map fun z => Value.int .u64 z).toArray)
theorem LayP.below {w w' : World} {B : Nat} (h : LayP w) (hb : Below B w w') (hB : w.heap.size ≤ B) : LayP w' := h.elim fun t h => ⟨t, h.below hb (Nat.lt_of_lt_of_le h.lt hB)⟩
theorem LayP.tab {w : World} (h : LayP w) : Lib.TabIs Tryz.prog w "internal/strconv.uint64pow10" .u64 Lib.pow10Tab := by
  obtain ⟨t, h⟩ := h
  have hg : Tryz.prog.globalNamed "internal/strconv.uint64pow10" = some 1 := by kernel_rfl
  unfold Lib.TabIs World.var?
  rw [hg]
  simp only [Option.bind_some]
  rw [show w.heap[(1 : Nat)]? = _ from h]
theorem decDigits_dec (u : Nat) : Lib.decDigits u = Rd.dec u := by
  induction u using Nat.strongRecOn with
  | ind u ih =>
    rw [Lib.decDigits, Rd.dec]
    by_cases h : u < 10
    · rw [dif_pos h, if_pos h]
    · rw [dif_neg h, if_neg h, ih _ (by omega)]
set_option maxHeartbeats 1000000 in
set_option maxRecDepth 100000 in
theorem fmtU10_any (u : Nat) (w : World) (hu64 : u < 18446744073709551616) (hL : LayP w) :
    Calls Tryz.prog 30 #[.int .u64 u, .int .i64 10] w fun e w' => e = .returned (sv (Rd.dec u)) ∧ Below w.heap.size w w' := by
  unfold sv
  rw [← decDigits_dec]
  by_cases hs : u < 100
  · go_enter Tryz.func30, Tryz.ntmps30
    go_wp2_with (go_at_call 60; refine (Tryz.internal_strconv_small u hs _).mono ?_; rintro e w' ⟨rfl, rfl⟩)
    go_ret
    exact ⟨rfl, Below.refl _ _⟩
  · have hu1 : 1 ≤ u := by omega
    have hnd20 : Lib.nDigits u ≤ 20 := by have := Lib.numDigits_eq u hu1 hu64; split at this <;> omega
    have hb3 : Lib.nDigits u ≤ 24 := by omega
    have htab := Lib.hid hL.tab
    have hal : Tryz.prog.arrayLen 105 = 24 := by kernel_rfl
    have hsl1 : ∀ W, (Instr.sliceAt 105 (.pointer (some ⟨w.heap.size, 0, none⟩)) none (some (.int .i64 (Lib.nDigits u : Int))) none).run Tryz.prog W = .ok (.slice (some ⟨w.heap.size, 0, none⟩) (Lib.nDigits u) 24) W := fun W => by
      rw [run_sliceAt_array_h W 105 ⟨w.heap.size, 0, none⟩ (by kernel_rfl) .i64 (Lib.nDigits u : Int) (by omega) (by rw [hal]; omega)]
      go_simp
    have hH0 := Lib.holds_zero0 w 105 (Lib.nDigits u) (by omega)
    have hfmt := Tryz.internal_strconv_formatBase10 w.heap.size 0 24 u (Array.replicate (Lib.nDigits u) 0) (w.alloc (.cells Lib.zeros24 105)) hH0 (by rw [Array.size_replicate]; exact Lib.lt_pow_nDigits u) hu64 (by rw [Array.size_replicate]; omega)
    rw [Array.size_replicate] at hfmt
    have HH0 := Lib.hid hH0
    have HFM := Lib.hid hfmt
    have iu : (100 : Int) ≤ (u : Int) := by omega
    clear hH0 hal hfmt hL
    go_enter Tryz.func30, Tryz.ntmps30
    go_wp2_with (first
      | (go_at_call 61; refine (Tryz.internal_strconv_numDigits u hu1 hu64 _ (Lib.tabIs_alloc htab.out _)).mono ?_; rintro e w' ⟨rfl, rfl⟩))
    go_at_call 62
    refine HFM.out.mono ?_
    rintro e w' ⟨rfl, k, v', dk, rfl, hF⟩
    have hcv : (convert 48 9 (.slice (some ⟨w.heap.size, 0, none⟩) (Lib.nDigits u) 24)).run Tryz.prog ((putRow (fun (b : UInt8) => Value.int .u8 (b.toNat : Int)) (w.alloc (.cells Lib.zeros24 105)) w.heap.size 0 dk).drewN k) = .ok (.string ⟨(Lib.decDigits u).toArray⟩) ((putRow (fun (b : UInt8) => Value.int .u8 (b.toNat : Int)) (w.alloc (.cells Lib.zeros24 105)) w.heap.size 0 dk).drewN k) := by
      have h := run_convert_bytes_back (P := Tryz.prog) ((putRow (fun (b : UInt8) => Value.int .u8 (b.toNat : Int)) (w.alloc (.cells Lib.zeros24 105)) w.heap.size 0 dk).drewN k) 48 9 5 ⟨w.heap.size, 0, none⟩ 24 (Lib.decDigits u) Tryz.underlying48 Tryz.underlying5 Tryz.underlying9 (fun j hj => by
        rw [Lib.row_is_numeral hF j hj, Lib.add_plain, World.cell?_drewN]
        exact cell?_putRow (fun (b : UInt8) => Value.int .u8 (b.toNat : Int)) _ w.heap.size 0 _ dk HH0.out (by rw [hF.size, Array.size_replicate]) j (by rw [hF.size]; rw [Lib.decDigits_length] at hj; exact hj))
      rw [Lib.decDigits_length] at h
      exact h
    obtain ⟨os, eo⟩ := Lib.fin_at w (.cells Lib.zeros24 105) dk k 0
    have HEO := Lib.hid eo
    clear eo
    go_wp2
    go_ret
    exact ⟨rfl, by rw [HEO.out]; exact Lib.below_grow _ w (Nat.le_refl _) k os⟩
set_option maxRecDepth 100000 in
theorem fmtU_any (u : Nat) (w : World) (hu64 : u < 18446744073709551616) (hL : LayP w) :
    Calls Tryz.prog 15 #[.int .u64 u, .int .i64 10] w fun e w' => e = .returned (sv (Rd.dec u)) ∧ Below w.heap.size w w' := by
  obtain ⟨v, hv⟩ : ∃ v, sv (Rd.dec u) = v := ⟨_, rfl⟩
  have HC := fmtU10_any u w hu64 hL
  rw [hv] at HC ⊢
  obtain ⟨U, hU⟩ : ∃ U : Int, ((u : Nat) : Int) = U := ⟨_, rfl⟩
  rw [hU] at HC ⊢
  have HH := Lib.hid HC
  clear HC hU hv hu64
  go_enter Tryz.func15, Tryz.ntmps15
  go_wp2_with (go_at_call 30; refine HH.out.mono ?_; rintro e w1 ⟨rfl, hb⟩)
  go_ret
  exact ⟨rfl, hb⟩
theorem itoa_any (u : Nat) (w : World) (hu : u ≤ 4294967295) (hL : LayP w) :
    Calls Tryz.prog 25 #[.int .i64 u] w fun e w' => e = .returned (sv (Rd.dec u)) ∧ Below w.heap.size w w' :=
  (Tryz.strconv_Itoa u (by omega) (by omega) w hL.tab).mono fun e w' ⟨he, k, os, hw⟩ => ⟨by rw [he, Lib.itoa_nonneg, decDigits_dec], by rw [hw]; exact Lib.below_grow _ w (Nat.le_refl _) k os⟩
end Go.Proofs.YtopcklpmeaghmaaGreatDoor
/- A part at its place in the table's row. -/
namespace Go.Proofs.YtopcklpmeaghmaaGreatDoor
open Go.RowKit

set_option maxRecDepth 100000 in
theorem part_run (a b c d e f g : Int) (k : Nat) (hk : k < 7) (W : World) : (Instr.index 40 (.agg #[.int .u8 a, .int .u8 b, .int .u8 c, .int .u8 d, .int .u8 e, .int .u8 f, .int .u8 g]) (.int .i64 (k : Nat))).run Tryz.prog W = .ok (([.int .u8 a, .int .u8 b, .int .u8 c, .int .u8 d, .int .u8 e, .int .u8 f, .int .u8 g] : List Value)[k]) W := by
  rcases (by omega : k = 0 ∨ k = 1 ∨ k = 2 ∨ k = 3 ∨ k = 4 ∨ k = 5 ∨ k = 6) with rfl | rfl | rfl | rfl | rfl | rfl | rfl <;> rfl
theorem part_at {t k : Nat} (h : k < (Rd.parts t).length) (W : World) : (Instr.index 40 (.agg (partC t)) (.int .i64 (k : Nat))).run Tryz.prog W = .ok (.int .u8 ((Rd.parts t)[k] : Nat)) W := by
  have h7 := Rd.parts_len t
  unfold partC
  generalize Rd.parts t = l at *
  match l, h7, h with
  | [a, b, c, d, e, f, g], _, h =>
    refine (part_run a b c d e f g k h W).trans ?_
    have h' : k < 7 := h
    rcases (by omega : k = 0 ∨ k = 1 ∨ k = 2 ∨ k = 3 ∨ k = 4 ∨ k = 5 ∨ k = 6) with rfl | rfl | rfl | rfl | rfl | rfl | rfl <;> rfl
end Go.Proofs.YtopcklpmeaghmaaGreatDoor
/- Of, and the labels of a name put into a row. -/
namespace Go.Proofs.YtopcklpmeaghmaaGreatDoor
open Go.RowKit Go.Lib

/-- the first label that may not be. -/
def badL (l : List UInt8) : Bool := !Nm.good l
def ofR (ls : List (List UInt8)) : Value := if ls.any badL then .tuple #[.string ⟨#[]⟩, .int .i64 10] else nameR ls

set_option maxHeartbeats 1000000 in
set_option maxRecDepth 100000 in
theorem addName_any (w : World) (g B : Nat) (ls ps : List (List UInt8)) (s : ByteArray) (h : RowIs w g B ls) (hB : B ≤ g) (hs : s.size ≤ 140737488355328) (hn : Nm.split s.data.toList = some ps) :
    Calls Tryz.prog 120 #[.pointer (some ⟨g, 0, none⟩), .string s] w fun e w' => e = .returned (.tuple #[]) ∧ Below B w w' ∧ RowIs w' g B (ls ++ ps) := by
  have hlo : labelsOf s.data.toList = ps := by unfold labelsOf; rw [hn]; rfl
  have HL := Lib.hid (Labels_any s w hs)
  rw [hlo] at HL
  have HR := Lib.hid h
  have HN := Lib.hid hn
  clear h hn hlo
  go_enter Tryz.func120, Tryz.ntmps120
  go_wp2_with (first | (go_at_call 29; refine HL.out.mono ?_; rintro e w1 ⟨v, rfl, hown, hb⟩; obtain ⟨ad, cp, rfl⟩ := own_form hown))
  have hr1 : RowIs w1 g B ls := HR.out.below hb (Nat.le_refl _)
  have hbB : B ≤ w.heap.size := Nat.le_trans hB (Nat.le_of_lt HR.out.lt)
  have hB1 : Below B w w1 := hb.mono hbB
  have HR1 := Lib.hid hr1
  have HO1 := Lib.hid hown
  have hpl := few HN.out
  have HGP := Lib.hid (Nm.split_some.1 HN.out).2.1
  clear hr1 hown hb
  go_loopw [9] (fun i wr => ∃ k : Nat, i = .int .i64 k ∧ k ≤ ps.length ∧ RowIs wr g B (ls ++ ps.take k) ∧ wr.ownsRow w.heap.size 9 1 (.slice ad ps.length cp) ps.length (svs ps) ∧ Below B w wr) (fun i _ => ps.length - (RowKit.intOf i).toNat)
  case atStart => exact ⟨0, rfl, Nat.zero_le _, by simpa using HR1.out, HO1.out, hB1⟩
  case round =>
    obtain ⟨k, rfl, hk, hrow, hown, hbw⟩ := hrel
    have HW := Lib.hid hrow
    have HO := Lib.hid hown
    have HB := Lib.hid hbw
    clear hrow hown hbw hB1 HR1 HO1
    by_cases hlt : k < ps.length
    · obtain ⟨g', rfl, hcap, ca⟩ := own_at HO.out hlt
      have hc : wr.cell? ⟨g', k, none⟩ = some (sv ps[k]) := ca k _ (by simp [svs, hlt])
      have hgl := HGP.out ps[k] (List.getElem_mem hlt)
      have hts : ps.take (k + 1) = ps.take k ++ [ps[k]] := List.take_succ_eq_append_getElem hlt
      have HTS := Lib.hid hts
      clear ca hts
      generalize ps[k] = l at *
      go_wp2_with (first | (go_at_call 133; refine (add_ok _ g B _ l HW.out hB hgl).mono ?_; rintro e w2 ⟨rfl, hb2, ht2, hr2⟩))
      go_roundw
      case rel =>
        refine ⟨k + 1, by go_num, by omega, by rw [HTS.out, ← List.append_assoc]; exact hr2, ?_, HB.out.trans hb2⟩
        obtain ⟨v, bs, hH, _⟩ := HW.out
        exact own_typed HO.out ht2 hH
      case measure => simp [RowKit.intOf]; omega
    · obtain rfl : k = ps.length := by omega
      go_wp2
      go_end0
      exact ⟨rfl, HB.out, by have := HW.out; rwa [List.take_length] at this⟩
end Go.Proofs.YtopcklpmeaghmaaGreatDoor
