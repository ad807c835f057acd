/- Texts of the proofs, merged. -/
import Derived.Test.YtgcaephfhfkjcaaGreatDoorZh17
import Derived.Lib.ParseIntB
import Derived.Test.YtgcaephfhfkjcaaGreatDoorZh14
import Derived.Test.YtgcaephfhfkjcaaGreatDoorZh5
import Derived.Deep.RegionHeld3
import Derived.Calls
import Derived.Below
import Derived.Deep.Draws
import Derived.Sort.Grow
import Derived.Test.YtgcaephfhfkjcaaGreatDoorZh4
import Derived.Deep.MidRow
import Derived.Laws.CopyRow
import Derived.Shelf.SlSortCmp.NoneTotal
import Derived.Test.YtgcaephfhfkjcaaGreatDoorZh6
import Derived.Test.YtgcaephfhfkjcaaGreatDoorZh8
import Derived.Test.YtgcaephfhfkjcaaGreatDoorZh9
import Derived.BigQuiet
import Derived.Shelf.Strings.Builder1
import Derived.Test.YtgcaephfhfkjcaaGreatDoorProg
import Derived.Great.BuildSlice
import Derived.Test.YtgcaephfhfkjcaaGreatDoorZh1
namespace Go.Proofs.YtgcaephfhfkjcaaGreatDoor.Rd

def vl (a : Nat) (l : By) : Nat := l.foldl (fun v c => 10 * v + (c.toNat - 48)) a
theorem vl_ge : ∀ (l : By) (a : Nat), a * 10 ^ l.length ≤ vl a l := by
  intro l
  induction l with
  | nil => intro a; simp [vl]
  | cons c r ih =>
    intro a
    show a * 10 ^ (r.length + 1) ≤ vl (10 * a + (c.toNat - 48)) r
    refine Nat.le_trans ?_ (ih _)
    rw [Nat.pow_succ, Nat.mul_comm (10 ^ r.length) 10, ← Nat.mul_assoc, Nat.mul_comm a 10]
    exact Nat.mul_le_mul_right _ (by omega)
theorem vl_le : ∀ (l : By) (a : Nat), a ≤ vl a l := fun l a => Nat.le_trans (Nat.le_mul_of_pos_right a (Nat.pow_pos (by omega))) (vl_ge l a)
theorem parseM_iff {M : Nat} (hM : M ≤ 65535) : ∀ (l : By) (a v : Nat), a ≤ M → (Lib.parseUintM M a l = .ok v ↔ digs l = true ∧ vl a l = v ∧ v ≤ M) := by
  intro l
  induction l with
  | nil =>
    intro a v ha
    constructor
    · intro h
      have h2 : (Lib.NumEnd.ok a : Lib.NumEnd Nat) = .ok v := h
      injection h2 with h2
      subst h2
      exact ⟨rfl, rfl, ha⟩
    · rintro ⟨_, h, _⟩
      have h2 : a = v := h
      subst h2
      rfl
  | cons c r ih =>
    intro a v ha
    rw [Lib.parseUintM]
    have hd : digs (c :: r) = ((decide (48 ≤ c.toNat) && decide (c.toNat ≤ 57)) && digs r) := rfl
    have hv : vl a (c :: r) = vl (10 * a + (c.toNat - 48)) r := rfl
    by_cases hc : 48 ≤ c.toNat ∧ c.toNat ≤ 57
    · rw [if_pos hc, if_neg (by omega), hd, hv, show a * 10 = 10 * a from by omega]
      have h9 : (decide (48 ≤ c.toNat) && decide (c.toNat ≤ 57)) = true := by simpa using hc
      rw [h9, Bool.true_and]
      by_cases hm : M < 10 * a + (c.toNat - 48)
      · rw [if_pos hm]
        constructor
        · intro h; cases h
        · rintro ⟨_, h, h2⟩
          have := vl_le r (10 * a + (c.toNat - 48))
          omega
      · rw [if_neg hm]
        exact ih _ _ (by omega)
    · rw [if_neg hc, hd]
      have h9 : (decide (48 ≤ c.toNat) && decide (c.toNat ≤ 57)) = false := by
        rw [Bool.eq_false_iff]; simpa using hc
      rw [h9]
      constructor
      · intro h; cases h
      · rintro ⟨h, _⟩; cases h
theorem parse16 {l : By} (hz : ¬ (1 < l.length ∧ l.head? = some 48)) (v : Nat) : Lib.parseUintB 16 l = .ok v ↔ num l 65535 = some v := by
  unfold Lib.parseUintB
  by_cases h0 : l = []
  · subst h0
    rw [if_pos rfl, num_bad (.inl rfl)]
    constructor <;> intro h <;> cases h
  · rw [if_neg h0, parseM_iff (M := 2 ^ 16 - 1) (by decide) l 0 v (by decide)]
    have hl0 : l.length ≠ 0 := fun e => h0 (List.eq_nil_of_length_eq_zero e)
    have hvv : vl 0 l = val l := rfl
    rw [hvv]
    by_cases hd : digs l = true
    · by_cases h12 : 12 < l.length
      · rw [num_bad (.inr (.inr h12))]
        constructor
        · rintro ⟨_, h, h2⟩
          exfalso
          match l, hl0, hz, hd, h12, h with
          | c :: r, _, hz, hd, h12, h =>
            have hc : 48 ≤ c.toNat ∧ c.toNat ≤ 57 := by
              have := List.all_eq_true.1 hd c (by simp)
              simpa using this
            have hne : c.toNat ≠ 48 := fun e => hz ⟨by omega, by simp only [List.head?_cons]; congr 1; exact UInt8.toNat_inj.1 e⟩
            have hg := vl_ge r (10 * 0 + (c.toNat - 48))
            have hval : val (c :: r) = vl (10 * 0 + (c.toNat - 48)) r := rfl
            have hp : 10 ^ 12 ≤ 10 ^ r.length := Nat.pow_le_pow_right (by omega) (by simp at h12; omega)
            have h1 : 1 * 10 ^ r.length ≤ (10 * 0 + (c.toNat - 48)) * 10 ^ r.length := Nat.mul_le_mul_right _ (by omega)
            have hq : (10 : Nat) ^ 12 = 1000000000000 := by decide
            have hq2 : (2 : Nat) ^ 16 - 1 = 65535 := by decide
            omega
        · intro h; cases h
      · rw [num_dig (by intro h; rcases h with h | h | h; exact hl0 h; exact hz h; exact h12 h) hd]
        have hq2 : (2 : Nat) ^ 16 - 1 = 65535 := by decide
        rw [hq2]
        by_cases hm : 65535 < val l
        · rw [if_pos hm]
          constructor
          · rintro ⟨_, h, h2⟩; omega
          · intro h; cases h
        · rw [if_neg hm]
          constructor
          · rintro ⟨_, h, _⟩; rw [h]
          · intro h; injection h with h; exact ⟨hd, h, by omega⟩
    · rw [num_nodig (by simpa using hd)]
      constructor
      · rintro ⟨h, _⟩; exact absurd h hd
      · intro h; cases h
theorem small_dig (c : UInt8) : (48 ≤ (Nm.small c).toNat ∧ (Nm.small c).toNat ≤ 57) ↔ (48 ≤ c.toNat ∧ c.toNat ≤ 57) := by
  rw [Nm.small_val]
  split <;> omega
theorem small_id (c : UInt8) (h : 48 ≤ c.toNat ∧ c.toNat ≤ 57) : Nm.small c = c := by
  refine UInt8.toNat_inj.1 ?_
  rw [Nm.small_val, if_neg (by omega)]
theorem num_fold (l : By) (m : Nat) : num (Nm.fold l) m = num l m := by
  have hd : digs (Nm.fold l) = digs l := by
    unfold digs Nm.fold
    rw [List.all_map]
    congr 1
    funext c
    simp only [Function.comp_apply]
    rw [Bool.eq_iff_iff]
    simpa using small_dig c
  by_cases h : digs l = true
  · have : Nm.fold l = l := by
      unfold Nm.fold
      refine (List.map_congr_left (g := id) (fun c hc => ?_)).trans (List.map_id _)
      have := List.all_eq_true.1 h c hc
      exact small_id c (by simpa using this)
    rw [this]
  · rw [num_nodig (by rw [hd]; simpa using h), num_nodig (by simpa using h)]
end Go.Proofs.YtgcaephfhfkjcaaGreatDoor.Rd
namespace Go.Proofs.YtgcaephfhfkjcaaGreatDoor
open Go.RowKit

theorem rd_strEq {a n : ByteArray} (h : a.data.toList = n.data.toList) : (a.toList == n.toList) = true :=
  (beq_toListBytes a n).symm.trans <| (MapKept.bytes_beq _ _).2 (by rw [string_eq (s := a) rfl, string_eq (s := n) rfl, h])
theorem rd_strNe {a n : ByteArray} (h : a.data.toList ≠ n.data.toList) : (a.toList == n.toList) = false := by
  rw [← beq_toListBytes, Bool.eq_false_iff]
  intro hb
  have := (MapKept.bytes_beq _ _).1 hb
  subst this
  exact h rfl
theorem sv_str (l : List UInt8) : ∃ s : ByteArray, sv l = .string s ∧ s.data.toList = l := ⟨⟨l.toArray⟩, rfl, rfl⟩
theorem fold_len (l : List UInt8) : (Nm.fold l).length = l.length := by simp [Nm.fold]
/-- what TypeOf answers. -/
def tyV : Option Nat → Value
  | some v => .tuple #[.int .u16 v, .bool true]
  | none => .tuple #[.int .u16 0, .bool false]
theorem Rd.num_le {s : By} {most v : Nat} (h : num s most = some v) : v ≤ most := by
  unfold num at h
  split at h
  · cases h
  · split at h
    · dsimp only at h
      split at h
      · cases h
      · injection h with h; omega
    · cases h
end Go.Proofs.YtgcaephfhfkjcaaGreatDoor
namespace Go.Proofs.YtgcaephfhfkjcaaGreatDoor
open Go.RowKit

theorem rowNum {w : World} (h : LayR w) {k : Nat} (hk : k < 9) : w.cell? ⟨0, k * 9, none⟩ = some (.int .u16 (Rd.ty k : Nat)) := by
  rw [h.cell]
  exact Rd.nine (p := fun k => rowsCells[k * 9]? = some (.int .u16 (Rd.ty k : Nat))) hk rfl rfl rfl rfl rfl rfl rfl rfl rfl
theorem rowTxt {w : World} (h : LayR w) {k : Nat} (hk : k < 9) : w.cell? ⟨0, k * 9 + 1, none⟩ = some (sv (Rd.txt k)) := by
  rw [h.cell]
  exact Rd.nine (p := fun k => rowsCells[k * 9 + 1]? = some (sv (Rd.txt k))) hk rfl rfl rfl rfl rfl rfl rfl rfl rfl
theorem small_s (s : ByteArray) (w : World) (hs : s.size ≤ 140737488355328) :
    Calls Tryz.prog 115 #[.string s] w fun e w' => e = .returned (sv (Nm.fold s.data.toList)) ∧ Below w.heap.size w w' := by
  have HF := Lib.hid (Fold_any s w hs)
  go_enter Tryz.func115, Tryz.ntmps115
  go_wp2_with (go_at_call 40; refine HF.out.mono ?_; rintro e w1 ⟨rfl, hb⟩)
  go_ret
  exact ⟨rfl, hb⟩
/-- what number answers. -/
def uintV (o : Option Nat) : Value := match o with
  | some v => .tuple #[.int .u32 v, .bool true]
  | none => .tuple #[.int .u32 0, .bool false]
set_option maxRecDepth 100000 in
theorem parse16_ok (s : ByteArray) (w : World) (hs : s.size ≤ 140737488355328) (hz : ¬ (1 < s.data.toList.length ∧ s.data.toList.head? = some 48)) {v : Nat} (h : Rd.num s.data.toList 65535 = some v) :
    Calls Tryz.prog 112 #[.string s, .int .i64 10, .int .i64 16] w fun e w' => e = .returned (.tuple #[.int .u64 v, .nilIface]) ∧ Below w.heap.size w w' := by
  refine (Tryz.strconv_ParseUint_10_at16_ok s (by omega) v ((Rd.parse16 hz v).2 h) w).mono ?_
  rintro e w' ⟨rfl, rfl | rfl⟩
  · exact ⟨rfl, Below.refl _ _⟩
  · exact ⟨rfl, bytesWorld_below _ _ _⟩
set_option maxRecDepth 100000 in
theorem parse16_no (s : ByteArray) (w : World) (hL : Lay w) (hs : s.size ≤ 140737488355328) (hz : ¬ (1 < s.data.toList.length ∧ s.data.toList.head? = some 48)) (h : Rd.num s.data.toList 65535 = none) :
    Calls Tryz.prog 112 #[.string s, .int .i64 10, .int .i64 16] w fun e w' => ∃ x t a, e = .returned (.tuple #[.int .u64 x, .iface t (.pointer (some a))]) ∧ Below w.heap.size w w' := by
  obtain ⟨⟨t1, p1, h1⟩, t2, p2, h2⟩ := hL
  have hno : ∀ v, Lib.parseUintB 16 s.data.toList ≠ .ok v := fun v hv => by
    have := (Rd.parse16 hz v).1 hv
    rw [h] at this; cases this
  rcases hp : Lib.parseUintB 16 s.data.toList with v | _ | _
  · exact absurd hp (hno v)
  · refine (Tryz.strconv_ParseUint_10_at16_syntax s (by omega) hp _ w h1 (.inr ⟨_, _, rfl⟩)).mono ?_
    rintro e w' ⟨N, rfl, _, _, hb⟩
    exact ⟨_, _, _, rfl, hb⟩
  · refine (Tryz.strconv_ParseUint_10_at16_range s (by omega) hp _ w h2 (.inr ⟨_, _, rfl⟩)).mono ?_
    rintro e w' ⟨N, rfl, _, _, hb⟩
    exact ⟨_, _, _, rfl, hb⟩
set_option maxHeartbeats 1000000 in
set_option maxRecDepth 100000 in
theorem number16_any (s : ByteArray) (w : World) (hL : Lay w) (hs : s.size ≤ 140737488355328) :
    Calls Tryz.prog 117 #[.string s, .int .i64 16] w fun e w' => e = .returned (uintV (Rd.num s.data.toList 65535)) ∧ Below w.heap.size w w' := by
  have hl : s.data.toList.length = s.size := by simp
  have key : ∀ (hz : ¬ (1 < s.data.toList.length ∧ s.data.toList.head? = some 48)), (∃ v, v ≤ 65535 ∧ Rd.num s.data.toList 65535 = some v ∧ Calls Tryz.prog 112 #[.string s, .int .i64 10, .int .i64 16] w fun e w' => e = .returned (.tuple #[.int .u64 v, .nilIface]) ∧ Below w.heap.size w w') ∨
      (Rd.num s.data.toList 65535 = none ∧ Calls Tryz.prog 112 #[.string s, .int .i64 10, .int .i64 16] w fun e w' => ∃ x t a, e = .returned (.tuple #[.int .u64 x, .iface t (.pointer (some a))]) ∧ Below w.heap.size w w') := fun hz => by
    cases h : Rd.num s.data.toList 65535 with
    | some v => exact .inl ⟨v, Rd.num_le h, rfl, parse16_ok s w hs hz h⟩
    | none => exact .inr ⟨rfl, parse16_no s w hL hs hz h⟩
  by_cases h1 : 1 < s.size
  · have h0s : 0 < s.size := by clear hl key; omega
    have hd := Rd.head_of (s := s) h0s
    have hi1 : (1 : Int) < (s.size : Int) := by omega
    by_cases h48 : (s[0]'h0s).toNat = 48
    · have hn : Rd.num s.data.toList 65535 = none := Rd.num_bad (.inr (.inl ⟨by omega, by rw [hd]; congr 1; exact UInt8.toNat_inj.1 h48⟩))
      have HN := Lib.hid hn
      have hb : (((s[0]'h0s).toNat : Int) == 48) = true := by rw [h48]; rfl
      clear hn hd key hl h48
      go_enter Tryz.func117, Tryz.ntmps117
      go_wp2
      go_ret2
      exact ⟨by rw [HN.out]; rfl, Below.refl _ _⟩
    · have hz : ¬ (1 < s.data.toList.length ∧ s.data.toList.head? = some 48) := fun ⟨_, e⟩ => h48 (by rw [hd] at e; injection e with e; rw [e]; rfl)
      have hb : (((s[0]'h0s).toNat : Int) == 48) = false := beq_eq_false_iff_ne.2 (by omega)
      rcases key hz with ⟨v, hv, hn, hc⟩ | ⟨hn, hc⟩
      · have HN := Lib.hid hn
        have HC := Lib.hid hc
        clear hn hc hd key hl h48 hz
        go_enter Tryz.func117, Tryz.ntmps117
        go_wp2_with (go_at_call 112; refine HC.out.mono ?_; rintro e w1 ⟨rfl, hB⟩)
        go_ret2
        exact ⟨by rw [HN.out]; rfl, hB⟩
      · have HN := Lib.hid hn
        have HC := Lib.hid hc
        clear hn hc hd key hl h48 hz
        go_enter Tryz.func117, Tryz.ntmps117
        go_wp2_with (go_at_call 112; refine HC.out.mono ?_; rintro e w1 ⟨x, ty, a, rfl, hB⟩)
        go_ret2
        exact ⟨by rw [HN.out]; rfl, hB⟩
  · have hz : ¬ (1 < s.data.toList.length ∧ s.data.toList.head? = some 48) := fun ⟨e, _⟩ => h1 (by omega)
    rcases key hz with ⟨v, hv, hn, hc⟩ | ⟨hn, hc⟩
    · have HN := Lib.hid hn
      have HC := Lib.hid hc
      clear hn hc key hl hz
      go_enter Tryz.func117, Tryz.ntmps117
      go_wp2_with (go_at_call 112; refine HC.out.mono ?_; rintro e w1 ⟨rfl, hB⟩)
      go_ret2
      exact ⟨by rw [HN.out]; rfl, hB⟩
    · have HN := Lib.hid hn
      have HC := Lib.hid hc
      clear hn hc key hl hz
      go_enter Tryz.func117, Tryz.ntmps117
      go_wp2_with (go_at_call 112; refine HC.out.mono ?_; rintro e w1 ⟨x, ty, a, rfl, hB⟩)
      go_ret2
      exact ⟨by rw [HN.out]; rfl, hB⟩
end Go.Proofs.YtgcaephfhfkjcaaGreatDoor
namespace Go.Proofs.YtgcaephfhfkjcaaGreatDoor
open Go.RowKit Go.Sort Go.Shelf

section
variable {α : Type} [Inhabited α] {enc : α → List Value} {k : Nat} {w w' : World} {g : Nat} {t : TypeId}
theorem flat_at (hk : ∀ x, (enc x).length = k) (d : Array α) {i j : Nat} (hi : i < d.size) (hj : j < k) : (flatK enc k d)[i * k + j]? = (enc d[i])[j]? := by
  have h0 : 0 < k := by omega
  have hlt : i * k + j < d.size * k := by
    have : (i + 1) * k ≤ d.size * k := Nat.mul_le_mul_right k hi
    rw [Nat.add_mul, Nat.one_mul] at this
    omega
  have hd : (i * k + j) / k = i := by rw [Nat.mul_comm, Nat.mul_add_div h0, Nat.div_eq_of_lt hj, Nat.add_zero]
  have hm : (i * k + j) % k = j := by rw [Nat.mul_comm, Nat.mul_add_mod, Nat.mod_eq_of_lt hj]
  have h := get_flatK enc k d (i * k + j) hlt
  rw [hd, hm, getElem!_pos d i hi] at h
  have hs : i * k + j < (flatK enc k d).size := by simpa using hlt
  rw [getElem!_pos (flatK enc k d) _ hs, getElem!_pos (enc d[i]) j (by rw [hk]; exact hj)] at h
  rw [Array.getElem?_eq_getElem hs, h, List.getElem?_eq_getElem (by rw [hk]; exact hj)]
end
end Go.Proofs.YtgcaephfhfkjcaaGreatDoor
namespace Go.Proofs.YtgcaephfhfkjcaaGreatDoor
open Go.RowKit

/-- all cells of structs, one behind the other. -/
def fl {α : Type} (enc : α → List Value) (xs : List α) : List Value := xs.flatMap enc
section
variable {α : Type} {enc : α → List Value} {k : Nat}
theorem fl_append (xs ys : List α) : fl enc (xs ++ ys) = fl enc xs ++ fl enc ys := by simp [fl]
theorem fl_one (x : α) : fl enc [x] = enc x := by simp [fl]
theorem fl_len (hk : ∀ x, (enc x).length = k) : ∀ xs : List α, (fl enc xs).length = xs.length * k
  | [] => by simp [fl]
  | x :: r => by
    have := fl_len hk r
    simp only [fl, List.flatMap_cons, List.length_append, hk, List.length_cons] at *
    rw [this, Nat.add_mul, Nat.one_mul, Nat.add_comm]
theorem fl_get (hk : ∀ x, (enc x).length = k) : ∀ (xs : List α) {j i : Nat} (hj : j < xs.length), i < k → (fl enc xs)[j * k + i]? = (enc xs[j])[i]?
  | x :: r, 0, i, _, hi => by
    simp only [fl, List.flatMap_cons, Nat.zero_mul, Nat.zero_add, List.getElem_cons_zero]
    rw [List.getElem?_append_left (by rw [hk]; exact hi)]
  | x :: r, j + 1, i, hj, hi => by
    have := fl_get hk r (j := j) (i := i) (by simpa using hj) hi
    simp only [fl, List.flatMap_cons, List.getElem_cons_succ] at *
    rw [List.getElem?_append_right (by rw [hk, Nat.add_mul, Nat.one_mul]; omega), hk, ← this]
    congr 1
    rw [Nat.add_mul, Nat.one_mul]
    omega
end
/-- a row of structs of the call's own. -/
abbrev Own {α : Type} (enc : α → List Value) (k : Nat) (w : World) (base : Nat) (e : TypeId) (v : Value) (xs : List α) : Prop := w.ownsRow base e k v xs.length (fl enc xs)
section
variable {α : Type} {enc : α → List Value} {k : Nat} {w w' : World} {base B : Nat} {e : TypeId} {v : Value} {xs : List α}
theorem ownK_form {n : Nat} {ys : List Value} (h : w.ownsRow base e k v n ys) : ∃ ad cp, v = .slice ad n cp ∧ n ≤ cp := by
  rcases h.2 with ⟨rfl, h0⟩ | ⟨g', cap, cur, rfl, _, _, hc, _⟩
  · exact ⟨none, 0, by rw [h0], by omega⟩
  · exact ⟨_, _, rfl, hc⟩
theorem ownK_pos {n : Nat} {ys : List Value} (h : w.ownsRow base e k v n ys) (hn : 0 < n) : ∃ g cp cur, v = .slice (some ⟨g, 0, none⟩) n cp ∧ n ≤ cp ∧ base ≤ g ∧ g < w.heap.size ∧ w.heap[g]? = some (.cells cur e (0, 0)) ∧ cur.toList.take (n * k) = ys := by
  rcases h.2 with ⟨rfl, h0⟩ | ⟨g', cap, cur, rfl, hb, hg, hc, _, _, ht⟩
  · omega
  · exact ⟨g', cap, cur, rfl, hc, hb, (Array.getElem?_eq_some_iff.1 hg).1, hg, ht⟩
theorem ownK_below {n : Nat} {ys : List Value} (h : w.ownsRow base e k v n ys) (hb : Below B w w') (hB : w.heap.size ≤ B) : w'.ownsRow base e k v n ys := own_below h hb hB
theorem take_at {cur : Array Value} {n : Nat} {ys : List Value} (ht : cur.toList.take n = ys) {i : Nat} {u : Value} (hu : ys[i]? = some u) : cur[i]? = some u := by
  subst ht
  rw [List.getElem?_take] at hu
  split at hu
  · rwa [Array.getElem?_toList] at hu
  · cases hu
theorem Own.srow (hk : ∀ x, (enc x).length = k) (h : Own enc k w base e v xs) : ∃ A c, v = .slice A xs.length c ∧ xs.length ≤ c ∧ Srow enc k w base w.heap.size A xs := by
  rcases Nat.eq_zero_or_pos xs.length with h0 | h0
  · obtain ⟨ad, cp, hv, hc⟩ := ownK_form h
    exact ⟨ad, cp, hv, hc, fun h1 => by omega⟩
  · obtain ⟨g, cp, cur, hv, hc, hb, hlt, hg, ht⟩ := ownK_pos h h0
    refine ⟨_, cp, hv, hc, fun _ => ⟨g, 0, rfl, hb, hlt, fun j hj i u hu => ?_⟩⟩
    have hi : i < k := by rw [← hk xs[j]]; exact (List.getElem?_eq_some_iff.1 hu).1
    rw [cell_of_row w g _ cur e (0, 0) hg, Nat.zero_add]
    exact take_at ht (by rw [fl_get hk xs hj hi, hu])
end
def Apart2 (a b : Value) : Prop := ∀ g, a.ownBlock = some g → b.ownBlock ≠ some g
section
variable {P : Program} {w : World}
theorem run_append_where (base : Nat) (t ty e : TypeId) (i : TypeInfo) (z : Value) (size bytes : Nat) (ht : P.underlying t = some (.slice e)) (hi : P.info? e = some i) (hz : i.zero = some z)
    (hsize : i.size = size) (hby : i.bytes = bytes) (hzs : z.cells.size = size) (hsz : 0 < size)
    (v : Value) (n : Nat) (xs : List Value) (hown : w.ownsRow base e size v n xs)
    (a : Addr) (m c : Nat) (news : List Value) (hl : news.length = m * size) (hnews : ∀ j u, news[j]? = some u → w.cell? (a.add j) = some u) (h1 : ∀ u ∈ news, u.oneCell' = true) (hm : 0 < m)
    (h63 : n + m ≤ maxLen) (hbytes : (n + m) * bytes ≤ 140737488355328) (hbase : base ≤ w.heap.size) :
    ∃ v' w', (Builtin.append_ #[t, t] ty #[v, .slice (some a) m c]).run P w = .ok v' w' ∧ w'.ownsRow base e size v' (n + m) (xs ++ news) ∧ w.grownBy w' v.ownBlock ∧ (v'.ownBlock = v.ownBlock ∨ v'.ownBlock = some w.heap.size) := by
  obtain ⟨v', w', hr, h2, h3, _⟩ := run_append_own (P := P) w base t ty e i z size bytes ht hi hz hsize hby hzs hsz v n xs hown a m c news hl hnews h1 h63 hbytes hbase
  refine ⟨v', w', hr, h2, h3, ?_⟩
  subst hsize hby
  have hsmall : n + m ≤ 9223372036854775807 := by simp only [maxLen] at h63; omega
  rcases hown.2 with ⟨rfl, rfl⟩ | ⟨g, cap, cur, rfl, hbg, hg, hnc, hcm, hcs, htake⟩
  · have hr2 := run_append_nil (P := P) w t ty e i z ht hi hz a m c news hl hnews (by omega) (by omega) (by have hb := hbytes; simp only [Nat.zero_add] at hb; omega)
    rw [hr] at hr2
    injection hr2 with e1 _
    rw [e1]
    exact .inr rfl
  · by_cases hroom : n + m ≤ cap
    · have hfit : n * i.size + news.length ≤ cur.size := by rw [hl, hcs, ← Nat.add_mul]; exact Nat.mul_le_mul_right _ hroom
      have hr2 := run_append_room (P := P) w t ty e i ht hi g n cap cur hg a m c news hl hnews h1 hroom hfit
      rw [hr] at hr2
      injection hr2 with e1 _
      rw [e1]
      exact .inl rfl
    · have holds : ∀ j u, xs[j]? = some u → w.cell? ((⟨g, 0, none⟩ : Addr).add j) = some u := hown.cells (g := g) rfl
      have hr2 := run_append_grow (P := P) w t ty e i z ht hi hz ⟨g, 0, none⟩ n cap xs hown.1 holds a m c news hl hnews (by omega) (by omega) (growslice_fits (by omega) hbytes)
      rw [hr] at hr2
      injection hr2 with e1 _
      rw [e1]
      exact .inr rfl
end
/-- one struct put behind a row of the call's own. -/
theorem wpList_append_struct2 {α : Type} {enc : α → List Value} {k : Nat} {P : Program} {w : World} {ops : Array Oper} {rest : List Oper} {o : Oper} {a : Act} {Q : Exit → Act → World → Prop} (hgd : o.guard = none) (s x : Operand) (t : TypeId)
    (ho : o.op = .call { callee := .builtin .append, args := #[s, x], argTypes := #[t, t] })
    (hk : ∀ x, (enc x).length = k)
    (e : TypeId) (i : TypeInfo) (z : Value) (bytes : Nat) (ht : P.underlying t = some (.slice e)) (hi : P.info? e = some i) (hz : i.zero = some z)
    (hsize : i.size = k) (hby : i.bytes = bytes) (hzs : z.cells.size = k) (hsz : 0 < k)
    (base : Nat) (v : Value) (xs : List α) (hs : a.eval s = v) (hown : Own enc k w base e v xs)
    (y : α) (h1 : ∀ v ∈ enc y, v.oneCell' = true) (g c : Nat) (hx : a.eval x = .slice (some ⟨g, 0, none⟩) 1 c) (hy : w.rangeAt g 0 (enc y))
    (h63 : xs.length + 1 ≤ maxLen) (hbytes : (xs.length + 1) * bytes ≤ 140737488355328) (hbase : base ≤ w.heap.size)
    (h : ∀ v' w', Own enc k w' base e v' (xs ++ [y]) → w.grownBy w' v.ownBlock → (v'.ownBlock = v.ownBlock ∨ v'.ownBlock = some w.heap.size) → wpList P ops Q rest (a.put o.dst v') w') : wpList P ops Q (o :: rest) a w := by
  refine wpList_append_run hgd s x t t ho v _ hs hx (R := fun v' w' => Own enc k w' base e v' (xs ++ [y]) ∧ w.grownBy w' v.ownBlock ∧ (v'.ownBlock = v.ownBlock ∨ v'.ownBlock = some w.heap.size)) ?_ (fun v' w' ⟨h2, h3, h4⟩ => h v' w' h2 h3 h4)
  obtain ⟨v', w', hr, h2, h3, h4⟩ := run_append_where (P := P) (w := w) base t o.type e i z k bytes ht hi hz hsize hby hzs hsz v xs.length (fl enc xs) hown ⟨g, 0, none⟩ 1 c (enc y) (by rw [hk, Nat.one_mul]) (fun j u hu => by
    rw [addr_add]
    exact hy j u hu) h1 (by omega) h63 hbytes hbase
  refine ⟨v', w', hr, ?_, h3, h4⟩
  unfold Own
  rw [fl_append, fl_one, List.length_append, List.length_singleton]
  exact h2
end Go.Proofs.YtgcaephfhfkjcaaGreatDoor
namespace Go.Proofs.YtgcaephfhfkjcaaGreatDoor
open Go.RowKit Go.Sort Go.Shelf

section
variable {α : Type} {enc : α → List Value} {k : Nat}
theorem fl_flatK [Inhabited α] (hk : ∀ x, (enc x).length = k) (d : Array α) : (flatK enc k d).toList = fl enc d.toList := by
  apply List.ext_getElem?
  intro t
  by_cases ht : t < d.size * k
  · have h0 : 0 < k := by
      rcases Nat.eq_zero_or_pos k with h | h
      · subst h; simp at ht
      · exact h
    have hi : t / k < d.size := Nat.div_lt_of_lt_mul (by rw [Nat.mul_comm]; exact ht)
    have hm : t % k < k := Nat.mod_lt _ h0
    have e : t / k * k + t % k = t := by rw [Nat.mul_comm]; exact Nat.div_add_mod t k
    have h1 := flat_at hk d hi hm
    have h2 := fl_get hk d.toList (j := t / k) (i := t % k) (by simpa using hi) hm
    rw [e] at h1 h2
    rw [Array.getElem?_toList, h1, h2]
    simp
  · rw [List.getElem?_eq_none (by simp; omega), List.getElem?_eq_none (by rw [fl_len hk]; simp; omega)]
end
section
variable {α : Type} {enc : α → List Value} {k : Nat} {w w' : World} {base B : Nat} {e : TypeId} {v : Value} {xs : List α}
theorem Own.holds [Inhabited α] (hk : ∀ x, (enc x).length = k) {g n c : Nat} (h : Own enc k w base e (.slice (some ⟨g, 0, none⟩) n c) xs) (h0 : 0 < xs.length) : HoldsK enc k w g 0 xs.toArray := by
  obtain ⟨g', cp, cur, hv, hc, hb, hlt, hg, ht⟩ := ownK_pos h h0
  injection hv with hv _ _
  injection hv with hv
  injection hv with hv
  subst hv
  intro j hj
  have hf := fl_flatK hk xs.toArray
  refine ⟨?_, frozen_of_row w g _ cur e hg⟩
  rw [cell_of_row w g _ cur e (0, 0) hg, Nat.zero_add, getElem!_pos _ j hj]
  refine take_at ht ?_
  rw [show fl enc xs = (flatK enc k xs.toArray).toList from hf.symm, Array.getElem?_toList, Array.getElem?_eq_getElem hj]
  rfl
end
end Go.Proofs.YtgcaephfhfkjcaaGreatDoor
namespace Go.Proofs.YtgcaephfhfkjcaaGreatDoor
open Go.ChangeShapes Go.WideShapes Go.Deep Go.RowKit

namespace Rv
/-- its numbers are numbers. -/
def fits (r : Rv) : Prop := r.ty ≤ 65535 ∧ r.cl ≤ 65535 ∧ r.ttl ≤ 4294967295 ∧ r.d.fits
end Rv
abbrev rcl (r : Rv) : List Value := r.cells.toList
end Go.Proofs.YtgcaephfhfkjcaaGreatDoor
namespace Go.Proofs.YtgcaephfhfkjcaaGreatDoor
open Go.RowKit

def rvB (a b : Rv) : Bool := (a.nm.toList == b.nm.toList) && (((a.ty : Int) == b.ty) && (((a.cl : Int) == b.cl) && (((a.ttl : Int) == b.ttl) && dvB a.d b.d)))
set_option maxRecDepth 100000 in
theorem rvRun (W : World) (a b : Rv) (d : Nat) : (Op.equalIn (d + 5) 36 (.agg a.cells) (.agg b.cells)).run Tryz.prog W = .ok (rvB a b) W := by
  rw [run_equalIn_agg W (d + 4) _ _ _ (by kernel_rfl) Tryz.stoodInHeld36]
  have hf : (Tryz.prog.fieldsOf 36).toList.map (fun f => (f.name != "_", f.type, f.offset)) = [(true, 22, 0), (true, 30, 1), (true, 30, 2), (true, 31, 3), (true, 34, 4)] := by kernel_rfl
  have hlen : (Tryz.prog.fieldsOf 36).toList.length = 5 := by kernel_rfl
  generalize (Tryz.prog.fieldsOf 36).toList = fs at *
  match fs, hlen, hf with
  | [f0, f1, f2, f3, f4], _, hf =>
    simp only [List.map_cons, List.map_nil, List.cons.injEq, Prod.mk.injEq] at hf
    obtain ⟨⟨n0, t0, o0⟩, ⟨n1, t1, o1⟩, ⟨n2, t2, o2⟩, ⟨n3, t3, o3⟩, ⟨n4, t4, o4⟩, _⟩ := hf
    have p0 : ∀ x : Rv, (part 22 x.cells 0).run Tryz.prog W = .ok (.string x.nm) W := fun _ => rfl
    have p1 : ∀ x : Rv, (part 30 x.cells 1).run Tryz.prog W = .ok (.int .u16 x.ty) W := fun _ => rfl
    have p2 : ∀ x : Rv, (part 30 x.cells 2).run Tryz.prog W = .ok (.int .u16 x.cl) W := fun _ => rfl
    have p3 : ∀ x : Rv, (part 31 x.cells 3).run Tryz.prog W = .ok (.int .u32 x.ttl) W := fun _ => rfl
    have p4 : ∀ x : Rv, (part 34 x.cells 4).run Tryz.prog W = .ok (.agg x.d.cells) W := fun _ => rfl
    have m0 : ¬ (f0.name = "_") := by simpa using n0
    have m1 : ¬ (f1.name = "_") := by simpa using n1
    have m2 : ¬ (f2.name = "_") := by simpa using n2
    have m3 : ¬ (f3.name = "_") := by simpa using n3
    have m4 : ¬ (f4.name = "_") := by simpa using n4
    have st : ∀ (f : Field) (va vb : Value) (x y : Bool) (fs : List Field), ¬ (f.name = "_") → (part f.type a.cells f.offset).run Tryz.prog W = .ok va W → (part f.type b.cells f.offset).run Tryz.prog W = .ok vb W →
        (Op.equalIn (d + 4) f.type va vb).run Tryz.prog W = .ok x W → (Op.eqFields (d + 4) a.cells b.cells fs).run Tryz.prog W = .ok y W → (Op.eqFields (d + 4) a.cells b.cells (f :: fs)).run Tryz.prog W = .ok (x && y) W := fun f va vb x y fs hn ha hb he hr => by
      simp only [Op.eqFields, ne_eq, hn, not_false_eq_true, if_true, Sem.run_bind, ha, hb, he, Result.andThen_ok]
      exact and_run W (fun _ => Op.eqFields (d + 4) a.cells b.cells fs) _ hr
    have h4 := st f4 _ _ _ true [] m4 (by rw [t4, o4]; exact p4 a) (by rw [t4, o4]; exact p4 b) (by rw [t4]; exact dvRun W a.d b.d d) rfl
    rw [Bool.and_true] at h4
    exact st f0 _ _ _ _ _ m0 (by rw [t0, o0]; exact p0 a) (by rw [t0, o0]; exact p0 b) (by rw [t0]; exact run_equalIn_string W _ _ _ _ Tryz.underlying22)
      (st f1 _ _ _ _ _ m1 (by rw [t1, o1]; exact p1 a) (by rw [t1, o1]; exact p1 b) (by rw [t1]; exact run_equalIn_int W _ _ _ _ _ _ Tryz.underlying30)
        (st f2 _ _ _ _ _ m2 (by rw [t2, o2]; exact p2 a) (by rw [t2, o2]; exact p2 b) (by rw [t2]; exact run_equalIn_int W _ _ _ _ _ _ Tryz.underlying30)
          (st f3 _ _ _ _ _ m3 (by rw [t3, o3]; exact p3 a) (by rw [t3, o3]; exact p3 b) (by rw [t3]; exact run_equalIn_int W _ _ _ _ _ _ Tryz.underlying31) h4)))
theorem rvB_iff (a b : Rv) : rvB a b = true ↔ a = b := by
  obtain ⟨nm, ty, cl, ttl, d⟩ := a
  obtain ⟨nm', ty', cl', ttl', d'⟩ := b
  unfold rvB
  rw [strB]
  simp only [Bool.and_eq_true, decide_eq_true_eq, beq_iff_eq, dvB_iff, Rv.mk.injEq, Int.ofNat_inj]
end Go.Proofs.YtgcaephfhfkjcaaGreatDoor
namespace Go.Proofs.YtgcaephfhfkjcaaGreatDoor
open Go.RowKit Go.Sort Go.Shelf

set_option maxHeartbeats 4000000 in
set_option maxRecDepth 100000 in
theorem refEqual_any (xs : List Rv) (A B : Option Addr) (c c2 : Nat) (w : World) (hA : Srow rcl 12 w 0 w.heap.size A xs) (hB : Srow rcl 12 w 0 w.heap.size B xs) (hn : xs.length ≤ 4294967296) :
    Calls Tryz.prog 11 #[.slice A xs.length c, .slice B xs.length c2] w fun e w' => e = .returned (.bool true) ∧ Below w.heap.size w w' := by
  have HA := Lib.hid hA
  have HB := Lib.hid hB
  clear hA hB
  go_enter Tryz.func11, Tryz.ntmps11
  go_wp2
  go_loopw [5] (fun s5 wr => ∃ i q : Nat, s5 = .int .i64 i ∧ i ≤ xs.length ∧ wr = w.drewN q) (fun s5 _ => xs.length - (intOf s5).toNat)
  case atStart => exact ⟨0, 0, rfl, Nat.zero_le _, rfl⟩
  case round =>
    obtain ⟨i, q, rfl, hi, rfl⟩ := hrel
    by_cases hlt : i < xs.length
    · obtain ⟨g, o, rfl, _, _, hc⟩ := HA.out.at_ hlt
      obtain ⟨g2, o2, rfl, _, _, hc2⟩ := HB.out.at_ hlt
      have i0 : (0 : Int) ≤ (i : Int) := by omega
      have i1 : (i : Int) < (xs.length : Int) := by omega
      generalize xs[i] = r at *
      have hpe : ∀ W, (Op.equalIn 10000 36 (.agg r.cells) (.agg r.cells)).run Tryz.prog W = .ok true W := fun W => by
        have h := rvRun W r r 9995
        rw [(rvB_iff r r).2 rfl] at h
        exact h
      have HC : Hid ((w.drewN q).rangeAt g (o + i * 12) (rcl r)) := hc
      have HC2 : Hid ((w.drewN q).rangeAt g2 (o2 + i * 12) (rcl r)) := hc2
      have HQ : Hid (∀ n, (w.drewN q).drewN n = w.drewN (q + n)) := fun n => World.drewN_drewN ..
      clear hc hc2
      obtain ⟨nm, ty, cl, ttl, ⟨ra', ho, ma, n0, n1, n2, n3, n4⟩⟩ := r
      generalize w.drewN q = wq at *
      have e0 := HC.out 0 _ rfl
      have e1 := HC.out 1 _ rfl
      have e2 := HC.out 2 _ rfl
      have e3 := HC.out 3 _ rfl
      have e4 := HC.out 4 _ rfl
      have e5 := HC.out 5 _ rfl
      have e6 := HC.out 6 _ rfl
      have e7 := HC.out 7 _ rfl
      have e8 := HC.out 8 _ rfl
      have e9 := HC.out 9 _ rfl
      have e10 := HC.out 10 _ rfl
      have e11 := HC.out 11 _ rfl
      have f0 := HC2.out 0 _ rfl
      have f1 := HC2.out 1 _ rfl
      have f2 := HC2.out 2 _ rfl
      have f3 := HC2.out 3 _ rfl
      have f4 := HC2.out 4 _ rfl
      have f5 := HC2.out 5 _ rfl
      have f6 := HC2.out 6 _ rfl
      have f7 := HC2.out 7 _ rfl
      have f8 := HC2.out 8 _ rfl
      have f9 := HC2.out 9 _ rfl
      have f10 := HC2.out 10 _ rfl
      have f11 := HC2.out 11 _ rfl
      rw [Nat.add_zero] at e0 f0
      dsimp only [Rv.cells] at hpe
      clear HC HC2
      go_wp2_with fail
      go_quiet (fail)
      go_wp2_with fail
      go_roundw
      case rel => exact ⟨i + 1, q + _, by go_num, by omega, HQ.out _⟩
      case measure => simp [intOf]; omega
    · obtain rfl : i = xs.length := by omega
      go_wp2_with fail
      go_ret
      exact ⟨rfl, below_drewN (Below.refl _ _) q⟩
end Go.Proofs.YtgcaephfhfkjcaaGreatDoor
namespace Go.Proofs.YtgcaephfhfkjcaaGreatDoor
open Go.RowKit

namespace Mp
def headL (o : Nm.By) : Nm.By := [36, 79, 82, 73, 71, 73, 78, 32] ++ Nm.text (Nm.fold o) ++ [10]
def textL (o : Nm.By) (l : List Rv) : Nm.By := headL o ++ l.flatMap lineL
end Mp
end Go.Proofs.YtgcaephfhfkjcaaGreatDoor
namespace Go.Proofs.YtgcaephfhfkjcaaGreatDoor
open Go.RowKit

section
variable {P : Program} {w : World} {ops : Array Oper} {rest : List Oper} {o : Oper} {a : Act} {Q : Exit → Act → World → Prop}
theorem wpList_build_one (hgd : o.guard = none) (t e : TypeId) (x : Operand) (ho : o.op = .buildSlice t 1 #[(0, x)]) (k : Nat) (cells : Array Value) (ie : TypeInfo) (z : Value) (hu : P.underlying t = some (.slice e)) (hie : P.info? e = some ie) (hz : ie.zero = some z) (hk : ie.size = k) (h0 : 0 < k) (hk2 : k ≤ 1000)
    (hx : a.eval x = .agg cells) (hf : Instr.fill (fun i => some (i * k, k)) ((Array.range (1 * k)).map (z.cells[· % z.cells.size]!)) [(0, .agg cells)] = some cells)
    (h : ∀ w2, Has w2 w.heap.size e cells → w.grownBy w2 none → w2.heap.size = w.heap.size + 1 → wpList P ops Q rest (a.put o.dst (.slice (some ⟨w.heap.size, 0, none⟩) 1 1)) w2) : wpList P ops Q (o :: rest) a w := by
  subst hk
  refine wpList_buildSlice hgd t e 1 #[(0, x)] ho cells ie z hu hie hz (by omega) (by omega) (by simp only [List.map_toArray, List.map_cons, List.map_nil, hx]; exact hf) ?_
  exact h _ (Has.fresh w e cells) (World.grownBy_alloc w _ none) (by simp)
end
end Go.Proofs.YtgcaephfhfkjcaaGreatDoor
namespace Go.Proofs.YtgcaephfhfkjcaaGreatDoor
open Go.RowKit

set_option maxRecDepth 100000 in
theorem info_rec12 : ∃ i z, Tryz.prog.info? 36 = some i ∧ i.zero = some z ∧ i.size = 12 ∧ i.bytes = 96 ∧ z.cells.size = 12 ∧ ∀ r : Rv, Instr.fill (fun i => some (i * 12, 12)) ((Array.range (1 * 12)).map (z.cells[· % z.cells.size]!)) [(0, .agg r.cells)] = some r.cells := by
  refine ⟨_, _, rfl, rfl, ?_, ?_, ?_, fun r => ?_⟩ <;> kernel_rfl
/-- the mark behind the records' end. -/
def Mp.mark : Rv := ⟨⟨#[]⟩, 0, 0, 77, ⟨⟨#[]⟩, ⟨#[]⟩, ⟨#[]⟩, 0, 0, 0, 0, 0⟩⟩
end Go.Proofs.YtgcaephfhfkjcaaGreatDoor
namespace Go.Proofs.YtgcaephfhfkjcaaGreatDoor
open Go.RowKit

set_option maxRecDepth 100000 in
theorem isBlank_any (c : UInt8) (w : World) : Calls Tryz.prog 109 #[.int .u8 (c.toNat : Int)] w fun e w' => e = .returned (.bool (Tk.blank c)) ∧ w' = w := by
  have h8 := c.toNat_lt
  have HB : Hid (Tk.blank c = (((c.toNat : Int) == 32) || ((c.toNat : Int) == 9) || ((c.toNat : Int) == 13))) := by
    unfold Hid Tk.blank
    congr 1
    · congr 1 <;> (rw [Bool.eq_iff_iff]; simp; omega)
    · rw [Bool.eq_iff_iff]; simp; omega
  rw [HB.out]
  by_cases h1 : ((c.toNat : Int) == 32) = true
  · rw [h1]
    go_enter Tryz.func109, Tryz.ntmps109
    go_wp2
    go_ret
    exact ⟨rfl, rfl⟩
  · simp only [Bool.not_eq_true] at h1
    by_cases h2 : ((c.toNat : Int) == 9) = true
    · rw [h1, h2]
      go_enter Tryz.func109, Tryz.ntmps109
      go_wp2
      go_ret
      exact ⟨rfl, rfl⟩
    · simp only [Bool.not_eq_true] at h2
      rw [h1, h2]
      go_enter Tryz.func109, Tryz.ntmps109
      go_wp2
      go_ret
      exact ⟨rfl, rfl⟩
set_option maxRecDepth 100000 in
theorem endsBare_any (c : UInt8) (w : World) : Calls Tryz.prog 85 #[.int .u8 (c.toNat : Int)] w fun e w' => e = .returned (.bool (Tk.ends c)) ∧ w' = w := by
  have h8 := c.toNat_lt
  have key : ∀ n : Nat, c.toNat = n → n = 10 ∨ n = 59 ∨ n = 40 ∨ n = 41 ∨ n = 34 → Calls Tryz.prog 85 #[.int .u8 (n : Int)] w fun e w' => e = .returned (.bool true) ∧ w' = w := by
    intro n _ h
    rcases h with rfl | rfl | rfl | rfl | rfl <;>
    · go_enter Tryz.func85, Tryz.ntmps85
      go_wp2
      go_ret
      exact ⟨rfl, rfl⟩
  by_cases h : c.toNat = 10 ∨ c.toNat = 59 ∨ c.toNat = 40 ∨ c.toNat = 41 ∨ c.toNat = 34
  · have : Tk.ends c = true := by
      unfold Tk.ends
      rcases h with h | h | h | h | h <;> simp [h]
    rw [this]
    exact key _ rfl h
  · have e : Tk.ends c = Tk.blank c := by
      unfold Tk.ends
      have h1 : (c.toNat == 10) = false := beq_eq_false_iff_ne.2 (by omega)
      have h2 : (c.toNat == 59) = false := beq_eq_false_iff_ne.2 (by omega)
      have h3 : (c.toNat == 40) = false := beq_eq_false_iff_ne.2 (by omega)
      have h4 : (c.toNat == 41) = false := beq_eq_false_iff_ne.2 (by omega)
      have h5 : (c.toNat == 34) = false := beq_eq_false_iff_ne.2 (by omega)
      rw [h1, h2, h3, h4, h5]
      rfl
    rw [e]
    have h1 : ((c.toNat : Int) == 10) = false := beq_eq_false_iff_ne.2 (by omega)
    have h2 : ((c.toNat : Int) == 59) = false := beq_eq_false_iff_ne.2 (by omega)
    have h3 : ((c.toNat : Int) == 40) = false := beq_eq_false_iff_ne.2 (by omega)
    have h4 : ((c.toNat : Int) == 41) = false := beq_eq_false_iff_ne.2 (by omega)
    have h5 : ((c.toNat : Int) == 34) = false := beq_eq_false_iff_ne.2 (by omega)
    clear e h
    go_enter Tryz.func85, Tryz.ntmps85
    go_wp2_with (go_at_call 109; refine (isBlank_any c _).mono ?_; rintro e w1 ⟨rfl, rfl⟩)
    go_ret
    exact ⟨rfl, rfl⟩

/-- the lexer's cells. -/
def lxc (s : ByteArray) (at_ line lineAt dep fl fc : Nat) (bl : Bool) (el : Nat) (vw ve : Value) : Array Value :=
  #[.string s, .int .i64 at_, .int .i64 line, .int .i64 lineAt, .int .i64 dep, .int .i64 fl, .int .i64 fc, .bool bl, .int .i64 el, vw, ve]
/-- the byte that comes next. -/
def nb (s : ByteArray) (at_ : Nat) : UInt8 := s.data.toList.getD at_ 10

set_option maxRecDepth 100000 in
theorem atEnd_any (s : ByteArray) (at_ line lineAt dep fl fc : Nat) (bl : Bool) (el : Nat) (vw ve : Value) (g : Nat) (w : World) (h : Has w g 103 (lxc s at_ line lineAt dep fl fc bl el vw ve)) :
    Calls Tryz.prog 83 #[.pointer (some ⟨g, 0, none⟩)] w fun e w' => e = .returned (.bool ((at_ : Int) == (s.size : Int))) ∧ ∃ n, w' = w.drewN n := by
  have H0 : w.cell? ⟨g, 0, none⟩ = some (.string s) := h.cell 0
  have H1 : w.cell? ⟨g, 1, none⟩ = some (.int .i64 at_) := h.cell 1
  clear h
  go_enter Tryz.func83, Tryz.ntmps83
  go_wp2
  go_quiet (fail)
  go_wp2
  go_ret
  exact ⟨rfl, _, rfl⟩

set_option maxRecDepth 100000 in
theorem next_any (s : ByteArray) (at_ line lineAt dep fl fc : Nat) (bl : Bool) (el : Nat) (vw ve : Value) (g : Nat) (w : World) (h : Has w g 103 (lxc s at_ line lineAt dep fl fc bl el vw ve)) (hat : at_ ≤ s.size) :
    Calls Tryz.prog 82 #[.pointer (some ⟨g, 0, none⟩)] w fun e w' => e = .returned (.int .u8 ((nb s at_).toNat : Int)) ∧ ∃ n, w' = w.drewN n := by
  have HE := Lib.hid (fun W (hW : Has W g 103 (lxc s at_ line lineAt dep fl fc bl el vw ve)) => atEnd_any s at_ line lineAt dep fl fc bl el vw ve g W hW)
  have H := Lib.hid h
  clear h
  by_cases he : at_ = s.size
  · have hq : ((at_ : Int) == (s.size : Int)) = true := beq_iff_eq.2 (by omega)
    rw [hq] at HE
    have HN : Hid ((nb s at_).toNat = 10) := by
      unfold Hid nb
      rw [List.getD_eq_getElem?_getD, List.getElem?_eq_none (by simp [he])]
      rfl
    rw [HN.out]
    clear hat hq he
    go_enter Tryz.func82, Tryz.ntmps82
    go_wp2_with (go_at_call 83; refine (HE.out _ H.out).mono ?_; rintro e w1 ⟨rfl, n, rfl⟩)
    go_ret
    exact ⟨rfl, _, rfl⟩
  · have hq : ((at_ : Int) == (s.size : Int)) = false := beq_eq_false_iff_ne.2 (by omega)
    rw [hq] at HE
    have hlt : at_ < s.size := by omega
    have HN : Hid (nb s at_ = s[at_]) := by
      unfold Hid nb
      rw [List.getD_eq_getElem?_getD, List.getElem?_eq_getElem (by simpa using hlt)]
      rfl
    rw [HN.out]
    clear hat hq he
    have H0 : Hid (∀ n, (w.drewN n).cell? ⟨g, 0, none⟩ = some (.string s)) := fun n => H.out.cell 0
    have H1 : Hid (∀ n, (w.drewN n).cell? ⟨g, 1, none⟩ = some (.int .i64 at_)) := fun n => H.out.cell 1
    go_enter Tryz.func82, Tryz.ntmps82
    go_wp2_with (go_at_call 83; refine (HE.out _ H.out).mono ?_; rintro e w1 ⟨rfl, n, rfl⟩; have H0' := H0.out n; have H1' := H1.out n; generalize hW : w.drewN n = W at *; have HW := Lib.hid hW; clear hW)
    go_quiet (fail)
    go_wp2
    go_ret
    exact ⟨rfl, n + _, by rw [← HW.out, World.drewN_drewN]⟩
end Go.Proofs.YtgcaephfhfkjcaaGreatDoor
