/- Texts of the proofs, merged. -/
import Derived.Test.YtpinhpnmnfcdoaaDoorG3
import Derived.Lib.AppendStr
import Derived.Test.YtpinhpnmnfcdoaaDoorG1
import Derived.Test.YtpinhpnmnfcdoaaDoorShelf
import Derived.Lib.ConvBytes
import Derived.Lib.ParseIntB
import Derived.Test.YtpinhpnmnfcdoaaDoorG2
import Derived.RegionTactic
import Derived.ChangeAlike
import Derived.BigRegion
/- row: labels that are gathered to a name. -/
namespace Go.Proofs.YtpinhpnmnfcdoaaDoor
open Go.RowKit Go.Lib

/-- blocks of other types than byte, and other than g, are as they were. -/
def Typed (w w' : World) (g : Nat) : Prop := ∀ k c e fr, w.heap[k]? = some (.cells c e fr) → e ≠ 5 → k ≠ g → w'.heap[k]? = w.heap[k]?
theorem Typed.refl (w : World) (g : Nat) : Typed w w g := fun _ _ _ _ _ _ _ => rfl
theorem Typed.trans {a b c : World} {g : Nat} (h : Typed a b g) (k : Typed b c g) : Typed a c g := fun i x e fr hi he hg => by
  have h1 := h i x e fr hi he hg
  exact (k i x e fr (h1.trans hi) he hg).trans h1
theorem Typed.alloc {a b : World} {g : Nat} (h : Typed a b g) (o : Obj) : Typed a (b.alloc o) g := h.trans fun i _ _ _ hi _ _ => Below.heap_alloc b o i (Array.getElem?_eq_some_iff.1 hi).1
theorem Typed.drew {a b : World} {g : Nat} (h : Typed a b g) : Typed a b.drew g := h
theorem Typed.drewN {a b : World} {g : Nat} (h : Typed a b g) (n : Nat) : Typed a (b.drewN n) g := h
theorem Typed.set {a b : World} {g : Nat} (h : Typed a b g) (i : Nat) (u : Value) : Typed a (b.setCell ⟨g, i, none⟩ u) g := h.trans fun k _ _ _ _ _ hg => heap_setCell_other b _ k u hg
theorem Typed.own {a b c : World} {g B n : Nat} {v : Value} {xs : List Value} (h : Typed a b g) (ho : b.ownsRow B 5 1 v n xs) (hg : b.grownBy c v.ownBlock) : Typed a c g := h.trans fun k x e fr hk he _ => by
  refine hg.block k (Array.getElem?_eq_some_iff.1 hk).1 ?_
  intro hv
  rcases ho.2 with ⟨rfl, _⟩ | ⟨g', cap, cur, rfl, _, hh, _⟩
  · simp [Value.ownBlock] at hv
  · simp [Value.ownBlock] at hv
    subst hv
    rw [hh] at hk
    injection hk with hk
    injection hk with _ hk
    exact he hk.symm
theorem has_ne_own {w : World} {g B n : Nat} {t e : TypeId} {cs : Array Value} {v : Value} {xs : List Value} (h : Has w g t cs) (ho : w.ownsRow B e 1 v n xs) (hne : t ≠ e) : some g ≠ v.ownBlock := by
  rcases ho.2 with ⟨rfl, _⟩ | ⟨g', cap, cur, rfl, _, hh, _⟩
  · simp [Value.ownBlock]
  · intro hv
    simp [Value.ownBlock] at hv
    subst hv
    have h' := h.symm.trans hh
    injection h' with h'
    injection h' with _ h'
    exact hne h'
theorem own_far {w : World} {g B n : Nat} {t e : TypeId} {cs : Array Value} {v : Value} {xs : List Value} (ho : w.ownsRow B e 1 v n xs) (h : Has w g t cs) (hne : t ≠ e) (i : Nat) (u : Value) : (w.setCell ⟨g, i, none⟩ u).ownsRow B e 1 v n xs := by
  have hno := has_ne_own h ho hne
  refine ⟨ho.1, ?_⟩
  rcases ho.2 with hn | ⟨g', cap, cur, rfl, hb, hh, rest⟩
  · exact .inl hn
  · refine .inr ⟨g', cap, cur, rfl, hb, ?_, rest⟩
    rw [heap_setCell_other]; exact hh
    intro e; exact hno (by simp [Value.ownBlock]; exact e.symm)


theorem good_true {l : List UInt8} (h : 1 ≤ l.length ∧ l.length ≤ 63) : Nm.good l = true := by simp only [Nm.good, Bool.and_eq_true, decide_eq_true_eq]; exact h
theorem good_false {l : List UInt8} (h : ¬ (1 ≤ l.length ∧ l.length ≤ 63)) : Nm.good l = false := by
  rcases hg : Nm.good l with _ | _
  · rfl
  · simp only [Nm.good, Bool.and_eq_true, decide_eq_true_eq] at hg; exact absurd hg h
/-- the name with the labels that came: what 'name' answers. -/
def nameR (ls : List (List UInt8)) : Value := if 255 < (Nm.body ls).length + 1 then .tuple #[.string ⟨#[]⟩, .int .i64 2] else .tuple #[sv (Nm.glue ls), .int .i64 0]

end Go.Proofs.YtpinhpnmnfcdoaaDoor
/- Of, and the labels of a name put into a row. -/
namespace Go.Proofs.YtpinhpnmnfcdoaaDoor
open Go.RowKit Go.Lib

/-- the first label that may not be. -/
def badL (l : List UInt8) : Bool := !Nm.good l
def ofR (ls : List (List UInt8)) : Value := if ls.any badL then .tuple #[.string ⟨#[]⟩, .int .i64 10] else nameR ls

end Go.Proofs.YtpinhpnmnfcdoaaDoor
/- escaped, Bytes, cut: a text's bytes, and its pieces. -/
namespace Go.Proofs.YtpinhpnmnfcdoaaDoor
open Go.RowKit Go.Lib

/-- the two errors of strconv's lie in their variables. -/
def Lay (w : World) : Prop := (∃ tp p, w.cell? ⟨1, 0, none⟩ = some (.iface tp p)) ∧ (∃ tp p, w.cell? ⟨2, 0, none⟩ = some (.iface tp p))
/-- above both of them. -/
def layTop : Nat := Nat.max 1 2 + 1
theorem Lay.below {w w' : World} {B : Nat} (h : Lay w) (hb : Below B w w') (hB : layTop ≤ B) : Lay w' := by
  obtain ⟨⟨a, b, c⟩, d, e, f⟩ := h
  exact ⟨⟨a, b, (hb.cell (p := ⟨1, 0, none⟩) (Nat.lt_of_lt_of_le (show 1 < layTop by decide) hB)).trans c⟩, d, e, (hb.cell (p := ⟨2, 0, none⟩) (Nat.lt_of_lt_of_le (show 2 < layTop by decide) hB)).trans f⟩
theorem Lay.size {w : World} (h : Lay w) : layTop ≤ w.heap.size := by
  obtain ⟨⟨_, _, c⟩, d, e, f⟩ := h
  exact Nat.succ_le_of_lt (Nat.max_lt.2 ⟨block_lt_of_cell c, block_lt_of_cell f⟩)
theorem Lay.drewN {w : World} (h : Lay w) (n : Nat) : Lay (w.drewN n) := h
theorem Lay.drew {w : World} (h : Lay w) : Lay w.drew := h

theorem bytesWorld_below (w : World) (e : TypeId) (s : ByteArray) : Below w.heap.size w (Lib.bytesWorld w e s) := ⟨rfl, rfl, rfl, by rw [Lib.bytesWorld_size]; omega, fun j hj => Lib.bytesWorld_at_old w e s j hj⟩

/-- three bytes as a number: what ParseUint says of them. -/
theorem parse3 (a b c : UInt8) (h : Nm.dg a ∧ Nm.dg b ∧ Nm.dg c ∧ Nm.val3 a b c ≤ 255) : Lib.parseUintB 8 [a, b, c] = .ok (Nm.val3 a b c) := by
  obtain ⟨⟨a1, a2⟩, ⟨b1, b2⟩, ⟨c1, c2⟩, hv⟩ := h
  unfold Nm.val3 at *
  unfold Lib.parseUintB
  rw [if_neg (by simp)]
  simp only [Lib.parseUintM]
  rw [if_pos ⟨a1, a2⟩, if_neg (by omega), if_neg (by omega), if_pos ⟨b1, b2⟩, if_neg (by omega), if_neg (by omega), if_pos ⟨c1, c2⟩, if_neg (by omega), if_neg (by omega)]
  congr 1; omega
theorem parse3_no (a b c : UInt8) (h : ¬ (Nm.dg a ∧ Nm.dg b ∧ Nm.dg c ∧ Nm.val3 a b c ≤ 255)) : Lib.parseUintB 8 [a, b, c] = Lib.parseUintB 8 [] ∨ Lib.parseUintB 8 [a, b, c] = .range := by
  unfold Lib.parseUintB
  rw [if_neg (by simp)]
  simp only [Lib.parseUintM]
  by_cases ha : 48 ≤ a.toNat ∧ a.toNat ≤ 57
  · rw [if_pos ha, if_neg (by omega), if_neg (by omega)]
    by_cases hb : 48 ≤ b.toNat ∧ b.toNat ≤ 57
    · rw [if_pos hb, if_neg (by omega), if_neg (by omega)]
      by_cases hc : 48 ≤ c.toNat ∧ c.toNat ≤ 57
      · rw [if_pos hc, if_neg (by omega), if_pos ?_]
        · exact .inr rfl
        · have : ¬ Nm.val3 a b c ≤ 255 := fun hv => h ⟨ha, hb, hc, hv⟩
          unfold Nm.val3 at this; omega
      · rw [if_neg hc]; exact .inl rfl
    · rw [if_neg hb]; exact .inl rfl
  · rw [if_neg ha]; exact .inl rfl

/-- ParseUint of three bytes: the number, or some error. -/
theorem uint3_ok (s : ByteArray) (a b c : UInt8) (w : World) (hs : s.data.toList = [a, b, c]) (h : Nm.dg a ∧ Nm.dg b ∧ Nm.dg c ∧ Nm.val3 a b c ≤ 255) :
    Calls Tryd.prog 23 #[.string s, .int .i64 10, .int .i64 8] w fun e w' => e = .returned (.tuple #[.int .u64 (Nm.val3 a b c : Nat), .nilIface]) ∧ Below w.heap.size w w' := by
  have hz : s.size = 3 := by have := congrArg List.length hs; simpa using this
  refine (Tryd.strconv_ParseUint_10_at8_ok s (by omega) _ (by rw [hs]; exact parse3 a b c h) w).mono ?_
  rintro e w' ⟨rfl, rfl | rfl⟩
  · exact ⟨rfl, Below.refl _ _⟩
  · exact ⟨rfl, bytesWorld_below _ _ _⟩
theorem uint3_no (s : ByteArray) (a b c : UInt8) (w : World) (hL : Lay w) (hs : s.data.toList = [a, b, c]) (h : ¬ (Nm.dg a ∧ Nm.dg b ∧ Nm.dg c ∧ Nm.val3 a b c ≤ 255)) :
    Calls Tryd.prog 23 #[.string s, .int .i64 10, .int .i64 8] w fun e w' => ∃ x t a, e = .returned (.tuple #[.int .u64 x, .iface t (.pointer (some a))]) ∧ Below w.heap.size w w' := by
  have hz : s.size = 3 := by have := congrArg List.length hs; simpa using this
  obtain ⟨⟨t1, p1, h1⟩, t2, p2, h2⟩ := hL
  rcases parse3_no a b c h with hp | hp
  · refine (Tryd.strconv_ParseUint_10_at8_syntax s (by omega) (by rw [hs]; exact hp) _ w h1 (.inr ⟨_, _, rfl⟩)).mono ?_
    rintro e w' ⟨N, rfl, _, _, hb⟩
    exact ⟨_, _, _, rfl, hb⟩
  · refine (Tryd.strconv_ParseUint_10_at8_range s (by omega) (by rw [hs]; exact hp) _ w h2 (.inr ⟨_, _, rfl⟩)).mono ?_
    rintro e w' ⟨N, rfl, _, _, hb⟩
    exact ⟨_, _, _, rfl, hb⟩

theorem empty_yes {s : ByteArray} (h : s.size = 0) : s.toList.isEmpty = true := by
  rw [toList_data, List.isEmpty_iff]; exact List.eq_nil_of_length_eq_zero (by simpa using h)
theorem empty_no {s : ByteArray} (h : s.size ≠ 0) : s.toList.isEmpty = false := by
  rw [toList_data]
  rcases hs : s.data.toList with _ | ⟨c, t⟩
  · exact absurd (by have := congrArg List.length hs; simpa using this) h
  · rfl

def escR (l : List UInt8) : Value := match Nm.escd l with
  | none => .tuple #[.int .u8 0, .int .i64 0]
  | some (b, k) => .tuple #[.int .u8 (b.toNat : Nat), .int .i64 (k : Nat)]
theorem escR_none {l : List UInt8} (h : Nm.escd l = none) : escR l = .tuple #[.int .u8 0, .int .i64 0] := by unfold escR; rw [h]
theorem escR_some {l : List UInt8} {b : UInt8} {k : Nat} (h : Nm.escd l = some (b, k)) : escR l = .tuple #[.int .u8 (b.toNat : Nat), .int .i64 (k : Nat)] := by unfold escR; rw [h]
theorem at_list (s : ByteArray) (k : Nat) (h : k < s.size) : s.data.toList[k]'(by simpa using h) = s[k] := rfl

def unR (l : List UInt8) : Value := match Nm.unesc l with
  | none => .tuple #[.string ⟨#[]⟩, .int .i64 12]
  | some r => .tuple #[sv r, .int .i64 0]

/-- the bytes so far, at k. -/
def Sofar (l : List UInt8) (k : Nat) (out : List UInt8) : Prop := k ≤ l.length ∧ out.length ≤ k ∧ Nm.unesc l = (Nm.unesc (l.drop k)).map (out ++ ·)
theorem Sofar.zero (l : List UInt8) : Sofar l 0 [] := ⟨Nat.zero_le _, by simp, by simp⟩
theorem Sofar.plain {l : List UInt8} {k : Nat} {out : List UInt8} (h : Sofar l k out) (hk : k < l.length) (hc : (l[k]).toNat ≠ 92) : Sofar l (k + 1) (out ++ [l[k]]) := by
  refine ⟨hk, by have := h.2.1; simp; omega, ?_⟩
  rw [h.2.2, Nm.drop_cons hk, Nm.unesc_plain hc]
  rcases Nm.unesc (l.drop (k + 1)) with _ | r <;> simp
theorem Sofar.yes {l : List UInt8} {k : Nat} {out : List UInt8} {b : UInt8} {n : Nat} (h : Sofar l k out) (hk : k < l.length) (hc : (l[k]).toNat = 92) (he : Nm.escd (l.drop (k + 1)) = some (b, n)) : Sofar l (k + 1 + n) (out ++ [b]) := by
  have hp := Nm.escd_pos he
  simp at hp
  refine ⟨by omega, by have := h.2.1; simp; omega, ?_⟩
  rw [h.2.2, Nm.drop_cons hk, Nm.unesc_yes hc he, List.drop_drop]
  rcases Nm.unesc (l.drop (k + 1 + n)) with _ | r <;> simp
theorem Sofar.no {l : List UInt8} {k : Nat} {out : List UInt8} (h : Sofar l k out) (hk : k < l.length) (hc : (l[k]).toNat = 92) (he : Nm.escd (l.drop (k + 1)) = none) : unR l = .tuple #[.string ⟨#[]⟩, .int .i64 12] := by
  unfold unR
  rw [h.2.2, Nm.drop_cons hk, Nm.unesc_no hc he]; rfl
theorem Sofar.done {l : List UInt8} {out : List UInt8} (h : Sofar l l.length out) : unR l = .tuple #[sv out, .int .i64 0] := by
  unfold unR
  rw [h.2.2, List.drop_length, Nm.unesc_nil]; simp

end Go.Proofs.YtpinhpnmnfcdoaaDoor
/- cut, addText, Parse: the name that a text tells. -/
namespace Go.Proofs.YtpinhpnmnfcdoaaDoor
open Go.RowKit

def cutR (l : List UInt8) : Value := .tuple #[sv (Nm.cutP l).1, sv (Nm.cutP l).2.1, .bool (Nm.cutP l).2.2]
/-- how far cut is. -/
def CutAt (l : List UInt8) (k : Nat) : Prop := (k ≤ l.length ∧ Nm.cutP l = (l.take k ++ (Nm.cutP (l.drop k)).1, (Nm.cutP (l.drop k)).2)) ∨ (k = l.length + 1 ∧ Nm.cutP l = (l, [], false))
theorem CutAt.zero (l : List UInt8) : CutAt l 0 := .inl ⟨Nat.zero_le _, by simp⟩
theorem CutAt.plain {l : List UInt8} {k : Nat} (h : CutAt l k) (hk : k < l.length) (h46 : (l[k]).toNat ≠ 46) (h92 : (l[k]).toNat ≠ 92) : CutAt l (k + 1) := by
  rcases h with ⟨_, h⟩ | ⟨h, _⟩
  · refine .inl ⟨hk, ?_⟩
    rw [h, Nm.drop_cons hk, Nm.cutP_plain h46 h92, List.take_succ_eq_append_getElem hk]; simp only [List.append_assoc, List.cons_append, List.nil_append]
  · omega
theorem CutAt.back {l : List UInt8} {k : Nat} (h : CutAt l k) (hk : k < l.length) (h92 : (l[k]).toNat = 92) : CutAt l (k + 1 + 1) := by
  rcases h with ⟨_, h⟩ | ⟨h, _⟩
  · by_cases h2 : k + 1 < l.length
    · refine .inl ⟨h2, ?_⟩
      rw [h, Nm.drop_cons hk, Nm.drop_cons h2, Nm.cutP_back h92, List.take_succ_eq_append_getElem h2, List.take_succ_eq_append_getElem hk]; simp only [List.append_assoc, List.cons_append, List.nil_append]
    · refine .inr ⟨by omega, ?_⟩
      have e : l.drop k = [l[k]] := by rw [Nm.drop_cons hk, List.drop_eq_nil_of_le (by omega)]
      rw [h, e, Nm.cutP_last (by omega), ← e, List.take_append_drop]
  · omega
theorem CutAt.dot {l : List UInt8} {k : Nat} (h : CutAt l k) (hk : k < l.length) (h46 : (l[k]).toNat = 46) : cutR l = .tuple #[sv (l.take k), sv (l.drop (k + 1)), .bool true] := by
  rcases h with ⟨_, h⟩ | ⟨h, _⟩
  · unfold cutR
    rw [h, Nm.drop_cons hk, Nm.cutP_dot h46]; simp
  · omega
theorem CutAt.done {l : List UInt8} {k : Nat} (h : CutAt l k) (hk : l.length ≤ k) : cutR l = .tuple #[sv l, sv [], .bool false] := by
  unfold cutR
  rcases h with ⟨h1, h⟩ | ⟨_, h⟩
  · obtain rfl : k = l.length := by omega
    rw [h, List.drop_length, List.take_length]; simp [Nm.cutP]
  · rw [h]
theorem CutAt.le {l : List UInt8} {k : Nat} (h : CutAt l k) : k ≤ l.length + 1 := by rcases h with ⟨h, _⟩ | ⟨h, _⟩ <;> omega

/-- the pieces so far have told the labels ls; t is left. -/
def Told (l t : List UInt8) (ls : List (List UInt8)) : Prop :=
  (Nm.pieces l).2 = (Nm.pieces t).2 ∧ Nm.labelsP (Nm.pieces l).1 = match Nm.labelsP (Nm.pieces t).1 with | .error n => .error n | .ok r => .ok (ls ++ r)
theorem Told.start (l : List UInt8) : Told l l [] := ⟨rfl, by rcases Nm.labelsP (Nm.pieces l).1 with n | r <;> rfl⟩
theorem labelsP_one (p b : List UInt8) (h : Nm.unesc p = some b) (hg : 1 ≤ b.length ∧ b.length ≤ 63) : Nm.labelsP [p] = .ok [b] := by
  unfold Nm.labelsP; rw [h]; simp only [if_pos hg]; rfl
theorem labelsP_esc (p : List UInt8) (ps : List (List UInt8)) (h : Nm.unesc p = none) : Nm.labelsP (p :: ps) = .error 12 := by
  unfold Nm.labelsP; rw [h]
theorem labelsP_bad (p b : List UInt8) (ps : List (List UInt8)) (h : Nm.unesc p = some b) (hg : ¬ (1 ≤ b.length ∧ b.length ≤ 63)) : Nm.labelsP (p :: ps) = .error 10 := by
  unfold Nm.labelsP; rw [h]; simp only [if_neg hg]
theorem labelsP_cons (p b : List UInt8) (ps : List (List UInt8)) (h : Nm.unesc p = some b) (hg : 1 ≤ b.length ∧ b.length ≤ 63) :
    Nm.labelsP (p :: ps) = match Nm.labelsP ps with | .error e => .error e | .ok ls => .ok (b :: ls) := by
  conv => lhs; unfold Nm.labelsP
  rw [h]; simp only [if_pos hg]
  rcases Nm.labelsP ps with n | r <;> rfl
theorem pieces_head (t : List UInt8) : ∃ ps, (Nm.pieces t).1 = (Nm.cutP t).1 :: ps := by
  by_cases hd : (Nm.cutP t).2.2 = true
  · by_cases h2 : (Nm.cutP t).2.1.length = 0
    · exact ⟨_, by rw [Nm.pieces_whole hd h2]⟩
    · exact ⟨_, by rw [Nm.pieces_more hd h2]⟩
  · exact ⟨_, by rw [Nm.pieces_end (by simpa using hd)]⟩
theorem Told.esc {l t : List UInt8} {ls : List (List UInt8)} (h : Told l t ls) (hu : Nm.unesc (Nm.cutP t).1 = none) : Nm.labelsP (Nm.pieces l).1 = .error 12 := by
  obtain ⟨ps, hp⟩ := pieces_head t
  rw [h.2, hp, labelsP_esc _ _ hu]
theorem Told.bad {l t b : List UInt8} {ls : List (List UInt8)} (h : Told l t ls) (hu : Nm.unesc (Nm.cutP t).1 = some b) (hg : ¬ (1 ≤ b.length ∧ b.length ≤ 63)) : Nm.labelsP (Nm.pieces l).1 = .error 10 := by
  obtain ⟨ps, hp⟩ := pieces_head t
  rw [h.2, hp, labelsP_bad _ _ _ hu hg]
theorem Told.last {l t b : List UInt8} {ls : List (List UInt8)} (h : Told l t ls) (hu : Nm.unesc (Nm.cutP t).1 = some b) (hg : 1 ≤ b.length ∧ b.length ≤ 63) (hd : (Nm.cutP t).2.2 = false ∨ (Nm.cutP t).2.1.length = 0) :
    Nm.labelsP (Nm.pieces l).1 = .ok (ls ++ [b]) ∧ (Nm.pieces l).2 = (Nm.cutP t).2.2 := by
  rcases hc : (Nm.cutP t).2.2 with _ | _
  · have hp := Nm.pieces_end hc
    rw [h.2, h.1, hp, labelsP_one _ _ hu hg]; exact ⟨rfl, rfl⟩
  · have hp := Nm.pieces_whole hc (by rcases hd with hd | hd; · rw [hd] at hc; cases hc
                                      · exact hd)
    rw [h.2, h.1, hp, labelsP_one _ _ hu hg]; exact ⟨rfl, rfl⟩
theorem Told.step {l t b : List UInt8} {ls : List (List UInt8)} (h : Told l t ls) (hu : Nm.unesc (Nm.cutP t).1 = some b) (hg : 1 ≤ b.length ∧ b.length ≤ 63) (hc : (Nm.cutP t).2.2 = true) (h2 : (Nm.cutP t).2.1.length ≠ 0) :
    Told l (Nm.cutP t).2.1 (ls ++ [b]) := by
  have hp := Nm.pieces_more hc h2
  refine ⟨by rw [h.1, hp], ?_⟩
  rw [h.2, hp, labelsP_cons _ _ _ hu hg]
  rcases Nm.labelsP (Nm.pieces (Nm.cutP t).2.1).1 with n | r
  · rfl
  · simp
theorem cut_len (t : List UInt8) : (Nm.cutP t).1.length ≤ t.length ∧ (Nm.cutP t).2.1.length ≤ t.length := by
  suffices h : ∀ n (t : List UInt8), t.length ≤ n → (Nm.cutP t).1.length ≤ t.length ∧ (Nm.cutP t).2.1.length ≤ t.length from h _ t (Nat.le_refl _)
  intro n
  induction n with
  | zero => intro t h; have : t = [] := List.eq_nil_of_length_eq_zero (by omega); subst this; simp [Nm.cutP]
  | succ n ih =>
    intro t h
    match t with
    | [] => simp [Nm.cutP]
    | [c] => by_cases h46 : c.toNat = 46
             · rw [Nm.cutP_dot h46]; simp
             · rw [Nm.cutP_last h46]; simp
    | c :: d :: t =>
      by_cases h46 : c.toNat = 46
      · rw [Nm.cutP_dot h46]; simp
      · by_cases h92 : c.toNat = 92
        · rw [Nm.cutP_back h92]; have := ih t (by simp at h; omega); simp; omega
        · rw [Nm.cutP_plain h46 h92]; have := ih (d :: t) (by simpa using h); simp at this ⊢; omega

theorem nameR_eq (ls : List (List UInt8)) : nameR ls = .tuple #[sv (Nm.glueR ls).1, .int .i64 ((Nm.glueR ls).2 : Nat)] := by
  unfold nameR Nm.glueR
  by_cases h : 255 < (Nm.body ls).length + 1
  · rw [if_pos h, if_pos h]; rfl
  · rw [if_neg h, if_neg h]; rfl

def parseR (l o : List UInt8) : Value := .tuple #[sv (Nm.parse l o).1, .int .i64 ((Nm.parse l o).2 : Nat)]

theorem Check_no (s : ByteArray) (w : World) (hs : s.size ≤ 140737488355328) (h : Nm.split s.data.toList = none) :
    Calls Tryd.prog 39 #[.string s] w fun e w' => e = .returned (.int .i64 11) ∧ Below w.heap.size w w' :=
  (Check_any s w hs).mono fun _ _ ⟨a, b⟩ => ⟨by rw [a, h]; rfl, b⟩
theorem Check_yes (s : ByteArray) (ls : List (List UInt8)) (w : World) (hs : s.size ≤ 140737488355328) (h : Nm.split s.data.toList = some ls) :
    Calls Tryd.prog 39 #[.string s] w fun e w' => e = .returned (.int .i64 0) ∧ Below w.heap.size w w' :=
  (Check_any s w hs).mono fun _ _ ⟨a, b⟩ => ⟨by rw [a, h]; rfl, b⟩

end Go.Proofs.YtpinhpnmnfcdoaaDoor
/- Escape, Text: a text of bytes, of a name. -/
namespace Go.Proofs.YtpinhpnmnfcdoaaDoor
open Go.RowKit

theorem cells_new (w : World) (t : TypeId) (l : List Value) : ∀ j u, l[j]? = some u → (w.alloc (.cells l.toArray t)).cell? ((⟨w.heap.size, 0, none⟩ : Addr).add j) = some u := by
  intro j u h
  have : (⟨w.heap.size, 0, none⟩ : Addr).add j = ⟨w.heap.size, j, none⟩ := by unfold Addr.add; split <;> simp_all
  rw [this, (Has.fresh w t l.toArray).cell]; simpa using h
theorem bv1 (c : UInt8) : bv [c] = [.int .u8 (c.toNat : Nat)] := rfl
theorem bv2 (a c : UInt8) : bv [a, c] = [.int .u8 (a.toNat : Nat), .int .u8 (c.toNat : Nat)] := rfl
theorem bv4 (c : UInt8) : bv (92 :: Nm.dig3 c) = [.int .u8 92, .int .u8 (48 + (c.toNat : Int) / 100), .int .u8 (48 + (c.toNat : Int) / 10 % 10), .int .u8 (48 + (c.toNat : Int) % 10)] := by
  have := c.toNat_lt
  have h1 : (UInt8.ofNat (48 + c.toNat / 100)).toNat = 48 + c.toNat / 100 := by simp; omega
  have h2 : (UInt8.ofNat (48 + c.toNat / 10 % 10)).toNat = 48 + c.toNat / 10 % 10 := by simp; omega
  have h3 : (UInt8.ofNat (48 + c.toNat % 10)).toNat = 48 + c.toNat % 10 := by simp; omega
  simp only [bv, Nm.dig3, List.map_cons, List.map_nil, h1, h2, h3]
  simp
/-- Escape's closure at one byte: the row has what the byte becomes. -/
def EscPost (B : Nat) (w : World) (n : Nat) (xs : List Value) (l : List UInt8) (e : Ending) (w' : World) : Prop :=
  ∃ v', e = .returned v' ∧ w'.ownsRow B 5 1 v' (n + l.length) (xs ++ bv l) ∧ Below B w w'
theorem esc_done {B n : Nat} {w w1 : World} {xs : List Value} {v v' : Value} {l : List UInt8} {news : List Value} {o : Obj} (hB : B ≤ w.heap.size) (hown : w.ownsRow B 5 1 v n xs) (hl : bv l = news)
    (h1 : w1.ownsRow B 5 1 v' (n + l.length) (xs ++ news)) (hg : (w.alloc o).grownBy w1 v.ownBlock) : EscPost B w n xs l (.returned v') w1 :=
  ⟨v', rfl, by rw [hl]; exact h1, ((Below.refl _ _).alloc hB _).grown hg (by simp; omega) (fun j hj => (hown.lt j hj).1)⟩

set_option maxHeartbeats 1000000 in
set_option maxRecDepth 100000 in
theorem esc_q46 (B gq : Nat) (v : Value) (n : Nat) (xs : List Value) (c : UInt8) (w : World) (hB : B ≤ w.heap.size) (hown : w.ownsRow B 5 1 v n xs) (hn : n + 4 ≤ 140737488355328) (hq : w.cell? ⟨gq, 0, none⟩ = some (.bool true))
    (_ : ((c.toNat : Int) == 46) = true) :
    Calls Tryd.prog 77 #[v, .int .u8 (c.toNat : Int), .pointer (some ⟨gq, 0, none⟩)] w (EscPost B w n xs [c]) := by
  obtain ⟨i0, hi, hz0, hz1, hz2⟩ := info_parts Tryd.infoByte
  have h8 := c.toNat_lt
  go_enter Tryd.func77, Tryd.ntmps77
  go_wp2_with (first
          | (at_builtin
             refine wpList_append_own _ rfl (.tmp 18) (.tmp 20) _ rfl B 5 i0 _ 1 1 Tryd.underlying52 hi hz0 hz1 hz2 rfl (by decide) v n xs rfl (hown.alloc _) ⟨w.heap.size, 0, none⟩ 1 1 [.int .u8 (c.toNat : Nat)] rfl rfl (cells_new _ _ [.int .u8 (c.toNat : Nat)]) (by simp [Value.oneCell']) (by unfold maxLen; omega) (by omega) (by simp; omega) ?_
             intro v' w1 hown1 hg1 _))
  go_ret
  exact esc_done hB hown (bv1 c) hown1 hg1

set_option maxHeartbeats 1000000 in
set_option maxRecDepth 100000 in
theorem esc_b46 (B gq : Nat) (v : Value) (n : Nat) (xs : List Value) (c : UInt8) (w : World) (hB : B ≤ w.heap.size) (hown : w.ownsRow B 5 1 v n xs) (hn : n + 4 ≤ 140737488355328) (hq : w.cell? ⟨gq, 0, none⟩ = some (.bool false))
    (_ : ((c.toNat : Int) == 46) = true) :
    Calls Tryd.prog 77 #[v, .int .u8 (c.toNat : Int), .pointer (some ⟨gq, 0, none⟩)] w (EscPost B w n xs [92, c]) := by
  obtain ⟨i0, hi, hz0, hz1, hz2⟩ := info_parts Tryd.infoByte
  have h8 := c.toNat_lt
  go_enter Tryd.func77, Tryd.ntmps77
  go_wp2_with (first
          | (at_builtin
             refine wpList_append_own _ rfl (.tmp 22) (.tmp 24) _ rfl B 5 i0 _ 1 1 Tryd.underlying52 hi hz0 hz1 hz2 rfl (by decide) v n xs rfl (hown.alloc _) ⟨w.heap.size, 0, none⟩ 2 2 [.int .u8 92, .int .u8 (c.toNat : Nat)] rfl rfl (cells_new _ _ [.int .u8 92, .int .u8 (c.toNat : Nat)]) (by simp [Value.oneCell']) (by unfold maxLen; omega) (by omega) (by simp; omega) ?_
             intro v' w1 hown1 hg1 _))
  go_ret
  exact esc_done hB hown (bv2 92 c) hown1 hg1

set_option maxHeartbeats 1000000 in
set_option maxRecDepth 100000 in
theorem esc_q59 (B gq : Nat) (v : Value) (n : Nat) (xs : List Value) (c : UInt8) (w : World) (hB : B ≤ w.heap.size) (hown : w.ownsRow B 5 1 v n xs) (hn : n + 4 ≤ 140737488355328) (hq : w.cell? ⟨gq, 0, none⟩ = some (.bool true))
    (_ : ((c.toNat : Int) == 46) = false) (_ : ((c.toNat : Int) == 59) = true) :
    Calls Tryd.prog 77 #[v, .int .u8 (c.toNat : Int), .pointer (some ⟨gq, 0, none⟩)] w (EscPost B w n xs [c]) := by
  obtain ⟨i0, hi, hz0, hz1, hz2⟩ := info_parts Tryd.infoByte
  have h8 := c.toNat_lt
  go_enter Tryd.func77, Tryd.ntmps77
  go_wp2_with (first
          | (at_builtin
             refine wpList_append_own _ rfl (.tmp 18) (.tmp 20) _ rfl B 5 i0 _ 1 1 Tryd.underlying52 hi hz0 hz1 hz2 rfl (by decide) v n xs rfl (hown.alloc _) ⟨w.heap.size, 0, none⟩ 1 1 [.int .u8 (c.toNat : Nat)] rfl rfl (cells_new _ _ [.int .u8 (c.toNat : Nat)]) (by simp [Value.oneCell']) (by unfold maxLen; omega) (by omega) (by simp; omega) ?_
             intro v' w1 hown1 hg1 _))
  go_ret
  exact esc_done hB hown (bv1 c) hown1 hg1

set_option maxHeartbeats 1000000 in
set_option maxRecDepth 100000 in
theorem esc_b59 (B gq : Nat) (v : Value) (n : Nat) (xs : List Value) (c : UInt8) (w : World) (hB : B ≤ w.heap.size) (hown : w.ownsRow B 5 1 v n xs) (hn : n + 4 ≤ 140737488355328) (hq : w.cell? ⟨gq, 0, none⟩ = some (.bool false))
    (_ : ((c.toNat : Int) == 46) = false) (_ : ((c.toNat : Int) == 59) = true) :
    Calls Tryd.prog 77 #[v, .int .u8 (c.toNat : Int), .pointer (some ⟨gq, 0, none⟩)] w (EscPost B w n xs [92, c]) := by
  obtain ⟨i0, hi, hz0, hz1, hz2⟩ := info_parts Tryd.infoByte
  have h8 := c.toNat_lt
  go_enter Tryd.func77, Tryd.ntmps77
  go_wp2_with (first
          | (at_builtin
             refine wpList_append_own _ rfl (.tmp 22) (.tmp 24) _ rfl B 5 i0 _ 1 1 Tryd.underlying52 hi hz0 hz1 hz2 rfl (by decide) v n xs rfl (hown.alloc _) ⟨w.heap.size, 0, none⟩ 2 2 [.int .u8 92, .int .u8 (c.toNat : Nat)] rfl rfl (cells_new _ _ [.int .u8 92, .int .u8 (c.toNat : Nat)]) (by simp [Value.oneCell']) (by unfold maxLen; omega) (by omega) (by simp; omega) ?_
             intro v' w1 hown1 hg1 _))
  go_ret
  exact esc_done hB hown (bv2 92 c) hown1 hg1

set_option maxHeartbeats 1000000 in
set_option maxRecDepth 100000 in
theorem esc_q40 (B gq : Nat) (v : Value) (n : Nat) (xs : List Value) (c : UInt8) (w : World) (hB : B ≤ w.heap.size) (hown : w.ownsRow B 5 1 v n xs) (hn : n + 4 ≤ 140737488355328) (hq : w.cell? ⟨gq, 0, none⟩ = some (.bool true))
    (_ : ((c.toNat : Int) == 46) = false) (_ : ((c.toNat : Int) == 59) = false) (_ : ((c.toNat : Int) == 40) = true) :
    Calls Tryd.prog 77 #[v, .int .u8 (c.toNat : Int), .pointer (some ⟨gq, 0, none⟩)] w (EscPost B w n xs [c]) := by
  obtain ⟨i0, hi, hz0, hz1, hz2⟩ := info_parts Tryd.infoByte
  have h8 := c.toNat_lt
  go_enter Tryd.func77, Tryd.ntmps77
  go_wp2_with (first
          | (at_builtin
             refine wpList_append_own _ rfl (.tmp 18) (.tmp 20) _ rfl B 5 i0 _ 1 1 Tryd.underlying52 hi hz0 hz1 hz2 rfl (by decide) v n xs rfl (hown.alloc _) ⟨w.heap.size, 0, none⟩ 1 1 [.int .u8 (c.toNat : Nat)] rfl rfl (cells_new _ _ [.int .u8 (c.toNat : Nat)]) (by simp [Value.oneCell']) (by unfold maxLen; omega) (by omega) (by simp; omega) ?_
             intro v' w1 hown1 hg1 _))
  go_ret
  exact esc_done hB hown (bv1 c) hown1 hg1

set_option maxHeartbeats 1000000 in
set_option maxRecDepth 100000 in
theorem esc_b40 (B gq : Nat) (v : Value) (n : Nat) (xs : List Value) (c : UInt8) (w : World) (hB : B ≤ w.heap.size) (hown : w.ownsRow B 5 1 v n xs) (hn : n + 4 ≤ 140737488355328) (hq : w.cell? ⟨gq, 0, none⟩ = some (.bool false))
    (_ : ((c.toNat : Int) == 46) = false) (_ : ((c.toNat : Int) == 59) = false) (_ : ((c.toNat : Int) == 40) = true) :
    Calls Tryd.prog 77 #[v, .int .u8 (c.toNat : Int), .pointer (some ⟨gq, 0, none⟩)] w (EscPost B w n xs [92, c]) := by
  obtain ⟨i0, hi, hz0, hz1, hz2⟩ := info_parts Tryd.infoByte
  have h8 := c.toNat_lt
  go_enter Tryd.func77, Tryd.ntmps77
  go_wp2_with (first
          | (at_builtin
             refine wpList_append_own _ rfl (.tmp 22) (.tmp 24) _ rfl B 5 i0 _ 1 1 Tryd.underlying52 hi hz0 hz1 hz2 rfl (by decide) v n xs rfl (hown.alloc _) ⟨w.heap.size, 0, none⟩ 2 2 [.int .u8 92, .int .u8 (c.toNat : Nat)] rfl rfl (cells_new _ _ [.int .u8 92, .int .u8 (c.toNat : Nat)]) (by simp [Value.oneCell']) (by unfold maxLen; omega) (by omega) (by simp; omega) ?_
             intro v' w1 hown1 hg1 _))
  go_ret
  exact esc_done hB hown (bv2 92 c) hown1 hg1

set_option maxHeartbeats 1000000 in
set_option maxRecDepth 100000 in
theorem esc_q41 (B gq : Nat) (v : Value) (n : Nat) (xs : List Value) (c : UInt8) (w : World) (hB : B ≤ w.heap.size) (hown : w.ownsRow B 5 1 v n xs) (hn : n + 4 ≤ 140737488355328) (hq : w.cell? ⟨gq, 0, none⟩ = some (.bool true))
    (_ : ((c.toNat : Int) == 46) = false) (_ : ((c.toNat : Int) == 59) = false) (_ : ((c.toNat : Int) == 40) = false) (_ : ((c.toNat : Int) == 41) = true) :
    Calls Tryd.prog 77 #[v, .int .u8 (c.toNat : Int), .pointer (some ⟨gq, 0, none⟩)] w (EscPost B w n xs [c]) := by
  obtain ⟨i0, hi, hz0, hz1, hz2⟩ := info_parts Tryd.infoByte
  have h8 := c.toNat_lt
  go_enter Tryd.func77, Tryd.ntmps77
  go_wp2_with (first
          | (at_builtin
             refine wpList_append_own _ rfl (.tmp 18) (.tmp 20) _ rfl B 5 i0 _ 1 1 Tryd.underlying52 hi hz0 hz1 hz2 rfl (by decide) v n xs rfl (hown.alloc _) ⟨w.heap.size, 0, none⟩ 1 1 [.int .u8 (c.toNat : Nat)] rfl rfl (cells_new _ _ [.int .u8 (c.toNat : Nat)]) (by simp [Value.oneCell']) (by unfold maxLen; omega) (by omega) (by simp; omega) ?_
             intro v' w1 hown1 hg1 _))
  go_ret
  exact esc_done hB hown (bv1 c) hown1 hg1

set_option maxHeartbeats 1000000 in
set_option maxRecDepth 100000 in
theorem esc_b41 (B gq : Nat) (v : Value) (n : Nat) (xs : List Value) (c : UInt8) (w : World) (hB : B ≤ w.heap.size) (hown : w.ownsRow B 5 1 v n xs) (hn : n + 4 ≤ 140737488355328) (hq : w.cell? ⟨gq, 0, none⟩ = some (.bool false))
    (_ : ((c.toNat : Int) == 46) = false) (_ : ((c.toNat : Int) == 59) = false) (_ : ((c.toNat : Int) == 40) = false) (_ : ((c.toNat : Int) == 41) = true) :
    Calls Tryd.prog 77 #[v, .int .u8 (c.toNat : Int), .pointer (some ⟨gq, 0, none⟩)] w (EscPost B w n xs [92, c]) := by
  obtain ⟨i0, hi, hz0, hz1, hz2⟩ := info_parts Tryd.infoByte
  have h8 := c.toNat_lt
  go_enter Tryd.func77, Tryd.ntmps77
  go_wp2_with (first
          | (at_builtin
             refine wpList_append_own _ rfl (.tmp 22) (.tmp 24) _ rfl B 5 i0 _ 1 1 Tryd.underlying52 hi hz0 hz1 hz2 rfl (by decide) v n xs rfl (hown.alloc _) ⟨w.heap.size, 0, none⟩ 2 2 [.int .u8 92, .int .u8 (c.toNat : Nat)] rfl rfl (cells_new _ _ [.int .u8 92, .int .u8 (c.toNat : Nat)]) (by simp [Value.oneCell']) (by unfold maxLen; omega) (by omega) (by simp; omega) ?_
             intro v' w1 hown1 hg1 _))
  go_ret
  exact esc_done hB hown (bv2 92 c) hown1 hg1

set_option maxHeartbeats 1000000 in
set_option maxRecDepth 100000 in
theorem esc_q64 (B gq : Nat) (v : Value) (n : Nat) (xs : List Value) (c : UInt8) (w : World) (hB : B ≤ w.heap.size) (hown : w.ownsRow B 5 1 v n xs) (hn : n + 4 ≤ 140737488355328) (hq : w.cell? ⟨gq, 0, none⟩ = some (.bool true))
    (_ : ((c.toNat : Int) == 46) = false) (_ : ((c.toNat : Int) == 59) = false) (_ : ((c.toNat : Int) == 40) = false) (_ : ((c.toNat : Int) == 41) = false) (_ : ((c.toNat : Int) == 64) = true) :
    Calls Tryd.prog 77 #[v, .int .u8 (c.toNat : Int), .pointer (some ⟨gq, 0, none⟩)] w (EscPost B w n xs [c]) := by
  obtain ⟨i0, hi, hz0, hz1, hz2⟩ := info_parts Tryd.infoByte
  have h8 := c.toNat_lt
  go_enter Tryd.func77, Tryd.ntmps77
  go_wp2_with (first
          | (at_builtin
             refine wpList_append_own _ rfl (.tmp 18) (.tmp 20) _ rfl B 5 i0 _ 1 1 Tryd.underlying52 hi hz0 hz1 hz2 rfl (by decide) v n xs rfl (hown.alloc _) ⟨w.heap.size, 0, none⟩ 1 1 [.int .u8 (c.toNat : Nat)] rfl rfl (cells_new _ _ [.int .u8 (c.toNat : Nat)]) (by simp [Value.oneCell']) (by unfold maxLen; omega) (by omega) (by simp; omega) ?_
             intro v' w1 hown1 hg1 _))
  go_ret
  exact esc_done hB hown (bv1 c) hown1 hg1

set_option maxHeartbeats 1000000 in
set_option maxRecDepth 100000 in
theorem esc_b64 (B gq : Nat) (v : Value) (n : Nat) (xs : List Value) (c : UInt8) (w : World) (hB : B ≤ w.heap.size) (hown : w.ownsRow B 5 1 v n xs) (hn : n + 4 ≤ 140737488355328) (hq : w.cell? ⟨gq, 0, none⟩ = some (.bool false))
    (_ : ((c.toNat : Int) == 46) = false) (_ : ((c.toNat : Int) == 59) = false) (_ : ((c.toNat : Int) == 40) = false) (_ : ((c.toNat : Int) == 41) = false) (_ : ((c.toNat : Int) == 64) = true) :
    Calls Tryd.prog 77 #[v, .int .u8 (c.toNat : Int), .pointer (some ⟨gq, 0, none⟩)] w (EscPost B w n xs [92, c]) := by
  obtain ⟨i0, hi, hz0, hz1, hz2⟩ := info_parts Tryd.infoByte
  have h8 := c.toNat_lt
  go_enter Tryd.func77, Tryd.ntmps77
  go_wp2_with (first
          | (at_builtin
             refine wpList_append_own _ rfl (.tmp 22) (.tmp 24) _ rfl B 5 i0 _ 1 1 Tryd.underlying52 hi hz0 hz1 hz2 rfl (by decide) v n xs rfl (hown.alloc _) ⟨w.heap.size, 0, none⟩ 2 2 [.int .u8 92, .int .u8 (c.toNat : Nat)] rfl rfl (cells_new _ _ [.int .u8 92, .int .u8 (c.toNat : Nat)]) (by simp [Value.oneCell']) (by unfold maxLen; omega) (by omega) (by simp; omega) ?_
             intro v' w1 hown1 hg1 _))
  go_ret
  exact esc_done hB hown (bv2 92 c) hown1 hg1

set_option maxHeartbeats 1000000 in
set_option maxRecDepth 100000 in
theorem esc_q36 (B gq : Nat) (v : Value) (n : Nat) (xs : List Value) (c : UInt8) (w : World) (hB : B ≤ w.heap.size) (hown : w.ownsRow B 5 1 v n xs) (hn : n + 4 ≤ 140737488355328) (hq : w.cell? ⟨gq, 0, none⟩ = some (.bool true))
    (_ : ((c.toNat : Int) == 46) = false) (_ : ((c.toNat : Int) == 59) = false) (_ : ((c.toNat : Int) == 40) = false) (_ : ((c.toNat : Int) == 41) = false) (_ : ((c.toNat : Int) == 64) = false) (_ : ((c.toNat : Int) == 36) = true) :
    Calls Tryd.prog 77 #[v, .int .u8 (c.toNat : Int), .pointer (some ⟨gq, 0, none⟩)] w (EscPost B w n xs [c]) := by
  obtain ⟨i0, hi, hz0, hz1, hz2⟩ := info_parts Tryd.infoByte
  have h8 := c.toNat_lt
  go_enter Tryd.func77, Tryd.ntmps77
  go_wp2_with (first
          | (at_builtin
             refine wpList_append_own _ rfl (.tmp 18) (.tmp 20) _ rfl B 5 i0 _ 1 1 Tryd.underlying52 hi hz0 hz1 hz2 rfl (by decide) v n xs rfl (hown.alloc _) ⟨w.heap.size, 0, none⟩ 1 1 [.int .u8 (c.toNat : Nat)] rfl rfl (cells_new _ _ [.int .u8 (c.toNat : Nat)]) (by simp [Value.oneCell']) (by unfold maxLen; omega) (by omega) (by simp; omega) ?_
             intro v' w1 hown1 hg1 _))
  go_ret
  exact esc_done hB hown (bv1 c) hown1 hg1

set_option maxHeartbeats 1000000 in
set_option maxRecDepth 100000 in
theorem esc_b36 (B gq : Nat) (v : Value) (n : Nat) (xs : List Value) (c : UInt8) (w : World) (hB : B ≤ w.heap.size) (hown : w.ownsRow B 5 1 v n xs) (hn : n + 4 ≤ 140737488355328) (hq : w.cell? ⟨gq, 0, none⟩ = some (.bool false))
    (_ : ((c.toNat : Int) == 46) = false) (_ : ((c.toNat : Int) == 59) = false) (_ : ((c.toNat : Int) == 40) = false) (_ : ((c.toNat : Int) == 41) = false) (_ : ((c.toNat : Int) == 64) = false) (_ : ((c.toNat : Int) == 36) = true) :
    Calls Tryd.prog 77 #[v, .int .u8 (c.toNat : Int), .pointer (some ⟨gq, 0, none⟩)] w (EscPost B w n xs [92, c]) := by
  obtain ⟨i0, hi, hz0, hz1, hz2⟩ := info_parts Tryd.infoByte
  have h8 := c.toNat_lt
  go_enter Tryd.func77, Tryd.ntmps77
  go_wp2_with (first
          | (at_builtin
             refine wpList_append_own _ rfl (.tmp 22) (.tmp 24) _ rfl B 5 i0 _ 1 1 Tryd.underlying52 hi hz0 hz1 hz2 rfl (by decide) v n xs rfl (hown.alloc _) ⟨w.heap.size, 0, none⟩ 2 2 [.int .u8 92, .int .u8 (c.toNat : Nat)] rfl rfl (cells_new _ _ [.int .u8 92, .int .u8 (c.toNat : Nat)]) (by simp [Value.oneCell']) (by unfold maxLen; omega) (by omega) (by simp; omega) ?_
             intro v' w1 hown1 hg1 _))
  go_ret
  exact esc_done hB hown (bv2 92 c) hown1 hg1

set_option maxHeartbeats 1000000 in
set_option maxRecDepth 100000 in
theorem esc_m34 (B gq : Nat) (q : Bool) (v : Value) (n : Nat) (xs : List Value) (c : UInt8) (w : World) (hB : B ≤ w.heap.size) (hown : w.ownsRow B 5 1 v n xs) (hn : n + 4 ≤ 140737488355328) (_hq : w.cell? ⟨gq, 0, none⟩ = some (.bool q))
    (_ : ((c.toNat : Int) == 46) = false) (_ : ((c.toNat : Int) == 59) = false) (_ : ((c.toNat : Int) == 40) = false) (_ : ((c.toNat : Int) == 41) = false) (_ : ((c.toNat : Int) == 64) = false) (_ : ((c.toNat : Int) == 36) = false) (_ : ((c.toNat : Int) == 34) = true) :
    Calls Tryd.prog 77 #[v, .int .u8 (c.toNat : Int), .pointer (some ⟨gq, 0, none⟩)] w (EscPost B w n xs [92, c]) := by
  obtain ⟨i0, hi, hz0, hz1, hz2⟩ := info_parts Tryd.infoByte
  have h8 := c.toNat_lt
  go_enter Tryd.func77, Tryd.ntmps77
  go_wp2_with (first
          | (at_builtin
             refine wpList_append_own _ rfl (.tmp 22) (.tmp 24) _ rfl B 5 i0 _ 1 1 Tryd.underlying52 hi hz0 hz1 hz2 rfl (by decide) v n xs rfl (hown.alloc _) ⟨w.heap.size, 0, none⟩ 2 2 [.int .u8 92, .int .u8 (c.toNat : Nat)] rfl rfl (cells_new _ _ [.int .u8 92, .int .u8 (c.toNat : Nat)]) (by simp [Value.oneCell']) (by unfold maxLen; omega) (by omega) (by simp; omega) ?_
             intro v' w1 hown1 hg1 _))
  go_ret
  exact esc_done hB hown (bv2 92 c) hown1 hg1

set_option maxHeartbeats 1000000 in
set_option maxRecDepth 100000 in
theorem esc_m92 (B gq : Nat) (q : Bool) (v : Value) (n : Nat) (xs : List Value) (c : UInt8) (w : World) (hB : B ≤ w.heap.size) (hown : w.ownsRow B 5 1 v n xs) (hn : n + 4 ≤ 140737488355328) (_hq : w.cell? ⟨gq, 0, none⟩ = some (.bool q))
    (_ : ((c.toNat : Int) == 46) = false) (_ : ((c.toNat : Int) == 59) = false) (_ : ((c.toNat : Int) == 40) = false) (_ : ((c.toNat : Int) == 41) = false) (_ : ((c.toNat : Int) == 64) = false) (_ : ((c.toNat : Int) == 36) = false) (_ : ((c.toNat : Int) == 34) = false) (_ : ((c.toNat : Int) == 92) = true) :
    Calls Tryd.prog 77 #[v, .int .u8 (c.toNat : Int), .pointer (some ⟨gq, 0, none⟩)] w (EscPost B w n xs [92, c]) := by
  obtain ⟨i0, hi, hz0, hz1, hz2⟩ := info_parts Tryd.infoByte
  have h8 := c.toNat_lt
  go_enter Tryd.func77, Tryd.ntmps77
  go_wp2_with (first
          | (at_builtin
             refine wpList_append_own _ rfl (.tmp 22) (.tmp 24) _ rfl B 5 i0 _ 1 1 Tryd.underlying52 hi hz0 hz1 hz2 rfl (by decide) v n xs rfl (hown.alloc _) ⟨w.heap.size, 0, none⟩ 2 2 [.int .u8 92, .int .u8 (c.toNat : Nat)] rfl rfl (cells_new _ _ [.int .u8 92, .int .u8 (c.toNat : Nat)]) (by simp [Value.oneCell']) (by unfold maxLen; omega) (by omega) (by simp; omega) ?_
             intro v' w1 hown1 hg1 _))
  go_ret
  exact esc_done hB hown (bv2 92 c) hown1 hg1

set_option maxHeartbeats 1000000 in
set_option maxRecDepth 100000 in
theorem esc_clear (B gq : Nat) (q : Bool) (v : Value) (n : Nat) (xs : List Value) (c : UInt8) (w : World) (hB : B ≤ w.heap.size) (hown : w.ownsRow B 5 1 v n xs) (hn : n + 4 ≤ 140737488355328) (_hq : w.cell? ⟨gq, 0, none⟩ = some (.bool q))
    (_ : ((c.toNat : Int) == 46) = false) (_ : ((c.toNat : Int) == 59) = false) (_ : ((c.toNat : Int) == 40) = false) (_ : ((c.toNat : Int) == 41) = false) (_ : ((c.toNat : Int) == 64) = false) (_ : ((c.toNat : Int) == 36) = false) (_ : ((c.toNat : Int) == 34) = false) (_ : ((c.toNat : Int) == 92) = false) (_ : 33 ≤ c.toNat) (_ : c.toNat ≤ 126) :
    Calls Tryd.prog 77 #[v, .int .u8 (c.toNat : Int), .pointer (some ⟨gq, 0, none⟩)] w (EscPost B w n xs [c]) := by
  obtain ⟨i0, hi, hz0, hz1, hz2⟩ := info_parts Tryd.infoByte
  have h8 := c.toNat_lt
  go_enter Tryd.func77, Tryd.ntmps77
  go_wp2_with (first
          | (at_builtin
             refine wpList_append_own _ rfl (.tmp 39) (.tmp 41) _ rfl B 5 i0 _ 1 1 Tryd.underlying52 hi hz0 hz1 hz2 rfl (by decide) v n xs rfl (hown.alloc _) ⟨w.heap.size, 0, none⟩ 1 1 [.int .u8 (c.toNat : Nat)] rfl rfl (cells_new _ _ [.int .u8 (c.toNat : Nat)]) (by simp [Value.oneCell']) (by unfold maxLen; omega) (by omega) (by simp; omega) ?_
             intro v' w1 hown1 hg1 _))
  go_ret
  exact esc_done hB hown (bv1 c) hown1 hg1

set_option maxHeartbeats 1000000 in
set_option maxRecDepth 100000 in
theorem esc_blank (B gq : Nat) (v : Value) (n : Nat) (xs : List Value) (c : UInt8) (w : World) (hB : B ≤ w.heap.size) (hown : w.ownsRow B 5 1 v n xs) (hn : n + 4 ≤ 140737488355328) (hq : w.cell? ⟨gq, 0, none⟩ = some (.bool true))
    (_ : ((c.toNat : Int) == 46) = false) (_ : ((c.toNat : Int) == 59) = false) (_ : ((c.toNat : Int) == 40) = false) (_ : ((c.toNat : Int) == 41) = false) (_ : ((c.toNat : Int) == 64) = false) (_ : ((c.toNat : Int) == 36) = false) (_ : ((c.toNat : Int) == 34) = false) (_ : ((c.toNat : Int) == 92) = false) (_ : c.toNat < 33) (_ : ((c.toNat : Int) == 32) = true) :
    Calls Tryd.prog 77 #[v, .int .u8 (c.toNat : Int), .pointer (some ⟨gq, 0, none⟩)] w (EscPost B w n xs [c]) := by
  obtain ⟨i0, hi, hz0, hz1, hz2⟩ := info_parts Tryd.infoByte
  have h8 := c.toNat_lt
  go_enter Tryd.func77, Tryd.ntmps77
  go_wp2_with (first
          | (at_builtin
             refine wpList_append_own _ rfl (.tmp 39) (.tmp 41) _ rfl B 5 i0 _ 1 1 Tryd.underlying52 hi hz0 hz1 hz2 rfl (by decide) v n xs rfl (hown.alloc _) ⟨w.heap.size, 0, none⟩ 1 1 [.int .u8 (c.toNat : Nat)] rfl rfl (cells_new _ _ [.int .u8 (c.toNat : Nat)]) (by simp [Value.oneCell']) (by unfold maxLen; omega) (by omega) (by simp; omega) ?_
             intro v' w1 hown1 hg1 _))
  go_ret
  exact esc_done hB hown (bv1 c) hown1 hg1

set_option maxHeartbeats 1000000 in
set_option maxRecDepth 100000 in
theorem esc_blankNo (B gq : Nat) (v : Value) (n : Nat) (xs : List Value) (c : UInt8) (w : World) (hB : B ≤ w.heap.size) (hown : w.ownsRow B 5 1 v n xs) (hn : n + 4 ≤ 140737488355328) (hq : w.cell? ⟨gq, 0, none⟩ = some (.bool false))
    (_ : ((c.toNat : Int) == 46) = false) (_ : ((c.toNat : Int) == 59) = false) (_ : ((c.toNat : Int) == 40) = false) (_ : ((c.toNat : Int) == 41) = false) (_ : ((c.toNat : Int) == 64) = false) (_ : ((c.toNat : Int) == 36) = false) (_ : ((c.toNat : Int) == 34) = false) (_ : ((c.toNat : Int) == 92) = false) (_ : c.toNat < 33) (_ : ((c.toNat : Int) == 32) = true) :
    Calls Tryd.prog 77 #[v, .int .u8 (c.toNat : Int), .pointer (some ⟨gq, 0, none⟩)] w (EscPost B w n xs (92 :: Nm.dig3 c)) := by
  obtain ⟨i0, hi, hz0, hz1, hz2⟩ := info_parts Tryd.infoByte
  have h8 := c.toNat_lt
  go_enter Tryd.func77, Tryd.ntmps77
  go_wp2_with (first
          | (at_builtin
             refine wpList_append_own _ rfl (.tmp 43) (.tmp 54) _ rfl B 5 i0 _ 1 1 Tryd.underlying52 hi hz0 hz1 hz2 rfl (by decide) v n xs rfl (hown.alloc _) ⟨w.heap.size, 0, none⟩ 4 4 [.int .u8 92, .int .u8 (48 + (c.toNat : Int) / 100), .int .u8 (48 + (c.toNat : Int) / 10 % 10), .int .u8 (48 + (c.toNat : Int) % 10)] rfl rfl (cells_new _ _ [.int .u8 92, .int .u8 (48 + (c.toNat : Int) / 100), .int .u8 (48 + (c.toNat : Int) / 10 % 10), .int .u8 (48 + (c.toNat : Int) % 10)]) (by simp [Value.oneCell']) (by unfold maxLen; omega) (by omega) (by simp; omega) ?_
             intro v' w1 hown1 hg1 _))
  go_ret
  exact esc_done hB hown (bv4 c) hown1 hg1

set_option maxHeartbeats 1000000 in
set_option maxRecDepth 100000 in
theorem esc_low (B gq : Nat) (q : Bool) (v : Value) (n : Nat) (xs : List Value) (c : UInt8) (w : World) (hB : B ≤ w.heap.size) (hown : w.ownsRow B 5 1 v n xs) (hn : n + 4 ≤ 140737488355328) (_hq : w.cell? ⟨gq, 0, none⟩ = some (.bool q))
    (_ : ((c.toNat : Int) == 46) = false) (_ : ((c.toNat : Int) == 59) = false) (_ : ((c.toNat : Int) == 40) = false) (_ : ((c.toNat : Int) == 41) = false) (_ : ((c.toNat : Int) == 64) = false) (_ : ((c.toNat : Int) == 36) = false) (_ : ((c.toNat : Int) == 34) = false) (_ : ((c.toNat : Int) == 92) = false) (_ : c.toNat < 33) (_ : ((c.toNat : Int) == 32) = false) :
    Calls Tryd.prog 77 #[v, .int .u8 (c.toNat : Int), .pointer (some ⟨gq, 0, none⟩)] w (EscPost B w n xs (92 :: Nm.dig3 c)) := by
  obtain ⟨i0, hi, hz0, hz1, hz2⟩ := info_parts Tryd.infoByte
  have h8 := c.toNat_lt
  go_enter Tryd.func77, Tryd.ntmps77
  go_wp2_with (first
          | (at_builtin
             refine wpList_append_own _ rfl (.tmp 43) (.tmp 54) _ rfl B 5 i0 _ 1 1 Tryd.underlying52 hi hz0 hz1 hz2 rfl (by decide) v n xs rfl (hown.alloc _) ⟨w.heap.size, 0, none⟩ 4 4 [.int .u8 92, .int .u8 (48 + (c.toNat : Int) / 100), .int .u8 (48 + (c.toNat : Int) / 10 % 10), .int .u8 (48 + (c.toNat : Int) % 10)] rfl rfl (cells_new _ _ [.int .u8 92, .int .u8 (48 + (c.toNat : Int) / 100), .int .u8 (48 + (c.toNat : Int) / 10 % 10), .int .u8 (48 + (c.toNat : Int) % 10)]) (by simp [Value.oneCell']) (by unfold maxLen; omega) (by omega) (by simp; omega) ?_
             intro v' w1 hown1 hg1 _))
  go_ret
  exact esc_done hB hown (bv4 c) hown1 hg1

set_option maxHeartbeats 1000000 in
set_option maxRecDepth 100000 in
theorem esc_high (B gq : Nat) (q : Bool) (v : Value) (n : Nat) (xs : List Value) (c : UInt8) (w : World) (hB : B ≤ w.heap.size) (hown : w.ownsRow B 5 1 v n xs) (hn : n + 4 ≤ 140737488355328) (_hq : w.cell? ⟨gq, 0, none⟩ = some (.bool q))
    (_ : ((c.toNat : Int) == 46) = false) (_ : ((c.toNat : Int) == 59) = false) (_ : ((c.toNat : Int) == 40) = false) (_ : ((c.toNat : Int) == 41) = false) (_ : ((c.toNat : Int) == 64) = false) (_ : ((c.toNat : Int) == 36) = false) (_ : ((c.toNat : Int) == 34) = false) (_ : ((c.toNat : Int) == 92) = false) (_ : 126 < c.toNat) (_ : ((c.toNat : Int) == 32) = false) :
    Calls Tryd.prog 77 #[v, .int .u8 (c.toNat : Int), .pointer (some ⟨gq, 0, none⟩)] w (EscPost B w n xs (92 :: Nm.dig3 c)) := by
  obtain ⟨i0, hi, hz0, hz1, hz2⟩ := info_parts Tryd.infoByte
  have h8 := c.toNat_lt
  go_enter Tryd.func77, Tryd.ntmps77
  go_wp2_with (first
          | (at_builtin
             refine wpList_append_own _ rfl (.tmp 43) (.tmp 54) _ rfl B 5 i0 _ 1 1 Tryd.underlying52 hi hz0 hz1 hz2 rfl (by decide) v n xs rfl (hown.alloc _) ⟨w.heap.size, 0, none⟩ 4 4 [.int .u8 92, .int .u8 (48 + (c.toNat : Int) / 100), .int .u8 (48 + (c.toNat : Int) / 10 % 10), .int .u8 (48 + (c.toNat : Int) % 10)] rfl rfl (cells_new _ _ [.int .u8 92, .int .u8 (48 + (c.toNat : Int) / 100), .int .u8 (48 + (c.toNat : Int) / 10 % 10), .int .u8 (48 + (c.toNat : Int) % 10)]) (by simp [Value.oneCell']) (by unfold maxLen; omega) (by omega) (by simp; omega) ?_
             intro v' w1 hown1 hg1 _))
  go_ret
  exact esc_done hB hown (bv4 c) hown1 hg1

theorem ne {c : UInt8} {n : Nat} (h : c.toNat ≠ n) : ((c.toNat : Int) == (n : Int)) = false := beq_eq_false_iff_ne.2 (by omega)
theorem eq {c : UInt8} {n : Nat} (h : c.toNat = n) : ((c.toNat : Int) == (n : Int)) = true := beq_iff_eq.2 (by omega)
theorem escape1_any (B gq : Nat) (q : Bool) (v : Value) (n : Nat) (xs : List Value) (c : UInt8) (w : World) (hB : B ≤ w.heap.size) (hown : w.ownsRow B 5 1 v n xs) (hn : n + 4 ≤ 140737488355328) (hq : w.cell? ⟨gq, 0, none⟩ = some (.bool q)) :
    Calls Tryd.prog 77 #[v, .int .u8 (c.toNat : Int), .pointer (some ⟨gq, 0, none⟩)] w (EscPost B w n xs (Nm.esc1 q c)) := by
  by_cases h46 : c.toNat = 46
  · have e : Nm.esc1 q c = if q then [c] else [92, c] := by cases q <;> simp [Nm.esc1, Nm.mark, Nm.clear, h46]
    rw [e]
    cases q
    · exact esc_b46 B gq v n xs c w hB hown hn hq  (eq h46)
    · exact esc_q46 B gq v n xs c w hB hown hn hq  (eq h46)
  by_cases h59 : c.toNat = 59
  · have e : Nm.esc1 q c = if q then [c] else [92, c] := by cases q <;> simp [Nm.esc1, Nm.mark, Nm.clear, h59]
    rw [e]
    cases q
    · exact esc_b59 B gq v n xs c w hB hown hn hq (ne h46) (eq h59)
    · exact esc_q59 B gq v n xs c w hB hown hn hq (ne h46) (eq h59)
  by_cases h40 : c.toNat = 40
  · have e : Nm.esc1 q c = if q then [c] else [92, c] := by cases q <;> simp [Nm.esc1, Nm.mark, Nm.clear, h40]
    rw [e]
    cases q
    · exact esc_b40 B gq v n xs c w hB hown hn hq (ne h46) (ne h59) (eq h40)
    · exact esc_q40 B gq v n xs c w hB hown hn hq (ne h46) (ne h59) (eq h40)
  by_cases h41 : c.toNat = 41
  · have e : Nm.esc1 q c = if q then [c] else [92, c] := by cases q <;> simp [Nm.esc1, Nm.mark, Nm.clear, h41]
    rw [e]
    cases q
    · exact esc_b41 B gq v n xs c w hB hown hn hq (ne h46) (ne h59) (ne h40) (eq h41)
    · exact esc_q41 B gq v n xs c w hB hown hn hq (ne h46) (ne h59) (ne h40) (eq h41)
  by_cases h64 : c.toNat = 64
  · have e : Nm.esc1 q c = if q then [c] else [92, c] := by cases q <;> simp [Nm.esc1, Nm.mark, Nm.clear, h64]
    rw [e]
    cases q
    · exact esc_b64 B gq v n xs c w hB hown hn hq (ne h46) (ne h59) (ne h40) (ne h41) (eq h64)
    · exact esc_q64 B gq v n xs c w hB hown hn hq (ne h46) (ne h59) (ne h40) (ne h41) (eq h64)
  by_cases h36 : c.toNat = 36
  · have e : Nm.esc1 q c = if q then [c] else [92, c] := by cases q <;> simp [Nm.esc1, Nm.mark, Nm.clear, h36]
    rw [e]
    cases q
    · exact esc_b36 B gq v n xs c w hB hown hn hq (ne h46) (ne h59) (ne h40) (ne h41) (ne h64) (eq h36)
    · exact esc_q36 B gq v n xs c w hB hown hn hq (ne h46) (ne h59) (ne h40) (ne h41) (ne h64) (eq h36)
  by_cases h34 : c.toNat = 34
  · have e : Nm.esc1 q c = [92, c] := by simp [Nm.esc1, Nm.mark, h34]
    rw [e]
    exact esc_m34 B gq q v n xs c w hB hown hn hq (ne h46) (ne h59) (ne h40) (ne h41) (ne h64) (ne h36) (eq h34)
  by_cases h92 : c.toNat = 92
  · have e : Nm.esc1 q c = [92, c] := by simp [Nm.esc1, Nm.mark, h92]
    rw [e]
    exact esc_m92 B gq q v n xs c w hB hown hn hq (ne h46) (ne h59) (ne h40) (ne h41) (ne h64) (ne h36) (ne h34) (eq h92)
  have hm : Nm.mark q c = false := by simp [Nm.mark, h46, h59, h40, h41, h64, h36, h34, h92]
  by_cases hlo : 33 ≤ c.toNat
  · by_cases hhi : c.toNat ≤ 126
    · have e : Nm.esc1 q c = [c] := by
        have : Nm.clear q c = true := by simp [Nm.clear]; omega
        unfold Nm.esc1; rw [hm, this]; rfl
      rw [e]; exact esc_clear B gq q v n xs c w hB hown hn hq (ne h46) (ne h59) (ne h40) (ne h41) (ne h64) (ne h36) (ne h34) (ne h92) hlo hhi
    · have e : Nm.esc1 q c = 92 :: Nm.dig3 c := by
        have : Nm.clear q c = false := by simp [Nm.clear]; omega
        unfold Nm.esc1; rw [hm, this]; rfl
      rw [e]; exact esc_high B gq q v n xs c w hB hown hn hq (ne h46) (ne h59) (ne h40) (ne h41) (ne h64) (ne h36) (ne h34) (ne h92) (by omega) (ne (n := 32) (by omega))
  · by_cases h32 : c.toNat = 32
    · cases q
      · have e : Nm.esc1 false c = 92 :: Nm.dig3 c := by
          have : Nm.clear false c = false := by simp [Nm.clear]; omega
          unfold Nm.esc1; rw [hm, this]; rfl
        rw [e]; exact esc_blankNo B gq v n xs c w hB hown hn hq (ne h46) (ne h59) (ne h40) (ne h41) (ne h64) (ne h36) (ne h34) (ne h92) (by omega) (eq h32)
      · have e : Nm.esc1 true c = [c] := by
          have : Nm.clear true c = true := by simp [Nm.clear, h32]
          unfold Nm.esc1; rw [hm, this]; rfl
        rw [e]; exact esc_blank B gq v n xs c w hB hown hn hq (ne h46) (ne h59) (ne h40) (ne h41) (ne h64) (ne h36) (ne h34) (ne h92) (by omega) (eq h32)
    · have e : Nm.esc1 q c = 92 :: Nm.dig3 c := by
        have : Nm.clear q c = false := by simp [Nm.clear, h32]; omega
        unfold Nm.esc1; rw [hm, this]; rfl
      rw [e]; exact esc_low B gq q v n xs c w hB hown hn hq (ne h46) (ne h59) (ne h40) (ne h41) (ne h64) (ne h36) (ne h34) (ne h92) (by omega) (ne h32)

set_option maxHeartbeats 1000000 in
set_option maxRecDepth 100000 in
theorem each_esc (s : ByteArray) (gq : Nat) (q : Bool) (w : World) (hq : w.cell? ⟨gq, 0, none⟩ = some (.bool q)) (hs : s.size ≤ 35184372088832) :
    Calls Tryd.prog 41 #[.string s, .func (.func 77) #[] #[.pointer (some ⟨gq, 0, none⟩)]] w fun e w' => e = .returned (sv (Nm.esc q s.data.toList)) ∧ Below w.heap.size w w' := by
  obtain ⟨i0, hi, hz0, hz1, hz2⟩ := info_parts Tryd.infoByte
  have hgl := block_lt_of_cell hq
  have HQ := Lib.hid hq
  clear hq
  go_enter Tryd.func41, Tryd.ntmps41
  go_wp2_with (first | (at_make; refine wpList_make_own _ rfl _ _ 52 rfl w.heap.size 5 i0 _ 1 Tryd.underlying52 hi hz0 hz1 .i64 .i64 s.size s.size rfl rfl rfl (by rw [hz2]; omega) (by unfold maxLen; omega) (Nat.le_refl _) ?_; intro w1 hown1 hg1))
  go_loopw [5, 12] (fun v i wr => ∃ k : Nat, k ≤ s.size ∧ i = .int .i64 k ∧ wr.ownsRow w.heap.size 5 1 v (Nm.esc q (s.data.toList.take k)).length (bv (Nm.esc q (s.data.toList.take k))) ∧ Below w.heap.size w wr) (fun _ i _ => s.size - (intOf i).toNat)
  case atStart => exact ⟨0, Nat.zero_le _, rfl, hown1, (Below.refl _ _).grown hg1 (Nat.le_refl _) (by simp)⟩
  case round =>
    obtain ⟨k, hk, rfl, hown, hb⟩ := hrel
    have HO := Lib.hid hown
    have HB := Lib.hid hb
    have hbs := hb.size
    have hq1 : wr.cell? ⟨gq, 0, none⟩ = some (.bool q) := (hb.cell (p := ⟨gq, 0, none⟩) hgl).trans HQ.out
    have HQ1 := Lib.hid hq1
    clear hown hb hq1
    by_cases hlt : k < s.size
    · have hts : s.data.toList.take (k + 1) = s.data.toList.take k ++ [s[k]] := List.take_succ_eq_append_getElem (by simpa using hlt)
      have hel := Nm.esc_len q (s.data.toList.take k)
      have htl : (s.data.toList.take k).length ≤ k := List.length_take_le _ _
      have HTS : Hid (Nm.esc q (s.data.toList.take (k + 1)) = Nm.esc q (s.data.toList.take k) ++ Nm.esc1 q s[k]) := by rw [Hid, hts, Nm.esc_snoc]
      clear hts
      generalize Nm.esc q (s.data.toList.take k) = l at *
      have hll : l.length ≤ 4 * k := by omega
      clear hel htl
      go_wp2_with (first | (go_at_call 77; refine (escape1_any w.heap.size gq q _ l.length _ s[k] _ hbs HO.out (by omega) HQ1.out).mono ?_; rintro e w2 ⟨v', rfl, hown', hb'⟩))
      go_roundw
      case rel => exact ⟨k + 1, by omega, by go_num, by rw [HTS.out, List.length_append, bv_append]; exact hown', HB.out.trans hb'⟩
      case measure => simp [intOf]; omega
    · obtain rfl : k = s.size := by omega
      have HO' : Hid (wr.ownsRow w.heap.size 5 1 u5 (Nm.esc q s.data.toList).length (bv (Nm.esc q s.data.toList))) := by
        have := HO.out
        rw [List.take_of_length_le (by simp)] at this
        exact this
      clear HO
      go_wp2_with (refine wpList_convert_own _ rfl 52 9 (.tmp 22) rfl 5 Tryd.underlying52 Tryd.underlying5 Tryd.underlying9 w.heap.size _ _ (Nm.esc q s.data.toList) rfl HO'.out ?_)
      go_ret
      exact ⟨rfl, HB.out⟩

theorem Escape_any (s : ByteArray) (q : Bool) (w : World) (hs : s.size ≤ 35184372088832) :
    Calls Tryd.prog 57 #[.string s, .bool q] w fun e w' => e = .returned (sv (Nm.esc q s.data.toList)) ∧ Below w.heap.size w w' := by
  have hmf : ∀ (fn : Fn) (first cap : Array Value) (w : World), (Instr.makeFunc fn first cap).run Tryd.prog w = .ok (.func fn first cap) w := fun _ _ _ _ => rfl
  have HC : Hid ((w.alloc (.cells #[.bool q] 4)).cell? ⟨w.heap.size, 0, none⟩ = some (.bool q)) := by rw [Hid, (Has.fresh w _ _).cell]; rfl
  go_enter Tryd.func57, Tryd.ntmps57
  go_wp2_with (first | (go_at_call 41; refine (each_esc s w.heap.size q _ HC.out hs).mono ?_; rintro e w1 ⟨rfl, hb1⟩))
  go_ret
  exact ⟨rfl, ((Below.refl _ _).alloc (Nat.le_refl _) _).trans (hb1.mono (by simp))⟩

theorem textL_snoc (ls : List (List UInt8)) (l : List UInt8) : Nm.textL (ls ++ [l]) = Nm.textL ls ++ (Nm.esc false l ++ [46]) := by simp [Nm.textL]
theorem text_root : Nm.text [0] = [46] := rfl
theorem text_of (l : List UInt8) (h : l ≠ [0]) : Nm.text l = Nm.textL (labelsOf l) := by
  unfold Nm.text labelsOf
  rcases hs : Nm.split l with _ | ls
  · rfl
  · rcases ls with _ | ⟨a, ls⟩
    · exact absurd (Nm.split_some.1 hs).1 h
    · rfl
theorem labelsOf_good (l : List UInt8) : Nm.Good (labelsOf l) ∧ (labelsOf l).length ≤ 127 := by
  unfold labelsOf
  rcases hs : Nm.split l with _ | ls
  · exact ⟨fun x hx => by simp at hx, by simp⟩
  · exact ⟨(Nm.split_some.1 hs).2.1, few hs⟩
theorem textL_len (ls : List (List UInt8)) (h : Nm.Good ls) : (Nm.textL ls).length ≤ 300 * ls.length := by
  induction ls with
  | nil => simp [Nm.textL]
  | cons a ls ih =>
    have := ih (fun x hx => h x (by simp [hx]))
    have ha := (h a (by simp)).2
    have he := Nm.esc_len false a
    have e : Nm.textL (a :: ls) = (Nm.esc false a ++ [46]) ++ Nm.textL ls := rfl
    rw [e]; simp; omega

set_option maxHeartbeats 1000000 in
set_option maxRecDepth 100000 in
theorem Text_any (s : ByteArray) (w : World) (hs : s.size ≤ 140737488355328) :
    Calls Tryd.prog 35 #[.string s] w fun e w' => e = .returned (sv (Nm.text s.data.toList)) ∧ Below w.heap.size w w' := by
  by_cases hr : s.data.toList = [0]
  · rw [hr, text_root]
    have h1 : s.toList = [0] := by rw [Lib.toList_data]; exact hr
    clear hr
    go_enter Tryd.func35, Tryd.ntmps35
    go_wp2
    go_ret
    exact ⟨rfl, Below.refl _ _⟩
  · rw [text_of _ hr]
    have h1 : (s.toList == [0]) = false := by rw [Lib.toList_data]; simpa using hr
    have HL := Lib.hid (Labels_any s w hs)
    obtain ⟨hg, h127⟩ := labelsOf_good s.data.toList
    have HG := Lib.hid hg
    clear hr hg
    generalize labelsOf s.data.toList = ls at *
    go_enter Tryd.func35, Tryd.ntmps35
    go_wp2_with (first | (go_at_call 58; refine HL.out.mono ?_; rintro e w1 ⟨v, rfl, hown, hb⟩; obtain ⟨ad, cp, rfl⟩ := own_form hown))
    have HO := Lib.hid hown
    have hb1 := hb.size
    clear hown
    go_loopw [3, 11] (fun t i wr => ∃ k : Nat, i = .int .i64 k ∧ k ≤ ls.length ∧ t = sv (Nm.textL (ls.take k)) ∧ Below w1.heap.size w1 wr) (fun _ i _ => ls.length - (intOf i).toNat)
    case atStart => exact ⟨0, rfl, Nat.zero_le _, rfl, Below.refl _ _⟩
    case round =>
      obtain ⟨k, rfl, hk, rfl, hbw⟩ := hrel
      have HB := Lib.hid hbw
      have hbs := hbw.size
      have HO2 := Lib.hid (own_below HO.out hbw (Nat.le_refl _))
      clear hbw
      by_cases hlt : k < ls.length
      · obtain ⟨g', rfl, hcap, ca⟩ := own_at HO2.out hlt
        have hc : wr.cell? ⟨g', k, none⟩ = some (sv ls[k]) := ca k _ (by simp [svs, hlt])
        have hgl := HG.out ls[k] (List.getElem_mem hlt)
        have HTS : Hid (Nm.textL (ls.take (k + 1)) = Nm.textL (ls.take k) ++ (Nm.esc false ls[k] ++ [46])) := by rw [Hid, List.take_succ_eq_append_getElem hlt, textL_snoc]
        have hte := textL_len (ls.take k) (fun x hx => HG.out x (List.mem_of_mem_take hx))
        have htl : (ls.take k).length ≤ k := List.length_take_le _ _
        have hte2 : (Nm.textL (ls.take k)).length ≤ 300 * k := by omega
        clear ca hte htl
        generalize ls[k] = l at *
        generalize Nm.textL (ls.take k) = tk at *
        have hel := Nm.esc_len false l
        go_wp2_with (first | (go_at_call 57; refine (Escape_any ⟨l.toArray⟩ false _ (by rw [mk_size]; omega)).mono ?_; rintro e w2 ⟨rfl, hb2⟩))
        go_roundw
        case rel =>
          refine ⟨k + 1, by go_num, by omega, ?_, HB.out.trans (hb2.mono hbs)⟩
          rw [HTS.out]
          show Value.string (⟨tk.toArray⟩ ++ (⟨(Nm.esc false l).toArray⟩ ++ ⟨#[46]⟩)) = _
          rw [string_eq (s := ⟨tk.toArray⟩ ++ (⟨(Nm.esc false l).toArray⟩ ++ ⟨#[46]⟩)) (l := tk ++ (Nm.esc false l ++ [46])) (by rw [cat_list, cat_list])]
        case measure => simp [intOf]; omega
      · obtain rfl : k = ls.length := by omega
        have HTS : Hid (Nm.textL (ls.take ls.length) = Nm.textL ls) := by rw [Hid, List.take_length]
        go_wp2
        go_ret
        refine ⟨?_, hb.trans (HB.out.mono hb1)⟩
        rw [← HTS.out]; rfl
end Go.Proofs.YtpinhpnmnfcdoaaDoor
/- Glue, Of, Labels: the document's answers that make names of labels. -/
namespace Go.Proofs.YtpinhpnmnfcdoaaDoor
open Go.RowKit

theorem body_snoc (a : List (List UInt8)) (l : List UInt8) : Nm.body (a ++ [l]) = Nm.body a ++ Nm.lab l := by rw [Nm.body_append]; simp [Nm.body]

theorem body_len {ls : List (List UInt8)} (h : ∀ l ∈ ls, l.length ≤ 255) : (Nm.body ls).length ≤ 256 * ls.length := by
  induction ls with
  | nil => simp [Nm.body]
  | cons a ls ih =>
    have := ih (fun x hx => h x (by simp [hx]))
    have := h a (by simp)
    rw [Nm.body_cons, List.length_append, Nm.lab_length, List.length_cons]; omega

end Go.Proofs.YtpinhpnmnfcdoaaDoor
