/- Texts of the proofs, merged. -/
import Derived.Test.YtmieakkhpkclpaaDoorG4
import Derived.Test.YtmieakkhpkclpaaDoorG1
import Derived.Test.YtmieakkhpkclpaaDoorShelf
import Derived.Lib.ConvBytes
import Derived.Lib.ParseIntB
/- escaped, Bytes, cut: a text's bytes, and its pieces. -/
namespace Go.Proofs.YtmieakkhpkclpaaDoor
open Go.RowKit Go.Lib

theorem bytesWorld_below (w : World) (e : TypeId) (s : ByteArray) : Below w.heap.size w (Lib.bytesWorld w e s) := ⟨rfl, rfl, rfl, by rw [Lib.bytesWorld_size]; omega, fun j hj => Lib.bytesWorld_at_old w e s j hj⟩

/-- three bytes as a number: what ParseUint says of them. -/
theorem parse3 (a b c : UInt8) (h : Nm.dg a ∧ Nm.dg b ∧ Nm.dg c ∧ Nm.val3 a b c ≤ 255) : Lib.parseUintB 8 [a, b, c] = .ok (Nm.val3 a b c) := by
  obtain ⟨⟨a1, a2⟩, ⟨b1, b2⟩, ⟨c1, c2⟩, hv⟩ := h
  unfold Nm.val3 at *
  unfold Lib.parseUintB
  rw [if_neg (by simp)]
  simp only [Lib.parseUintM]
  rw [if_pos ⟨a1, a2⟩, if_neg (by omega), if_neg (by omega), if_pos ⟨b1, b2⟩, if_neg (by omega), if_neg (by omega), if_pos ⟨c1, c2⟩, if_neg (by omega), if_neg (by omega)]
  congr 1; omega
theorem parse3_no (a b c : UInt8) (h : ¬ (Nm.dg a ∧ Nm.dg b ∧ Nm.dg c ∧ Nm.val3 a b c ≤ 255)) : Lib.parseUintB 8 [a, b, c] = Lib.parseUintB 8 [] ∨ Lib.parseUintB 8 [a, b, c] = .range := by
  unfold Lib.parseUintB
  rw [if_neg (by simp)]
  simp only [Lib.parseUintM]
  by_cases ha : 48 ≤ a.toNat ∧ a.toNat ≤ 57
  · rw [if_pos ha, if_neg (by omega), if_neg (by omega)]
    by_cases hb : 48 ≤ b.toNat ∧ b.toNat ≤ 57
    · rw [if_pos hb, if_neg (by omega), if_neg (by omega)]
      by_cases hc : 48 ≤ c.toNat ∧ c.toNat ≤ 57
      · rw [if_pos hc, if_neg (by omega), if_pos ?_]
        · exact .inr rfl
        · have : ¬ Nm.val3 a b c ≤ 255 := fun hv => h ⟨ha, hb, hc, hv⟩
          unfold Nm.val3 at this; omega
      · rw [if_neg hc]; exact .inl rfl
    · rw [if_neg hb]; exact .inl rfl
  · rw [if_neg ha]; exact .inl rfl

theorem empty_yes {s : ByteArray} (h : s.size = 0) : s.toList.isEmpty = true := by
  rw [toList_data, List.isEmpty_iff]; exact List.eq_nil_of_length_eq_zero (by simpa using h)
theorem empty_no {s : ByteArray} (h : s.size ≠ 0) : s.toList.isEmpty = false := by
  rw [toList_data]
  rcases hs : s.data.toList with _ | ⟨c, t⟩
  · exact absurd (by have := congrArg List.length hs; simpa using this) h
  · rfl

def escR (l : List UInt8) : Value := match Nm.escd l with
  | none => .tuple #[.int .u8 0, .int .i64 0]
  | some (b, k) => .tuple #[.int .u8 (b.toNat : Nat), .int .i64 (k : Nat)]
theorem escR_none {l : List UInt8} (h : Nm.escd l = none) : escR l = .tuple #[.int .u8 0, .int .i64 0] := by unfold escR; rw [h]
theorem escR_some {l : List UInt8} {b : UInt8} {k : Nat} (h : Nm.escd l = some (b, k)) : escR l = .tuple #[.int .u8 (b.toNat : Nat), .int .i64 (k : Nat)] := by unfold escR; rw [h]
theorem at_list (s : ByteArray) (k : Nat) (h : k < s.size) : s.data.toList[k]'(by simpa using h) = s[k] := rfl

def unR (l : List UInt8) : Value := match Nm.unesc l with
  | none => .tuple #[.string ⟨#[]⟩, .int .i64 12]
  | some r => .tuple #[sv r, .int .i64 0]

/-- the bytes so far, at k. -/
def Sofar (l : List UInt8) (k : Nat) (out : List UInt8) : Prop := k ≤ l.length ∧ out.length ≤ k ∧ Nm.unesc l = (Nm.unesc (l.drop k)).map (out ++ ·)
theorem Sofar.zero (l : List UInt8) : Sofar l 0 [] := ⟨Nat.zero_le _, by simp, by simp⟩
theorem Sofar.plain {l : List UInt8} {k : Nat} {out : List UInt8} (h : Sofar l k out) (hk : k < l.length) (hc : (l[k]).toNat ≠ 92) : Sofar l (k + 1) (out ++ [l[k]]) := by
  refine ⟨hk, by have := h.2.1; simp; omega, ?_⟩
  rw [h.2.2, Nm.drop_cons hk, Nm.unesc_plain hc]
  rcases Nm.unesc (l.drop (k + 1)) with _ | r <;> simp
theorem Sofar.yes {l : List UInt8} {k : Nat} {out : List UInt8} {b : UInt8} {n : Nat} (h : Sofar l k out) (hk : k < l.length) (hc : (l[k]).toNat = 92) (he : Nm.escd (l.drop (k + 1)) = some (b, n)) : Sofar l (k + 1 + n) (out ++ [b]) := by
  have hp := Nm.escd_pos he
  simp at hp
  refine ⟨by omega, by have := h.2.1; simp; omega, ?_⟩
  rw [h.2.2, Nm.drop_cons hk, Nm.unesc_yes hc he, List.drop_drop]
  rcases Nm.unesc (l.drop (k + 1 + n)) with _ | r <;> simp
theorem Sofar.no {l : List UInt8} {k : Nat} {out : List UInt8} (h : Sofar l k out) (hk : k < l.length) (hc : (l[k]).toNat = 92) (he : Nm.escd (l.drop (k + 1)) = none) : unR l = .tuple #[.string ⟨#[]⟩, .int .i64 12] := by
  unfold unR
  rw [h.2.2, Nm.drop_cons hk, Nm.unesc_no hc he]; rfl
theorem Sofar.done {l : List UInt8} {out : List UInt8} (h : Sofar l l.length out) : unR l = .tuple #[sv out, .int .i64 0] := by
  unfold unR
  rw [h.2.2, List.drop_length, Nm.unesc_nil]; simp

end Go.Proofs.YtmieakkhpkclpaaDoor
/- cut, addText, Parse: the name that a text tells. -/
namespace Go.Proofs.YtmieakkhpkclpaaDoor
open Go.RowKit

def cutR (l : List UInt8) : Value := .tuple #[sv (Nm.cutP l).1, sv (Nm.cutP l).2.1, .bool (Nm.cutP l).2.2]
/-- how far cut is. -/
def CutAt (l : List UInt8) (k : Nat) : Prop := (k ≤ l.length ∧ Nm.cutP l = (l.take k ++ (Nm.cutP (l.drop k)).1, (Nm.cutP (l.drop k)).2)) ∨ (k = l.length + 1 ∧ Nm.cutP l = (l, [], false))
theorem CutAt.zero (l : List UInt8) : CutAt l 0 := .inl ⟨Nat.zero_le _, by simp⟩
theorem CutAt.plain {l : List UInt8} {k : Nat} (h : CutAt l k) (hk : k < l.length) (h46 : (l[k]).toNat ≠ 46) (h92 : (l[k]).toNat ≠ 92) : CutAt l (k + 1) := by
  rcases h with ⟨_, h⟩ | ⟨h, _⟩
  · refine .inl ⟨hk, ?_⟩
    rw [h, Nm.drop_cons hk, Nm.cutP_plain h46 h92, List.take_succ_eq_append_getElem hk]; simp only [List.append_assoc, List.cons_append, List.nil_append]
  · omega
theorem CutAt.back {l : List UInt8} {k : Nat} (h : CutAt l k) (hk : k < l.length) (h92 : (l[k]).toNat = 92) : CutAt l (k + 1 + 1) := by
  rcases h with ⟨_, h⟩ | ⟨h, _⟩
  · by_cases h2 : k + 1 < l.length
    · refine .inl ⟨h2, ?_⟩
      rw [h, Nm.drop_cons hk, Nm.drop_cons h2, Nm.cutP_back h92, List.take_succ_eq_append_getElem h2, List.take_succ_eq_append_getElem hk]; simp only [List.append_assoc, List.cons_append, List.nil_append]
    · refine .inr ⟨by omega, ?_⟩
      have e : l.drop k = [l[k]] := by rw [Nm.drop_cons hk, List.drop_eq_nil_of_le (by omega)]
      rw [h, e, Nm.cutP_last (by omega), ← e, List.take_append_drop]
  · omega
theorem CutAt.dot {l : List UInt8} {k : Nat} (h : CutAt l k) (hk : k < l.length) (h46 : (l[k]).toNat = 46) : cutR l = .tuple #[sv (l.take k), sv (l.drop (k + 1)), .bool true] := by
  rcases h with ⟨_, h⟩ | ⟨h, _⟩
  · unfold cutR
    rw [h, Nm.drop_cons hk, Nm.cutP_dot h46]; simp
  · omega
theorem CutAt.done {l : List UInt8} {k : Nat} (h : CutAt l k) (hk : l.length ≤ k) : cutR l = .tuple #[sv l, sv [], .bool false] := by
  unfold cutR
  rcases h with ⟨h1, h⟩ | ⟨_, h⟩
  · obtain rfl : k = l.length := by omega
    rw [h, List.drop_length, List.take_length]; simp [Nm.cutP]
  · rw [h]
theorem CutAt.le {l : List UInt8} {k : Nat} (h : CutAt l k) : k ≤ l.length + 1 := by rcases h with ⟨h, _⟩ | ⟨h, _⟩ <;> omega

/-- the pieces so far have told the labels ls; t is left. -/
def Told (l t : List UInt8) (ls : List (List UInt8)) : Prop :=
  (Nm.pieces l).2 = (Nm.pieces t).2 ∧ Nm.labelsP (Nm.pieces l).1 = match Nm.labelsP (Nm.pieces t).1 with | .error n => .error n | .ok r => .ok (ls ++ r)
theorem Told.start (l : List UInt8) : Told l l [] := ⟨rfl, by rcases Nm.labelsP (Nm.pieces l).1 with n | r <;> rfl⟩
theorem labelsP_one (p b : List UInt8) (h : Nm.unesc p = some b) (hg : 1 ≤ b.length ∧ b.length ≤ 63) : Nm.labelsP [p] = .ok [b] := by
  unfold Nm.labelsP; rw [h]; simp only [if_pos hg]; rfl
theorem labelsP_esc (p : List UInt8) (ps : List (List UInt8)) (h : Nm.unesc p = none) : Nm.labelsP (p :: ps) = .error 12 := by
  unfold Nm.labelsP; rw [h]
theorem labelsP_bad (p b : List UInt8) (ps : List (List UInt8)) (h : Nm.unesc p = some b) (hg : ¬ (1 ≤ b.length ∧ b.length ≤ 63)) : Nm.labelsP (p :: ps) = .error 10 := by
  unfold Nm.labelsP; rw [h]; simp only [if_neg hg]
theorem labelsP_cons (p b : List UInt8) (ps : List (List UInt8)) (h : Nm.unesc p = some b) (hg : 1 ≤ b.length ∧ b.length ≤ 63) :
    Nm.labelsP (p :: ps) = match Nm.labelsP ps with | .error e => .error e | .ok ls => .ok (b :: ls) := by
  conv => lhs; unfold Nm.labelsP
  rw [h]; simp only [if_pos hg]
  rcases Nm.labelsP ps with n | r <;> rfl
theorem pieces_head (t : List UInt8) : ∃ ps, (Nm.pieces t).1 = (Nm.cutP t).1 :: ps := by
  by_cases hd : (Nm.cutP t).2.2 = true
  · by_cases h2 : (Nm.cutP t).2.1.length = 0
    · exact ⟨_, by rw [Nm.pieces_whole hd h2]⟩
    · exact ⟨_, by rw [Nm.pieces_more hd h2]⟩
  · exact ⟨_, by rw [Nm.pieces_end (by simpa using hd)]⟩
theorem Told.esc {l t : List UInt8} {ls : List (List UInt8)} (h : Told l t ls) (hu : Nm.unesc (Nm.cutP t).1 = none) : Nm.labelsP (Nm.pieces l).1 = .error 12 := by
  obtain ⟨ps, hp⟩ := pieces_head t
  rw [h.2, hp, labelsP_esc _ _ hu]
theorem Told.bad {l t b : List UInt8} {ls : List (List UInt8)} (h : Told l t ls) (hu : Nm.unesc (Nm.cutP t).1 = some b) (hg : ¬ (1 ≤ b.length ∧ b.length ≤ 63)) : Nm.labelsP (Nm.pieces l).1 = .error 10 := by
  obtain ⟨ps, hp⟩ := pieces_head t
  rw [h.2, hp, labelsP_bad _ _ _ hu hg]
theorem Told.last {l t b : List UInt8} {ls : List (List UInt8)} (h : Told l t ls) (hu : Nm.unesc (Nm.cutP t).1 = some b) (hg : 1 ≤ b.length ∧ b.length ≤ 63) (hd : (Nm.cutP t).2.2 = false ∨ (Nm.cutP t).2.1.length = 0) :
    Nm.labelsP (Nm.pieces l).1 = .ok (ls ++ [b]) ∧ (Nm.pieces l).2 = (Nm.cutP t).2.2 := by
  rcases hc : (Nm.cutP t).2.2 with _ | _
  · have hp := Nm.pieces_end hc
    rw [h.2, h.1, hp, labelsP_one _ _ hu hg]; exact ⟨rfl, rfl⟩
  · have hp := Nm.pieces_whole hc (by rcases hd with hd | hd; · rw [hd] at hc; cases hc
                                      · exact hd)
    rw [h.2, h.1, hp, labelsP_one _ _ hu hg]; exact ⟨rfl, rfl⟩
theorem Told.step {l t b : List UInt8} {ls : List (List UInt8)} (h : Told l t ls) (hu : Nm.unesc (Nm.cutP t).1 = some b) (hg : 1 ≤ b.length ∧ b.length ≤ 63) (hc : (Nm.cutP t).2.2 = true) (h2 : (Nm.cutP t).2.1.length ≠ 0) :
    Told l (Nm.cutP t).2.1 (ls ++ [b]) := by
  have hp := Nm.pieces_more hc h2
  refine ⟨by rw [h.1, hp], ?_⟩
  rw [h.2, hp, labelsP_cons _ _ _ hu hg]
  rcases Nm.labelsP (Nm.pieces (Nm.cutP t).2.1).1 with n | r
  · rfl
  · simp
theorem cut_len (t : List UInt8) : (Nm.cutP t).1.length ≤ t.length ∧ (Nm.cutP t).2.1.length ≤ t.length := by
  suffices h : ∀ n (t : List UInt8), t.length ≤ n → (Nm.cutP t).1.length ≤ t.length ∧ (Nm.cutP t).2.1.length ≤ t.length from h _ t (Nat.le_refl _)
  intro n
  induction n with
  | zero => intro t h; have : t = [] := List.eq_nil_of_length_eq_zero (by omega); subst this; simp [Nm.cutP]
  | succ n ih =>
    intro t h
    match t with
    | [] => simp [Nm.cutP]
    | [c] => by_cases h46 : c.toNat = 46
             · rw [Nm.cutP_dot h46]; simp
             · rw [Nm.cutP_last h46]; simp
    | c :: d :: t =>
      by_cases h46 : c.toNat = 46
      · rw [Nm.cutP_dot h46]; simp
      · by_cases h92 : c.toNat = 92
        · rw [Nm.cutP_back h92]; have := ih t (by simp at h; omega); simp; omega
        · rw [Nm.cutP_plain h46 h92]; have := ih (d :: t) (by simpa using h); simp at this ⊢; omega

theorem nameR_eq (ls : List (List UInt8)) : nameR ls = .tuple #[sv (Nm.glueR ls).1, .int .i64 ((Nm.glueR ls).2 : Nat)] := by
  unfold nameR Nm.glueR
  by_cases h : 255 < (Nm.body ls).length + 1
  · rw [if_pos h, if_pos h]; rfl
  · rw [if_neg h, if_neg h]; rfl

def parseR (l o : List UInt8) : Value := .tuple #[sv (Nm.parse l o).1, .int .i64 ((Nm.parse l o).2 : Nat)]

end Go.Proofs.YtmieakkhpkclpaaDoor
/- Escape, Text: a text of bytes, of a name. -/
namespace Go.Proofs.YtmieakkhpkclpaaDoor
open Go.RowKit

theorem cells_new (w : World) (t : TypeId) (l : List Value) : ∀ j u, l[j]? = some u → (w.alloc (.cells l.toArray t)).cell? ((⟨w.heap.size, 0, none⟩ : Addr).add j) = some u := by
  intro j u h
  have : (⟨w.heap.size, 0, none⟩ : Addr).add j = ⟨w.heap.size, j, none⟩ := by unfold Addr.add; split <;> simp_all
  rw [this, (Has.fresh w t l.toArray).cell]; simpa using h
theorem bv1 (c : UInt8) : bv [c] = [.int .u8 (c.toNat : Nat)] := rfl
theorem bv2 (a c : UInt8) : bv [a, c] = [.int .u8 (a.toNat : Nat), .int .u8 (c.toNat : Nat)] := rfl
theorem bv4 (c : UInt8) : bv (92 :: Nm.dig3 c) = [.int .u8 92, .int .u8 (48 + (c.toNat : Int) / 100), .int .u8 (48 + (c.toNat : Int) / 10 % 10), .int .u8 (48 + (c.toNat : Int) % 10)] := by
  have := c.toNat_lt
  have h1 : (UInt8.ofNat (48 + c.toNat / 100)).toNat = 48 + c.toNat / 100 := by simp; omega
  have h2 : (UInt8.ofNat (48 + c.toNat / 10 % 10)).toNat = 48 + c.toNat / 10 % 10 := by simp; omega
  have h3 : (UInt8.ofNat (48 + c.toNat % 10)).toNat = 48 + c.toNat % 10 := by simp; omega
  simp only [bv, Nm.dig3, List.map_cons, List.map_nil, h1, h2, h3]
  simp
/-- Escape's closure at one byte: the row has what the byte becomes. -/
def EscPost (B : Nat) (w : World) (n : Nat) (xs : List Value) (l : List UInt8) (e : Ending) (w' : World) : Prop :=
  ∃ v', e = .returned v' ∧ w'.ownsRow B 5 1 v' (n + l.length) (xs ++ bv l) ∧ Below B w w'
theorem esc_done {B n : Nat} {w w1 : World} {xs : List Value} {v v' : Value} {l : List UInt8} {news : List Value} {o : Obj} (hB : B ≤ w.heap.size) (hown : w.ownsRow B 5 1 v n xs) (hl : bv l = news)
    (h1 : w1.ownsRow B 5 1 v' (n + l.length) (xs ++ news)) (hg : (w.alloc o).grownBy w1 v.ownBlock) : EscPost B w n xs l (.returned v') w1 :=
  ⟨v', rfl, by rw [hl]; exact h1, ((Below.refl _ _).alloc hB _).grown hg (by simp; omega) (fun j hj => (hown.lt j hj).1)⟩

theorem ne {c : UInt8} {n : Nat} (h : c.toNat ≠ n) : ((c.toNat : Int) == (n : Int)) = false := beq_eq_false_iff_ne.2 (by omega)
theorem eq {c : UInt8} {n : Nat} (h : c.toNat = n) : ((c.toNat : Int) == (n : Int)) = true := beq_iff_eq.2 (by omega)
theorem textL_snoc (ls : List (List UInt8)) (l : List UInt8) : Nm.textL (ls ++ [l]) = Nm.textL ls ++ (Nm.esc false l ++ [46]) := by simp [Nm.textL]
theorem text_root : Nm.text [0] = [46] := rfl
theorem text_of (l : List UInt8) (h : l ≠ [0]) : Nm.text l = Nm.textL (labelsOf l) := by
  unfold Nm.text labelsOf
  rcases hs : Nm.split l with _ | ls
  · rfl
  · rcases ls with _ | ⟨a, ls⟩
    · exact absurd (Nm.split_some.1 hs).1 h
    · rfl
theorem labelsOf_good (l : List UInt8) : Nm.Good (labelsOf l) ∧ (labelsOf l).length ≤ 127 := by
  unfold labelsOf
  rcases hs : Nm.split l with _ | ls
  · exact ⟨fun x hx => by simp at hx, by simp⟩
  · exact ⟨(Nm.split_some.1 hs).2.1, few hs⟩
theorem textL_len (ls : List (List UInt8)) (h : Nm.Good ls) : (Nm.textL ls).length ≤ 300 * ls.length := by
  induction ls with
  | nil => simp [Nm.textL]
  | cons a ls ih =>
    have := ih (fun x hx => h x (by simp [hx]))
    have ha := (h a (by simp)).2
    have he := Nm.esc_len false a
    have e : Nm.textL (a :: ls) = (Nm.esc false a ++ [46]) ++ Nm.textL ls := rfl
    rw [e]; simp; omega

end Go.Proofs.YtmieakkhpkclpaaDoor
