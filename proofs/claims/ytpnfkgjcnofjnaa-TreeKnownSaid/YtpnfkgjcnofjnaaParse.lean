/- cut, addText, Parse: the name that a text tells. -/
import Derived.Test.YtpnfkgjcnofjnaaOf
import Derived.Test.YtpnfkgjcnofjnaaEscaped
namespace Go.Proofs.Ytpnfkgjcnofjnaa
open Go.RowKit

def cutR (l : List UInt8) : Value := .tuple #[sv (Nm.cutP l).1, sv (Nm.cutP l).2.1, .bool (Nm.cutP l).2.2]
/-- how far cut is. -/
def CutAt (l : List UInt8) (k : Nat) : Prop := (k ≤ l.length ∧ Nm.cutP l = (l.take k ++ (Nm.cutP (l.drop k)).1, (Nm.cutP (l.drop k)).2)) ∨ (k = l.length + 1 ∧ Nm.cutP l = (l, [], false))
theorem CutAt.zero (l : List UInt8) : CutAt l 0 := .inl ⟨Nat.zero_le _, by simp⟩
theorem CutAt.plain {l : List UInt8} {k : Nat} (h : CutAt l k) (hk : k < l.length) (h46 : (l[k]).toNat ≠ 46) (h92 : (l[k]).toNat ≠ 92) : CutAt l (k + 1) := by
  rcases h with ⟨_, h⟩ | ⟨h, _⟩
  · refine .inl ⟨hk, ?_⟩
    rw [h, Nm.drop_cons hk, Nm.cutP_plain h46 h92, List.take_succ_eq_append_getElem hk]; simp only [List.append_assoc, List.cons_append, List.nil_append]
  · omega
theorem CutAt.back {l : List UInt8} {k : Nat} (h : CutAt l k) (hk : k < l.length) (h92 : (l[k]).toNat = 92) : CutAt l (k + 1 + 1) := by
  rcases h with ⟨_, h⟩ | ⟨h, _⟩
  · by_cases h2 : k + 1 < l.length
    · refine .inl ⟨h2, ?_⟩
      rw [h, Nm.drop_cons hk, Nm.drop_cons h2, Nm.cutP_back h92, List.take_succ_eq_append_getElem h2, List.take_succ_eq_append_getElem hk]; simp only [List.append_assoc, List.cons_append, List.nil_append]
    · refine .inr ⟨by omega, ?_⟩
      have e : l.drop k = [l[k]] := by rw [Nm.drop_cons hk, List.drop_eq_nil_of_le (by omega)]
      rw [h, e, Nm.cutP_last (by omega), ← e, List.take_append_drop]
  · omega
theorem CutAt.dot {l : List UInt8} {k : Nat} (h : CutAt l k) (hk : k < l.length) (h46 : (l[k]).toNat = 46) : cutR l = .tuple #[sv (l.take k), sv (l.drop (k + 1)), .bool true] := by
  rcases h with ⟨_, h⟩ | ⟨h, _⟩
  · unfold cutR
    rw [h, Nm.drop_cons hk, Nm.cutP_dot h46]; simp
  · omega
theorem CutAt.done {l : List UInt8} {k : Nat} (h : CutAt l k) (hk : l.length ≤ k) : cutR l = .tuple #[sv l, sv [], .bool false] := by
  unfold cutR
  rcases h with ⟨h1, h⟩ | ⟨_, h⟩
  · obtain rfl : k = l.length := by omega
    rw [h, List.drop_length, List.take_length]; simp [Nm.cutP]
  · rw [h]
theorem CutAt.le {l : List UInt8} {k : Nat} (h : CutAt l k) : k ≤ l.length + 1 := by rcases h with ⟨h, _⟩ | ⟨h, _⟩ <;> omega

/-- the pieces so far have told the labels ls; t is left. -/
def Told (l t : List UInt8) (ls : List (List UInt8)) : Prop :=
  (Nm.pieces l).2 = (Nm.pieces t).2 ∧ Nm.labelsP (Nm.pieces l).1 = match Nm.labelsP (Nm.pieces t).1 with | .error n => .error n | .ok r => .ok (ls ++ r)
theorem Told.start (l : List UInt8) : Told l l [] := ⟨rfl, by rcases Nm.labelsP (Nm.pieces l).1 with n | r <;> rfl⟩
theorem labelsP_one (p b : List UInt8) (h : Nm.unesc p = some b) (hg : 1 ≤ b.length ∧ b.length ≤ 63) : Nm.labelsP [p] = .ok [b] := by
  unfold Nm.labelsP; rw [h]; simp only [if_pos hg]; rfl
theorem labelsP_esc (p : List UInt8) (ps : List (List UInt8)) (h : Nm.unesc p = none) : Nm.labelsP (p :: ps) = .error 12 := by
  unfold Nm.labelsP; rw [h]
theorem labelsP_bad (p b : List UInt8) (ps : List (List UInt8)) (h : Nm.unesc p = some b) (hg : ¬ (1 ≤ b.length ∧ b.length ≤ 63)) : Nm.labelsP (p :: ps) = .error 10 := by
  unfold Nm.labelsP; rw [h]; simp only [if_neg hg]
theorem labelsP_cons (p b : List UInt8) (ps : List (List UInt8)) (h : Nm.unesc p = some b) (hg : 1 ≤ b.length ∧ b.length ≤ 63) :
    Nm.labelsP (p :: ps) = match Nm.labelsP ps with | .error e => .error e | .ok ls => .ok (b :: ls) := by
  conv => lhs; unfold Nm.labelsP
  rw [h]; simp only [if_pos hg]
  rcases Nm.labelsP ps with n | r <;> rfl
theorem pieces_head (t : List UInt8) : ∃ ps, (Nm.pieces t).1 = (Nm.cutP t).1 :: ps := by
  by_cases hd : (Nm.cutP t).2.2 = true
  · by_cases h2 : (Nm.cutP t).2.1.length = 0
    · exact ⟨_, by rw [Nm.pieces_whole hd h2]⟩
    · exact ⟨_, by rw [Nm.pieces_more hd h2]⟩
  · exact ⟨_, by rw [Nm.pieces_end (by simpa using hd)]⟩
theorem Told.esc {l t : List UInt8} {ls : List (List UInt8)} (h : Told l t ls) (hu : Nm.unesc (Nm.cutP t).1 = none) : Nm.labelsP (Nm.pieces l).1 = .error 12 := by
  obtain ⟨ps, hp⟩ := pieces_head t
  rw [h.2, hp, labelsP_esc _ _ hu]
theorem Told.bad {l t b : List UInt8} {ls : List (List UInt8)} (h : Told l t ls) (hu : Nm.unesc (Nm.cutP t).1 = some b) (hg : ¬ (1 ≤ b.length ∧ b.length ≤ 63)) : Nm.labelsP (Nm.pieces l).1 = .error 10 := by
  obtain ⟨ps, hp⟩ := pieces_head t
  rw [h.2, hp, labelsP_bad _ _ _ hu hg]
theorem Told.last {l t b : List UInt8} {ls : List (List UInt8)} (h : Told l t ls) (hu : Nm.unesc (Nm.cutP t).1 = some b) (hg : 1 ≤ b.length ∧ b.length ≤ 63) (hd : (Nm.cutP t).2.2 = false ∨ (Nm.cutP t).2.1.length = 0) :
    Nm.labelsP (Nm.pieces l).1 = .ok (ls ++ [b]) ∧ (Nm.pieces l).2 = (Nm.cutP t).2.2 := by
  rcases hc : (Nm.cutP t).2.2 with _ | _
  · have hp := Nm.pieces_end hc
    rw [h.2, h.1, hp, labelsP_one _ _ hu hg]; exact ⟨rfl, rfl⟩
  · have hp := Nm.pieces_whole hc (by rcases hd with hd | hd; · rw [hd] at hc; cases hc
                                      · exact hd)
    rw [h.2, h.1, hp, labelsP_one _ _ hu hg]; exact ⟨rfl, rfl⟩
theorem Told.step {l t b : List UInt8} {ls : List (List UInt8)} (h : Told l t ls) (hu : Nm.unesc (Nm.cutP t).1 = some b) (hg : 1 ≤ b.length ∧ b.length ≤ 63) (hc : (Nm.cutP t).2.2 = true) (h2 : (Nm.cutP t).2.1.length ≠ 0) :
    Told l (Nm.cutP t).2.1 (ls ++ [b]) := by
  have hp := Nm.pieces_more hc h2
  refine ⟨by rw [h.1, hp], ?_⟩
  rw [h.2, hp, labelsP_cons _ _ _ hu hg]
  rcases Nm.labelsP (Nm.pieces (Nm.cutP t).2.1).1 with n | r
  · rfl
  · simp
theorem cut_len (t : List UInt8) : (Nm.cutP t).1.length ≤ t.length ∧ (Nm.cutP t).2.1.length ≤ t.length := by
  suffices h : ∀ n (t : List UInt8), t.length ≤ n → (Nm.cutP t).1.length ≤ t.length ∧ (Nm.cutP t).2.1.length ≤ t.length from h _ t (Nat.le_refl _)
  intro n
  induction n with
  | zero => intro t h; have : t = [] := List.eq_nil_of_length_eq_zero (by omega); subst this; simp [Nm.cutP]
  | succ n ih =>
    intro t h
    match t with
    | [] => simp [Nm.cutP]
    | [c] => by_cases h46 : c.toNat = 46
             · rw [Nm.cutP_dot h46]; simp
             · rw [Nm.cutP_last h46]; simp
    | c :: d :: t =>
      by_cases h46 : c.toNat = 46
      · rw [Nm.cutP_dot h46]; simp
      · by_cases h92 : c.toNat = 92
        · rw [Nm.cutP_back h92]; have := ih t (by simp at h; omega); simp; omega
        · rw [Nm.cutP_plain h46 h92]; have := ih (d :: t) (by simpa using h); simp at this ⊢; omega

theorem nameR_eq (ls : List (List UInt8)) : nameR ls = .tuple #[sv (Nm.glueR ls).1, .int .i64 ((Nm.glueR ls).2 : Nat)] := by
  unfold nameR Nm.glueR
  by_cases h : 255 < (Nm.body ls).length + 1
  · rw [if_pos h, if_pos h]; rfl
  · rw [if_neg h, if_neg h]; rfl

def parseR (l o : List UInt8) : Value := .tuple #[sv (Nm.parse l o).1, .int .i64 ((Nm.parse l o).2 : Nat)]

theorem Check_no (s : ByteArray) (w : World) (hs : s.size ≤ 140737488355328) (h : Nm.split s.data.toList = none) :
    Calls Try.prog 72 #[.string s] w fun e w' => e = .returned (.int .i64 11) ∧ Below w.heap.size w w' :=
  (Check_any s w hs).mono fun _ _ ⟨a, b⟩ => ⟨by rw [a, h]; rfl, b⟩
theorem Check_yes (s : ByteArray) (ls : List (List UInt8)) (w : World) (hs : s.size ≤ 140737488355328) (h : Nm.split s.data.toList = some ls) :
    Calls Try.prog 72 #[.string s] w fun e w' => e = .returned (.int .i64 0) ∧ Below w.heap.size w w' :=
  (Check_any s w hs).mono fun _ _ ⟨a, b⟩ => ⟨by rw [a, h]; rfl, b⟩

end Go.Proofs.Ytpnfkgjcnofjnaa
