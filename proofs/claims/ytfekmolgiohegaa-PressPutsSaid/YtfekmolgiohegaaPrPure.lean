/- Names in packets, as plain lists: what is read at a place, through pointers. Nothing of the program. -/
import Derived.Lib.Hide
namespace Go.Proofs.Ytfekmolgiohegaa.Pr

abbrev By := List UInt8
inductive TR where
  | err (e : Int)
  | ok (ls : List By) (behind : Nat)

theorem meas {p row L a : Nat} (h : p < row) : p * (L + 2) + (L + 1 - p) < row * (L + 2) + (L + 1 - a) := by
  have h1 : (p + 1) * (L + 2) ≤ row * (L + 2) := Nat.mul_le_mul_right _ h
  rw [Nat.add_mul] at h1
  omega

/-- the name at a place in a row that begins at 'row': its labels from there on, and the place behind the row's end. -/
def tk (b : By) (row at_ size : Nat) : TR :=
  if h : at_ < b.length then
    if (b[at_]'h).toNat = 0 then .ok [] (at_ + 1)
    else if 192 ≤ (b[at_]'h).toNat then
      if h2 : at_ + 1 < b.length then
        if _hp : ((b[at_]'h).toNat - 192) * 256 + (b[at_ + 1]'h2).toNat < row then
          match tk b (((b[at_]'h).toNat - 192) * 256 + (b[at_ + 1]'h2).toNat) (((b[at_]'h).toNat - 192) * 256 + (b[at_ + 1]'h2).toNat) size with
          | .err e => .err e
          | .ok ls _ => .ok ls (at_ + 2)
        else .err 30
      else .err 6
    else if 64 ≤ (b[at_]'h).toNat then .err 31
    else if b.length < at_ + 1 + (b[at_]'h).toNat then .err 6
    else if 255 < size + 1 + (b[at_]'h).toNat then .err 2
    else match tk b row (at_ + 1 + (b[at_]'h).toNat) (size + 1 + (b[at_]'h).toNat) with
      | .err e => .err e
      | .ok ls bh => .ok ((b.drop (at_ + 1)).take (b[at_]'h).toNat :: ls) bh
  else .err 6
termination_by row * (b.length + 2) + (b.length + 1 - at_)
decreasing_by
  · exact meas (by assumption)
  · omega

/-- what is told in the end, some labels and the place being known already. -/
def fin (acc : List By) (o : Option Nat) : TR → TR
  | .err e => .err e
  | .ok ls bh => .ok (acc ++ ls) (o.getD bh)
theorem fin_nil (r : TR) : fin [] none r = r := by cases r <;> rfl

section
variable {b : By} {row at_ size : Nat}
theorem tk_out (h : ¬ at_ < b.length) : tk b row at_ size = .err 6 := by rw [tk, dif_neg h]
theorem tk_end (h : at_ < b.length) (h0 : (b[at_]'h).toNat = 0) : tk b row at_ size = .ok [] (at_ + 1) := by rw [tk, dif_pos h, if_pos h0]
theorem tk_short (h : at_ < b.length) (h1 : 192 ≤ (b[at_]'h).toNat) (h2 : ¬ at_ + 1 < b.length) : tk b row at_ size = .err 6 := by
  rw [tk, dif_pos h, if_neg (by omega), if_pos h1, dif_neg h2]
theorem tk_back (h : at_ < b.length) (h1 : 192 ≤ (b[at_]'h).toNat) (h2 : at_ + 1 < b.length) (hp : ¬ ((b[at_]'h).toNat - 192) * 256 + (b[at_ + 1]'h2).toNat < row) : tk b row at_ size = .err 30 := by
  rw [tk, dif_pos h, if_neg (by omega), if_pos h1, dif_pos h2, dif_neg hp]
theorem tk_kind (h : at_ < b.length) (h1 : 64 ≤ (b[at_]'h).toNat) (h2 : ¬ 192 ≤ (b[at_]'h).toNat) : tk b row at_ size = .err 31 := by
  rw [tk, dif_pos h, if_neg (by omega), if_neg h2, if_pos h1]
theorem tk_few (h : at_ < b.length) (h0 : (b[at_]'h).toNat ≠ 0) (h1 : ¬ 64 ≤ (b[at_]'h).toNat) (h2 : b.length < at_ + 1 + (b[at_]'h).toNat) : tk b row at_ size = .err 6 := by
  rw [tk, dif_pos h, if_neg h0, if_neg (by omega), if_neg h1, if_pos h2]
theorem tk_long (h : at_ < b.length) (h0 : (b[at_]'h).toNat ≠ 0) (h1 : ¬ 64 ≤ (b[at_]'h).toNat) (h2 : ¬ b.length < at_ + 1 + (b[at_]'h).toNat) (h3 : 255 < size + 1 + (b[at_]'h).toNat) : tk b row at_ size = .err 2 := by
  rw [tk, dif_pos h, if_neg h0, if_neg (by omega), if_neg h1, if_neg h2, if_pos h3]
theorem tk_jump (acc : List By) (o : Option Nat) (h : at_ < b.length) (h1 : 192 ≤ (b[at_]'h).toNat) (h2 : at_ + 1 < b.length) (hp : ((b[at_]'h).toNat - 192) * 256 + (b[at_ + 1]'h2).toNat < row) :
    fin acc o (tk b row at_ size) = fin acc (some (o.getD (at_ + 2))) (tk b (((b[at_]'h).toNat - 192) * 256 + (b[at_ + 1]'h2).toNat) (((b[at_]'h).toNat - 192) * 256 + (b[at_ + 1]'h2).toNat) size) := by
  rw [tk, dif_pos h, if_neg (by omega), if_pos h1, dif_pos h2, dif_pos hp]
  cases tk b (((b[at_]'h).toNat - 192) * 256 + (b[at_ + 1]'h2).toNat) (((b[at_]'h).toNat - 192) * 256 + (b[at_ + 1]'h2).toNat) size <;> rfl
theorem tk_label (acc : List By) (o : Option Nat) (h : at_ < b.length) (h0 : (b[at_]'h).toNat ≠ 0) (h1 : ¬ 64 ≤ (b[at_]'h).toNat) (h2 : ¬ b.length < at_ + 1 + (b[at_]'h).toNat) (h3 : ¬ 255 < size + 1 + (b[at_]'h).toNat) :
    fin acc o (tk b row at_ size) = fin (acc ++ [(b.drop (at_ + 1)).take (b[at_]'h).toNat]) o (tk b row (at_ + 1 + (b[at_]'h).toNat) (size + 1 + (b[at_]'h).toNat)) := by
  rw [tk, dif_pos h, if_neg h0, if_neg (by omega), if_neg h1, if_neg h2, if_neg h3]
  cases tk b row (at_ + 1 + (b[at_]'h).toNat) (size + 1 + (b[at_]'h).toNat) <;> simp [fin]
end
/-- all labels' bytes, each with its length ahead. -/
def tot : List By → Nat
  | [] => 0
  | l :: r => l.length + 1 + tot r
theorem fin_ok {acc ls : List By} {o : Option Nat} {bh : Nat} {r : TR} (h : fin acc o r = .ok ls bh) : ∃ ls' bh', r = .ok ls' bh' ∧ ls = acc ++ ls' ∧ bh = o.getD bh' := by
  cases r with
  | err e => cases h
  | ok a c =>
    injection h with h1 h2
    exact ⟨a, c, rfl, h1.symm, h2.symm⟩
/-- what is read is sound: the place behind, the labels, how much they are together. -/
theorem tk_sound (b : By) : ∀ (m row at_ size : Nat) (ls : List By) (bh : Nat), row * (b.length + 2) + (b.length + 1 - at_) ≤ m → size ≤ 255 → tk b row at_ size = .ok ls bh →
    at_ < bh ∧ bh ≤ b.length ∧ (∀ l ∈ ls, 1 ≤ l.length ∧ l.length ≤ 63) ∧ size + tot ls ≤ 255 := by
  intro m
  induction m with
  | zero =>
    intro row at_ size ls bh hm _ h
    by_cases hlt : at_ < b.length
    · omega
    · rw [tk_out hlt] at h; cases h
  | succ m ih =>
    intro row at_ size ls bh hm hs h
    by_cases hlt : at_ < b.length
    · by_cases h0 : (b[at_]'hlt).toNat = 0
      · rw [tk_end hlt h0] at h
        injection h with h1 h2
        subst h1 h2
        exact ⟨by omega, by omega, (fun l hl => by cases hl), by simpa [tot] using hs⟩
      · by_cases h1 : 192 ≤ (b[at_]'hlt).toNat
        · by_cases h2 : at_ + 1 < b.length
          · by_cases hp : ((b[at_]'hlt).toNat - 192) * 256 + (b[at_ + 1]'h2).toNat < row
            · have hj := tk_jump (size := size) [] none hlt h1 h2 hp
              rw [fin_nil] at hj
              rw [hj] at h
              obtain ⟨ls', bh', hr, e1, e2⟩ := fin_ok h
              have hme := meas (L := b.length) (a := at_) hp
              obtain ⟨_, _, hg, ht⟩ := ih _ _ _ _ _ (by omega) hs hr
              simp at e1 e2
              subst e1 e2
              exact ⟨by omega, by omega, hg, ht⟩
            · rw [tk_back hlt h1 h2 hp] at h; cases h
          · rw [tk_short hlt h1 h2] at h; cases h
        · by_cases h3 : 64 ≤ (b[at_]'hlt).toNat
          · rw [tk_kind hlt h3 h1] at h; cases h
          · by_cases h4 : b.length < at_ + 1 + (b[at_]'hlt).toNat
            · rw [tk_few hlt h0 h3 h4] at h; cases h
            · by_cases h5 : 255 < size + 1 + (b[at_]'hlt).toNat
              · rw [tk_long hlt h0 h3 h4 h5] at h; cases h
              · have hj := tk_label (row := row) [] none hlt h0 h3 h4 h5
                rw [fin_nil] at hj
                rw [hj] at h
                obtain ⟨ls', bh', hr, e1, e2⟩ := fin_ok h
                obtain ⟨p1, p2, hg, ht⟩ := ih _ _ _ _ _ (by omega) (by omega) hr
                have hl : ((b.drop (at_ + 1)).take (b[at_]'hlt).toNat).length = (b[at_]'hlt).toNat := by rw [List.length_take, List.length_drop]; omega
                simp at e1 e2
                subst e1 e2
                refine ⟨by omega, p2, fun l hl2 => ?_, ?_⟩
                · rcases List.mem_cons.1 hl2 with rfl | hl3
                  · omega
                  · exact hg l hl3
                · rw [tot, hl]; omega
    · rw [tk_out hlt] at h; cases h
end Go.Proofs.Ytfekmolgiohegaa.Pr
