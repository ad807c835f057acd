/- Texts of the proofs, merged. -/
import Derived.Test.YtopcklpmeaghmaaGreatDoorG18
/- The reader's calls, part by part: the program's. -/
namespace Go.Proofs.YtopcklpmeaghmaaGreatDoor
open Go.RowKit

/-- the call that reads a part. -/
def rdF : Nat → FuncId
  | 0 => 46
  | 1 => 47
  | 2 => 48
  | 3 => 49
  | 4 => 43
  | 5 => 50
  | 6 => 50
  | 7 => 51
  | 8 => 52
  | _ => 53
theorem pass_any (p : Value) (w : World) : Calls Tryz.prog 46 #[p] w fun e w' => e = .returned (.tuple #[]) ∧ w = w' := by
  go_enter Tryz.func46, Tryz.ntmps46
  go_wp2
  go_end0
  exact ⟨rfl, rfl⟩
theorem Rd.plainW_some {ws : List Rd.W2} {y : List UInt8 × List Rd.W2} (h : Rd.plainW ws = some y) : ∃ x rest, ws = x :: rest ∧ x.2 = false ∧ y = (x.1, rest) := by
  cases ws with
  | nil => cases h
  | cons x r =>
    rw [Rd.plainW] at h
    cases hx : x.2 with
    | true => rw [hx] at h; cases h
    | false =>
      rw [hx] at h
      injection h with h
      exact ⟨x, r, rfl, hx, h.symm⟩
theorem Rd.bind_some' {α β : Type} {o : Option α} {f : α → Option β} {b : β} (h : o.bind f = some b) : ∃ a, o = some a ∧ f a = some b := by
  cases o with
  | none => cases h
  | some a => exact ⟨a, rfl, h⟩
theorem Rd.map_some' {α β : Type} {o : Option α} {f : α → β} {b : β} (h : o.map f = some b) : ∃ a, o = some a ∧ f a = b := by
  cases o with
  | none => cases h
  | some a => injection h with h; exact ⟨a, rfl, h⟩
section
variable {g hi n p : Nat} {o : ByteArray} {ws : List Rd.W2} {d : Rd.Dt} {w : World} {s' : Rd.RS}
theorem part_ok (h : St w g hi o ws d n) (hp : p ≤ 9) (hr : Rd.rdP o.data.toList p (ws, d, n) = some s') (hn : p = 8 ∨ p = 9 → n < 5) (h32 : ∀ x ∈ ws, x.1.length < 4294967281) (ho : o.size ≤ 140737488355328) :
    (Calls Tryz.prog (rdF p) #[.pointer (some ⟨g, 0, none⟩)] w fun e w' => e = .returned (.tuple #[]) ∧ St w' g hi o s'.1 s'.2.1 s'.2.2 ∧ Kb g w.heap.size w w') ∧ (∀ x ∈ s'.1, x ∈ ws) ∧ s'.2.2 = n + (if p = 8 ∨ p = 9 then 1 else 0) := by
  unfold Rd.rdP at hr
  by_cases h0 : p = 0
  · subst h0
    injection hr with hr
    subst hr
    exact ⟨(pass_any _ w).mono fun e w' ⟨he, hw⟩ => ⟨he, hw ▸ h, hw ▸ Kb.refl _ _ _⟩, fun x hx => hx, rfl⟩
  rw [if_neg h0] at hr
  by_cases h1 : p = 1
  · subst h1
    rw [if_pos rfl] at hr
    obtain ⟨y, hy, hr⟩ := Rd.bind_some' hr
    obtain ⟨x, rest, rfl, hx, rfl⟩ := Rd.plainW_some hy
    obtain ⟨r, hq, rfl⟩ := Rd.map_some' hr
    exact ⟨rdFour_ok h hx (h32 x (by simp)) hq, fun x hx => by simp [hx], rfl⟩
  rw [if_neg h1] at hr
  by_cases h2 : p = 2
  · subst h2
    rw [if_pos rfl] at hr
    obtain ⟨y, hy, hr⟩ := Rd.bind_some' hr
    obtain ⟨x, rest, rfl, hx, rfl⟩ := Rd.plainW_some hy
    obtain ⟨r, hq, rfl⟩ := Rd.map_some' hr
    exact ⟨rdEight_ok h hx (h32 x (by simp)) hq, fun x hx => by simp [hx], rfl⟩
  rw [if_neg h2] at hr
  by_cases h3 : p = 3
  · subst h3
    rw [if_pos rfl] at hr
    cases ws with
    | nil => rw [if_pos rfl] at hr; cases hr
    | cons x rest =>
      rw [if_neg (by simp)] at hr
      obtain ⟨r, hq, rfl⟩ := Rd.map_some' hr
      exact ⟨rdTexts_ok h hq, fun x hx => by simp at hx, rfl⟩
  rw [if_neg h3] at hr
  by_cases h4 : p = 4
  · rw [if_pos h4] at hr; cases hr
  rw [if_neg h4] at hr
  by_cases h5 : p = 5 ∨ p = 6
  · rw [if_pos h5] at hr
    obtain ⟨y, hy, hr⟩ := Rd.bind_some' hr
    obtain ⟨x, rest, rfl, hx, rfl⟩ := Rd.plainW_some hy
    obtain ⟨r, hq, rfl⟩ := Rd.map_some' hr
    have e : rdF p = 50 := by rcases h5 with rfl | rfl <;> rfl
    rw [e, if_neg (by omega)]
    exact ⟨rdHost_ok h hx ho hq, fun x hx => by simp [hx], rfl⟩
  rw [if_neg h5] at hr
  by_cases h7 : p = 7
  · subst h7
    rw [if_pos rfl] at hr
    obtain ⟨y, hy, hr⟩ := Rd.bind_some' hr
    obtain ⟨x, rest, rfl, hx, rfl⟩ := Rd.plainW_some hy
    obtain ⟨r, hq, rfl⟩ := Rd.map_some' hr
    exact ⟨rdMail_ok h hx ho hq, fun x hx => by simp [hx], rfl⟩
  rw [if_neg h7] at hr
  obtain ⟨y, hy, hr⟩ := Rd.bind_some' hr
  obtain ⟨x, rest, rfl, hx, rfl⟩ := Rd.plainW_some hy
  obtain ⟨r, hq, rfl⟩ := Rd.map_some' hr
  by_cases h8 : p = 8
  · subst h8
    rw [if_pos rfl] at hq
    exact ⟨rdNarrow_ok h hx (hn (.inl rfl)) hq, fun x hx => by simp [hx], rfl⟩
  · obtain rfl : p = 9 := by omega
    rw [if_neg h8] at hq
    exact ⟨rdWide_ok h hx (hn (.inr rfl)) hq, fun x hx => by simp [hx], rfl⟩
end
end Go.Proofs.YtopcklpmeaghmaaGreatDoor
