/- Texts of the proofs, merged. -/
import Derived.Test.YtopcklpmeaghmaaGreatDoorG21
/- The words that tell data are read again: any type. Nothing of the program. -/
namespace Go.Proofs.YtopcklpmeaghmaaGreatDoor.Rd

theorem known_tell2 {t : Nat} {d : Dt} {ls : List By} {o : By} (ho : nm o = true) (hN : ∀ i, hasN d i ≤ 4294967295) (hls : t = 16 → tx d.raw = some ls) (h : ok t d = true) (ht : parts t ≠ [4, 0, 0, 0, 0, 0, 0]) : knownR o t (tellQ d ls (parts t) 0) = some d := by
  rw [ok_parts, Bool.and_eq_true] at h
  obtain ⟨hf, hb⟩ := h
  unfold knownR
  revert hf hb ht hls
  obtain ⟨r, hh, m, n0, n1, n2, n3, n4⟩ := d
  refine by_type (P := fun t => (t = 16 → tx r = some ls) → parts t ≠ [4, 0, 0, 0, 0, 0, 0] → fitAll ⟨r, hh, m, n0, n1, n2, n3, n4⟩ (parts t) 0 = true → bare (parts t) ⟨r, hh, m, n0, n1, n2, n3, n4⟩ = true → ((rdAll o (parts t) (tellQ ⟨r, hh, m, n0, n1, n2, n3, n4⟩ ls (parts t) 0, dt0, 0)).bind fun s => if s.1 = [] then some s.2.1 else none) = some ⟨r, hh, m, n0, n1, n2, n3, n4⟩) ?_ ?_ ?_ ?_ ?_ ?_ ?_ ?_ ?_ (fun t a b c d' e f g i j _ h1 => absurd (parts_other a b c d' e f g i j) h1) t
  case refine_7 =>
    intro hls _ hf hb
    have hls := hls rfl
    have hf3 : fit 3 ⟨r, hh, m, n0, n1, n2, n3, n4⟩ 0 = true := by
      have : fitAll ⟨r, hh, m, n0, n1, n2, n3, n4⟩ [3, 0, 0, 0, 0, 0, 0] 0 = true := hf
      rw [fitAll, Bool.and_eq_true] at this
      exact this.1
    rw [show parts 16 = [3, 0, 0, 0, 0, 0, 0] from rfl] at hb ⊢
    rw [texts_tell hf3 hls, Option.bind_some]
    simp [bare, hasRaw, hasHost, hasMail, nums] at hb
    simp [dt0, hb]
  all_goals
    intro _ _ hf hb
    obtain ⟨m', hm⟩ := rdAll_tell (ls := ls) ho hN (e := dt0) (by decide) hf
    rw [hm, Option.bind_some]
    clear hm hf
    simp [parts, bare, hasRaw, hasHost, hasMail, nums] at hb
    simp [parts, updAll, updP, setN, hasN, dt0, hb]
theorem text_end (n : By) : Nm.text n = [] ∨ ∃ p, Nm.text n = p ++ [46] := by
  unfold Nm.text
  cases Nm.split n with
  | none => exact .inl rfl
  | some ls =>
    cases ls with
    | nil => exact .inr ⟨[], rfl⟩
    | cons a r =>
      show Nm.textL (a :: r) = [] ∨ ∃ p, Nm.textL (a :: r) = p ++ [46]
      refine .inr ?_
      unfold Nm.textL
      have : ∀ ls : List By, ls ≠ [] → ∃ p, (ls.flatMap fun l => Nm.esc false l ++ [46]) = p ++ [46] := by
        intro ls
        induction ls with
        | nil => intro h; exact absurd rfl h
        | cons a r ih =>
          intro _
          cases r with
          | nil => exact ⟨Nm.esc false a, by simp⟩
          | cons b r =>
            obtain ⟨p, hp⟩ := ih (by simp)
            exact ⟨Nm.esc false a ++ [46] ++ p, by rw [List.flatMap_cons, hp]; simp⟩
      exact this _ (by simp)
theorem text_no (n : By) : Nm.text n ≠ [92, 35] := by
  intro h
  rcases text_end n with e | ⟨p, e⟩
  · rw [e] at h; cases h
  · rw [e] at h
    have := congrArg List.getLast? h
    simp at this
theorem no92 {p : By} (h : ∀ c ∈ p, c ≠ 92) : p ≠ [92, 35] := fun e => h 92 (by rw [e]; simp) rfl
theorem dec_no (n : Nat) : dec n ≠ [92, 35] := no92 fun _ hc => (digit_ne (dec_mem hc)).2.2.1
theorem four_no (s : By) : joinB 46 (s.map fun c => dec c.toNat) ≠ [92, 35] := no92 fun c hc => by
  rcases joinB_mem hc with rfl | ⟨p, hp, hc⟩
  · decide
  · obtain ⟨x, _, rfl⟩ := List.mem_map.1 hp
    exact (digit_ne (dec_mem hc)).2.2.1
theorem eight_no (s : By) : joinB 58 ((List.range 8).map fun i => hex (grp s i)) ≠ [92, 35] := no92 fun c hc => by
  rcases joinB_mem hc with rfl | ⟨p, hp, hc⟩
  · decide
  · obtain ⟨x, _, rfl⟩ := List.mem_map.1 hp
    exact (hex_mem hc).2.2.1
/-- the first word that tells data of a known type is not the one ahead of any data. -/
theorem first_no (d : Dt) (ls : List By) {t : Nat} (ht : parts t ≠ [4, 0, 0, 0, 0, 0, 0]) : ∀ x r, tellQ d ls (parts t) 0 = x :: r → ¬ (x.1 = [92, 35] ∧ x.2 = false) := by
  revert ht
  refine by_type (P := fun t => parts t ≠ [4, 0, 0, 0, 0, 0, 0] → ∀ x r, tellQ d ls (parts t) 0 = x :: r → ¬ (x.1 = [92, 35] ∧ x.2 = false)) ?_ ?_ ?_ ?_ ?_ ?_ ?_ ?_ ?_ (fun t a b c d' e f g i j h1 => absurd (parts_other a b c d' e f g i j) h1) t
  case refine_7 =>
    intro _ x r h
    have e : tellQ d ls (parts 16) 0 = ls.map fun l => (Nm.esc true l, true) := by simp [parts, tellQ, pcsQ]
    rw [e] at h
    cases ls with
    | nil => cases h
    | cons a l =>
      injection h with h1 h2
      rw [← h1]
      simp
  all_goals
    intro _ x r h
    simp [parts, tellQ, pcsQ] at h
    rw [← h.1]
    simp [dec_no, four_no, eight_no, text_no]
end Go.Proofs.YtopcklpmeaghmaaGreatDoor.Rd
