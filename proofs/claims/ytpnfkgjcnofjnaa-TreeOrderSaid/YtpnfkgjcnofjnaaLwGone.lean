/- What is put and taken out again leaves nothing: pure facts. -/
import Derived.Test.YtpnfkgjcnofjnaaLwSame
namespace Go.Proofs.Ytpnfkgjcnofjnaa.Tr
open Ti (putN delN)

theorem has_insE {V : Type} {e : En V} {l : List (En V)} {q : List By} : hasE q (insE e l) = ((e.p == q) || hasE q l) := by
  unfold hasE
  induction l with
  | nil => rw [insE]; simp
  | cons a l ih =>
    rw [insE]
    split
    · rw [List.any_cons, ih, List.any_cons]
      cases (a.p == q) <;> cases (e.p == q) <;> rfl
    · split
      · rename_i h
        rw [List.any_cons, List.any_cons, h]
        cases (e.p == q) <;> rfl
      · rw [List.any_cons]
theorem ins_filter {V : Type} {e : En V} {l : List (En V)} {P : En V → Bool} (he : P e = false) (hp : ∀ a, a.p = e.p → P a = false) : (insE e l).filter P = l.filter P := by
  induction l with
  | nil => rw [insE]; simp [he]
  | cons a l ih =>
    rw [insE]
    split
    · rw [List.filter_cons, List.filter_cons, ih]
    · split
      · rename_i h
        rw [List.filter_cons, List.filter_cons, he, hp a h]
        simp
      · rw [List.filter_cons, he]; rfl
def outF (fr : List By) (e : En Int) : Bool := !(fr.any fun s => e.p == pth s)
/-- these were put, and weren't there. -/
def GoneOk (E : List (En Int)) (m : No Int) (fr : List By) : Prop :=
  (∀ s ∈ fr, isN s = true ∧ hasE (pth s) E = false ∧ hasE (pth s) (nents m) = true) ∧ (fr.map pth).Nodup ∧ (nents m).filter (outF fr) = E
theorem gone_nil (m : No Int) : GoneOk (nents m) m [] := ⟨by simp, by simp, by
  rw [List.filter_eq_self]
  intro a _; rfl⟩
theorem has_filter {V : Type} {l : List (En V)} {P : En V → Bool} {q : List By} (h : hasE q l = false) : hasE q (l.filter P) = false := by
  unfold hasE at *
  rw [List.any_eq_false] at *
  exact fun e he => h e (List.mem_filter.1 he).1
theorem gone_put {E : List (En Int)} {m : No Int} {fr : List By} (hok : ok m) (h : GoneOk E m fr) {x : By} (hx : isN x = true) (hn : hasE (pth x) (nents m) = false) (v : Int) : GoneOk E (putN x v m) (fr ++ [x]) := by
  obtain ⟨h1, h2, h3⟩ := h
  have he : nents (putN x v m) = insE ⟨pth x, Nm.fold x, v⟩ (nents m) := put_ents hok
  have hE : hasE (pth x) E = false := by rw [← h3]; exact has_filter hn
  refine ⟨fun s hs => ?_, ?_, ?_⟩
  · rcases List.mem_append.1 hs with hs | hs
    · obtain ⟨a, b, c⟩ := h1 s hs
      exact ⟨a, b, by rw [he, has_insE, c, Bool.or_true]⟩
    · simp at hs
      subst hs
      exact ⟨hx, hE, by rw [he, has_insE]; simp⟩
  · rw [List.map_append, List.nodup_append]
    refine ⟨h2, by simp, fun a ha b hb => ?_⟩
    simp at hb
    subst hb
    intro e
    obtain ⟨s, hs, rfl⟩ := List.mem_map.1 ha
    have := (h1 s hs).2.2
    rw [e, hn] at this
    cases this
  · rw [he, ins_filter (by simp [outF]) (fun a ha => by simp [outF, ha]), ← h3]
    refine List.filter_congr fun e hel => ?_
    have : (e.p == pth x) = false := by
      unfold hasE at hn
      rw [List.any_eq_false] at hn
      simpa using hn e hel
    simp [outF, this]
theorem del_ents {s : By} {m : No Int} (hok : ok m) : nents (delN s m) = (nents m).filter fun e => !(e.p == pth s) := (drop_ents hok).1
theorem del_step {K : List (En Int)} {fr : List By} {i : Nat} (hi : i < fr.length) {m : No Int} (hok : ok m) (h : nents m = K.filter (outF (fr.take i))) : nents (delN fr[i] m) = K.filter (outF (fr.take (i + 1))) := by
  rw [del_ents hok, h, List.filter_filter]
  refine List.filter_congr fun e _ => ?_
  rw [List.take_succ_eq_append_getElem hi]
  simp only [outF, List.any_append, List.any_cons, List.any_nil, Bool.or_false, Bool.not_or]
  exact Bool.and_comm _ _
theorem has_at {K : List (En Int)} {fr : List By} {i : Nat} (hi : i < fr.length) (hnd : (fr.map pth).Nodup) (hK : hasE (pth fr[i]) K = true) : hasE (pth fr[i]) (K.filter (outF (fr.take i))) = true := by
  unfold hasE at *
  rw [List.any_eq_true] at *
  obtain ⟨e, he, hp⟩ := hK
  refine ⟨e, List.mem_filter.2 ⟨he, ?_⟩, hp⟩
  have hp' : e.p = pth fr[i] := by simpa using hp
  unfold outF
  rw [Bool.not_eq_true', List.any_eq_false]
  intro s hs
  obtain ⟨j, hj, e2⟩ := List.mem_take_iff_getElem.1 hs
  rw [hp']
  have hj2 : j < i ∧ j < fr.length := by omega
  have hne : pth fr[i] ≠ pth fr[j] := fun e3 => by
    have := List.pairwise_iff_getElem.1 hnd j i (by simpa using hj2.2) (by simpa using hi) hj2.1
    simp only [List.getElem_map] at this
    exact this e3.symm
  subst e2
  simpa using hne
theorem has_gone {q : List By} {l : List (En Int)} : hasE q (l.filter fun e => !(e.p == q)) = false := by
  unfold hasE
  rw [List.any_eq_false]
  intro e he
  have := (List.mem_filter.1 he).2
  simpa using this
theorem del_again {s : By} {m : No Int} (hok : ok m) (h : hasE (pth s) (nents m) = false) : nents (delN s m) = nents m := by
  rw [del_ents hok, List.filter_eq_self]
  intro e he
  unfold hasE at h
  rw [List.any_eq_false] at h
  simpa using h e he
theorem outF_all {E : List (En Int)} {m : No Int} {fr : List By} (h : GoneOk E m fr) {i : Nat} (hi : fr.length ≤ i) : (nents m).filter (outF (fr.take i)) = E := by
  rw [List.take_of_length_le hi]; exact h.2.2
/-- what is asked hangs on the entries alone. -/
theorem dep_same {q : List By} {m m' : No Int} (h : ok m) (h' : ok m') (e : nents m = nents m') (hne : nents m ≠ []) : dep q m = dep q m' := by
  have hb : ∀ {n : No Int}, ok n → nents n ≠ [] → bare n = false := fun hn hx => by
    cases hbn : bare _ with
    | false => rfl
    | true => exact absurd ((nents_nil hn).2 hbn) hx
  have key : ∀ k, k ≤ q.length → (k ≤ dep q m ↔ k ≤ dep q m') := fun k hk => by
    have h1 := ex_take h (hb h hne) hk
    have h2 := ex_take h' (hb h' (by rw [← e]; exact hne)) hk
    rw [e, h2] at h1
    simpa using (decide_eq_decide.1 h1).symm
  have a1 := (key (dep q m) (dep_le q m)).1 (Nat.le_refl _)
  have a2 := (key (dep q m') (dep_le q m')).2 (Nat.le_refl _)
  omega
theorem enc_same {m m' : No Int} (h : ok m) (h' : ok m') (e : nents m = nents m') (s : By) : Ti.encR m s = Ti.encR m' s := by
  unfold Ti.encR
  rw [← e]
  cases hE : (nents m).isEmpty with
  | true => simp
  | false => rw [dep_same h h' e (fun e2 => by rw [e2] at hE; cases hE)]
theorem below_same {m m' : No Int} (e : nents m = nents m') (s : By) : Ti.belowL m s = Ti.belowL m' s := by unfold Ti.belowL; rw [e]
end Go.Proofs.Ytpnfkgjcnofjnaa.Tr
