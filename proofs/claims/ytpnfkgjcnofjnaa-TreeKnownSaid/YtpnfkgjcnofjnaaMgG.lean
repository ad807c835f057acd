/- Texts of the proofs, merged. -/
import Derived.Test.YtpnfkgjcnofjnaaLwSame
/- What is put and taken out again leaves nothing: pure facts. -/
namespace Go.Proofs.Ytpnfkgjcnofjnaa.Tr
open Ti (putN delN)

theorem has_insE {V : Type} {e : En V} {l : List (En V)} {q : List By} : hasE q (insE e l) = ((e.p == q) || hasE q l) := by
  unfold hasE
  induction l with
  | nil => rw [insE]; simp
  | cons a l ih =>
    rw [insE]
    split
    · rw [List.any_cons, ih, List.any_cons]
      cases (a.p == q) <;> cases (e.p == q) <;> rfl
    · split
      · rename_i h
        rw [List.any_cons, List.any_cons, h]
        cases (e.p == q) <;> rfl
      · rw [List.any_cons]
theorem ins_filter {V : Type} {e : En V} {l : List (En V)} {P : En V → Bool} (he : P e = false) (hp : ∀ a, a.p = e.p → P a = false) : (insE e l).filter P = l.filter P := by
  induction l with
  | nil => rw [insE]; simp [he]
  | cons a l ih =>
    rw [insE]
    split
    · rw [List.filter_cons, List.filter_cons, ih]
    · split
      · rename_i h
        rw [List.filter_cons, List.filter_cons, he, hp a h]
        simp
      · rw [List.filter_cons, he]; rfl
def outF (fr : List By) (e : En Int) : Bool := !(fr.any fun s => e.p == pth s)
/-- these were put, and weren't there. -/
def GoneOk (E : List (En Int)) (m : No Int) (fr : List By) : Prop :=
  (∀ s ∈ fr, isN s = true ∧ hasE (pth s) E = false ∧ hasE (pth s) (nents m) = true) ∧ (fr.map pth).Nodup ∧ (nents m).filter (outF fr) = E
theorem gone_nil (m : No Int) : GoneOk (nents m) m [] := ⟨by simp, by simp, by
  rw [List.filter_eq_self]
  intro a _; rfl⟩
theorem has_filter {V : Type} {l : List (En V)} {P : En V → Bool} {q : List By} (h : hasE q l = false) : hasE q (l.filter P) = false := by
  unfold hasE at *
  rw [List.any_eq_false] at *
  exact fun e he => h e (List.mem_filter.1 he).1
theorem gone_put {E : List (En Int)} {m : No Int} {fr : List By} (hok : ok m) (h : GoneOk E m fr) {x : By} (hx : isN x = true) (hn : hasE (pth x) (nents m) = false) (v : Int) : GoneOk E (putN x v m) (fr ++ [x]) := by
  obtain ⟨h1, h2, h3⟩ := h
  have he : nents (putN x v m) = insE ⟨pth x, Nm.fold x, v⟩ (nents m) := put_ents hok
  have hE : hasE (pth x) E = false := by rw [← h3]; exact has_filter hn
  refine ⟨fun s hs => ?_, ?_, ?_⟩
  · rcases List.mem_append.1 hs with hs | hs
    · obtain ⟨a, b, c⟩ := h1 s hs
      exact ⟨a, b, by rw [he, has_insE, c, Bool.or_true]⟩
    · simp at hs
      subst hs
      exact ⟨hx, hE, by rw [he, has_insE]; simp⟩
  · rw [List.map_append, List.nodup_append]
    refine ⟨h2, by simp, fun a ha b hb => ?_⟩
    simp at hb
    subst hb
    intro e
    obtain ⟨s, hs, rfl⟩ := List.mem_map.1 ha
    have := (h1 s hs).2.2
    rw [e, hn] at this
    cases this
  · rw [he, ins_filter (by simp [outF]) (fun a ha => by simp [outF, ha]), ← h3]
    refine List.filter_congr fun e hel => ?_
    have : (e.p == pth x) = false := by
      unfold hasE at hn
      rw [List.any_eq_false] at hn
      simpa using hn e hel
    simp [outF, this]
theorem del_ents {s : By} {m : No Int} (hok : ok m) : nents (delN s m) = (nents m).filter fun e => !(e.p == pth s) := (drop_ents hok).1
theorem del_step {K : List (En Int)} {fr : List By} {i : Nat} (hi : i < fr.length) {m : No Int} (hok : ok m) (h : nents m = K.filter (outF (fr.take i))) : nents (delN fr[i] m) = K.filter (outF (fr.take (i + 1))) := by
  rw [del_ents hok, h, List.filter_filter]
  refine List.filter_congr fun e _ => ?_
  rw [List.take_succ_eq_append_getElem hi]
  simp only [outF, List.any_append, List.any_cons, List.any_nil, Bool.or_false, Bool.not_or]
  exact Bool.and_comm _ _
theorem has_at {K : List (En Int)} {fr : List By} {i : Nat} (hi : i < fr.length) (hnd : (fr.map pth).Nodup) (hK : hasE (pth fr[i]) K = true) : hasE (pth fr[i]) (K.filter (outF (fr.take i))) = true := by
  unfold hasE at *
  rw [List.any_eq_true] at *
  obtain ⟨e, he, hp⟩ := hK
  refine ⟨e, List.mem_filter.2 ⟨he, ?_⟩, hp⟩
  have hp' : e.p = pth fr[i] := by simpa using hp
  unfold outF
  rw [Bool.not_eq_true', List.any_eq_false]
  intro s hs
  obtain ⟨j, hj, e2⟩ := List.mem_take_iff_getElem.1 hs
  rw [hp']
  have hj2 : j < i ∧ j < fr.length := by omega
  have hne : pth fr[i] ≠ pth fr[j] := fun e3 => by
    have := List.pairwise_iff_getElem.1 hnd j i (by simpa using hj2.2) (by simpa using hi) hj2.1
    simp only [List.getElem_map] at this
    exact this e3.symm
  subst e2
  simpa using hne
theorem has_gone {q : List By} {l : List (En Int)} : hasE q (l.filter fun e => !(e.p == q)) = false := by
  unfold hasE
  rw [List.any_eq_false]
  intro e he
  have := (List.mem_filter.1 he).2
  simpa using this
theorem del_again {s : By} {m : No Int} (hok : ok m) (h : hasE (pth s) (nents m) = false) : nents (delN s m) = nents m := by
  rw [del_ents hok, List.filter_eq_self]
  intro e he
  unfold hasE at h
  rw [List.any_eq_false] at h
  simpa using h e he
theorem outF_all {E : List (En Int)} {m : No Int} {fr : List By} (h : GoneOk E m fr) {i : Nat} (hi : fr.length ≤ i) : (nents m).filter (outF (fr.take i)) = E := by
  rw [List.take_of_length_le hi]; exact h.2.2
/-- what is asked hangs on the entries alone. -/
theorem dep_same {q : List By} {m m' : No Int} (h : ok m) (h' : ok m') (e : nents m = nents m') (hne : nents m ≠ []) : dep q m = dep q m' := by
  have hb : ∀ {n : No Int}, ok n → nents n ≠ [] → bare n = false := fun hn hx => by
    cases hbn : bare _ with
    | false => rfl
    | true => exact absurd ((nents_nil hn).2 hbn) hx
  have key : ∀ k, k ≤ q.length → (k ≤ dep q m ↔ k ≤ dep q m') := fun k hk => by
    have h1 := ex_take h (hb h hne) hk
    have h2 := ex_take h' (hb h' (by rw [← e]; exact hne)) hk
    rw [e, h2] at h1
    simpa using (decide_eq_decide.1 h1).symm
  have a1 := (key (dep q m) (dep_le q m)).1 (Nat.le_refl _)
  have a2 := (key (dep q m') (dep_le q m')).2 (Nat.le_refl _)
  omega
theorem enc_same {m m' : No Int} (h : ok m) (h' : ok m') (e : nents m = nents m') (s : By) : Ti.encR m s = Ti.encR m' s := by
  unfold Ti.encR
  rw [← e]
  cases hE : (nents m).isEmpty with
  | true => simp
  | false => rw [dep_same h h' e (fun e2 => by rw [e2] at hE; cases hE)]
theorem below_same {m m' : No Int} (e : nents m = nents m') (s : By) : Ti.belowL m s = Ti.belowL m' s := by unfold Ti.belowL; rw [e]
end Go.Proofs.Ytpnfkgjcnofjnaa.Tr
/- Names put one behind the other: what their tree holds. Pure facts. -/
namespace Go.Proofs.Ytpnfkgjcnofjnaa.Tr
open Nm (fold small sp split)
open Ti (putN belowL nextR getR)

theorem small_id {c : UInt8} (h : (small c).toNat ≤ 63) : small c = c := by
  unfold small at *
  split
  · rename_i h2
    rw [if_pos h2] at h
    simp only [UInt8.le_iff_toNat_le] at h2
    exfalso
    rw [UInt8.toNat_add] at h
    simp at h h2
    omega
  · rfl
theorem sp_fold_some : ∀ (n : Nat) (s : By), s.length ≤ n → (sp (fold s)).isSome = true → (sp s).isSome = true := by
  intro n
  induction n with
  | zero =>
    intro s hs h
    have : s = [] := by cases s; rfl; simp at hs
    subst this
    exact h
  | succ n ih =>
    intro s hs h
    cases s with
    | nil => exact h
    | cons c t =>
      have hf : fold (c :: t) = small c :: fold t := rfl
      rw [hf] at h
      by_cases h0 : (small c).toNat = 0
      · have hc := small_id (c := c) (by omega)
        rw [hc] at h h0
        rw [Nm.sp_zero h0] at h ⊢
        rw [Nm.fold_length] at h
        exact h
      · by_cases h1 : (small c).toNat ≤ 63
        · have hc := small_id (c := c) h1
          rw [hc] at h h0 h1
          by_cases h2 : c.toNat ≤ t.length
          · rw [Nm.sp_cons h0 h1 (by rw [Nm.fold_length]; exact h2)] at h
            rw [Nm.sp_cons h0 h1 h2]
            rw [Option.isSome_map] at h ⊢
            refine ih _ (by simp at hs ⊢; omega) ?_
            have : fold (t.drop c.toNat) = (fold t).drop c.toNat := by simp [fold, List.map_drop]
            rw [this]; exact h
          · rw [Nm.sp_bad h0 (.inr (by rw [Nm.fold_length]; omega))] at h
            cases h
        · rw [Nm.sp_bad h0 (.inl (by omega))] at h
          cases h
theorem isN_unfold {s : By} (h : isN (fold s) = true) : isN s = true := by
  unfold isN split at *
  rw [Nm.fold_length] at h
  split at h
  · cases h
  · rename_i h2
    rw [if_neg h2]
    have := sp_fold_some s.length s (Nat.le_refl _)
    unfold sp at this
    rw [Nm.fold_length] at this
    exact this h
/-- what an entry of a grown tree is. -/
def LastAt (ls : List By) (e : En Int) : Prop :=
  ∃ v : Nat, v < ls.length ∧ e.v = (v : Int) ∧ isN (ls.getD v []) = true ∧ e.p = pth (ls.getD v []) ∧ e.k = fold (ls.getD v []) ∧ ∀ j, v < j → j < ls.length → fold (ls.getD j []) ≠ e.k
theorem insE_old {e x : En Int} {l : List (En Int)} (h : x ∈ insE e l) (ha : Asc l) : x = e ∨ (x ∈ l ∧ x.p ≠ e.p) := by
  induction l with
  | nil => simp [insE] at h; exact .inl h
  | cons a l ih =>
    have ha' := List.pairwise_cons.1 ha
    rw [insE] at h
    split at h
    · rename_i h1
      rcases List.mem_cons.1 h with rfl | h
      · exact .inr ⟨by simp, cmpP_ne h1⟩
      · rcases ih h ha'.2 with h | h
        · exact .inl h
        · exact .inr ⟨by simp [h.1], h.2⟩
    · rename_i h1
      split at h
      · rename_i h2
        rcases List.mem_cons.1 h with rfl | h
        · exact .inl rfl
        · exact .inr ⟨by simp [h], fun e2 => by have := ha'.1 x h; rw [h2, e2, cmpP_self] at this; omega⟩
      · rename_i h2
        rcases List.mem_cons.1 h with rfl | h
        · exact .inl rfl
        · refine .inr ⟨h, fun e2 => ?_⟩
          rcases List.mem_cons.1 h with rfl | h
          · exact h2 e2
          · have h3 := ha'.1 x h
            rw [e2] at h3
            exact h1 h3
theorem grow_last (ls : List By) : (∀ e ∈ nents (growN ls 0 Ti.rootN), LastAt ls e) ∧ (∀ s ∈ ls, isN s = true → hasE (pth s) (nents (growN ls 0 Ti.rootN)) = true) := by
  induction hl : ls.length generalizing ls with
  | zero =>
    have : ls = [] := List.length_eq_zero_iff.1 hl
    subst this
    exact ⟨(fun e he => by cases he), by simp⟩
  | succ n ih =>
    obtain ⟨l, x, rfl⟩ : ∃ l x, ls = l ++ [x] := ⟨ls.dropLast, ls.getLast (by intro e; rw [e] at hl; cases hl), by rw [List.dropLast_concat_getLast]⟩
    have hn : l.length = n := by simpa using hl
    obtain ⟨h1, h2⟩ := ih l hn
    have hok := (grow_ok l 0 Ti.rootN ⟨trivial, fun _ => ⟨rfl, rfl⟩⟩ (fun e he => by cases he)).1
    have hkeep : ∀ e, LastAt l e → fold x ≠ e.k → LastAt (l ++ [x]) e := fun e ⟨v, a, b, c, d, f, g⟩ hne => by
      have hg : ∀ j, j < l.length → (l ++ [x]).getD j [] = l.getD j [] := fun j hj => by simp [List.getD, List.getElem?_append_left hj]
      refine ⟨v, by simp; omega, b, by rw [hg v a]; exact c, by rw [hg v a]; exact d, by rw [hg v a]; exact f, fun j hj hj2 => ?_⟩
      rcases Nat.lt_or_ge j l.length with hj3 | hj3
      · rw [hg j hj3]; exact g j hj hj3
      · have : j = l.length := by simp at hj2; omega
        subst this
        simpa [List.getD] using hne
    rw [growN_snoc, Nat.zero_add]
    by_cases hx : isN x = true
    · rw [if_pos hx]
      have he : nents (putN x (l.length : Int) (growN l 0 Ti.rootN)) = insE ⟨pth x, fold x, (l.length : Int)⟩ (nents (growN l 0 Ti.rootN)) := put_ents hok
      rw [he]
      refine ⟨fun e hm => ?_, fun s hs hsn => ?_⟩
      · rcases insE_old hm (asc_nents hok) with rfl | ⟨hm, hne⟩
        · have hg : (l ++ [x]).getD l.length [] = x := by simp [List.getD]
          exact ⟨l.length, by simp, rfl, by rw [hg]; exact hx, by rw [hg], by rw [hg], fun j hj hj2 => by simp at hj2; omega⟩
        · refine hkeep e (h1 e hm) fun e2 => hne ?_
          obtain ⟨v, a, _, c, d, f, _⟩ := h1 e hm
          rw [d]
          rw [f] at e2
          exact (fold_pth c hx).2 e2.symm
      · rw [has_insE]
        rcases List.mem_append.1 hs with hs | hs
        · rw [h2 s hs hsn, Bool.or_true]
        · simp at hs; subst hs; simp
    · rw [if_neg hx]
      refine ⟨fun e hm => hkeep e (h1 e hm) fun e2 => hx ?_, fun s hs hsn => ?_⟩
      · obtain ⟨v, a, _, c, d, f, _⟩ := h1 e hm
        rw [f] at e2
        exact isN_unfold (by rw [e2]; exact isN_fold c)
      · rcases List.mem_append.1 hs with hs | hs
        · exact h2 s hs hsn
        · simp at hs; subst hs; exact absurd hsn hx
/-- what is told of the whole. -/
theorem told_all (m : No Int) : belowL m [0] = (nents m).map fun e => (e.k, e.v) := by
  have h1 : isN [0] = true := by decide
  have h2 : pth [0] = [] := by decide
  unfold belowL
  rw [if_pos h1, h2]
  congr 1
  rw [List.filter_eq_self]
  intro a _; simp
theorem next_at {m : No Int} (hok : ok m) (hk : KeyOk (nents m)) {i : Nat} (hi : i < (nents m).length) : nextR m ((nents m)[i]).k = if h : i + 1 < (nents m).length then some ((nents m)[i + 1]).k else none := by
  obtain ⟨t, ht, h1, h2⟩ := hk _ (List.getElem_mem hi)
  have hasc := asc_nents hok
  unfold nextR
  rw [h1, if_pos (isN_fold ht), pth_fold, ← h2]
  generalize nents m = E at *
  have hn : gtE (E[i]).p (E.take (i + 1)) = none := gt_none fun e he => by
    obtain ⟨j, hj, rfl⟩ := List.mem_take_iff_getElem.1 he
    rcases Nat.lt_or_ge j i with h | h
    · have := List.pairwise_iff_getElem.1 hasc j i (by omega) hi h
      exact fun h3 => by have := cmpP_lt_trans this h3; rw [cmpP_self] at this; omega
    · have : j = i := by omega
      subst this
      rw [cmpP_self]; omega
  have h3 : gtE (E[i]).p E = (E.drop (i + 1)).head? := by
    have h4 : gtE (E[i]).p (E.take (i + 1) ++ E.drop (i + 1)) = (E.drop (i + 1)).head? := by
      rw [gt_app, hn, Option.none_or]
      refine gt_all fun e he => ?_
      obtain ⟨j, hj, rfl⟩ := List.mem_drop_iff_getElem.1 he
      exact List.pairwise_iff_getElem.1 hasc i (i + 1 + j) hi (by omega) (by omega)
    have h5 : E.take (i + 1) ++ E.drop (i + 1) = E := List.take_append_drop _ _
    rw [← h4]
    exact congrArg (gtE (E[i]).p) h5.symm
  rw [h3]
  split
  · rename_i h
    rw [List.drop_eq_getElem_cons h]; rfl
  · rename_i h
    rw [List.drop_eq_nil_of_le (by omega)]; rfl
/-- what lies side by side. -/
theorem side {α : Type} (U : α → Bool) (L : List α) (h : ∀ l1 x l2 y l3 z l4, L = l1 ++ x :: (l2 ++ y :: (l3 ++ z :: l4)) → U x = true → U z = true → U y = true) :
    ∃ A B C, L = A ++ (B ++ C) ∧ (∀ x ∈ A, U x = false) ∧ (∀ x ∈ B, U x = true) ∧ (∀ x ∈ C, U x = false) := by
  induction L with
  | nil => exact ⟨[], [], [], rfl, by simp, by simp, by simp⟩
  | cons a L ih =>
    obtain ⟨A, B, C, rfl, hA, hB, hC⟩ := ih fun l1 x l2 y l3 z l4 e => h (a :: l1) x l2 y l3 z l4 (by rw [e]; rfl)
    cases hU : U a with
    | false => exact ⟨a :: A, B, C, rfl, fun x hx => by rcases List.mem_cons.1 hx with rfl | hx; exact hU; exact hA x hx, hB, hC⟩
    | true =>
      cases B with
      | nil => exact ⟨[], [a], A ++ C, rfl, by simp, by simpa using hU, fun x hx => by rcases List.mem_append.1 hx with hx | hx; exact hA x hx; exact hC x hx⟩
      | cons z B =>
        cases A with
        | nil => exact ⟨[], a :: z :: B, C, rfl, by simp, fun x hx => by rcases List.mem_cons.1 hx with rfl | hx; exact hU; exact hB x hx, hC⟩
        | cons y A =>
          exfalso
          have := h [] a [] y A z (B ++ C) (by simp) hU (hB z (by simp))
          rw [hA y (by simp)] at this
          cases this
/-- what is at or under a name stands side by side. -/
theorem below_side {m : No Int} (hok : ok m) (hk : KeyOk (nents m)) {s : By} (hn : isN s = true) :
    ∃ A B C, belowL m [0] = A ++ (B ++ C) ∧ belowL m s = B ∧ (∀ x ∈ A, Nm.underB x.1 s = false) ∧ (∀ x ∈ B, Nm.underB x.1 s = true) ∧ (∀ x ∈ C, Nm.underB x.1 s = false) := by
  have hasc := asc_nents hok
  obtain ⟨A, B, C, e, hA, hB, hC⟩ := side (fun e : En Int => (pth s).isPrefixOf e.p) (nents m) (fun l1 x l2 y l3 z l4 e hx hz => by
    rw [e] at hasc
    have h1 := (List.pairwise_append.1 hasc).2.1
    have h2 := List.pairwise_cons.1 h1
    have h3 : cmpP x.p y.p < 0 := h2.1 y (by simp)
    have h4 : cmpP y.p z.p < 0 := (List.pairwise_cons.1 (List.pairwise_append.1 h2.2).2.1).1 z (by simp)
    have h5 : cmpP (pth s) y.p < 0 := by
      rcases pre_le hx with h6 | h6
      · exact cmpP_lt_trans h6 h3
      · rw [h6]; exact h3
    exact pre_between h5 (.inl h4) hz)
  have hu : ∀ x ∈ nents m, Nm.underB x.k s = (pth s).isPrefixOf x.p := fun x hx => by
    obtain ⟨t, ht, h1, h2⟩ := hk x hx
    rw [h1, under_path (isN_fold ht) hn, pth_fold, h2]
  refine ⟨A.map fun e => (e.k, e.v), B.map fun e => (e.k, e.v), C.map fun e => (e.k, e.v), by rw [told_all, e]; simp, ?_, ?_, ?_, ?_⟩
  · unfold belowL
    rw [if_pos hn, e, List.filter_append, List.filter_append, List.filter_eq_nil_iff.2 (fun a ha h => Bool.false_ne_true ((hA a ha).symm.trans h)), List.filter_eq_self.2 (fun a ha => hB a ha), List.filter_eq_nil_iff.2 (fun a ha h => Bool.false_ne_true ((hC a ha).symm.trans h))]
    simp
  · intro x hx
    obtain ⟨a, ha, rfl⟩ := List.mem_map.1 hx
    exact (hu a (by rw [e]; simp [ha])).trans (hA a ha)
  · intro x hx
    obtain ⟨a, ha, rfl⟩ := List.mem_map.1 hx
    exact (hu a (by rw [e]; simp [ha])).trans (hB a ha)
  · intro x hx
    obtain ⟨a, ha, rfl⟩ := List.mem_map.1 hx
    exact (hu a (by rw [e]; simp [ha])).trans (hC a ha)
end Go.Proofs.Ytpnfkgjcnofjnaa.Tr
/- What is put and taken out again leaves nothing: the statement's memory. -/
namespace Go.Proofs.Ytpnfkgjcnofjnaa
open Go.RowKit
theorem wpList_append_at {P : Program} {w : World} {ops : Array Oper} {rest : List Oper} {o : Oper} {a : Act} {Q : Exit → Act → World → Prop}
    (hg : o.guard = none) (s x : Operand) (t : TypeId) (hop : o.op = Op.call { callee := Callee.builtin Builtin.append, args := #[s, x], argTypes := #[t, t] })
    (v y : Value) (hs : a.eval s = v) (hx : a.eval x = y) {v' : Value} {w' : World} (hrun : (Builtin.append_ #[t, t] o.type #[v, y]).run P w = .ok v' w')
    (h : wpList P ops Q rest (a.put o.dst v') w') : wpList P ops Q (o :: rest) a w := by
  refine wpList_plain hg fun K hK' => ?_
  unfold Oper.wp execOp
  simp only [hop, resolve, invoke, builtin, Sem.run_bind, Sem.run_pure, Result.andThen_ok, List.map_toArray, List.map_cons, List.map_nil, hs, hx, hrun]
  exact hK' _ _ h
end Go.Proofs.Ytpnfkgjcnofjnaa
namespace Go.Proofs.Ytpnfkgjcnofjnaa.Ti
open Go.RowKit Go.Shelf Tr

set_option maxRecDepth 100000 in
theorem info_name : ∃ i z, Try.prog.info? 28 = some i ∧ i.zero = some z ∧ i.size = 1 ∧ i.bytes = 16 ∧ z.cells.size = 1 := by
  refine ⟨_, _, rfl, rfl, ?_, ?_, ?_⟩ <;> kernel_rfl
structure GnS (w wr : World) (b : Nat) (vw : Value) (L : List (By × TV)) (m : No TV) (fr : List By) (vf : Value) (F : List Nat) : Prop where
  tm : TM wr b m F
  low : ∀ q ∈ F, w.heap.size ≤ q
  bel : Below w.heap.size w wr
  was : PRow wr w.heap.size vw L
  wasF : ∀ q, vw.ownBlock = some q → q ∉ F
  row : wr.ownsRow w.heap.size 28 1 vf fr.length (svs fr)
  rowF : ∀ q, vf.ownBlock = some q → q ∉ F
  rowW : ∀ q, vf.ownBlock = some q → vw.ownBlock ≠ some q
section
variable {w wr X : World} {b : Nat} {vw : Value} {L : List (By × TV)} {m m' : No TV} {fr : List By} {vf : Value} {F F' : List Nat}
theorem GnS.below {B : Nat} (h : GnS w wr b vw L m fr vf F) (hb : Below B wr X) (hB : wr.heap.size ≤ B) : GnS w X b vw L m fr vf F :=
  ⟨h.tm.below hb hB, h.low, h.bel.trans (hb.mono (Nat.le_trans h.bel.size hB)), ownK_below h.was hb hB, h.wasF, ownK_below h.row hb hB, h.rowF, h.rowW⟩
theorem GnS.only (h : GnS w wr b vw L m fr vf F) (ht : TM X b m' F') (hn : New wr F F') (ho : Only F wr X) : GnS w X b vw L m' fr vf F' :=
  ⟨ht, fun q hq => by
    rcases hn q hq with h1 | h1
    · exact h.low q h1
    · exact Nat.le_trans h.bel.size h1, h.bel.trans (ho.below h.low h.bel.size), ownK_same h.was fun q hq => ho.block q (h.was.lt q hq).2 (h.wasF q hq), fun q hq hm => by
    rcases hn q hm with h1 | h1
    · exact h.wasF q hq h1
    · have := (h.was.lt q hq).2; omega, ownK_same h.row fun q hq => ho.block q (h.row.lt q hq).2 (h.rowF q hq), fun q hq hm => by
    rcases hn q hm with h1 | h1
    · exact h.rowF q hq h1
    · have := (h.row.lt q hq).2; omega, h.rowW⟩
theorem GnS.app (h : GnS w wr b vw L m fr vf F) (x : By) (hl : fr.length ≤ 1000000) :
    ∃ A2 c2 w2, (Builtin.append_ #[44, 44] 44 #[vf, .slice (some ⟨wr.heap.size, 0, none⟩) 1 1]).run Try.prog (wr.alloc (.cells #[sv x] 28)) = .ok (.slice A2 (fr.length + 1) c2) w2 ∧ GnS w w2 b vw L m (fr ++ [x]) (.slice A2 (fr.length + 1) c2) F := by
  obtain ⟨i4, z4, hi4, hz4, hs4, hb4, hc4⟩ := info_name
  have hz := h.bel.size
  obtain ⟨v2, w2, hr, ho, hgw, hv⟩ := run_append_where (P := Try.prog) (w := wr.alloc (.cells #[sv x] 28)) w.heap.size 44 44 28 i4 z4 1 16 Try.underlying44 hi4 hz4 hs4 hb4 hc4 (by decide) vf fr.length (svs fr)
    (h.row.alloc _) ⟨wr.heap.size, 0, none⟩ 1 1 [sv x] rfl (fun i u hu => by rw [addr_add, Nat.zero_add, (Has.fresh wr 28 #[sv x]).cell i]; simpa using hu) (by simp [Value.oneCell']) (by decide) (by unfold maxLen; omega) (by omega) (by simp; omega)
  obtain ⟨ad2, cp2, hv2, _⟩ := ownK_form ho
  subst hv2
  have hF : ∀ q ∈ F, q < wr.heap.size := h.tm.node.lt
  have hs : ∀ q, vf.ownBlock ≠ some q → q < wr.heap.size → w2.heap[q]? = wr.heap[q]? := fun q hq hlt => (hgw.block q (by simp; omega) (fun e => hq e.symm)).trans (Below.heap_alloc wr _ q hlt)
  have hq2 : ∀ q, (Value.slice ad2 (fr.length + 1) cp2).ownBlock = some q → vf.ownBlock = some q ∨ q = wr.heap.size + 1 := fun q hq => by
    rcases hv with e | e
    · exact .inl (e ▸ hq)
    · rw [e] at hq; injection hq with hq; simp at hq; exact .inr (by omega)
  refine ⟨ad2, cp2, w2, hr, h.tm.same fun q hq => hs q (fun e => h.rowF q e hq) (hF q hq), h.low, (h.bel.alloc hz _).grown hgw (by simp; omega) (fun q e => (h.row.lt q e).1), ownK_same h.was fun q hq => hs q (fun e => h.rowW q e hq) (h.was.lt q hq).2, h.wasF, ?_, fun q hq hm => ?_, fun q hq e => ?_⟩
  · rw [List.length_append, List.length_singleton]
    have : svs (fr ++ [x]) = svs fr ++ [sv x] := by simp [svs]
    rw [this]; exact ho
  · rcases hq2 q hq with h1 | h1
    · exact h.rowF q h1 hm
    · have := hF q hm; omega
  · rcases hq2 q hq with h1 | h1
    · exact h.rowW q h1 e
    · have := (h.was.lt q e).2; omega
end
theorem root_okG : ok rootN ∧ KeyOk (nents rootN) := ⟨⟨trivial, fun _ => ⟨rfl, rfl⟩⟩, fun e he => by cases he⟩
end Go.Proofs.Ytpnfkgjcnofjnaa.Ti
/- TreeOrder: what is asked, told by letters. -/
namespace Go.Proofs.Ytpnfkgjcnofjnaa.Ti
open Go.RowKit Go.Shelf Tr

structure Ord (w2 : World) (b : Nat) (ls : List By) (L : List (By × TV)) (s : ByteArray) (at_ bl : Nat) : Prop where
  few : L.length ≤ 60 ∧ ls.length ≤ 60
  val : ∀ i, i < L.length → ∃ v : Nat, v < ls.length ∧ (L.getD i ([], 0)).2 = (v : Int) ∧ Nm.fold (ls.getD v []) = (L.getD i ([], 0)).1 ∧ ∀ j, v < j → j < ls.length → Nm.fold (ls.getD j []) ≠ (L.getD i ([], 0)).1
  asc : ∀ i, i + 1 < L.length → Nm.cmpN (L.getD i ([], 0)).1 (L.getD (i + 1) ([], 0)).1 < 0
  short : ∀ i, (L.getD i ([], 0)).1.length ≤ 255
  nxt : ∀ i, i < L.length → ∀ X, Below w2.heap.size w2 X → Calls Try.prog 25 #[ptr b, .string ⟨(L.getD i ([], 0)).1.toArray⟩] X fun e w' => e = .returned (.tuple #[.string ⟨(L.getD (i + 1) ([], 0)).1.toArray⟩, .bool (decide (i + 1 < L.length))]) ∧ Below X.heap.size X w'
  len : ∀ X, Below w2.heap.size w2 X → Calls Try.prog 11 #[ptr b] X fun e w' => e = .returned (.int .i64 (L.length : Nat)) ∧ w' = X
  get : ∀ i, i < ls.length → ∀ X, Below w2.heap.size w2 X → Calls Try.prog 26 #[ptr b, .string ⟨(ls.getD i []).toArray⟩] X fun e w' => ∃ gv, e = .returned (.tuple #[tz gv, .bool (isN (ls.getD i []))]) ∧ Below X.heap.size X w'
  bel : ∀ X, Below w2.heap.size w2 X → Calls Try.prog 18 #[ptr b, .string s] X fun e w' => ∃ v, e = .returned v ∧ PRow w' X.heap.size v ((L.drop at_).take bl) ∧ Below X.heap.size X w'
  fit : at_ + bl ≤ L.length
  und : ∀ i, i < L.length → ∀ X, Calls Try.prog 28 #[.string ⟨(L.getD i ([], 0)).1.toArray⟩, .string s] X fun e w' => e = .returned (.bool (decide (at_ ≤ i ∧ i < at_ + bl))) ∧ Below X.heap.size X w'
  non : bl = 0 → at_ = L.length
theorem getD_in {α : Type} {l : List α} {i : Nat} {d : α} (h : i < l.length) : l.getD i d = l[i] := by simp [List.getD, h]
theorem getD_out {α : Type} {l : List α} {i : Nat} {d : α} (h : l.length ≤ i) : l.getD i d = d := by simp [List.getD, h]
theorem getD_left {α : Type} {l k : List α} {i : Nat} {d : α} (h : i < l.length) : (l ++ k).getD i d = l.getD i d := by simp [List.getD, List.getElem?_append_left h]
theorem getD_right {α : Type} {l k : List α} {i : Nat} {d : α} (h : l.length ≤ i) : (l ++ k).getD i d = k.getD (i - l.length) d := by simp [List.getD, List.getElem?_append_right h]
theorem getD_map {E : List (En Int)} {i : Nat} (hi : i < E.length) : (E.map fun e => (e.k, e.v)).getD i ([], 0) = ((E[i]).k, (E[i]).v) := by simp [List.getD, hi]
theorem ord_any {w2 : World} {b : Nat} {F : List Nat} {ls : List By} (hT : TM w2 b (growN ls 0 rootN) F) (hf : ls.length ≤ 60) (hl : (nents (growN ls 0 rootN)).length ≤ ls.length) (hz : ∀ x ∈ ls, x.length ≤ 2000) (s : ByteArray) (hs : s.size ≤ 140737488355328) :
    ∃ at_ bl, Ord w2 b ls (belowL (growN ls 0 rootN) [0]) s at_ bl := by
  obtain ⟨hok, hk⟩ := grow_ok ls 0 rootN root_okG.1 root_okG.2
  obtain ⟨hlast, hhas⟩ := grow_last ls
  have hasc := asc_nents hok
  have hL := told_all (growN ls 0 rootN)
  have hnx := fun i hi => next_at hok hk (i := i) hi
  generalize growN ls 0 rootN = m at *
  have hN : (belowL m [0]).length = (nents m).length := by rw [hL, List.length_map]
  have hu : ∃ at_ bl, at_ + bl ≤ (belowL m [0]).length ∧ belowL m s.data.toList = ((belowL m [0]).drop at_).take bl ∧ (∀ i, i < (belowL m [0]).length → Nm.underB ((belowL m [0]).getD i ([], 0)).1 s.data.toList = decide (at_ ≤ i ∧ i < at_ + bl)) ∧ (bl = 0 → at_ = (belowL m [0]).length) := by
    cases hn : isN s.data.toList with
    | false =>
      refine ⟨(belowL m [0]).length, 0, Nat.le_refl _, by unfold belowL; rw [if_neg (by rw [hn]; simp)]; simp, fun i hi => ?_, fun _ => rfl⟩
      rw [under_no hn, decide_eq_false (by omega)]
    | true =>
      obtain ⟨A, B, C, e1, e2, hA, hB, hC⟩ := below_side hok hk hn
      cases B with
      | nil =>
        refine ⟨(belowL m [0]).length, 0, Nat.le_refl _, by rw [e2]; simp, fun i hi => ?_, fun _ => rfl⟩
        rw [decide_eq_false (by omega)]
        have hm : (belowL m [0]).getD i ([], 0) ∈ A ++ C := by
          rw [List.nil_append] at e1
          rw [← e1]
          simp [List.getD, hi]
        rcases List.mem_append.1 hm with h | h
        · exact hA _ h
        · exact hC _ h
      | cons x B =>
        refine ⟨A.length, (x :: B).length, by rw [e1]; simp, by rw [e2, e1, List.drop_left, List.take_left], fun i hi => ?_, fun h => by simp at h⟩
        rw [e1] at hi ⊢
        rcases Nat.lt_or_ge i A.length with h1 | h1
        · rw [decide_eq_false (by omega)]
          refine hA _ ?_
          rw [getD_left h1]
          simp [List.getD, h1]
        · rw [getD_right h1]
          rcases Nat.lt_or_ge (i - A.length) (x :: B).length with h2 | h2
          · rw [decide_eq_true (by omega)]
            refine hB _ ?_
            rw [getD_left h2]
            rw [getD_in h2]
            exact List.getElem_mem h2
          · rw [decide_eq_false (by omega), getD_right h2]
            refine hC _ ?_
            have h3 : i - A.length - (x :: B).length < C.length := by
              have hi' := hi
              simp only [List.length_append] at hi'
              omega
            rw [getD_in h3]
            exact List.getElem_mem h3
  obtain ⟨at_, bl, hfit, hbel, hund, hnon⟩ := hu
  have hkey : ∀ i (hi : i < (nents m).length), (belowL m [0]).getD i ([], 0) = (((nents m)[i]).k, ((nents m)[i]).v) := fun i hi => by rw [hL, getD_map hi]
  have hshort : ∀ i, ((belowL m [0]).getD i ([], 0)).1.length ≤ 255 := fun i => by
    rcases Nat.lt_or_ge i (nents m).length with h | h
    · rw [hkey i h]
      obtain ⟨t, ht, h1, _⟩ := hk _ (List.getElem_mem h)
      simp only [h1]
      obtain ⟨x, hx⟩ := isN_some ht
      rw [Nm.fold_length]
      exact (Nm.split_some.1 hx).2.2
    · rw [getD_out (by omega)]; simp
  refine ⟨at_, bl, ⟨by omega, hf⟩, fun i hi => ?_, fun i hi => ?_, hshort, fun i hi X hb => ?_, fun X hb => ?_, fun i hi X hb => ?_, fun X hb => ?_, hfit, fun i hi X => ?_, hnon⟩
  · rw [hN] at hi
    obtain ⟨v, h1, h2, h3, _, h5, h6⟩ := hlast _ (List.getElem_mem hi)
    rw [hkey i hi]
    exact ⟨v, h1, h2, h5.symm, h6⟩
  · rw [hN] at hi
    rw [hkey i (by omega), hkey (i + 1) hi]
    obtain ⟨t, ht, h1, h2⟩ := hk _ (List.getElem_mem (show i < (nents m).length by omega))
    obtain ⟨t', ht', h1', h2'⟩ := hk _ (List.getElem_mem hi)
    simp only [h1, h1']
    rw [cmpN_path (isN_fold ht) (isN_fold ht'), pth_fold, pth_fold, ← h2, ← h2']
    exact List.pairwise_iff_getElem.1 hasc i (i + 1) (by omega) hi (by omega)
  · rw [hN] at hi
    refine (Next_any (hT.below hb (Nat.le_refl _)) ⟨((belowL m [0]).getD i ([], 0)).1.toArray⟩ (by rw [arr_size]; have := hshort i; omega)).mono fun e w' h => ⟨?_, h.2⟩
    rw [h.1, arr_list, hkey i hi, hnx i hi, hN]
    split
    · rename_i h2
      rw [hkey (i + 1) h2, decide_eq_true h2]; rfl
    · rename_i h2
      rw [getD_out (by omega), decide_eq_false h2]; rfl
  · rw [hN]; exact Len_any (hT.below hb (Nat.le_refl _))
  · have hm : ls.getD i [] ∈ ls := by rw [getD_in hi]; exact List.getElem_mem hi
    refine (Get_any (hT.below hb (Nat.le_refl _)) ⟨(ls.getD i []).toArray⟩ (by rw [arr_size]; have := hz _ hm; omega)).mono fun e w' h => ⟨(getR m (ls.getD i [])).getD 0, ?_, h.2⟩
    rw [h.1, arr_list]
    have hg : (getR m (ls.getD i [])).isSome = isN (ls.getD i []) := ?_
    · rw [hg]
    unfold getR
    cases hn : isN (ls.getD i []) with
    | false => rfl
    | true =>
      rw [if_pos rfl, Option.isSome_map, getE_any]
      exact hhas _ hm hn
  · rw [← hbel]
    exact lawBelow_any (hT.below hb (Nat.le_refl _)) s hs
  · refine (refUnder_any ⟨((belowL m [0]).getD i ([], 0)).1.toArray⟩ s X (by rw [arr_size]; have := hshort i; omega) hs).mono fun e w' h => ⟨?_, h.2⟩
    rw [h.1, arr_list, hund i hi]
end Go.Proofs.Ytpnfkgjcnofjnaa.Ti
