/- Names put one behind the other: what their tree holds. Pure facts. -/
import Derived.Test.YtpnfkgjcnofjnaaLwGone
namespace Go.Proofs.Ytpnfkgjcnofjnaa.Tr
open Nm (fold small sp split)
open Ti (putN belowL nextR getR)

theorem small_id {c : UInt8} (h : (small c).toNat ≤ 63) : small c = c := by
  unfold small at *
  split
  · rename_i h2
    rw [if_pos h2] at h
    simp only [UInt8.le_iff_toNat_le] at h2
    exfalso
    rw [UInt8.toNat_add] at h
    simp at h h2
    omega
  · rfl
theorem sp_fold_some : ∀ (n : Nat) (s : By), s.length ≤ n → (sp (fold s)).isSome = true → (sp s).isSome = true := by
  intro n
  induction n with
  | zero =>
    intro s hs h
    have : s = [] := by cases s; rfl; simp at hs
    subst this
    exact h
  | succ n ih =>
    intro s hs h
    cases s with
    | nil => exact h
    | cons c t =>
      have hf : fold (c :: t) = small c :: fold t := rfl
      rw [hf] at h
      by_cases h0 : (small c).toNat = 0
      · have hc := small_id (c := c) (by omega)
        rw [hc] at h h0
        rw [Nm.sp_zero h0] at h ⊢
        rw [Nm.fold_length] at h
        exact h
      · by_cases h1 : (small c).toNat ≤ 63
        · have hc := small_id (c := c) h1
          rw [hc] at h h0 h1
          by_cases h2 : c.toNat ≤ t.length
          · rw [Nm.sp_cons h0 h1 (by rw [Nm.fold_length]; exact h2)] at h
            rw [Nm.sp_cons h0 h1 h2]
            rw [Option.isSome_map] at h ⊢
            refine ih _ (by simp at hs ⊢; omega) ?_
            have : fold (t.drop c.toNat) = (fold t).drop c.toNat := by simp [fold, List.map_drop]
            rw [this]; exact h
          · rw [Nm.sp_bad h0 (.inr (by rw [Nm.fold_length]; omega))] at h
            cases h
        · rw [Nm.sp_bad h0 (.inl (by omega))] at h
          cases h
theorem isN_unfold {s : By} (h : isN (fold s) = true) : isN s = true := by
  unfold isN split at *
  rw [Nm.fold_length] at h
  split at h
  · cases h
  · rename_i h2
    rw [if_neg h2]
    have := sp_fold_some s.length s (Nat.le_refl _)
    unfold sp at this
    rw [Nm.fold_length] at this
    exact this h
/-- what an entry of a grown tree is. -/
def LastAt (ls : List By) (e : En Int) : Prop :=
  ∃ v : Nat, v < ls.length ∧ e.v = (v : Int) ∧ isN (ls.getD v []) = true ∧ e.p = pth (ls.getD v []) ∧ e.k = fold (ls.getD v []) ∧ ∀ j, v < j → j < ls.length → fold (ls.getD j []) ≠ e.k
theorem insE_old {e x : En Int} {l : List (En Int)} (h : x ∈ insE e l) (ha : Asc l) : x = e ∨ (x ∈ l ∧ x.p ≠ e.p) := by
  induction l with
  | nil => simp [insE] at h; exact .inl h
  | cons a l ih =>
    have ha' := List.pairwise_cons.1 ha
    rw [insE] at h
    split at h
    · rename_i h1
      rcases List.mem_cons.1 h with rfl | h
      · exact .inr ⟨by simp, cmpP_ne h1⟩
      · rcases ih h ha'.2 with h | h
        · exact .inl h
        · exact .inr ⟨by simp [h.1], h.2⟩
    · rename_i h1
      split at h
      · rename_i h2
        rcases List.mem_cons.1 h with rfl | h
        · exact .inl rfl
        · exact .inr ⟨by simp [h], fun e2 => by have := ha'.1 x h; rw [h2, e2, cmpP_self] at this; omega⟩
      · rename_i h2
        rcases List.mem_cons.1 h with rfl | h
        · exact .inl rfl
        · refine .inr ⟨h, fun e2 => ?_⟩
          rcases List.mem_cons.1 h with rfl | h
          · exact h2 e2
          · have h3 := ha'.1 x h
            rw [e2] at h3
            exact h1 h3
theorem grow_last (ls : List By) : (∀ e ∈ nents (growN ls 0 Ti.rootN), LastAt ls e) ∧ (∀ s ∈ ls, isN s = true → hasE (pth s) (nents (growN ls 0 Ti.rootN)) = true) := by
  induction hl : ls.length generalizing ls with
  | zero =>
    have : ls = [] := List.length_eq_zero_iff.1 hl
    subst this
    exact ⟨(fun e he => by cases he), by simp⟩
  | succ n ih =>
    obtain ⟨l, x, rfl⟩ : ∃ l x, ls = l ++ [x] := ⟨ls.dropLast, ls.getLast (by intro e; rw [e] at hl; cases hl), by rw [List.dropLast_concat_getLast]⟩
    have hn : l.length = n := by simpa using hl
    obtain ⟨h1, h2⟩ := ih l hn
    have hok := (grow_ok l 0 Ti.rootN ⟨trivial, fun _ => ⟨rfl, rfl⟩⟩ (fun e he => by cases he)).1
    have hkeep : ∀ e, LastAt l e → fold x ≠ e.k → LastAt (l ++ [x]) e := fun e ⟨v, a, b, c, d, f, g⟩ hne => by
      have hg : ∀ j, j < l.length → (l ++ [x]).getD j [] = l.getD j [] := fun j hj => by simp [List.getD, List.getElem?_append_left hj]
      refine ⟨v, by simp; omega, b, by rw [hg v a]; exact c, by rw [hg v a]; exact d, by rw [hg v a]; exact f, fun j hj hj2 => ?_⟩
      rcases Nat.lt_or_ge j l.length with hj3 | hj3
      · rw [hg j hj3]; exact g j hj hj3
      · have : j = l.length := by simp at hj2; omega
        subst this
        simpa [List.getD] using hne
    rw [growN_snoc, Nat.zero_add]
    by_cases hx : isN x = true
    · rw [if_pos hx]
      have he : nents (putN x (l.length : Int) (growN l 0 Ti.rootN)) = insE ⟨pth x, fold x, (l.length : Int)⟩ (nents (growN l 0 Ti.rootN)) := put_ents hok
      rw [he]
      refine ⟨fun e hm => ?_, fun s hs hsn => ?_⟩
      · rcases insE_old hm (asc_nents hok) with rfl | ⟨hm, hne⟩
        · have hg : (l ++ [x]).getD l.length [] = x := by simp [List.getD]
          exact ⟨l.length, by simp, rfl, by rw [hg]; exact hx, by rw [hg], by rw [hg], fun j hj hj2 => by simp at hj2; omega⟩
        · refine hkeep e (h1 e hm) fun e2 => hne ?_
          obtain ⟨v, a, _, c, d, f, _⟩ := h1 e hm
          rw [d]
          rw [f] at e2
          exact (fold_pth c hx).2 e2.symm
      · rw [has_insE]
        rcases List.mem_append.1 hs with hs | hs
        · rw [h2 s hs hsn, Bool.or_true]
        · simp at hs; subst hs; simp
    · rw [if_neg hx]
      refine ⟨fun e hm => hkeep e (h1 e hm) fun e2 => hx ?_, fun s hs hsn => ?_⟩
      · obtain ⟨v, a, _, c, d, f, _⟩ := h1 e hm
        rw [f] at e2
        exact isN_unfold (by rw [e2]; exact isN_fold c)
      · rcases List.mem_append.1 hs with hs | hs
        · exact h2 s hs hsn
        · simp at hs; subst hs; exact absurd hsn hx
/-- what is told of the whole. -/
theorem told_all (m : No Int) : belowL m [0] = (nents m).map fun e => (e.k, e.v) := by
  have h1 : isN [0] = true := by decide
  have h2 : pth [0] = [] := by decide
  unfold belowL
  rw [if_pos h1, h2]
  congr 1
  rw [List.filter_eq_self]
  intro a _; simp
theorem next_at {m : No Int} (hok : ok m) (hk : KeyOk (nents m)) {i : Nat} (hi : i < (nents m).length) : nextR m ((nents m)[i]).k = if h : i + 1 < (nents m).length then some ((nents m)[i + 1]).k else none := by
  obtain ⟨t, ht, h1, h2⟩ := hk _ (List.getElem_mem hi)
  have hasc := asc_nents hok
  unfold nextR
  rw [h1, if_pos (isN_fold ht), pth_fold, ← h2]
  generalize nents m = E at *
  have hn : gtE (E[i]).p (E.take (i + 1)) = none := gt_none fun e he => by
    obtain ⟨j, hj, rfl⟩ := List.mem_take_iff_getElem.1 he
    rcases Nat.lt_or_ge j i with h | h
    · have := List.pairwise_iff_getElem.1 hasc j i (by omega) hi h
      exact fun h3 => by have := cmpP_lt_trans this h3; rw [cmpP_self] at this; omega
    · have : j = i := by omega
      subst this
      rw [cmpP_self]; omega
  have h3 : gtE (E[i]).p E = (E.drop (i + 1)).head? := by
    have h4 : gtE (E[i]).p (E.take (i + 1) ++ E.drop (i + 1)) = (E.drop (i + 1)).head? := by
      rw [gt_app, hn, Option.none_or]
      refine gt_all fun e he => ?_
      obtain ⟨j, hj, rfl⟩ := List.mem_drop_iff_getElem.1 he
      exact List.pairwise_iff_getElem.1 hasc i (i + 1 + j) hi (by omega) (by omega)
    have h5 : E.take (i + 1) ++ E.drop (i + 1) = E := List.take_append_drop _ _
    rw [← h4]
    exact congrArg (gtE (E[i]).p) h5.symm
  rw [h3]
  split
  · rename_i h
    rw [List.drop_eq_getElem_cons h]; rfl
  · rename_i h
    rw [List.drop_eq_nil_of_le (by omega)]; rfl
/-- what lies side by side. -/
theorem side {α : Type} (U : α → Bool) (L : List α) (h : ∀ l1 x l2 y l3 z l4, L = l1 ++ x :: (l2 ++ y :: (l3 ++ z :: l4)) → U x = true → U z = true → U y = true) :
    ∃ A B C, L = A ++ (B ++ C) ∧ (∀ x ∈ A, U x = false) ∧ (∀ x ∈ B, U x = true) ∧ (∀ x ∈ C, U x = false) := by
  induction L with
  | nil => exact ⟨[], [], [], rfl, by simp, by simp, by simp⟩
  | cons a L ih =>
    obtain ⟨A, B, C, rfl, hA, hB, hC⟩ := ih fun l1 x l2 y l3 z l4 e => h (a :: l1) x l2 y l3 z l4 (by rw [e]; rfl)
    cases hU : U a with
    | false => exact ⟨a :: A, B, C, rfl, fun x hx => by rcases List.mem_cons.1 hx with rfl | hx; exact hU; exact hA x hx, hB, hC⟩
    | true =>
      cases B with
      | nil => exact ⟨[], [a], A ++ C, rfl, by simp, by simpa using hU, fun x hx => by rcases List.mem_append.1 hx with hx | hx; exact hA x hx; exact hC x hx⟩
      | cons z B =>
        cases A with
        | nil => exact ⟨[], a :: z :: B, C, rfl, by simp, fun x hx => by rcases List.mem_cons.1 hx with rfl | hx; exact hU; exact hB x hx, hC⟩
        | cons y A =>
          exfalso
          have := h [] a [] y A z (B ++ C) (by simp) hU (hB z (by simp))
          rw [hA y (by simp)] at this
          cases this
/-- what is at or under a name stands side by side. -/
theorem below_side {m : No Int} (hok : ok m) (hk : KeyOk (nents m)) {s : By} (hn : isN s = true) :
    ∃ A B C, belowL m [0] = A ++ (B ++ C) ∧ belowL m s = B ∧ (∀ x ∈ A, Nm.underB x.1 s = false) ∧ (∀ x ∈ B, Nm.underB x.1 s = true) ∧ (∀ x ∈ C, Nm.underB x.1 s = false) := by
  have hasc := asc_nents hok
  obtain ⟨A, B, C, e, hA, hB, hC⟩ := side (fun e : En Int => (pth s).isPrefixOf e.p) (nents m) (fun l1 x l2 y l3 z l4 e hx hz => by
    rw [e] at hasc
    have h1 := (List.pairwise_append.1 hasc).2.1
    have h2 := List.pairwise_cons.1 h1
    have h3 : cmpP x.p y.p < 0 := h2.1 y (by simp)
    have h4 : cmpP y.p z.p < 0 := (List.pairwise_cons.1 (List.pairwise_append.1 h2.2).2.1).1 z (by simp)
    have h5 : cmpP (pth s) y.p < 0 := by
      rcases pre_le hx with h6 | h6
      · exact cmpP_lt_trans h6 h3
      · rw [h6]; exact h3
    exact pre_between h5 (.inl h4) hz)
  have hu : ∀ x ∈ nents m, Nm.underB x.k s = (pth s).isPrefixOf x.p := fun x hx => by
    obtain ⟨t, ht, h1, h2⟩ := hk x hx
    rw [h1, under_path (isN_fold ht) hn, pth_fold, h2]
  refine ⟨A.map fun e => (e.k, e.v), B.map fun e => (e.k, e.v), C.map fun e => (e.k, e.v), by rw [told_all, e]; simp, ?_, ?_, ?_, ?_⟩
  · unfold belowL
    rw [if_pos hn, e, List.filter_append, List.filter_append, List.filter_eq_nil_iff.2 (fun a ha h => Bool.false_ne_true ((hA a ha).symm.trans h)), List.filter_eq_self.2 (fun a ha => hB a ha), List.filter_eq_nil_iff.2 (fun a ha h => Bool.false_ne_true ((hC a ha).symm.trans h))]
    simp
  · intro x hx
    obtain ⟨a, ha, rfl⟩ := List.mem_map.1 hx
    exact (hu a (by rw [e]; simp [ha])).trans (hA a ha)
  · intro x hx
    obtain ⟨a, ha, rfl⟩ := List.mem_map.1 hx
    exact (hu a (by rw [e]; simp [ha])).trans (hB a ha)
  · intro x hx
    obtain ⟨a, ha, rfl⟩ := List.mem_map.1 hx
    exact (hu a (by rw [e]; simp [ha])).trans (hC a ha)
end Go.Proofs.Ytpnfkgjcnofjnaa.Tr
