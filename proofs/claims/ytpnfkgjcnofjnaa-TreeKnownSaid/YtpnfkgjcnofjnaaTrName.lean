/- Keys and paths: what is under, and ahead of, what. Nothing of the program. -/
import Derived.Test.YtpnfkgjcnofjnaaMgL
import Derived.Test.YtpnfkgjcnofjnaaUnd
namespace Go.Proofs.Ytpnfkgjcnofjnaa.Tr
open Nm (fold split glue cmpB_zero cmpB Good)

theorem cmpP_fold : ∀ a b : List By, cmpP (a.map fold) (b.map fold) = Nm.cmpL a b
  | [], [] => rfl
  | [], _ :: _ => rfl
  | _ :: _, [] => rfl
  | x :: s, y :: t => by
    simp only [List.map_cons, cmpP, Nm.cmpL]
    by_cases h : fold x = fold y
    · rw [if_pos h, if_pos (cmpB_zero.2 h), cmpP_fold s t]
    · rw [if_neg h, if_neg (fun e => h (cmpB_zero.1 e))]
theorem isN_some {s : By} (h : isN s = true) : ∃ ls, split s = some ls := Option.isSome_iff_exists.1 h
theorem cmpN_path {s t : By} (hs : isN s = true) (ht : isN t = true) : Nm.cmpN s t = cmpP (pth s) (pth t) := by
  obtain ⟨x, hx⟩ := isN_some hs
  obtain ⟨y, hy⟩ := isN_some ht
  rw [pth_of hx, pth_of hy, ← List.map_reverse, ← List.map_reverse, cmpP_fold]
  simp only [Nm.cmpN, hx, hy]
theorem isN_fold {s : By} (h : isN s = true) : isN (fold s) = true := by
  obtain ⟨x, hx⟩ := isN_some h
  simp [isN, split_fold hx]
theorem pth_fold (s : By) : pth (fold s) = pth s := by unfold pth; rw [fold_fold]
/-- the path tells the key. -/
theorem fold_pth {s t : By} (hs : isN s = true) (ht : isN t = true) : pth s = pth t ↔ fold s = fold t := by
  constructor
  · intro h
    obtain ⟨x, hx⟩ := isN_some hs
    obtain ⟨y, hy⟩ := isN_some ht
    rw [pth_of hx, pth_of hy, List.reverse_inj] at h
    obtain ⟨rfl, gx, _⟩ := Nm.split_some.1 hx
    obtain ⟨rfl, gy, _⟩ := Nm.split_some.1 hy
    exact (Nm.fold_glue_iff gx gy).2 h
  · intro h
    unfold pth; rw [h]
theorem under_path {s z : By} (hs : isN s = true) (hz : isN z = true) : Nm.underB s z = (pth z).isPrefixOf (pth s) := by
  obtain ⟨x, hx⟩ := isN_some hs
  obtain ⟨y, hy⟩ := isN_some hz
  obtain ⟨_, gx, _⟩ := Nm.split_some.1 hx
  obtain ⟨ez, gy, _⟩ := Nm.split_some.1 hy
  rw [pth_of hx, pth_of hy]
  simp only [Nm.underB, hx, hy]
  rw [Bool.eq_iff_iff, Bool.and_eq_true, decide_eq_true_eq, List.isPrefixOf_iff_prefix, List.reverse_prefix, beq_iff_eq]
  rw [ez, Nm.fold_glue_iff (Nm.good_drop gx _) gy, List.map_drop]
  constructor
  · rintro ⟨_, h⟩
    exact ⟨(x.map fold).take (x.length - y.length), by rw [← h, List.take_append_drop]⟩
  · rintro ⟨t, ht⟩
    have hl : t.length + y.length = x.length := by have := congrArg List.length ht; simpa using this
    refine ⟨by omega, ?_⟩
    rw [← ht, show x.length - y.length = t.length by omega, List.drop_left]
theorem under_no {s z : By} (h : isN z = false) : Nm.underB s z = false := by
  have hz : split z = none := by unfold isN at h; cases hs : split z with
    | none => rfl
    | some _ => rw [hs] at h; cases h
  unfold Nm.underB; rw [hz]; cases split s <;> rfl
theorem body_drop_le (x : List By) (k : Nat) : (Nm.body (x.drop k)).length ≤ (Nm.body x).length := by
  have e := Nm.body_append (x.take k) (x.drop k)
  rw [List.take_append_drop] at e
  rw [e]; simp
/-- the path of what is above a name. -/
theorem up_name {s : By} (h : isN s = true) (k : Nat) : isN (glue ((pth s).take k).reverse) = true ∧ pth (glue ((pth s).take k).reverse) = (pth s).take k ∧ fold (glue ((pth s).take k).reverse) = glue ((pth s).take k).reverse := by
  obtain ⟨x, hx⟩ := isN_some h
  have hf := split_fold hx
  have e : ((pth s).take k).reverse = (x.map fold).drop (x.length - k) := by
    rw [pth_of hx, List.take_reverse, List.reverse_reverse, List.length_map]
  have hsp : split (glue ((pth s).take k).reverse) = some ((pth s).take k).reverse := by
    rw [e]
    obtain ⟨e1, g, hl⟩ := Nm.split_some.1 hf
    refine Nm.split_glue (Nm.good_drop g _) ?_
    have := body_drop_le (x.map fold) (x.length - k)
    rw [Nm.glue_length]
    have h2 := congrArg List.length e1
    rw [Nm.glue_length] at h2
    omega
  have hid : ((pth s).take k).reverse.map fold = ((pth s).take k).reverse := by
    rw [e, List.map_drop, List.map_map]
    congr 1
    refine List.map_congr_left fun a _ => fold_fold a
  refine ⟨by simp [isN, hsp], ?_, ?_⟩
  · rw [pth_of hsp, hid, List.reverse_reverse]
  · obtain ⟨_, g, _⟩ := Nm.split_some.1 hsp
    rw [Nm.fold_glue g, hid]
theorem fold_name {s : By} (h : isN s = true) : fold s = glue (pth s).reverse := by
  obtain ⟨x, hx⟩ := isN_some h
  obtain ⟨rfl, g, _⟩ := Nm.split_some.1 hx
  rw [pth_of hx, List.reverse_reverse, Nm.fold_glue g]
/-- entries' keys are names in small letters, their paths those of the names. -/
def KeyOk {V : Type} (l : List (En V)) : Prop := ∀ e ∈ l, ∃ s, isN s = true ∧ e.k = fold s ∧ e.p = pth s
theorem mem_insE {V : Type} {e x : En V} {l : List (En V)} (h : x ∈ insE e l) : x = e ∨ x ∈ l := by
  induction l with
  | nil => simp [insE] at h; exact .inl h
  | cons a l ih =>
    rw [insE] at h
    split at h
    · rcases List.mem_cons.1 h with rfl | h
      · exact .inr (by simp)
      · rcases ih h with h | h
        · exact .inl h
        · exact .inr (by simp [h])
    · split at h
      · rcases List.mem_cons.1 h with rfl | h
        · exact .inl rfl
        · exact .inr (by simp [h])
      · rcases List.mem_cons.1 h with rfl | h
        · exact .inl rfl
        · exact .inr h
theorem keyOk_put {s : By} (hs : isN s = true) {v : Int} {n : No Int} (hok : ok n) (h : KeyOk (nents n)) : KeyOk (nents (Ti.putN s v n)) := by
  intro e he
  unfold Ti.putN at he
  rw [put_ents hok] at he
  rcases mem_insE he with rfl | he
  · exact ⟨s, hs, rfl, rfl⟩
  · exact h e he
theorem keyOk_del {s : By} {n : No Int} (hok : ok n) (h : KeyOk (nents n)) : KeyOk (nents (Ti.delN s n)) := by
  intro e he
  unfold Ti.delN at he
  rw [(drop_ents hok).1] at he
  exact h e (List.mem_filter.1 he).1
theorem grow_ok (l : List By) : ∀ (i : Nat) (n : No Int), ok n → KeyOk (nents n) → ok (growN l i n) ∧ KeyOk (nents (growN l i n)) := by
  induction l with
  | nil => exact fun _ _ h k => ⟨h, k⟩
  | cons s l ih =>
    intro i n h k
    rw [growN]
    split
    · rename_i hs
      exact ih _ _ (put_ok h) (keyOk_put hs h k)
    · exact ih _ _ h k
/-- a prefix of what is no less than f, and behind q: f's. -/
theorem pre_between : ∀ {q f e : List By}, cmpP q f < 0 → cmpP f e < 0 ∨ f = e → q.isPrefixOf e = true → q.isPrefixOf f = true
  | [], _, _, _, _, _ => by simp
  | x :: q, [], e, h1, _, _ => by simp [cmpP] at h1
  | x :: q, y :: f, [], _, _, h3 => by simp at h3
  | x :: q, y :: f, z :: e, h1, h2, h3 => by
    simp only [List.isPrefixOf_cons_cons, Bool.and_eq_true, beq_iff_eq] at h3 ⊢
    obtain ⟨rfl, h3⟩ := h3
    rcases cmpP_lt_cons.1 h1 with h1 | ⟨rfl, h5⟩
    · exfalso
      rcases h2 with h2 | h2
      · rcases cmpP_lt_cons.1 h2 with h2 | ⟨rfl, _⟩
        · have := cmpB_lt_trans h1 h2
          rw [cmpB_self] at this; omega
        · rw [cmpB_self] at h1; omega
      · injection h2 with h2 _
        rw [h2, cmpB_self] at h1; omega
    · refine ⟨rfl, pre_between h5 ?_ h3⟩
      rcases h2 with h2 | h2
      · rcases cmpP_lt_cons.1 h2 with h2 | ⟨_, h2⟩
        · rw [cmpB_self] at h2; omega
        · exact .inl h2
      · injection h2 with _ h2
        exact .inr h2
theorem pre_le : ∀ {q e : List By}, q.isPrefixOf e = true → cmpP q e < 0 ∨ q = e
  | [], [], _ => .inr rfl
  | [], _ :: _, _ => .inl (by simp [cmpP])
  | _ :: _, [], h => by simp at h
  | x :: q, y :: e, h => by
    simp only [List.isPrefixOf_cons_cons, Bool.and_eq_true, beq_iff_eq] at h
    obtain ⟨rfl, h⟩ := h
    rcases pre_le h with h | h
    · exact .inl (cmpP_lt_cons.2 (.inr ⟨rfl, h⟩))
    · exact .inr (by rw [h])
theorem pre_self (q : List By) : q.isPrefixOf q = true := by simp
/-- what is at or under a name: it, or the first one behind it. -/
theorem ex_next {V : Type} {q : List By} {l : List (En V)} (h : Asc l) : exE q l = ((getE q l).isSome || match gtE q l with
    | some e => q.isPrefixOf e.p
    | none => false) := by
  rw [Bool.eq_iff_iff, Bool.or_eq_true, getE_any]
  constructor
  · intro hx
    obtain ⟨e, he, hp⟩ := List.any_eq_true.1 hx
    rcases pre_le hp with hp2 | hp2
    · refine .inr ?_
      have hs : (gtE q l).isSome = true := by
        unfold gtE; rw [List.find?_isSome]; exact ⟨e, he, by simpa using hp2⟩
      obtain ⟨f, hf⟩ := Option.isSome_iff_exists.1 hs
      rw [hf]
      have hqf : cmpP q f.p < 0 := by have := List.find?_some hf; simpa using this
      refine pre_between hqf ?_ hp
      obtain ⟨_, l1, l2, hl, has⟩ := List.find?_eq_some_iff_append.1 hf
      rw [hl] at he h
      rcases List.mem_append.1 he with he | he
      · have := has e he; simp at this; omega
      · rcases List.mem_cons.1 he with rfl | he
        · exact .inr rfl
        · exact .inl ((List.pairwise_cons.1 (List.pairwise_append.1 h).2.1).1 e he)
    · exact .inl (List.any_eq_true.2 ⟨e, he, by rw [← hp2]; simp⟩)
  · rintro (hx | hx)
    · obtain ⟨e, he, hp⟩ := List.any_eq_true.1 hx
      exact List.any_eq_true.2 ⟨e, he, by rw [beq_iff_eq.1 hp]; exact pre_self _⟩
    · cases hg : gtE q l with
      | none => rw [hg] at hx; cases hx
      | some e => rw [hg] at hx; exact List.any_eq_true.2 ⟨e, List.mem_of_find?_eq_some hg, hx⟩
end Go.Proofs.Ytpnfkgjcnofjnaa.Tr
