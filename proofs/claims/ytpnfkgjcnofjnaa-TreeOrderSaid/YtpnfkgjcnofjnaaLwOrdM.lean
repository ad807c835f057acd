/- TreeOrder: what is asked, told by letters. -/
import Derived.Test.YtpnfkgjcnofjnaaLwOrd
import Derived.Test.YtpnfkgjcnofjnaaLwGoneM
namespace Go.Proofs.Ytpnfkgjcnofjnaa.Ti
open Go.RowKit Go.Shelf Tr

structure Ord (w2 : World) (b : Nat) (ls : List By) (L : List (By × TV)) (s : ByteArray) (at_ bl : Nat) : Prop where
  few : L.length ≤ 60 ∧ ls.length ≤ 60
  val : ∀ i, i < L.length → ∃ v : Nat, v < ls.length ∧ (L.getD i ([], 0)).2 = (v : Int) ∧ Nm.fold (ls.getD v []) = (L.getD i ([], 0)).1 ∧ ∀ j, v < j → j < ls.length → Nm.fold (ls.getD j []) ≠ (L.getD i ([], 0)).1
  asc : ∀ i, i + 1 < L.length → Nm.cmpN (L.getD i ([], 0)).1 (L.getD (i + 1) ([], 0)).1 < 0
  short : ∀ i, (L.getD i ([], 0)).1.length ≤ 255
  nxt : ∀ i, i < L.length → ∀ X, Below w2.heap.size w2 X → Calls Try.prog 25 #[ptr b, .string ⟨(L.getD i ([], 0)).1.toArray⟩] X fun e w' => e = .returned (.tuple #[.string ⟨(L.getD (i + 1) ([], 0)).1.toArray⟩, .bool (decide (i + 1 < L.length))]) ∧ Below X.heap.size X w'
  len : ∀ X, Below w2.heap.size w2 X → Calls Try.prog 11 #[ptr b] X fun e w' => e = .returned (.int .i64 (L.length : Nat)) ∧ w' = X
  get : ∀ i, i < ls.length → ∀ X, Below w2.heap.size w2 X → Calls Try.prog 26 #[ptr b, .string ⟨(ls.getD i []).toArray⟩] X fun e w' => ∃ gv, e = .returned (.tuple #[tz gv, .bool (isN (ls.getD i []))]) ∧ Below X.heap.size X w'
  bel : ∀ X, Below w2.heap.size w2 X → Calls Try.prog 18 #[ptr b, .string s] X fun e w' => ∃ v, e = .returned v ∧ PRow w' X.heap.size v ((L.drop at_).take bl) ∧ Below X.heap.size X w'
  fit : at_ + bl ≤ L.length
  und : ∀ i, i < L.length → ∀ X, Calls Try.prog 28 #[.string ⟨(L.getD i ([], 0)).1.toArray⟩, .string s] X fun e w' => e = .returned (.bool (decide (at_ ≤ i ∧ i < at_ + bl))) ∧ Below X.heap.size X w'
  non : bl = 0 → at_ = L.length
theorem getD_in {α : Type} {l : List α} {i : Nat} {d : α} (h : i < l.length) : l.getD i d = l[i] := by simp [List.getD, h]
theorem getD_out {α : Type} {l : List α} {i : Nat} {d : α} (h : l.length ≤ i) : l.getD i d = d := by simp [List.getD, h]
theorem getD_left {α : Type} {l k : List α} {i : Nat} {d : α} (h : i < l.length) : (l ++ k).getD i d = l.getD i d := by simp [List.getD, List.getElem?_append_left h]
theorem getD_right {α : Type} {l k : List α} {i : Nat} {d : α} (h : l.length ≤ i) : (l ++ k).getD i d = k.getD (i - l.length) d := by simp [List.getD, List.getElem?_append_right h]
theorem getD_map {E : List (En Int)} {i : Nat} (hi : i < E.length) : (E.map fun e => (e.k, e.v)).getD i ([], 0) = ((E[i]).k, (E[i]).v) := by simp [List.getD, hi]
theorem ord_any {w2 : World} {b : Nat} {F : List Nat} {ls : List By} (hT : TM w2 b (growN ls 0 rootN) F) (hf : ls.length ≤ 60) (hl : (nents (growN ls 0 rootN)).length ≤ ls.length) (hz : ∀ x ∈ ls, x.length ≤ 2000) (s : ByteArray) (hs : s.size ≤ 140737488355328) :
    ∃ at_ bl, Ord w2 b ls (belowL (growN ls 0 rootN) [0]) s at_ bl := by
  obtain ⟨hok, hk⟩ := grow_ok ls 0 rootN root_okG.1 root_okG.2
  obtain ⟨hlast, hhas⟩ := grow_last ls
  have hasc := asc_nents hok
  have hL := told_all (growN ls 0 rootN)
  have hnx := fun i hi => next_at hok hk (i := i) hi
  generalize growN ls 0 rootN = m at *
  have hN : (belowL m [0]).length = (nents m).length := by rw [hL, List.length_map]
  have hu : ∃ at_ bl, at_ + bl ≤ (belowL m [0]).length ∧ belowL m s.data.toList = ((belowL m [0]).drop at_).take bl ∧ (∀ i, i < (belowL m [0]).length → Nm.underB ((belowL m [0]).getD i ([], 0)).1 s.data.toList = decide (at_ ≤ i ∧ i < at_ + bl)) ∧ (bl = 0 → at_ = (belowL m [0]).length) := by
    cases hn : isN s.data.toList with
    | false =>
      refine ⟨(belowL m [0]).length, 0, Nat.le_refl _, by unfold belowL; rw [if_neg (by rw [hn]; simp)]; simp, fun i hi => ?_, fun _ => rfl⟩
      rw [under_no hn, decide_eq_false (by omega)]
    | true =>
      obtain ⟨A, B, C, e1, e2, hA, hB, hC⟩ := below_side hok hk hn
      cases B with
      | nil =>
        refine ⟨(belowL m [0]).length, 0, Nat.le_refl _, by rw [e2]; simp, fun i hi => ?_, fun _ => rfl⟩
        rw [decide_eq_false (by omega)]
        have hm : (belowL m [0]).getD i ([], 0) ∈ A ++ C := by
          rw [List.nil_append] at e1
          rw [← e1]
          simp [List.getD, hi]
        rcases List.mem_append.1 hm with h | h
        · exact hA _ h
        · exact hC _ h
      | cons x B =>
        refine ⟨A.length, (x :: B).length, by rw [e1]; simp, by rw [e2, e1, List.drop_left, List.take_left], fun i hi => ?_, fun h => by simp at h⟩
        rw [e1] at hi ⊢
        rcases Nat.lt_or_ge i A.length with h1 | h1
        · rw [decide_eq_false (by omega)]
          refine hA _ ?_
          rw [getD_left h1]
          simp [List.getD, h1]
        · rw [getD_right h1]
          rcases Nat.lt_or_ge (i - A.length) (x :: B).length with h2 | h2
          · rw [decide_eq_true (by omega)]
            refine hB _ ?_
            rw [getD_left h2]
            rw [getD_in h2]
            exact List.getElem_mem h2
          · rw [decide_eq_false (by omega), getD_right h2]
            refine hC _ ?_
            have h3 : i - A.length - (x :: B).length < C.length := by
              have hi' := hi
              simp only [List.length_append] at hi'
              omega
            rw [getD_in h3]
            exact List.getElem_mem h3
  obtain ⟨at_, bl, hfit, hbel, hund, hnon⟩ := hu
  have hkey : ∀ i (hi : i < (nents m).length), (belowL m [0]).getD i ([], 0) = (((nents m)[i]).k, ((nents m)[i]).v) := fun i hi => by rw [hL, getD_map hi]
  have hshort : ∀ i, ((belowL m [0]).getD i ([], 0)).1.length ≤ 255 := fun i => by
    rcases Nat.lt_or_ge i (nents m).length with h | h
    · rw [hkey i h]
      obtain ⟨t, ht, h1, _⟩ := hk _ (List.getElem_mem h)
      simp only [h1]
      obtain ⟨x, hx⟩ := isN_some ht
      rw [Nm.fold_length]
      exact (Nm.split_some.1 hx).2.2
    · rw [getD_out (by omega)]; simp
  refine ⟨at_, bl, ⟨by omega, hf⟩, fun i hi => ?_, fun i hi => ?_, hshort, fun i hi X hb => ?_, fun X hb => ?_, fun i hi X hb => ?_, fun X hb => ?_, hfit, fun i hi X => ?_, hnon⟩
  · rw [hN] at hi
    obtain ⟨v, h1, h2, h3, _, h5, h6⟩ := hlast _ (List.getElem_mem hi)
    rw [hkey i hi]
    exact ⟨v, h1, h2, h5.symm, h6⟩
  · rw [hN] at hi
    rw [hkey i (by omega), hkey (i + 1) hi]
    obtain ⟨t, ht, h1, h2⟩ := hk _ (List.getElem_mem (show i < (nents m).length by omega))
    obtain ⟨t', ht', h1', h2'⟩ := hk _ (List.getElem_mem hi)
    simp only [h1, h1']
    rw [cmpN_path (isN_fold ht) (isN_fold ht'), pth_fold, pth_fold, ← h2, ← h2']
    exact List.pairwise_iff_getElem.1 hasc i (i + 1) (by omega) hi (by omega)
  · rw [hN] at hi
    refine (Next_any (hT.below hb (Nat.le_refl _)) ⟨((belowL m [0]).getD i ([], 0)).1.toArray⟩ (by rw [arr_size]; have := hshort i; omega)).mono fun e w' h => ⟨?_, h.2⟩
    rw [h.1, arr_list, hkey i hi, hnx i hi, hN]
    split
    · rename_i h2
      rw [hkey (i + 1) h2, decide_eq_true h2]; rfl
    · rename_i h2
      rw [getD_out (by omega), decide_eq_false h2]; rfl
  · rw [hN]; exact Len_any (hT.below hb (Nat.le_refl _))
  · have hm : ls.getD i [] ∈ ls := by rw [getD_in hi]; exact List.getElem_mem hi
    refine (Get_any (hT.below hb (Nat.le_refl _)) ⟨(ls.getD i []).toArray⟩ (by rw [arr_size]; have := hz _ hm; omega)).mono fun e w' h => ⟨(getR m (ls.getD i [])).getD 0, ?_, h.2⟩
    rw [h.1, arr_list]
    have hg : (getR m (ls.getD i [])).isSome = isN (ls.getD i []) := ?_
    · rw [hg]
    unfold getR
    cases hn : isN (ls.getD i []) with
    | false => rfl
    | true =>
      rw [if_pos rfl, Option.isSome_map, getE_any]
      exact hhas _ hm hn
  · rw [← hbel]
    exact lawBelow_any (hT.below hb (Nat.le_refl _)) s hs
  · refine (refUnder_any ⟨((belowL m [0]).getD i ([], 0)).1.toArray⟩ s X (by rw [arr_size]; have := hshort i; omega) hs).mono fun e w' h => ⟨?_, h.2⟩
    rw [h.1, arr_list, hund i hi]
end Go.Proofs.Ytpnfkgjcnofjnaa.Ti
