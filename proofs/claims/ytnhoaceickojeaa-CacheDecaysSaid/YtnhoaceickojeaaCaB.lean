/- Merged: CaRow CaCut CaDrop CaSweep. -/
import Derived.Test.YtnhoaceickojeaaCaA
import Derived.Deep.LoopGhost
/- An entry is put behind the row, or taken out of it: the program's. -/
namespace Go.Proofs.Ytnhoaceickojeaa.Ca
open Go.RowKit

theorem bs_append (A B : List Nd) : bs (A ++ B) = bs A ++ bs B := List.map_append
theorem ecs_p (d : Nd) (p n p' : Value) : (ecs d p n).setIfInBounds 10 p' = ecs d p' n := rfl
theorem ecs_n (d : Nd) (p n n' : Value) : (ecs d p n).setIfInBounds 11 n' = ecs d p n' := rfl
theorem snoc_cases {α : Type} (l : List α) : l = [] ∨ ∃ A x, l = A ++ [x] := by
  rcases List.eq_nil_or_concat l with h | ⟨A, x, h⟩
  · exact .inl h
  · exact .inr ⟨A, x, by simpa using h⟩
theorem hd_snoc (A : List Nd) (y d : Nd) (z : Value) : hd (A ++ [y] ++ [d]) z = hd (A ++ [y]) z := by cases A <;> rfl
section
variable {w : World} {c : Nat} {room m sn : Value}
theorem set2_tch (w : World) (b : Nat) (u v : Value) (S : List Nat) (h : b ∈ S) : Tch S w ((w.setCell ⟨b, 10, none⟩ u).setCell ⟨b, 11, none⟩ v) := (Tch.set S w ⟨b, 10, none⟩ u h).trans (Tch.set S _ ⟨b, 11, none⟩ v h)
theorem has_ecs {d : Nd} {p0 n0 : Value} (h : Has w d.b 88 (ecs d p0 n0)) (p n : Value) : Has ((w.setCell ⟨d.b, 10, none⟩ p).setCell ⟨d.b, 11, none⟩ n) d.b 88 (ecs d p n) := (h.set 10 p).set 11 n
theorem rm_add_nil (h : RM w c room m sn []) {d : Nd} {p0 n0 : Value} (hd0 : Has w d.b 88 (ecs d p0 n0)) (hn : d.b ∉ c :: bs []) :
    RM ((((w.setCell ⟨d.b, 10, none⟩ nilp).setCell ⟨d.b, 11, none⟩ nilp).setCell ⟨c, 0, none⟩ (pt d.b)).setCell ⟨c, 1, none⟩ (pt d.b)) c room m sn [d] := by
  have hcx : c ≠ d.b := fun e => hn (by simp [e])
  refine ⟨?_, ⟨?_, trivial⟩, by simpa using hcx⟩
  · have h1 := ((((h.head.far (p := ⟨d.b, 10, none⟩) hcx nilp).far (p := ⟨d.b, 11, none⟩) hcx nilp).set 0 (pt d.b)).set 1 (pt d.b))
    exact h1
  · exact ((has_ecs hd0 nilp nilp).far (p := ⟨c, 0, none⟩) hcx.symm _).far (p := ⟨c, 1, none⟩) hcx.symm _
theorem rm_add_snoc {A : List Nd} {y : Nd} (h : RM w c room m sn (A ++ [y])) {d : Nd} {p0 n0 : Value} (hd0 : Has w d.b 88 (ecs d p0 n0)) (hn : d.b ∉ c :: bs (A ++ [y])) :
    RM ((((w.setCell ⟨d.b, 10, none⟩ (pt y.b)).setCell ⟨d.b, 11, none⟩ nilp).setCell ⟨y.b, 11, none⟩ (pt d.b)).setCell ⟨c, 1, none⟩ (pt d.b)) c room m sn (A ++ [y] ++ [d]) := by
  have hn1 : d.b ≠ c ∧ d.b ∉ bs (A ++ [y]) := by simpa using hn
  have hnd : c ∉ bs (A ++ [y]) ∧ (bs (A ++ [y])).Nodup := by simpa using h.nd
  have hy : y.b ∈ bs (A ++ [y]) := by simp
  have hyc : c ≠ y.b := fun e => hnd.1 (by rw [e]; exact hy)
  have hyd : d.b ≠ y.b := fun e => hn1.2 (by rw [e]; exact hy)
  have hyA : y.b ∉ bs A := fun e => by
    have h2 := hnd.2
    rw [bs_append, List.nodup_append] at h2
    exact h2.2.2 _ e _ (by simp) rfl
  have h1 : RM ((w.setCell ⟨d.b, 10, none⟩ (pt y.b)).setCell ⟨d.b, 11, none⟩ nilp) c room m sn (A ++ [y]) := h.tch (set2_tch w d.b _ _ [d.b] (by simp)) fun k hk e => by
    simp only [List.mem_singleton] at e
    subst e
    exact hn hk
  have h2 := has_ecs hd0 (pt y.b) nilp
  generalize ((w.setCell ⟨d.b, 10, none⟩ (pt y.b)).setCell ⟨d.b, 11, none⟩ nilp) = w1 at *
  refine ⟨?_, ?_, ?_⟩
  · have h3 := (h1.head.far (p := ⟨y.b, 11, none⟩) hyc (pt d.b)).set 1 (pt d.b)
    rw [hd_snoc, lst_last]
    exact h3
  · refine (ch_append _ _ _ _).2 ⟨?_, ?_, trivial⟩
    · have h3 := h1.ch.setN hyA (pt d.b)
      exact h3.tch (Tch.set [c] _ ⟨c, 1, none⟩ (pt d.b) (by simp)) fun k hk e => by
        simp only [List.mem_singleton] at e
        subst e
        exact hnd.1 hk
    · rw [lst_last]
      exact (h2.far (p := ⟨y.b, 11, none⟩) hyd _).far (p := ⟨c, 1, none⟩) hn1.1 _
  · rw [bs_append]
    have h3 := h.nd
    rw [← List.cons_append, List.nodup_append]
    exact ⟨h3, by simp, fun a ha b hb e => by simp at hb; subst hb; subst e; exact hn ha⟩
end
set_option maxHeartbeats 400000 in
set_option maxRecDepth 100000 in
theorem add_any {w : World} {c : Nat} {room m sn : Value} {l : List Nd} (h : RM w c room m sn l) (d : Nd) {p0 n0 : Value} (hd0 : Has w d.b 88 (ecs d p0 n0)) (hn : d.b ∉ c :: bs l) :
    Calls Try.prog 44 #[pt c, pt d.b] w fun e w' => e = .returned (.tuple #[]) ∧ RM w' c room m sn (l ++ [d]) ∧ Tch (d.b :: c :: bs l) w w' ∧ w'.heap.size = w.heap.size := by
  have hcx : d.b ≠ c := fun e => hn (by simp [e])
  have hxc : c ≠ d.b := fun e => hcx e.symm
  have f0 := hd0.free 10
  have f1 := hd0.free 11
  have x0 : w.cell? ⟨d.b, 10, none⟩ = some p0 := by rw [hd0.cell]; rfl
  have x1 : w.cell? ⟨d.b, 11, none⟩ = some n0 := by rw [hd0.cell]; rfl
  have g0 := h.head.free 0
  have g1 := h.head.free 1
  rcases snoc_cases l with rfl | ⟨A, y, rfl⟩
  · have c0 : w.cell? ⟨c, 0, none⟩ = some nilp := by rw [h.head.cell]; rfl
    have c1 : w.cell? ⟨c, 1, none⟩ = some nilp := by rw [h.head.cell]; rfl
    have HR := Lib.hid (rm_add_nil h hd0 hn)
    clear h hd0 hn
    go_enter Try.func44, Try.ntmps44
    go_wp2
    go_end0
    exact ⟨rfl, HR.out, ((set2_tch w d.b _ _ _ (by simp)).trans (Tch.set _ _ ⟨c, 0, none⟩ _ (by simp))).trans (Tch.set _ _ ⟨c, 1, none⟩ _ (by simp)), by simp⟩
  · have hn1 : d.b ≠ c ∧ d.b ∉ bs (A ++ [y]) := by simpa using hn
    have hnd : c ∉ bs (A ++ [y]) ∧ (bs (A ++ [y])).Nodup := by simpa using h.nd
    have hy : y.b ∈ bs (A ++ [y]) := by simp
    have hyc : c ≠ y.b := fun e => hnd.1 (by rw [e]; exact hy)
    have hcy : y.b ≠ c := fun e => hyc e.symm
    have hyd : d.b ≠ y.b := fun e => hn1.2 (by rw [e]; exact hy)
    have hdy : y.b ≠ d.b := fun e => hyd e.symm
    have hY := ((ch_append A [y] nilp nilp).1 h.ch).2.1
    have c1 : w.cell? ⟨c, 1, none⟩ = some (pt y.b) := by rw [h.head.cell, ← lst_last A y nilp]; rfl
    have y1 : w.cell? ⟨y.b, 11, none⟩ = some nilp := by rw [hY.cell]; rfl
    have fy := hY.free 11
    have HR := Lib.hid (rm_add_snoc h hd0 hn)
    have HY := Lib.hid hy
    clear h hd0 hn hn1 hnd hy hY
    go_enter Try.func44, Try.ntmps44
    go_wp2
    go_end0
    exact ⟨rfl, HR.out, ((set2_tch w d.b _ _ _ (by simp)).trans (Tch.set _ _ ⟨y.b, 11, none⟩ _ (List.mem_cons_of_mem _ (List.mem_cons_of_mem _ HY.out)))).trans (Tch.set _ _ ⟨c, 1, none⟩ _ (by simp)), by simp⟩
end Go.Proofs.Ytnhoaceickojeaa.Ca
/- An entry is taken out of the row: the program's. -/
namespace Go.Proofs.Ytnhoaceickojeaa.Ca
open Go.RowKit

structure HM (w : World) (c : Nat) (f r room m sn : Value) (A B : List Nd) (d : Nd) (p : Value) : Prop where
  head : Has w c 78 #[f, r, room, m, sn]
  cA : Ch w nilp A (hd B nilp)
  cB : Ch w p B nilp
  node : Has w d.b 88 (ecs d (lst A nilp) (hd B nilp))
theorem Tch.drew {S : List Nat} {w w' : World} (h : Tch S w w') : Tch S w w'.drew := ⟨h.os, h.tape, h.output, h.size, h.same⟩
theorem RM.drew {w : World} {c : Nat} {room m sn : Value} {l : List Nd} (h : RM w c room m sn l) : RM w.drew c room m sn l := h.tch (Tch.refl [] w).drew (by simp)
theorem nd_split {c : Nat} {A B : List Nd} {d : Nd} (h : (c :: bs (A ++ d :: B)).Nodup) : c ∉ bs A ∧ c ∉ bs B ∧ c ≠ d.b ∧ d.b ∉ bs A ∧ d.b ∉ bs B ∧ (bs A).Nodup ∧ (bs B).Nodup ∧ (∀ x ∈ bs A, x ∉ bs B) ∧ (c :: bs (A ++ B)).Nodup := by
  have h2 : (c :: (bs A ++ d.b :: bs B)).Nodup := by rw [bs_append] at h; exact h
  obtain ⟨h3, h4⟩ := List.nodup_cons.1 h2
  obtain ⟨h5, h6, h7⟩ := List.nodup_append.1 h4
  obtain ⟨h8, h9⟩ := List.nodup_cons.1 h6
  simp only [List.mem_append, List.mem_cons, not_or] at h3
  refine ⟨h3.1, h3.2.2, h3.2.1, fun e => h7 _ e _ (by simp) rfl, h8, h5, h9, fun x hx e => h7 _ hx _ (by simp [e]) rfl, ?_⟩
  have hs : (bs (A ++ B)).Sublist (bs (A ++ d :: B)) := by
    rw [bs_append, bs_append]
    exact (List.Sublist.refl _).append ((List.Sublist.refl _).cons d.b)
  exact h.sublist (hs.cons_cons c)
section
variable {w : World} {c : Nat} {room m sn : Value} {A B : List Nd} {d : Nd}
theorem rm_parts (h : RM w c room m sn (A ++ d :: B)) : Ch w nilp A (pt d.b) ∧ Has w d.b 88 (ecs d (lst A nilp) (hd B nilp)) ∧ Ch w (pt d.b) B nilp := by
  have h1 := (ch_append A (d :: B) nilp nilp).1 h.ch
  exact ⟨h1.1, h1.2.1, h1.2.2⟩
theorem cut_nil (h : RM w c room m sn ([] ++ d :: B)) : HM (w.setCell ⟨c, 0, none⟩ (hd B nilp)) c (hd ([] ++ B) nilp) (lst ([] ++ d :: B) nilp) room m sn [] B d (pt d.b) := by
  obtain ⟨n1, n2, n3, n4, n5, n6, n7, n8, n9⟩ := nd_split h.nd
  obtain ⟨_, h2, h3⟩ := rm_parts h
  refine ⟨h.head.set 0 _, trivial, h3.tch (Tch.set [c] _ ⟨c, 0, none⟩ _ (by simp)) fun k hk e => ?_, h2.far (p := ⟨c, 0, none⟩) n3.symm _⟩
  simp only [List.mem_singleton] at e
  subst e
  exact n2 hk
theorem cut_snoc {a : Nd} (h : RM w c room m sn (A ++ [a] ++ d :: B)) : HM (w.setCell ⟨a.b, 11, none⟩ (hd B nilp)) c (hd (A ++ [a] ++ B) nilp) (lst (A ++ [a] ++ d :: B) nilp) room m sn (A ++ [a]) B d (pt d.b) := by
  obtain ⟨n1, n2, n3, n4, n5, n6, n7, n8, n9⟩ := nd_split h.nd
  obtain ⟨h1, h2, h3⟩ := rm_parts h
  have ha : a.b ∈ bs (A ++ [a]) := by simp
  have hca : c ≠ a.b := fun e => n1 (by rw [e]; exact ha)
  have hda : d.b ≠ a.b := fun e => n4 (by rw [e]; exact ha)
  have haA : a.b ∉ bs A := fun e => by
    rw [bs_append, List.nodup_append] at n6
    exact n6.2.2 _ e _ (by simp) rfl
  refine ⟨?_, h1.setN haA _, h3.tch (Tch.set [a.b] _ ⟨a.b, 11, none⟩ _ (by simp)) fun k hk e => ?_, h2.far (p := ⟨a.b, 11, none⟩) hda _⟩
  · have h4 := h.head.far (p := ⟨a.b, 11, none⟩) hca (hd B nilp)
    have e : hd (A ++ [a] ++ B) nilp = hd (A ++ [a] ++ d :: B) nilp := by cases A <;> rfl
    rw [e]
    exact h4
  · simp only [List.mem_singleton] at e
    subst e
    exact n8 _ ha hk
theorem cut_end (nd : (c :: bs (A ++ [d])).Nodup) {r : Value} (h : HM w c (hd (A ++ []) nilp) r room m sn A [] d (pt d.b)) : RM (w.setCell ⟨c, 1, none⟩ (lst A nilp)) c room m sn (A ++ []) ∧ Has (w.setCell ⟨c, 1, none⟩ (lst A nilp)) d.b 88 (ecs d (lst A nilp) nilp) := by
  obtain ⟨n1, n2, n3, n4, n5, n6, n7, n8, n9⟩ := nd_split nd
  refine ⟨⟨?_, ?_, n9⟩, h.node.far (p := ⟨c, 1, none⟩) n3.symm _⟩
  · have h4 := h.head.set 1 (lst A nilp)
    rw [lst_append]
    exact h4
  · rw [List.append_nil]
    exact h.cA.tch (Tch.set [c] _ ⟨c, 1, none⟩ _ (by simp)) fun k hk e => by
      simp only [List.mem_singleton] at e
      subst e
      exact n1 hk
theorem cut_cons {b : Nd} (nd : (c :: bs (A ++ d :: b :: B)).Nodup) (h : HM w c (hd (A ++ b :: B) nilp) (lst (A ++ d :: b :: B) nilp) room m sn A (b :: B) d (pt d.b)) : RM (w.setCell ⟨b.b, 10, none⟩ (lst A nilp)) c room m sn (A ++ b :: B) ∧ Has (w.setCell ⟨b.b, 10, none⟩ (lst A nilp)) d.b 88 (ecs d (lst A nilp) (pt b.b)) := by
  obtain ⟨n1, n2, n3, n4, n5, n6, n7, n8, n9⟩ := nd_split nd
  have hb : b.b ∈ bs (b :: B) := by simp
  have hcb : c ≠ b.b := fun e => n2 (by rw [e]; exact hb)
  have hdb : d.b ≠ b.b := fun e => n5 (by rw [e]; exact hb)
  refine ⟨⟨?_, (ch_append _ _ _ _).2 ⟨?_, ?_⟩, n9⟩, h.node.far (p := ⟨b.b, 10, none⟩) hdb _⟩
  · have h4 := h.head.far (p := ⟨b.b, 10, none⟩) hcb (lst A nilp)
    have e : lst (A ++ b :: B) nilp = lst (A ++ d :: b :: B) nilp := by rw [lst_append, lst_append]; rfl
    rw [e]
    exact h4
  · exact h.cA.tch (Tch.set [b.b] _ ⟨b.b, 10, none⟩ _ (by simp)) fun k hk e => by
      simp only [List.mem_singleton] at e
      subst e
      exact n8 _ hk hb
  · exact h.cB.setP (List.nodup_cons.1 n7).1 _
end
set_option maxHeartbeats 800000 in
set_option maxRecDepth 100000 in
theorem cut_any {w : World} {c : Nat} {room m sn : Value} {A B : List Nd} {d : Nd} (h : RM w c room m sn (A ++ d :: B)) :
    Calls Try.prog 43 #[pt c, pt d.b] w fun e w' => e = .returned (.tuple #[]) ∧ RM w' c room m sn (A ++ B) ∧ Has w' d.b 88 (ecs d (lst A nilp) (hd B nilp)) ∧ Tch (c :: (bs A ++ bs B)) w w' ∧ w'.heap.size = w.heap.size := by
  obtain ⟨n1, n2, n3, n4, n5, n6, n7, n8, n9⟩ := nd_split h.nd
  obtain ⟨_, h2, h3⟩ := rm_parts h
  have n3' : d.b ≠ c := fun e => n3 e.symm
  have g0 := h.head.free 0
  have g1 := h.head.free 1
  have c0 : w.cell? ⟨c, 0, none⟩ = some (hd (A ++ d :: B) nilp) := by rw [h.head.cell]; rfl
  have c1 : w.cell? ⟨c, 1, none⟩ = some (lst (A ++ d :: B) nilp) := by rw [h.head.cell]; rfl
  rcases snoc_cases A with rfl | ⟨A, a, rfl⟩
  · have x0 : w.cell? ⟨d.b, 10, none⟩ = some nilp := by rw [h2.cell]; rfl
    have HH := cut_nil h
    rcases B with _ | ⟨b, B⟩
    · have x1 : w.cell? ⟨d.b, 11, none⟩ = some nilp := by rw [h2.cell]; rfl
      have HR := Lib.hid (cut_end h.nd HH)
      clear h h2 h3 HH n1 n2 n4 n5 n6 n7 n8 n9
      go_enter Try.func43, Try.ntmps43
      go_wp2
      go_end0
      exact ⟨rfl, HR.out.1, HR.out.2, (Tch.set _ _ ⟨c, 0, none⟩ _ (by simp)).trans (Tch.set _ _ ⟨c, 1, none⟩ _ (by simp)), by simp⟩
    · have x1 : w.cell? ⟨d.b, 11, none⟩ = some (pt b.b) := by rw [h2.cell]; rfl
      have hcb : c ≠ b.b := fun e => n2 (by simp [e])
      have hbc : b.b ≠ c := fun e => hcb e.symm
      have hdb : d.b ≠ b.b := fun e => n5 (by simp [e])
      have hbd : b.b ≠ d.b := fun e => hdb e.symm
      have y0 : w.cell? ⟨b.b, 10, none⟩ = some (pt d.b) := by rw [h3.1.cell]; rfl
      have fy := h3.1.free 10
      have HR := Lib.hid (cut_cons h.nd HH)
      clear h h2 h3 HH n1 n2 n4 n5 n6 n7 n8 n9
      go_enter Try.func43, Try.ntmps43
      go_wp2
      go_region
      all_goals (go_end0; exact ⟨rfl, HR.out.1.drew, HR.out.2, ((Tch.set _ _ ⟨c, 0, none⟩ _ (by simp)).trans (Tch.set _ _ ⟨b.b, 10, none⟩ _ (by simp))).drew, by simp⟩)
  · have ha : a.b ∈ bs (A ++ [a]) := by simp
    have hca : c ≠ a.b := fun e => n1 (by rw [e]; exact ha)
    have hac : a.b ≠ c := fun e => hca e.symm
    have hda : d.b ≠ a.b := fun e => n4 (by rw [e]; exact ha)
    have had : a.b ≠ d.b := fun e => hda e.symm
    have hA := ((ch_append A [a] nilp _).1 ((ch_append _ _ nilp _).1 h.ch).1).2.1
    have z1 : w.cell? ⟨a.b, 11, none⟩ = some (pt d.b) := by rw [hA.cell]; rfl
    have fz := hA.free 11
    have x0 : w.cell? ⟨d.b, 10, none⟩ = some (pt a.b) := by rw [h2.cell, ← lst_last A a nilp]; rfl
    have HH := cut_snoc h
    rcases B with _ | ⟨b, B⟩
    · have x1 : w.cell? ⟨d.b, 11, none⟩ = some nilp := by rw [h2.cell]; rfl
      have HR0 := cut_end h.nd HH
      rw [lst_last] at HR0
      have HR := Lib.hid HR0
      clear HR0
      have HA := Lib.hid ha
      clear h h2 h3 HH n1 n2 n4 n5 n6 n7 n8 n9 ha hA
      go_enter Try.func43, Try.ntmps43
      go_wp2
      go_region
      all_goals
        go_wp2
        go_end0
        rw [lst_last A a nilp]
        exact ⟨rfl, HR.out.1.drew, HR.out.2, ((Tch.set _ _ ⟨a.b, 11, none⟩ _ (List.mem_cons_of_mem _ (List.mem_append_left _ HA.out))).trans (Tch.set _ _ ⟨c, 1, none⟩ _ (by simp))).drew, by simp⟩
    · have x1 : w.cell? ⟨d.b, 11, none⟩ = some (pt b.b) := by rw [h2.cell]; rfl
      have hb : b.b ∈ bs (b :: B) := by simp
      have hcb : c ≠ b.b := fun e => n2 (by simp [e])
      have hbc : b.b ≠ c := fun e => hcb e.symm
      have hdb : d.b ≠ b.b := fun e => n5 (by simp [e])
      have hbd : b.b ≠ d.b := fun e => hdb e.symm
      have hab : a.b ≠ b.b := fun e => n8 _ ha (by rw [e]; exact hb)
      have hba : b.b ≠ a.b := fun e => hab e.symm
      have y0 : w.cell? ⟨b.b, 10, none⟩ = some (pt d.b) := by rw [h3.1.cell]; rfl
      have fy := h3.1.free 10
      have HR0 := cut_cons h.nd HH
      rw [lst_last] at HR0
      have HR := Lib.hid HR0
      clear HR0
      have HA := Lib.hid ha
      clear h h2 h3 HH n1 n2 n4 n5 n6 n7 n8 n9 ha hA hb
      go_enter Try.func43, Try.ntmps43
      go_wp2
      go_region
      all_goals
        go_wp2
        go_region
        all_goals
          go_end0
          rw [lst_last A a nilp]
          exact ⟨rfl, HR.out.1.drew.drew, HR.out.2, ((Tch.set _ _ ⟨a.b, 11, none⟩ _ (List.mem_cons_of_mem _ (List.mem_append_left _ HA.out))).trans (Tch.set _ _ ⟨b.b, 10, none⟩ _ (List.mem_cons_of_mem _ (List.mem_append_right _ (by simp))))).drew.drew, by simp⟩
end Go.Proofs.Ytnhoaceickojeaa.Ca
/- An entry is dropped: the program's. -/
namespace Go.Proofs.Ytnhoaceickojeaa.Ca
open Go.RowKit

abbrev mL (l : List Nd) : List (Kv × Value) := l.map fun d => (d.e.key, pt d.b)
/-- the cache in memory. -/
structure CM (w : World) (lo c m room : Nat) (sn : Int) (l : List Nd) : Prop where
  rm : RM w c (.int .i64 (room : Int)) (.map (some m)) (.int .i64 sn) l
  mq : Mq w m (mL l)
  rows : ∀ d ∈ l, RowsM w d
  sep : ∀ d ∈ l, ∀ k ∈ d.rows, k ≠ c ∧ k ≠ m ∧ k ∉ bs l
  ok : ∀ d ∈ l, d.e.ok
  keys : (l.map fun d => d.e.key).Nodup
  low : lo ≤ c ∧ lo ≤ m ∧ ∀ d ∈ l, lo ≤ d.b ∧ ∀ k ∈ d.rows, lo ≤ k
/-- nothing of these is over ahead of the tick. -/
def Soon (sn : Int) (l : List Nd) : Prop := ∀ d ∈ l, sn ≤ (d.e.over : Int)
def foot (c m : Nat) (l : List Nd) : List Nat := c :: m :: (bs l ++ l.flatMap Nd.rows)
theorem En.ok.kv {e : En} (h : e.ok) : KvOk e.key := ⟨by have := h.nm; omega, h.ty, h.cl⟩
theorem ecs_key {w : World} {d : Nd} {t : TypeId} {p n : Value} (h : Has w d.b t (ecs d p n)) : w.cell? ⟨d.b, 0, none⟩ = some (.string d.e.key.nm) ∧ w.cell? ⟨d.b, 1, none⟩ = some (.int .u16 d.e.key.ty) ∧ w.cell? ⟨d.b, 2, none⟩ = some (.int .u16 d.e.key.cl) := by
  refine ⟨?_, ?_, ?_⟩ <;> rw [h.cell] <;> rfl
theorem Ch.node {w : World} : ∀ {l : List Nd} {p n : Value}, Ch w p l n → ∀ d ∈ l, ∃ p' n', Has w d.b 88 (ecs d p' n')
  | [], _, _, _, d, hd => by simp at hd
  | x :: r, p, n, h, d, hd => by
    rcases List.mem_cons.1 hd with rfl | hd
    · exact ⟨_, _, h.1⟩
    · exact Ch.node h.2 d hd
theorem mem_bs {l : List Nd} {k : Nat} (h : k ∈ bs l) : ∃ d ∈ l, d.b = k := List.mem_map.1 h
section
variable {w w' : World} {lo c m room : Nat} {sn : Int} {l l' : List Nd} {S : List Nat}
theorem CM.far (h : CM w lo c m room sn l) : c ≠ m ∧ m ∉ bs l := by
  refine ⟨h.mq.no h.rm.head, fun e => ?_⟩
  obtain ⟨d, hd, rfl⟩ := mem_bs e
  obtain ⟨p, n, hn⟩ := h.rm.ch.node d hd
  exact h.mq.no hn rfl
theorem CM.tch (h : CM w lo c m room sn l) (ht : Tch S w w') (hS : ∀ k ∈ foot c m l, k ∉ S) : CM w' lo c m room sn l where
  rm := h.rm.tch ht fun k hk => hS k (by
    rcases List.mem_cons.1 hk with e | e
    · simp [foot, e]
    · simp only [foot, List.mem_cons, List.mem_append]; exact .inr (.inr (.inl e)))
  mq := h.mq.same (ht.same m h.mq.lt (hS m (by simp [foot])))
  rows d hd := (h.rows d hd).tch ht fun k hk => hS k (by
    simp only [foot, List.mem_cons, List.mem_append, List.mem_flatMap]
    exact .inr (.inr (.inr ⟨d, hd, hk⟩)))
  sep := h.sep
  ok := h.ok
  keys := h.keys
  low := h.low
theorem CM.kvs (h : CM w lo c m room sn l) : ∀ p ∈ mL l, KvOk p.1 := fun p hp => by
  obtain ⟨d, hd, rfl⟩ := List.mem_map.1 hp
  exact (h.ok d hd).kv
theorem CM.mkeys (h : CM w lo c m room sn l) : ((mL l).map (·.1)).Nodup := by
  rw [List.map_map]
  exact h.keys
/-- of fewer entries the rest holds. -/
theorem CM.sub (h : CM w lo c m room sn l) (hs : l'.Sublist l) (hr : RM w' c (.int .i64 (room : Int)) (.map (some m)) (.int .i64 sn) l') (hm : Mq w' m (mL l')) (ht : Tch (c :: m :: bs l) w w') : CM w' lo c m room sn l' where
  rm := hr
  mq := hm
  rows d hd := (h.rows d (hs.subset hd)).tch ht fun k hk e => by
    obtain ⟨h1, h2, h3⟩ := h.sep d (hs.subset hd) k hk
    simp only [List.mem_cons] at e
    rcases e with e | e | e
    · exact h1 e
    · exact h2 e
    · exact h3 e
  sep d hd k hk := by
    obtain ⟨h1, h2, h3⟩ := h.sep d (hs.subset hd) k hk
    exact ⟨h1, h2, fun e => h3 ((hs.map Nd.b).subset e)⟩
  ok d hd := h.ok d (hs.subset hd)
  keys := h.keys.sublist (hs.map _)
  low := ⟨h.low.1, h.low.2.1, fun d hd => h.low.2.2 d (hs.subset hd)⟩
end
theorem mid_sub {α : Type} (A B : List α) (d : α) : (A ++ B).Sublist (A ++ d :: B) := (List.Sublist.refl A).append ((List.Sublist.refl B).cons d)
set_option maxHeartbeats 800000 in
set_option maxRecDepth 100000 in
theorem drop_any {w : World} {lo c m room : Nat} {sn : Int} {A B : List Nd} {d : Nd} (h : CM w lo c m room sn (A ++ d :: B)) :
    Calls Try.prog 33 #[pt c, pt d.b] w fun e w' => e = .returned (.tuple #[]) ∧ CM w' lo c m room sn (A ++ B) ∧ Has w' d.b 88 (ecs d (lst A nilp) (hd B nilp)) ∧ Tch (c :: m :: (bs A ++ bs B)) w w' := by
  have HC := Lib.hid (cut_any h.rm)
  have H := Lib.hid h
  clear h
  go_enter Try.func33, Try.ntmps33
  go_wp2_with (go_at_call 43; refine HC.out.mono ?_; rintro e w1 ⟨rfl, hR, hD, hT, hs⟩)
  obtain ⟨hcm, hmb⟩ := H.out.far
  have hsub : ∀ k ∈ c :: (bs A ++ bs B), k ∈ c :: bs (A ++ d :: B) := fun k hk => by
    rw [bs_append]
    simp only [List.mem_cons, List.mem_append, List.map_cons] at hk ⊢
    rcases hk with e | e | e
    · exact .inl e
    · exact .inr (.inl e)
    · exact .inr (.inr (.inr e))
  have hM1 : Mq w1.drew m (mL (A ++ d :: B)) := H.out.mq.same (hT.same m H.out.mq.lt (fun e => by
    have := hsub m e
    rcases List.mem_cons.1 this with e | e
    · exact hcm e.symm
    · exact hmb e))
  have hM2 : Mq w1.drew m ((d.e.key, pt d.b) :: mL (A ++ B)) := hM1.perm (by
    unfold mL
    rw [List.map_append, List.map_append, List.map_cons]
    exact List.perm_middle)
  have hkeys := H.out.mkeys
  have hkvs := H.out.kvs
  obtain ⟨w2, hr2, hM3, hg2⟩ := mq_delete d.e.key (pt d.b) hM2 (fun p hp => by
    rcases List.mem_cons.1 hp with rfl | hp
    · exact (H.out.ok d (by simp)).kv
    · exact hkvs p (((mid_sub A B d).map _).subset hp)) (fun p hp e => by
    unfold mL at hkeys hp
    rw [List.map_append] at hkeys hp
    rw [List.map_cons, List.map_append, List.map_cons, List.nodup_append, List.nodup_cons] at hkeys
    obtain ⟨_, ⟨k2, _⟩, k4⟩ := hkeys
    rcases List.mem_append.1 hp with hp | hp
    · exact k4 _ (List.mem_map.2 ⟨p, hp, rfl⟩) _ (by simp) e
    · exact k2 (List.mem_map.2 ⟨p, hp, e⟩))
  have c3 : w1.cell? ⟨c, 3, none⟩ = some (.map (some m)) := by rw [hR.head.cell]; rfl
  obtain ⟨k0, k1, k2⟩ := ecs_key hD
  have HR := Lib.hid hR
  have HD := Lib.hid hD
  have HT := Lib.hid hT
  have HM3 := Lib.hid hM3
  have HG2 := Lib.hid hg2
  have HF := Lib.hid (And.intro hcm hmb)
  have HSub := Lib.hid hsub
  unfold Kv.val at hr2
  clear hR hD hT hM1 hM2 hM3 hg2 hs hkeys hkvs hcm hmb hsub
  go_region
  all_goals
    go_end0
    have hmc : m ∉ c :: bs (A ++ B) := fun e => by
      rcases List.mem_cons.1 e with e | e
      · exact HF.out.1 e.symm
      · exact HF.out.2 (((mid_sub A B d).map Nd.b).subset e)
    have hT2 : Tch [m] w1 w2 := (Tch.refl [m] w1).drew.trans (Tch.of_grown HG2.out fun k e => by cases e; simp)
    have hTT : Tch (c :: m :: (bs A ++ bs B)) w w2 := (HT.out.mono fun k hk => by
      simp only [List.mem_cons, List.mem_append] at hk ⊢
      rcases hk with e | e
      · exact .inl e
      · exact .inr (.inr e)).trans (hT2.mono fun k hk => by simp at hk; simp [hk])
    refine ⟨rfl, H.out.sub (mid_sub A B d) (HR.out.tch hT2 fun k hk e => by simp at e; subst e; exact hmc hk) HM3.out (hTT.mono fun k hk => ?_), hT2.has HD.out (fun e => ?_), hTT⟩
    · simp only [List.mem_cons] at hk ⊢
      rcases hk with e | e | e
      · exact .inl e
      · exact .inr (.inl e)
      · have := HSub.out k (List.mem_cons_of_mem _ e)
        rcases List.mem_cons.1 this with e | e
        · exact .inl e
        · exact .inr (.inr e)
    · simp at e
      exact HF.out.2 (by rw [← e, bs_append]; simp)
end Go.Proofs.Ytnhoaceickojeaa.Ca
/- All entries that are over are dropped: the program's. -/
namespace Go.Proofs.Ytnhoaceickojeaa.Ca
open Go.RowKit

theorem CM.setSn {w : World} {lo c m room : Nat} {sn : Int} {l : List Nd} (h : CM w lo c m room sn l) (s : Int) : CM (w.setCell ⟨c, 4, none⟩ (.int .i64 s)) lo c m room s l where
  rm := by
    refine ⟨h.rm.head.set 4 _, h.rm.ch.tch (Tch.set [c] w ⟨c, 4, none⟩ _ (by simp)) fun k hk e => ?_, h.rm.nd⟩
    simp only [List.mem_singleton] at e
    subst e
    exact (List.nodup_cons.1 h.rm.nd).1 hk
  mq := h.mq.same (heap_setCell_other w ⟨c, 4, none⟩ m _ fun e => h.far.1 e.symm)
  rows d hd := (h.rows d hd).tch (Tch.set [c] w ⟨c, 4, none⟩ _ (by simp)) fun k hk e => by
    simp only [List.mem_singleton] at e
    exact (h.sep d hd k hk).1 e
  sep := h.sep
  ok := h.ok
  keys := h.keys
  low := h.low
theorem CM.drew {w : World} {lo c m room : Nat} {sn : Int} {l : List Nd} (h : CM w lo c m room sn l) : CM w.drew lo c m room sn l := h.tch (Tch.refl [] w).drew (by simp)
theorem sweep_append {α : Type} (f : α → En) (now : Nat) (A B : List α) : sweep f now (A ++ B) = sweep f now A ++ sweep f now B := List.filter_append ..
theorem sweep_one {α : Type} (f : α → En) (now : Nat) (x : α) : sweep f now [x] = if now < (f x).over then [x] else [] := by
  unfold sweep
  rw [List.filter_cons]
  by_cases h : now < (f x).over <;> simp [h]
theorem sweep_all {now : Nat} {sn : Int} {l : List Nd} (h : Soon sn l) (hn : (now : Int) < sn) : sweep Nd.e now l = l := List.filter_eq_self.2 fun d hd => by
  have := h d hd
  simp only [decide_eq_true_eq]
  omega
theorem hd_nil (z : Value) : hd [] z = z := rfl
theorem hd_cons (d : Nd) (l : List Nd) (z : Value) : hd (d :: l) z = pt d.b := rfl
set_option maxHeartbeats 800000 in
set_option maxRecDepth 100000 in
theorem sweep_any {w : World} {lo c m room : Nat} {sn : Int} {l : List Nd} (h : CM w lo c m room sn l) (hso : Soon sn l) (now : Nat) :
    Calls Try.prog 29 #[pt c, .int .i64 (now : Int)] w fun e w' => e = .returned (.tuple #[]) ∧ ∃ sn', CM w' lo c m room sn' (sweep Nd.e now l) ∧ Soon sn' (sweep Nd.e now l) ∧ Tch (c :: m :: bs l) w w' := by
  have c4 : w.cell? ⟨c, 4, none⟩ = some (.int .i64 sn) := by rw [h.rm.head.cell]; rfl
  have c0 : w.cell? ⟨c, 0, none⟩ = some (hd l nilp) := by rw [h.rm.head.cell]; rfl
  have f4 := h.rm.head.free 4
  by_cases hn : (now : Int) < sn
  · have hd : decide ((now : Int) < sn) = true := decide_eq_true hn
    have HS := Lib.hid (sweep_all hso hn)
    have H := Lib.hid h
    have HO := Lib.hid hso
    clear h hso hn
    go_enter Try.func29, Try.ntmps29
    go_wp2
    refine bodyPost_ret (results_none rfl _ _ _) rfl ?_
    rw [HS.out]
    exact ⟨rfl, sn, H.out, HO.out, Tch.refl _ _⟩
  · have hd : decide ((now : Int) < sn) = false := decide_eq_false hn
    have H := Lib.hid (h.setSn 9223372036854775807)
    clear h hso hn
    go_enter Try.func29, Try.ntmps29
    go_wp2
    go_loopg [4] l.length (fun gk x wr => ∃ (P T : List Nd) (s : Int), x = Ca.hd T nilp ∧ l = P ++ T ∧ T.length = gk ∧ Hid (CM wr lo c m room s (sweep Nd.e now P ++ T)) ∧ Hid (Soon s (sweep Nd.e now P)) ∧ Hid (Tch (c :: m :: bs l) w wr))
    case atStart => exact ⟨[], l, _, rfl, rfl, rfl, H.out, (fun d hd => by cases hd), Tch.set _ _ ⟨c, 4, none⟩ _ (by simp)⟩
    case round =>
      obtain ⟨P, T, s, rfl, rfl, hg, HC, HO, HT⟩ := hrel
      rcases T with _ | ⟨t, T⟩
      · simp only [hd_nil]
        go_wp2
        go_end0
        refine ⟨rfl, s, ?_, ?_, HT.out⟩
        · simpa only [List.append_nil] using HC.out
        · simpa only [List.append_nil] using HO.out
      · simp only [hd_cons]
        have hR := HC.out.rm
        have hT := (rm_parts hR).2.1
        have c3 : wr.cell? ⟨t.b, 9, none⟩ = some (.int .i64 (t.e.over : Int)) := by rw [hT.cell]; rfl
        by_cases ho : now < t.e.over
        · have hd1 : decide (t.e.over ≤ now) = false := decide_eq_false (by omega)
          have d4 : wr.cell? ⟨c, 4, none⟩ = some (.int .i64 s) := by rw [hR.head.cell]; rfl
          have g4 := hR.head.free 4
          have b11 : wr.cell? ⟨t.b, 11, none⟩ = some (Ca.hd T nilp) := by rw [hT.cell]; rfl
          have hcb : c ≠ t.b := (nd_split hR.nd).2.2.1
          have hbc : t.b ≠ c := fun e => hcb e.symm
          have HOv := Lib.hid ho
          clear hR hT ho
          have e1 : sweep Nd.e now (P ++ [t]) ++ T = sweep Nd.e now P ++ t :: T := by rw [sweep_append, sweep_one, if_pos HOv.out, List.append_assoc]; rfl
          have E1 := Lib.hid e1
          clear e1
          by_cases hm : s ≤ (t.e.over : Int)
          · have hd2 : decide (s ≤ (t.e.over : Int)) = true := decide_eq_true hm
            go_wp2
            go_region
            all_goals
              go_wp2
              go_roundg T.length
              case measure => simp at hg; omega
              case rel =>
                refine ⟨P ++ [t], T, s, rfl, by simp, rfl, ?_, ?_, ?_⟩
                · rw [Hid, E1.out]; exact (HC.out.setSn s).drew
                · rw [Hid, sweep_append, sweep_one, if_pos HOv.out]
                  intro x hx
                  rcases List.mem_append.1 hx with hx | hx
                  · exact HO.out x hx
                  · simp at hx; subst hx; exact hm
                · exact (HT.out.trans (Tch.set _ _ ⟨c, 4, none⟩ _ (by simp))).drew
          · have hd2 : decide (s ≤ (t.e.over : Int)) = false := decide_eq_false hm
            go_wp2
            go_region
            all_goals
              go_wp2
              go_roundg T.length
              case measure => simp at hg; omega
              case rel =>
                refine ⟨P ++ [t], T, t.e.over, rfl, by simp, rfl, ?_, ?_, ?_⟩
                · rw [Hid, E1.out]; exact (HC.out.setSn t.e.over).drew
                · rw [Hid, sweep_append, sweep_one, if_pos HOv.out]
                  intro x hx
                  rcases List.mem_append.1 hx with hx | hx
                  · have := HO.out x hx
                    omega
                  · simp at hx; subst hx; exact Int.le_refl _
                · exact (HT.out.trans (Tch.set _ _ ⟨c, 4, none⟩ _ (by simp))).drew
        · have hd1 : decide (t.e.over ≤ now) = true := decide_eq_true (by omega)
          have HD := Lib.hid (drop_any HC.out)
          have HOv := Lib.hid ho
          clear hR hT ho
          go_wp2_with (go_at_call 33; refine HD.out.mono ?_; rintro e w2 ⟨rfl, hC, hN, hT2⟩; have b11 : w2.cell? ⟨t.b, 11, none⟩ = some (Ca.hd T nilp) := (by rw [hN.cell]; rfl); have HC2 := Lib.hid hC; have HT2 := Lib.hid hT2; clear hC hN hT2)
          go_roundg T.length
          case measure => simp at hg; omega
          case rel =>
            have e1 : sweep Nd.e now (P ++ [t]) = sweep Nd.e now P := by rw [sweep_append, sweep_one, if_neg HOv.out, List.append_nil]
            refine ⟨P ++ [t], T, s, rfl, by simp, rfl, ?_, ?_, ?_⟩
            · rw [e1]; exact HC2.out
            · rw [e1]; exact HO.out
            · refine HT.out.trans (HT2.out.mono fun k hk => ?_)
              simp only [List.mem_cons, List.mem_append, bs_append, List.map_cons] at hk ⊢
              rcases hk with e | e | e | e
              · exact .inl e
              · exact .inr (.inl e)
              · exact .inr (.inr (.inl (((sweep_sub Nd.e now P).map Nd.b).subset e)))
              · exact .inr (.inr (.inr (.inr e)))
end Go.Proofs.Ytnhoaceickojeaa.Ca
