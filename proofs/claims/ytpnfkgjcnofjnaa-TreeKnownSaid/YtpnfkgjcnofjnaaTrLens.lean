/- A node within a tree, and what becomes of the tree where the node is changed. -/
import Derived.Test.YtpnfkgjcnofjnaaMgTc
import Derived.Test.YtpnfkgjcnofjnaaMgRa
namespace Go.Proofs.Ytpnfkgjcnofjnaa.Ti
open Go.RowKit Go.Shelf Tr

/-- blocks that are no loop's book. -/
def Plain (w : World) (S : List Nat) : Prop := ∀ k ∈ S, ∃ o, w.heap[k]? = some o ∧ isBook o = false
section
variable {w w' : World} {top : Option Nat} {b : Nat} {n : No TV} {f : Fo TV} {bs F S T : List Nat} {kv : Value}
theorem Plain.lt (h : Plain w S) : ∀ k ∈ S, k < w.heap.size := fun k hk => by obtain ⟨o, ho, _⟩ := h k hk; exact (Array.getElem?_eq_some_iff.1 ho).1
theorem Plain.same (h : Plain w S) (hs : ∀ k ∈ S, w'.heap[k]? = w.heap[k]?) : Plain w' S := fun k hk => by obtain ⟨o, ho, hb⟩ := h k hk; exact ⟨o, (hs k hk).trans ho, hb⟩
theorem Plain.app (h : Plain w S) (k : Plain w T) : Plain w (S ++ T) := fun i hi => by
  rcases List.mem_append.1 hi with hi | hi
  · exact h i hi
  · exact k i hi
theorem Plain.sub (h : Plain w S) (hs : ∀ k ∈ T, k ∈ S) : Plain w T := fun k hk => h k (hs k hk)
theorem plain_has {g : Nat} {t : TypeId} {cs : Array Value} (h : Has w g t cs) : Plain w [g] := fun k hk => by simp at hk; subst hk; exact ⟨_, h, rfl⟩
theorem plain_row (h : Row w kv bs) : Plain w (rowB kv) := fun k hk => by
  rcases h.2 with ⟨rfl, _⟩ | ⟨g, cap, cur, rfl, _, hg, _⟩
  · simp [rowB, Value.ownBlock] at hk
  · simp [rowB, Value.ownBlock] at hk; subst hk; exact ⟨_, hg, rfl⟩
theorem KidsM.plain (h : KidsM w f bs F) : Plain w F := by
  induction f generalizing bs F with
  | nl => obtain ⟨_, rfl⟩ := h; intro k hk; simp at hk
  | cons r s n ihs ihn =>
    obtain ⟨b, bs', kv, ks, F1, F2, _, rfl, h3, h4, h5, h6⟩ := h
    exact (((plain_has h3).app (plain_row h4)).app (ihs h5)).app (ihn h6)
theorem NodeM.plain (h : NodeM w top b n F) : Plain w F := by
  obtain ⟨kv, ks, F1, rfl, h3, h4, h5⟩ := h
  exact ((plain_has h3).app (plain_row h4)).app h5.plain
theorem Plain.row (h : Plain w S) {row : Option Nat} (hr : ∀ r, row = some r → ∃ o : Obj, w.heap[r]? = some o ∧ isBook o = true) : ∀ k ∈ S, some k ≠ row := fun k hk e => by
  obtain ⟨o, ho, hb⟩ := h k hk
  obtain ⟨o', ho', hb'⟩ := hr k e.symm
  rw [ho] at ho'; cases ho'; rw [hb] at hb'; cases hb'
end
/-- what stands at path q of n lies at b1; the tree's other blocks: A, B. -/
def Lens (w : World) (top : Option Nat) (b : Nat) (n : No TV) (q : List By) (t1 : Option Nat) (b1 : Nat) (A F1 B : List Nat) : Prop :=
  NodeM w t1 b1 (atq q n) F1 ∧ Plain w (A ++ B) ∧
  ∀ (w' : World) (m : No TV) (F1' : List Nat), (∀ k, k ∈ A ∨ k ∈ B → w'.heap[k]? = w.heap[k]?) → NodeM w' t1 b1 m F1' → NodeM w' top b (upd q (fun _ => m) n) (A ++ (F1' ++ B))
section
variable {w w' : World} {top t1 : Option Nat} {b b1 : Nat} {n : No TV} {q : List By} {A F1 B F : List Nat}
theorem Lens.root (h : NodeM w top b n F) : Lens w top b n [] top b [] F [] := ⟨h, fun k hk => by simp at hk, fun w' m F1' _ hn => by simpa [upd] using hn⟩
theorem Lens.node (h : Lens w top b n q t1 b1 A F1 B) : NodeM w t1 b1 (atq q n) F1 := h.1
theorem Lens.plain (h : Lens w top b n q t1 b1 A F1 B) : Plain w (A ++ (F1 ++ B)) := (h.2.1.app h.1.plain).sub fun k hk => by
  simp only [List.mem_append] at hk ⊢
  rcases hk with hk | hk | hk <;> simp [hk]
theorem Lens.lt (h : Lens w top b n q t1 b1 A F1 B) : ∀ k ∈ A ++ (F1 ++ B), k < w.heap.size := h.plain.lt
theorem Lens.same (h : Lens w top b n q t1 b1 A F1 B) (hs : ∀ k ∈ A ++ (F1 ++ B), w'.heap[k]? = w.heap[k]?) : Lens w' top b n q t1 b1 A F1 B :=
  ⟨h.1.same fun k hk => hs k (by simp [hk]), h.2.1.same fun k hk => hs k (by rcases List.mem_append.1 hk with hk | hk <;> simp [hk]), fun w2 m F' hs2 hm => h.2.2 w2 m F' (fun k hk => (hs2 k hk).trans (hs k (by rcases hk with hk | hk <;> simp [hk]))) hm⟩
theorem Lens.drew (h : Lens w top b n q t1 b1 A F1 B) : Lens w.drew top b n q t1 b1 A F1 B := h.same fun _ _ => rfl
theorem Lens.below {C : Nat} (h : Lens w top b n q t1 b1 A F1 B) (hb : Below C w w') (hC : w.heap.size ≤ C) : Lens w' top b n q t1 b1 A F1 B := h.same fun k hk => hb.block k (Nat.lt_of_lt_of_le (h.lt k hk) hC)
theorem Lens.grown {C : Nat} (h : Lens w top b n q t1 b1 A F1 B) {row : Option Nat} (hg : w.grownBy w' row) (hr : ∀ r, row = some r → C ≤ r) (hC : ∀ k ∈ A ++ (F1 ++ B), k < C) : Lens w' top b n q t1 b1 A F1 B :=
  h.same fun k hk => hg.block k (h.lt k hk) fun e => by have := hr k e.symm; have := hC k hk; omega
theorem Lens.book (h : Lens w top b n q t1 b1 A F1 B) {row : Option Nat} (hg : w.grownBy w' row) (hr : ∀ r, row = some r → ∃ o : Obj, w.heap[r]? = some o ∧ isBook o = true) : Lens w' top b n q t1 b1 A F1 B :=
  h.same fun k hk => hg.block k (h.lt k hk) (h.plain.row hr k hk)
theorem Lens.only {S : List Nat} (h : Lens w top b n q t1 b1 A F1 B) (ho : Only S w w') (hd : ∀ k ∈ A ++ (F1 ++ B), k ∉ S) : Lens w' top b n q t1 b1 A F1 B := h.same fun k hk => ho.block k (h.lt k hk) (hd k hk)
/-- what is done at the node is done to the tree. -/
theorem Lens.put (h : Lens w top b n q t1 b1 A F1 B) (g : No TV → No TV) {F1' : List Nat} (hs : ∀ k, k ∈ A ∨ k ∈ B → w'.heap[k]? = w.heap[k]?) (hm : NodeM w' t1 b1 (g (atq q n)) F1') : NodeM w' top b (upd q g n) (A ++ (F1' ++ B)) := by
  rw [upd_const]
  exact h.2.2 w' _ F1' hs hm
/-- one step down, where there is a kid. -/
theorem Lens.down (h : Lens w top b n q t1 b1 A F1 B) (hok : ok n) {x : By} {m : No TV} (hx : (atq q n).2.sel x = some m) :
    ∃ (g cap b2 : Nat) (A' F2 B' : List Nat), w.cell? ⟨b1, 4, none⟩ = some (.slice (some ⟨g, 0, none⟩) (atq q n).2.kids.length cap) ∧ (atq q n).2.idx x < (atq q n).2.kids.length ∧ w.cell? ⟨g, (atq q n).2.idx x, none⟩ = some (ptr b2) ∧
      Lens w top b n (q ++ [x]) none b2 A' F2 B' ∧ A' ++ (F2 ++ B') = A ++ (F1 ++ B) := by
  obtain ⟨kv, ks, F0, rfl, h3, h4, h5⟩ := h.1
  have hok1 := (ok_atq q hok).1
  obtain ⟨m', e1, hm⟩ : ∃ m', (atq q n).2.sel x = some m' ∧ (atq q n).2.kids[(atq q n).2.idx x]? = some m' := by
    rcases idx_sel hok1 x with h | ⟨h, _⟩
    · exact h
    · rw [h] at hx; cases hx
  rw [hx] at e1
  injection e1 with e1
  subst e1
  obtain ⟨b2, A0, F2, B0, rfl, h6, h7, h8⟩ := h5.kid hm
  have hl := h5.len
  have hi := (List.getElem?_eq_some_iff.1 hm).1
  obtain ⟨g, cap, rfl, hc, _⟩ := own_pos h4 (by omega)
  refine ⟨g, cap, b2, A ++ (b1 :: rowB (.slice (some ⟨g, 0, none⟩) ks.length cap) ++ A0), F2, B0 ++ B, ?_, hi, own_cells h4 _ (ptr b2) (by simp [ptrs, h6]), ?_, by simp⟩
  · rw [h3.cell, ← hl]; cases t1 <;> rfl
  · refine ⟨?_, h.plain.sub fun k hk => (by simp only [List.mem_append, List.mem_cons] at hk ⊢; rcases hk with (hk | (hk | hk) | hk) | hk | hk <;> simp [hk]), fun w2 m2 F2' hs hn => ?_⟩
    · rw [atq_snoc, Fo.kid, hx]; exact h7
    · have hk := h8 w2 m2 F2' ((atq q n).2.put1 x m2) (fun k hk => hs k (by rcases hk with hk | hk <;> simp [hk])) hn (kids_put_some hok1 hx m2)
      have := h.2.2 w2 ((atq q n).1, (atq q n).2.put1 x m2) (b1 :: rowB (.slice (some ⟨g, 0, none⟩) ks.length cap) ++ (A0 ++ (F2' ++ B0))) (fun k hk => hs k (by rcases hk with hk | hk <;> simp [hk]))
        ⟨_, ks, _, rfl, (hs b1 (by simp)).trans h3, row_same h4 fun k hk => hs k (by simp [hk]), hk⟩
      rw [upd_snoc, upd_const]
      simpa using this
/-- .. and where one was laid. -/
theorem Lens.made (h : Lens w top b n q t1 b1 A F1 B) {x : By} (hx : (atq q n).2.sel x = none) : ∃ kv ks F0, F1 = b1 :: rowB kv ++ F0 ∧ ks.length = (atq q n).2.kids.length ∧ w.cell? ⟨b1, 4, none⟩ = some kv ∧ w.frozen? ⟨b1, 4, none⟩ = false ∧ Row w kv ks ∧ Has w b1 (nty t1) (ncs t1 (atq q n).1 kv) ∧
    ∃ A0 B0, F0 = A0 ++ B0 ∧ ∀ (w' : World) (kv' : Value) (b2 : Nat), (∀ k, k ∈ A ∨ k ∈ F0 ∨ k ∈ B → w'.heap[k]? = w.heap[k]?) → Has w' b1 (nty t1) (ncs t1 (atq q n).1 kv') → Row w' kv' (ks.take ((atq q n).2.idx x) ++ b2 :: ks.drop ((atq q n).2.idx x)) → Has w' b2 (nty none) (ncs none (fresh x : No TV).1 (.slice none 0 0)) →
      Lens w' top b n (q ++ [x]) none b2 (A ++ (b1 :: rowB kv' ++ A0)) [b2] (B0 ++ B) := by
  obtain ⟨kv, ks, F0, rfl, h3, h4, h5⟩ := h.1
  obtain ⟨A0, B0, rfl, h6⟩ := h5.ins (idx_le (atq q n).2 x)
  refine ⟨kv, ks, _, rfl, h5.len, by rw [h3.cell]; cases t1 <;> rfl, h3.free 4, h4, h3, A0, B0, rfl, fun w' kv' b2 hs hb hr hn => ?_⟩
  refine ⟨?_, fun k hk => ?_, fun w2 m2 F2' hs2 hn2 => ?_⟩
  · rw [atq_snoc, Fo.kid, hx]
    exact ⟨_, [], [], by simp [rowB, Value.ownBlock], hn, World.ownsRow_nil _ _ _ _, rfl, rfl⟩
  · have hpl := h.plain
    have old : ∀ j, j ∈ A ∨ j ∈ A0 ∨ j ∈ B0 ∨ j ∈ B → ∃ o, w'.heap[j]? = some o ∧ isBook o = false := fun j hj => by
      obtain ⟨o, ho, hb⟩ := hpl j (by rcases hj with hj | hj | hj | hj <;> simp [hj])
      exact ⟨o, (hs j (by rcases hj with hj | hj | hj | hj <;> simp [hj])).trans ho, hb⟩
    simp only [List.mem_append, List.mem_cons] at hk
    rcases hk with (hk | (rfl | hk) | hk) | hk | hk
    · exact old k (.inl hk)
    · exact ⟨_, hb, rfl⟩
    · exact plain_row hr k hk
    · exact old k (.inr (.inl hk))
    · exact old k (.inr (.inr (.inl hk)))
    · exact old k (.inr (.inr (.inr hk)))
  · have hk := h6 w2 b2 m2 F2' ((atq q n).2.put1 x m2) (fun k hk => by
      have hk' := List.mem_append.1 hk
      exact (hs2 k (by rcases hk' with hk | hk <;> simp [hk])).trans (hs k (.inr (.inl hk)))) hn2 (kids_put_none hx m2)
    have := h.2.2 w2 ((atq q n).1, (atq q n).2.put1 x m2) (b1 :: rowB kv' ++ (A0 ++ (F2' ++ B0))) (fun k hk => (hs2 k (by rcases hk with hk | hk <;> simp [hk])).trans (hs k (by rcases hk with hk | hk <;> simp [hk])))
      ⟨_, _, _, rfl, (hs2 b1 (by simp)).trans hb, row_same hr fun k hk => hs2 k (by simp [hk]), hk⟩
    rw [upd_snoc, upd_const]
    simpa using this
end
/-- no node has more kids than there are entries. -/
theorem sel_ents_le {f : Fo TV} {x : By} {m : No TV} (h : f.sel x = some m) : (nents m).length ≤ f.ents.length := by
  induction f with
  | nl => simp [Fo.sel] at h
  | cons r s n _ ih =>
    rw [Fo.sel] at h
    rw [ents_cons]
    split at h
    · injection h with h; subst h; simp
    · have := ih h; simp; omega
theorem atq_ents_le (q : List By) (n : No TV) : (nents (atq q n)).length ≤ (nents n).length := by
  induction q generalizing n with
  | nil => exact Nat.le_refl _
  | cons x q ih =>
    refine Nat.le_trans (ih _) ?_
    unfold Fo.kid
    cases hs : n.2.sel x with
    | none => simp [nents_fresh]
    | some m => have := sel_ents_le hs; unfold nents at *; simp at *; omega
theorem atq_kids_le {q : List By} {n : No TV} (h : ok n) : (atq q n).2.kids.length ≤ (nents n).length := by
  have h1 := kids_le (ok_atq q h).1
  have h2 := atq_ents_le q n
  unfold nents at *
  simp at *; omega
end Go.Proofs.Ytpnfkgjcnofjnaa.Ti
