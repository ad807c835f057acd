/- The node at a path of labels, which is made if there is none. -/
import Derived.Test.YtpnfkgjcnofjnaaTrDown
namespace Go.Proofs.Ytpnfkgjcnofjnaa.Ti
open Go.RowKit Go.Shelf Tr
attribute [local go_sem] Oper.semAt_some

theorem at_none {q : List By} {n : No TV} : ∀ {j : Nat}, dep q n ≤ j → ∀ (hj : j < q.length), (atq (q.take j) n).2.sel q[j] = none
  | 0, hd, hj => by
    have := dep_next (q := q) (n := n) (k := 0) (Nat.zero_le _) hj
    cases h : (atq (q.take 0) n).2.sel q[0] with
    | none => rfl
    | some m => have := this.1 (by rw [h]; rfl); omega
  | j + 1, hd, hj => by
    by_cases he : dep q n = j + 1
    · have := dep_next (q := q) (n := n) (k := j + 1) (by omega) hj
      cases h : (atq (q.take (j + 1)) n).2.sel q[j + 1] with
      | none => rfl
      | some m => have := this.1 (by rw [h]; rfl); omega
    · have h0 := at_none (q := q) (n := n) (j := j) (by omega) (by omega)
      rw [List.take_succ_eq_append_getElem (by omega : j < q.length), atq_snoc]
      unfold Fo.kid
      rw [h0]
      rfl
theorem nodup_made {A B A0 B0 R R' : List Nat} {b1 b2 M N : Nat} (h : (A ++ ((b1 :: R ++ (A0 ++ B0)) ++ B)).Nodup) (hR : R'.Nodup) (hn : ∀ k ∈ R', k ∈ R ∨ N ≤ k) (hM : ∀ k ∈ A ++ ((b1 :: R ++ (A0 ++ B0)) ++ B), k < M) (hb : M ≤ b2) (hN : b2 < N) :
    (A ++ (b1 :: R' ++ A0) ++ ([b2] ++ (B0 ++ B))).Nodup := by
  have hp : (A ++ (b1 :: R' ++ A0) ++ ([b2] ++ (B0 ++ B))).Perm (R' ++ b2 :: (A ++ b1 :: (A0 ++ (B0 ++ B)))) := List.perm_iff_count.2 fun a => by simp [List.count_append, List.count_cons]; omega
  have hp2 : (A ++ ((b1 :: R ++ (A0 ++ B0)) ++ B)).Perm (R ++ (A ++ b1 :: (A0 ++ (B0 ++ B)))) := List.perm_iff_count.2 fun a => by simp [List.count_append, List.count_cons]; omega
  have hL : ∀ k ∈ A ++ b1 :: (A0 ++ (B0 ++ B)), k < M := fun k hk => hM k (hp2.mem_iff.2 (by simp [hk]))
  have h2 := List.nodup_append.1 (hp2.nodup_iff.1 h)
  rw [hp.nodup_iff, List.nodup_append]
  refine ⟨hR, List.nodup_cons.2 ⟨fun hm => by have := hL b2 hm; omega, h2.2.1⟩, fun k hk j hj e => ?_⟩
  subst e
  rcases List.mem_cons.1 hj with rfl | hj
  · rcases hn _ hk with h3 | h3
    · have := hM _ (hp2.mem_iff.2 (List.mem_append_left _ h3)); omega
    · omega
  · rcases hn _ hk with h3 | h3
    · exact h2.2.2 _ h3 _ hj rfl
    · have := hL _ hj; omega
theorem rowB_nodup (v : Value) : (rowB v).Nodup := by unfold rowB; cases v.ownBlock <;> simp
theorem rd_only {W W' : World} {C : Nat} {A : Option Addr} {m c : Nat} {ls : List By} {S : List Nat} (h : Rd W C (.slice A m c) ls) (ho : Only S W W') (ha : ∀ g o, A = some ⟨g, o, none⟩ → g ∉ S) : Rd W' C (.slice A m c) ls := by
  obtain ⟨A', c', e, hc, hcell⟩ := h
  injection e with e1 e2 e3
  subst e1 e2 e3
  refine ⟨A, c, rfl, hc, fun h0 => ?_⟩
  obtain ⟨g, o, rfl, hg, hcs⟩ := hcell h0
  refine ⟨g, o, rfl, hg, fun j hj => ?_⟩
  have h1 := hcs j hj
  have hlt : g < W.heap.size := World.block_lt_of_cell? _ _ h1
  rw [← h1]
  exact World.cell?_of_block (ho.block g hlt (ha g o rfl))
theorem take_lab {ls : List By} {d0 m i : Nat} (hm : m = ls.length - d0) (hi : i < m) (h : d0 + i < ls.reverse.length) : (ls.take m).getD (m - 1 - i) [] = ls.reverse[d0 + i] := by
  have hl : m - 1 - i < ls.length := by omega
  have e1 : (ls.take m)[m - 1 - i]? = some (ls[m - 1 - i]'hl) := by rw [List.getElem?_take, if_pos (by omega), List.getElem?_eq_getElem hl]
  rw [List.getD, e1, List.getElem_reverse, Option.getD_some]
  congr 1
  omega
/-- between two rounds. -/
def AtI (w w3 : World) (top : Option Nat) (b : Nat) (n : No TV) (F : List Nat) (q : List By) (d0 zb : Nat) (v : Value) (ls : List By) (k : Nat) (W : World) : Prop :=
  ∃ t1 b1 A1 F1 B1, Lens W top b n (q.take (d0 + k)) t1 b1 A1 F1 B1 ∧ (A1 ++ (F1 ++ B1)).Nodup ∧ New w3 F (A1 ++ (F1 ++ B1)) ∧ Only F w W ∧ Has W w.heap.size 73 #[ptr b1] ∧ (Has W zb 75 #[v] ∧ Rd W w.heap.size v ls) ∧ w3.heap.size ≤ W.heap.size
theorem Only.book {S : List Nat} {a W W' : World} {C : Nat} (h : Only S a W) {row : Option Nat} (hg : W.grownBy W' row) (hr : ∀ r, row = some r → C ≤ r) (hC : a.heap.size ≤ C) : Only S a W' := h.grown hg fun r e => .inr (by have := hr r e; omega)
theorem AtI.book {w w3 : World} {top : Option Nat} {b : Nat} {n : No TV} {F : List Nat} {q : List By} {d0 zb : Nat} {v : Value} {ls : List By} {C : Nat} (hC : w.heap.size < C) (hz : zb < C) : Book C (AtI w w3 top b n F q d0 zb v ls) := by
  rintro k W W' row ⟨t1, b1, A1, F1, B1, h1, h2, h3, h4, h5, ⟨h6, h7⟩, h8⟩ hg hr
  exact ⟨t1, b1, A1, F1, B1, h1.book hg fun r e => (hr r e).2, h2, h3, h4.book hg (fun r e => (hr r e).1) (by omega), Has.grownB h5 hg (fun r e => by have := (hr r e).1; omega), ⟨Has.grownB h6 hg (fun r e => by have := (hr r e).1; omega), rd_grown h7 hg fun r e => (hr r e).2⟩, Nat.le_trans h8 hg.size⟩
/-- what a round has laid. -/
theorem at_round {w w3 W w5 W7 W8 : World} {top t1 : Option Nat} {b b1 : Nat} {n : No TV} {F A1 F1 B1 : List Nat} {q : List By} {x : By} {d0 zb m c k ix : Nat} {A : Option Addr} {ls : List By} {kv kv' : Value} {ks F0 A0 B0 : List Nat}
    (hL : Lens W top b n (q.take (d0 + k)) t1 b1 A1 F1 B1) (hnd : (A1 ++ (F1 ++ B1)).Nodup) (hnew : New w3 F (A1 ++ (F1 ++ B1))) (hon : Only F w W) (hbox : Has W w.heap.size 73 #[ptr b1]) (hzb : Has W zb 75 #[.slice A m c]) (hrd : Rd W w.heap.size (.slice A m c) ls)
    (hsz : w3.heap.size ≤ W.heap.size) (hw3 : w.heap.size < w3.heap.size ∧ zb < w3.heap.size ∧ w.heap.size < zb) (hF : ∀ j ∈ F, j < w.heap.size) (hap : ∀ g o, A = some ⟨g, o, none⟩ → g < w.heap.size ∧ g ∉ F)
    (htk : q.take (d0 + (k + 1)) = q.take (d0 + k) ++ [x]) (hb5 : Below W.heap.size W w5)
    (hF1 : F1 = b1 :: rowB kv ++ F0) (hF0 : F0 = A0 ++ B0) (hb1 : Has W b1 (nty t1) (ncs t1 (atq (q.take (d0 + k)) n).1 kv))
    (hmade : ∀ (w' : World) (kv' : Value) (b2 : Nat), (∀ k, k ∈ A1 ∨ k ∈ F0 ∨ k ∈ B1 → w'.heap[k]? = W.heap[k]?) → Has w' b1 (nty t1) (ncs t1 (atq (q.take (d0 + k)) n).1 kv') → Row w' kv' (ks.take ix ++ b2 :: ks.drop ix) → Has w' b2 (nty none) (ncs none (fresh x : No TV).1 (.slice none 0 0)) →
      Lens w' top b n (q.take (d0 + k) ++ [x]) none b2 (A1 ++ (b1 :: rowB kv' ++ A0)) [b2] (B0 ++ B1))
    (h7 : Below w5.heap.size w5 W7) (hz7 : w5.heap.size < W7.heap.size) (hn7 : Has W7 w5.heap.size (nty none) (ncs none (fresh x : No TV).1 (.slice none 0 0)))
    (hrow : Row W8 kv' (ks.take ix ++ w5.heap.size :: ks.drop ix)) (ho8 : Only (rowB kv) W7 W8) (hk8 : ∀ j ∈ rowB kv', j ∈ rowB kv ∨ W7.heap.size ≤ j) (lo : Nat) :
    KeepsR lo W ((W8.setCell ⟨b1, 4, none⟩ kv').setCell ⟨w.heap.size, 0, none⟩ (ptr w5.heap.size)) ∧
    AtI w w3 top b n F q d0 zb (.slice A m c) ls (k + 1) ((W8.setCell ⟨b1, 4, none⟩ kv').setCell ⟨w.heap.size, 0, none⟩ (ptr w5.heap.size)) := by
  have hlt := hL.lt
  have hrB : ∀ j ∈ rowB kv, j ∈ A1 ++ (F1 ++ B1) := fun j hj => by rw [hF1]; simp [hj]
  have hb1m : b1 ∈ A1 ++ (F1 ++ B1) := by rw [hF1]; simp
  have hfp : ∀ j ∈ A1 ++ (F1 ++ B1), j ≠ w.heap.size ∧ j ≠ zb := fun j hj => by
    rcases hnew j hj with h | h
    · have := hF j h; omega
    · omega
  have hb1r : b1 ∉ rowB kv := fun hm => by
    rw [hF1] at hnd
    have h1 := (List.nodup_append.1 hnd).2.1
    have h2 := (List.nodup_append.1 h1).1
    have h3 := (List.nodup_cons.1 h2).1
    exact h3 (by simp [hm])
  have hsz5 := hb5.size
  have hwl : w.heap.size < w5.heap.size := by omega
  have hoth : ∀ j, j < W.heap.size → j ∉ rowB kv → j ≠ b1 → j ≠ w.heap.size → ((W8.setCell ⟨b1, 4, none⟩ kv').setCell ⟨w.heap.size, 0, none⟩ (ptr w5.heap.size)).heap[j]? = W.heap[j]? := fun j hj h1 h2 h3 => by
    rw [heap_setCell_other _ _ _ _ h3]
    show (W8.setCell ⟨b1, 4, none⟩ kv').heap[j]? = _
    rw [heap_setCell_other _ _ _ _ h2, ho8.block j (by omega) h1]
    exact (h7.block j (by omega)).trans (hb5.block j hj)
  have hbx8 : Has W8 w.heap.size 73 #[ptr b1] := ho8.has (fun h => (hfp _ (hrB _ h)).1 rfl) ((hbox.below hb5 hbox.lt).below h7 (by omega))
  have hb18 : Has W8 b1 (nty t1) (ncs t1 (atq (q.take (d0 + k)) n).1 kv) := ho8.has hb1r ((hb1.below hb5 hb1.lt).below h7 (by have := hb1.lt; omega))
  have hrow' : Row ((W8.setCell ⟨b1, 4, none⟩ kv').setCell ⟨w.heap.size, 0, none⟩ (ptr w5.heap.size)) kv' (ks.take ix ++ w5.heap.size :: ks.drop ix) := row_same hrow fun j hj => by
    have h1 : j ≠ b1 ∧ j ≠ w.heap.size := by
      rcases hk8 j hj with h | h
      · exact ⟨fun e => hb1r (e ▸ h), (hfp j (hrB j h)).1⟩
      · have := hlt b1 hb1m; omega
    rw [heap_setCell_other _ _ _ _ h1.2]
    show (W8.setCell ⟨b1, 4, none⟩ kv').heap[j]? = _
    rw [heap_setCell_other _ _ _ _ h1.1]
  have hb1' : Has ((W8.setCell ⟨b1, 4, none⟩ kv').setCell ⟨w.heap.size, 0, none⟩ (ptr w5.heap.size)) b1 (nty t1) (ncs t1 (atq (q.take (d0 + k)) n).1 kv') := by
    have := hb18.set 4 kv'
    have h2 : Has (W8.setCell ⟨b1, 4, none⟩ kv') b1 (nty t1) (ncs t1 (atq (q.take (d0 + k)) n).1 kv') := by cases t1 <;> exact this
    exact h2.far (hfp b1 hb1m).1 _
  have hn' : Has ((W8.setCell ⟨b1, 4, none⟩ kv').setCell ⟨w.heap.size, 0, none⟩ (ptr w5.heap.size)) w5.heap.size (nty none) (ncs none (fresh x : No TV).1 (.slice none 0 0)) := by
    have h1 : Has W8 w5.heap.size (nty none) (ncs none (fresh x : No TV).1 (.slice none 0 0)) := ho8.has (fun h => by have := hlt _ (hrB _ h); omega) hn7
    have h2 : Has (W8.setCell ⟨b1, 4, none⟩ kv') w5.heap.size (nty none) (ncs none (fresh x : No TV).1 (.slice none 0 0)) := h1.far (p := ⟨b1, 4, none⟩) (by have := hlt b1 hb1m; show w5.heap.size ≠ b1; omega) _
    exact h2.far (by show w5.heap.size ≠ w.heap.size; omega) _
  have honly : Only (b1 :: w.heap.size :: rowB kv) W ((W8.setCell ⟨b1, 4, none⟩ kv').setCell ⟨w.heap.size, 0, none⟩ (ptr w5.heap.size)) := by
    have h1 : Only (b1 :: w.heap.size :: rowB kv) W W8 := ((Only.of_below hb5 (Nat.le_refl _) _).trans (Only.of_below h7 (Nat.le_refl _) _)).trans (ho8.mono fun i hi => by simp [hi])
    have h2 : Only (b1 :: w.heap.size :: rowB kv) W (W8.setCell ⟨b1, 4, none⟩ kv') := (h1.setCell (p := ⟨b1, 4, none⟩) (.inl (by simp)) _)
    exact h2.setCell (p := ⟨w.heap.size, 0, none⟩) (.inl (by simp)) _
  have hz8 : w5.heap.size < ((W8.setCell ⟨b1, 4, none⟩ kv').setCell ⟨w.heap.size, 0, none⟩ (ptr w5.heap.size)).heap.size := hn'.lt
  have hcells : ∀ j ∈ b1 :: w.heap.size :: rowB kv, ∀ o, W.heap[j]? = some o → isBook o = false := fun j hj o ho => by
    simp only [List.mem_cons] at hj
    rcases hj with rfl | rfl | hj
    · rw [hb1] at ho; cases ho; rfl
    · rw [hbox] at ho; cases ho; rfl
    · obtain ⟨o', ho', hb'⟩ := hL.plain j (hrB j hj)
      rw [ho] at ho'; cases ho'; exact hb'
  refine ⟨KeepsR.of_cells honly.size honly.block hcells, none, w5.heap.size, A1 ++ (b1 :: rowB kv' ++ A0), [w5.heap.size], B0 ++ B1, ?_, ?_, ?_, ?_, ?_, ⟨?_, ?_⟩, ?_⟩
  · rw [htk]
    refine hmade _ kv' _ (fun j hj => hoth j (hlt j ?_) ?_ ?_ ?_) hb1' hrow' hn'
    · rw [hF1]; rcases hj with hj | hj | hj <;> simp [hj]
    all_goals
      have hjm : j ∈ A1 ++ (F1 ++ B1) := by rw [hF1]; rcases hj with hj | hj | hj <;> simp [hj]
    · intro hm
      rw [hF1] at hnd
      have e : (A1 ++ (b1 :: rowB kv ++ F0 ++ B1)).Perm (rowB kv ++ (b1 :: (A1 ++ (F0 ++ B1)))) := List.perm_iff_count.2 fun a => by simp [List.count_append, List.count_cons]; omega
      exact (List.nodup_append.1 (e.nodup_iff.1 hnd)).2.2 _ hm _ (by rcases hj with hj | hj | hj <;> simp [hj]) rfl
    · rintro rfl
      rw [hF1] at hnd
      have e : (A1 ++ (j :: rowB kv ++ F0 ++ B1)).Perm (j :: (rowB kv ++ (A1 ++ (F0 ++ B1)))) := List.perm_iff_count.2 fun a => by simp [List.count_append, List.count_cons]; omega
      exact (List.nodup_cons.1 (e.nodup_iff.1 hnd)).1 (by rcases hj with hj | hj | hj <;> simp [hj])
    · exact (hfp j hjm).1
  · rw [hF1, hF0] at hnd hlt
    have := nodup_made hnd (rowB_nodup kv') hk8 hlt hsz5 hz7
    simpa using this
  · intro j hj
    simp only [List.mem_append, List.mem_cons, List.not_mem_nil, or_false] at hj
    have old : j ∈ A1 ++ (F1 ++ B1) → j ∈ F ∨ w3.heap.size ≤ j := hnew j
    rw [hF1, hF0] at old
    rcases hj with (hj | (hj | hj) | hj) | hj | hj | hj
    · exact old (by simp [hj])
    · exact old (by simp [hj])
    · rcases hk8 j hj with h | h
      · exact old (by simp [h])
      · exact .inr (by omega)
    · exact old (by simp [hj])
    · exact .inr (by omega)
    · exact old (by simp [hj])
    · exact old (by simp [hj])
  · refine hon.trans' honly fun j hj => ?_
    simp only [List.mem_cons] at hj
    rcases hj with rfl | rfl | hj
    · rcases hnew _ hb1m with h | h
      · exact .inl h
      · exact .inr (by omega)
    · exact .inr (Nat.le_refl _)
    · rcases hnew _ (hrB _ hj) with h | h
      · exact .inl h
      · exact .inr (by omega)
  · have h2 : Has (W8.setCell ⟨b1, 4, none⟩ kv') w.heap.size 73 #[ptr b1] := hbx8.far (p := ⟨b1, 4, none⟩) (fun e => (hfp b1 hb1m).1 e.symm) _
    exact h2.set 0 _
  · refine honly.has (fun h => ?_) hzb
    simp only [List.mem_cons] at h
    rcases h with h | h | h
    · exact (hfp b1 hb1m).2 h.symm
    · omega
    · exact (hfp _ (hrB _ h)).2 rfl
  · refine rd_only hrd honly fun g o e h => ?_
    obtain ⟨hg1, hg2⟩ := hap g o e
    simp only [List.mem_cons] at h
    rcases h with h | h | h
    · rcases hnew _ hb1m with h' | h'
      · exact hg2 (h ▸ h')
      · omega
    · omega
    · rcases hnew _ (hrB _ h) with h' | h'
      · exact hg2 h'
      · omega
  · have := honly.size; omega
set_option maxRecDepth 100000 in
set_option maxHeartbeats 2000000 in
theorem at_any {w : World} {top : Option Nat} {b : Nat} {n : No TV} {F : List Nat} (h : NodeM w top b n F) (hd : F.Nodup) (hok : ok n) (hN : (nents n).length ≤ 1099511627776) {A : Option Addr} {c : Nat} {ls : List By} (hv : Rd w w.heap.size (.slice A ls.length c) ls) (hap : ∀ g o, A = some ⟨g, o, none⟩ → g ∉ F) (hls : ls.length ≤ 1099511627776) :
    Calls Try.prog 43 #[ptr b, .slice A ls.length c] w fun e w' => ∃ t1 b1 A1 F1 B1, e = .returned (ptr b1) ∧ Lens w' top b n ls.reverse t1 b1 A1 F1 B1 ∧ (A1 ++ (F1 ++ B1)).Nodup ∧ New w F (A1 ++ (F1 ++ B1)) ∧ Only F w w' := by
  have hF := h.lt
  have hcl : ls.length ≤ c := by obtain ⟨_, _, e, hc, _⟩ := hv; injection e with _ _ e3; subst e3; exact hc
  have hdle := dep_le ls.reverse n
  rw [List.length_reverse] at hdle
  have hb0 : Below w.heap.size w (w.alloc (.cells #[ptr b] 73)) := (Below.refl _ w).alloc (Nat.le_refl _) _
  have hdown := down_any (h.below hb0 (Nat.le_refl _)) hok hN ((hv.keep hb0).mono (by simp : w.heap.size ≤ (w.alloc (.cells #[ptr b] 73)).heap.size)) hls
  have hbox := Has.fresh w 73 #[ptr b]
  have HDN := Lib.hid hdown
  have HBX := Lib.hid hbox
  have HV := Lib.hid (hv.keep hb0)
  have HOK := Lib.hid hok
  have HND := Lib.hid hd
  have HF := Lib.hid hF
  have HAP := Lib.hid hap
  have HK := Lib.hid (fun q : List By => Nat.le_trans (atq_kids_le (q := q) hok) hN)
  have HB0 := Lib.hid hb0
  obtain ⟨q, hq⟩ : ∃ q, q = ls.reverse := ⟨_, rfl⟩
  obtain ⟨d0, hd0⟩ : ∃ d0, d0 = dep ls.reverse n := ⟨_, rfl⟩
  have hwr : IntKind.i64.wrap ((ls.length : Int) - (d0 : Int)) = (ls.length : Int) - (d0 : Int) := by rw [IntKind.wrap_i64]; omega
  rw [← hd0, ← hq] at HDN
  rw [← hd0] at hdle
  rw [← hq]
  have HQ := Lib.hid hq
  have HD0 := Lib.hid hd0
  have HLS := Lib.hid hls
  have hs1 : (0 : Int) ≤ (ls.length : Int) - (d0 : Int) := by omega
  have hs2 : (ls.length : Int) - (d0 : Int) ≤ (c : Int) := by omega
  have hs3 : ((ls.length : Int) - (d0 : Int)).toNat = ls.length - d0 := by omega
  have mixed : Try.prog.follows .mixedOrders = true := by kernel_rfl
  refine (callsIn_wide (n := 4)).1 ?_
  refine callsIn_of_wp_marks Try.func43 rfl trivial ?_ rfl
  simp only [Try.ntmps43, List.size_toArray, List.length_cons, List.length_nil, Nat.reduceAdd, Nat.reduceSub, Array.replicate_succ, Array.replicate_zero, List.push_toArray, List.append_toArray, List.nil_append, List.cons_append]
  have hc1 : (w.alloc (.cells #[ptr b] 73)).cell? ⟨w.heap.size, 0, none⟩ = some (ptr b) := by rw [hbox.cell]; rfl
  have hf1 : (w.alloc (.cells #[ptr b] 73)).frozen? ⟨w.heap.size, 0, none⟩ = false := hbox.free 0
  clear hv h hok hN hb0 hF hls hd hap hdown hbox hq hd0
  gi_wp2_with (refine ⟨trivial, ?_⟩; gi_at_call 61; refine (callsIn_wide.2 HDN.out).mono ?_; rintro e w1 ⟨t1, b1, A1, F1, B1, rfl, hL1, hF1, hb1⟩; have HL1 := Lib.hid hL1; have HB1 := Lib.hid hb1; have hbx1 := HBX.out.below hb1 HBX.out.lt; have hc2 : w1.cell? ⟨w.heap.size, 0, none⟩ = some (ptr b) := (by rw [hbx1.cell]; rfl); have hf2 := hbx1.free 0; have HBX1 := Lib.hid hbx1; clear hL1 hb1 hbx1)
  gi_wp2_with (refine ⟨trivial, ?_⟩; gi_at_call 74; refine (callsIn_wide.2 (backward_any _ _ _ _)).mono ?_; rintro e w3 ⟨rfl, rfl⟩)
  have hz1 : w.heap.size + 1 ≤ w1.heap.size := by have := HB1.out.size; simpa using this
  have hb01 : Below w.heap.size w w1 := HB0.out.trans (HB1.out.mono (by simp))
  obtain ⟨m, hm⟩ : ∃ m, m = ls.length - d0 := ⟨_, rfl⟩
  obtain ⟨l', hl'⟩ : ∃ l', l' = ls.take m := ⟨_, rfl⟩
  have hll : l'.length = m := by rw [hl', List.length_take]; omega
  have hlab : ∀ i, i < m → ∀ h : d0 + i < q.length, l'.getD (m - 1 - i) [] = q[d0 + i] := fun i hi h => by
    have hq := HQ.out
    clear HQ HDN HL1 hll
    subst hq hl'
    exact take_lab hm hi h
  have hrd2 : Rd (w1.setCell ⟨w.heap.size, 0, none⟩ (ptr b1)) w.heap.size (.slice A l'.length c) l' := by
    have h1 := ((HV.out.keep (HB1.out.mono (by simp))).keep ((Below.refl w.heap.size w1).setCell (p := ⟨w.heap.size, 0, none⟩) (Nat.le_refl _) (ptr b1)))
    obtain ⟨A', c', e, hc, hcell⟩ := h1
    injection e with e1 e2 e3
    subst e1 e3
    refine ⟨A, c, rfl, by omega, fun h0 => ?_⟩
    obtain ⟨g, o, rfl, hg, hcs⟩ := hcell (by omega)
    refine ⟨g, o, rfl, hg, fun j hj => ?_⟩
    rw [hcs j (by omega)]
    simp [hl']
  have hap2 : ∀ g o, A = some ⟨g, o, none⟩ → 0 < l'.length → g < w.heap.size ∧ g ∉ F := fun g o e h0 => by
    obtain ⟨A', c', e', hc, hcell⟩ := hrd2
    injection e' with e1 e2 e3
    subst e1
    obtain ⟨g', o', e2, hg, _⟩ := hcell h0
    rw [e] at e2
    injection e2 with e2
    injection e2 with e2
    subst e2
    exact ⟨hg, HAP.out g o e⟩
  rw [← hm, ← hll]
  obtain ⟨w2, hw2⟩ : ∃ w2, w2 = w1.setCell ⟨w.heap.size, 0, none⟩ (ptr b1) := ⟨_, rfl⟩
  have hz2 : w2.heap.size = w1.heap.size := by rw [hw2]; simp
  have hbx2 : Has w2 w.heap.size 73 #[ptr b1] := by rw [hw2]; exact HBX1.out.set 0 _
  have hbl2 : Below w.heap.size w w2 := by rw [hw2]; exact hb01.setCell (p := ⟨w.heap.size, 0, none⟩) (Nat.le_refl _) _
  have hL2 : Lens w2 top b n (q.take d0) t1 b1 A1 F1 B1 := by rw [hw2]; exact HL1.out.grown (set_grown _ _ _ _) (fun r e => by cases e; exact Nat.le_refl _) (fun k hk => HF.out k (by rw [hF1] at hk; exact hk))
  rw [← hw2] at hrd2 ⊢
  have HRD := Lib.hid hrd2
  have HAP2 := Lib.hid hap2
  have HLAB := Lib.hid hlab
  have HLL := Lib.hid hll
  have HL2 := Lib.hid hL2
  have HBX2 := Lib.hid hbx2
  have HBL2 := Lib.hid hbl2
  have hqm : d0 + m = q.length := by have := HQ.out; rw [this, List.length_reverse]; omega
  have HQM := Lib.hid hqm
  have hm40 : m ≤ 1099511627776 := by have := HLS.out; omega
  clear hrd2 hap2 hlab hL2 hbx2 hbl2 hw2 hc1 hf1 hc2 hf2 hl' hb01 HBX1 HL1 HB1 HB0 HDN HV HBX hqm hm
  have hzb : w1.heap.size < (w2.alloc (.cells #[.slice A l'.length c] 75)).heap.size := by simp; omega
  refine wpIn_rangeFunc_R rfl (by omega) (gf := 92) (lb := #[.pointer (some ⟨w1.heap.size, 0, none⟩)]) rfl trivial (enters_of Try.func92 (by kernel_rfl) rfl)
    (back_seq 3 w1.heap.size (.slice A l'.length c) l' (by rw [hll]; omega) _) (fun _ => rfl)
    (AtI w (w2.alloc (.cells #[.slice A l'.length c] 75)) top b n F q d0 w1.heap.size (.slice A l'.length c) l') (fun _ _ _ => False)
    (AtI.book (by simp; omega) hzb) (fun _ _ _ _ _ h _ _ => h)
    (fun i W ⟨_, _, _, _, _, _, _, _, _, _, h, _⟩ => ⟨h.1, _, h.2⟩)
    ⟨t1, b1, A1, F1, B1, HL2.out.below ((Below.refl _ w2).alloc (Nat.le_refl _) _) (Nat.le_refl _), by rw [hF1]; exact HND.out, by rw [hF1]; exact New.refl _ _, Only.of_below (HBL2.out.alloc (by omega) _) (Nat.le_refl _) _, HBX2.out.alloc _,
      ⟨by have := Has.fresh w2 75 #[.slice A l'.length c]; rwa [hz2] at this, HRD.out.keep ((Below.refl _ w2).alloc (by omega) _)⟩, Nat.le_refl _⟩
    (fun i => { tmps := #[ptr b, .slice A ls.length c, .pointer (some ⟨w.heap.size, 0, none⟩), undef, .pointer none, .int .i64 d0, undef, sv (l'.getD (l'.length - 1 - i) []), undef, undef, undef, .tuple #[ptr b1, .int .i64 d0], ptr b, .slice A ls.length c, .tuple #[ptr b1, .int .i64 d0], ptr b1, .int .i64 d0, .slice A ls.length c, .slice A ls.length c, .int .i64 ls.length, .int .i64 d0, .int .i64 ((ls.length : Int) - d0), .slice A l'.length c, .func (.func 92) #[] #[.pointer (some ⟨w1.heap.size, 0, none⟩)],
      .int .i64 ((l'.length : Int) - 1 - i), sv (l'.getD (l'.length - 1 - i) []), undef, undef, undef, undef, undef, undef, undef, undef, undef, undef, undef, undef, undef, undef, undef, undef, undef, undef, undef, undef, undef, undef], defers := [] }) ?assign ?body ?done ?stop
  case assign =>
    clear hll
    intro l2 i W K hK
    unfold backV
    gi_wp2
    exact hK
  case body =>
    rintro l2 i W ⟨t1', b1', A1', F1', B1', hL, hnd, hnew, hon, hbox, ⟨hzb', hrd⟩, hsz⟩ hi
    rw [hll] at hi hzb' hrd hnew hsz
    have hqi : d0 + i < q.length := by have := HQM.out; omega
    have hlb := HLAB.out i hi hqi
    obtain ⟨x, hx⟩ : ∃ x : By, x = q[d0 + i] := ⟨_, rfl⟩
    rw [hll, hlb, ← hx]
    have hsel : (atq (q.take (d0 + i)) n).2.sel x = none := by
      rw [hx]
      exact at_none (by have := HD0.out; have := HQ.out; subst this; omega) hqi
    have htk : q.take (d0 + (i + 1)) = q.take (d0 + i) ++ [x] := by rw [show d0 + (i + 1) = d0 + i + 1 by omega, List.take_succ_eq_append_getElem hqi, hx]
    have hpl := place_any hL.node (ok_atq _ HOK.out).1 (⟨x.toArray⟩ : ByteArray) (by have := HK.out (q.take (d0 + i)); omega)
    simp only [hsel, Option.isSome_none] at hpl
    obtain ⟨kv, ks, F0, hF1', hks, k4, kf, hrow, hb1, A0, B0, hF0, hmade⟩ := hL.made hsel
    have c0 : W.cell? ⟨w.heap.size, 0, none⟩ = some (ptr b1') := by rw [hbox.cell]; rfl
    have HP := Lib.hid hpl
    have HL := Lib.hid hL
    have HND' := Lib.hid hnd
    have HNEW := Lib.hid hnew
    have HON := Lib.hid hon
    have HBOX := Lib.hid hbox
    have HZB := Lib.hid hzb'
    have HR := Lib.hid hrd
    have HK4 := Lib.hid k4
    have HROW := Lib.hid hrow
    have HB1 := Lib.hid hb1
    have HMADE := Lib.hid hmade
    have HTK := Lib.hid htk
    have HF1 := Lib.hid hF1'
    have HF0 := Lib.hid hF0
    have HSZ := Lib.hid hsz
    clear hpl hL hnd hnew hon hbox hzb' hrd k4 hrow hb1 hmade htk hF1' hF0 hsel hlb hx hsz hqi
    gi_wp2_with (refine ⟨trivial, ?_⟩; gi_at_call 75; refine (CallsIn.inRound l2 (callsIn_wide.2 HP.out)).mono ?_; rintro e w5 ⟨rfl, hb5⟩)
    obtain ⟨A4, cp4, rfl⟩ := own_form HROW.out
    generalize hix : (atq (q.take (d0 + i)) n).2.idx x = ix at *
    have hb1W : b1' < W.heap.size := HB1.out.lt
    have hk5 := (hb5.cell (p := ⟨b1', 4, none⟩) hb1W).trans HK4.out
    have c5 := (hb5.cell (p := ⟨w.heap.size, 0, none⟩) HBOX.out.lt).trans c0
    have HB5 := Lib.hid hb5
    obtain ⟨W6, hW6⟩ : ∃ W6, W6 = (w5.alloc (.cells #[sv x, .string ⟨#[]⟩, .int .i64 0, .bool false, .slice none 0 0] 70)).drew := ⟨_, rfl⟩
    have hS0 : (fun W' : World => W'.cell? ⟨w.heap.size, 0, none⟩ = some (ptr b1')) W6 := by
      have := (((Below.refl w5.heap.size w5).alloc (Nat.le_refl _) (.cells #[sv x, .string ⟨#[]⟩, .int .i64 0, .bool false, .slice none 0 0] 70)).cell (p := ⟨w.heap.size, 0, none⟩) (by have := HBOX.out.lt; have := hb5.size; show w.heap.size < w5.heap.size; omega)).trans c5
      rw [hW6]; exact this
    have hk6 : W6.cell? ⟨b1', 4, none⟩ = some (.slice A4 ks.length cp4) := by
      have := (((Below.refl w5.heap.size w5).alloc (Nat.le_refl _) (.cells #[sv x, .string ⟨#[]⟩, .int .i64 0, .bool false, .slice none 0 0] 70)).cell (p := ⟨b1', 4, none⟩) (by have := hb5.size; show b1' < w5.heap.size; omega)).trans hk5
      rw [hW6]; exact this
    have hz6 : W6.heap.size = w5.heap.size + 1 := by rw [hW6]; simp
    refine wpIn_region_S2 (S := fun W' => W'.cell? ⟨w.heap.size, 0, none⟩ = some (ptr b1')) mixed 12 #[false, false, false, false, false, false, false, false, false, false, false, false] rfl rfl ?_
    rw [← hW6]
    have HW6 := Lib.hid hW6
    clear hW6 hk5 c5 hb5
    refine wpAnyS_take (i := 0) (v := ptr b1') rfl (by kernel_rfl) (by kernel_rfl) (by kernel_rfl) (by kernel_rfl) (fun _ _ _ h => h) ⟨Or.inl ⟨by rfl, fun W' hW' => (by have := hW'; go_simp)⟩, rfl, fun _ => rfl⟩ hS0 ?_
    simp only [Act.put, List.setIfInBounds_toArray, List.set_cons_zero]
    refine wpAnyS_take (i := 1) (v := ptr b1') rfl (by kernel_rfl) (by kernel_rfl) (by kernel_rfl) (by kernel_rfl) (fun _ _ _ h => h) ⟨Or.inl ⟨by rfl, fun W' hW' => (by have := hW'; go_simp)⟩, rfl, fun _ => rfl⟩ hS0 ?_
    simp only [Act.put, List.setIfInBounds_toArray, List.set_cons_zero, List.set_cons_succ]
    refine wpAnyS_take (i := 2) (v := .pointer (some ⟨b1', 0, none⟩)) rfl (by kernel_rfl) (by kernel_rfl) (by kernel_rfl) (by kernel_rfl) (fun _ _ _ h => h) ⟨Or.inl ⟨by rfl, fun W' hW' => (by go_simp)⟩, rfl, fun _ => rfl⟩ hS0 ?_
    simp only [Act.put, List.setIfInBounds_toArray, List.set_cons_zero, List.set_cons_succ]
    refine wpAnyS_take (i := 3) (v := .pointer (some ⟨b1', 4, none⟩)) rfl (by kernel_rfl) (by kernel_rfl) (by kernel_rfl) (by kernel_rfl) (fun _ _ _ h => h) ⟨Or.inl ⟨by rfl, fun W' hW' => (by go_simp)⟩, rfl, fun _ => rfl⟩ hS0 ?_
    simp only [Act.put, List.setIfInBounds_toArray, List.set_cons_zero, List.set_cons_succ]
    refine wpAnyS_take (i := 5) (v := .int .i64 (ix : Nat)) rfl (by kernel_rfl) (by kernel_rfl) (by kernel_rfl) (by kernel_rfl) (fun _ _ _ h => h) ⟨Or.inl ⟨by rfl, fun W' hW' => (by go_simp)⟩, rfl, fun _ => rfl⟩ hS0 ?_
    simp only [Act.put, List.setIfInBounds_toArray, List.set_cons_zero, List.set_cons_succ]
    refine wpAnyS_take (i := 6) (v := ptr w5.heap.size) rfl (by kernel_rfl) (by kernel_rfl) (by kernel_rfl) (by kernel_rfl) (fun _ _ _ h => h) ⟨Or.inl ⟨by rfl, fun W' hW' => (by go_simp)⟩, rfl, fun _ => rfl⟩ hS0 ?_
    simp only [Act.put, List.setIfInBounds_toArray, List.set_cons_zero, List.set_cons_succ]
    have hixl : ix ≤ ks.length := by rw [hks, ← hix]; exact idx_le _ _
    have hF7 : Has (W6.alloc (.cells #[ptr w5.heap.size] 73)) (w5.heap.size + 1) 73 #[ptr w5.heap.size] := by have := Has.fresh W6 73 #[ptr w5.heap.size]; rwa [hz6] at this
    have h67 : Below w5.heap.size w5 (W6.alloc (.cells #[ptr w5.heap.size] 73)) := by rw [HW6.out]; exact (((Below.refl w5.heap.size w5).alloc (Nat.le_refl _) _).drew).alloc (by simp) _
    have hrow7 : Row (W6.alloc (.cells #[ptr w5.heap.size] 73)) (.slice A4 ks.length cp4) ks := row_same HROW.out fun j hj => (h67.block j (by have := row_lt HROW.out j hj; have := HB5.out.size; omega)).trans (HB5.out.block j (row_lt HROW.out j hj))
    have hins := insert_any hrow7 w5.heap.size hixl hF7 (fun h => by have := row_lt HROW.out _ h; have := HB5.out.size; omega) (by rw [hks]; exact HK.out _)
    have hS7 : (W6.alloc (.cells #[ptr w5.heap.size] 73)).cell? ⟨w.heap.size, 0, none⟩ = some (ptr b1') := by
      have := ((Below.refl W6.heap.size W6).alloc (Nat.le_refl _) (.cells #[ptr w5.heap.size] 73)).cell (p := ⟨w.heap.size, 0, none⟩) (World.block_lt_of_cell? _ _ hS0)
      exact this.trans hS0
    have hk7 : (W6.alloc (.cells #[ptr w5.heap.size] 73)).cell? ⟨b1', 4, none⟩ = some (.slice A4 ks.length cp4) := by
      have := ((Below.refl W6.heap.size W6).alloc (Nat.le_refl _) (.cells #[ptr w5.heap.size] 73)).cell (p := ⟨b1', 4, none⟩) (World.block_lt_of_cell? _ _ hk6)
      exact this.trans hk6
    have HINS := Lib.hid hins
    have HS7 := Lib.hid hS7
    have H67 := Lib.hid h67
    have hfp : ∀ j ∈ A1' ++ (F1' ++ B1'), j ≠ w.heap.size := fun j hj => by
      rcases HNEW.out j hj with h | h
      · have := HF.out j h; omega
      · have h2 : w2.heap.size + 1 ≤ j := by simpa using h
        omega
    have hb1m : b1' ∈ A1' ++ (F1' ++ B1') := by rw [HF1.out]; simp
    have HB1N : Hid (w.heap.size ≠ b1') := fun e => hfp b1' hb1m e.symm
    have HBR : Hid (w.heap.size ∉ rowB (.slice A4 ks.length cp4)) := fun hm => hfp _ (by rw [HF1.out]; simp [hm]) rfl
    have HB1R : Hid (b1' ∉ rowB (.slice A4 ks.length cp4)) := fun hm => by
      have h := HND'.out
      rw [HF1.out] at h
      have h3 := (List.nodup_cons.1 (List.nodup_append.1 (List.nodup_append.1 h).2.1).1).1
      exact h3 (by simp [hm])
    have HBX7 := Lib.hid ((HBOX.out.below HB5.out HBOX.out.lt).below h67 (by have := HBOX.out.lt; have := HB5.out.size; omega))
    have HB17 := Lib.hid ((HB1.out.below HB5.out HB1.out.lt).below h67 (by have := HB1.out.lt; have := HB5.out.size; omega))
    have hxe := hix
    have HIX := Lib.hid hxe
    clear hins hrow7 hF7 h67 hks hix hxe hfp hb1m
    refine wpAnyS_ready (rs := [4, 7]) (by kernel_rfl) (by simp) ?_
    refine AllS.cons rfl rfl (fun K hK => ?_) (AllS.cons rfl rfl (fun K hK => ?_) AllS.nil)
    · go_simp
      refine hK _ _ hS0 ?_
      clear hK K
      refine wpAnyS_ready (rs := [7]) (by kernel_rfl) (by simp) (AllS.cons rfl rfl (fun K hK => ?_) AllS.nil)
      go_simp
      refine hK _ _ HS7.out ?_
      clear hK K
      refine wpAnyS_ready (rs := [8]) (by kernel_rfl) (by simp) (AllS.cons rfl rfl (fun K hK => ?_) AllS.nil)
      go_simp
      refine ⟨trivial, (CallsIn.inRound l2 (callsIn_wide.2 HINS.out)).mono ?_⟩
      rintro e w8 ⟨kv', rfl, hrow8, ho8, hk8⟩
      obtain ⟨A8, cp8, hkv⟩ := own_form hrow8
      obtain ⟨n8, hn8⟩ : ∃ n8, n8 = (ks.take ix ++ w5.heap.size :: ks.drop ix).length := ⟨_, rfl⟩
      rw [← hn8] at hkv
      subst hkv
      clear hn8
      have hbx8 := ho8.has HBR.out (HBX7.out)
      have hb18 := ho8.has HB1R.out HB17.out
      have c8 : w8.cell? ⟨w.heap.size, 0, none⟩ = some (ptr b1') := by rw [hbx8.cell]; rfl
      have k8 : w8.cell? ⟨b1', 4, none⟩ = some (.slice A4 ks.length cp4) := by rw [hb18.cell]; cases t1' <;> rfl
      have f8 := hb18.free 4
      have HR8 := Lib.hid hrow8
      have HO8 := Lib.hid ho8
      have HK8 := Lib.hid hk8
      have hbx9 : Has (w8.setCell ⟨b1', 4, none⟩ (.slice A8 n8 cp8)) w.heap.size 73 #[ptr b1'] := hbx8.far (p := ⟨b1', 4, none⟩) HB1N.out _
      have c9 : (w8.setCell ⟨b1', 4, none⟩ (.slice A8 n8 cp8)).cell? ⟨w.heap.size, 0, none⟩ = some (ptr b1') := by rw [hbx9.cell]; rfl
      have f9 := hbx9.free 0
      clear hrow8 ho8 hk8 hbx8 hb18 hbx9
      refine hK _ _ c8 ?_
      clear hK K
      refine wpAnyS_ready (rs := [9]) (by kernel_rfl) (by simp) (AllS.cons rfl rfl (fun K hK => ?_) AllS.nil)
      go_simp
      refine hK _ _ c8 ?_
      clear hK K
      refine wpAnyS_ready (rs := [10]) (by kernel_rfl) (by simp) (AllS.cons rfl rfl (fun K hK => ?_) AllS.nil)
      go_simp
      refine hK _ _ c8 ?_
      clear hK K
      refine wpAnyS_ready (rs := [11]) (by kernel_rfl) (by simp) (AllS.cons rfl rfl (fun K hK => ?_) AllS.nil)
      go_simp
      refine hK _ _ c9 ?_
      clear hK K
      refine wpAnyS_done (by kernel_rfl) ?_ _
      gi_wp2
      exact at_round HL.out HND'.out HNEW.out HON.out HBOX.out HZB.out HR.out HSZ.out ⟨by simp; omega, by simp; omega, by omega⟩ HF.out (fun g o e => HAP2.out g o e (by rw [hll]; omega)) HTK.out HB5.out HF1.out HF0.out HB1.out HMADE.out H67.out (by simp; omega) (by have := Has.fresh w5 70 #[sv x, .string ⟨#[]⟩, .int .i64 0, .bool false, .slice none 0 0]; rw [HW6.out]; exact this.alloc _) HR8.out HO8.out HK8.out _
    · go_simp
      refine hK _ _ HS7.out ?_
      clear hK K
      refine wpAnyS_ready (rs := [4]) (by kernel_rfl) (by simp) (AllS.cons rfl rfl (fun K hK => ?_) AllS.nil)
      go_simp
      refine hK _ _ HS7.out ?_
      clear hK K
      refine wpAnyS_ready (rs := [8]) (by kernel_rfl) (by simp) (AllS.cons rfl rfl (fun K hK => ?_) AllS.nil)
      go_simp
      refine ⟨trivial, (CallsIn.inRound l2 (callsIn_wide.2 HINS.out)).mono ?_⟩
      rintro e w8 ⟨kv', rfl, hrow8, ho8, hk8⟩
      obtain ⟨A8, cp8, hkv⟩ := own_form hrow8
      obtain ⟨n8, hn8⟩ : ∃ n8, n8 = (ks.take ix ++ w5.heap.size :: ks.drop ix).length := ⟨_, rfl⟩
      rw [← hn8] at hkv
      subst hkv
      clear hn8
      have hbx8 := ho8.has HBR.out (HBX7.out)
      have hb18 := ho8.has HB1R.out HB17.out
      have c8 : w8.cell? ⟨w.heap.size, 0, none⟩ = some (ptr b1') := by rw [hbx8.cell]; rfl
      have k8 : w8.cell? ⟨b1', 4, none⟩ = some (.slice A4 ks.length cp4) := by rw [hb18.cell]; cases t1' <;> rfl
      have f8 := hb18.free 4
      have HR8 := Lib.hid hrow8
      have HO8 := Lib.hid ho8
      have HK8 := Lib.hid hk8
      have hbx9 : Has (w8.setCell ⟨b1', 4, none⟩ (.slice A8 n8 cp8)) w.heap.size 73 #[ptr b1'] := hbx8.far (p := ⟨b1', 4, none⟩) HB1N.out _
      have c9 : (w8.setCell ⟨b1', 4, none⟩ (.slice A8 n8 cp8)).cell? ⟨w.heap.size, 0, none⟩ = some (ptr b1') := by rw [hbx9.cell]; rfl
      have f9 := hbx9.free 0
      clear hrow8 ho8 hk8 hbx8 hb18 hbx9
      refine hK _ _ c8 ?_
      clear hK K
      refine wpAnyS_ready (rs := [9]) (by kernel_rfl) (by simp) (AllS.cons rfl rfl (fun K hK => ?_) AllS.nil)
      go_simp
      refine hK _ _ c8 ?_
      clear hK K
      refine wpAnyS_ready (rs := [10]) (by kernel_rfl) (by simp) (AllS.cons rfl rfl (fun K hK => ?_) AllS.nil)
      go_simp
      refine hK _ _ c8 ?_
      clear hK K
      refine wpAnyS_ready (rs := [11]) (by kernel_rfl) (by simp) (AllS.cons rfl rfl (fun K hK => ?_) AllS.nil)
      go_simp
      refine hK _ _ c9 ?_
      clear hK K
      refine wpAnyS_done (by kernel_rfl) ?_ _
      gi_wp2
      exact at_round HL.out HND'.out HNEW.out HON.out HBOX.out HZB.out HR.out HSZ.out ⟨by simp; omega, by simp; omega, by omega⟩ HF.out (fun g o e => HAP2.out g o e (by rw [hll]; omega)) HTK.out HB5.out HF1.out HF0.out HB1.out HMADE.out H67.out (by simp; omega) (by have := Has.fresh w5 70 #[sv x, .string ⟨#[]⟩, .int .i64 0, .bool false, .slice none 0 0]; rw [HW6.out]; exact this.alloc _) HR8.out HO8.out HK8.out _
  case done =>
    rintro D W hD0 ⟨t1', b1', A1', F1', B1', hL, hnd, hnew, hon, hbox, _, hsz⟩ hKd
    have hq : q.take (d0 + l'.length) = q := by rw [hll, HQM.out]; exact List.take_length
    rw [hq] at hL
    have c0 : W.cell? ⟨w.heap.size, 0, none⟩ = some (ptr b1') := by rw [hbox.cell]; rfl
    simp only [World.size_alloc] at hD0
    have HL := Lib.hid hL
    have HNEW := Lib.hid hnew
    have HON := Lib.hid hon
    have HND' := Lib.hid hnd
    clear hL hnew hon hbox hnd hq
    gi_wp2
    refine ⟨by simp, .inl ⟨_, _, rfl, run_takeDeferred hKd, ?_⟩⟩
    refine ⟨_, results_tmp rfl _ _ _, t1', b1', A1', F1', B1', rfl, HL.out.book (grownBy_putObj' _ D (.deferred none)) (fun r e => by cases e; exact ⟨_, hKd, rfl⟩), HND'.out, fun k hk => ?_, HON.out.book (C := D) (grownBy_putObj' _ D (.deferred none)) (fun r e => by cases e; exact Nat.le_refl _) (by omega)⟩
    · rcases HNEW.out k hk with h | h
      · exact .inl h
      · exact .inr (by have : w2.heap.size + 1 ≤ k := by simpa using h
                       omega)
  case stop =>
    rintro D cd i W _ h _
    exact h.elim
end Go.Proofs.Ytpnfkgjcnofjnaa.Ti
