/- The statements' own all and below: what is told, in a list. -/
import Derived.Test.YtpnfkgjcnofjnaaLwIs
namespace Go.Proofs.Ytpnfkgjcnofjnaa.Ti
open Go.RowKit Go.Shelf Tr
attribute [local go_sem] Oper.semAt_some

set_option maxRecDepth 100000 in
theorem info_rpair : ∃ i z, Try.prog.info? 48 = some i ∧ i.zero = some z ∧ i.size = 2 ∧ i.bytes = 24 ∧ z.cells.size = 2 := by
  refine ⟨_, _, rfl, rfl, ?_, ?_, ?_⟩ <;> kernel_rfl
/-- a list of pairs, the call's own. -/
abbrev PRow (W : World) (base : Nat) (v : Value) (L : List (By × TV)) : Prop := W.ownsRow base 48 2 v L.length (fl pc L)
/-- a list that grows, in its box; B: the heap's end ahead of the box. -/
structure ClB (w1 W : World) (B : Nat) (v : Value) (L : List (By × TV)) : Prop where
  box : Has W B 27 #[v]
  row : PRow W (B + 1) v L
  bel : Below w1.heap.size w1 W
def ClT (B : Nat) (v : Value) (q : Nat) : Prop := q = B ∨ v.ownBlock = some q
theorem ClB.chg {w1 A X : World} {B : Nat} {v : Value} {L : List (By × TV)} {m : Nat} {T : Bl} (h : ClB w1 A B v L) (hc : Chg m T A X) (hm : B < m) (hw : w1.heap.size ≤ m) (hT : ∀ q, T q ↔ ClT B v q) : ClB w1 X B v L :=
  ⟨(hc.block _ h.box.lt (.inl hm)).trans h.box, ownK_same h.row fun q hq => hc.block q (h.row.lt q hq).2 (.inr ((hT q).2 (.inr hq))),
   hc.os.trans h.bel.os, hc.tape.trans h.bel.tape, hc.output.trans h.bel.output, Nat.le_trans h.bel.size hc.size, fun k hk => (hc.block k (Nat.lt_of_lt_of_le hk h.bel.size) (.inl (by omega))).trans (h.bel.block k hk)⟩
/-- one pair more. -/
theorem ClB.more {w1 Y : World} {B : Nat} {v : Value} {L : List (By × TV)} (hB : ClB w1 Y B v L) (hw : w1.heap.size ≤ B) (hlen : L.length ≤ 1000000) (kv : By × TV) {T : Bl} (hT : ∀ q, T q ↔ ClT B v q) :
    ∃ A2 c2 w2, (Builtin.append_ #[27, 27] 27 #[v, .slice (some ⟨Y.heap.size, 0, none⟩) 1 1]).run Try.prog (Y.alloc (.cells #[sv kv.1, tz kv.2] 48)) = .ok (.slice A2 (L.length + 1) c2) w2 ∧
      w2.cell? ⟨B, 0, none⟩ = some v ∧ w2.frozen? ⟨B, 0, none⟩ = false ∧ ClB w1 (w2.setCell ⟨B, 0, none⟩ (.slice A2 (L.length + 1) c2)) B (.slice A2 (L.length + 1) c2) (L ++ [kv]) ∧
      FrS T Y (w2.setCell ⟨B, 0, none⟩ (.slice A2 (L.length + 1) c2)) ∧ ∀ q, ClT B (.slice A2 (L.length + 1) c2) q → T q ∨ Y.heap.size ≤ q := by
  obtain ⟨i4, z4, hi4, hz4, hs4, hb4, hc4⟩ := info_rpair
  have hbl := hB.box.lt
  obtain ⟨v2, w2, hr, ho, hgw, hv⟩ := run_append_where (P := Try.prog) (w := Y.alloc (.cells #[sv kv.1, tz kv.2] 48)) (B + 1) 27 27 48 i4 z4 2 24 Try.underlying27 hi4 hz4 hs4 hb4 hc4 (by decide) v L.length (fl pc L)
    (hB.row.alloc _) ⟨Y.heap.size, 0, none⟩ 1 1 (pc kv) rfl (fun i u hu => by rw [addr_add, Nat.zero_add, (Has.fresh Y 48 #[sv kv.1, tz kv.2]).cell i]; simpa [pc] using hu) (pc_one kv) (by decide) (by unfold maxLen; omega) (by omega) (by simp; omega)
  obtain ⟨ad2, cp2, hv2, _⟩ := ownK_form ho
  subst hv2
  have hne : ∀ q, v.ownBlock = some q → B + 1 ≤ q ∧ q < Y.heap.size := fun q hq => hB.row.lt q hq
  have hbx2 : Has w2 B 27 #[v] := Has.grown (hB.box.alloc _) hgw (fun e => by have := (hne _ e.symm).1; omega)
  refine ⟨ad2, cp2, w2, hr, by rw [hbx2.cell]; rfl, hbx2.free 0, ⟨hbx2.set 0 _, ?_, ?_⟩, ?_, fun q hq => ?_⟩
  · unfold PRow
    rw [List.length_append, List.length_singleton, fl_append, fl_one]
    exact ownK_same ho fun q hq => heap_setCell_other _ ⟨B, 0, none⟩ q _ (fun e => by have := (ho.lt q hq).1; simp at e; omega)
  · exact ((hB.bel.alloc hB.bel.size _).grown hgw (by have := hB.bel.size; simp; omega) (fun q e => by have := (hne q e).1; omega)).setCell (p := ⟨B, 0, none⟩) hw _
  · refine FrS.setCell (p := ⟨B, 0, none⟩) ?_ (.inl ((hT _).2 (.inl rfl))) _
    exact ⟨hgw.os, hgw.tape, hgw.output, by have := hgw.size; simp at this; omega, fun k hk hS => (hgw.block k (by simp; omega) (fun e => hS ((hT k).2 (.inr e.symm)))).trans (Below.heap_alloc Y _ k hk)⟩
  · rcases hq with hq | hq
    · exact .inl ((hT q).2 (.inl hq))
    · rcases hv with e | e
      · exact .inl ((hT q).2 (.inr (by rw [← e]; exact hq)))
      · rw [e] at hq; injection hq with hq; simp at hq; exact .inr (by omega)
set_option maxRecDepth 100000 in
set_option maxHeartbeats 2000000 in
theorem lawAll_any {w : World} {b : Nat} {n : No TV} {F : List Nat} (h : TM w b n F) :
    Calls Try.prog 20 #[ptr b] w fun e w' => ∃ v, e = .returned v ∧ PRow w' w.heap.size v (belowL n [0]) ∧ Below w.heap.size w w' := by
  have hlen : (belowL n [0]).length ≤ 1000000 := by
    unfold belowL
    split
    · rw [List.length_map]; exact Nat.le_trans (List.length_filter_le _ _) h.few
    · simp
  obtain ⟨L, hL⟩ : ∃ L, L = belowL n [0] := ⟨_, rfl⟩
  rw [← hL] at hlen ⊢
  have hw1 : Below w.heap.size w (w.alloc (.cells #[.slice none 0 0] 27)) := (Below.refl _ w).alloc (Nat.le_refl _) _
  have hw2 : Below w.heap.size w ((w.alloc (.cells #[.slice none 0 0] 27)).alloc (.cells #[ptr b] 24)) := hw1.alloc (by simp) _
  have hw3 : Below w.heap.size w (((w.alloc (.cells #[.slice none 0 0] 27)).alloc (.cells #[ptr b] 24)).alloc (.cells #[.string ⟨#[0]⟩] 28)) := hw2.alloc (by simp; omega) _
  refine (callsIn_wide (n := 9)).1 ?_
  refine callsIn_of_wp_marks Try.func20 rfl trivial ?_ rfl
  simp only [Try.ntmps20, List.size_toArray, List.length_cons, List.length_nil, Nat.reduceAdd, Nat.reduceSub, Array.replicate_succ, Array.replicate_zero, List.push_toArray, List.append_toArray, List.nil_append, List.cons_append]
  gi_wp2_with (refine ⟨trivial, ?_⟩; gi_at_call 33; refine (callsIn_wide.2 (All_any b _)).mono ?_; rintro e w5 ⟨rfl, rfl⟩)
  have hb1 : Has (((w.alloc (.cells #[.slice none 0 0] 27)).alloc (.cells #[ptr b] 24)).alloc (.cells #[.string ⟨#[0]⟩] 28)) (w.heap.size + 1) 24 #[ptr b] := by
    have := (Has.fresh (w.alloc (.cells #[.slice none 0 0] 27)) 24 #[ptr b]).alloc (.cells #[.string ⟨#[0]⟩] 28)
    simpa only [World.size_alloc] using this
  have hb2 : Has (((w.alloc (.cells #[.slice none 0 0] 27)).alloc (.cells #[ptr b] 24)).alloc (.cells #[.string ⟨#[0]⟩] 28)) (w.heap.size + 1 + 1) 28 #[.string ⟨#[0]⟩] := by
    have := Has.fresh ((w.alloc (.cells #[.slice none 0 0] 27)).alloc (.cells #[ptr b] 24)) 28 #[.string ⟨#[0]⟩]
    simpa only [World.size_alloc] using this
  have hseq := below_seq (h.below hw3 (Nat.le_refl _)) ⟨#[0]⟩ (by decide) hb1 hb2 8 L hL
  have hB5 : ClB w (((w.alloc (.cells #[.slice none 0 0] 27)).alloc (.cells #[ptr b] 24)).alloc (.cells #[.string ⟨#[0]⟩] 28)) w.heap.size (.slice none 0 0) [] := ⟨((Has.fresh w _ _).alloc _).alloc _, ⟨by simp [fl], .inl ⟨rfl, rfl⟩⟩, hw3⟩
  obtain ⟨X5, hX5⟩ : ∃ X5, X5 = (((w.alloc (.cells #[.slice none 0 0] 27)).alloc (.cells #[ptr b] 24)).alloc (.cells #[.string ⟨#[0]⟩] 28)) := ⟨_, rfl⟩
  have hz5 : X5.heap.size = w.heap.size + 3 := by rw [hX5]; simp
  rw [← hX5] at hseq hB5 ⊢
  clear hX5 hw1 hw2 hw3 hb1 hb2 h hL
  refine wpIn_rangeFunc_S (D := fun _ => True) (N := L.length) rfl (by omega) (gf := 81) (lb := #[.pointer (some ⟨w.heap.size + 1, 0, none⟩), .pointer (some ⟨w.heap.size + 1 + 1, 0, none⟩)]) rfl trivial (enters_of Try.func81 (by kernel_rfl) rfl)
    hseq (fun _ => rfl)
    (fun j T Y => ∃ v, (∀ q, T q ↔ ClT w.heap.size v q) ∧ ClB w Y w.heap.size v (L.take j))
    (fun _ _ _ _ => False)
    (ClT w.heap.size (.slice none 0 0)) ?hI ?hIx ?hD ?hDx ?hB ?h0 ?a1 ?assign ?body ?done ?stop
  case hI =>
    rintro j T Y Z ⟨v, hT, hB⟩ hc
    exact ⟨v, hT, hB.chg hc (by omega) (by omega) hT⟩
  case hIx => exact fun _ _ _ _ _ h _ => h
  case hD => exact fun _ _ _ _ => trivial
  case hDx => exact fun _ _ _ _ _ => trivial
  case hB =>
    rintro j T Y ⟨v, hT, hB⟩ q hq
    rcases (hT q).1 hq with h1 | h1
    · have := hB.box.lt; omega
    · exact (hB.row.lt q h1).2
  case h0 => exact ⟨_, fun q => Iff.rfl, hB5⟩
  case assign =>
    intro l2 j Y K hK
    unfold encL
    gi_wp2
    exact hK
  case body =>
    rintro l2 j T Y ⟨v, hT, hB⟩ hj hl2
    obtain ⟨kv, hkv⟩ : ∃ kv : By × TV, L[j]?.getD ([], 0) = kv := ⟨_, rfl⟩
    have hkv2 : L[j] = kv := by rw [← hkv]; simp [hj]
    have htk : L.take (j + 1) = L.take j ++ [kv] := by rw [List.take_succ_eq_append_getElem hj, hkv2]
    simp only [hkv]
    have hlj : (L.take j).length ≤ 1000000 := by rw [List.length_take]; omega
    have c0 : Y.cell? ⟨w.heap.size, 0, none⟩ = some v := by rw [hB.box.cell]; rfl
    obtain ⟨A2, c2, w2, hr, c2', f2, hB2, hfr, hsub⟩ := hB.more (Nat.le_refl _) hlj kv hT
    obtain ⟨n2, hn2⟩ : ∃ n2, n2 = (L.take j).length + 1 := ⟨_, rfl⟩
    rw [← hn2] at hr hB2 hfr hsub
    have HB2 := Lib.hid hB2
    have HTK := Lib.hid htk
    have HFR := Lib.hid hfr
    have HSUB := Lib.hid hsub
    clear hkv hkv2 hB htk hB2 hfr hn2 hlj hT hj hsub
    gi_wp2_with (gi_at_builtin; refine wpListIn_append_at rfl (.tmp 10) (.tmp 14) _ rfl _ _ rfl rfl hr ?_; clear hr c0)
    exact ⟨_, ⟨_, fun q => Iff.rfl, by rw [HTK.out]; exact HB2.out⟩, HFR.out, HSUB.out⟩
  case done =>
    rintro D T Y hD0 ⟨v, hT, hB⟩ hfr hsub hnD hKd
    have c0 : Y.cell? ⟨w.heap.size, 0, none⟩ = some v := by rw [hB.box.cell]; rfl
    have HB := Lib.hid (hB.chg (Chg.putObj (n := D) (S := ClT w.heap.size v) (.deferred none) (Nat.le_refl _) (fun h => hnD ((hT D).2 h))) (by omega) (by omega) (fun q => Iff.rfl))
    clear hB
    gi_wp2
    refine ⟨by simp, .inl ⟨_, _, rfl, run_takeDeferred hKd, ?_⟩⟩
    refine ⟨_, results_tmp rfl _ _ _, v, rfl, ?_, HB.out.bel⟩
    have := HB.out.row
    rw [List.take_of_length_le (Nat.le_refl _)] at this
    exact own_mono this (by omega)
  case stop => exact fun _ _ _ _ _ _ h => h.elim
set_option maxRecDepth 100000 in
set_option maxHeartbeats 2000000 in
theorem lawBelow_any {w : World} {b : Nat} {n : No TV} {F : List Nat} (h : TM w b n F) (s : ByteArray) (hs : s.size ≤ 140737488355328) :
    Calls Try.prog 18 #[ptr b, .string s] w fun e w' => ∃ v, e = .returned v ∧ PRow w' w.heap.size v (belowL n s.data.toList) ∧ Below w.heap.size w w' := by
  have hlen : (belowL n s.data.toList).length ≤ 1000000 := by
    unfold belowL
    split
    · rw [List.length_map]; exact Nat.le_trans (List.length_filter_le _ _) h.few
    · simp
  obtain ⟨L, hL⟩ : ∃ L, L = belowL n s.data.toList := ⟨_, rfl⟩
  rw [← hL] at hlen ⊢
  have hw1 : Below w.heap.size w (w.alloc (.cells #[.slice none 0 0] 27)) := (Below.refl _ w).alloc (Nat.le_refl _) _
  have hw2 : Below w.heap.size w ((w.alloc (.cells #[.slice none 0 0] 27)).alloc (.cells #[ptr b] 24)) := hw1.alloc (by simp) _
  have hw3 : Below w.heap.size w (((w.alloc (.cells #[.slice none 0 0] 27)).alloc (.cells #[ptr b] 24)).alloc (.cells #[.string s] 28)) := hw2.alloc (by simp; omega) _
  refine (callsIn_wide (n := 9)).1 ?_
  refine callsIn_of_wp_marks Try.func18 rfl trivial ?_ rfl
  simp only [Try.ntmps18, List.size_toArray, List.length_cons, List.length_nil, Nat.reduceAdd, Nat.reduceSub, Array.replicate_succ, Array.replicate_zero, List.push_toArray, List.append_toArray, List.nil_append, List.cons_append]
  gi_wp2_with (refine ⟨trivial, ?_⟩; gi_at_call 53; refine (callsIn_wide.2 (Below_any b s _)).mono ?_; rintro e w5 ⟨rfl, rfl⟩)
  have hb1 : Has (((w.alloc (.cells #[.slice none 0 0] 27)).alloc (.cells #[ptr b] 24)).alloc (.cells #[.string s] 28)) (w.heap.size + 1) 24 #[ptr b] := by
    have := (Has.fresh (w.alloc (.cells #[.slice none 0 0] 27)) 24 #[ptr b]).alloc (.cells #[.string s] 28)
    simpa only [World.size_alloc] using this
  have hb2 : Has (((w.alloc (.cells #[.slice none 0 0] 27)).alloc (.cells #[ptr b] 24)).alloc (.cells #[.string s] 28)) (w.heap.size + 1 + 1) 28 #[.string s] := by
    have := Has.fresh ((w.alloc (.cells #[.slice none 0 0] 27)).alloc (.cells #[ptr b] 24)) 28 #[.string s]
    simpa only [World.size_alloc] using this
  have hseq := below_seq (h.below hw3 (Nat.le_refl _)) s hs hb1 hb2 8 L hL
  have hB5 : ClB w (((w.alloc (.cells #[.slice none 0 0] 27)).alloc (.cells #[ptr b] 24)).alloc (.cells #[.string s] 28)) w.heap.size (.slice none 0 0) [] := ⟨((Has.fresh w _ _).alloc _).alloc _, ⟨by simp [fl], .inl ⟨rfl, rfl⟩⟩, hw3⟩
  obtain ⟨X5, hX5⟩ : ∃ X5, X5 = (((w.alloc (.cells #[.slice none 0 0] 27)).alloc (.cells #[ptr b] 24)).alloc (.cells #[.string s] 28)) := ⟨_, rfl⟩
  have hz5 : X5.heap.size = w.heap.size + 3 := by rw [hX5]; simp
  rw [← hX5] at hseq hB5 ⊢
  clear hX5 hw1 hw2 hw3 hb1 hb2 h hL
  refine wpIn_rangeFunc_S (D := fun _ => True) (N := L.length) rfl (by omega) (gf := 81) (lb := #[.pointer (some ⟨w.heap.size + 1, 0, none⟩), .pointer (some ⟨w.heap.size + 1 + 1, 0, none⟩)]) rfl trivial (enters_of Try.func81 (by kernel_rfl) rfl)
    hseq (fun _ => rfl)
    (fun j T Y => ∃ v, (∀ q, T q ↔ ClT w.heap.size v q) ∧ ClB w Y w.heap.size v (L.take j))
    (fun _ _ _ _ => False)
    (ClT w.heap.size (.slice none 0 0)) ?hI ?hIx ?hD ?hDx ?hB ?h0 ?a1 ?assign ?body ?done ?stop
  case hI =>
    rintro j T Y Z ⟨v, hT, hB⟩ hc
    exact ⟨v, hT, hB.chg hc (by omega) (by omega) hT⟩
  case hIx => exact fun _ _ _ _ _ h _ => h
  case hD => exact fun _ _ _ _ => trivial
  case hDx => exact fun _ _ _ _ _ => trivial
  case hB =>
    rintro j T Y ⟨v, hT, hB⟩ q hq
    rcases (hT q).1 hq with h1 | h1
    · have := hB.box.lt; omega
    · exact (hB.row.lt q h1).2
  case h0 => exact ⟨_, fun q => Iff.rfl, hB5⟩
  case assign =>
    intro l2 j Y K hK
    unfold encL
    gi_wp2
    exact hK
  case body =>
    rintro l2 j T Y ⟨v, hT, hB⟩ hj hl2
    obtain ⟨kv, hkv⟩ : ∃ kv : By × TV, L[j]?.getD ([], 0) = kv := ⟨_, rfl⟩
    have hkv2 : L[j] = kv := by rw [← hkv]; simp [hj]
    have htk : L.take (j + 1) = L.take j ++ [kv] := by rw [List.take_succ_eq_append_getElem hj, hkv2]
    simp only [hkv]
    have hlj : (L.take j).length ≤ 1000000 := by rw [List.length_take]; omega
    have c0 : Y.cell? ⟨w.heap.size, 0, none⟩ = some v := by rw [hB.box.cell]; rfl
    obtain ⟨A2, c2, w2, hr, c2', f2, hB2, hfr, hsub⟩ := hB.more (Nat.le_refl _) hlj kv hT
    obtain ⟨n2, hn2⟩ : ∃ n2, n2 = (L.take j).length + 1 := ⟨_, rfl⟩
    rw [← hn2] at hr hB2 hfr hsub
    have HB2 := Lib.hid hB2
    have HTK := Lib.hid htk
    have HFR := Lib.hid hfr
    have HSUB := Lib.hid hsub
    clear hkv hkv2 hB htk hB2 hfr hn2 hlj hT hj hsub
    gi_wp2_with (gi_at_builtin; refine wpListIn_append_at rfl (.tmp 13) (.tmp 17) _ rfl _ _ rfl rfl hr ?_; clear hr c0)
    exact ⟨_, ⟨_, fun q => Iff.rfl, by rw [HTK.out]; exact HB2.out⟩, HFR.out, HSUB.out⟩
  case done =>
    rintro D T Y hD0 ⟨v, hT, hB⟩ hfr hsub hnD hKd
    have c0 : Y.cell? ⟨w.heap.size, 0, none⟩ = some v := by rw [hB.box.cell]; rfl
    have HB := Lib.hid (hB.chg (Chg.putObj (n := D) (S := ClT w.heap.size v) (.deferred none) (Nat.le_refl _) (fun h => hnD ((hT D).2 h))) (by omega) (by omega) (fun q => Iff.rfl))
    clear hB
    gi_wp2
    refine ⟨by simp, .inl ⟨_, _, rfl, run_takeDeferred hKd, ?_⟩⟩
    refine ⟨_, results_tmp rfl _ _ _, v, rfl, ?_, HB.out.bel⟩
    have := HB.out.row
    rw [List.take_of_length_le (Nat.le_refl _)] at this
    exact own_mono this (by omega)
  case stop => exact fun _ _ _ _ _ _ h => h.elim
end Go.Proofs.Ytpnfkgjcnofjnaa.Ti
