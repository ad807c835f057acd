/- The keys at or under a name, with their values: the program's pairs. -/
import Derived.Test.YtpnfkgjcnofjnaaMgTf
import Derived.Test.YtpnfkgjcnofjnaaAppIn
namespace Go.Proofs.Ytpnfkgjcnofjnaa.Ti
open Go.RowKit Go.Shelf Tr
attribute [local go_sem] Oper.semAt_some

def pc (x : By × TV) : List Value := [sv x.1, tz x.2]
theorem pc_len (x : By × TV) : (pc x).length = 2 := rfl
theorem pc_one (x : By × TV) : ∀ v ∈ pc x, v.oneCell' = true := by simp [pc, Value.oneCell']
set_option maxRecDepth 100000 in
theorem info_pair : ∃ i z, Try.prog.info? 122 = some i ∧ i.zero = some z ∧ i.size = 2 ∧ i.bytes = 24 ∧ z.cells.size = 2 := by
  refine ⟨_, _, rfl, rfl, ?_, ?_, ?_⟩ <;> kernel_rfl
theorem ownK_same {w w' : World} {base n k : Nat} {e : TypeId} {v : Value} {ys : List Value} (h : w.ownsRow base e k v n ys) (hs : ∀ q, v.ownBlock = some q → w'.heap[q]? = w.heap[q]?) : w'.ownsRow base e k v n ys := by
  refine ⟨h.1, ?_⟩
  rcases h.2 with h0 | ⟨g, cap, cur, rfl, hb, hg, rest⟩
  · exact .inl h0
  · exact .inr ⟨g, cap, cur, rfl, hb, (hs g rfl).trans hg, rest⟩
/-- what Below tells. -/
def belowL (n : No TV) (s : By) : List (By × TV) := if isN s then ((nents n).filter fun e => (pth s).isPrefixOf e.p).map fun e => (e.k, e.v) else []
theorem belowL_eq {n : No TV} (h : ok n) (s : By) : belowL n s = match (if isN s then getN (pth s) n else none) with
    | none => []
    | some m => nkv m := by
  unfold belowL
  cases isN s with
  | false => rfl
  | true =>
    simp only [if_true]
    rw [below_ents h]
    cases getN (pth s) n with
    | none => rfl
    | some m => dsimp only; rw [nkv_ents, List.map_map]; rfl
/-- pairs' list, while it grows. -/
structure PrB (w1 W : World) (v : Value) (L : List (By × TV)) (b1 : Nat) : Prop where
  box : Has W w1.heap.size 119 #[v]
  row : W.ownsRow (w1.heap.size + 2) 122 2 v L.length (fl pc L)
  it : Has W (w1.heap.size + 1) 73 #[ptr b1]
  bel : Below w1.heap.size w1 W
def PrT (w1 : World) (v : Value) (q : Nat) : Prop := q = w1.heap.size ∨ v.ownBlock = some q
theorem PrB.chg {w1 A B : World} {v : Value} {L : List (By × TV)} {b1 m : Nat} {T : Bl} (h : PrB w1 A v L b1) (hc : Chg m T A B) (hm : w1.heap.size + 1 < m) (hT : ∀ q, T q ↔ PrT w1 v q) : PrB w1 B v L b1 :=
  ⟨(hc.block _ h.box.lt (.inl (by omega))).trans h.box, ownK_same h.row fun q hq => hc.block q (h.row.lt q hq).2 (.inr ((hT q).2 (.inr hq))), (hc.block _ h.it.lt (.inl (by omega))).trans h.it,
   hc.os.trans h.bel.os, hc.tape.trans h.bel.tape, hc.output.trans h.bel.output, Nat.le_trans h.bel.size hc.size, fun k hk => (hc.block k (Nat.lt_of_lt_of_le hk h.bel.size) (.inl (by omega))).trans (h.bel.block k hk)⟩
theorem PrB.ne {w1 A : World} {v : Value} {L : List (By × TV)} {b1 : Nat} (h : PrB w1 A v L b1) {q : Nat} (hq : v.ownBlock = some q) : w1.heap.size + 2 ≤ q ∧ q < A.heap.size := h.row.lt q hq
set_option maxRecDepth 100000 in
set_option maxHeartbeats 2000000 in
theorem pairs_any {w : World} {b : Nat} {n : No TV} {F : List Nat} (h : TM w b n F) (s : ByteArray) (hs : s.size ≤ 140737488355328) :
    Calls Try.prog 82 #[ptr b, .string s] w fun e w' => ∃ v, e = .returned v ∧ w'.ownsRow w.heap.size 122 2 v (belowL n s.data.toList).length (fl pc (belowL n s.data.toList)) ∧ Below w.heap.size w w' := by
  have HF := Lib.hid (find_any h.node h.ok (Nat.le_trans h.few (by decide)) s hs)
  have hg := belowL_eq h.ok s.data.toList
  have hlen : (belowL n s.data.toList).length ≤ 1000000 := by
    unfold belowL
    split
    · rw [List.length_map]; exact Nat.le_trans (List.length_filter_le _ _) h.few
    · simp
  unfold FindR at HF
  have hat : ∀ m, (if isN s.data.toList then getN (pth s.data.toList) n else none) = some m → atq (pth s.data.toList) n = m := fun m hm => by
    split at hm
    · exact atq_getN hm
    · cases hm
  generalize (if isN s.data.toList then getN (pth s.data.toList) n else none) = g at *
  rw [hg] at hlen ⊢
  cases g with
  | none =>
    simp only at HF hg ⊢
    clear hat hg
    go_enter Try.func82, Try.ntmps82
    go_wp2_with (go_at_call 58; refine HF.out.mono ?_; rintro e w1 ⟨p, rfl, rfl, hb1⟩)
    go_ret
    exact ⟨_, rfl, ⟨by simp [fl], .inl ⟨rfl, rfl⟩⟩, hb1⟩
  | some m =>
    have hm := hat m rfl
    have hok := ok_atq (pth s.data.toList) h.ok
    rw [hm] at hok
    simp only at HF hg hlen ⊢
    clear hat hg h
    refine (callsIn_wide (n := 9)).1 ?_
    refine callsIn_of_wp_marks Try.func82 rfl trivial ?_ rfl
    simp only [Try.ntmps82, List.size_toArray, List.length_cons, List.length_nil, Nat.reduceAdd, Nat.reduceSub, Array.replicate_succ, Array.replicate_zero, List.push_toArray, List.append_toArray, List.nil_append, List.cons_append]
    gi_wp2_with (first
      | (refine ⟨trivial, ?_⟩; gi_at_call 58; refine (callsIn_wide.2 HF.out).mono ?_; rintro e w1 ⟨p, rfl, ⟨t1, b1, A1, F1, B1, rfl, hL, hF⟩, hb1⟩; have HND := Lib.hid hL.node; rw [hm] at HND; clear hL hF)
      | (refine ⟨trivial, ?_⟩; gi_at_call 83; refine (callsIn_wide.2 (all_any _ _)).mono ?_; rintro e w5 ⟨rfl, rfl⟩))
    obtain ⟨i4, z4, hi4, hz4, hs4, hb4, hc4⟩ := info_pair
    have hNm : (nkv m).length ≤ 1099511627776 := Nat.le_trans hlen (by decide)
    have hseq := all_seq m 8 w1 ((w1.alloc (.cells #[.slice none 0 0] 119)).alloc (.cells #[ptr b1] 73)) t1 b1 (w1.heap.size + 1) F1 HND.out hok.1 hNm
    obtain ⟨X5, hX5⟩ : ∃ X5, X5 = (w1.alloc (.cells #[.slice none 0 0] 119)).alloc (.cells #[ptr b1] 73) := ⟨_, rfl⟩
    rw [← hX5] at hseq ⊢
    have hz5 : X5.heap.size = w1.heap.size + 2 := by rw [hX5]; simp
    have hB5 : PrB w1 X5 (.slice none 0 0) [] b1 := by
      have f1 := Has.fresh (w1.alloc (.cells #[.slice none 0 0] 119)) 73 #[ptr b1]
      simp only [World.size_alloc] at f1
      rw [hX5]
      exact ⟨(Has.fresh w1 _ _).alloc _, ⟨by simp [fl], .inl ⟨rfl, rfl⟩⟩, f1, ((Below.refl _ w1).alloc (Nat.le_refl _) _).alloc (by simp) _⟩
    have hFlt := HND.out.lt
    have hkd : ∀ {Y : World} {v : Value} {L : List (By × TV)}, PrB w1 Y v L b1 → AllD (w1.heap.size + 1) b1 F1 w1 Y := fun hY => ⟨hY.it, fun j hj => hY.bel.block j (hFlt j hj)⟩
    clear hX5 HF
    refine wpIn_rangeFunc_S (D := AllD (w1.heap.size + 1) b1 F1 w1) (N := (nkv m).length) rfl (by omega) (gf := 97) (lb := #[.pointer (some ⟨w1.heap.size + 1, 0, none⟩)]) rfl trivial (enters_of Try.func97 (by kernel_rfl) rfl)
      hseq (fun _ => rfl)
      (fun j T Y => ∃ v, (∀ q, T q ↔ PrT w1 v q) ∧ PrB w1 Y v ((nkv m).take j) b1)
      (fun _ _ _ _ => False)
      (PrT w1 (.slice none 0 0)) ?hI ?hIx ?hD ?hDx ?hB ?h0 ?a1 ?assign ?body ?done ?stop
    case hI =>
      rintro j T Y Z ⟨v, hT, hB⟩ hc
      exact ⟨v, hT, hB.chg hc (by omega) hT⟩
    case hIx => exact fun _ _ _ _ _ h _ => h
    case hD =>
      rintro j T Y ⟨v, _, hB⟩
      exact hkd hB
    case hDx => exact fun _ _ _ _ h => h.elim
    case hB =>
      rintro j T Y ⟨v, hT, hB⟩ q hq
      rcases (hT q).1 hq with h1 | h1
      · have := hB.box.lt; omega
      · exact (hB.ne h1).2
    case h0 => exact ⟨_, fun q => Iff.rfl, hB5⟩
    case assign =>
      intro l2 j Y K hK
      unfold encL
      gi_wp2
      exact hK
    case body =>
      rintro l2 j T Y ⟨v, hT, hB⟩ hj hl2
      obtain ⟨kv, hkv⟩ : ∃ kv : By × TV, (nkv m)[j]?.getD ([], 0) = kv := ⟨_, rfl⟩
      have hkv2 : (nkv m)[j] = kv := by rw [← hkv]; simp [hj]
      have htk : (nkv m).take (j + 1) = (nkv m).take j ++ [kv] := by rw [List.take_succ_eq_append_getElem hj, hkv2]
      simp only [hkv]
      have hlj : ((nkv m).take j).length = j := by rw [List.length_take]; omega
      have hz := hB.bel.size
      have hzb := hB.it.lt
      obtain ⟨v2, w2, hr, ho, hgw, hv⟩ := run_append_where (P := Try.prog) (w := Y.alloc (.cells #[sv kv.1, tz kv.2] 122)) (w1.heap.size + 2) 119 119 122 i4 z4 2 24 Try.underlying119 hi4 hz4 hs4 hb4 hc4 (by decide) v ((nkv m).take j).length (fl pc ((nkv m).take j))
        (hB.row.alloc _) ⟨Y.heap.size, 0, none⟩ 1 1 (pc kv) rfl (fun i u hu => by rw [addr_add, Nat.zero_add, (Has.fresh Y 122 #[sv kv.1, tz kv.2]).cell i]; simpa [pc] using hu) (pc_one kv) (by decide) (by unfold maxLen; omega) (by omega) (by simp; omega)
      have c0 : Y.cell? ⟨w1.heap.size, 0, none⟩ = some v := by rw [hB.box.cell]; rfl
      have hbx2 : Has w2 w1.heap.size 119 #[v] := Has.grown (hB.box.alloc _) hgw (fun e => by have := (hB.ne e.symm).1; omega)
      have c2 : w2.cell? ⟨w1.heap.size, 0, none⟩ = some v := by rw [hbx2.cell]; rfl
      have f2 := hbx2.free 0
      have hq2 : ∀ q, v2.ownBlock = some q → v.ownBlock = some q ∨ q = Y.heap.size + 1 := fun q hq => by
        rcases hv with e | e
        · exact .inl (e ▸ hq)
        · rw [e] at hq; injection hq with hq; simp at hq; exact .inr (by omega)
      obtain ⟨ad2, cp2, hv2, _⟩ := ownK_form ho
      obtain ⟨n2, hn2⟩ : ∃ n2, n2 = ((nkv m).take j).length + 1 := ⟨_, rfl⟩
      rw [← hn2] at hv2
      subst hv2
      have HN2 := Lib.hid hn2
      clear hn2
      have HB := Lib.hid hB
      have HO := Lib.hid ho
      have HG := Lib.hid hgw
      have HBX2 := Lib.hid hbx2
      have HTK := Lib.hid htk
      have HT := Lib.hid hT
      have HLJ := Lib.hid hlj
      clear hkv hkv2 hB ho hgw hbx2 htk hT hlj hv
      gi_wp2_with (gi_at_builtin; refine wpListIn_append_at rfl (.tmp 18) (.tmp 22) _ rfl _ _ rfl rfl hr ?_; clear hr c0)
      refine ⟨PrT w1 (.slice ad2 n2 cp2), ⟨_, fun q => Iff.rfl, ?_⟩, ?_, fun q hq => ?_⟩
      · rw [HTK.out]
        refine ⟨HBX2.out.set 0 _, ?_, ?_, ?_⟩
        · rw [List.length_append, List.length_singleton, fl_append, fl_one]
          exact ownK_same HO.out fun q hq => heap_setCell_other _ ⟨w1.heap.size, 0, none⟩ q _ (fun e => by have := (HO.out.lt q hq).1; simp at e; omega)
        · exact (Has.grown (HB.out.it.alloc _) HG.out (fun e => by have := (HB.out.ne e.symm).1; omega)).far (p := ⟨w1.heap.size, 0, none⟩) (by simp) _
        · exact ((HB.out.bel.alloc HB.out.bel.size _).grown HG.out (by simp; omega) (fun q e => by have := (HB.out.ne e).1; omega)).setCell (p := ⟨w1.heap.size, 0, none⟩) (Nat.le_refl _) _
      · refine FrS.setCell (p := ⟨w1.heap.size, 0, none⟩) ?_ (.inl ((HT.out _).2 (.inl rfl))) _
        exact ⟨HG.out.os, HG.out.tape, HG.out.output, by have := HG.out.size; simp at this; omega, fun k hk hS => (HG.out.block k (by simp; omega) (fun e => hS ((HT.out k).2 (.inr e.symm)))).trans (Below.heap_alloc Y _ k hk)⟩
      · rcases hq with hq | hq
        · exact .inl ((HT.out q).2 (.inl hq))
        · rcases hq2 q hq with h1 | h1
          · exact .inl ((HT.out q).2 (.inr h1))
          · exact .inr (by omega)
    case done =>
      rintro D T Y hD0 ⟨v, hT, hB⟩ hfr hsub hnD hKd
      have c0 : Y.cell? ⟨w1.heap.size, 0, none⟩ = some v := by rw [hB.box.cell]; rfl
      have HB := Lib.hid (hB.chg (Chg.putObj (n := D) (S := PrT w1 v) (.deferred none) (Nat.le_refl _) (fun h => hnD ((hT D).2 h))) (by omega) (fun q => Iff.rfl))
      clear hB
      gi_wp2
      refine ⟨by simp, .inl ⟨_, _, rfl, run_takeDeferred hKd, ?_⟩⟩
      refine ⟨_, results_tmp rfl _ _ _, v, rfl, ?_, hb1.trans (HB.out.bel.mono hb1.size)⟩
      have := HB.out.row
      rw [List.take_of_length_le (Nat.le_refl _)] at this
      exact own_mono this (by have := hb1.size; omega)
    case stop => exact fun _ _ _ _ _ _ h => h.elim
end Go.Proofs.Ytpnfkgjcnofjnaa.Ti
