/- Two lists of pairs held against each other: the document's Same. -/
import Derived.Test.YtpnfkgjcnofjnaaLwAll
import Derived.Laws.StructEq
namespace Go.Proofs.Ytpnfkgjcnofjnaa
open Go.RowKit
theorem str_iff {a n : ByteArray} : (a.toList == n.toList) = true ↔ a.data.toList = n.data.toList := by
  rw [Lib.toList_data, Lib.toList_data, beq_iff_eq]
end Go.Proofs.Ytpnfkgjcnofjnaa
namespace Go.Proofs.Ytpnfkgjcnofjnaa.Ti
open Go.RowKit Go.Shelf Tr
attribute [local go_sem] Oper.semAt_some

/-- are two pairs one? -/
def pB (x y : By × TV) : Bool := decide (x = y)
theorem pB_eq (x y : By × TV) : ((⟨x.1.toArray⟩ : ByteArray).toList == (⟨y.1.toArray⟩ : ByteArray).toList && (x.2 == y.2)) = pB x y := by
  unfold pB
  rw [Bool.eq_iff_iff, Bool.and_eq_true, str_iff, arr_list, arr_list, beq_iff_eq, decide_eq_true_eq, Prod.ext_iff]
section
variable {W : World}
theorem and_run2 {x y : Bool} (f : Unit → Sem Bool) (P : Program) (h : (f ()).run P W = .ok y W) : (if (!x) = true then (pure false : Sem Bool) else f ()).run P W = .ok (x && y) W := by
  cases x
  · simp
  · simpa using h
end
set_option maxRecDepth 100000 in
theorem pairRun (W : World) (x y : By × TV) (d : Nat) : (Op.equalIn (d + 5) 48 (.agg #[sv x.1, tz x.2]) (.agg #[sv y.1, tz y.2])).run Try.prog W = .ok (pB x y) W := by
  rw [run_equalIn_agg W (d + 4) _ _ _ (by kernel_rfl) Try.stoodInHeld48, ← pB_eq]
  have hf : (Try.prog.fieldsOf 48).toList.map (fun f => (f.name != "_", f.type, f.offset)) = [(true, 28, 0), (true, 3, 1)] := by kernel_rfl
  have hlen : (Try.prog.fieldsOf 48).toList.length = 2 := by kernel_rfl
  generalize (Try.prog.fieldsOf 48).toList = fs at *
  match fs, hlen, hf with
  | [f0, f1], _, hf =>
    simp only [List.map_cons, List.map_nil, List.cons.injEq, Prod.mk.injEq] at hf
    obtain ⟨⟨n0, t0, o0⟩, ⟨n1, t1, o1⟩, _⟩ := hf
    have p0 : ∀ x : By × TV, (part 28 #[sv x.1, tz x.2] 0).run Try.prog W = .ok (.string ⟨x.1.toArray⟩) W := fun _ => rfl
    have p1 : ∀ x : By × TV, (part 3 #[sv x.1, tz x.2] 1).run Try.prog W = .ok (.int .i64 x.2) W := fun _ => rfl
    have m0 : ¬ (f0.name = "_") := by simpa using n0
    have m1 : ¬ (f1.name = "_") := by simpa using n1
    have st : ∀ (f : Field) (va vb : Value) (s t : Bool) (fs : List Field), ¬ (f.name = "_") → (part f.type #[sv x.1, tz x.2] f.offset).run Try.prog W = .ok va W → (part f.type #[sv y.1, tz y.2] f.offset).run Try.prog W = .ok vb W →
        (Op.equalIn (d + 4) f.type va vb).run Try.prog W = .ok s W → (Op.eqFields (d + 4) #[sv x.1, tz x.2] #[sv y.1, tz y.2] fs).run Try.prog W = .ok t W → (Op.eqFields (d + 4) #[sv x.1, tz x.2] #[sv y.1, tz y.2] (f :: fs)).run Try.prog W = .ok (s && t) W := fun f va vb s t fs hn ha hb he hr => by
      simp only [Op.eqFields, ne_eq, hn, not_false_eq_true, if_true, Sem.run_bind, ha, hb, he, Result.andThen_ok]
      exact and_run2 (fun _ => Op.eqFields (d + 4) #[sv x.1, tz x.2] #[sv y.1, tz y.2] fs) _ hr
    have h1 := st f1 _ _ _ true [] m1 (by rw [t1, o1]; exact p1 x) (by rw [t1, o1]; exact p1 y) (by rw [t1]; exact run_equalIn_int W _ _ _ _ _ _ Try.underlying3) rfl
    rw [Bool.and_true] at h1
    exact st f0 _ _ _ _ _ m0 (by rw [t0, o0]; exact p0 x) (by rw [t0, o0]; exact p0 y) (by rw [t0]; exact run_equalIn_string W _ _ _ _ Try.underlying28) h1
theorem pair_neqRun (W : World) (x y : By × TV) : (binOp .neq 48 (.agg #[sv x.1, tz x.2]) (.agg #[sv y.1, tz y.2])).run Try.prog W = .ok (.bool (!pB x y)) W := by
  rw [run_neq_struct, pairRun W x y 9995]; rfl
theorem pair_neq {a : Act} {o : Oper} (W : World) (x y : By × TV) (ho : o.op = .binOp .neq 48 (.tmp 20) (.tmp 24) 48) (hx : a.eval (.tmp 20) = .agg #[sv x.1, tz x.2]) (hy : a.eval (.tmp 24) = .agg #[sv y.1, tz y.2]) :
    (execOp a.eval o).run Try.prog W = .ok (.value (.bool (!pB x y))) W := by
  unfold execOp
  simp only [ho, hx, hy, Sem.run_bind, Sem.run_pure, Result.andThen_ok, run_eqGuard_agg W .neq _ _ _ _ _ Try.eqGuardType48, pair_neqRun]
/-- a list of pairs that is read. -/
def PRd (W : World) (v : Value) (L : List (By × TV)) : Prop :=
  ∃ A c, v = .slice A L.length c ∧ (0 < L.length → ∃ g o, A = some ⟨g, o, none⟩ ∧ g < W.heap.size ∧ ∀ j (h : j < L.length), W.rangeAt g (o + j * 2) (pc L[j]))
theorem PRow.rd {W : World} {base : Nat} {v : Value} {L : List (By × TV)} (h : PRow W base v L) : PRd W v L := by
  obtain ⟨A, c, hv, hc⟩ := ownK_form h
  refine ⟨A, c, hv, fun h0 => ?_⟩
  obtain ⟨g, cp, cur, hv2, _, _, hlt, hg, ht⟩ := ownK_pos h h0
  rw [hv] at hv2
  injection hv2 with e1 _ _
  refine ⟨g, 0, e1, hlt, fun j hj i u hu => ?_⟩
  rw [cell_of_row W g _ cur _ (0, 0) hg, Nat.zero_add]
  exact take_at ht (by rw [fl_get pc_len L hj (List.getElem?_eq_some_iff.1 hu).1]; exact hu)
theorem PRd.below {W X : World} {B : Nat} {v : Value} {L : List (By × TV)} (h : PRd W v L) (hb : Below B W X) (hB : W.heap.size ≤ B) : PRd X v L := by
  obtain ⟨A, c, hv, hr⟩ := h
  refine ⟨A, c, hv, fun h0 => ?_⟩
  obtain ⟨g, o, hA, hg, hc⟩ := hr h0
  exact ⟨g, o, hA, Nat.lt_of_lt_of_le hg hb.size, fun j hj => range_below hb (by omega) (hc j hj)⟩
theorem PRd.len {W : World} {v : Value} {L : List (By × TV)} (h : PRd W v L) : ∃ A c, v = .slice A L.length c := by
  obtain ⟨A, c, hv, _⟩ := h
  exact ⟨A, c, hv⟩
set_option maxRecDepth 100000 in
set_option maxHeartbeats 2000000 in
theorem Same_any {w : World} {u v : Value} {L M : List (By × TV)} (hu : PRd w u L) (hv : PRd w v M) (hL : L.length ≤ 1000000) :
    Calls Try.prog 17 #[u, v] w fun e w' => e = .returned (.bool (decide (L = M))) ∧ Below w.heap.size w w' := by
  obtain ⟨A1, c1, rfl, hr1⟩ := hu
  obtain ⟨A2, c2, rfl, hr2⟩ := hv
  by_cases hlen : L.length = M.length
  · have HR1 := Lib.hid hr1
    have HR2 := Lib.hid hr2
    have HLM := Lib.hid hlen
    rw [← hlen]
    obtain ⟨N, hN⟩ : ∃ N, L.length = N := ⟨_, rfl⟩
    have HN := Lib.hid hN
    rw [hN] at hL ⊢
    clear hr1 hr2 hlen hN
    refine callsIn_wide.1 (?_ : CallsIn Fence.wide 9 _ _ _ _ _)
    refine callsIn_of_wp Try.func17 rfl trivial ?_ rfl
    simp only [Try.ntmps17, List.size_toArray, List.length_cons, List.length_nil, Nat.reduceAdd, Nat.reduceSub, Array.replicate_succ, Array.replicate_zero, List.push_toArray, List.append_toArray, List.nil_append, List.cons_append]
    have mixed : Try.prog.follows .mixedOrders = true := by kernel_rfl
    gi_wp2
    gi_loopw [5] (fun i wr => ∃ k : Nat, k ≤ N ∧ i = .int .i64 k ∧ Hid (Below w.heap.size w wr ∧ L.take k = M.take k)) (fun i _ => N - (intOf i).toNat)
    case atStart => exact ⟨0, Nat.zero_le _, rfl, Below.refl _ _, rfl⟩
    case round =>
      obtain ⟨k, hk, rfl, HB⟩ := hrel
      rcases Nat.lt_or_ge k N with hlt | hge
      · have hkL : k < L.length := by have := HN.out; omega
        have hkM : k < M.length := by have := HN.out; have := HLM.out; omega
        obtain ⟨g1, o1, rfl, hg1, hq1⟩ := HR1.out (by omega)
        obtain ⟨g2, o2, rfl, hg2, hq2⟩ := HR2.out (by omega)
        obtain ⟨x, hx⟩ : ∃ x, L[k] = x := ⟨_, rfl⟩
        obtain ⟨y, hy⟩ : ∃ y, M[k] = y := ⟨_, rfl⟩
        have hq1 := range_below HB.out.1 hg1 (hq1 k hkL)
        have hq2 := range_below HB.out.1 hg2 (hq2 k hkM)
        rw [hx] at hq1
        rw [hy] at hq2
        have i0 : (0 : Int) ≤ (k : Int) := by omega
        have i1 : (k : Int) < (N : Int) := by omega
        have hi2 : (Try.prog.info? 48).map (·.size) = some 2 := by kernel_rfl
        have HI2 := Lib.hid hi2
        have hwr : IntKind.i64.wrap ((k : Int) + 1) = ((k + 1 : Nat) : Int) := by rw [IntKind.wrap_i64]; omega
        have HX : Hid (L.take (k + 1) = L.take k ++ [x] ∧ M.take (k + 1) = M.take k ++ [y] ∧ (x ≠ y → L ≠ M)) := ⟨by rw [List.take_succ_eq_append_getElem hkL, hx], by rw [List.take_succ_eq_append_getElem hkM, hy], fun h e => h (by subst e; rw [← hx, hy])⟩
        have hS0 : (fun X : World => X.rangeAt g1 (o1 + k * 2) [sv x.1, tz x.2] ∧ X.rangeAt g2 (o2 + k * 2) [sv y.1, tz y.2]) wr.drew := ⟨hq1, hq2⟩
        clear hi2 hx hy hq1 hq2 hkL hkM hg1 hg2
        gi_wp2
        refine wpIn_mono (Q := fun e a' W' => e = .normal ∧ ∃ u4 u11 u12 u13 u14 u15 u16 u17 u18 u19 u20 u21 u22 u23 u24, a' = { tmps := #[.slice (some ⟨g1, o1, none⟩) N c1, .slice (some ⟨g2, o2, none⟩) N c2, undef, undef, u4, .int .i64 k, .slice (some ⟨g1, o1, none⟩) N c1, .int .i64 N, .slice (some ⟨g2, o2, none⟩) N c2, .int .i64 N, .bool false, u11, u12, u13, u14, u15, u16, u17, u18, u19, u20, u21, u22, u23, u24, .bool (!pB x y)], defers := [] } ∧ W' = wr.drew) ?_ ?_
        rotate_left
        · rintro e a' W' ⟨rfl, u4, u11, u12, u13, u14, u15, u16, u17, u18, u19, u20, u21, u22, u23, u24, rfl, rfl⟩
          by_cases hxy : x = y
          · have hp : pB x y = true := by simp [pB, hxy]
            rw [hp]
            gi_wp2
            go_roundw
            case rel => exact ⟨k + 1, by omega, rfl, HB.out.1.drew, by rw [HX.out.1, HX.out.2.1, HB.out.2, hxy]⟩
            case measure => simp [intOf]; omega
          · have hp : pB x y = false := by simp [pB, hxy]
            rw [hp]
            gi_wp2
            refine bodyPost_ret (results_tmp rfl _ _ _) rfl ?_
            exact ⟨by rw [decide_eq_false (HX.out.2.2 hxy)]; rfl, HB.out.1.drew⟩
        refine wpIn_region_S2 (S := fun X : World => X.rangeAt g1 (o1 + k * 2) [sv x.1, tz x.2] ∧ X.rangeAt g2 (o2 + k * 2) [sv y.1, tz y.2]) mixed 9 #[false, false, false, false, false, false, false, false, false] rfl rfl ?_
        refine wpAnyS_take (i := 0) (v := .slice (some ⟨g1, o1, none⟩) N c1) rfl (by kernel_rfl) (by kernel_rfl) (by kernel_rfl) (by kernel_rfl) (fun _ _ _ h => by cases h.1) ⟨Or.inl ⟨by rfl, fun W' hW' => (by go_simp)⟩, rfl, fun _ => rfl⟩ hS0 ?_
        simp only [Act.put, List.getElem_toArray, List.getElem_cons_zero, List.setIfInBounds_toArray, List.set_cons_zero, List.set_cons_succ]
        refine wpAnyS_take (i := 1) (v := .int .i64 k) rfl (by kernel_rfl) (by kernel_rfl) (by kernel_rfl) (by kernel_rfl) (fun _ _ _ h => by cases h.1) ⟨Or.inl ⟨by rfl, fun W' hW' => (by go_simp)⟩, rfl, fun _ => rfl⟩ hS0 ?_
        simp only [Act.put, List.getElem_toArray, List.getElem_cons_zero, List.getElem_cons_succ, List.setIfInBounds_toArray, List.set_cons_zero, List.set_cons_succ]
        refine wpAnyS_take (i := 2) (v := .pointer (some ⟨g1, o1 + k * 2, none⟩)) rfl (by kernel_rfl) (by kernel_rfl) (by kernel_rfl) (by kernel_rfl) (fun _ _ _ h => by cases h.1) ⟨Or.inl ⟨by rfl, fun W' hW' => (by go_simp)⟩, rfl, fun _ => rfl⟩ hS0 ?_
        simp only [Act.put, List.getElem_toArray, List.getElem_cons_zero, List.getElem_cons_succ, List.setIfInBounds_toArray, List.set_cons_zero, List.set_cons_succ]
        refine wpAnyS_take (i := 3) (v := .agg #[sv x.1, tz x.2]) rfl (by kernel_rfl) (by kernel_rfl) (by kernel_rfl) (by kernel_rfl) (fun _ _ _ h => by cases h.1) ⟨yieldsIf_load_mid (by rfl) 48 (.tmp 19) rfl g1 (o1 + k * 2) rfl [sv x.1, tz x.2] _ (fun W' hW' => hW'.1) Try.underlying48 rfl HI2.out, rfl, fun _ => rfl⟩ hS0 ?_
        simp only [Act.put, List.getElem_toArray, List.getElem_cons_zero, List.getElem_cons_succ, List.setIfInBounds_toArray, List.set_cons_zero, List.set_cons_succ]
        refine wpAnyS_take (i := 4) (v := .slice (some ⟨g2, o2, none⟩) N c2) rfl (by kernel_rfl) (by kernel_rfl) (by kernel_rfl) (by kernel_rfl) (fun _ _ _ h => by cases h.1) ⟨Or.inl ⟨by rfl, fun W' hW' => (by go_simp)⟩, rfl, fun _ => rfl⟩ hS0 ?_
        simp only [Act.put, List.getElem_toArray, List.getElem_cons_zero, List.getElem_cons_succ, List.setIfInBounds_toArray, List.set_cons_zero, List.set_cons_succ]
        refine wpAnyS_take (i := 5) (v := .int .i64 k) rfl (by kernel_rfl) (by kernel_rfl) (by kernel_rfl) (by kernel_rfl) (fun _ _ _ h => by cases h.1) ⟨Or.inl ⟨by rfl, fun W' hW' => (by go_simp)⟩, rfl, fun _ => rfl⟩ hS0 ?_
        simp only [Act.put, List.getElem_toArray, List.getElem_cons_zero, List.getElem_cons_succ, List.setIfInBounds_toArray, List.set_cons_zero, List.set_cons_succ]
        refine wpAnyS_take (i := 6) (v := .pointer (some ⟨g2, o2 + k * 2, none⟩)) rfl (by kernel_rfl) (by kernel_rfl) (by kernel_rfl) (by kernel_rfl) (fun _ _ _ h => by cases h.1) ⟨Or.inl ⟨by rfl, fun W' hW' => (by go_simp)⟩, rfl, fun _ => rfl⟩ hS0 ?_
        simp only [Act.put, List.getElem_toArray, List.getElem_cons_zero, List.getElem_cons_succ, List.setIfInBounds_toArray, List.set_cons_zero, List.set_cons_succ]
        refine wpAnyS_take (i := 7) (v := .agg #[sv y.1, tz y.2]) rfl (by kernel_rfl) (by kernel_rfl) (by kernel_rfl) (by kernel_rfl) (fun _ _ _ h => by cases h.1) ⟨yieldsIf_load_mid (by rfl) 48 (.tmp 23) rfl g2 (o2 + k * 2) rfl [sv y.1, tz y.2] _ (fun W' hW' => hW'.2) Try.underlying48 rfl HI2.out, rfl, fun _ => rfl⟩ hS0 ?_
        simp only [Act.put, List.getElem_toArray, List.getElem_cons_zero, List.getElem_cons_succ, List.setIfInBounds_toArray, List.set_cons_zero, List.set_cons_succ]
        refine wpAnyS_take (i := 8) (v := .bool (!pB x y)) rfl (by kernel_rfl) (by kernel_rfl) (by kernel_rfl) (by kernel_rfl) (fun _ _ _ h => by cases h.1) ⟨Or.inl ⟨by rfl, fun W' _ => pair_neq W' x y rfl rfl rfl⟩, rfl, fun _ => rfl⟩ hS0 ?_
        simp only [Act.put, List.getElem_toArray, List.getElem_cons_zero, List.getElem_cons_succ, List.setIfInBounds_toArray, List.set_cons_zero, List.set_cons_succ]
        refine wpAnyS_done (by kernel_rfl) ?_ _
        exact ⟨rfl, _, _, _, _, _, _, _, _, _, _, _, _, _, _, _, rfl, rfl⟩
      · obtain rfl : k = N := by omega
        have hneg : ¬ ((k : Int) < (k : Int)) := by omega
        gi_wp2
        refine bodyPost_ret (results_tmp rfl _ _ _) rfl ?_
        have h1 := HB.out.2
        rw [List.take_of_length_le (by have := HN.out; omega), List.take_of_length_le (by have := HN.out; have := HLM.out; omega)] at h1
        exact ⟨by rw [decide_eq_true h1]; rfl, HB.out.1⟩
  · have hne : ¬ L = M := fun e => hlen (by rw [e])
    have hl' : ((L.length : Int) == (M.length : Int)) = false := beq_eq_false_iff_ne.2 (by omega)
    rw [decide_eq_false hne]
    clear hr1 hr2 hne hL
    generalize L.length = l1 at *
    generalize M.length = l2 at *
    go_enter Try.func17, Try.ntmps17
    go_wp2
    go_ret
    exact ⟨rfl, Below.refl _ _⟩
end Go.Proofs.Ytpnfkgjcnofjnaa.Ti
