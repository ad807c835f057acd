/- Find: the program's. -/
import Derived.Test.YtapbcepjcnnkgabM6
namespace Go.Proofs.Ytapbcepjcnnkgab
open Go.RowKit Go.Sort Go.Shelf

def findV (es : List Rv) : Ev × Bool × Int := match es.filter Ed.isO with
  | [] => (ev1, false, 0)
  | [r] => if r.sound then (r.saysE, true, 0) else (ev1, false, 70)
  | _ => (ev1, false, 70)
theorem filter_non {es : List Rv} (h : Ed.Non es) : es.filter Ed.isO = [] := by
  rw [List.filter_eq_nil_iff]
  intro x hx
  simp [h x hx]
theorem filter_fst {es : List Rv} {k : Nat} (h : Ed.Fst es k) : ∃ hk : k < es.length, es.filter Ed.isO = (es[k]'hk) :: (es.drop (k + 1)).filter Ed.isO := by
  obtain ⟨hk, h1, h2⟩ := h
  refine ⟨hk, ?_⟩
  have h0 : es.filter Ed.isO = (es.take k ++ es.drop k).filter Ed.isO := by rw [List.take_append_drop]
  rw [h0, List.filter_append, filter_non h2, List.drop_eq_getElem_cons hk, List.filter_cons, h1]
  rfl
theorem findV_non {es : List Rv} (h : Ed.Non es) : findV es = (ev1, false, 0) := by unfold findV; rw [filter_non h]
theorem findV_one {es : List Rv} {k : Nat} (h : Ed.Fst es k) (h2 : Ed.Non (es.drop (k + 1))) : ∃ hk : k < es.length, findV es = if (es[k]'hk).sound then ((es[k]'hk).saysE, true, 0) else (ev1, false, 70) := by
  obtain ⟨hk, he⟩ := filter_fst h
  refine ⟨hk, ?_⟩
  unfold findV
  rw [he, filter_non h2]
theorem findV_two {es : List Rv} {k j : Nat} (h : Ed.Fst es k) (h2 : Ed.Fst (es.drop (k + 1)) j) : findV es = (ev1, false, 70) := by
  obtain ⟨hk, he⟩ := filter_fst h
  obtain ⟨hj, he2⟩ := filter_fst h2
  unfold findV
  rw [he, he2]
theorem srow_drop {w : World} {lo hi g o c k : Nat} {es : List Rv} (h : Srow rcl 12 w lo hi (some ⟨g, o, none⟩) es) (hc : es.length ≤ c) : Srow rcl 12 w lo hi (if c = k then some ⟨g, o, none⟩ else some ⟨g, o + k * 12, none⟩) (es.drop k) := fun h0 => by
  rw [List.length_drop] at h0
  rw [if_neg (by omega)]
  obtain ⟨g', o', hA, h1, h2, hr⟩ := h (by omega)
  injection hA with hA
  injection hA with e1 e2 _
  subst e1 e2
  refine ⟨g, o + k * 12, rfl, h1, h2, fun j hj => ?_⟩
  rw [List.length_drop] at hj
  have := hr (k + j) (by omega)
  rw [List.getElem_drop]
  rw [Nat.add_mul, ← Nat.add_assoc] at this
  exact this
theorem wpList_load_midG {P : Program} {ops : Array Oper} {rest : List Oper} {op : Oper} {a : Act} {w : World} {Q : Exit → Act → World → Prop} (hw : Region.wanted op (yielded ops a.tmps) = true) (ty : TypeId) (x : Operand) (ho : op.op = .load ty x)
    (b o : Nat) (hx : a.eval x = .pointer (some ⟨b, o, none⟩)) (cs : List Value) (d : TypeDesc) (hc : w.rangeAt b o cs)
    (hu : P.underlying ty = some d) (hd : d.isRow = true) (hi : (P.info? ty).map (·.size) = some cs.length)
    (h : wpList P ops Q rest (a.put op.dst (.agg cs.toArray)) w) : wpList P ops Q (op :: rest) a w :=
  wpList_step fun K hK => by
    rw [if_pos hw]
    exact wp_load_mid ty x ho b o hx cs d hc hu hd hi (hK _ _ h)
theorem ev_one (x : Ev) : x.cells.all (·.oneCell') = true := by simp [Ev.cells, Value.oneCell']
set_option maxHeartbeats 4000000 in
set_option maxRecDepth 100000 in
theorem find_any (m : Mv) (w : World) (hf : m.fits) (hl : m.lies w) (hn : m.es.length ≤ 4398046511104) (hs : ∀ r ∈ m.es, r.d.raw.size ≤ maxLen) :
    Calls Try.prog 8 #[.agg m.cells] w fun e w' => e = .returned (.tuple #[.agg (findV m.es).1.cells, .bool (findV m.es).2.1, .int .i64 (findV m.es).2.2]) ∧ Below w.heap.size w w' := by
  have hi5 : (Try.prog.info? 28).map (·.size) = some 5 := by kernel_rfl
  have HI5 := Lib.hid hi5
  have hi12 : (Try.prog.info? 40).map (·.size) = some 12 := by kernel_rfl
  have HI := Lib.hid hi12
  have hB0 : Below w.heap.size w ((w.alloc (.cells m.cells 26)).alloc (.cells ev1.cells 28)) := ((Below.refl w.heap.size w).alloc (Nat.le_refl _) _).alloc (by simp) _
  have hM0 : Has ((w.alloc (.cells m.cells 26)).alloc (.cells ev1.cells 28)) w.heap.size 26 m.cells := (Has.fresh w _ _).alloc _
  have hG0 : Has ((w.alloc (.cells m.cells 26)).alloc (.cells ev1.cells 28)) (w.heap.size + 1) 28 ev1.cells := by
    have h := Has.fresh (w.alloc (.cells m.cells 26)) 28 ev1.cells
    rw [World.size_alloc] at h
    exact h
  have hL0 := lies_es hl hB0
  have hcap := hl.2.2.2.1
  have HF := Lib.hid hf.2.2.2.2.2.2.2
  have HS := Lib.hid hs
  clear hf hl hi5 hi12 hs
  rcases Ed.non_or m.es with h | ⟨k, h⟩
  · have HX := Lib.hid (idx_non (c := m.ec) hL0 hn h)
    rw [findV_non h]
    have HB0 := Lib.hid hB0
    have HM0 := Lib.hid hM0
    have HG0 := Lib.hid hG0
    clear hB0 hM0 hn h hL0 hG0
    obtain ⟨id, rep, op, aa, tc, rd, ra, z, rc, qA, qs, qc, aA, an, ac, uA, us, uc, eA, es, ec⟩ := m
    dsimp only [Mv.cells] at *
    go_enter Try.func8, Try.ntmps8
    go_wp2_with (first
      | (go_at_call 15; refine HX.out.mono ?_; rintro e w1 ⟨rfl, B1⟩; have HB1 := Lib.hid (HB0.out.trans (B1.mono HB0.out.size)); have HG1 := Lib.hid (HG0.out.below B1 HG0.out.lt); clear B1)
      | (refine wpList_store_row rfl 28 (.tmp 2) (.tmp 11) rfl (w.heap.size + 1) ev1.cells rfl rfl 28 _ HG1.out HI5.out rfl (ev_one _) ?_))
    refine bodyPost_ret (results_row_tmp2 rfl _ _ (w.heap.size + 1) 28 ev1.cells _ rfl (HG1.out.row _) Try.underlying28 rfl HI5.out) rfl ?_
    exact ⟨rfl, below_setRow HB1.out (by omega) _⟩
  · obtain ⟨hk, _⟩ := id h
    have HX := Lib.hid (idx_fst (c := m.ec) hL0 hn h)
    obtain ⟨g, o, hA, _, hg, hc⟩ := hL0.at_ hk
    have HC := Lib.hid hc
    have hk0 : (0 : Int) ≤ (k : Int) := by omega
    have hk1 : (k : Int) < (m.es.length : Int) := by omega
    have HH := Lib.hid h
    have HB0 := Lib.hid hB0
    have HM0 := Lib.hid hM0
    have HG0 := Lib.hid hG0
    have HL0 := Lib.hid hL0
    clear hB0 hM0 h hL0 hG0 hc
    obtain ⟨id, rep, op, aa, tc, rd, ra, z, rc, qA, qs, qc, aA, an, ac, uA, us, uc, eA, es, ec⟩ := m
    dsimp only [Mv.cells] at *
    subst hA
    have d0 : decide ((k : Int) < 0) = false := by rw [decide_eq_false_iff_not]; omega
    have s1 : IntKind.i64.wrap ((k : Int) + 1) = (k : Int) + 1 := IntWalk.i64_in _ (by omega)
    have k2 : (k : Int) + 1 ≤ (es.length : Int) := by omega
    have k3 : (k : Int) + 1 ≤ (ec : Int) := by omega
    have k4 : (0 : Int) ≤ (k : Int) + 1 := by omega
    have HSD := Lib.hid (fun (W : World) => srow_drop (w := W) (lo := 0) (hi := W.heap.size) (g := g) (o := o) (c := ec) (k := k + 1) (es := es))
    rcases Ed.non_or (es.drop (k + 1)) with h2 | ⟨j, h2⟩
    · obtain ⟨_, hV⟩ := findV_one HH.out h2
      have HCT : Hid (∀ (W : World), Srow rcl 12 W 0 W.heap.size (some ⟨g, o, none⟩) es → Calls Try.prog 16 #[.slice (if ec = k + 1 then some ⟨g, o, none⟩ else some ⟨g, o + (k + 1) * 12, none⟩) (es.length - (k + 1)) (ec - (k + 1)), .func (.func 12) #[] #[]] W fun e w' => e = .returned (.bool false) ∧ Below W.heap.size W w') := fun W hS => by
        have h9 := contains_any (es.drop (k + 1)) _ (ec - (k + 1)) W (HSD.out W hS hcap) (by rw [List.length_drop]; omega)
        rw [List.length_drop] at h9
        refine h9.mono fun e w' ⟨⟨b, he, hb⟩, hB⟩ => ⟨?_, hB⟩
        rcases hb with ⟨rfl, _⟩ | ⟨_, q, hq, hq2, _⟩
        · exact he
        · have := h2 _ (List.getElem_mem hq)
          rw [hq2] at this
          cases this
      rw [hV]
      have hsz := HS.out es[k] (List.getElem_mem hk)
      have hft := (HF.out es[k] (List.getElem_mem hk)).2.2.1
      clear hV h2 HSD HH
      generalize es[k] = r at *
      have HSND := Lib.hid (fun W : World => sound_any r W hsz)
      have HSD := Lib.hid (fun W : World => said_any r hft W)
      clear hsz hft
      by_cases hne2 : ec = k + 1
      · subst hne2
        have hz0 : es.length - (k + 1) = 0 := by omega
        simp only [↓reduceIte, Nat.sub_self, hz0] at HCT
        clear hz0
        cases hso : r.sound
        · rw [hso] at HSND
          simp only [Bool.false_eq_true, if_false]
          clear hso HSD
          go_enter Try.func8, Try.ntmps8
          go_wp2_with (first
            | (go_at_call 15; refine HX.out.mono ?_; rintro e w1 ⟨rfl, B1⟩; have HB1 := Lib.hid (HB0.out.trans (B1.mono HB0.out.size)); have HG1 := Lib.hid (HG0.out.below B1 HG0.out.lt); have HM1 := Lib.hid (HM0.out.below B1 HM0.out.lt); have HS1 := Lib.hid ((HL0.out.keep B1).more (Nat.le_refl _) B1.size); have c12 : w1.cell? ⟨w.heap.size, 12, none⟩ = some (.slice (some ⟨g, o, none⟩) es.length (k + 1)) := (by rw [HM1.out.cell]; rfl); have HC1 := Lib.hid (range_below B1 hg HC.out); have hg1 : Hid (g < w1.heap.size) := Nat.lt_of_lt_of_le hg B1.size; clear B1)
            | (go_at_call 16; refine (HCT.out _ HS1.out).mono ?_; rintro e w2 ⟨rfl, B2⟩; have HB2 := Lib.hid (HB1.out.trans (B2.mono HB1.out.size)); have HG2 := Lib.hid (HG1.out.below B2 HG1.out.lt); have HM2 := Lib.hid (HM1.out.below B2 HM1.out.lt); have d12 : w2.cell? ⟨w.heap.size, 12, none⟩ = some (.slice (some ⟨g, o, none⟩) es.length (k + 1)) := (by rw [HM2.out.cell]; rfl); have HC2 := Lib.hid (range_below B2 hg1.out HC1.out); have hg2 : Hid (g < w2.heap.size) := Nat.lt_of_lt_of_le hg1.out B2.size; clear B2)
            | (refine wpList_load_midG (by rfl) 40 (.tmp 22) rfl g _ rfl (rcl r) _ HC2.out Try.underlying40 rfl HI.out ?_)
            | (go_at_call 17; refine (HSND.out _).mono ?_; rintro e w3 ⟨rfl, B3⟩; have HB3 := Lib.hid (HB2.out.trans (B3.mono HB2.out.size)); have HG3 := Lib.hid (HG2.out.below B3 HG2.out.lt); have f12 : w3.cell? ⟨w.heap.size, 12, none⟩ = some (.slice (some ⟨g, o, none⟩) es.length (k + 1)) := (by rw [(HM2.out.below B3 HM2.out.lt).cell]; rfl); have HC3 := Lib.hid (range_below B3 hg2.out HC2.out); clear B3)
            | (refine wpList_store_row rfl 28 (.tmp 2) (.tmp 27) rfl (w.heap.size + 1) ev1.cells rfl rfl 28 _ HG3.out HI5.out rfl (ev_one _) ?_))
          refine bodyPost_ret (results_row_tmp2 rfl _ _ (w.heap.size + 1) 28 ev1.cells _ rfl (HG3.out.row _) Try.underlying28 rfl HI5.out) rfl ?_
          exact ⟨rfl, below_setRow HB3.out (by omega) _⟩
        · rw [hso] at HSND
          simp only [if_true]
          clear hso
          go_enter Try.func8, Try.ntmps8
          go_wp2_with (first
            | (go_at_call 15; refine HX.out.mono ?_; rintro e w1 ⟨rfl, B1⟩; have HB1 := Lib.hid (HB0.out.trans (B1.mono HB0.out.size)); have HG1 := Lib.hid (HG0.out.below B1 HG0.out.lt); have HM1 := Lib.hid (HM0.out.below B1 HM0.out.lt); have HS1 := Lib.hid ((HL0.out.keep B1).more (Nat.le_refl _) B1.size); have c12 : w1.cell? ⟨w.heap.size, 12, none⟩ = some (.slice (some ⟨g, o, none⟩) es.length (k + 1)) := (by rw [HM1.out.cell]; rfl); have HC1 := Lib.hid (range_below B1 hg HC.out); have hg1 : Hid (g < w1.heap.size) := Nat.lt_of_lt_of_le hg B1.size; clear B1)
            | (go_at_call 16; refine (HCT.out _ HS1.out).mono ?_; rintro e w2 ⟨rfl, B2⟩; have HB2 := Lib.hid (HB1.out.trans (B2.mono HB1.out.size)); have HG2 := Lib.hid (HG1.out.below B2 HG1.out.lt); have HM2 := Lib.hid (HM1.out.below B2 HM1.out.lt); have d12 : w2.cell? ⟨w.heap.size, 12, none⟩ = some (.slice (some ⟨g, o, none⟩) es.length (k + 1)) := (by rw [HM2.out.cell]; rfl); have HC2 := Lib.hid (range_below B2 hg1.out HC1.out); have hg2 : Hid (g < w2.heap.size) := Nat.lt_of_lt_of_le hg1.out B2.size; clear B2)
            | (refine wpList_load_midG (by rfl) 40 (.tmp 22) rfl g _ rfl (rcl r) _ HC2.out Try.underlying40 rfl HI.out ?_)
            | (go_at_call 17; refine (HSND.out _).mono ?_; rintro e w3 ⟨rfl, B3⟩; have HB3 := Lib.hid (HB2.out.trans (B3.mono HB2.out.size)); have HG3 := Lib.hid (HG2.out.below B3 HG2.out.lt); have f12 : w3.cell? ⟨w.heap.size, 12, none⟩ = some (.slice (some ⟨g, o, none⟩) es.length (k + 1)) := (by rw [(HM2.out.below B3 HM2.out.lt).cell]; rfl); have HC3 := Lib.hid (range_below B3 hg2.out HC2.out); clear B3)
            | (refine wpList_load_mid rfl 40 (.tmp 31) rfl g _ rfl (rcl r) _ HC3.out Try.underlying40 rfl HI.out ?_)
            | (go_at_call 18; refine (HSD.out _).mono ?_; rintro e w4 ⟨rfl, B4⟩; have HB4 := Lib.hid (HB3.out.trans (B4.mono HB3.out.size)); have HG4 := Lib.hid (HG3.out.below B4 HG3.out.lt); clear B4)
            | (refine wpList_store_row rfl 28 (.tmp 2) (.tmp 33) rfl (w.heap.size + 1) r.saysE.cells rfl rfl 28 _ HG4.out HI5.out rfl (ev_one _) ?_))
          refine bodyPost_ret (results_row_tmp2 rfl _ _ (w.heap.size + 1) 28 r.saysE.cells _ rfl (HG4.out.row _) Try.underlying28 rfl HI5.out) rfl ?_
          exact ⟨rfl, below_setRow HB4.out (by omega) _⟩
      · simp only [if_neg hne2] at HCT
        have hne : k + 1 < ec := by omega
        cases hso : r.sound
        · rw [hso] at HSND
          simp only [Bool.false_eq_true, if_false]
          clear hso HSD
          go_enter Try.func8, Try.ntmps8
          go_wp2_with (first
            | (go_at_call 15; refine HX.out.mono ?_; rintro e w1 ⟨rfl, B1⟩; have HB1 := Lib.hid (HB0.out.trans (B1.mono HB0.out.size)); have HG1 := Lib.hid (HG0.out.below B1 HG0.out.lt); have HM1 := Lib.hid (HM0.out.below B1 HM0.out.lt); have HS1 := Lib.hid ((HL0.out.keep B1).more (Nat.le_refl _) B1.size); have c12 : w1.cell? ⟨w.heap.size, 12, none⟩ = some (.slice (some ⟨g, o, none⟩) es.length ec) := (by rw [HM1.out.cell]; rfl); have HC1 := Lib.hid (range_below B1 hg HC.out); have hg1 : Hid (g < w1.heap.size) := Nat.lt_of_lt_of_le hg B1.size; clear B1)
            | (go_at_call 16; refine (HCT.out _ HS1.out).mono ?_; rintro e w2 ⟨rfl, B2⟩; have HB2 := Lib.hid (HB1.out.trans (B2.mono HB1.out.size)); have HG2 := Lib.hid (HG1.out.below B2 HG1.out.lt); have HM2 := Lib.hid (HM1.out.below B2 HM1.out.lt); have d12 : w2.cell? ⟨w.heap.size, 12, none⟩ = some (.slice (some ⟨g, o, none⟩) es.length ec) := (by rw [HM2.out.cell]; rfl); have HC2 := Lib.hid (range_below B2 hg1.out HC1.out); have hg2 : Hid (g < w2.heap.size) := Nat.lt_of_lt_of_le hg1.out B2.size; clear B2)
            | (refine wpList_load_midG (by rfl) 40 (.tmp 22) rfl g _ rfl (rcl r) _ HC2.out Try.underlying40 rfl HI.out ?_)
            | (go_at_call 17; refine (HSND.out _).mono ?_; rintro e w3 ⟨rfl, B3⟩; have HB3 := Lib.hid (HB2.out.trans (B3.mono HB2.out.size)); have HG3 := Lib.hid (HG2.out.below B3 HG2.out.lt); have f12 : w3.cell? ⟨w.heap.size, 12, none⟩ = some (.slice (some ⟨g, o, none⟩) es.length ec) := (by rw [(HM2.out.below B3 HM2.out.lt).cell]; rfl); have HC3 := Lib.hid (range_below B3 hg2.out HC2.out); clear B3)
            | (refine wpList_store_row rfl 28 (.tmp 2) (.tmp 27) rfl (w.heap.size + 1) ev1.cells rfl rfl 28 _ HG3.out HI5.out rfl (ev_one _) ?_))
          refine bodyPost_ret (results_row_tmp2 rfl _ _ (w.heap.size + 1) 28 ev1.cells _ rfl (HG3.out.row _) Try.underlying28 rfl HI5.out) rfl ?_
          exact ⟨rfl, below_setRow HB3.out (by omega) _⟩
        · rw [hso] at HSND
          simp only [if_true]
          clear hso
          go_enter Try.func8, Try.ntmps8
          go_wp2_with (first
            | (go_at_call 15; refine HX.out.mono ?_; rintro e w1 ⟨rfl, B1⟩; have HB1 := Lib.hid (HB0.out.trans (B1.mono HB0.out.size)); have HG1 := Lib.hid (HG0.out.below B1 HG0.out.lt); have HM1 := Lib.hid (HM0.out.below B1 HM0.out.lt); have HS1 := Lib.hid ((HL0.out.keep B1).more (Nat.le_refl _) B1.size); have c12 : w1.cell? ⟨w.heap.size, 12, none⟩ = some (.slice (some ⟨g, o, none⟩) es.length ec) := (by rw [HM1.out.cell]; rfl); have HC1 := Lib.hid (range_below B1 hg HC.out); have hg1 : Hid (g < w1.heap.size) := Nat.lt_of_lt_of_le hg B1.size; clear B1)
            | (go_at_call 16; refine (HCT.out _ HS1.out).mono ?_; rintro e w2 ⟨rfl, B2⟩; have HB2 := Lib.hid (HB1.out.trans (B2.mono HB1.out.size)); have HG2 := Lib.hid (HG1.out.below B2 HG1.out.lt); have HM2 := Lib.hid (HM1.out.below B2 HM1.out.lt); have d12 : w2.cell? ⟨w.heap.size, 12, none⟩ = some (.slice (some ⟨g, o, none⟩) es.length ec) := (by rw [HM2.out.cell]; rfl); have HC2 := Lib.hid (range_below B2 hg1.out HC1.out); have hg2 : Hid (g < w2.heap.size) := Nat.lt_of_lt_of_le hg1.out B2.size; clear B2)
            | (refine wpList_load_midG (by rfl) 40 (.tmp 22) rfl g _ rfl (rcl r) _ HC2.out Try.underlying40 rfl HI.out ?_)
            | (go_at_call 17; refine (HSND.out _).mono ?_; rintro e w3 ⟨rfl, B3⟩; have HB3 := Lib.hid (HB2.out.trans (B3.mono HB2.out.size)); have HG3 := Lib.hid (HG2.out.below B3 HG2.out.lt); have f12 : w3.cell? ⟨w.heap.size, 12, none⟩ = some (.slice (some ⟨g, o, none⟩) es.length ec) := (by rw [(HM2.out.below B3 HM2.out.lt).cell]; rfl); have HC3 := Lib.hid (range_below B3 hg2.out HC2.out); clear B3)
            | (refine wpList_load_mid rfl 40 (.tmp 31) rfl g _ rfl (rcl r) _ HC3.out Try.underlying40 rfl HI.out ?_)
            | (go_at_call 18; refine (HSD.out _).mono ?_; rintro e w4 ⟨rfl, B4⟩; have HB4 := Lib.hid (HB3.out.trans (B4.mono HB3.out.size)); have HG4 := Lib.hid (HG3.out.below B4 HG3.out.lt); clear B4)
            | (refine wpList_store_row rfl 28 (.tmp 2) (.tmp 33) rfl (w.heap.size + 1) r.saysE.cells rfl rfl 28 _ HG4.out HI5.out rfl (ev_one _) ?_))
          refine bodyPost_ret (results_row_tmp2 rfl _ _ (w.heap.size + 1) 28 r.saysE.cells _ rfl (HG4.out.row _) Try.underlying28 rfl HI5.out) rfl ?_
          exact ⟨rfl, below_setRow HB4.out (by omega) _⟩
    · rw [findV_two HH.out h2]
      have HCT : Hid (∀ (W : World), Srow rcl 12 W 0 W.heap.size (some ⟨g, o, none⟩) es → Calls Try.prog 16 #[.slice (if ec = k + 1 then some ⟨g, o, none⟩ else some ⟨g, o + (k + 1) * 12, none⟩) (es.length - (k + 1)) (ec - (k + 1)), .func (.func 12) #[] #[]] W fun e w' => e = .returned (.bool true) ∧ Below W.heap.size W w') := fun W hS => by
        have h9 := contains_any (es.drop (k + 1)) _ (ec - (k + 1)) W (HSD.out W hS hcap) (by rw [List.length_drop]; omega)
        rw [List.length_drop] at h9
        refine h9.mono fun e w' ⟨⟨b, he, hb⟩, hB⟩ => ⟨?_, hB⟩
        rcases hb with ⟨_, h3⟩ | ⟨rfl, _⟩
        · obtain ⟨hq, hq2, _⟩ := h2
          have := h3 _ (List.getElem_mem hq)
          rw [hq2] at this
          cases this
        · exact he
      have hne : k + 1 < ec := by
        obtain ⟨hq, _⟩ := h2
        rw [List.length_drop] at hq
        omega
      have hne2 : ¬ ec = k + 1 := by omega
      simp only [if_neg hne2] at HCT
      have hne3 : ((ec : Int) = (k : Int) + 1) = False := by simp; omega
      clear HSD h2 HH
      go_enter Try.func8, Try.ntmps8
      go_wp2_with (first
        | (go_at_call 15; refine HX.out.mono ?_; rintro e w1 ⟨rfl, B1⟩; have HB1 := Lib.hid (HB0.out.trans (B1.mono HB0.out.size)); have HG1 := Lib.hid (HG0.out.below B1 HG0.out.lt); have HM1 := Lib.hid (HM0.out.below B1 HM0.out.lt); have HS1 := Lib.hid ((HL0.out.keep B1).more (Nat.le_refl _) B1.size); have c12 : w1.cell? ⟨w.heap.size, 12, none⟩ = some (.slice (some ⟨g, o, none⟩) es.length ec) := (by rw [HM1.out.cell]; rfl); have HC1 := Lib.hid (range_below B1 hg HC.out); have hg1 : Hid (g < w1.heap.size) := Nat.lt_of_lt_of_le hg B1.size; clear B1)
        | (go_at_call 16; refine (HCT.out _ HS1.out).mono ?_; rintro e w2 ⟨rfl, B2⟩; have HB2 := Lib.hid (HB1.out.trans (B2.mono HB1.out.size)); have HG2 := Lib.hid (HG1.out.below B2 HG1.out.lt); have HM2 := Lib.hid (HM1.out.below B2 HM1.out.lt); have d12 : w2.cell? ⟨w.heap.size, 12, none⟩ = some (.slice (some ⟨g, o, none⟩) es.length ec) := (by rw [HM2.out.cell]; rfl); have HC2 := Lib.hid (range_below B2 hg1.out HC1.out); have hg2 : Hid (g < w2.heap.size) := Nat.lt_of_lt_of_le hg1.out B2.size; clear B2)
        | (refine wpList_store_row rfl 28 (.tmp 2) (.tmp 27) rfl (w.heap.size + 1) ev1.cells rfl rfl 28 _ HG2.out HI5.out rfl (ev_one _) ?_))
      refine bodyPost_ret (results_row_tmp2 rfl _ _ (w.heap.size + 1) 28 ev1.cells _ rfl (HG2.out.row _) Try.underlying28 rfl HI5.out) rfl ?_
      exact ⟨rfl, below_setRow HB2.out (by omega) _⟩
end Go.Proofs.Ytapbcepjcnnkgab
