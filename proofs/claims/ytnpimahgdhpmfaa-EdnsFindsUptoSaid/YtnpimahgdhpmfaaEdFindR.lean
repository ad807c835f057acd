/- Find: the document's. -/
import Derived.Test.YtnpimahgdhpmfaaEdFind
namespace Go.Proofs.Ytnpimahgdhpmfaa
open Go.RowKit Go.Sort Go.Shelf

theorem rv_dt {W : World} {g : Nat} {r : Rv} {t : TypeId} (h : Has W g t r.cells) : W.rangeAt g 4 r.d.cells.toList := fun j v hj => by
  have hlt : j < 8 := (List.getElem?_eq_some_iff.1 hj).1
  rw [h.cell, ← hj]
  match j, hlt with
  | 0, _ => rfl
  | 1, _ => rfl
  | 2, _ => rfl
  | 3, _ => rfl
  | 4, _ => rfl
  | 5, _ => rfl
  | 6, _ => rfl
  | 7, _ => rfl
def lastO (l : List Rv) : Rv := l.getLastD Rv.none
theorem filter_take {es : List Rv} {k : Nat} (h : k < es.length) : (es.take (k + 1)).filter Ed.isO = if Ed.isO es[k] then (es.take k).filter Ed.isO ++ [es[k]] else (es.take k).filter Ed.isO := by
  rw [List.take_succ_eq_append_getElem h, List.filter_append]
  cases he : Ed.isO es[k] <;> simp [he]
theorem lastO_app (l : List Rv) (r : Rv) : lastO (l ++ [r]) = r := by
  unfold lastO
  rw [List.getLastD_eq_getLast?]
  simp
/-- what the document's Find knows in its loop. -/
def FR (w : World) (mc : Array Value) (X : Rv) (W : World) : Prop :=
  Has W (w.heap.size + 2) 41 X.cells ∧ Has W (w.heap.size + 1) 28 ev1.cells ∧ Has W w.heap.size 26 mc ∧ Below w.heap.size w W ∧ w.heap.size + 3 ≤ W.heap.size
theorem FR.row {w : World} {mc : Array Value} {X : Rv} {W : World} (h : FR w mc X W) (r : Rv) : FR w mc r (W.setRow (w.heap.size + 2) r.cells) :=
  ⟨h.1.row _, h.2.1.rowFar (by omega) _, h.2.2.1.rowFar (by omega) _, below_setRow h.2.2.2.1 (by omega) _, by have := h.2.2.2.2; simpa using this⟩
set_option maxHeartbeats 4000000 in
set_option maxRecDepth 100000 in
theorem refFind_any (m : Mv) (w : World) (hf : m.fits) (hl : m.lies w) (hn : m.es.length ≤ 4398046511104) (hs : ∀ r ∈ m.es, r.d.raw.size ≤ 8796093022208) :
    Calls Try.prog 8 #[.agg m.cells] w fun e w' => e = .returned (.tuple #[.agg (findV m.es).1.cells, .bool (findV m.es).2.1, .int .i64 (findV m.es).2.2]) ∧ Below w.heap.size w w' := by
  have hi5 : (Try.prog.info? 28).map (·.size) = some 5 := by kernel_rfl
  have HI5 := Lib.hid hi5
  have hi12 : (Try.prog.info? 41).map (·.size) = some 12 := by kernel_rfl
  have HI := Lib.hid hi12
  have hi8 : (Try.prog.info? 39).map (·.size) = some 8 := by kernel_rfl
  have HI8 := Lib.hid hi8
  have hR0 : FR w m.cells Rv.none (((w.alloc (.cells m.cells 26)).alloc (.cells ev1.cells 28)).alloc (.cells Rv.none.cells 41)) := by
    refine ⟨?_, ?_, ((Has.fresh w _ _).alloc _).alloc _, (((Below.refl w.heap.size w).alloc (Nat.le_refl _) _).alloc (by simp) _).alloc (by simp; omega) _, by simp⟩
    · have h := Has.fresh ((w.alloc (.cells m.cells 26)).alloc (.cells ev1.cells 28)) 41 Rv.none.cells
      rw [World.size_alloc, World.size_alloc] at h
      exact h
    · have h := Has.fresh (w.alloc (.cells m.cells 26)) 28 ev1.cells
      rw [World.size_alloc] at h
      exact h.alloc _
  have hcap := hl.2.2.2.1
  have HF := Lib.hid hf.2.2.2.2.2.2.2
  have HS := Lib.hid hs
  have HL := Lib.hid hl.2.2.2.2.2
  have HR0 := Lib.hid hR0
  clear hf hl hi5 hi12 hs hi8 hR0
  obtain ⟨V, hV⟩ : ∃ V, findV m.es = V := ⟨_, rfl⟩
  rw [hV]
  have HV := Lib.hid hV
  clear hV
  obtain ⟨id, rep, op, aa, tc, rd, ra, z, rc, qA, qs, qc, aA, an, ac, uA, us, uc, eA, es, ec⟩ := m
  dsimp only [Mv.cells] at *
  go_enter Try.func8, Try.ntmps8
  go_wp2
  go_loopw [5, 7] (fun c i wr => ∃ k : Nat, i = .int .i64 k ∧ k ≤ es.length ∧ c = .int .i64 (((es.take k).filter Ed.isO).length : Nat) ∧ Hid (FR w #[.int .u16 id, .bool rep, .int .u8 op, .bool aa, .bool tc, .bool rd, .bool ra, .int .u8 z, .int .u8 rc, .slice qA qs.length qc, .slice aA an.length ac, .slice uA us.length uc, .slice eA es.length ec] (lastO ((es.take k).filter Ed.isO)) wr)) (fun _ i _ => es.length - (intOf i).toNat)
  case atStart => exact ⟨0, rfl, Nat.zero_le _, rfl, HR0.out⟩
  case round =>
    obtain ⟨k, rfl, hk, rfl, HR⟩ := hrel
    have c12 : wr.cell? ⟨w.heap.size, 12, none⟩ = some (.slice eA es.length ec) := by rw [HR.out.2.2.1.cell]; rfl
    by_cases hlt : k < es.length
    · obtain ⟨g, o, rfl, _, hg, hc⟩ := HL.out.at_ hlt
      have hfl : ((es.take k).filter Ed.isO).length ≤ k := Nat.le_trans (List.length_filter_le _ _) (by simp; omega)
      have HT := Lib.hid (filter_take hlt)
      have HC := Lib.hid (range_below HR.out.2.2.2.1 hg hc)
      have hq : ((es[k].ty : Int) == 41) = Ed.isO es[k] := by unfold Ed.isO; rw [Bool.eq_iff_iff]; simp; omega
      have e1 : wr.cell? ⟨g, o + k * 12 + 1, none⟩ = some (.int .u16 es[k].ty) := HC.out 1 _ rfl
      have k0 : (0 : Int) ≤ (k : Int) := by omega
      have k1 : (k : Int) < (es.length : Int) := by omega
      clear hc
      generalize es[k] = r at *
      generalize hl2 : (es.take k).filter Ed.isO = l at *
      clear hl2
      cases hr : Ed.isO r
      · rw [hr] at hq
        have hT2 := HT.out
        rw [hr] at hT2
        simp only [Bool.false_eq_true, if_false] at hT2
        have HT2 := Lib.hid hT2
        clear hr hT2
        go_wp2
        go_roundw
        case rel => exact ⟨k + 1, by go_num, by omega, by rw [HT2.out], by rw [HT2.out]; exact HR.out⟩
        case measure => simp [intOf]; omega
      · rw [hr] at hq
        have hT2 := HT.out
        rw [hr] at hT2
        simp only [if_true] at hT2
        have HT2 := Lib.hid hT2
        clear hr hT2
        go_wp2_with (first
          | (refine wpList_load_mid rfl 41 (.tmp 25) rfl g _ rfl (rcl r) _ HC.out Try.underlying41 rfl HI.out ?_)
          | (refine wpList_store_row rfl 41 (.tmp 6) (.tmp 26) rfl (w.heap.size + 2) r.cells rfl rfl 41 _ HR.out.1 HI.out rfl (rec_one _) ?_))
        go_roundw
        case rel => exact ⟨k + 1, by go_num, by omega, by rw [HT2.out, List.length_append]; go_num, by rw [HT2.out, lastO_app]; exact HR.out.row r⟩
        case measure => simp [intOf]; omega
    · obtain rfl : k = es.length := by omega
      have hR := HR.out
      rw [List.take_length] at hR ⊢
      have hv := HV.out
      unfold findV at hv
      generalize hl2 : es.filter Ed.isO = l at *
      have hll : l.length ≤ es.length := by rw [← hl2]; exact List.length_filter_le _ _
      have hmem : ∀ x ∈ l, x ∈ es := fun x hx => by rw [← hl2] at hx; exact (List.mem_filter.1 hx).1
      have HME := Lib.hid hmem
      have HG := Lib.hid hR.2.1
      have HB := Lib.hid hR.2.2.2.1
      have HX0 := Lib.hid hR.1
      clear hl2 HV HR hmem hR
      match l, hv, hll with
      | [], hv, _ =>
        have HV := Lib.hid hv.symm
        clear hv
        rw [show (([] : List Rv).length : Int) = 0 from rfl]
        go_wp2_with (first
          | (refine wpList_store_row rfl 28 (.tmp 2) (.tmp 31) rfl (w.heap.size + 1) ev1.cells rfl rfl 28 _ HG.out HI5.out rfl (ev_one _) ?_))
        refine bodyPost_ret (results_row_tmp2 rfl _ _ (w.heap.size + 1) 28 ev1.cells _ rfl (HG.out.row _) Try.underlying28 rfl HI5.out) rfl ?_
        exact ⟨by rw [HV.out]; rfl, below_setRow HB.out (by omega) _⟩
      | a :: b :: rest, hv, hll =>
        have HV := Lib.hid hv.symm
        clear hv
        obtain ⟨N, hN⟩ : ∃ N, (a :: b :: rest).length = N := ⟨_, rfl⟩
        have hN2 : 1 < N := by rw [← hN]; simp
        rw [hN] at hll ⊢
        clear hN
        have d0 : ((N : Int) == 0) = false := beq_eq_false_iff_ne.2 (by omega)
        have d1 : decide ((1 : Int) < (N : Int)) = true := by rw [decide_eq_true_iff]; omega
        go_wp2_with (first
          | (refine wpList_store_row rfl 28 (.tmp 2) (.tmp 55) rfl (w.heap.size + 1) ev1.cells rfl rfl 28 _ HG.out HI5.out rfl (ev_one _) ?_))
        refine bodyPost_ret (results_row_tmp2 rfl _ _ (w.heap.size + 1) 28 ev1.cells _ rfl (HG.out.row _) Try.underlying28 rfl HI5.out) rfl ?_
        exact ⟨by rw [HV.out]; rfl, below_setRow HB.out (by omega) _⟩
      | [r], hv, _ =>
        rw [show (([r] : List Rv).length : Int) = 1 from rfl]
        have hX := HX0.out
        rw [show lastO [r] = r from rfl] at hX
        have hsz := HS.out r (HME.out r (by simp))
        have httl := (HF.out r (HME.out r (by simp))).2.2.1
        have HMAY := Lib.hid (fun W : World => refMay_any r.d.raw W hsz)
        have hq0 : (⟨#[0]⟩ : ByteArray).toList = [0] := by kernel_rfl
        have hq : (r.nm.toList == ([0] : List UInt8)) = r.root := by rw [← hq0, strB]; rfl
        have hq2 : (r.nm.toList != ([0] : List UInt8)) = !r.root := by rw [bne, hq]
        have HDB : Hid (dvB r.d r.d.rawOnly = r.bare) := rfl
        have HSO : Hid (r.sound = (r.root && r.bare && Ed.may r.d.raw.data.toList)) := rfl
        have HSA : Hid (r.saysE.cells = #[.int .u16 r.cl, .int .u8 ((r.ttl : Int) / 16777216), .int .u8 ((r.ttl : Int) / 65536 % 256), .int .u16 ((r.ttl : Int) % 65536), .string r.d.raw]) := rfl
        have HX := Lib.hid hX
        simp only at hv
        generalize r.saysE = sE at *
        generalize r.sound = so at *
        generalize r.root = b1 at *
        generalize r.bare = b2 at *
        generalize Ed.may r.d.raw.data.toList = b3 at *
        clear hX HX0 HME hsz hq0
        obtain ⟨nm, ty, cl, ttl, ra2, ho, ma, n0, n1, n2, n3, n4⟩ := r
        dsimp only [Rv.cells, Dv.cells, Dv.rawOnly] at *
        have e0 : wr.cell? ⟨w.heap.size + 2, 0, none⟩ = some (.string nm) := by rw [HX.out.cell]; rfl
        have e4 : wr.cell? ⟨w.heap.size + 2, 4, none⟩ = some (.string ra2) := by rw [HX.out.cell]; rfl
        have hso := HSO.out
        subst hso
        clear HSO
        cases b1
        · have HV : Hid (V = (ev1, false, 70)) := hv.symm
          clear hv
          go_wp2_with (first
            | (refine wpList_store_row rfl 28 (.tmp 2) (.tmp 55) rfl (w.heap.size + 1) ev1.cells rfl rfl 28 _ HG.out HI5.out rfl (ev_one _) ?_))
          refine bodyPost_ret (results_row_tmp2 rfl _ _ (w.heap.size + 1) 28 ev1.cells _ rfl (HG.out.row _) Try.underlying28 rfl HI5.out) rfl ?_
          exact ⟨by rw [HV.out]; rfl, below_setRow HB.out (by omega) _⟩
        · cases b3
          · have HV : Hid (V = (ev1, false, 70)) := by rw [Hid, ← hv]; cases b2 <;> rfl
            clear hv
            go_wp2_with (first
              | (go_at_call 24; refine (HMAY.out _).mono ?_; rintro e w1 ⟨rfl, B1⟩; have HG1 := Lib.hid (HG.out.below B1 HG.out.lt); have hx1 := HX.out.below B1 HX.out.lt; have HX1 := Lib.hid hx1; have HB1 := Lib.hid (HB.out.trans (B1.mono HB.out.size)); have e2 : w1.cell? ⟨w.heap.size + 2, 2, none⟩ = some (.int .u16 cl) := (by rw [hx1.cell]; rfl); have e3 : w1.cell? ⟨w.heap.size + 2, 3, none⟩ = some (.int .u32 ttl) := (by rw [hx1.cell]; rfl); have e4 : w1.cell? ⟨w.heap.size + 2, 4, none⟩ = some (.string ra2) := (by rw [hx1.cell]; rfl); have HD1 : Hid (w1.rangeAt (w.heap.size + 2) 4 (⟨ra2, ho, ma, n0, n1, n2, n3, n4⟩ : Dv).cells.toList) := rv_dt (r := ⟨nm, ty, cl, ttl, ⟨ra2, ho, ma, n0, n1, n2, n3, n4⟩⟩) hx1; clear B1 hx1)
              | (refine wpList_store_row rfl 28 (.tmp 2) (.tmp 55) rfl (w.heap.size + 1) ev1.cells rfl rfl 28 _ HG1.out HI5.out rfl (ev_one _) ?_))
            refine bodyPost_ret (results_row_tmp2 rfl _ _ (w.heap.size + 1) 28 ev1.cells _ rfl (HG1.out.row _) Try.underlying28 rfl HI5.out) rfl ?_
            exact ⟨by rw [HV.out]; rfl, below_setRow HB1.out (by omega) _⟩
          · cases b2
            · have HV : Hid (V = (ev1, false, 70)) := hv.symm
              clear hv
              go_wp2_with (first
                | (go_at_call 24; refine (HMAY.out _).mono ?_; rintro e w1 ⟨rfl, B1⟩; have HG1 := Lib.hid (HG.out.below B1 HG.out.lt); have hx1 := HX.out.below B1 HX.out.lt; have HX1 := Lib.hid hx1; have HB1 := Lib.hid (HB.out.trans (B1.mono HB.out.size)); have e2 : w1.cell? ⟨w.heap.size + 2, 2, none⟩ = some (.int .u16 cl) := (by rw [hx1.cell]; rfl); have e3 : w1.cell? ⟨w.heap.size + 2, 3, none⟩ = some (.int .u32 ttl) := (by rw [hx1.cell]; rfl); have e4 : w1.cell? ⟨w.heap.size + 2, 4, none⟩ = some (.string ra2) := (by rw [hx1.cell]; rfl); have HD1 : Hid (w1.rangeAt (w.heap.size + 2) 4 (⟨ra2, ho, ma, n0, n1, n2, n3, n4⟩ : Dv).cells.toList) := rv_dt (r := ⟨nm, ty, cl, ttl, ⟨ra2, ho, ma, n0, n1, n2, n3, n4⟩⟩) hx1; clear B1 hx1)
                | (refine wpList_load_midG (by rfl) 39 (.tmp 47) rfl (w.heap.size + 2) 4 rfl (⟨ra2, ho, ma, n0, n1, n2, n3, n4⟩ : Dv).cells.toList _ HD1.out Try.underlying39 rfl HI8.out ?_)
                | (refine wpList_neq_dataG (by rfl) (.tmp 48) (.tmp 52) rfl ⟨ra2, ho, ma, n0, n1, n2, n3, n4⟩ ⟨ra2, ⟨#[]⟩, ⟨#[]⟩, 0, 0, 0, 0, 0⟩ rfl rfl _ HDB.out ?_)
                | (refine wpList_store_row rfl 28 (.tmp 2) (.tmp 55) rfl (w.heap.size + 1) ev1.cells rfl rfl 28 _ HG1.out HI5.out rfl (ev_one _) ?_))
              refine bodyPost_ret (results_row_tmp2 rfl _ _ (w.heap.size + 1) 28 ev1.cells _ rfl (HG1.out.row _) Try.underlying28 rfl HI5.out) rfl ?_
              exact ⟨by rw [HV.out]; rfl, below_setRow HB1.out (by omega) _⟩
            · have HV : Hid (V = (sE, true, 0)) := hv.symm
              clear hv
              go_wp2_with (first
                | (go_at_call 24; refine (HMAY.out _).mono ?_; rintro e w1 ⟨rfl, B1⟩; have HG1 := Lib.hid (HG.out.below B1 HG.out.lt); have hx1 := HX.out.below B1 HX.out.lt; have HX1 := Lib.hid hx1; have HB1 := Lib.hid (HB.out.trans (B1.mono HB.out.size)); have e2 : w1.cell? ⟨w.heap.size + 2, 2, none⟩ = some (.int .u16 cl) := (by rw [hx1.cell]; rfl); have e3 : w1.cell? ⟨w.heap.size + 2, 3, none⟩ = some (.int .u32 ttl) := (by rw [hx1.cell]; rfl); have e4 : w1.cell? ⟨w.heap.size + 2, 4, none⟩ = some (.string ra2) := (by rw [hx1.cell]; rfl); have HD1 : Hid (w1.rangeAt (w.heap.size + 2) 4 (⟨ra2, ho, ma, n0, n1, n2, n3, n4⟩ : Dv).cells.toList) := rv_dt (r := ⟨nm, ty, cl, ttl, ⟨ra2, ho, ma, n0, n1, n2, n3, n4⟩⟩) hx1; clear B1 hx1)
                | (refine wpList_load_midG (by rfl) 39 (.tmp 47) rfl (w.heap.size + 2) 4 rfl (⟨ra2, ho, ma, n0, n1, n2, n3, n4⟩ : Dv).cells.toList _ HD1.out Try.underlying39 rfl HI8.out ?_)
                | (refine wpList_neq_dataG (by rfl) (.tmp 48) (.tmp 52) rfl ⟨ra2, ho, ma, n0, n1, n2, n3, n4⟩ ⟨ra2, ⟨#[]⟩, ⟨#[]⟩, 0, 0, 0, 0, 0⟩ rfl rfl _ HDB.out ?_)
                | (refine wpList_store_row rfl 28 (.tmp 2) (.tmp 74) rfl (w.heap.size + 1) sE.cells rfl (congrArg Value.agg HSA.out.symm) 28 _ HG1.out HI5.out rfl (ev_one _) ?_))
              refine bodyPost_ret (results_row_tmp2 rfl _ _ (w.heap.size + 1) 28 sE.cells _ rfl (HG1.out.row _) Try.underlying28 rfl HI5.out) rfl ?_
              exact ⟨by rw [HV.out]; rfl, below_setRow HB1.out (by omega) _⟩
end Go.Proofs.Ytnpimahgdhpmfaa
