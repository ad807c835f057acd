/- A message's code: by both. -/
import Derived.Test.YtnpimahgdhpmfaaEdSnd
import Derived.BigQuiet
namespace Go.Proofs.Ytnpimahgdhpmfaa
open Go.RowKit Go.Sort Go.Shelf

theorem fst_find {es : List Rv} {k : Nat} (h : Ed.Fst es k) : ∃ hk : k < es.length, es.find? Ed.isO = some (es[k]'hk) := by
  obtain ⟨hk, h1, h2⟩ := h
  refine ⟨hk, ?_⟩
  have h0 : es.find? Ed.isO = (es.take k ++ es.drop k).find? Ed.isO := by rw [List.take_append_drop]
  rw [h0, List.find?_append]
  have h3 : (es.take k).find? Ed.isO = none := by
    rw [List.find?_eq_none]
    intro x hx
    simp [h2 x hx]
  rw [h3, List.drop_eq_getElem_cons hk, List.find?_cons, h1]
  rfl
theorem non_find {es : List Rv} (h : Ed.Non es) : es.find? Ed.isO = none := by
  rw [List.find?_eq_none]
  intro x hx
  simp [h x hx]
theorem fst_uniq {es : List Rv} {k j : Nat} (h : Ed.Fst es k) (h2 : Ed.Fst es j) : k = j := by
  obtain ⟨hk, a1, a2⟩ := h
  obtain ⟨hj, b1, b2⟩ := h2
  rcases Nat.lt_trichotomy k j with h | h | h
  · have := b2 (es[k]'hk) (by rw [List.mem_take_iff_getElem]; exact ⟨k, by omega, rfl⟩)
    rw [a1] at this; cases this
  · exact h
  · have := a2 (es[j]'hj) (by rw [List.mem_take_iff_getElem]; exact ⟨j, by omega, rfl⟩)
    rw [b1] at this; cases this
theorem field_high (a b c d e : Value) (W : World) : (Instr.field 28 (.agg #[a, b, c, d, e]) 1).run Try.prog W = .ok b W := by
  rfl
/-- the code. -/
def codeV (rc : Nat) (es : List Rv) : Nat := match es.find? Ed.isO with
  | none => rc
  | some r => rc + 16 * (r.ttl / 16777216)
/-- what is known of a message within a call. -/
theorem lies_es {m : Mv} {w W : World} (h : m.lies w) (hb : Below w.heap.size w W) : Srow rcl 12 W 0 W.heap.size m.eA m.es := (h.2.2.2.2.2.keep hb).more (Nat.le_refl _) hb.size
theorem idx_non {es : List Rv} {A : Option Addr} {c : Nat} {w : World} (hS : Srow rcl 12 w 0 w.heap.size A es) (hn : es.length ≤ 4398046511104) (h : Ed.Non es) :
    Calls Try.prog 19 #[.slice A es.length c, .func (.func 20) #[] #[]] w fun e w' => e = .returned (.int .i64 (-1)) ∧ Below w.heap.size w w' := (idx_any es A c w hS hn).mono fun e w' ⟨⟨i, he, hi⟩, hb⟩ => by
  rcases hi with ⟨_, rfl⟩ | ⟨k, ⟨h1, h2, _⟩, _⟩
  · exact ⟨he, hb⟩
  · have := h _ (List.getElem_mem h1)
    rw [h2] at this
    cases this
theorem idx_fst {es : List Rv} {A : Option Addr} {c k : Nat} {w : World} (hS : Srow rcl 12 w 0 w.heap.size A es) (hn : es.length ≤ 4398046511104) (h : Ed.Fst es k) :
    Calls Try.prog 19 #[.slice A es.length c, .func (.func 20) #[] #[]] w fun e w' => e = .returned (.int .i64 k) ∧ Below w.heap.size w w' := (idx_any es A c w hS hn).mono fun e w' ⟨⟨i, he, hi⟩, hb⟩ => by
  rcases hi with ⟨h2, _⟩ | ⟨j, h2, rfl⟩
  · obtain ⟨h1, h3, _⟩ := h
    have := h2 _ (List.getElem_mem h1)
    rw [h3] at this
    cases this
  · rw [fst_uniq h h2]
    exact ⟨he, hb⟩
set_option maxHeartbeats 1000000 in
set_option maxRecDepth 100000 in
theorem code_any (m : Mv) (w : World) (hf : m.fits) (hl : m.lies w) (hn : m.es.length ≤ 4398046511104) :
    Calls Try.prog 9 #[.agg m.cells] w fun e w' => e = .returned (.int .u16 (codeV m.rc m.es : Nat)) ∧ Below w.heap.size w w' := by
  have hB0 := (Below.refl w.heap.size w).alloc (Nat.le_refl _) (.cells m.cells 26)
  have hM0 := Has.fresh w 26 m.cells
  have hrc := hf.2.2.2.1
  rcases Ed.non_or m.es with h | ⟨k, h⟩
  · have HX := Lib.hid (idx_non (c := m.ec) (lies_es hl hB0) hn h)
    have HV : Hid (codeV m.rc m.es = m.rc) := by unfold codeV; rw [Hid, non_find h]
    have HB0 := Lib.hid hB0
    have HM0 := Lib.hid hM0
    clear hB0 hM0 hf hl hn h
    unfold Mv.cells at *
    go_enter Try.func9, Try.ntmps9
    go_wp2_with (go_at_call 19; refine HX.out.mono ?_; rintro e w1 ⟨rfl, B1⟩; have HB1 := Lib.hid (HB0.out.trans (B1.mono HB0.out.size)); clear B1)
    go_ret
    exact ⟨by rw [HV.out]; rfl, HB1.out⟩
  · obtain ⟨hk, hfd⟩ := fst_find h
    have HX := Lib.hid (idx_fst (c := m.ec) (lies_es hl hB0) hn h)
    have HV : Hid (codeV m.rc m.es = m.rc + 16 * ((m.es[k]'hk).ttl / 16777216)) := by unfold codeV; rw [Hid, hfd]
    have hft := hf.2.2.2.2.2.2.2 (m.es[k]'hk) (List.getElem_mem hk)
    have hcap := hl.2.2.2.1
    obtain ⟨g, o, hA, _, hg, hc⟩ := hl.2.2.2.2.2.at_ hk
    have hmg : g < w.heap.size := hg
    have HC := Lib.hid hc
    have hi12 : (Try.prog.info? 41).map (·.size) = some 12 := by kernel_rfl
    have HI := Lib.hid hi12
    have hk0 : (0 : Int) ≤ (k : Int) := by omega
    have hk1 : (k : Int) < (m.es.length : Int) := by omega
    have hs := hft.2.2.1
    generalize m.es[k] = r at *
    have HSD := Lib.hid (fun W : World => said_any r hs W)
    obtain ⟨hi, hhi⟩ : ∃ hi, r.ttl / 16777216 = hi := ⟨_, rfl⟩
    have hh : hi ≤ 255 := by omega
    have eS : r.saysE.cells = #[.int .u16 r.cl, .int .u8 hi, .int .u8 (r.ttl / 65536 % 256 : Nat), .int .u16 (r.ttl % 65536 : Nat), .string r.d.raw] := by rw [← hhi]; rfl
    rw [hhi] at HV
    rw [eS] at HSD
    have HB0 := Lib.hid hB0
    have HM0 := Lib.hid hM0
    clear hB0 hM0 hf hl hn h hfd hc hi12 hft hs hhi eS hg
    obtain ⟨id, rep, op, aa, tc, rd, ra, z, rc, qA, qs, qc, aA, an, ac, uA, us, uc, eA, es, ec⟩ := m
    dsimp only [Mv.cells] at *
    subst hA
    have hfl := field_high
    go_enter Try.func9, Try.ntmps9
    go_wp2_with (first
      | (go_at_call 19; refine HX.out.mono ?_; rintro e w1 ⟨rfl, B1⟩; have HB1 := Lib.hid (HB0.out.trans (B1.mono HB0.out.size)); have c12 : w1.cell? ⟨w.heap.size, 12, none⟩ = some (.slice (some ⟨g, o, none⟩) es.length ec) := (by rw [(HM0.out.below B1 HM0.out.lt).cell]; rfl); have HC1 := Lib.hid (range_below HB1.out hmg HC.out); clear B1)
      | (refine wpList_load_mid rfl 41 (.tmp 17) rfl g _ rfl (rcl r) _ HC1.out Try.underlying41 rfl HI.out ?_)
      | (go_at_call 23; refine (HSD.out _).mono ?_; rintro e w2 ⟨rfl, B2⟩; have HB2 := Lib.hid (HB1.out.trans (B2.mono HB1.out.size)); clear B2))
    go_ret
    exact ⟨by rw [HV.out]; rfl, HB2.out⟩
set_option maxHeartbeats 1000000 in
set_option maxRecDepth 100000 in
theorem refCode_any (m : Mv) (w : World) (hf : m.fits) (hl : m.lies w) (hn : m.es.length ≤ 4398046511104) :
    Calls Try.prog 10 #[.agg m.cells] w fun e w' => e = .returned (.int .u16 (codeV m.rc m.es : Nat)) ∧ Below w.heap.size w w' := by
  have hB0 := (Below.refl w.heap.size w).alloc (Nat.le_refl _) (.cells m.cells 26)
  have hM0 := Has.fresh w 26 m.cells
  have hrc := hf.2.2.2.1
  have HF := Lib.hid hf.2.2.2.2.2.2.2
  have HS := Lib.hid (lies_es hl hB0)
  have hcap := hl.2.2.2.1
  have HB0 := Lib.hid hB0
  have HM0 := Lib.hid hM0
  clear hB0 hM0 hf hl
  obtain ⟨id, rep, op, aa, tc, rd, ra, z, rc, qA, qs, qc, aA, an, ac, uA, us, uc, eA, es, ec⟩ := m
  dsimp only [Mv.cells] at *
  have c12 : World.cell? _ ⟨w.heap.size, 12, none⟩ = some (.slice eA es.length ec) := (HM0.out).cell 12
  have c8 : World.cell? _ ⟨w.heap.size, 8, none⟩ = some (.int .u8 rc) := (HM0.out).cell 8
  obtain ⟨V, hV⟩ : ∃ V, codeV rc es = V := ⟨_, rfl⟩
  rw [hV]
  have HV := Lib.hid hV
  clear hV
  generalize hw0 : w.alloc _ = w0 at *
  have HW0 := Lib.hid hw0
  clear hw0
  go_enter Try.func10, Try.ntmps10
  go_wp2
  rw [HW0.out]
  go_loopw [3] (fun i wr => ∃ k : Nat, i = .int .i64 k ∧ k ≤ es.length ∧ Hid (Ed.Non (es.take k)) ∧ wr = w0) (fun i _ => es.length - (intOf i).toNat)
  case atStart => exact ⟨0, rfl, Nat.zero_le _, (fun _ h => by cases h), rfl⟩
  case round =>
    obtain ⟨k, rfl, hk, HM, rfl⟩ := hrel
    by_cases hlt : k < es.length
    · obtain ⟨g, o, rfl, _, hg, hc⟩ := HS.out.at_ hlt
      have hft := (HF.out es[k] (List.getElem_mem hlt)).2.2.1
      have HT : Hid (es.take (k + 1) = es.take k ++ [es[k]]) := List.take_succ_eq_append_getElem hlt
      have HX : Hid (Ed.isO es[k] = true → codeV rc es = rc + 16 * (es[k].ttl / 16777216)) := fun h => by
        obtain ⟨_, h2⟩ := fst_find (es := es) (k := k) ⟨hlt, h, HM.out⟩
        unfold codeV
        rw [h2]
      have e1 : wr.cell? ⟨g, o + k * 12 + 1, none⟩ = some (.int .u16 es[k].ty) := hc 1 _ rfl
      have e3 : wr.cell? ⟨g, o + k * 12 + 3, none⟩ = some (.int .u32 es[k].ttl) := hc 3 _ rfl
      have hq : ((es[k].ty : Int) == 41) = Ed.isO es[k] := by unfold Ed.isO; rw [Bool.eq_iff_iff]; simp; omega
      have k0 : (0 : Int) ≤ (k : Int) := by omega
      have k1 : (k : Int) < (es.length : Int) := by omega
      clear hc
      generalize es[k] = r at *
      cases hr : Ed.isO r
      · rw [hr] at hq
        have HR := Lib.hid hr
        clear hr
        go_wp2
        go_roundw
        case rel =>
          refine ⟨k + 1, by go_num, by omega, ?_, trivial⟩
          intro x hx
          rw [HT.out] at hx
          rcases List.mem_append.1 hx with hx | hx
          · exact HM.out x hx
          · rw [List.mem_singleton.1 hx]; exact HR.out
        case measure => simp [intOf]; omega
      · rw [hr] at hq
        have HXX := Lib.hid (HX.out hr)
        clear hr
        have s1 : IntKind.u16.wrap ((r.ttl : Int) / 16777216) = (r.ttl : Int) / 16777216 := by rw [IntKind.wrap_u16]; omega
        have s2 : IntKind.u16.wrap (16 * ((r.ttl : Int) / 16777216)) = 16 * ((r.ttl : Int) / 16777216) := by rw [IntKind.wrap_u16]; omega
        have s3 : IntKind.u16.wrap ((rc : Int) + 16 * ((r.ttl : Int) / 16777216)) = (rc : Int) + 16 * ((r.ttl : Int) / 16777216) := by rw [IntKind.wrap_u16]; omega
        have s4 : IntKind.u16.wrap (rc : Int) = (rc : Int) := by rw [IntKind.wrap_u16]; omega
        go_wp2
        go_quiet (fail)
        go_wp2
        go_ret
        exact ⟨by rw [← HV.out, HXX.out]; rfl, below_drewN HB0.out _⟩
    · obtain rfl : k = es.length := by omega
      have HXX : Hid (codeV rc es = rc) := by
        unfold codeV
        have h := HM.out
        rw [List.take_length] at h
        rw [Hid, non_find h]
      go_wp2
      go_ret
      exact ⟨by rw [← HV.out, HXX.out]; rfl, HB0.out⟩
end Go.Proofs.Ytnpimahgdhpmfaa
