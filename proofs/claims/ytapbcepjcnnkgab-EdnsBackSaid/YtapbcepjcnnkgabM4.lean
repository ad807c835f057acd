/- Texts of the proofs, merged. -/
import Derived.Test.YtapbcepjcnnkgabM2
import Derived.Test.YtapbcepjcnnkgabEdSetC
import Derived.Deep.CutRange
import Derived.Test.YtapbcepjcnnkgabEdWakes
import Derived.Test.YtapbcepjcnnkgabRrEqR
import Derived.BigQuiet
/- EdnsBack: what is known within the walk. -/
namespace Go.Proofs.Ytapbcepjcnnkgab
open Go.RowKit Go.Sort Go.Shelf

/-- the message and what the OPT is to say lie in blocks of the call's own. -/
structure BkW (w W : World) (cm cx : Array Value) : Prop where
  m : Has W w.heap.size 26 cm
  x : Has W (w.heap.size + 1) 28 cx
  b : Below w.heap.size w W
  s : w.heap.size + 2 ≤ W.heap.size
section
variable {w W W' : World} {cm cx : Array Value}
theorem BkW.grown (h : BkW w W cm cx) (g : W.grownBy W' none) : BkW w W' cm cx :=
  ⟨h.m.grown g (by simp), h.x.grown g (by simp), grown_none g h.b h.b.size, Nat.le_trans h.s g.size⟩
theorem BkW.keep (h : BkW w W cm cx) (hb : Below W.heap.size W W') : BkW w W' cm cx := by
  have hs := h.s
  exact ⟨h.m.below hb (by omega), h.x.below hb (by omega), h.b.trans (hb.mono (by omega)), Nat.le_trans hs hb.size⟩
theorem BkW.set (h : BkW w W cm cx) {p : Addr} (hp : w.heap.size + 2 ≤ p.block) (v : Value) : BkW w (W.setCell p v) cm cx :=
  ⟨h.m.far (by omega) v, h.x.far (by omega) v, h.b.setCell (by omega) v, by simpa using h.s⟩
end
theorem has_range {w : World} {g : Nat} {t : TypeId} {cs : Array Value} (h : Has w g t cs) : w.rangeAt g 0 cs.toList := fun j v hj => by
  rw [Nat.zero_add, h.cell, ← Array.getElem?_toList]
  exact hj
theorem lim_facts (x : Ev) (most : Int) : 512 ≤ limV true x.size most ∧ (512 < limV true x.size most → limV true x.size most ≤ most ∧ limV true x.size most ≤ x.size) := by
  rw [lim_eq]
  simp only [if_true]
  omega
end Go.Proofs.Ytapbcepjcnnkgab
/- EdnsBack: the walk, where the code is too great. -/
namespace Go.Proofs.Ytapbcepjcnnkgab
open Go.RowKit Go.Sort Go.Shelf

set_option maxHeartbeats 8000000 in
set_option maxRecDepth 1000000 in
theorem back_code (w : World) (m : Mv) (code : Nat) (hc : code ≤ 65535) (x : Ev) (hx : x.fits) (hs : x.opt.size ≤ 140737488351232) (most : Int) (hlen : m.es.length ≤ 1000) (h1 : 4095 < code) :
    Calls Try.prog 3 #[.agg m.cells, .int .u16 code, .agg x.cells, .int .i64 most] w fun e w' => e = .returned (.bool true) ∧ Below w.heap.size w w' := by
  have d0 : decide ((1000 : Int) < (m.es.length : Int)) = false := by rw [decide_eq_false_iff_not]; omega
  have hx1 := hx.1
  have HLIM := Lib.hid (fun W : World => lim_any true x hx most W)
  obtain ⟨k1, k2⟩ := lim_facts x most
  generalize limV true x.size most = lm at *
  have HW := Lib.hid (fun W : World => edWakes W)
  have hi13 : (Try.prog.info? 26).map (·.size) = some 13 := by kernel_rfl
  have HI := Lib.hid hi13
  have hi12 : (Try.prog.info? 40).map (·.size) = some 12 := by kernel_rfl
  have HI12 := Lib.hid hi12
  have hi5 : (Try.prog.info? 28).map (·.size) = some 5 := by kernel_rfl
  have HI5 := Lib.hid hi5
  clear hi13 hi12 hi5
  have HSET := Lib.hid (fun (W : World) (hb : Below w.heap.size w W) => set_code m code x W hc h1)
  have HREC := Lib.hid (fun W : World => rec_any x hx (by unfold maxLen; omega) W)
  have d5 : decide ((4095 : Int) < (code : Int)) = true := by rw [decide_eq_true_iff]; omega
  generalize x.err = er at *
  generalize x.outR = X at *
  clear hx hs hlen hc h1
  obtain ⟨id, rep, op, aa, tc, rd, ra, z, rc, qA, qs, qc, aA, an, ac, uA, us, uc, eA, es, ec⟩ := m
  obtain ⟨sz, hi, ve, fl, opt⟩ := x
  dsimp only [Mv.cells, Ev.cells, Ev.val] at *
  have HS0 : Hid (BkW w ((w.alloc (.cells #[.int .u16 id, .bool rep, .int .u8 op, .bool aa, .bool tc, .bool rd, .bool ra, .int .u8 z, .int .u8 rc, .slice qA qs.length qc, .slice aA an.length ac, .slice uA us.length uc, .slice eA es.length ec] 26)).alloc (.cells #[.int .u16 sz, .int .u8 hi, .int .u8 ve, .int .u16 fl, .string opt] 28)) #[.int .u16 id, .bool rep, .int .u8 op, .bool aa, .bool tc, .bool rd, .bool ra, .int .u8 z, .int .u8 rc, .slice qA qs.length qc, .slice aA an.length ac, .slice uA us.length uc, .slice eA es.length ec] #[.int .u16 sz, .int .u8 hi, .int .u8 ve, .int .u16 fl, .string opt]) := by
    refine ⟨(Has.fresh w _ _).alloc _, ?_, ((Below.refl _ _).alloc (Nat.le_refl _) _).alloc (by simp) _, by simp⟩
    have h := Has.fresh (w.alloc (.cells #[.int .u16 id, .bool rep, .int .u8 op, .bool aa, .bool tc, .bool rd, .bool ra, .int .u8 z, .int .u8 rc, .slice qA qs.length qc, .slice aA an.length ac, .slice uA us.length uc, .slice eA es.length ec] 26)) 28 #[.int .u16 sz, .int .u8 hi, .int .u8 ve, .int .u16 fl, .string opt]
    rw [World.size_alloc] at h
    exact h
  go_enter Try.func3, Try.ntmps3
  go_upto_region 4 with (first
    | (go_at_call 5
       revert HS0
       generalize (w.alloc _).alloc _ = w0
       intro HS0
       refine (HLIM.out _).mono ?_
       rintro e w1 ⟨rfl, B1⟩
       have HS1 := Lib.hid (HS0.out.keep B1)
       clear B1 HS0))
  have cx0 : w1.cell? ⟨w.heap.size + 1, 0, none⟩ = some (.int .u16 sz) := HS1.out.x.cell 0
  go_cut [45] from 28 to 45 (fun c wx => c = .bool false ∧ wx = w1)
  case first =>
    have d1 : decide (lm < 512) = false := by rw [decide_eq_false_iff_not]; omega
    by_cases h5 : 512 < lm
    · have d2 : decide (512 < lm) = true := by rw [decide_eq_true_iff]; exact h5
      have d3 : decide (most < lm) = false := by rw [decide_eq_false_iff_not]; have := (k2 h5).1; omega
      have d4 : decide ((sz : Int) < lm) = false := by rw [decide_eq_false_iff_not]; have := (k2 h5).2; omega
      have s9 : wrap64 (sz : Int) = (sz : Int) := by simp only [wrap64]; omega
      clear k1 k2 h5
      go_wp2
      go_meet
      exact ⟨rfl, rfl⟩
    · have d2 : decide (512 < lm) = false := by rw [decide_eq_false_iff_not]; exact h5
      clear k1 k2 h5
      go_wp2
      go_meet
      exact ⟨rfl, rfl⟩
  case rest =>
    obtain ⟨rfl, rfl⟩ := hcut
    clear k1 k2 cx0 hx1
    go_wp2_with (first
      | (refine wpList_load_row rfl 26 (.tmp 4) rfl w.heap.size rfl 26 #[.int .u16 id, .bool rep, .int .u8 op, .bool aa, .bool tc, .bool rd, .bool ra, .int .u8 z, .int .u8 rc, .slice qA qs.length qc, .slice aA an.length ac, .slice uA us.length uc, .slice eA es.length ec] (0, 0) _ HS1.out.m Try.underlying26 rfl HI.out ?_)
      | (go_at_call 6
         refine (HSET.out _ HS1.out.b).mono ?_
         rintro e w2 ⟨rfl, B2⟩
         have HS2 := Lib.hid (HS1.out.keep B2)
         clear B2)
      | (refine wpList_store_boxed rfl 26 (.tmp 10) (.tmp 51) rfl 26 _ #[.int .u16 0, .bool false, .int .u8 0, .bool false, .bool false, .bool false, .bool false, .int .u8 0, .int .u8 0, .slice none 0 0, .slice none 0 0, .slice none 0 0, .slice none 0 0] rfl rfl HI.out rfl (by simp [Value.oneCell']) ?_
         intro w3 hY g3 hs3
         have HS3 := Lib.hid (HS2.out.grown g3)
         clear hY g3 hs3)
      | (refine wpList_load_row rfl 28 (.tmp 6) rfl (w.heap.size + 1) rfl 28 #[.int .u16 sz, .int .u8 hi, .int .u8 ve, .int .u16 fl, .string opt] (0, 0) _ HS3.out.x Try.underlying28 rfl HI5.out ?_)
      | (refine wpList_load_row rfl 28 (.tmp 6) rfl (w.heap.size + 1) rfl 28 #[.int .u16 sz, .int .u8 hi, .int .u8 ve, .int .u16 fl, .string opt] (0, 0) _ HS1.out.x Try.underlying28 rfl HI5.out ?_)
      | (go_at_call 7
         refine (HREC.out _).mono ?_
         rintro e w4 ⟨rfl, B4⟩
         have HS4 := Lib.hid (HS3.out.keep B4)
         clear B4)
      | (refine wpList_store_boxed rfl 40 (.tmp 12) (.tmp 58) rfl 40 _ X.cells rfl rfl HI12.out rfl (rec_one X) ?_
         intro w5 hY g5 hs5
         have HS5 := Lib.hid (HS4.out.grown g5)
         clear hY g5 hs5)
      | (go_at_call 4
         refine (HW.out _).mono ?_
         rintro e w6 ⟨rfl, B6⟩
         have HS6 := Lib.hid (HS5.out.keep B6)
         clear B6))
    go_ret
    exact ⟨rfl, HS6.out.b⟩
end Go.Proofs.Ytapbcepjcnnkgab
/- EdnsBack: the walk, where the OPT may not be. -/
namespace Go.Proofs.Ytapbcepjcnnkgab
open Go.RowKit Go.Sort Go.Shelf

set_option maxHeartbeats 8000000 in
set_option maxRecDepth 1000000 in
theorem back_bad (w : World) (m : Mv) (hl : m.lies w) (hm : m.near) (code : Nat) (hc : code ≤ 65535) (x : Ev) (hx : x.fits) (hs : x.opt.size ≤ 140737488351232) (most : Int) (hlen : m.es.length ≤ 1000) (h1 : code ≤ 4095) (hok : x.ok = false) :
    Calls Try.prog 3 #[.agg m.cells, .int .u16 code, .agg x.cells, .int .i64 most] w fun e w' => e = .returned (.bool true) ∧ Below w.heap.size w w' := by
  have d0 : decide ((1000 : Int) < (m.es.length : Int)) = false := by rw [decide_eq_false_iff_not]; omega
  have hx1 := hx.1
  have HLIM := Lib.hid (fun W : World => lim_any true x hx most W)
  obtain ⟨k1, k2⟩ := lim_facts x most
  generalize limV true x.size most = lm at *
  have HW := Lib.hid (fun W : World => edWakes W)
  have hi13 : (Try.prog.info? 26).map (·.size) = some 13 := by kernel_rfl
  have HI := Lib.hid hi13
  have hi12 : (Try.prog.info? 40).map (·.size) = some 12 := by kernel_rfl
  have HI12 := Lib.hid hi12
  have hi5 : (Try.prog.info? 28).map (·.size) = some 5 := by kernel_rfl
  have HI5 := Lib.hid hi5
  clear hi13 hi12 hi5
  have HSET := Lib.hid (fun (W : World) (hb : Below w.heap.size w W) => set_bad m code x W hc hx (by unfold maxLen; omega) (lies_later hl hb) hm h1 hok)
  have HREC := Lib.hid (fun W : World => rec_any x hx (by unfold maxLen; omega) W)
  have d5 : decide ((4095 : Int) < (code : Int)) = false := by rw [decide_eq_false_iff_not]; omega
  have eE : x.err = 70 := if_neg (by rw [hok]; decide)
  rw [eE] at HREC
  clear eE
  generalize x.outR = X at *
  clear hl hm hx hs hlen hc h1 hok
  obtain ⟨id, rep, op, aa, tc, rd, ra, z, rc, qA, qs, qc, aA, an, ac, uA, us, uc, eA, es, ec⟩ := m
  obtain ⟨sz, hi, ve, fl, opt⟩ := x
  dsimp only [Mv.cells, Ev.cells, Ev.val] at *
  have HS0 : Hid (BkW w ((w.alloc (.cells #[.int .u16 id, .bool rep, .int .u8 op, .bool aa, .bool tc, .bool rd, .bool ra, .int .u8 z, .int .u8 rc, .slice qA qs.length qc, .slice aA an.length ac, .slice uA us.length uc, .slice eA es.length ec] 26)).alloc (.cells #[.int .u16 sz, .int .u8 hi, .int .u8 ve, .int .u16 fl, .string opt] 28)) #[.int .u16 id, .bool rep, .int .u8 op, .bool aa, .bool tc, .bool rd, .bool ra, .int .u8 z, .int .u8 rc, .slice qA qs.length qc, .slice aA an.length ac, .slice uA us.length uc, .slice eA es.length ec] #[.int .u16 sz, .int .u8 hi, .int .u8 ve, .int .u16 fl, .string opt]) := by
    refine ⟨(Has.fresh w _ _).alloc _, ?_, ((Below.refl _ _).alloc (Nat.le_refl _) _).alloc (by simp) _, by simp⟩
    have h := Has.fresh (w.alloc (.cells #[.int .u16 id, .bool rep, .int .u8 op, .bool aa, .bool tc, .bool rd, .bool ra, .int .u8 z, .int .u8 rc, .slice qA qs.length qc, .slice aA an.length ac, .slice uA us.length uc, .slice eA es.length ec] 26)) 28 #[.int .u16 sz, .int .u8 hi, .int .u8 ve, .int .u16 fl, .string opt]
    rw [World.size_alloc] at h
    exact h
  go_enter Try.func3, Try.ntmps3
  go_upto_region 4 with (first
    | (go_at_call 5
       revert HS0
       generalize (w.alloc _).alloc _ = w0
       intro HS0
       refine (HLIM.out _).mono ?_
       rintro e w1 ⟨rfl, B1⟩
       have HS1 := Lib.hid (HS0.out.keep B1)
       clear B1 HS0))
  have cx0 : w1.cell? ⟨w.heap.size + 1, 0, none⟩ = some (.int .u16 sz) := HS1.out.x.cell 0
  go_cut [45] from 28 to 45 (fun c wx => c = .bool false ∧ wx = w1)
  case first =>
    have d1 : decide (lm < 512) = false := by rw [decide_eq_false_iff_not]; omega
    by_cases h5 : 512 < lm
    · have d2 : decide (512 < lm) = true := by rw [decide_eq_true_iff]; exact h5
      have d3 : decide (most < lm) = false := by rw [decide_eq_false_iff_not]; have := (k2 h5).1; omega
      have d4 : decide ((sz : Int) < lm) = false := by rw [decide_eq_false_iff_not]; have := (k2 h5).2; omega
      have s9 : wrap64 (sz : Int) = (sz : Int) := by simp only [wrap64]; omega
      clear k1 k2 h5
      go_wp2
      go_meet
      exact ⟨rfl, rfl⟩
    · have d2 : decide (512 < lm) = false := by rw [decide_eq_false_iff_not]; exact h5
      clear k1 k2 h5
      go_wp2
      go_meet
      exact ⟨rfl, rfl⟩
  case rest =>
    obtain ⟨rfl, rfl⟩ := hcut
    clear k1 k2 cx0 hx1
    go_wp2_with (first
      | (refine wpList_load_row rfl 26 (.tmp 4) rfl w.heap.size rfl 26 #[.int .u16 id, .bool rep, .int .u8 op, .bool aa, .bool tc, .bool rd, .bool ra, .int .u8 z, .int .u8 rc, .slice qA qs.length qc, .slice aA an.length ac, .slice uA us.length uc, .slice eA es.length ec] (0, 0) _ HS1.out.m Try.underlying26 rfl HI.out ?_)
      | (go_at_call 6
         refine (HSET.out _ HS1.out.b).mono ?_
         rintro e w2 ⟨rfl, B2⟩
         have HS2 := Lib.hid (HS1.out.keep B2)
         clear B2)
      | (refine wpList_store_boxed rfl 26 (.tmp 10) (.tmp 51) rfl 26 _ #[.int .u16 0, .bool false, .int .u8 0, .bool false, .bool false, .bool false, .bool false, .int .u8 0, .int .u8 0, .slice none 0 0, .slice none 0 0, .slice none 0 0, .slice none 0 0] rfl rfl HI.out rfl (by simp [Value.oneCell']) ?_
         intro w3 hY g3 hs3
         have HS3 := Lib.hid (HS2.out.grown g3)
         clear hY g3 hs3)
      | (refine wpList_load_row rfl 28 (.tmp 6) rfl (w.heap.size + 1) rfl 28 #[.int .u16 sz, .int .u8 hi, .int .u8 ve, .int .u16 fl, .string opt] (0, 0) _ HS3.out.x Try.underlying28 rfl HI5.out ?_)
      | (refine wpList_load_row rfl 28 (.tmp 6) rfl (w.heap.size + 1) rfl 28 #[.int .u16 sz, .int .u8 hi, .int .u8 ve, .int .u16 fl, .string opt] (0, 0) _ HS1.out.x Try.underlying28 rfl HI5.out ?_)
      | (go_at_call 7
         refine (HREC.out _).mono ?_
         rintro e w4 ⟨rfl, B4⟩
         have HS4 := Lib.hid (HS3.out.keep B4)
         clear B4)
      | (refine wpList_store_boxed rfl 40 (.tmp 12) (.tmp 58) rfl 40 _ X.cells rfl rfl HI12.out rfl (rec_one X) ?_
         intro w5 hY g5 hs5
         have HS5 := Lib.hid (HS4.out.grown g5)
         clear hY g5 hs5)
      | (go_at_call 4
         refine (HW.out _).mono ?_
         rintro e w6 ⟨rfl, B6⟩
         have HS6 := Lib.hid (HS5.out.keep B6)
         clear B6))
    go_ret
    exact ⟨rfl, HS6.out.b⟩
end Go.Proofs.Ytapbcepjcnnkgab
