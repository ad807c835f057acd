/- EdnsBack: the walk, whole. -/
import Derived.Test.YtapbcepjcnnkgabM4
import Derived.Test.YtapbcepjcnnkgabEdBkC
namespace Go.Proofs.Ytapbcepjcnnkgab
open Go.RowKit Go.Sort Go.Shelf

set_option maxHeartbeats 1000000 in
set_option maxRecDepth 100000 in
theorem back_long (w : World) (m : Mv) (code : Nat) (x : Ev) (most : Int) (hlen : 1000 < m.es.length) :
    Calls Try.prog 3 #[.agg m.cells, .int .u16 code, .agg x.cells, .int .i64 most] w fun e w' => e = .returned (.bool true) ∧ Below w.heap.size w w' := by
  have d0 : decide ((1000 : Int) < (m.es.length : Int)) = true := by rw [decide_eq_true_iff]; omega
  have HW := Lib.hid (fun W : World => edWakes W)
  clear hlen
  obtain ⟨id, rep, op, aa, tc, rd, ra, z, rc, qA, qs, qc, aA, an, ac, uA, us, uc, eA, es, ec⟩ := m
  obtain ⟨sz, hi, ve, fl, opt⟩ := x
  dsimp only [Mv.cells, Ev.cells] at *
  have HB0 : Hid (Below w.heap.size w ((w.alloc (.cells #[.int .u16 id, .bool rep, .int .u8 op, .bool aa, .bool tc, .bool rd, .bool ra, .int .u8 z, .int .u8 rc, .slice qA qs.length qc, .slice aA an.length ac, .slice uA us.length uc, .slice eA es.length ec] 26)).alloc (.cells #[.int .u16 sz, .int .u8 hi, .int .u8 ve, .int .u16 fl, .string opt] 28))) := ((Below.refl _ _).alloc (Nat.le_refl _) _).alloc (by simp) _
  go_enter Try.func3, Try.ntmps3
  go_wp2_with (first
    | (go_at_call 4
       revert HB0
       generalize (w.alloc _).alloc _ = w0
       intro HB0
       refine (HW.out _).mono ?_
       rintro e w1 ⟨rfl, B1⟩
       have HB1 := Lib.hid (HB0.out.trans (B1.mono HB0.out.size))
       clear B1))
  go_ret
  exact ⟨rfl, HB1.out⟩
theorem walk_EdnsBack (w : World) (m : Mv) (hf : m.fits) (hl : m.lies w) (hm : m.near) (code : Int) (hc : (Lit.int .u16 code).wf = true) (x : Ev) (hx : x.fits) (hs : x.opt.size ≤ 140737488351232) (most : Int) (_hm : (Lit.int .i64 most).wf = true) :
    Calls Try.prog 3 #[m.val, .int .u16 code, x.val, .int .i64 most] w fun e w' => e = .returned (.bool true) ∧ Below w.heap.size w w' := by
  obtain ⟨code, rfl, hcl⟩ := wf_u16i hc
  by_cases hlen : m.es.length ≤ 1000
  · by_cases h1 : code ≤ 4095
    · cases hok : x.ok
      · exact back_bad w m hl hm code hcl x hx hs most hlen h1 hok
      · exact back_ok w m hf hl hm code hcl x hx hs most hlen h1 hok
    · exact back_code w m code hcl x hx hs most hlen (by omega)
  · exact back_long w m code x most (by omega)
end Go.Proofs.Ytapbcepjcnnkgab
