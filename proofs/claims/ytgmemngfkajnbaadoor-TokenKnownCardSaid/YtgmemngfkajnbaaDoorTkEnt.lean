/- The program's Entries. -/
import Derived.Test.YtgmemngfkajnbaaDoorTkRead
namespace Go.Proofs.YtgmemngfkajnbaaDoor
open Go.RowKit

theorem results_tmp_cell_tmp {fn : Func} {t p u : Tmp} {ty : TypeId} (h : fn.results = #[.tmp t, .cell p ty, .tmp u]) (tmps : Array Value) (P : Program) (w : World) :
    (results fn tmps).run P w =
      ((asAddr (tmps.getD p undef)).run P w).andThen fun a w₁ => ((loadVar ty a).run P w₁).andThen fun v w₂ => .ok (.tuple #[tmps.getD t undef, v, tmps.getD u undef]) w₂ := by
  simp only [results, h]
  simp [Sem.run_bind, Result.andThen]
theorem results_tmp_row_tmp {P : Program} {fn : Func} {t p u : Tmp} {ty : TypeId} (h : fn.results = #[.tmp t, .cell p ty, .tmp u]) (tmps : Array Value) (w : World) (g : Nat) (t' : TypeId) (cs : Array Value) (d : TypeDesc)
    (hp : tmps.getD p undef = .pointer (some ⟨g, 0, none⟩)) (hg : Has w g t' cs)
    (hu : P.underlying ty = some d) (hd : (match d with | .struct _ | .array _ _ => true | _ => false) = true) (hi : (P.info? ty).map (·.size) = some cs.size) :
    (results fn tmps).run P w = .ok (.tuple #[tmps.getD t undef, .agg cs, tmps.getD u undef]) w := by
  rw [results_tmp_cell_tmp h tmps P w, hp]
  have : (asAddr (.pointer (some ⟨g, 0, none⟩))).run P w = .ok ⟨g, 0, none⟩ w := rfl
  rw [this]
  simp only [Result.andThen_ok, run_loadVar_row w g t' ty cs (0, 0) d hg hu hd hi]
theorem Ers.mono {w : World} {b b' : Nat} {v : Value} {out : List Ex} (h : Ers w b v out) (hb : b' ≤ b) : Ers w b' v out :=
  ⟨own_mono h.own hb, fun x hx => own_mono (h.dat x hx) hb, h.off⟩

/-- what Entries tells. -/
def EnP (s : ByteArray) (w : World) : Ending → World → Prop := fun e w' =>
  Below w.heap.size w w' ∧ if 262144 < s.size then e = .returned (.tuple #[.slice none 0 0, .agg #[.int .i64 0, .int .i64 0], .int .i64 2]) else
    match Tk.tells s.data.toList with
    | .err l c x => e = .returned (.tuple #[.slice none 0 0, .agg #[.int .i64 l, .int .i64 c], .int .i64 x])
    | .ok es => ∃ ve out, e = .returned (.tuple #[ve, .agg #[.int .i64 0, .int .i64 0], .int .i64 0]) ∧ Ers w' w.heap.size ve out ∧ out.map Ex.en = es
theorem play_errs : ∀ (ps : List Tk.Pc) (σ : Tk.St) (l c x : Nat), Tk.play ps σ = .err l c x → x = 80 ∨ x = 81
  | [], σ, l, c, x, h => by
    rw [Tk.play] at h
    split at h
    · cases h
    · cases h; exact .inr rfl
  | .bad _ :: _, σ, l, c, x, h => by rw [Tk.play] at h; cases h; exact .inl rfl
  | .ch _ :: ps, σ, l, c, x, h => by
    rw [Tk.play] at h
    split at h
    · exact play_errs ps _ _ _ _ h
    split at h
    · exact play_errs ps _ _ _ _ h
    split at h
    · split at h
      · cases h; exact .inr rfl
      · exact play_errs ps _ _ _ _ h
    · exact play_errs ps _ _ _ _ h
  | .rem _ :: ps, σ, l, c, x, h => by rw [Tk.play] at h; exact play_errs ps _ _ _ _ h
  | .bare _ :: ps, σ, l, c, x, h => by rw [Tk.play] at h; exact play_errs ps _ _ _ _ h
  | .quo _ :: ps, σ, l, c, x, h => by rw [Tk.play] at h; exact play_errs ps _ _ _ _ h

set_option maxHeartbeats 2000000 in
set_option maxRecDepth 100000 in
theorem entries_any (s : ByteArray) (w : World) : Calls Tryd.prog 4 #[.string s] w (EnP s w) := by
  have hi2 : (Tryd.prog.info? 24).map (·.size) = some 2 := by kernel_rfl
  have HI := Lib.hid hi2
  clear hi2
  by_cases hs : 262144 < s.size
  · have hs2 : (262144 : Int) < (s.size : Int) := by omega
    have HS := Lib.hid hs
    clear hs
    go_enter Tryd.func4, Tryd.ntmps4
    go_wp2
    refine bodyPost_ret (results_tmp_row_tmp rfl _ _ w.heap.size 24 #[.int .i64 0, .int .i64 0] _ rfl (Has.fresh w _ _) Tryd.underlying24 rfl HI.out) rfl ?_
    refine ⟨(Below.refl _ _).alloc (Nat.le_refl _) _, ?_⟩
    rw [if_pos HS.out]
    rfl
  · have hs1 : s.size ≤ 262144 := by omega
    have hs2 : ¬ (262144 : Int) < (s.size : Int) := by omega
    have HS := Lib.hid hs
    clear hs
    have e1 : ∀ c1 : Array Value, (w.alloc (.cells c1 24)).heap.size = w.heap.size + 1 := by simp
    have hR := read_any s (w.heap.size + 1) ((w.alloc (.cells #[.int .i64 0, .int .i64 0] 24)).alloc (.cells (lxc s 0 0 0 0 0 0 false 0 (.slice none 0 0) (.slice none 0 0)) 41)) hs1 (by
      have h := Has.fresh (w.alloc (.cells #[.int .i64 0, .int .i64 0] 24)) 41 (lxc s 0 0 0 0 0 0 false 0 (.slice none 0 0) (.slice none 0 0))
      rw [e1] at h
      exact h)
    have HP0 := Lib.hid (((Has.fresh w 24 #[.int .i64 0, .int .i64 0]).alloc (.cells (lxc s 0 0 0 0 0 0 false 0 (.slice none 0 0) (.slice none 0 0)) 41)).alloc (.cells #[.int .i64 0, .int .i64 0] 24))
    have HB0 := Lib.hid ((((Below.refl w.heap.size w).alloc (Nat.le_refl _) (.cells #[.int .i64 0, .int .i64 0] 24)).alloc (by simp) (.cells (lxc s 0 0 0 0 0 0 false 0 (.slice none 0 0) (.slice none 0 0)) 41)).alloc (by simp; omega) (.cells #[.int .i64 0, .int .i64 0] 24))
    have hsz : ((w.alloc (.cells #[.int .i64 0, .int .i64 0] 24)).alloc (.cells (lxc s 0 0 0 0 0 0 false 0 (.slice none 0 0) (.slice none 0 0)) 41)).heap.size = w.heap.size + 2 := by simp
    unfold RdP at hR
    rw [hsz] at hR
    have HK := Lib.hid (fun (w2 : World) (k : Kb (w.heap.size + 1) (w.heap.size + 2) (((w.alloc (.cells #[.int .i64 0, .int .i64 0] 24)).alloc (.cells (lxc s 0 0 0 0 0 0 false 0 (.slice none 0 0) (.slice none 0 0)) 41)).alloc (.cells #[.int .i64 0, .int .i64 0] 24)) w2) =>
      (⟨k.has HP0.out (by omega) (by omega), HB0.out.trans ((k.mono (b' := w.heap.size) (by omega)).below' (by omega))⟩ : Has w2 w.heap.size 24 #[.int .i64 0, .int .i64 0] ∧ Below w.heap.size w w2))
    clear hs1 e1 hsz HP0 HB0
    rcases hT : Tk.tells s.data.toList with ⟨l, c, x⟩ | es
    · rw [hT] at hR
      have hx := play_errs _ _ _ _ _ hT
      have hx2 : ((x : Int) != 0) = true := by rcases hx with rfl | rfl <;> rfl
      have HT := Lib.hid hT
      have HR := Lib.hid hR
      clear hT hR hx
      go_enter Tryd.func4, Tryd.ntmps4
      go_wp2_with (go_at_call 7; refine HR.out.mono ?_; rintro e w2 ⟨k2, rfl⟩; have HB2 := HK.out w2 k2; have r0 : w2.cell? ⟨w.heap.size, 0, none⟩ = some (.int .i64 0) := HB2.1.cell 0; have r1 : w2.cell? ⟨w.heap.size, 1, none⟩ = some (.int .i64 0) := HB2.1.cell 1; have f0 := HB2.1.free 0; have f1 := HB2.1.free 1; have HB3 := Lib.hid HB2; clear HB2 k2)
      have HW1 := Lib.hid (HB3.out.1.alloc (.cells #[.int .i64 l, .int .i64 c] 24))
      have HW2 := Lib.hid (Has.fresh w2 24 #[.int .i64 l, .int .i64 c])
      have HW3 := Lib.hid (HB3.out.2.alloc HB3.out.2.size (.cells #[.int .i64 l, .int .i64 c] 24))
      have hlt : w.heap.size < w2.heap.size := HB3.out.1.lt
      clear r0 r1 f0 f1 HB3 HK HR
      generalize w2.heap.size = gp at *
      generalize w2.alloc (.cells #[.int .i64 l, .int .i64 c] 24) = w3 at *
      have p0 : w3.cell? ⟨gp, 0, none⟩ = some (.int .i64 l) := HW2.out.cell 0
      have p1 : w3.cell? ⟨gp, 1, none⟩ = some (.int .i64 c) := HW2.out.cell 1
      have r0 : w3.cell? ⟨w.heap.size, 0, none⟩ = some (.int .i64 0) := HW1.out.cell 0
      have r1 : w3.cell? ⟨w.heap.size, 1, none⟩ = some (.int .i64 0) := HW1.out.cell 1
      have f0 := HW1.out.free 0
      have f1 := HW1.out.free 1
      go_region
      all_goals
        go_wp2
        refine bodyPost_ret (results_tmp_row_tmp rfl _ _ w.heap.size 24 #[.int .i64 l, .int .i64 c] _ rfl (show Has (World.drew _) _ _ _ from (HW1.out.set 0 _).set 1 _) Tryd.underlying24 rfl HI.out) rfl ?_
        refine ⟨((HW3.out.setCell (p := ⟨w.heap.size, 0, none⟩) (Nat.le_refl _) _).setCell (p := ⟨w.heap.size, 1, none⟩) (Nat.le_refl _) _).drew, ?_⟩
        rw [if_neg HS.out, HT.out]
        rfl
    · rw [hT] at hR
      have HT := Lib.hid hT
      have HR := Lib.hid hR
      clear hT hR
      go_enter Tryd.func4, Tryd.ntmps4
      go_wp2_with (go_at_call 7; refine HR.out.mono ?_; rintro e w2 ⟨k2, rfl, ve, out, c10, hE, hen⟩; have HB2 := HK.out w2 k2; have HA := HB2.1.alloc (.cells #[.int .i64 0, .int .i64 0] 24); have d10 := (World.grownBy_alloc w2 (.cells #[.int .i64 0, .int .i64 0] 24) none).cell c10 (by simp); have r0 : (w2.alloc (.cells #[.int .i64 0, .int .i64 0] 24)).cell? ⟨w.heap.size, 0, none⟩ = some (.int .i64 0) := HA.cell 0; have r1 : (w2.alloc (.cells #[.int .i64 0, .int .i64 0] 24)).cell? ⟨w.heap.size, 1, none⟩ = some (.int .i64 0) := HA.cell 1; have f0 := HA.free 0; have f1 := HA.free 1; have HB3 := Lib.hid HB2; have HE := Lib.hid hE; have HEN := Lib.hid hen; have HA2 := Lib.hid HA; clear HB2 k2 hE hen HA c10)
      refine bodyPost_ret (results_tmp_row_tmp rfl _ _ w.heap.size 24 #[.int .i64 0, .int .i64 0] _ rfl ((HA2.out.set 0 _).set 1 _) Tryd.underlying24 rfl HI.out) rfl ?_
      refine ⟨((HB3.out.2.alloc HB3.out.2.size _).setCell (p := ⟨w.heap.size, 0, none⟩) (Nat.le_refl _) _).setCell (p := ⟨w.heap.size, 1, none⟩) (Nat.le_refl _) _, ?_⟩
      rw [if_neg HS.out, HT.out]
      refine ⟨ve, out, rfl, ?_, HEN.out⟩
      exact (HE.out.far (g := w.heap.size) (by omega) (grown_set (grown_set (World.grownBy_alloc w2 _ _) 0 _) 1 _)).mono (by omega)
end Go.Proofs.YtgmemngfkajnbaaDoor
