/- Texts of the proofs, merged. -/
import Derived.Test.YtopcklpmeaghmaaGreatDoorG28
import Derived.Test.YtopcklpmeaghmaaGreatDoorG29
import Derived.Test.YtopcklpmeaghmaaGreatDoorG30
import Derived.Test.YtopcklpmeaghmaaGreatDoorG42
import Derived.Test.YtopcklpmeaghmaaGreatDoorG24
import Derived.Test.YtopcklpmeaghmaaGreatDoorG39
/- RdataWords: the words that tell data tell them again: the walk. -/
namespace Go.Proofs.YtopcklpmeaghmaaGreatDoor
open Go.RowKit

theorem wf_u16s {x : Int} (h : (Lit.int .u16 x).wf = true) : ∃ n : Nat, x = n ∧ n ≤ 65535 := by
  have h1 : IntKind.u16.min = 0 := rfl
  have h2 : IntKind.u16.max = 65535 := rfl
  simp only [Lit.wf, Bool.and_eq_true, decide_eq_true_eq] at h
  exact ⟨x.toNat, by omega, by omega⟩
theorem readR_other {o : List UInt8} {t : Nat} {ws : List Rd.W2} (h : ∀ x r, ws = x :: r → ¬ (x.1 = [92, 35] ∧ x.2 = false)) : Rd.readR o t ws = Rd.knownR o t ws := by
  cases ws with
  | nil => rfl
  | cons x r =>
    unfold Rd.readR
    simp only [h x r rfl, if_false]
/-- THE WORDS THAT TELL DATA TELL THEM AGAIN. -/
theorem readR_tell {t : Nat} {d : Dv} {o : List UInt8} (ho : Rd.nm o = true) (hf : d.fits) (h : Rd.ok t d.dt = true) : Rd.readR o t (Rd.tellQ d.dt (txs d) (Rd.parts t) 0) = some d.dt := by
  have hN : ∀ i, Rd.hasN d.dt i ≤ 4294967295 := fun i => by
    match i with
    | 0 => exact hf 0
    | 1 => exact hf 1
    | 2 => exact hf 2
    | 3 => exact hf 3
    | _ + 4 => exact hf 4
  by_cases hp : Rd.parts t = [4, 0, 0, 0, 0, 0, 0]
  · have hraw : d.dt.raw.length ≤ 65535 := ok_raw h
    obtain ⟨r, h1, h2⟩ := Rd.any_tell (ls := txs d) (n := 0) hraw
    have e : Rd.tellQ d.dt (txs d) [4, 0, 0, 0, 0, 0, 0] 0 = Rd.pcsQ d.dt (txs d) 0 4 := by simp [Rd.tellQ, Rd.pcsQ]
    rw [hp, e, h1]
    unfold Rd.readR
    simp only [and_self, if_true]
    rw [if_pos hp, h2, Option.map_some]
    rw [Rd.ok_parts, Bool.and_eq_true, hp] at h
    have hb := h.2
    generalize d.dt = q at *
    obtain ⟨qr, qh, qm, q0, q1, q2, q3, q4⟩ := q
    simp [Rd.bare, Rd.hasRaw, Rd.hasHost, Rd.hasMail, Rd.nums] at hb
    simp [hb]
  · rw [readR_other (Rd.first_no d.dt (txs d) hp)]
    refine Rd.known_tell2 ho hN (fun h16 => ?_) h hp
    subst h16
    obtain ⟨n, hn⟩ := fit_of h (p := 3) (by decide)
    exact (fit3 hn).1
theorem words_few {t : Nat} {d : Dv} (hf : d.fits) (h : Rd.ok t d.dt = true) : (∀ x ∈ Rd.tellQ d.dt (txs d) (Rd.parts t) 0, x.1.length ≤ 20000000) ∧ (Rd.tellQ d.dt (txs d) (Rd.parts t) 0).length ≤ 700007 ∧ (shS t d (txs d)).length ≤ 140737488355328 := by
  have hrl : d.dt.raw.length = d.raw.size := by simp [Dv.dt]
  have hraw := ok_raw h
  obtain ⟨q1, q2⟩ := txs_le d
  have hw := wds_words (ls := txs d) t hf (by omega) (fun x hx => by have := q2 x hx; omega)
  have hXl : ∀ p, (shX d (txs d) p).length ≤ 100000 := fun p => by
    unfold shX
    split
    · simp
    split
    · simp
    split
    · rw [List.length_map]; omega
    split
    · unfold cw; split <;> simp
    · simp
  have hcnt := wds_len (d := d.dt) hXl t 7
  rw [List.take_of_length_le (by rw [Rd.parts_len]; omega)] at hcnt
  have hjl := join_len (s := [32]) _ hw
  rw [show ([32] : List UInt8).length = 1 from rfl, sh_eq] at hjl
  have hmul := Nat.mul_le_mul_right (20000000 + 1) hcnt
  refine ⟨fun x hx => ?_, ?_, by omega⟩
  · have h1 := hw (Rd.wdB x) (by rw [wds_tell]; exact List.mem_map_of_mem hx)
    unfold Rd.wdB at h1
    split at h1
    · simp at h1; omega
    · exact h1
  · rw [wds_tell, List.length_map] at hcnt
    omega
theorem ws_own {w : World} {B : Nat} {v : Value} {ws : List Rd.W2} (h : Own w0 4 w B 57 v ws) (hl : ∀ x ∈ ws, x.1.length ≤ 20000000) : Ws w w.heap.size v ws := by
  rcases h.2 with ⟨rfl, h0⟩ | ⟨g, cap, cur, rfl, hb, hg, hc, hm, hcs, ht⟩
  · exact ⟨none, 0, by rw [h0], by omega, by omega, fun x hx => by have := hl x hx; omega, fun h1 => by omega⟩
  · refine ⟨_, cap, rfl, hc, by unfold maxLen at hm; omega, fun x hx => by have := hl x hx; omega, fun _ => ⟨g, 0, rfl, (Array.getElem?_eq_some_iff.1 hg).1, fun j hj => ⟨0, 0, fun i u hu => ?_⟩⟩⟩
    have hi : i < 4 := (List.getElem?_eq_some_iff.1 hu).1
    rw [cell_of_row w g _ cur 57 (0, 0) hg, Nat.zero_add]
    exact take_at ht (by rw [fl_get w0_len ws hj hi]; exact hu)
set_option maxHeartbeats 2000000 in
set_option maxRecDepth 100000 in
theorem rdRead_no (t : Int) (A : Option Addr) (n c : Nat) (o : ByteArray) (w : World) (ho : Rd.nm o.data.toList = false) (hos : o.size ≤ 140737488355328) :
    Calls Tryz.prog 6 #[.int .u16 t, .slice A n c, .string o] w fun e w' => e = .returned (.tuple #[.agg #[.string ⟨#[]⟩, .string ⟨#[]⟩, .string ⟨#[]⟩, .int .u32 0, .int .u32 0, .int .u32 0, .int .u32 0, .int .u32 0], .int .i64 11]) ∧ Below w.heap.size w w' := by
  have hck : ∀ (W : World), Calls Tryz.prog 19 #[.string o] W fun e w' => e = .returned (.int .i64 11) ∧ Below W.heap.size W w' := fun W => by
    have := nameIs_any o W hos
    rw [ho] at this
    exact this
  have HCK := Lib.hid hck
  have hB0 := ((Below.refl w.heap.size w).alloc (Nat.le_refl _) (.cells #[.string ⟨#[]⟩, .string ⟨#[]⟩, .string ⟨#[]⟩, .int .u32 0, .int .u32 0, .int .u32 0, .int .u32 0, .int .u32 0] 27)).alloc (by simp) (.cells #[.int .i64 0] 28)
  have hZ0 := (Has.fresh w 27 #[.string ⟨#[]⟩, .string ⟨#[]⟩, .string ⟨#[]⟩, .int .u32 0, .int .u32 0, .int .u32 0, .int .u32 0, .int .u32 0]).alloc (.cells #[.int .i64 0] 28)
  have hY0 : Has ((w.alloc (.cells #[.string ⟨#[]⟩, .string ⟨#[]⟩, .string ⟨#[]⟩, .int .u32 0, .int .u32 0, .int .u32 0, .int .u32 0, .int .u32 0] 27)).alloc (.cells #[.int .i64 0] 28)) (w.heap.size + 1) 28 #[.int .i64 0] := new_at _ _ (by simp)
  have HB0 := Lib.hid hB0
  have HZ0 := Lib.hid hZ0
  have HY0 := Lib.hid hY0
  have hi8 : (Tryz.prog.info? 27).map (·.size) = some 8 := by kernel_rfl
  have HI := Lib.hid hi8
  clear ho hck hB0 hZ0 hY0 hi8
  go_enter_defers Tryz.func6, Tryz.ntmps6
  go_wp2_with (first
    | (go_at_call 19; refine (HCK.out _).mono ?_; rintro e w1 ⟨rfl, B1⟩; have HB1 := Lib.hid (HB0.out.trans (B1.mono HB0.out.size)); have HZ1 := Lib.hid (HZ0.out.below B1 HZ0.out.lt); have HY1 := Lib.hid (HY0.out.below B1 HY0.out.lt); clear B1)
    | (refine wpList_store_row rfl 27 (.tmp 6) (.tmp 12) rfl w.heap.size #[.string ⟨#[]⟩, .string ⟨#[]⟩, .string ⟨#[]⟩, .int .u32 0, .int .u32 0, .int .u32 0, .int .u32 0, .int .u32 0] rfl rfl 27 _ HZ1.out HI.out rfl (by simp [Value.oneCell']) ?_; have hY4 := HY1.out.rowFar (g' := w.heap.size) (by omega) #[.string ⟨#[]⟩, .string ⟨#[]⟩, .string ⟨#[]⟩, .int .u32 0, .int .u32 0, .int .u32 0, .int .u32 0, .int .u32 0]; have hZ4 := HZ1.out.row #[.string ⟨#[]⟩, .string ⟨#[]⟩, .string ⟨#[]⟩, .int .u32 0, .int .u32 0, .int .u32 0, .int .u32 0, .int .u32 0]; have hB4 := below_setRow HB1.out (g := w.heap.size) (Nat.le_refl _) #[.string ⟨#[]⟩, .string ⟨#[]⟩, .string ⟨#[]⟩, .int .u32 0, .int .u32 0, .int .u32 0, .int .u32 0, .int .u32 0]; generalize World.setRow _ _ _ = w4 at *; have c4 : w4.cell? ⟨w.heap.size + 1, 0, none⟩ = some (.int .i64 0) := (by rw [hY4.cell]; rfl); have f4 := hY4.free 0; have HY4 := Lib.hid hY4; have HZ4 := Lib.hid hZ4; have HB4 := Lib.hid hB4; clear hY4 hZ4 hB4))
  have hZ5 := HZ4.out.far (p := ⟨w.heap.size + 1, 0, none⟩) (by simp) (.int .i64 11)
  have hY5 := HY4.out.set 0 (.int .i64 11)
  replace hY5 : Has _ (w.heap.size + 1) 28 #[.int .i64 11] := hY5
  have hB5 := HB4.out.setCell (p := ⟨w.heap.size + 1, 0, none⟩) (by simp) (.int .i64 11)
  clear c4 f4
  generalize World.setCell _ _ _ = w5 at *
  have z0 : w5.cell? ⟨w.heap.size, 0, none⟩ = some (.string ⟨#[]⟩) := by rw [hZ5.cell]; rfl
  have z1 : w5.cell? ⟨w.heap.size, 1, none⟩ = some (.string ⟨#[]⟩) := by rw [hZ5.cell]; rfl
  have z2 : w5.cell? ⟨w.heap.size, 2, none⟩ = some (.string ⟨#[]⟩) := by rw [hZ5.cell]; rfl
  have z3 : w5.cell? ⟨w.heap.size, 3, none⟩ = some (.int .u32 0) := by rw [hZ5.cell]; rfl
  have z4 : w5.cell? ⟨w.heap.size, 4, none⟩ = some (.int .u32 0) := by rw [hZ5.cell]; rfl
  have z5 : w5.cell? ⟨w.heap.size, 5, none⟩ = some (.int .u32 0) := by rw [hZ5.cell]; rfl
  have z6 : w5.cell? ⟨w.heap.size, 6, none⟩ = some (.int .u32 0) := by rw [hZ5.cell]; rfl
  have z7 : w5.cell? ⟨w.heap.size, 7, none⟩ = some (.int .u32 0) := by rw [hZ5.cell]; rfl
  have y0 : w5.cell? ⟨w.heap.size + 1, 0, none⟩ = some (.int .i64 11) := by rw [hY5.cell]; rfl
  have HB5 := Lib.hid hB5
  clear hZ5 hY5 hB5
  simp [bodyPostD, Leaves, results, Tryz.results6, go_sem, z0, z1, z2, z3, z4, z5, z6, z7, y0]
  exact HB5.out
theorem dv_cells {W : World} {g : Nat} {t : TypeId} {d : Dv} (h : Has W g t d.cells) :
    W.cell? ⟨g, 0, none⟩ = some (.string d.raw) ∧ W.cell? ⟨g, 1, none⟩ = some (.string d.host) ∧ W.cell? ⟨g, 2, none⟩ = some (.string d.mail) ∧ W.cell? ⟨g, 3, none⟩ = some (.int .u32 d.n0) ∧ W.cell? ⟨g, 4, none⟩ = some (.int .u32 d.n1) ∧ W.cell? ⟨g, 5, none⟩ = some (.int .u32 d.n2) ∧ W.cell? ⟨g, 6, none⟩ = some (.int .u32 d.n3) ∧ W.cell? ⟨g, 7, none⟩ = some (.int .u32 d.n4) := by
  refine ⟨?_, ?_, ?_, ?_, ?_, ?_, ?_, ?_⟩ <;> (rw [h.cell]; rfl)
theorem Gl.on {w w' : World} (h : Gl w w.heap.size) (hb : Below w.heap.size w w') : Gl w' w'.heap.size := by
  obtain ⟨h1, h2, h3, h4, h5, h6⟩ := h.below hb
  have := hb.size
  exact ⟨h1, h2, h3, by omega, by omega, by omega⟩
theorem lt_of_new {w w' : World} {ob : Obj} (h : Below (w.alloc ob).heap.size (w.alloc ob) w') : w.heap.size < w'.heap.size := by
  have := h.size
  simp at this
  omega
theorem gl_lay {w : World} (h : LayA w) (h2 : Lay w) (hm : ∃ m : Int, w.cell? ⟨2, 0, none⟩ = some (.int .i64 m)) : Gl w w.heap.size := by
  obtain ⟨m, hm⟩ := hm
  exact ⟨h2, h.1, ⟨m, hm⟩, h2.size, h.1.lt, block_lt_of_cell hm⟩
theorem dv_same (d : Dv) (W : World) (k : Nat) : (Op.equalIn (k + 4) 27 (.agg #[.string d.raw, .string d.host, .string d.mail, .int .u32 d.n0, .int .u32 d.n1, .int .u32 d.n2, .int .u32 d.n3, .int .u32 d.n4]) (.agg #[.string d.raw, .string d.host, .string d.mail, .int .u32 d.n0, .int .u32 d.n1, .int .u32 d.n2, .int .u32 d.n3, .int .u32 d.n4])).run Tryz.prog W = .ok true W := by
  have h := dvRun W d d k
  have e : dvB d d = true := by simp [dvB]
  rw [e] at h
  exact h
set_option maxHeartbeats 2000000 in
set_option maxRecDepth 100000 in
theorem walk_RdataWords (w : World) (hL : LayA w ∧ Lay w) (hm : ∃ m : Int, w.cell? ⟨2, 0, none⟩ = some (.int .i64 m)) (t : Int) (ht : (Lit.int .u16 t).wf = true) (d : Dv) (hf : d.fits) (_hm : d.raw.size ≤ 140737488351232 ∧ d.host.size ≤ 140737488351232 ∧ d.mail.size ≤ 140737488351232) (hu : d.raw.size + d.host.size + d.mail.size ≤ 1048576) (o : ByteArray) (ho : o.size ≤ 1048576) :
    Calls Tryz.prog 3 #[.int .u16 t, d.val, .string o] w fun e w' => e = .returned (.bool true) ∧ Below w.heap.size w w' := by
  obtain ⟨n, rfl, hn⟩ := wf_u16s ht
  have hX0 : Has (w.alloc (.cells d.cells 27)) w.heap.size 27 d.cells := Has.fresh w _ _
  have hB0 : Below w.heap.size w (w.alloc (.cells d.cells 27)) := (Below.refl _ _).alloc (Nat.le_refl _) _
  have hA0 := hL.1.below hB0 (Nat.le_refl _)
  have HG := Lib.hid (gl_lay hL.1 hL.2 hm)
  have H1 := Lib.hid (pdShow_any n d _ hn hA0 hf (by omega) (by omega) (by omega))
  have HWK := Lib.hid (fun (W : World) (h : Below w.heap.size w W) => rdWakes W (hL.1.below h (Nat.le_refl _)))
  have HX := Lib.hid (fun (W : World) (h : Below (w.alloc (.cells d.cells 27)).heap.size (w.alloc (.cells d.cells 27)) W) => dv_cells (hX0.below h hX0.lt))
  have HB0 := Lib.hid hB0
  have eD : d.val = .agg #[.string d.raw, .string d.host, .string d.mail, .int .u32 d.n0, .int .u32 d.n1, .int .u32 d.n2, .int .u32 d.n3, .int .u32 d.n4] := rfl
  have eC : d.cells = #[.string d.raw, .string d.host, .string d.mail, .int .u32 d.n0, .int .u32 d.n1, .int .u32 d.n2, .int .u32 d.n3, .int .u32 d.n4] := rfl
  rw [eC] at HX HB0
  unfold shV at H1
  cases hok : Rd.ok n d.dt with
  | false =>
    rw [hok, if_neg (by simp)] at H1
    rw [eD] at H1 ⊢
    rw [eC] at H1
    have he : (⟨#[]⟩ : ByteArray).toList.isEmpty = true := empty_yes rfl
    clear eD eC hX0 hB0 hA0 hL hf ht hok hm
    go_enter Tryz.func3, Tryz.ntmps3
    go_wp2_with (first
      | (go_at_call 4; (with_reducible refine H1.out.mono ?_); rintro e w1 ⟨rfl, B1⟩; have HB1 := Lib.hid (HB0.out.trans (B1.mono HB0.out.size)); clear B1)
      | (go_at_call 5; refine (HWK.out _ HB1.out).mono ?_; rintro e w3 ⟨rfl, B3⟩; have HB3 := Lib.hid (HB1.out.trans (B3.mono HB1.out.size)); clear B3))
    go_ret
    exact ⟨rfl, HB3.out⟩
  | true =>
    rw [hok, if_pos rfl] at H1
    obtain ⟨f1, f2, f3⟩ := words_few hf hok
    have hcs := cut_show (ls := txs d) hok
    obtain ⟨S, hS⟩ : ∃ S, shS n d (txs d) = S := ⟨_, rfl⟩
    obtain ⟨ws, hws⟩ : ∃ ws, Rd.tellQ d.dt (txs d) (Rd.parts n) 0 = ws := ⟨_, rfl⟩
    rw [hS] at H1 f3 hcs
    rw [hws] at f1 f2 hcs
    have hcut : ∀ W, Calls Tryz.prog 7 #[sv S] W fun e w' => ∃ A c, e = .returned (.slice A ws.length c) ∧ Ws w' w'.heap.size (.slice A ws.length c) ws ∧ Below W.heap.size W w' := fun W => by
      refine (lawCut_any ⟨S.toArray⟩ W (by rw [mk_size]; exact f3) (by show (Rd.cutW S).length ≤ _; rw [hcs]; omega)).mono ?_
      rintro e w' ⟨v, rfl, O, B⟩
      replace O : Own w0 4 w' W.heap.size 57 v (Rd.cutW S) := O
      rw [hcs] at O
      have hw := ws_own O f1
      obtain ⟨A, c, hv⟩ : ∃ A c, v = .slice A ws.length c := hw.elim fun A h => h.elim fun c h => ⟨A, c, h.1⟩
      subst hv
      exact ⟨A, c, rfl, hw, B⟩
    have HCUT := Lib.hid hcut
    have HF1 := Lib.hid f1
    cases hno : Rd.nm o.data.toList with
    | false =>
      have HRD := Lib.hid (fun A c W => rdRead_no n A ws.length c o W hno (by omega))
      have hEQ : ∀ W, (Op.equalIn 10000 27 (.agg #[.string ⟨#[]⟩, .string ⟨#[]⟩, .string ⟨#[]⟩, .int .u32 0, .int .u32 0, .int .u32 0, .int .u32 0, .int .u32 0]) (.agg #[.string ⟨#[]⟩, .string ⟨#[]⟩, .string ⟨#[]⟩, .int .u32 0, .int .u32 0, .int .u32 0, .int .u32 0, .int .u32 0])).run Tryz.prog W = .ok true W := fun W => dv_same ⟨⟨#[]⟩, ⟨#[]⟩, ⟨#[]⟩, 0, 0, 0, 0, 0⟩ W 9996
      rw [eD] at H1 ⊢
      rw [eC] at H1
      clear eD eC hX0 hB0 hA0 hL hf ht hok hm hcut hcs hS hws f1 f2 f3 hno
      go_enter Tryz.func3, Tryz.ntmps3
      go_wp2_with (first
        | (go_at_call 4; (with_reducible refine H1.out.mono ?_); rintro e w1 ⟨rfl, B1⟩; have HB1 := Lib.hid (HB0.out.trans (B1.mono HB0.out.size)); clear B1)
        | (go_at_call 7; refine (HCUT.out _).mono ?_; rintro e w2 ⟨A2, c2, rfl, W2, B2⟩; have HB2 := Lib.hid (HB1.out.trans (B2.mono HB1.out.size)); clear B2 W2)
        | (go_at_call 6; refine (HRD.out _ _ _).mono ?_; rintro e w3 ⟨rfl, B3⟩; have HB3 := Lib.hid (HB2.out.trans (B3.mono HB2.out.size)); clear B3)
        | (go_at_call 5; refine (HWK.out _ (HB3.out.alloc HB3.out.size _)).mono ?_; rintro e w4 ⟨rfl, B4⟩; have HB4 := Lib.hid ((HB3.out.alloc HB3.out.size _).trans (B4.mono (HB3.out.alloc HB3.out.size _).size)); clear B4))
      go_ret
      exact ⟨rfl, HB4.out⟩
    | true =>
      have hre := readR_tell hno hf hok
      rw [hws] at hre
      have hrd : ∀ A c W (_ : Ws W W.heap.size (.slice A ws.length c) ws) (_ : Gl W W.heap.size), Calls Tryz.prog 6 #[.int .u16 n, .slice A ws.length c, .string o] W fun e w' => e = .returned (.tuple #[.agg #[.string d.raw, .string d.host, .string d.mail, .int .u32 d.n0, .int .u32 d.n1, .int .u32 d.n2, .int .u32 d.n3, .int .u32 d.n4], .int .i64 0]) ∧ Below W.heap.size W w' := fun A c W hw hG => rdRead_ok hn hno (by omega) hw hG (fun x hx => by have := f1 x hx; omega) hre
      have HRD := Lib.hid hrd
      have hEQ : ∀ W, (Op.equalIn 10000 27 (.agg #[.string d.raw, .string d.host, .string d.mail, .int .u32 d.n0, .int .u32 d.n1, .int .u32 d.n2, .int .u32 d.n3, .int .u32 d.n4]) (.agg #[.string d.raw, .string d.host, .string d.mail, .int .u32 d.n0, .int .u32 d.n1, .int .u32 d.n2, .int .u32 d.n3, .int .u32 d.n4])).run Tryz.prog W = .ok true W := fun W => dv_same d W 9996
      rw [eD] at H1 ⊢
      rw [eC] at H1
      clear eD eC hX0 hB0 hA0 hL hf ht hok hm hcut hcs hS hws f1 f2 f3 hno hre hrd
      go_enter Tryz.func3, Tryz.ntmps3
      go_wp2_with (first
        | (go_at_call 4; (with_reducible refine H1.out.mono ?_); rintro e w1 ⟨rfl, B1⟩; have HB1 := Lib.hid (HB0.out.trans (B1.mono HB0.out.size)); have HC1 := Lib.hid B1; clear B1)
        | (go_at_call 7; refine (HCUT.out _).mono ?_; rintro e w2 ⟨A2, c2, rfl, W2, B2⟩; have HB2 := Lib.hid (HB1.out.trans (B2.mono HB1.out.size)); have HC2 := Lib.hid (HC1.out.trans (B2.mono HC1.out.size)); have HW2 := Lib.hid W2; clear B2 W2)
        | (go_at_call 6; refine (HRD.out _ _ _ HW2.out (HG.out.on HB2.out)).mono ?_; rintro e w3 ⟨rfl, B3⟩; have HB3 := Lib.hid (HB2.out.trans (B3.mono HB2.out.size)); obtain ⟨x0, x1, x2, x3, x4, x5, x6, x7⟩ := HX.out _ (HC2.out.trans (B3.mono HC2.out.size)); have hlt3 := lt_of_new (HC2.out.trans (B3.mono HC2.out.size)); clear B3)
        | (go_at_call 5; refine (HWK.out _ (HB3.out.alloc HB3.out.size _)).mono ?_; rintro e w4 ⟨rfl, B4⟩; have HB4 := Lib.hid ((HB3.out.alloc HB3.out.size _).trans (B4.mono (HB3.out.alloc HB3.out.size _).size)); clear B4))
      go_ret
      exact ⟨rfl, HB4.out⟩
end Go.Proofs.YtopcklpmeaghmaaGreatDoor
