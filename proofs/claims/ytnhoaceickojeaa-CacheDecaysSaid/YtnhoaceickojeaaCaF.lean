/- Merged: CaOpen CaHeavy CaHeav2 CaKeeps CaEq CaRoomA. -/
import Derived.Test.YtnhoaceickojeaaCaE
import Derived.Test.YtnhoaceickojeaaMsOpen
import Derived.Test.YtnhoaceickojeaaRrEqR
/- Questions, answers, steps, as arguments. -/
namespace Go.Proofs.Ytnhoaceickojeaa.Ca
open Go.ChangeShapes Go.WideShapes Go.Deep Go.RowKit

set_option maxRecDepth 100000 in
theorem open_q {H : Type} {enc : TypeId × Value → H} {W : World} {base : Nat} {v : Value} {d : DataW H} {p : List MemPlace} (hval : Value.okWide Try.prog W .any base 35 v) (h : DataW.Trod enc Try.prog W 0 (fun _ => true) true 35 v d p) :
    ∃ q : Kv, v = q.val ∧ (q.ty ≤ 65535 ∧ q.cl ≤ 65535) ∧ ((d.weights Try.prog 35).all (· ≤ reachBytes) = true → q.nm.size ≤ 140737488351232) := by
  obtain ⟨cs, rfl, hsz⟩ := okWide_struct Try.underlying35 hval
  have hsz8 : cs.size = 3 := hsz.trans (by kernel_rfl)
  obtain ⟨fuel, hf⟩ := h
  obtain ⟨r, hr, h1, h2, _⟩ := open_q_at (cs := cs.toList) (by simpa using hsz8) hf
  exact ⟨r, by rw [show cs = (kcl r).toArray from by rw [← hr]]; rfl, h1, h2⟩
/-- an answer that came in: its numbers are numbers, its lists lie in memory. -/
structure AOk (x : Aw) (W : World) : Prop where
  rc : x.a.rc ≤ 65535
  lies : x.lies W
  p1 : x.a.an.length ≤ x.c1
  p2 : x.a.au.length ≤ x.c2
  p3 : x.a.ex.length ≤ x.c3
  fits : ∀ r ∈ x.a.recs, r.fits
/-- its texts are no longer than there may be. -/
def ANear (x : Aw) : Prop := ∀ r ∈ x.a.recs, r.near
theorem recs_all {P : Rv → Prop} {a : Av} (h1 : ∀ r ∈ a.an, P r) (h2 : ∀ r ∈ a.au, P r) (h3 : ∀ r ∈ a.ex, P r) : ∀ r ∈ a.recs, P r := fun r hr => by
  unfold Av.recs at hr
  rcases List.mem_append.1 hr with h | h
  · exact h1 r h
  · rcases List.mem_append.1 h with h | h
    · exact h2 r h
    · exact h3 r h
set_option maxRecDepth 100000 in
theorem open_ans_at {H : Type} {enc : TypeId × Value → H} {W : World} {fuel : Nat} {cs : List Value} {x : DataW H × List MemPlace} (hl : cs.length = 5) (hf : DataW.trod enc Try.prog W 0 (fun _ => true) true fuel 38 cs = some x) :
    ∃ a : Aw, cs = a.cells.toList ∧ AOk a W ∧ ((x.1.weights Try.prog 38).all (· ≤ reachBytes) = true → ANear a) := by
  match cs, hl with
  | [a0, a1, a2, a3, a4], _ =>
    obtain ⟨xs, n, _, hx, _, hlen, hg⟩ := DataW.trod_struct Try.underlying38 hf
    match xs, hlen with
    | [y0, y1, y2, y3, y4], _ =>
      subst hx
      have kb : Try.prog.cellsOf 4 = 1 := by kernel_rfl
      have k1 : Try.prog.cellsOf 33 = 1 := by kernel_rfl
      have kr : Try.prog.cellsOf 36 = 1 := by kernel_rfl
      have g0 : DataW.trod enc Try.prog W 0 (fun _ => true) true n 33 (List.take (Try.prog.cellsOf 33) [a0, a1, a2, a3, a4]) = some y0 := hg 0 _ rfl
      have g1 : DataW.trod enc Try.prog W 0 (fun _ => true) true n 4 (List.take (Try.prog.cellsOf 4) [a1, a2, a3, a4]) = some y1 := hg 1 _ rfl
      have g2 : DataW.trod enc Try.prog W 0 (fun _ => true) true n 36 (List.take (Try.prog.cellsOf 36) [a2, a3, a4]) = some y2 := hg 2 _ rfl
      have g3 : DataW.trod enc Try.prog W 0 (fun _ => true) true n 36 (List.take (Try.prog.cellsOf 36) [a3, a4]) = some y3 := hg 3 _ rfl
      have g4 : DataW.trod enc Try.prog W 0 (fun _ => true) true n 36 (List.take (Try.prog.cellsOf 36) [a4]) = some y4 := hg 4 _ rfl
      rw [k1] at g0
      rw [kb] at g1
      rw [kr] at g2 g3 g4
      obtain ⟨i0, f0, rfl, w0⟩ := DataW.trod_int Try.underlying33 g0
      obtain ⟨b1, f1, rfl⟩ := DataW.trod_bool Try.underlying4 g1
      obtain ⟨n0, rfl, l0⟩ := wf_u16i w0
      obtain ⟨A2, r2, c2, f2, p2, q2, s2, t2, u2, _, _⟩ := open_rows (by decide) rcl_len Try.underlying36 (by kernel_rfl) (fun h1 h2 => open_rec_at h1 h2) g2
      obtain ⟨A3, r3, c3, f3, p3, q3, s3, t3, u3, _, _⟩ := open_rows (by decide) rcl_len Try.underlying36 (by kernel_rfl) (fun h1 h2 => open_rec_at h1 h2) g3
      obtain ⟨A4, r4, c4, f4, p4, q4, s4, t4, u4, _, _⟩ := open_rows (by decide) rcl_len Try.underlying36 (by kernel_rfl) (fun h1 h2 => open_rec_at h1 h2) g4
      injection f0 with f0 _
      injection f1 with f1 _
      injection f2 with f2 _
      injection f3 with f3 _
      injection f4 with f4 _
      subst f0 f1 f2 f3 f4
      refine ⟨⟨⟨n0, b1, r2, r3, r4⟩, A2, c2, A3, c3, A4, c4⟩, rfl, ⟨l0, ⟨s2, s3, s4, q2, q3, q4⟩, p2, p3, p4, recs_all t2 t3 t4⟩, fun hw => recs_all ?_ ?_ ?_⟩
      · exact (u2 (struct_weights Try.underlying38 hw (i := 2) rfl rfl)).2
      · exact (u3 (struct_weights Try.underlying38 hw (i := 3) rfl rfl)).2
      · exact (u4 (struct_weights Try.underlying38 hw (i := 4) rfl rfl)).2
set_option maxRecDepth 100000 in
theorem open_ans {H : Type} {enc : TypeId × Value → H} {W : World} {base : Nat} {v : Value} {d : DataW H} {p : List MemPlace} (hval : Value.okWide Try.prog W .any base 38 v) (h : DataW.Trod enc Try.prog W 0 (fun _ => true) true 38 v d p) :
    ∃ x : Aw, v = x.val ∧ AOk x W ∧ ((d.weights Try.prog 38).all (· ≤ reachBytes) = true → ANear x) := by
  obtain ⟨cs, rfl, hsz⟩ := okWide_struct Try.underlying38 hval
  have hsz8 : cs.size = 5 := hsz.trans (by kernel_rfl)
  obtain ⟨fuel, hf⟩ := h
  obtain ⟨r, hr, h1, h2⟩ := open_ans_at (cs := cs.toList) (by simpa using hsz8) hf
  exact ⟨r, by rw [show cs = r.cells from Array.toList_inj.1 hr]; rfl, h1, h2⟩
/-- a step, as it comes. -/
structure Stv where
  put : Bool
  q : Kv
  x : Aw
  now : Int
def stcl (s : Stv) : List Value := .bool s.put :: .string s.q.nm :: .int .u16 (s.q.ty : Int) :: .int .u16 (s.q.cl : Int) :: .int .u16 (s.x.a.rc : Int) :: .bool s.x.a.aa :: .slice s.x.A1 s.x.a.an.length s.x.c1 :: .slice s.x.A2 s.x.a.au.length s.x.c2 :: .slice s.x.A3 s.x.a.ex.length s.x.c3 :: [.int .i64 s.now]
theorem stcl_len (s : Stv) : (stcl s).length = 10 := rfl
structure SOk (W : World) (s : Stv) : Prop where
  ans : AOk s.x W
  ty : s.q.ty ≤ 65535
  cl : s.q.cl ≤ 65535
  now : (Lit.int .i64 s.now).wf = true
def SNear (s : Stv) : Prop := ANear s.x ∧ s.q.nm.size ≤ 140737488351232
set_option maxRecDepth 100000 in
theorem open_step_at {H : Type} {enc : TypeId × Value → H} {W : World} {fuel : Nat} {cs : List Value} {x : DataW H × List MemPlace} (hl : cs.length = 10) (hf : DataW.trod enc Try.prog W 0 (fun _ => true) true fuel 40 cs = some x) :
    ∃ s : Stv, cs = stcl s ∧ SOk W s ∧ ((x.1.weights Try.prog 40).all (· ≤ reachBytes) = true → SNear s) ∧ 0 ≤ Rows.uptoBulk x.1 := by
  match cs, hl with
  | [a0, a1, a2, a3, a4, a5, a6, a7, a8, a9], _ =>
    obtain ⟨xs, n, _, hx, _, hlen, hg⟩ := DataW.trod_struct Try.underlying40 hf
    match xs, hlen with
    | [y0, (y1, z1), (y2, z2), y3], _ =>
      subst hx
      have kb : Try.prog.cellsOf 4 = 1 := by kernel_rfl
      have kq : Try.prog.cellsOf 35 = 3 := by kernel_rfl
      have ka : Try.prog.cellsOf 38 = 5 := by kernel_rfl
      have ki : Try.prog.cellsOf 3 = 1 := by kernel_rfl
      have g0 : DataW.trod enc Try.prog W 0 (fun _ => true) true n 4 (List.take (Try.prog.cellsOf 4) [a0, a1, a2, a3, a4, a5, a6, a7, a8, a9]) = some y0 := hg 0 _ rfl
      have g1 : DataW.trod enc Try.prog W 0 (fun _ => true) true n 35 (List.take (Try.prog.cellsOf 35) [a1, a2, a3, a4, a5, a6, a7, a8, a9]) = some (y1, z1) := hg 1 _ rfl
      have g2 : DataW.trod enc Try.prog W 0 (fun _ => true) true n 38 (List.take (Try.prog.cellsOf 38) [a4, a5, a6, a7, a8, a9]) = some (y2, z2) := hg 2 _ rfl
      have g3 : DataW.trod enc Try.prog W 0 (fun _ => true) true n 3 (List.take (Try.prog.cellsOf 3) [a9]) = some y3 := hg 3 _ rfl
      rw [kb] at g0
      rw [kq] at g1
      rw [ka] at g2
      rw [ki] at g3
      obtain ⟨b0, f0, rfl⟩ := DataW.trod_bool Try.underlying4 g0
      obtain ⟨q, hq, hq1, hq2, _⟩ := open_q_at rfl g1
      obtain ⟨a, hA, hA1, hA2⟩ := open_ans_at rfl g2
      obtain ⟨i3, f3, rfl, w3⟩ := DataW.trod_int Try.underlying3 g3
      injection f0 with f0 _
      injection f3 with f3 _
      have hq' : [a1, a2, a3] = kcl q := hq
      have hA' : [a4, a5, a6, a7, a8] = a.cells.toList := hA
      unfold kcl at hq'
      unfold Aw.cells at hA'
      simp only [List.cons.injEq, and_true] at hq' hA'
      obtain ⟨rfl, rfl, rfl⟩ := hq'
      obtain ⟨rfl, rfl, rfl, rfl, rfl⟩ := hA'
      subst f0 f3
      refine ⟨⟨b0, q, a, i3⟩, rfl, ⟨hA1, hq1.1, hq1.2, w3⟩, fun hw => ⟨?_, ?_⟩, Nat.zero_le _⟩
      · exact hA2 (struct_weights Try.underlying40 hw (i := 2) rfl rfl)
      · exact hq2 (struct_weights Try.underlying40 hw (i := 1) rfl rfl)
set_option maxRecDepth 100000 in
theorem open_steps {H : Type} {enc : TypeId × Value → H} {W : World} {base : Nat} {v : Value} {d : DataW H} {p : List MemPlace} (hval : Value.okWide Try.prog W .any base 22 v) (h : DataW.Trod enc Try.prog W 0 (fun _ => true) true 22 v d p) :
    ∃ A ss c, v = .slice A ss.length c ∧ Srow stcl 10 W 0 W.heap.size A ss ∧ (∀ s ∈ ss, SOk W s) ∧ ((d.weights Try.prog 22).all (· ≤ reachBytes) = true → ss.length * 80 ≤ 140737488351232 ∧ ∀ s ∈ ss, SNear s) := by
  obtain ⟨a0, len, cap, rfl⟩ := okWide_slice Try.underlying22 hval
  obtain ⟨fuel, hf⟩ := h
  have bq : Try.prog.bytesOf 40 = 120 := by kernel_rfl
  obtain ⟨A, ss, c, hcs, hl, _, hS, hF, hN, _, _⟩ := open_rows (B := fun _ => 0) (by decide) stcl_len Try.underlying22 (by kernel_rfl) (fun h1 h2 => open_step_at h1 h2) hf
  simp [Value.cells] at hcs
  obtain ⟨rfl, rfl, rfl⟩ := hcs
  refine ⟨_, ss, _, rfl, hS, hF, fun hw => ⟨?_, (hN hw).2⟩⟩
  have := (hN hw).1
  rw [bq] at this
  omega
end Go.Proofs.Ytnhoaceickojeaa.Ca
/- What a statement looks at. -/
namespace Go.Proofs.Ytnhoaceickojeaa.Ca
open Go.RowKit

def wideB (l : List Rv) : Bool := l.any fun r => decide (2000 < r.nm.size)
def largeB (a : Av) : Bool := (decide (30 < a.an.length) || decide (30 < a.au.length) || decide (30 < a.ex.length)) || (wideB a.an || wideB a.au || wideB a.ex)
def heavyB (ss : List Stv) : Bool := decide (150 < ss.length) || ss.any fun s => largeB s.x.a || decide (2000 < s.q.nm.size)
set_option maxHeartbeats 400000 in
set_option maxRecDepth 100000 in
theorem wide_any (rs : List Rv) (A : Option Addr) (c : Nat) (w : World) (hS : Srow rcl 12 w 0 w.heap.size A rs) (hn : rs.length ≤ 1000) : Calls Try.prog 47 #[.slice A rs.length c] w fun e w' => e = .returned (.bool (wideB rs)) ∧ w = w' := by
  have HS := Lib.hid hS
  clear hS
  obtain ⟨R, hR⟩ : ∃ R, wideB rs = R := ⟨_, rfl⟩
  rw [hR]
  have HR := Lib.hid hR
  clear hR
  go_enter Try.func47, Try.ntmps47
  go_wp2
  go_loop [3] (fun i => ∃ k : Nat, i = .int .i64 k ∧ k ≤ rs.length ∧ Hid (wideB (rs.drop k) = R)) (fun i => rs.length - (intOf i).toNat)
  case atStart => exact ⟨0, rfl, by omega, HR.out⟩
  case round =>
    obtain ⟨k, rfl, hk, HM⟩ := hrel
    by_cases hlt : k < rs.length
    · obtain ⟨g, o, rfl, _, hg, hc⟩ := HS.out.at_ hlt
      have c0 : w.cell? ⟨g, o + k * 12, none⟩ = some (.string rs[k].nm) := hc 0 _ rfl
      have hst : (decide (2000 < rs[k].nm.size) || wideB (rs.drop (k + 1))) = R := by
        rw [← HM.out, List.drop_eq_getElem_cons hlt]
        rfl
      have HST := Lib.hid hst
      clear hc hst
      generalize rs[k].nm = nm at *
      by_cases h6 : 2000 < nm.size
      · have h1 : decide ((2000 : Int) < (nm.size : Int)) = true := decide_eq_true (by omega)
        obtain rfl : R = true := by rw [← HST.out, decide_eq_true h6]; rfl
        clear h6
        go_wp2
        go_ret
        exact ⟨rfl, rfl⟩
      · have h1 : decide ((2000 : Int) < (nm.size : Int)) = false := decide_eq_false (by omega)
        have hRt : Hid (wideB (rs.drop (k + 1)) = R) := by rw [Hid, ← HST.out, decide_eq_false h6]; rfl
        clear h6
        go_wp2
        go_round
        case rel => exact ⟨k + 1, by go_num, by omega, hRt⟩
        case measure => simp [intOf]; omega
    · obtain rfl : k = rs.length := by omega
      have hRf : R = false := by have := HM.out; rw [List.drop_length] at this; exact this.symm
      subst hRf
      go_wp2
      go_ret
      exact ⟨rfl, rfl⟩
set_option maxHeartbeats 1000000 in
set_option maxRecDepth 100000 in
theorem large_any (x : Aw) (w : World) (h : x.lies w) : Calls Try.prog 23 #[x.val] w fun e w' => e = .returned (.bool (largeB x.a)) ∧ Below w.heap.size w w' := by
  have hb0 : Below w.heap.size w (w.alloc (.cells #[.int .u16 (x.a.rc : Int), .bool x.a.aa, .slice x.A1 x.a.an.length x.c1, .slice x.A2 x.a.au.length x.c2, .slice x.A3 x.a.ex.length x.c3] 38)) := (Below.refl _ _).alloc (Nat.le_refl _) _
  have hh := h.below hb0
  have HB0 := Lib.hid hb0
  have HH := Lib.hid hh
  have hlb : largeB x.a = ((decide (30 < x.a.an.length) || decide (30 < x.a.au.length) || decide (30 < x.a.ex.length)) || (wideB x.a.an || wideB x.a.au || wideB x.a.ex)) := rfl
  by_cases h1 : 30 < x.a.an.length ∨ 30 < x.a.au.length ∨ 30 < x.a.ex.length
  · have hl : largeB x.a = true := by
      rw [hlb]
      rcases h1 with h1 | h1 | h1 <;> simp [h1]
    have HL := Lib.hid hl
    unfold Aw.val Aw.cells
    clear h hb0 hh hlb hl HH
    generalize x.a.an.length = n1 at *
    generalize x.a.au.length = n2 at *
    generalize x.a.ex.length = n3 at *
    by_cases q1 : 30 < n1
    · have d1 : decide ((30 : Int) < (n1 : Int)) = true := decide_eq_true (by omega)
      clear h1 q1
      go_enter Try.func23, Try.ntmps23
      go_wp2
      go_ret
      exact ⟨by rw [HL.out]; rfl, HB0.out⟩
    · have d1 : decide ((30 : Int) < (n1 : Int)) = false := decide_eq_false (by omega)
      by_cases q2 : 30 < n2
      · have d2 : decide ((30 : Int) < (n2 : Int)) = true := decide_eq_true (by omega)
        clear h1 q1 q2
        go_enter Try.func23, Try.ntmps23
        go_wp2
        go_ret
        exact ⟨by rw [HL.out]; rfl, HB0.out⟩
      · have d2 : decide ((30 : Int) < (n2 : Int)) = false := decide_eq_false (by omega)
        have d3 : decide ((30 : Int) < (n3 : Int)) = true := decide_eq_true (by omega)
        clear h1 q1 q2
        go_enter Try.func23, Try.ntmps23
        go_wp2
        go_ret
        exact ⟨by rw [HL.out]; rfl, HB0.out⟩
  · have d1 : decide ((30 : Int) < (x.a.an.length : Int)) = false := decide_eq_false (by omega)
    have d2 : decide ((30 : Int) < (x.a.au.length : Int)) = false := decide_eq_false (by omega)
    have d3 : decide ((30 : Int) < (x.a.ex.length : Int)) = false := decide_eq_false (by omega)
    have hl : largeB x.a = (wideB x.a.an || wideB x.a.au || wideB x.a.ex) := by
      rw [hlb]
      have e1 : decide (30 < x.a.an.length) = false := decide_eq_false (by omega)
      have e2 : decide (30 < x.a.au.length) = false := decide_eq_false (by omega)
      have e3 : decide (30 < x.a.ex.length) = false := decide_eq_false (by omega)
      rw [e1, e2, e3]
      rfl
    rw [hl]
    have W1 := Lib.hid (fun c => wide_any x.a.an x.A1 c _ HH.out.s1 (by omega))
    have W2 := Lib.hid (fun c => wide_any x.a.au x.A2 c _ HH.out.s2 (by omega))
    have W3 := Lib.hid (fun c => wide_any x.a.ex x.A3 c _ HH.out.s3 (by omega))
    unfold Aw.val Aw.cells
    clear h hb0 hh hlb hl HH h1
    generalize wideB x.a.an = b1 at *
    generalize wideB x.a.au = b2 at *
    generalize wideB x.a.ex = b3 at *
    generalize x.a.an.length = n1 at *
    generalize x.a.au.length = n2 at *
    generalize x.a.ex.length = n3 at *
    go_enter Try.func23, Try.ntmps23
    go_upto_region 3 with (fail)
    cases b1 with
    | true =>
      go_wp2_with (go_at_call 47; refine (W1.out _).mono ?_; rintro e w' ⟨rfl, rfl⟩)
      go_ret
      exact ⟨rfl, HB0.out⟩
    | false =>
      cases b2 with
      | true =>
        go_wp2_with (go_at_call 47; (first | (with_reducible refine (W1.out _).mono ?_) | (with_reducible refine (W2.out _).mono ?_)); rintro e w' ⟨rfl, rfl⟩)
        go_ret
        exact ⟨rfl, HB0.out⟩
      | false =>
        go_wp2_with (go_at_call 47; (first | (with_reducible refine (W1.out _).mono ?_) | (with_reducible refine (W2.out _).mono ?_) | (with_reducible refine (W3.out _).mono ?_)); rintro e w' ⟨rfl, rfl⟩)
        go_ret
        exact ⟨by cases b3 <;> rfl, HB0.out⟩
end Go.Proofs.Ytnhoaceickojeaa.Ca
/- Are steps more than a statement looks at? -/
namespace Go.Proofs.Ytnhoaceickojeaa.Ca
open Go.RowKit

theorem step_cells {w : World} {g o : Nat} {s : Stv} (h : w.rangeAt g o (stcl s)) : w.cell? ⟨g, o, none⟩ = some (.bool s.put) ∧ w.cell? ⟨g, o + 1, none⟩ = some (.string s.q.nm) ∧ w.cell? ⟨g, o + 2, none⟩ = some (.int .u16 (s.q.ty : Int)) ∧ w.cell? ⟨g, o + 3, none⟩ = some (.int .u16 (s.q.cl : Int)) ∧ w.cell? ⟨g, o + 4, none⟩ = some (.int .u16 (s.x.a.rc : Int)) ∧ w.cell? ⟨g, o + 5, none⟩ = some (.bool s.x.a.aa) ∧ w.cell? ⟨g, o + 6, none⟩ = some (.slice s.x.A1 s.x.a.an.length s.x.c1) ∧ w.cell? ⟨g, o + 7, none⟩ = some (.slice s.x.A2 s.x.a.au.length s.x.c2) ∧ w.cell? ⟨g, o + 8, none⟩ = some (.slice s.x.A3 s.x.a.ex.length s.x.c3) ∧ w.cell? ⟨g, o + 9, none⟩ = some (.int .i64 s.now) :=
  ⟨h 0 _ rfl, h 1 _ rfl, h 2 _ rfl, h 3 _ rfl, h 4 _ rfl, h 5 _ rfl, h 6 _ rfl, h 7 _ rfl, h 8 _ rfl, h 9 _ rfl⟩
set_option maxHeartbeats 1000000 in
set_option maxRecDepth 100000 in
theorem heavy_any (ss : List Stv) (A : Option Addr) (c : Nat) (w : World) (hS : Srow stcl 10 w 0 w.heap.size A ss) (hF : ∀ s ∈ ss, s.x.lies w) (hn : ss.length ≤ 140737488351232) : Calls Try.prog 8 #[.slice A ss.length c] w fun e w' => e = .returned (.bool (heavyB ss)) ∧ Below w.heap.size w w' := by
  have HS := Lib.hid hS
  have HF := Lib.hid hF
  clear hS hF
  by_cases h150 : 150 < ss.length
  · have d1 : decide ((150 : Int) < (ss.length : Int)) = true := decide_eq_true (by omega)
    have HH : Hid (heavyB ss = true) := by unfold Hid heavyB; simp [h150]
    clear h150
    go_enter Try.func8, Try.ntmps8
    go_wp2
    go_ret
    exact ⟨by rw [HH.out]; rfl, Below.refl _ _⟩
  · have d1 : decide ((150 : Int) < (ss.length : Int)) = false := decide_eq_false (by omega)
    obtain ⟨R, hR⟩ : ∃ R, (ss.any fun s => largeB s.x.a || decide (2000 < s.q.nm.size)) = R := ⟨_, rfl⟩
    have HH : Hid (heavyB ss = R) := by unfold Hid heavyB; rw [hR]; simp [h150]
    rw [HH.out]
    have HR := Lib.hid hR
    clear h150 hR
    go_enter Try.func8, Try.ntmps8
    go_wp2
    go_loopw [3] (fun i wr => ∃ k : Nat, i = .int .i64 k ∧ k ≤ ss.length ∧ Hid (((ss.drop k).any fun s => largeB s.x.a || decide (2000 < s.q.nm.size)) = R) ∧ Hid (Below w.heap.size w wr)) (fun i _ => ss.length - (intOf i).toNat)
    case atStart => exact ⟨0, rfl, by omega, HR.out, Below.refl _ _⟩
    case round =>
      obtain ⟨k, rfl, hk, HM, HB⟩ := hrel
      by_cases hlt : k < ss.length
      · obtain ⟨g, o, rfl, _, hg, hc⟩ := HS.out.at_ hlt
        have hc2 := range_below HB.out hg hc
        have hst : ((largeB ss[k].x.a || decide (2000 < ss[k].q.nm.size)) || ((ss.drop (k + 1)).any fun s => largeB s.x.a || decide (2000 < s.q.nm.size))) = R := by
          rw [← HM.out, List.drop_eq_getElem_cons hlt]
          rfl
        have hla := large_any ss[k].x wr ((HF.out _ (List.getElem_mem hlt)).below HB.out)
        obtain ⟨_, c1, _, _, c4, c5, c6, c7, c8, _⟩ := step_cells hc2
        unfold Aw.val Aw.cells at hla
        have HLa := Lib.hid hla
        have HST := Lib.hid hst
        have hg' : g < w.heap.size := hg
        have HG := Lib.hid hg'
        clear hc hc2 hst hla hg hg'
        generalize ss[k].x.a.an.length = n1 at *
        generalize ss[k].x.a.au.length = n2 at *
        generalize ss[k].x.a.ex.length = n3 at *
        generalize ss[k].q.nm = nm at *
        cases hlB : largeB ss[k].x.a with
        | true =>
          rw [hlB] at HLa HST
          obtain rfl : R = true := by rw [← HST.out]; simp
          clear hlB
          go_wp2_with (go_at_call 23; refine HLa.out.mono ?_; rintro e w2 ⟨rfl, hb2⟩; have HB2 := Lib.hid (HB.out.trans (hb2.mono HB.out.size)); clear hb2)
          go_ret
          exact ⟨rfl, HB2.out⟩
        | false =>
          rw [hlB] at HLa HST
          by_cases h2 : 2000 < nm.size
          · have e1 : decide ((2000 : Int) < (nm.size : Int)) = true := decide_eq_true (by omega)
            obtain rfl : R = true := by rw [← HST.out]; simp [h2]
            clear hlB h2
            go_wp2_with (go_at_call 23; refine HLa.out.mono ?_; rintro e w2 ⟨rfl, hb2⟩; have HB2 := Lib.hid (HB.out.trans (hb2.mono HB.out.size)); have d1' := keep_cell hb2 c1; clear hb2)
            go_ret
            exact ⟨rfl, HB2.out⟩
          · have e1 : decide ((2000 : Int) < (nm.size : Int)) = false := decide_eq_false (by omega)
            have HM2 : Hid (((ss.drop (k + 1)).any fun s => largeB s.x.a || decide (2000 < s.q.nm.size)) = R) := by rw [Hid, ← HST.out]; simp [h2]
            clear hlB h2
            go_wp2_with (go_at_call 23; refine HLa.out.mono ?_; rintro e w2 ⟨rfl, hb2⟩; have HB2 := Lib.hid (HB.out.trans (hb2.mono HB.out.size)); have d1' := keep_cell hb2 c1; clear hb2)
            go_roundw
            case rel => exact ⟨k + 1, by go_num, by omega, HM2, HB2⟩
            case measure => simp [intOf]; omega
      · obtain rfl : k = ss.length := by omega
        obtain rfl : R = false := by have := HM.out; rw [List.drop_length] at this; exact this.symm
        go_wp2
        go_ret
        exact ⟨rfl, HB.out⟩
end Go.Proofs.Ytnhoaceickojeaa.Ca
/- An example is kept, and gone in time. -/
namespace Go.Proofs.Ytnhoaceickojeaa.Ca
open Go.RowKit

def d0 : Dv := ⟨⟨#[]⟩, ⟨#[]⟩, ⟨#[]⟩, 0, 0, 0, 0, 0⟩
def q0 : Kv := ⟨⟨#[1, 97, 0]⟩, 1, 1⟩
def r0 : Rv := ⟨⟨#[1, 65, 0]⟩, 1, 1, 5, d0⟩
def r4 : Rv := ⟨⟨#[1, 97, 0]⟩, 1, 1, 4, d0⟩
def a0 : Av := ⟨0, true, [r0], [], []⟩
def e0 : En := ⟨q0, a0, 100, 5⟩
theorem kp_ok : putOk q0 a0 = true := by kernel_rfl
theorem kp_put : putR 1 100 q0 a0 [] = [e0] := by kernel_rfl
theorem kp_get : getA 110 q0 [e0] = some ⟨0, false, [r4], [], []⟩ := by kernel_rfl
theorem kp_row : getR 110 q0 [e0] = [e0] := by kernel_rfl
theorem kp_no : getA 150 q0 [e0] = none := by kernel_rfl
theorem srow_one {w : World} {g hi : Nat} {t : TypeId} (r : Rv) (h : Has w g t r.cells) (hg : g < hi) : Srow rcl 12 w 0 hi (some ⟨g, 0, none⟩) [r] := fun _ => ⟨g, 0, rfl, Nat.zero_le _, hg, fun j hj => by
  have : j = 0 := by simp at hj; omega
  subst this
  exact has_range (vs := rcl r) h⟩
theorem a0_few : a0.few := ⟨by decide, by decide, by decide, fun r hr => by
  have : r = r0 := by simpa [a0, Av.recs] using hr
  subst this
  decide⟩
abbrev qV : Value := .agg #[.string ⟨#[1, 97, 0]⟩, .int .u16 1, .int .u16 1]
abbrev qO : Obj := .cells #[.string ⟨#[1, 97, 0]⟩, .int .u16 1, .int .u16 1] 35
abbrev rO : Obj := .cells #[.string ⟨#[1, 65, 0]⟩, .int .u16 1, .int .u16 1, .int .u32 5, .string ⟨#[]⟩, .string ⟨#[]⟩, .string ⟨#[]⟩, .int .u32 0, .int .u32 0, .int .u32 0, .int .u32 0, .int .u32 0] 50
theorem kp_putC {w : World} {lo c m : Nat} {sn : Int} (h : CM w lo c m 1 sn []) : Calls Try.prog 13 #[pt c, qV, .agg #[.int .u16 0, .bool true, .slice (some ⟨w.heap.size + 1, 0, none⟩) 1 1, .slice none 0 0, .slice none 0 0], .int .i64 100] ((w.alloc qO).alloc rO) (PutP ((w.alloc qO).alloc rO) lo c m 1 [] [e0] (.bool true)) := by
  have hR := Has.fresh (w.alloc qO) 50 r0.cells
  rw [World.size_alloc] at hR
  have hc : c < w.heap.size := h.lt c (by simp [foot])
  have hm : m < w.heap.size := h.lt m (by simp [foot])
  have hP := put_any (h.below (((Below.refl _ _).alloc (Nat.le_refl _) qO).alloc (by simp) rO)) (fun d hd => by cases hd) ⟨by omega, by omega⟩ q0 ⟨by decide, by decide, by decide⟩ ⟨a0, some ⟨w.heap.size + 1, 0, none⟩, 1, none, 0, none, 0⟩
    ⟨srow_one r0 hR (by simp), Srow.nil, Srow.nil, (fun h => by cases h), fun _ => rfl, fun _ => rfl⟩
    ⟨fun a ha _ => by cases ha; simp; omega, (fun a ha => by cases ha), (fun a ha => by cases ha)⟩ a0_few 100
  have e100 : tick 100 = 100 := by kernel_rfl
  rw [e100, kp_ok, show ([] : List Nd).map Nd.e = [] from rfl, kp_put] at hP
  exact hP
theorem kp_getC {w : World} {lo c m : Nat} {sn : Int} {l : List Nd} (h : CM w lo c m 1 sn l) (hs : Soon sn l) (hl : l.map Nd.e = [e0]) : Calls Try.prog 17 #[pt c, qV, .int .i64 110] w (GetP w lo c m 1 l [e0] (some ⟨0, false, [r4], [], []⟩)) ∧ Calls Try.prog 17 #[pt c, qV, .int .i64 150] w (GetP w lo c m 1 l (getR 150 q0 [e0]) none) := by
  have hf : ∀ d ∈ l, d.e.ans.few := fun d hd => by
    have : d.e ∈ l.map Nd.e := List.mem_map.2 ⟨d, hd, rfl⟩
    rw [hl] at this
    simp at this
    rw [this]
    exact a0_few
  have h1 := get_any h hs hf q0 ⟨by decide, by decide, by decide⟩ 110
  have h2 := get_any h hs hf q0 ⟨by decide, by decide, by decide⟩ 150
  have e1 : tick 110 = 110 := by kernel_rfl
  have e2 : tick 150 = 150 := by kernel_rfl
  rw [e1, hl, kp_row, kp_get] at h1
  rw [e2, hl, kp_no] at h2
  exact ⟨h1, h2⟩
set_option maxHeartbeats 1000000 in
set_option maxRecDepth 100000 in
theorem keeps_any (w : World) : Calls Try.prog 11 #[] w fun e w' => e = .returned (.bool true) ∧ Below w.heap.size w w' := by
  have HN := Lib.hid (new_yes 1 rfl w)
  go_enter Try.func11, Try.ntmps11
  go_upto_region 4 with (go_at_call 9; refine HN.out.mono ?_; rintro e w1 ⟨rfl, hC1, hB1, hs1⟩)
  have HP := Lib.hid (kp_putC hC1)
  have HQ3 := Lib.hid ((Has.fresh w1 35 #[.string ⟨#[1, 97, 0]⟩, .int .u16 1, .int .u16 1]).alloc rO)
  have HB3 := Lib.hid ((hB1.alloc hB1.size qO).alloc (by simp; have := hB1.size; omega) rO)
  have HF1 := Lib.hid hC1.lt
  have HS1 := Lib.hid hs1
  clear hC1 hB1 hs1
  go_upto_region 6 with (go_at_call 13; refine HP.out.mono ?_; rintro e w4 ⟨rfl, sn4, l4, hC4, hS4, hm4, hT4, hf4⟩)
  have hfl4 : ∀ k ∈ foot (w.heap.size + 1) w.heap.size l4, w.heap.size ≤ k := fun k hk => by
    rcases hf4 k hk with e | e
    · simp [foot] at e; omega
    · rw [World.size_alloc, World.size_alloc] at e; have := HS1.out; omega
  have hB4 : Below w.heap.size w w4 := HB3.out.trans (hT4.below (fun k hk => by simp at hk; omega) (by simp; have := HS1.out; omega))
  have hq4 := hT4.has HQ3.out (by simp; have := HS1.out; omega)
  have hqlt : w1.heap.size < w4.heap.size := hq4.lt
  have hqf : w1.heap.size ∉ foot (w.heap.size + 1) w.heap.size l4 := fun e => by
    rcases hf4 _ e with e | e
    · simp [foot] at e; have := HS1.out; omega
    · rw [World.size_alloc, World.size_alloc] at e; omega
  obtain ⟨q0c, q1c, q2c⟩ := q_cells hq4
  have HG := Lib.hid (kp_getC hC4 hS4 hm4).1
  have HQ4 := Lib.hid hq4
  have HB4 := Lib.hid hB4
  have HL4 := Lib.hid hfl4
  have HQf := Lib.hid hqf
  have HF4 := Lib.hid hC4.lt
  clear hC4 hS4 hm4 hT4 hf4 hB4 hq4 hfl4 hqf HB3 HQ3 HP
  go_upto_region 7 with (go_at_call 17; refine HG.out.mono ?_; rintro e w5 ⟨v, rfl, hv, sn5, l5, hC5, hS5, hm5, hT5, hf5⟩; obtain ⟨x, rfl, v1, v2, v3, rfl, o1, o2, o3⟩ := hv; obtain ⟨g, c1, rfl, _, hg1, hg2⟩ := own_pos_form o1 (by decide); obtain ⟨A2, c2, rfl, _⟩ := ownK_form o2; obtain ⟨A3, c3, rfl, _⟩ := ownK_form o3; unfold ansV)
  have HX5 := Has.fresh w5 38 #[.int .u16 0, .bool false, .slice (some ⟨g, 0, none⟩) 1 c1, .slice A2 0 c2, .slice A3 0 c3]
  have hBx := (Below.refl w5.heap.size w5).alloc (Nat.le_refl _) (.cells #[.int .u16 0, .bool false, .slice (some ⟨g, 0, none⟩) 1 c1, .slice A2 0 c2, .slice A3 0 c3] 38)
  have hlt45 := hT5.size
  have hq5 := hT5.has HQ4.out (fun e => HQf.out (foot_bs _ e))
  have hB5 : Below w.heap.size w w5 := HB4.out.trans (hT5.below (fun k hk => HL4.out k (foot_bs k hk)) HB4.out.size)
  have hG2 := (kp_getC (hC5.below hBx) hS5 hm5).2
  have hlt5 : ∀ k ∈ foot (w.heap.size + 1) w.heap.size l5, k < w4.heap.size := fun k hk => HF4.out k (hf5 k hk)
  have hLo5 : ∀ k ∈ foot (w.heap.size + 1) w.heap.size l5, w.heap.size ≤ k := fun k hk => HL4.out k (hf5 k hk)
  have hqx := hq5.below hBx hq5.lt
  have ho1 := own_below o1 hBx (Nat.le_refl _)
  obtain ⟨q0c, q1c, q2c⟩ := q_cells hqx
  have HG2 := Lib.hid hG2
  have HX := Lib.hid HX5
  have HO1 := Lib.hid ho1
  have HBw := Lib.hid (hB5.trans (hBx.mono hB5.size))
  have HLt := Lib.hid hlt5
  have HLo := Lib.hid hLo5
  have hgl : g < w5.heap.size := hg2
  clear HX5 hBx hq5 hB5 hG2 hlt5 hLo5 hqx ho1 hC5 hS5 hm5 hT5 hf5 o1 o2 o3 HQ4 HB4 HL4 HF4 HQf
  go_upto_region 8 with (go_at_call 17; refine HG2.out.mono ?_; rintro e w6 ⟨v, rfl, hv, sn6, l6, hC6, hS6, hm6, hT6, hf6⟩; obtain rfl := hv; unfold zans)
  have hx6 := hT6.has HX.out (fun e => by have := HLt.out _ (foot_bs _ e); omega)
  have ho6 := own_blk HO1.out fun q hq => hT6.same q (World.ownsRow.lt HO1.out q hq).2 fun e => by
    simp only [Value.ownBlock, Option.some.injEq] at hq
    have := HLt.out _ (foot_bs _ e)
    omega
  have hBz := (Below.refl w6.heap.size w6).alloc (Nat.le_refl _) (.cells #[.int .u16 0, .bool false, .slice none 0 0, .slice none 0 0, .slice none 0 0] 38)
  have hx7 := hx6.below hBz hx6.lt
  have ho7 := own_below ho6 hBz (Nat.le_refl _)
  have HB6 : Hid (Below w.heap.size w w6) := HBw.out.trans (hT6.below (fun k hk => HLo.out k (foot_bs k hk)) HBw.out.size)
  have HB7 := Lib.hid (HB6.out.alloc HB6.out.size (.cells #[.int .u16 0, .bool false, .slice none 0 0, .slice none 0 0, .slice none 0 0] 38))
  obtain ⟨_, x1, x2, _, _⟩ := a_cells hx7
  have y0 : (w6.alloc (.cells #[.int .u16 0, .bool false, .slice none 0 0, .slice none 0 0, .slice none 0 0] 38)).cell? ⟨g, 0, none⟩ = some (.string ⟨#[1, 97, 0]⟩) := (own_cell ho7 (k := 0) (i := 0) (by decide) (by decide)).1
  have y1 : (w6.alloc (.cells #[.int .u16 0, .bool false, .slice none 0 0, .slice none 0 0, .slice none 0 0] 38)).cell? ⟨g, 1, none⟩ = some (.int .u16 1) := (own_cell ho7 (k := 0) (i := 1) (by decide) (by decide)).1
  have y2 : (w6.alloc (.cells #[.int .u16 0, .bool false, .slice none 0 0, .slice none 0 0, .slice none 0 0] 38)).cell? ⟨g, 2, none⟩ = some (.int .u16 1) := (own_cell ho7 (k := 0) (i := 2) (by decide) (by decide)).1
  have y3 : (w6.alloc (.cells #[.int .u16 0, .bool false, .slice none 0 0, .slice none 0 0, .slice none 0 0] 38)).cell? ⟨g, 3, none⟩ = some (.int .u32 4) := (own_cell ho7 (k := 0) (i := 3) (by decide) (by decide)).1
  have y4 : (w6.alloc (.cells #[.int .u16 0, .bool false, .slice none 0 0, .slice none 0 0, .slice none 0 0] 38)).cell? ⟨g, 4, none⟩ = some (.string ⟨#[]⟩) := (own_cell ho7 (k := 0) (i := 4) (by decide) (by decide)).1
  have y5 : (w6.alloc (.cells #[.int .u16 0, .bool false, .slice none 0 0, .slice none 0 0, .slice none 0 0] 38)).cell? ⟨g, 5, none⟩ = some (.string ⟨#[]⟩) := (own_cell ho7 (k := 0) (i := 5) (by decide) (by decide)).1
  have y6 : (w6.alloc (.cells #[.int .u16 0, .bool false, .slice none 0 0, .slice none 0 0, .slice none 0 0] 38)).cell? ⟨g, 6, none⟩ = some (.string ⟨#[]⟩) := (own_cell ho7 (k := 0) (i := 6) (by decide) (by decide)).1
  have y7 : (w6.alloc (.cells #[.int .u16 0, .bool false, .slice none 0 0, .slice none 0 0, .slice none 0 0] 38)).cell? ⟨g, 7, none⟩ = some (.int .u32 0) := (own_cell ho7 (k := 0) (i := 7) (by decide) (by decide)).1
  have y8 : (w6.alloc (.cells #[.int .u16 0, .bool false, .slice none 0 0, .slice none 0 0, .slice none 0 0] 38)).cell? ⟨g, 8, none⟩ = some (.int .u32 0) := (own_cell ho7 (k := 0) (i := 8) (by decide) (by decide)).1
  have y9 : (w6.alloc (.cells #[.int .u16 0, .bool false, .slice none 0 0, .slice none 0 0, .slice none 0 0] 38)).cell? ⟨g, 9, none⟩ = some (.int .u32 0) := (own_cell ho7 (k := 0) (i := 9) (by decide) (by decide)).1
  have y10 : (w6.alloc (.cells #[.int .u16 0, .bool false, .slice none 0 0, .slice none 0 0, .slice none 0 0] 38)).cell? ⟨g, 10, none⟩ = some (.int .u32 0) := (own_cell ho7 (k := 0) (i := 10) (by decide) (by decide)).1
  have y11 : (w6.alloc (.cells #[.int .u16 0, .bool false, .slice none 0 0, .slice none 0 0, .slice none 0 0] 38)).cell? ⟨g, 11, none⟩ = some (.int .u32 0) := (own_cell ho7 (k := 0) (i := 11) (by decide) (by decide)).1
  clear hx6 ho6 hBz hx7 ho7 hC6 hS6 hm6 hT6 hf6 HB6
  revert x1 x2 y0 y1 y2 y3 y4 y5 y6 y7 y8 y9 y10 y11 HB7
  generalize w6.alloc _ = w7
  intro HB7 x1 x2 y0 y1 y2 y3 y4 y5 y6 y7 y8 y9 y10 y11
  have hrr := fun W => numsRun W 0 0 0 0 0 0 0 0 0 0 9996
  unfold numC at hrr
  go_wp2
  go_ret
  exact ⟨rfl, HB7.out⟩
end Go.Proofs.Ytnhoaceickojeaa.Ca
/- Two questions compared; one step of a cache, as a statement has it. -/
namespace Go.Proofs.Ytnhoaceickojeaa.Ca
open Go.RowKit

def qB (a b : Kv) : Bool := (a.nm.toList == b.nm.toList) && (((a.ty : Int) == b.ty) && ((a.cl : Int) == b.cl))
def kc (k : Kv) : Array Value := #[.string k.nm, .int .u16 (k.ty : Int), .int .u16 (k.cl : Int)]
set_option maxRecDepth 100000 in
theorem qRun (W : World) (a b : Kv) (d : Nat) : (Op.equalIn (d + 5) 35 (.agg (kc a)) (.agg (kc b))).run Try.prog W = .ok (qB a b) W := by
  rw [run_equalIn_agg W (d + 4) _ _ _ (by kernel_rfl) Try.stoodInHeld35]
  have hf : (Try.prog.fieldsOf 35).toList.map (fun f => (f.name != "_", f.type, f.offset)) = [(true, 32, 0), (true, 33, 1), (true, 33, 2)] := by kernel_rfl
  have hlen : (Try.prog.fieldsOf 35).toList.length = 3 := by kernel_rfl
  generalize (Try.prog.fieldsOf 35).toList = fs at *
  match fs, hlen, hf with
  | [f0, f1, f2], _, hf =>
    simp only [List.map_cons, List.map_nil, List.cons.injEq, Prod.mk.injEq] at hf
    obtain ⟨⟨n0, t0, o0⟩, ⟨n1, t1, o1⟩, ⟨n2, t2, o2⟩, _⟩ := hf
    have p0 : ∀ x : Kv, (part 32 (kc x) 0).run Try.prog W = .ok (.string x.nm) W := fun _ => rfl
    have p1 : ∀ x : Kv, (part 33 (kc x) 1).run Try.prog W = .ok (.int .u16 x.ty) W := fun _ => rfl
    have p2 : ∀ x : Kv, (part 33 (kc x) 2).run Try.prog W = .ok (.int .u16 x.cl) W := fun _ => rfl
    have m0 : ¬ (f0.name = "_") := by simpa using n0
    have m1 : ¬ (f1.name = "_") := by simpa using n1
    have m2 : ¬ (f2.name = "_") := by simpa using n2
    have st : ∀ (f : Field) (va vb : Value) (x y : Bool) (fs : List Field), ¬ (f.name = "_") → (part f.type (kc a) f.offset).run Try.prog W = .ok va W → (part f.type (kc b) f.offset).run Try.prog W = .ok vb W →
        (Op.equalIn (d + 4) f.type va vb).run Try.prog W = .ok x W → (Op.eqFields (d + 4) (kc a) (kc b) fs).run Try.prog W = .ok y W → (Op.eqFields (d + 4) (kc a) (kc b) (f :: fs)).run Try.prog W = .ok (x && y) W := fun f va vb x y fs hn ha hb he hr => by
      simp only [Op.eqFields, ne_eq, hn, not_false_eq_true, if_true, Sem.run_bind, ha, hb, he, Result.andThen_ok]
      exact and_run W (fun _ => Op.eqFields (d + 4) (kc a) (kc b) fs) _ hr
    have h2 := st f2 _ _ _ true [] m2 (by rw [t2, o2]; exact p2 a) (by rw [t2, o2]; exact p2 b) (by rw [t2]; exact run_equalIn_int W _ _ _ _ _ _ Try.underlying33) rfl
    rw [Bool.and_true] at h2
    exact st f0 _ _ _ _ _ m0 (by rw [t0, o0]; exact p0 a) (by rw [t0, o0]; exact p0 b) (by rw [t0]; exact run_equalIn_string W _ _ _ _ Try.underlying32)
      (st f1 _ _ _ _ _ m1 (by rw [t1, o1]; exact p1 a) (by rw [t1, o1]; exact p1 b) (by rw [t1]; exact run_equalIn_int W _ _ _ _ _ _ Try.underlying33) h2)
theorem qB_iff (a b : Kv) : qB a b = true ↔ a = b := by
  obtain ⟨nm, ty, cl⟩ := a
  obtain ⟨nm', ty', cl'⟩ := b
  unfold qB
  rw [strB]
  simp only [Bool.and_eq_true, decide_eq_true_eq, beq_iff_eq, Kv.mk.injEq, Int.ofNat_inj]
theorem qRun_eq (a : Kv) (W : World) : (Op.equalIn 10000 35 (.agg (kc a)) (.agg (kc a))).run Try.prog W = .ok true W := by
  have h := qRun W a a 9995
  rw [(qB_iff a a).2 rfl] at h
  exact h
theorem qRun_ne {a b : Kv} (hne : a ≠ b) (W : World) : (Op.equalIn 10000 35 (.agg (kc a)) (.agg (kc b))).run Try.prog W = .ok false W := by
  have h := qRun W a b 9995
  rw [show qB a b = false from by
    cases hb : qB a b with
    | false => rfl
    | true => exact absurd ((qB_iff a b).1 hb) hne] at h
  exact h
/-- the cache between two steps. -/
structure St (w : World) (lo c m room : Nat) (l : List Nd) : Prop where
  cm : ∃ sn, CM w lo c m room sn l ∧ Soon sn l
  rm : 1 ≤ room ∧ room ≤ 4096
  len : l.length ≤ room
  few : ∀ e ∈ l.map Nd.e, e.ans.few
theorem sweep_len {α : Type} (f : α → En) (n : Nat) (l : List α) : (sweep f n l).length ≤ l.length := (sweep_sub f n l).length_le
theorem drop_len {α : Type} (f : α → En) (k : Kv) (l : List α) : (drop f k l).length ≤ l.length := (drop_sub f k l).length_le
theorem putR_len {room now : Nat} {q : Kv} {a : Av} {l : List En} (hl : l.length ≤ room) : (putR room now q a l).length ≤ room := by
  have h1 := sweep_len id now l
  unfold putR
  split
  · unfold putL
    have h2 := drop_len id (foldK q) (sweep id now l)
    dsimp only
    split
    · rw [List.length_drop, List.length_append]
      simp
      omega
    · omega
  · omega
theorem putR_mem {room now : Nat} {q : Kv} {a : Av} {l : List En} : ∀ e ∈ putR room now q a l, e ∈ l ∨ (putOk q a = true ∧ e = ⟨foldK q, a, now, life a⟩) := fun e he => by
  unfold putR at he
  split at he
  · rename_i hok
    have he2 : e ∈ drop id (foldK q) (sweep id now l) ++ [⟨foldK q, a, now, life a⟩] := by
      unfold putL at he
      dsimp only at he
      split at he
      · exact List.mem_of_mem_drop he
      · exact he
    rcases List.mem_append.1 he2 with h | h
    · exact .inl ((sweep_sub id now l).subset ((drop_sub id _ _).subset h))
    · exact .inr ⟨hok, by simpa using h⟩
  · exact .inl ((sweep_sub id now l).subset he)
theorem putR_last {room now : Nat} {q : Kv} {a : Av} {l : List En} (hr : 1 ≤ room) (hok : putOk q a = true) : ∃ A, putR room now q a l = A ++ [⟨foldK q, a, now, life a⟩] := by
  unfold putR
  rw [if_pos hok]
  unfold putL
  dsimp only
  split
  · rename_i h
    rw [List.length_append] at h
    simp at h
    refine ⟨(drop id (foldK q) (sweep id now l)).drop 1, ?_⟩
    rw [List.drop_append_of_le_length (by omega)]
  · exact ⟨_, rfl⟩
theorem getR_mem {now : Nat} {q : Kv} {l : List En} : ∀ e ∈ getR now q l, e ∈ l := fun e he => by
  unfold getR at he
  split at he
  · exact (sweep_sub id now l).subset he
  · rename_i x hx
    rcases List.mem_append.1 he with h | h
    · exact (sweep_sub id now l).subset ((drop_sub id _ _).subset h)
    · simp at h
      subst h
      exact (sweep_sub id now l).subset (List.mem_of_find?_eq_some hx)
theorem getR_last {now : Nat} {q : Kv} {l : List En} (h : (getA now q l).isSome = true) : ∃ A x, getR now q l = A ++ [x] ∧ x.key = foldK q := by
  unfold getA at h
  unfold getR
  cases hf : find id (foldK q) (sweep id now l) with
  | none => rw [hf] at h; cases h
  | some e =>
    refine ⟨_, e, rfl, ?_⟩
    have := List.find?_some hf
    simpa using this
theorem St.put {w : World} {lo c m room : Nat} {l : List Nd} (h : St w lo c m room l) (q : Kv) (hq : KvOk q) (x : Aw) (hx : x.lies w) (ha : x.away (c :: m :: bs l)) (hf : x.a.few) (now : Int) :
    Calls Try.prog 13 #[pt c, q.val, x.val, .int .i64 now] w fun e w' => e = .returned (.bool (putOk q x.a)) ∧ ∃ l', St w' lo c m room l' ∧ l'.map Nd.e = putR room (tick now) q x.a (l.map Nd.e) ∧ Tch (c :: m :: bs l) w w' ∧ (∀ k ∈ foot c m l', k ∈ foot c m l ∨ w.heap.size ≤ k) := by
  obtain ⟨sn, hC, hS⟩ := h.cm
  refine (put_any hC hS h.rm q hq x hx ha hf now).mono fun e w' ⟨h1, sn', l', h2, h3, h4, h5, h6⟩ => ⟨h1, l', ⟨⟨sn', h2, h3⟩, h.rm, ?_, fun e he => ?_⟩, h4, h5, h6⟩
  · have := putR_len (now := tick now) (q := q) (a := x.a) (show (l.map Nd.e).length ≤ room by rw [List.length_map]; exact h.len)
    rw [← h4, List.length_map] at this
    exact this
  · rw [h4] at he
    rcases putR_mem e he with h7 | ⟨_, h7⟩
    · exact h.few e h7
    · rw [h7]; exact hf
theorem St.get {w : World} {lo c m room : Nat} {l : List Nd} (h : St w lo c m room l) (q : Kv) (hq : KvOk q) (now : Int) :
    Calls Try.prog 17 #[pt c, q.val, .int .i64 now] w fun e w' => ∃ v, e = .returned v ∧ GetV w' w.heap.size (getA (tick now) q (l.map Nd.e)) v ∧ ∃ l', St w' lo c m room l' ∧ l'.map Nd.e = getR (tick now) q (l.map Nd.e) ∧ Tch (c :: m :: bs l) w w' ∧ (∀ k ∈ foot c m l', k ∈ foot c m l) := by
  obtain ⟨sn, hC, hS⟩ := h.cm
  refine (get_any hC hS (fun d hd => h.few _ (List.mem_map.2 ⟨d, hd, rfl⟩)) q hq now).mono fun e w' ⟨v, h1, hv, sn', l', h2, h3, h4, h5, h6⟩ => ⟨v, h1, hv, l', ⟨⟨sn', h2, h3⟩, h.rm, ?_, fun e he => ?_⟩, h4, h5, h6⟩
  · have e1 : (getR (tick now) q (l.map Nd.e)).length ≤ (l.map Nd.e).length := by
      unfold getR
      have h1 := sweep_len id (tick now) (l.map Nd.e)
      split
      · exact h1
      · rename_i x hx
        have hm : x ∈ sweep id (tick now) (l.map Nd.e) := List.mem_of_find?_eq_some hx
        have hk : x.key = foldK q := by have := List.find?_some hx; simpa using this
        have h2 : (drop id (foldK q) (sweep id (tick now) (l.map Nd.e))).length < (sweep id (tick now) (l.map Nd.e)).length := by
          unfold drop
          rw [List.length_filter_lt_length_iff_exists]
          exact ⟨x, hm, by simpa using hk⟩
        rw [List.length_append]
        simp only [List.length_cons, List.length_nil]
        omega
    rw [← h4, List.length_map, List.length_map] at e1
    have := h.len
    omega
  · rw [h4] at he
    exact h.few e (getR_mem e he)
theorem St.tch {w w' : World} {lo c m room : Nat} {l : List Nd} {S : List Nat} (h : St w lo c m room l) (ht : Tch S w w') (hS : ∀ k ∈ foot c m l, k ∉ S) : St w' lo c m room l := by
  obtain ⟨sn, hC, hs⟩ := h.cm
  exact ⟨⟨sn, hC.tch ht hS, hs⟩, h.rm, h.len, h.few⟩
theorem St.below {w w' : World} {lo c m room : Nat} {l : List Nd} (h : St w lo c m room l) (hb : Below w.heap.size w w') : St w' lo c m room l := h.tch (S := []) (Tch.of_below hb) (by simp)
theorem St.lt {w : World} {lo c m room : Nat} {l : List Nd} (h : St w lo c m room l) : ∀ k ∈ foot c m l, k < w.heap.size := by
  obtain ⟨sn, hC, hs⟩ := h.cm
  exact hC.lt
theorem St.low {w : World} {lo c m room : Nat} {l : List Nd} (h : St w lo c m room l) : ∀ k ∈ foot c m l, lo ≤ k := fun k hk => by
  obtain ⟨sn, hC, hs⟩ := h.cm
  simp only [foot, List.mem_cons, List.mem_append, List.mem_flatMap] at hk
  rcases hk with rfl | rfl | hk | ⟨d, hd, hk⟩
  · exact hC.low.1
  · exact hC.low.2.1
  · obtain ⟨d, hd, rfl⟩ := mem_bs hk
    exact (hC.low.2.2 d hd).1
  · exact (hC.low.2.2 d hd).2 k hk
theorem St.nodup {w : World} {lo c m room : Nat} {l : List Nd} (h : St w lo c m room l) : (l.map fun d => d.e.key).Nodup := by
  obtain ⟨sn, hC, hs⟩ := h.cm
  exact hC.keys
theorem St.new (n : Nat) (h : newOk n = true) (w : World) : Calls Try.prog 9 #[.int .i64 (n : Int)] w fun e w' => e = .returned (.tuple #[pt (w.heap.size + 1), .int .i64 0]) ∧ St w' w.heap.size (w.heap.size + 1) w.heap.size n [] ∧ Below w.heap.size w w' ∧ w'.heap.size = w.heap.size + 1 + 1 :=
  (new_yes n h w).mono fun e w' ⟨h1, h2, h3, h4⟩ => ⟨h1, ⟨⟨_, h2, fun d hd => by cases hd⟩, by
    unfold newOk at h
    rw [Bool.and_eq_true, decide_eq_true_eq, decide_eq_true_eq] at h
    omega, Nat.zero_le _, fun e he => by cases he⟩, h3, h4⟩
end Go.Proofs.Ytnhoaceickojeaa.Ca
/- CacheRoom: facts. -/
namespace Go.Proofs.Ytnhoaceickojeaa.Ca
open Go.RowKit

theorem large_few {a : Av} (h : largeB a = false) : a.few := by
  unfold largeB wideB at h
  simp only [Bool.or_eq_false_iff, decide_eq_false_iff_not, List.any_eq_false, decide_eq_true_eq] at h
  obtain ⟨⟨⟨h1, h2⟩, h3⟩, ⟨h4, h5⟩, h6⟩ := h
  refine ⟨by omega, by omega, by omega, recs_all (fun r hr => ?_) (fun r hr => ?_) (fun r hr => ?_)⟩
  · have := h4 r hr; omega
  · have := h5 r hr; omega
  · have := h6 r hr; omega
theorem heavy_few {ss : List Stv} (h : heavyB ss = false) : ss.length ≤ 150 ∧ ∀ s ∈ ss, s.x.a.few ∧ s.q.nm.size ≤ 2000 := by
  unfold heavyB at h
  rw [Bool.or_eq_false_iff, decide_eq_false_iff_not, List.any_eq_false] at h
  refine ⟨by omega, fun s hs => ?_⟩
  have := h.2 s hs
  simp only [Bool.or_eq_true, decide_eq_true_eq, not_or, Bool.not_eq_true] at this
  exact ⟨large_few this.1, by omega⟩
theorem mapkey (l : List Nd) : (l.map Nd.e).map En.key = l.map fun d => d.e.key := by rw [List.map_map]; rfl
theorem step_size (W : World) (s : Stv) {b : Nat} {t : TypeId} (h : Has W b t (stcl s).toArray) : W.cell? ⟨b, 0, none⟩ = some (.bool s.put) ∧ W.cell? ⟨b, 1, none⟩ = some (.string s.q.nm) ∧ W.cell? ⟨b, 2, none⟩ = some (.int .u16 (s.q.ty : Int)) ∧ W.cell? ⟨b, 3, none⟩ = some (.int .u16 (s.q.cl : Int)) ∧ W.cell? ⟨b, 4, none⟩ = some (.int .u16 (s.x.a.rc : Int)) ∧ W.cell? ⟨b, 5, none⟩ = some (.bool s.x.a.aa) ∧ W.cell? ⟨b, 6, none⟩ = some (.slice s.x.A1 s.x.a.an.length s.x.c1) ∧ W.cell? ⟨b, 7, none⟩ = some (.slice s.x.A2 s.x.a.au.length s.x.c2) ∧ W.cell? ⟨b, 8, none⟩ = some (.slice s.x.A3 s.x.a.ex.length s.x.c3) ∧ W.cell? ⟨b, 9, none⟩ = some (.int .i64 s.now) := by
  have := step_cells (o := 0) (has_range h)
  simpa using this
theorem stcl_one (s : Stv) : ((stcl s).toArray.all fun x => x.oneCell') = true := by simp [stcl, Value.oneCell']
/-- what a step tells, and leaves. -/
structure Did (w wx : World) (lo c m n : Nat) (q : Kv) (l : List Nd) (done : Bool) : Prop where
  ex : ∃ l', St wx lo c m n l' ∧ (done = true → ∃ A x, l' = A ++ [x] ∧ x.e.key = foldK q) ∧ Tch (c :: m :: bs l) w wx ∧ (∀ k ∈ foot c m l', k ∈ foot c m l ∨ w.heap.size ≤ k)
theorem last_nd {l : List Nd} {k : Kv} (h : ∃ A x, l.map Nd.e = A ++ [x] ∧ x.key = k) : ∃ A x, l = A ++ [x] ∧ x.e.key = k := by
  obtain ⟨A, x, h1, h2⟩ := h
  rcases snoc_cases l with rfl | ⟨B, y, rfl⟩
  · simp at h1
  · refine ⟨B, y, rfl, ?_⟩
    rw [List.map_append] at h1
    have := List.append_inj_right' h1 (by simp)
    simp at this
    rw [this]
    exact h2
theorem room_put {w : World} {lo c m n : Nat} {l : List Nd} {base : Nat} {w0 : World} (h : St w lo c m n l) (hlo : base ≤ lo) (s : Stv) (hs : s.x.lies w0) (hw0 : w0.heap.size = base) (hb : Below base w0 w) (hq : KvOk s.q) (hf : s.x.a.few) :
    Calls Try.prog 13 #[pt c, s.q.val, s.x.val, .int .i64 s.now] w fun e w' => ∃ done, e = .returned (.bool done) ∧ Did w w' lo c m n s.q l done := by
  subst hw0
  have hx := hs.below hb
  have hal : ∀ (A : Option Addr) (xs : List Rv), Srow rcl 12 w0 0 w0.heap.size A xs → ∀ a, A = some a → 0 < xs.length → a.block ∉ c :: m :: bs l := fun A xs hS a ha h0 e => by
    have h1 := srow_in hS a ha h0
    have h2 := h.low _ (foot_bs _ e)
    omega
  refine (h.put s.q hq s.x hx ⟨hal _ _ hs.s1, hal _ _ hs.s2, hal _ _ hs.s3⟩ hf s.now).mono fun e w' ⟨h1, l', h2, h3, h4, h5⟩ => ⟨_, h1, ⟨l', h2, fun hd => last_nd ?_, h4, h5⟩⟩
  obtain ⟨A, hA⟩ := putR_last (now := tick s.now) (l := l.map Nd.e) h.rm.1 hd
  exact ⟨A, _, h3.trans hA, rfl⟩
theorem room_get {w : World} {lo c m n : Nat} {l : List Nd} (h : St w lo c m n l) (s : Stv) (hq : KvOk s.q) :
    Calls Try.prog 17 #[pt c, s.q.val, .int .i64 s.now] w fun e w' => ∃ v done, e = .returned (.tuple #[v, .bool done]) ∧ Did w w' lo c m n s.q l done := by
  refine (h.get s.q hq s.now).mono fun e w' ⟨v, h1, hv, l', h2, h3, h4, h5⟩ => ?_
  unfold GetV at hv
  cases ho : getA (tick s.now) s.q (l.map Nd.e) with
  | none =>
    rw [ho] at hv
    refine ⟨_, false, by rw [h1, hv], ⟨l', h2, (fun hd => by cases hd), h4, fun k hk => .inl (h5 k hk)⟩⟩
  | some a =>
    rw [ho] at hv
    obtain ⟨x, hv, _⟩ := hv
    refine ⟨x, true, by rw [h1, hv], ⟨l', h2, fun _ => last_nd ?_, h4, fun k hk => .inl (h5 k hk)⟩⟩
    obtain ⟨A, y, h6, h7⟩ := getR_last (now := tick s.now) (q := s.q) (l := l.map Nd.e) (by rw [ho]; rfl)
    exact ⟨A, y, h3.trans h6, h7⟩
end Go.Proofs.Ytnhoaceickojeaa.Ca
