/- A message, or what an OPT says, as an argument. -/
import Derived.Test.YtapbcepjcnnkgabMsRows
import Derived.Test.YtapbcepjcnnkgabRrOpen
namespace Go.Proofs.Ytapbcepjcnnkgab
open Go.ChangeShapes Go.WideShapes Go.Deep Go.RowKit

theorem weights_each {H : Type} {P : Program} : ∀ {ts : List TypeId} {ds : List (DataW H)} {i : Nat} {t : TypeId} {d : DataW H}, (DataW.weightsEach P ts ds).all (· ≤ reachBytes) = true → ts[i]? = some t → ds[i]? = some d → (d.weights P t).all (· ≤ reachBytes) = true
  | [], _, _, _, _, _, h, _ => by cases h
  | _ :: _, [], _, _, _, _, _, h => by cases h
  | t :: ts, d :: ds, i, t', d', h, h1, h2 => by
    rw [DataW.weightsEach, List.all_append, Bool.and_eq_true] at h
    cases i with
    | zero => cases h1; cases h2; exact h.1
    | succ i => exact weights_each h.2 (by simpa using h1) (by simpa using h2)
theorem struct_weights {H : Type} {P : Program} {t : TypeId} {fs : Array Field} (ht : P.underlying t = some (.struct fs)) {ds : List (DataW H)} (h : ((DataW.agg ds).weights P t).all (· ≤ reachBytes) = true) {i : Nat} {f : Field} {d : DataW H} (hf : fs[i]? = some f) (hd : ds[i]? = some d) :
    (d.weights P f.type).all (· ≤ reachBytes) = true := by
  simp only [DataW.weights, ht] at h
  exact weights_each h (by rw [List.getElem?_map, Array.getElem?_toList, hf]; rfl) hd
theorem struct_bulk {H : Type} {ds : List (DataW H)} {d : DataW H} (h : d ∈ ds) : Rows.uptoBulk d ≤ Rows.uptoBulk (DataW.agg ds) := by
  have := bulk_in h
  rw [Rows.uptoBulk]
  omega
theorem wf_u8i {x : Int} (h : (Lit.int .u8 x).wf = true) : ∃ n : Nat, x = n ∧ n ≤ 255 := by
  have h1 : IntKind.u8.min = 0 := rfl
  have h2 : IntKind.u8.max = 255 := rfl
  simp only [Lit.wf, Bool.and_eq_true, decide_eq_true_eq] at h
  exact ⟨x.toNat, by omega, by omega⟩
/-- the three cells of a question, or of a key. -/
abbrev kcl (q : Kv) : List Value := [.string q.nm, .int .u16 q.ty, .int .u16 q.cl]
theorem kcl_len (q : Kv) : (kcl q).length = 3 := rfl
/-- a message, as it comes. -/
structure Mv where
  id : Nat
  reply : Bool
  op : Nat
  aa : Bool
  tc : Bool
  rd : Bool
  ra : Bool
  z : Nat
  rc : Nat
  qA : Option Addr
  qs : List Kv
  qc : Nat
  aA : Option Addr
  an : List Rv
  ac : Nat
  uA : Option Addr
  us : List Rv
  uc : Nat
  eA : Option Addr
  es : List Rv
  ec : Nat
namespace Mv
def cells (m : Mv) : Array Value := #[.int .u16 m.id, .bool m.reply, .int .u8 m.op, .bool m.aa, .bool m.tc, .bool m.rd, .bool m.ra, .int .u8 m.z, .int .u8 m.rc, .slice m.qA m.qs.length m.qc, .slice m.aA m.an.length m.ac, .slice m.uA m.us.length m.uc, .slice m.eA m.es.length m.ec]
def val (m : Mv) : Value := .agg m.cells
/-- its numbers are numbers. -/
def fits (m : Mv) : Prop := m.id ≤ 65535 ∧ m.op ≤ 255 ∧ m.z ≤ 255 ∧ m.rc ≤ 255 ∧ (∀ q ∈ m.qs, q.ty ≤ 65535 ∧ q.cl ≤ 65535) ∧ (∀ r ∈ m.an, r.fits) ∧ (∀ r ∈ m.us, r.fits) ∧ (∀ r ∈ m.es, r.fits)
/-- its lists lie in memory. -/
def lies (m : Mv) (w : World) : Prop :=
  (m.qs.length ≤ m.qc ∧ (m.qA = none → m.qc = 0) ∧ Srow kcl 3 w 0 w.heap.size m.qA m.qs) ∧ (m.an.length ≤ m.ac ∧ (m.aA = none → m.ac = 0) ∧ Srow rcl 12 w 0 w.heap.size m.aA m.an) ∧
  (m.us.length ≤ m.uc ∧ (m.uA = none → m.uc = 0) ∧ Srow rcl 12 w 0 w.heap.size m.uA m.us) ∧ (m.es.length ≤ m.ec ∧ (m.eA = none → m.ec = 0) ∧ Srow rcl 12 w 0 w.heap.size m.eA m.es)
/-- its lists and texts are no longer than there may be. -/
def near (m : Mv) : Prop := (m.qc * 24 ≤ 140737488351232 ∧ ∀ q ∈ m.qs, q.nm.size ≤ 140737488351232) ∧ (m.ac * 96 ≤ 140737488351232 ∧ ∀ r ∈ m.an, r.near) ∧ (m.uc * 96 ≤ 140737488351232 ∧ ∀ r ∈ m.us, r.near) ∧ (m.ec * 96 ≤ 140737488351232 ∧ ∀ r ∈ m.es, r.near)
end Mv
set_option maxRecDepth 100000 in
theorem open_q_at {H : Type} {enc : TypeId × Value → H} {W : World} {fuel : Nat} {cs : List Value} {x : DataW H × List MemPlace} (hl : cs.length = 3) (hf : DataW.trod enc Try.prog W 0 (fun _ => true) true fuel 53 cs = some x) :
    ∃ q : Kv, cs = kcl q ∧ (q.ty ≤ 65535 ∧ q.cl ≤ 65535) ∧ ((x.1.weights Try.prog 53).all (· ≤ reachBytes) = true → q.nm.size ≤ 140737488351232) ∧ q.nm.size ≤ Rows.uptoBulk x.1 := by
  match cs, hl with
  | [a0, a1, a2], _ =>
    obtain ⟨xs, n, _, hx, _, hlen, hg⟩ := DataW.trod_struct Try.underlying53 hf
    match xs, hlen with
    | [y0, y1, y2], _ =>
      subst hx
      have k0 : Try.prog.cellsOf 34 = 1 := by kernel_rfl
      have k1 : Try.prog.cellsOf 22 = 1 := by kernel_rfl
      have g0 : DataW.trod enc Try.prog W 0 (fun _ => true) true n 34 (List.take (Try.prog.cellsOf 34) [a0, a1, a2]) = some y0 := hg 0 _ rfl
      have g1 : DataW.trod enc Try.prog W 0 (fun _ => true) true n 22 (List.take (Try.prog.cellsOf 22) [a1, a2]) = some y1 := hg 1 _ rfl
      have g2 : DataW.trod enc Try.prog W 0 (fun _ => true) true n 22 (List.take (Try.prog.cellsOf 22) [a2]) = some y2 := hg 2 _ rfl
      rw [k0] at g0
      rw [k1] at g1 g2
      obtain ⟨s0, e0, rfl, _⟩ := DataW.trod_string Try.underlying34 g0
      obtain ⟨n1, f1, rfl, w1⟩ := DataW.trod_int Try.underlying22 g1
      obtain ⟨n2, f2, rfl, w2⟩ := DataW.trod_int Try.underlying22 g2
      obtain ⟨m1, rfl, l1⟩ := wf_u16i w1
      obtain ⟨m2, rfl, l2⟩ := wf_u16i w2
      injection e0 with e0 _
      injection f1 with f1 _
      injection f2 with f2 _
      subst e0 f1 f2
      refine ⟨⟨s0, m1, m2⟩, rfl, ⟨l1, l2⟩, fun hw => ?_, ?_⟩
      · exact reach_str (struct_weights Try.underlying53 hw (i := 0) rfl rfl)
      · have := struct_bulk (H := H) (ds := [.lit (.string s0.data.toList), .lit (.int .u16 m1), .lit (.int .u16 m2)]) (d := .lit (.string s0.data.toList)) (by simp)
        have e : s0.data.toList.length = s0.size := by simp
        rw [show Rows.uptoBulk (DataW.lit (.string s0.data.toList) : DataW H) = s0.data.toList.length + 1 from by rw [Rows.uptoBulk]] at this
        show s0.size ≤ _
        refine Nat.le_trans ?_ this
        omega
set_option maxRecDepth 100000 in
/-- a message that came in. -/
theorem open_msg {H : Type} {enc : TypeId × Value → H} {W : World} {base : Nat} {v : Value} {d : DataW H} {p : List MemPlace} (hval : Value.okWide Try.prog W .any base 26 v) (h : DataW.Trod enc Try.prog W 0 (fun _ => true) true 26 v d p) :
    ∃ m : Mv, v = m.val ∧ m.fits ∧ m.lies W ∧ ((d.weights Try.prog 26).all (· ≤ reachBytes) = true → m.near) ∧ (∀ r ∈ m.es, r.d.raw.size ≤ Rows.uptoBulk d) := by
  obtain ⟨cs, rfl, hsz⟩ := okWide_struct Try.underlying26 hval
  have hsz8 : cs.size = 13 := hsz.trans (by kernel_rfl)
  obtain ⟨fuel, hf⟩ := h
  obtain ⟨cs⟩ := cs
  match cs, hsz8 with
  | [a0, a1, a2, a3, a4, a5, a6, a7, a8, a9, a10, a11, a12], _ =>
    obtain ⟨xs, n, _, hx, _, hlen, hg⟩ := DataW.trod_struct Try.underlying26 hf
    match xs, hlen with
    | [y0, y1, y2, y3, y4, y5, y6, y7, y8, y9, y10, y11, y12], _ =>
      simp only [Prod.mk.injEq] at hx
      obtain ⟨rfl, _⟩ := hx
      have kb : Try.prog.cellsOf 4 = 1 := by kernel_rfl
      have k1 : Try.prog.cellsOf 22 = 1 := by kernel_rfl
      have k8 : Try.prog.cellsOf 5 = 1 := by kernel_rfl
      have kq : Try.prog.cellsOf 23 = 1 := by kernel_rfl
      have kr : Try.prog.cellsOf 24 = 1 := by kernel_rfl
      have g0 : DataW.trod enc Try.prog W 0 (fun _ => true) true n 22 (List.take (Try.prog.cellsOf 22) [a0, a1, a2, a3, a4, a5, a6, a7, a8, a9, a10, a11, a12]) = some y0 := hg 0 _ rfl
      have g1 : DataW.trod enc Try.prog W 0 (fun _ => true) true n 4 (List.take (Try.prog.cellsOf 4) [a1, a2, a3, a4, a5, a6, a7, a8, a9, a10, a11, a12]) = some y1 := hg 1 _ rfl
      have g2 : DataW.trod enc Try.prog W 0 (fun _ => true) true n 5 (List.take (Try.prog.cellsOf 5) [a2, a3, a4, a5, a6, a7, a8, a9, a10, a11, a12]) = some y2 := hg 2 _ rfl
      have g3 : DataW.trod enc Try.prog W 0 (fun _ => true) true n 4 (List.take (Try.prog.cellsOf 4) [a3, a4, a5, a6, a7, a8, a9, a10, a11, a12]) = some y3 := hg 3 _ rfl
      have g4 : DataW.trod enc Try.prog W 0 (fun _ => true) true n 4 (List.take (Try.prog.cellsOf 4) [a4, a5, a6, a7, a8, a9, a10, a11, a12]) = some y4 := hg 4 _ rfl
      have g5 : DataW.trod enc Try.prog W 0 (fun _ => true) true n 4 (List.take (Try.prog.cellsOf 4) [a5, a6, a7, a8, a9, a10, a11, a12]) = some y5 := hg 5 _ rfl
      have g6 : DataW.trod enc Try.prog W 0 (fun _ => true) true n 4 (List.take (Try.prog.cellsOf 4) [a6, a7, a8, a9, a10, a11, a12]) = some y6 := hg 6 _ rfl
      have g7 : DataW.trod enc Try.prog W 0 (fun _ => true) true n 5 (List.take (Try.prog.cellsOf 5) [a7, a8, a9, a10, a11, a12]) = some y7 := hg 7 _ rfl
      have g8 : DataW.trod enc Try.prog W 0 (fun _ => true) true n 5 (List.take (Try.prog.cellsOf 5) [a8, a9, a10, a11, a12]) = some y8 := hg 8 _ rfl
      have g9 : DataW.trod enc Try.prog W 0 (fun _ => true) true n 23 (List.take (Try.prog.cellsOf 23) [a9, a10, a11, a12]) = some y9 := hg 9 _ rfl
      have g10 : DataW.trod enc Try.prog W 0 (fun _ => true) true n 24 (List.take (Try.prog.cellsOf 24) [a10, a11, a12]) = some y10 := hg 10 _ rfl
      have g11 : DataW.trod enc Try.prog W 0 (fun _ => true) true n 24 (List.take (Try.prog.cellsOf 24) [a11, a12]) = some y11 := hg 11 _ rfl
      have g12 : DataW.trod enc Try.prog W 0 (fun _ => true) true n 24 (List.take (Try.prog.cellsOf 24) [a12]) = some y12 := hg 12 _ rfl
      rw [k1] at g0
      rw [kb] at g1 g3 g4 g5 g6
      rw [k8] at g2 g7 g8
      rw [kq] at g9
      rw [kr] at g10 g11 g12
      obtain ⟨i0, f0, rfl, w0⟩ := DataW.trod_int Try.underlying22 g0
      obtain ⟨b1, f1, rfl⟩ := DataW.trod_bool Try.underlying4 g1
      obtain ⟨i2, f2, rfl, w2⟩ := DataW.trod_int Try.underlying5 g2
      obtain ⟨b3, f3, rfl⟩ := DataW.trod_bool Try.underlying4 g3
      obtain ⟨b4, f4, rfl⟩ := DataW.trod_bool Try.underlying4 g4
      obtain ⟨b5, f5, rfl⟩ := DataW.trod_bool Try.underlying4 g5
      obtain ⟨b6, f6, rfl⟩ := DataW.trod_bool Try.underlying4 g6
      obtain ⟨i7, f7, rfl, w7⟩ := DataW.trod_int Try.underlying5 g7
      obtain ⟨i8, f8, rfl, w8⟩ := DataW.trod_int Try.underlying5 g8
      obtain ⟨n0, rfl, l0⟩ := wf_u16i w0
      obtain ⟨n2, rfl, l2⟩ := wf_u8i w2
      obtain ⟨n7, rfl, l7⟩ := wf_u8i w7
      obtain ⟨n8, rfl, l8⟩ := wf_u8i w8
      have bq : Try.prog.bytesOf 53 = 24 := by kernel_rfl
      have br : Try.prog.bytesOf 40 = 96 := by kernel_rfl
      obtain ⟨A9, r9, c9, f9, p9, q9, s9, t9, u9, _, _⟩ := open_rows (by decide) kcl_len Try.underlying23 (by kernel_rfl) (fun h1 h2 => open_q_at h1 h2) g9
      obtain ⟨A10, r10, c10, f10, p10, q10, s10, t10, u10, _, _⟩ := open_rows (by decide) rcl_len Try.underlying24 (by kernel_rfl) (fun h1 h2 => open_rec_at h1 h2) g10
      obtain ⟨A11, r11, c11, f11, p11, q11, s11, t11, u11, _, _⟩ := open_rows (by decide) rcl_len Try.underlying24 (by kernel_rfl) (fun h1 h2 => open_rec_at h1 h2) g11
      obtain ⟨A12, r12, c12, f12, p12, q12, s12, t12, u12, v12, _⟩ := open_rows (by decide) rcl_len Try.underlying24 (by kernel_rfl) (fun h1 h2 => open_rec_at h1 h2) g12
      rw [bq] at u9
      rw [br] at u10 u11 u12
      injection f0 with f0 _
      injection f1 with f1 _
      injection f2 with f2 _
      injection f3 with f3 _
      injection f4 with f4 _
      injection f5 with f5 _
      injection f6 with f6 _
      injection f7 with f7 _
      injection f8 with f8 _
      injection f9 with f9 _
      injection f10 with f10 _
      injection f11 with f11 _
      injection f12 with f12 _
      subst f0 f1 f2 f3 f4 f5 f6 f7 f8 f9 f10 f11 f12
      refine ⟨⟨n0, b1, n2, b3, b4, b5, b6, n7, n8, A9, r9, c9, A10, r10, c10, A11, r11, c11, A12, r12, c12⟩, rfl, ⟨l0, l2, l7, l8, t9, t10, t11, t12⟩, ⟨⟨p9, q9, s9⟩, ⟨p10, q10, s10⟩, ⟨p11, q11, s11⟩, ⟨p12, q12, s12⟩⟩, fun hw => ⟨?_, ?_, ?_, ?_⟩, fun r hr => ?_⟩
      · exact u9 (struct_weights Try.underlying26 hw (i := 9) rfl rfl)
      · exact u10 (struct_weights Try.underlying26 hw (i := 10) rfl rfl)
      · exact u11 (struct_weights Try.underlying26 hw (i := 11) rfl rfl)
      · exact u12 (struct_weights Try.underlying26 hw (i := 12) rfl rfl)
      · refine Nat.le_trans (v12 r hr) (struct_bulk ?_)
        simp
/-- what an OPT says, as it comes. -/
structure Ev where
  size : Nat
  high : Nat
  ver : Nat
  flags : Nat
  opt : ByteArray
namespace Ev
def cells (x : Ev) : Array Value := #[.int .u16 x.size, .int .u8 x.high, .int .u8 x.ver, .int .u16 x.flags, .string x.opt]
def val (x : Ev) : Value := .agg x.cells
def fits (x : Ev) : Prop := x.size ≤ 65535 ∧ x.high ≤ 255 ∧ x.ver ≤ 255 ∧ x.flags ≤ 65535
end Ev
set_option maxRecDepth 100000 in
theorem open_edns {H : Type} {enc : TypeId × Value → H} {W : World} {base : Nat} {v : Value} {d : DataW H} {p : List MemPlace} (hval : Value.okWide Try.prog W .any base 28 v) (h : DataW.Trod enc Try.prog W 0 (fun _ => true) true 28 v d p) :
    ∃ m : Ev, v = m.val ∧ m.fits ∧ ((d.weights Try.prog 28).all (· ≤ reachBytes) = true → m.opt.size ≤ 140737488351232) ∧ m.opt.size ≤ Rows.uptoBulk d := by
  obtain ⟨cs, rfl, hsz⟩ := okWide_struct Try.underlying28 hval
  have hsz8 : cs.size = 5 := hsz.trans (by kernel_rfl)
  obtain ⟨fuel, hf⟩ := h
  obtain ⟨cs⟩ := cs
  match cs, hsz8 with
  | [a0, a1, a2, a3, a4], _ =>
    obtain ⟨xs, n, _, hx, _, hlen, hg⟩ := DataW.trod_struct Try.underlying28 hf
    match xs, hlen with
    | [y0, y1, y2, y3, y4], _ =>
      simp only [Prod.mk.injEq] at hx
      obtain ⟨rfl, _⟩ := hx
      have k1 : Try.prog.cellsOf 22 = 1 := by kernel_rfl
      have k8 : Try.prog.cellsOf 5 = 1 := by kernel_rfl
      have ks : Try.prog.cellsOf 9 = 1 := by kernel_rfl
      have g0 : DataW.trod enc Try.prog W 0 (fun _ => true) true n 22 (List.take (Try.prog.cellsOf 22) [a0, a1, a2, a3, a4]) = some y0 := hg 0 _ rfl
      have g1 : DataW.trod enc Try.prog W 0 (fun _ => true) true n 5 (List.take (Try.prog.cellsOf 5) [a1, a2, a3, a4]) = some y1 := hg 1 _ rfl
      have g2 : DataW.trod enc Try.prog W 0 (fun _ => true) true n 5 (List.take (Try.prog.cellsOf 5) [a2, a3, a4]) = some y2 := hg 2 _ rfl
      have g3 : DataW.trod enc Try.prog W 0 (fun _ => true) true n 22 (List.take (Try.prog.cellsOf 22) [a3, a4]) = some y3 := hg 3 _ rfl
      have g4 : DataW.trod enc Try.prog W 0 (fun _ => true) true n 9 (List.take (Try.prog.cellsOf 9) [a4]) = some y4 := hg 4 _ rfl
      rw [k1] at g0 g3
      rw [k8] at g1 g2
      rw [ks] at g4
      obtain ⟨i0, f0, rfl, w0⟩ := DataW.trod_int Try.underlying22 g0
      obtain ⟨i1, f1, rfl, w1⟩ := DataW.trod_int Try.underlying5 g1
      obtain ⟨i2, f2, rfl, w2⟩ := DataW.trod_int Try.underlying5 g2
      obtain ⟨i3, f3, rfl, w3⟩ := DataW.trod_int Try.underlying22 g3
      obtain ⟨s4, f4, rfl, _⟩ := DataW.trod_string Try.underlying9 g4
      obtain ⟨n0, rfl, l0⟩ := wf_u16i w0
      obtain ⟨n1, rfl, l1⟩ := wf_u8i w1
      obtain ⟨n2, rfl, l2⟩ := wf_u8i w2
      obtain ⟨n3, rfl, l3⟩ := wf_u16i w3
      injection f0 with f0 _
      injection f1 with f1 _
      injection f2 with f2 _
      injection f3 with f3 _
      injection f4 with f4 _
      subst f0 f1 f2 f3 f4
      refine ⟨⟨n0, n1, n2, n3, s4⟩, rfl, ⟨l0, l1, l2, l3⟩, fun hw => ?_, ?_⟩
      · exact reach_str (struct_weights Try.underlying28 hw (i := 4) rfl rfl)
      · have := struct_bulk (H := H) (ds := [.lit (.int .u16 n0), .lit (.int .u8 n1), .lit (.int .u8 n2), .lit (.int .u16 n3), .lit (.string s4.data.toList)]) (d := .lit (.string s4.data.toList)) (by simp)
        have e : s4.data.toList.length = s4.size := by simp
        rw [show Rows.uptoBulk (DataW.lit (.string s4.data.toList) : DataW H) = s4.data.toList.length + 1 from by rw [Rows.uptoBulk]] at this
        show s4.size ≤ _
        refine Nat.le_trans ?_ this
        omega
end Go.Proofs.Ytapbcepjcnnkgab
