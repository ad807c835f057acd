/- A message, or what an OPT says, as an argument. -/
import Derived.Test.YtnhoaceickojeaaMsRows
import Derived.Test.YtnhoaceickojeaaRrOpen
namespace Go.Proofs.Ytnhoaceickojeaa
open Go.ChangeShapes Go.WideShapes Go.Deep Go.RowKit

theorem weights_each {H : Type} {P : Program} : ∀ {ts : List TypeId} {ds : List (DataW H)} {i : Nat} {t : TypeId} {d : DataW H}, (DataW.weightsEach P ts ds).all (· ≤ reachBytes) = true → ts[i]? = some t → ds[i]? = some d → (d.weights P t).all (· ≤ reachBytes) = true
  | [], _, _, _, _, _, h, _ => by cases h
  | _ :: _, [], _, _, _, _, _, h => by cases h
  | t :: ts, d :: ds, i, t', d', h, h1, h2 => by
    rw [DataW.weightsEach, List.all_append, Bool.and_eq_true] at h
    cases i with
    | zero => cases h1; cases h2; exact h.1
    | succ i => exact weights_each h.2 (by simpa using h1) (by simpa using h2)
theorem struct_weights {H : Type} {P : Program} {t : TypeId} {fs : Array Field} (ht : P.underlying t = some (.struct fs)) {ds : List (DataW H)} (h : ((DataW.agg ds).weights P t).all (· ≤ reachBytes) = true) {i : Nat} {f : Field} {d : DataW H} (hf : fs[i]? = some f) (hd : ds[i]? = some d) :
    (d.weights P f.type).all (· ≤ reachBytes) = true := by
  simp only [DataW.weights, ht] at h
  exact weights_each h (by rw [List.getElem?_map, Array.getElem?_toList, hf]; rfl) hd
theorem struct_bulk {H : Type} {ds : List (DataW H)} {d : DataW H} (h : d ∈ ds) : Rows.uptoBulk d ≤ Rows.uptoBulk (DataW.agg ds) := by
  have := bulk_in h
  rw [Rows.uptoBulk]
  omega
theorem wf_u8i {x : Int} (h : (Lit.int .u8 x).wf = true) : ∃ n : Nat, x = n ∧ n ≤ 255 := by
  have h1 : IntKind.u8.min = 0 := rfl
  have h2 : IntKind.u8.max = 255 := rfl
  simp only [Lit.wf, Bool.and_eq_true, decide_eq_true_eq] at h
  exact ⟨x.toNat, by omega, by omega⟩
/-- the three cells of a question, or of a key. -/
abbrev kcl (q : Kv) : List Value := [.string q.nm, .int .u16 q.ty, .int .u16 q.cl]
theorem kcl_len (q : Kv) : (kcl q).length = 3 := rfl
/-- a message, as it comes. -/
structure Mv where
  id : Nat
  reply : Bool
  op : Nat
  aa : Bool
  tc : Bool
  rd : Bool
  ra : Bool
  z : Nat
  rc : Nat
  qA : Option Addr
  qs : List Kv
  qc : Nat
  aA : Option Addr
  an : List Rv
  ac : Nat
  uA : Option Addr
  us : List Rv
  uc : Nat
  eA : Option Addr
  es : List Rv
  ec : Nat
namespace Mv
def cells (m : Mv) : Array Value := #[.int .u16 m.id, .bool m.reply, .int .u8 m.op, .bool m.aa, .bool m.tc, .bool m.rd, .bool m.ra, .int .u8 m.z, .int .u8 m.rc, .slice m.qA m.qs.length m.qc, .slice m.aA m.an.length m.ac, .slice m.uA m.us.length m.uc, .slice m.eA m.es.length m.ec]
def val (m : Mv) : Value := .agg m.cells
/-- its numbers are numbers. -/
def fits (m : Mv) : Prop := m.id ≤ 65535 ∧ m.op ≤ 255 ∧ m.z ≤ 255 ∧ m.rc ≤ 255 ∧ (∀ q ∈ m.qs, q.ty ≤ 65535 ∧ q.cl ≤ 65535) ∧ (∀ r ∈ m.an, r.fits) ∧ (∀ r ∈ m.us, r.fits) ∧ (∀ r ∈ m.es, r.fits)
/-- its lists lie in memory. -/
def lies (m : Mv) (w : World) : Prop :=
  (m.qs.length ≤ m.qc ∧ (m.qA = none → m.qc = 0) ∧ Srow kcl 3 w 0 w.heap.size m.qA m.qs) ∧ (m.an.length ≤ m.ac ∧ (m.aA = none → m.ac = 0) ∧ Srow rcl 12 w 0 w.heap.size m.aA m.an) ∧
  (m.us.length ≤ m.uc ∧ (m.uA = none → m.uc = 0) ∧ Srow rcl 12 w 0 w.heap.size m.uA m.us) ∧ (m.es.length ≤ m.ec ∧ (m.eA = none → m.ec = 0) ∧ Srow rcl 12 w 0 w.heap.size m.eA m.es)
/-- its lists and texts are no longer than there may be. -/
def near (m : Mv) : Prop := (m.qc * 24 ≤ 140737488351232 ∧ ∀ q ∈ m.qs, q.nm.size ≤ 140737488351232) ∧ (m.ac * 96 ≤ 140737488351232 ∧ ∀ r ∈ m.an, r.near) ∧ (m.uc * 96 ≤ 140737488351232 ∧ ∀ r ∈ m.us, r.near) ∧ (m.ec * 96 ≤ 140737488351232 ∧ ∀ r ∈ m.es, r.near)
end Mv
set_option maxRecDepth 100000 in
theorem open_q_at {H : Type} {enc : TypeId × Value → H} {W : World} {fuel : Nat} {cs : List Value} {x : DataW H × List MemPlace} (hl : cs.length = 3) (hf : DataW.trod enc Try.prog W 0 (fun _ => true) true fuel 35 cs = some x) :
    ∃ q : Kv, cs = kcl q ∧ (q.ty ≤ 65535 ∧ q.cl ≤ 65535) ∧ ((x.1.weights Try.prog 35).all (· ≤ reachBytes) = true → q.nm.size ≤ 140737488351232) ∧ q.nm.size ≤ Rows.uptoBulk x.1 := by
  match cs, hl with
  | [a0, a1, a2], _ =>
    obtain ⟨xs, n, _, hx, _, hlen, hg⟩ := DataW.trod_struct Try.underlying35 hf
    match xs, hlen with
    | [y0, y1, y2], _ =>
      subst hx
      have k0 : Try.prog.cellsOf 32 = 1 := by kernel_rfl
      have k1 : Try.prog.cellsOf 33 = 1 := by kernel_rfl
      have g0 : DataW.trod enc Try.prog W 0 (fun _ => true) true n 32 (List.take (Try.prog.cellsOf 32) [a0, a1, a2]) = some y0 := hg 0 _ rfl
      have g1 : DataW.trod enc Try.prog W 0 (fun _ => true) true n 33 (List.take (Try.prog.cellsOf 33) [a1, a2]) = some y1 := hg 1 _ rfl
      have g2 : DataW.trod enc Try.prog W 0 (fun _ => true) true n 33 (List.take (Try.prog.cellsOf 33) [a2]) = some y2 := hg 2 _ rfl
      rw [k0] at g0
      rw [k1] at g1 g2
      obtain ⟨s0, e0, rfl, _⟩ := DataW.trod_string Try.underlying32 g0
      obtain ⟨n1, f1, rfl, w1⟩ := DataW.trod_int Try.underlying33 g1
      obtain ⟨n2, f2, rfl, w2⟩ := DataW.trod_int Try.underlying33 g2
      obtain ⟨m1, rfl, l1⟩ := wf_u16i w1
      obtain ⟨m2, rfl, l2⟩ := wf_u16i w2
      injection e0 with e0 _
      injection f1 with f1 _
      injection f2 with f2 _
      subst e0 f1 f2
      refine ⟨⟨s0, m1, m2⟩, rfl, ⟨l1, l2⟩, fun hw => ?_, ?_⟩
      · exact reach_str (struct_weights Try.underlying35 hw (i := 0) rfl rfl)
      · have := struct_bulk (H := H) (ds := [.lit (.string s0.data.toList), .lit (.int .u16 m1), .lit (.int .u16 m2)]) (d := .lit (.string s0.data.toList)) (by simp)
        have e : s0.data.toList.length = s0.size := by simp
        rw [show Rows.uptoBulk (DataW.lit (.string s0.data.toList) : DataW H) = s0.data.toList.length + 1 from by rw [Rows.uptoBulk]] at this
        show s0.size ≤ _
        refine Nat.le_trans ?_ this
        omega
/-- what an OPT says, as it comes. -/
structure Ev where
  size : Nat
  high : Nat
  ver : Nat
  flags : Nat
  opt : ByteArray
namespace Ev
def cells (x : Ev) : Array Value := #[.int .u16 x.size, .int .u8 x.high, .int .u8 x.ver, .int .u16 x.flags, .string x.opt]
def val (x : Ev) : Value := .agg x.cells
def fits (x : Ev) : Prop := x.size ≤ 65535 ∧ x.high ≤ 255 ∧ x.ver ≤ 255 ∧ x.flags ≤ 65535
end Ev
end Go.Proofs.Ytnhoaceickojeaa
