/- Texts of the proofs, merged. -/
import Derived.Test.YtmieakkhpkclpaaDoorG11
import Derived.Test.YtmieakkhpkclpaaDoorG10
import Derived.Test.YtmieakkhpkclpaaDoorG13
import Derived.Test.YtmieakkhpkclpaaDoorG22
import Derived.Test.YtmieakkhpkclpaaDoorG27
/- A slice of bytes that came in has at most as many as its bulk. -/
namespace Go.Proofs.YtmieakkhpkclpaaDoor
open Go.ChangeShapes Go.WideShapes Go.Deep Go.RowKit

theorem bulk_pos {H : Type} (d : DataW H) : 1 ≤ Rows.uptoBulk d := by
  cases d with
  | lit x => cases x <;> simp [Rows.uptoBulk]
  | nil => simp [Rows.uptoBulk]
  | ptr d => simp [Rows.uptoBulk]
  | slice a b => simp [Rows.uptoBulk]
  | agg a => simp [Rows.uptoBulk]
  | iface a b => simp [Rows.uptoBulk]
  | map a => simp [Rows.uptoBulk]
  | held a => simp [Rows.uptoBulk]
theorem bulk_len {H : Type} : ∀ x : List (DataW H), x.length ≤ Rows.uptoBulkAll x
  | [] => Nat.zero_le _
  | c :: r => by
    have h1 := bulk_pos c
    have h2 := bulk_len r
    rw [Rows.uptoBulkAll, List.length_cons]
    omega
set_option maxRecDepth 100000 in
theorem open_bulk {H : Type} {enc : TypeId × Value → H} {W : World} {base : Nat} {v : Value} {d : DataW H} {p : List MemPlace} {T e : TypeId} (hu : Tryd.prog.underlying T = some (.slice e)) (hval : Value.okWide Tryd.prog W .any base T v) (h : DataW.Trod enc Tryd.prog W 0 (fun _ => true) true T v d p) :
    ∀ A n c, v = .slice A n c → n ≤ Rows.uptoBulk d := by
  intro A n c hv
  obtain ⟨a0, len, cap, rfl⟩ := okWide_slice hu hval
  obtain ⟨fuel, hf⟩ := h
  injection hv with e1 e2 e3
  subst e2
  rcases open_slice hu hf with ⟨hcs, hx⟩ | ⟨a, len', cap', m, n, D, Pl, hcs, _, hl, hm, hmm, hx, hi⟩
  · simp [Value.cells] at hcs
    omega
  · simp [Value.cells] at hcs
    obtain ⟨rfl, rfl, rfl⟩ := hcs
    simp only [Prod.mk.injEq] at hx
    obtain ⟨rfl, rfl⟩ := hx
    have := bulk_len ((List.range len).map D)
    rw [List.length_map, List.length_range] at this
    rw [Rows.uptoBulk]
    omega
end Go.Proofs.YtmieakkhpkclpaaDoor
/- A slice of structs that came in, nil or not, wherever it stands. -/
namespace Go.Proofs.YtmieakkhpkclpaaDoor
open Go.ChangeShapes Go.WideShapes Go.Deep Go.RowKit

set_option maxRecDepth 100000 in
theorem open_rows {α : Type} {en : α → List Value} {k : Nat} (hk0 : 0 < k) (hke : ∀ x, (en x).length = k) {P : Program} {ts te : TypeId} (ht : P.underlying ts = some (.slice te)) (hC : P.cellsOf te = k)
    {F N : α → Prop} {B : α → Nat} {H : Type} {enc : TypeId × Value → H} {W : World} {fuel : Nat}
    (hone : ∀ {fuel : Nat} {cs : List Value} {x : DataW H × List MemPlace}, cs.length = k → DataW.trod enc P W 0 (fun _ => true) true fuel te cs = some x →
      ∃ r : α, cs = en r ∧ F r ∧ ((x.1.weights P te).all (· ≤ reachBytes) = true → N r) ∧ B r ≤ Rows.uptoBulk x.1)
    {cs : List Value} {x : DataW H × List MemPlace} (hf : DataW.trod enc P W 0 (fun _ => true) true fuel ts cs = some x) :
    ∃ A rs c, cs = [.slice A rs.length c] ∧ rs.length ≤ c ∧ (A = none → c = 0) ∧ Srow en k W 0 W.heap.size A rs ∧ (∀ r ∈ rs, F r) ∧
      ((x.1.weights P ts).all (· ≤ reachBytes) = true → c * P.bytesOf te ≤ 140737488351232 ∧ ∀ r ∈ rs, N r) ∧ (∀ r ∈ rs, B r ≤ Rows.uptoBulk x.1) ∧ rs.length ≤ Rows.uptoBulk x.1 := by
  rcases open_slice ht hf with ⟨hcs, hx⟩ | ⟨a, len, cap, m, n, D, Pl, hcs, _, hl, hm, hmm, hx, hi⟩
  · subst hcs hx
    exact ⟨none, [], 0, rfl, Nat.le_refl _, fun _ => rfl, Srow.nil, (fun r h => by cases h), (fun _ => ⟨by omega, fun r h => by cases h⟩), (fun r h => by cases h), Nat.zero_le _⟩
  · subst hcs hx
    simp only [if_true] at hmm
    subst m
    have key : ∀ i, i < cap → ∃ r : α, (∀ j, j < k → W.cell? (a.add (i * k + j)) = (en r)[j]?) ∧ F r ∧ (((D i).weights P te).all (· ≤ reachBytes) = true → N r) ∧ B r ≤ Rows.uptoBulk (D i) := fun i hik => by
      obtain ⟨cs', hc, ht'⟩ := hi i hik
      rw [hC] at hc
      obtain ⟨_, hcl, hat⟩ := World.cells?_some hc
      obtain ⟨r, hcs', hfi, hne, hbu⟩ := hone hcl ht'
      refine ⟨r, fun j hj => ?_, hfi, hne, hbu⟩
      rw [← Go.Deep.add_add, hat j hj, ← hcs', List.getElem?_eq_getElem (by omega)]
    have key' : ∀ i : Fin cap, ∃ r : α, (∀ j, j < k → W.cell? (a.add (i.1 * k + j)) = (en r)[j]?) ∧ F r ∧ (((D i.1).weights P te).all (· ≤ reachBytes) = true → N r) ∧ B r ≤ Rows.uptoBulk (D i.1) := fun i => key i.1 i.2
    obtain ⟨T, hT⟩ := Classical.axiomOfChoice key'
    have hlen : ((List.finRange cap).take len).length = len := by simp; omega
    have hlen2 : (((List.finRange cap).take len).map T).length = len := by rw [List.length_map, hlen]
    have hmem : ∀ r ∈ ((List.finRange cap).take len).map T, ∃ i : Fin cap, r = T i ∧ i.1 < len := fun r hr => by
      obtain ⟨i, hi2, rfl⟩ := List.mem_map.1 hr
      refine ⟨i, rfl, ?_⟩
      obtain ⟨q, hq, rfl⟩ := List.mem_iff_getElem.1 hi2
      simp at hq ⊢
      omega
    refine ⟨some a, ((List.finRange cap).take len).map T, cap, by rw [hlen2], by omega, (fun h => by cases h), fun hpos => ?_, fun r hr => ?_, fun hw => ⟨?_, fun r hr => ?_⟩, fun r hr => ?_, ?_⟩
    · have hv0 : (en (T ⟨0, by omega⟩))[0]? = some ((en (T ⟨0, by omega⟩))[0]'(by rw [hke]; exact hk0)) := List.getElem?_eq_getElem _
      have hc0 := (hT ⟨0, by omega⟩).1 0 hk0
      rw [Nat.zero_mul, Nat.zero_add, hv0] at hc0
      obtain ⟨e1, e2⟩ := addr_form (k := 0) hc0
      refine ⟨a.block, a.off, by rw [← e1], Nat.zero_le _, ?_, fun j hj => ?_⟩
      · have := World.block_lt_of_cell? _ _ hc0
        rw [e1, e2] at this
        exact this
      · rw [hlen2] at hj
        have q := (hT ⟨j, by omega⟩).1
        intro i u hu
        have hi12 : i < k := by
          have := (List.getElem?_eq_some_iff.1 hu).1
          rw [hke] at this
          exact this
        have q2 := q i hi12
        rw [e1, (addr_form hc0).2] at q2
        rw [Nat.add_assoc, ← hu]
        simp only [List.getElem_map, List.getElem_take, List.getElem_finRange, Fin.cast_mk]
        exact q2
    · obtain ⟨i, rfl, _⟩ := hmem r hr
      exact (hT i).2.1
    · have := reach_slice ht hw
      simp only [List.length_map, List.length_range] at this
      rwa [show len + (cap - len) = cap by omega] at this
    · obtain ⟨i, rfl, hil⟩ := hmem r hr
      simp only [DataW.weights, ht, List.all_cons, Bool.and_eq_true, List.all_append] at hw
      have hw1 := weights_in (d := D i.1) (List.mem_map.2 ⟨i.1, List.mem_range.2 hil, rfl⟩) hw.2.1
      exact (hT i).2.2.1 hw1
    · obtain ⟨i, rfl, hil⟩ := hmem r hr
      have hb := bulk_in (d := D i.1) (x := (List.range len).map D) (List.mem_map.2 ⟨i.1, List.mem_range.2 hil, rfl⟩)
      have := (hT i).2.2.2
      rw [Rows.uptoBulk]
      omega
    · have := bulk_len ((List.range len).map D)
      rw [List.length_map, List.length_range] at this
      rw [hlen2, Rows.uptoBulk]
      omega
end Go.Proofs.YtmieakkhpkclpaaDoor
/- A message, or what an OPT says, as an argument. -/
namespace Go.Proofs.YtmieakkhpkclpaaDoor
open Go.ChangeShapes Go.WideShapes Go.Deep Go.RowKit

theorem weights_each {H : Type} {P : Program} : ∀ {ts : List TypeId} {ds : List (DataW H)} {i : Nat} {t : TypeId} {d : DataW H}, (DataW.weightsEach P ts ds).all (· ≤ reachBytes) = true → ts[i]? = some t → ds[i]? = some d → (d.weights P t).all (· ≤ reachBytes) = true
  | [], _, _, _, _, _, h, _ => by cases h
  | _ :: _, [], _, _, _, _, _, h => by cases h
  | t :: ts, d :: ds, i, t', d', h, h1, h2 => by
    rw [DataW.weightsEach, List.all_append, Bool.and_eq_true] at h
    cases i with
    | zero => cases h1; cases h2; exact h.1
    | succ i => exact weights_each h.2 (by simpa using h1) (by simpa using h2)
theorem struct_weights {H : Type} {P : Program} {t : TypeId} {fs : Array Field} (ht : P.underlying t = some (.struct fs)) {ds : List (DataW H)} (h : ((DataW.agg ds).weights P t).all (· ≤ reachBytes) = true) {i : Nat} {f : Field} {d : DataW H} (hf : fs[i]? = some f) (hd : ds[i]? = some d) :
    (d.weights P f.type).all (· ≤ reachBytes) = true := by
  simp only [DataW.weights, ht] at h
  exact weights_each h (by rw [List.getElem?_map, Array.getElem?_toList, hf]; rfl) hd
theorem struct_bulk {H : Type} {ds : List (DataW H)} {d : DataW H} (h : d ∈ ds) : Rows.uptoBulk d ≤ Rows.uptoBulk (DataW.agg ds) := by
  have := bulk_in h
  rw [Rows.uptoBulk]
  omega
theorem wf_u8i {x : Int} (h : (Lit.int .u8 x).wf = true) : ∃ n : Nat, x = n ∧ n ≤ 255 := by
  have h1 : IntKind.u8.min = 0 := rfl
  have h2 : IntKind.u8.max = 255 := rfl
  simp only [Lit.wf, Bool.and_eq_true, decide_eq_true_eq] at h
  exact ⟨x.toNat, by omega, by omega⟩
/-- the three cells of a question, or of a key. -/
abbrev kcl (q : Kv) : List Value := [.string q.nm, .int .u16 q.ty, .int .u16 q.cl]
theorem kcl_len (q : Kv) : (kcl q).length = 3 := rfl
/-- a message, as it comes. -/
structure Mv where
  id : Nat
  reply : Bool
  op : Nat
  aa : Bool
  tc : Bool
  rd : Bool
  ra : Bool
  z : Nat
  rc : Nat
  qA : Option Addr
  qs : List Kv
  qc : Nat
  aA : Option Addr
  an : List Rv
  ac : Nat
  uA : Option Addr
  us : List Rv
  uc : Nat
  eA : Option Addr
  es : List Rv
  ec : Nat
namespace Mv
def cells (m : Mv) : Array Value := #[.int .u16 m.id, .bool m.reply, .int .u8 m.op, .bool m.aa, .bool m.tc, .bool m.rd, .bool m.ra, .int .u8 m.z, .int .u8 m.rc, .slice m.qA m.qs.length m.qc, .slice m.aA m.an.length m.ac, .slice m.uA m.us.length m.uc, .slice m.eA m.es.length m.ec]
def val (m : Mv) : Value := .agg m.cells
/-- its numbers are numbers. -/
def fits (m : Mv) : Prop := m.id ≤ 65535 ∧ m.op ≤ 255 ∧ m.z ≤ 255 ∧ m.rc ≤ 255 ∧ (∀ q ∈ m.qs, q.ty ≤ 65535 ∧ q.cl ≤ 65535) ∧ (∀ r ∈ m.an, r.fits) ∧ (∀ r ∈ m.us, r.fits) ∧ (∀ r ∈ m.es, r.fits)
/-- its lists lie in memory. -/
def lies (m : Mv) (w : World) : Prop :=
  (m.qs.length ≤ m.qc ∧ (m.qA = none → m.qc = 0) ∧ Srow kcl 3 w 0 w.heap.size m.qA m.qs) ∧ (m.an.length ≤ m.ac ∧ (m.aA = none → m.ac = 0) ∧ Srow rcl 12 w 0 w.heap.size m.aA m.an) ∧
  (m.us.length ≤ m.uc ∧ (m.uA = none → m.uc = 0) ∧ Srow rcl 12 w 0 w.heap.size m.uA m.us) ∧ (m.es.length ≤ m.ec ∧ (m.eA = none → m.ec = 0) ∧ Srow rcl 12 w 0 w.heap.size m.eA m.es)
/-- its lists and texts are no longer than there may be. -/
def near (m : Mv) : Prop := (m.qc * 24 ≤ 140737488351232 ∧ ∀ q ∈ m.qs, q.nm.size ≤ 140737488351232) ∧ (m.ac * 96 ≤ 140737488351232 ∧ ∀ r ∈ m.an, r.near) ∧ (m.uc * 96 ≤ 140737488351232 ∧ ∀ r ∈ m.us, r.near) ∧ (m.ec * 96 ≤ 140737488351232 ∧ ∀ r ∈ m.es, r.near)
end Mv
/-- what an OPT says, as it comes. -/
structure Ev where
  size : Nat
  high : Nat
  ver : Nat
  flags : Nat
  opt : ByteArray
namespace Ev
def cells (x : Ev) : Array Value := #[.int .u16 x.size, .int .u8 x.high, .int .u8 x.ver, .int .u16 x.flags, .string x.opt]
def val (x : Ev) : Value := .agg x.cells
def fits (x : Ev) : Prop := x.size ≤ 65535 ∧ x.high ≤ 255 ∧ x.ver ≤ 255 ∧ x.flags ≤ 65535
end Ev
end Go.Proofs.YtmieakkhpkclpaaDoor
/- A set as an argument. -/
namespace Go.Proofs.YtmieakkhpkclpaaDoor
open Go.ChangeShapes Go.WideShapes Go.Deep Go.RowKit

/-- a set, as it comes. -/
structure Tv where
  k : Kv
  ttl : Nat
  dA : Option Addr
  ds : List Dv
  dc : Nat
namespace Tv
def cells (s : Tv) : Array Value := #[.string s.k.nm, .int .u16 s.k.ty, .int .u16 s.k.cl, .int .u32 s.ttl, .slice s.dA s.ds.length s.dc]
def val (s : Tv) : Value := .agg s.cells
def fits (s : Tv) : Prop := s.k.ty ≤ 65535 ∧ s.k.cl ≤ 65535 ∧ s.ttl ≤ 4294967295 ∧ ∀ d ∈ s.ds, d.fits
def lies (s : Tv) (w : World) : Prop := s.ds.length ≤ s.dc ∧ (s.dA = none → s.dc = 0) ∧ Srow dcl 8 w 0 w.heap.size s.dA s.ds
def near (s : Tv) : Prop := s.k.nm.size ≤ 140737488351232 ∧ s.dc * 72 ≤ 140737488351232 ∧ ∀ d ∈ s.ds, d.raw.size ≤ 140737488351232 ∧ d.host.size ≤ 140737488351232 ∧ d.mail.size ≤ 140737488351232
end Tv
set_option maxRecDepth 100000 in
theorem open_k_at {H : Type} {enc : TypeId × Value → H} {W : World} {fuel : Nat} {a0 a1 a2 : Value} {x : DataW H × List MemPlace} (hf : DataW.trod enc Tryd.prog W 0 (fun _ => true) true fuel 26 [a0, a1, a2] = some x) :
    ∃ q : Kv, [a0, a1, a2] = kcl q ∧ (q.ty ≤ 65535 ∧ q.cl ≤ 65535) ∧ ((x.1.weights Tryd.prog 26).all (· ≤ reachBytes) = true → q.nm.size ≤ 140737488351232) := by
  obtain ⟨xs, n, _, hx, _, hlen, hg⟩ := DataW.trod_struct Tryd.underlying26 hf
  match xs, hlen with
  | [y0, y1, y2], _ =>
    subst hx
    have k0 : Tryd.prog.cellsOf 23 = 1 := by kernel_rfl
    have k1 : Tryd.prog.cellsOf 24 = 1 := by kernel_rfl
    have g0 : DataW.trod enc Tryd.prog W 0 (fun _ => true) true n 23 (List.take (Tryd.prog.cellsOf 23) [a0, a1, a2]) = some y0 := hg 0 _ rfl
    have g1 : DataW.trod enc Tryd.prog W 0 (fun _ => true) true n 24 (List.take (Tryd.prog.cellsOf 24) [a1, a2]) = some y1 := hg 1 _ rfl
    have g2 : DataW.trod enc Tryd.prog W 0 (fun _ => true) true n 24 (List.take (Tryd.prog.cellsOf 24) [a2]) = some y2 := hg 2 _ rfl
    rw [k0] at g0
    rw [k1] at g1 g2
    obtain ⟨s0, e0, rfl, _⟩ := DataW.trod_string Tryd.underlying23 g0
    obtain ⟨n1, f1, rfl, w1⟩ := DataW.trod_int Tryd.underlying24 g1
    obtain ⟨n2, f2, rfl, w2⟩ := DataW.trod_int Tryd.underlying24 g2
    obtain ⟨m1, rfl, l1⟩ := wf_u16i w1
    obtain ⟨m2, rfl, l2⟩ := wf_u16i w2
    injection e0 with e0 _
    injection f1 with f1 _
    injection f2 with f2 _
    subst e0 f1 f2
    exact ⟨⟨s0, m1, m2⟩, rfl, ⟨l1, l2⟩, fun hw => reach_str (struct_weights Tryd.underlying26 hw (i := 0) rfl rfl)⟩
set_option maxRecDepth 100000 in
theorem open_d_at {H : Type} {enc : TypeId × Value → H} {W : World} {fuel : Nat} {cs : List Value} {x : DataW H × List MemPlace} (hl : cs.length = 8) (hf : DataW.trod enc Tryd.prog W 0 (fun _ => true) true fuel 41 cs = some x) :
    ∃ d : Dv, cs = dcl d ∧ d.fits ∧ ((x.1.weights Tryd.prog 41).all (· ≤ reachBytes) = true → d.raw.size ≤ 140737488351232 ∧ d.host.size ≤ 140737488351232 ∧ d.mail.size ≤ 140737488351232) ∧ 0 ≤ Rows.uptoBulk x.1 := by
  match cs, hl with
  | [c0, c1, c2, c3, c4, c5, c6, c7], _ =>
    obtain ⟨x0, x1⟩ := x
    obtain ⟨D, hD, hF, _, hB⟩ := open_data_w hf
    exact ⟨D, hD, hF, hB, Nat.zero_le _⟩
set_option maxRecDepth 100000 in
/-- a set that came in. -/
theorem open_set {H : Type} {enc : TypeId × Value → H} {W : World} {base : Nat} {v : Value} {d : DataW H} {p : List MemPlace} (hval : Value.okWide Tryd.prog W .any base 30 v) (h : DataW.Trod enc Tryd.prog W 0 (fun _ => true) true 30 v d p) :
    ∃ s : Tv, v = s.val ∧ s.fits ∧ s.lies W ∧ ((d.weights Tryd.prog 30).all (· ≤ reachBytes) = true → s.near) := by
  obtain ⟨cs, rfl, hsz⟩ := okWide_struct Tryd.underlying30 hval
  have hsz8 : cs.size = 5 := hsz.trans (by kernel_rfl)
  obtain ⟨fuel, hf⟩ := h
  obtain ⟨cs⟩ := cs
  match cs, hsz8 with
  | [a0, a1, a2, a3, a4], _ =>
    obtain ⟨xs, n, _, hx, _, hlen, hg⟩ := DataW.trod_struct Tryd.underlying30 hf
    match xs, hlen with
    | [y0, y1, y2], _ =>
      simp only [Prod.mk.injEq] at hx
      obtain ⟨rfl, _⟩ := hx
      have kk : Tryd.prog.cellsOf 26 = 3 := by kernel_rfl
      have k3 : Tryd.prog.cellsOf 27 = 1 := by kernel_rfl
      have kd : Tryd.prog.cellsOf 28 = 1 := by kernel_rfl
      have g0 : DataW.trod enc Tryd.prog W 0 (fun _ => true) true n 26 (List.take (Tryd.prog.cellsOf 26) [a0, a1, a2, a3, a4]) = some y0 := hg 0 _ rfl
      rw [kk] at g0
      have g3 : DataW.trod enc Tryd.prog W 0 (fun _ => true) true n 27 (List.take (Tryd.prog.cellsOf 27) (List.drop (Tryd.prog.cellsOf 26) [a0, a1, a2, a3, a4])) = some y1 := hg 1 _ rfl
      rw [kk, k3] at g3
      have g4 : DataW.trod enc Tryd.prog W 0 (fun _ => true) true n 28 (List.take (Tryd.prog.cellsOf 28) [a4]) = some y2 := hg 2 _ rfl
      rw [kd] at g4
      obtain ⟨q, hq, lq, nq⟩ := open_k_at (a0 := a0) (a1 := a1) (a2 := a2) g0
      obtain ⟨i3, f3, rfl, w3⟩ := DataW.trod_int Tryd.underlying27 g3
      obtain ⟨n3, rfl, l3⟩ := wf_u32 w3
      have bd : Tryd.prog.bytesOf 41 = 72 := by kernel_rfl
      obtain ⟨A4, r4, c4, f4, p4, q4, s4, t4, u4, _, _⟩ := open_rows (by decide) dcl_len Tryd.underlying28 (by kernel_rfl) (fun h1 h2 => open_d_at h1 h2) g4
      rw [bd] at u4
      injection hq with h0 hq
      injection hq with h1 hq
      injection hq with h2 _
      injection f3 with f3 _
      injection f4 with f4 _
      subst h0 h1 h2 f3 f4
      refine ⟨⟨q, n3, A4, r4, c4⟩, rfl, ⟨lq.1, lq.2, l3, t4⟩, ⟨p4, q4, s4⟩, fun hw => ⟨?_, ?_⟩⟩
      · exact nq (struct_weights Tryd.underlying30 hw (i := 0) rfl rfl)
      · exact u4 (struct_weights Tryd.underlying30 hw (i := 2) rfl rfl)
end Go.Proofs.YtmieakkhpkclpaaDoor
