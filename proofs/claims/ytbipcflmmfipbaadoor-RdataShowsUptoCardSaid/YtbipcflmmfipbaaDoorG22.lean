/- Texts of the proofs, merged. -/
import Derived.Test.YtbipcflmmfipbaaDoorG21
import Derived.Test.YtbipcflmmfipbaaDoorG16
/- A row of writings of data by both: the state, and what a step does with it. -/
namespace Go.Proofs.YtbipcflmmfipbaaDoor
open Go.RowKit

theorem RowO.form {W : World} {b : Nat} {v : Value} {l : List UInt8} (h : RowO W b v l) : ∃ A c, v = .slice A l.length c := by
  rcases h with h | ⟨g, cp, rfl, h⟩
  · exact own_form h
  · exact ⟨_, _, rfl⟩
theorem RowO.kept {W W' : World} {b : Nat} {v u : Value} {l : List UInt8} (h : RowO W b v l) (hG : W.grownBy W' u.ownBlock) (ha : Apart v u) : RowO W' b v l := by
  rcases h with h | ⟨g, cp, rfl, h⟩
  · exact .inl (h.kept hG ha.row)
  · exact .inr ⟨g, cp, rfl, h.kept hG (show (Value.slice (some ⟨g, 0, none⟩) l.length cp).ownBlock = none ∨ (Value.slice (some ⟨g, 0, none⟩) l.length cp).ownBlock ≠ u.ownBlock from Apart.row (a := .slice (some ⟨g, 0, none⟩) l.length l.length) ha)⟩
theorem rowo_bs {W : World} {b n c : Nat} {A : Option Addr} {l : List UInt8} (h : RowO W b (.slice A n c) l) : Bs W 0 W.heap.size A l := by
  obtain ⟨A', c', e, _, _, hB⟩ := h.rds
  injection e with e1
  subst e1
  exact hB
theorem RowO.lt {W : World} {b : Nat} {v : Value} {l : List UInt8} (h : RowO W b v l) : ∀ g, v.ownBlock = some g → b ≤ g ∧ g < W.heap.size := by
  rcases h with h | ⟨g, cp, rfl, h⟩
  · exact fun g hg => h.lt g hg
  · exact fun j hj => h.lt j hj
theorem RowO.rg {W W' : World} {g base b : Nat} {v : Value} {l : List UInt8} (h : RowO W b v l) (k : Rg g base W W') {cs : Array Value} (hT : Has W g 92 cs) : RowO W' b v l := by
  rcases h with h | ⟨g, cp, rfl, h⟩
  · exact .inl (k.own hT h (by decide))
  · exact .inr ⟨g, cp, rfl, k.own hT h (by decide)⟩
theorem run_append_zeros_tight {P : Program} (w : World) (base : Nat) (t tn ty e : TypeId) (i : TypeInfo) (ht : P.underlying t = some (.slice e)) (htn : P.underlying tn = some (.int .i64)) (hi : P.info? e = some i) (hz : i.zero = some (.int .u8 0))
    (hsize : i.size = 1) (hby : i.bytes = 1) (g cq n : Nat) (xs : List Value) (hown : w.ownsRow base e 1 (.slice (some ⟨g, 0, none⟩) n cq) n xs) (k : Nat) (h0 : 0 < k) (h63 : n + k ≤ 140737488355328) (hbase : base ≤ w.heap.size) :
    ∃ v' w', (Builtin.append_ #[t, tn] ty #[.slice (some ⟨g, 0, none⟩) n n, .int .i64 k]).run P w = .ok v' w' ∧ w'.ownsRow base e 1 v' (n + k) (xs ++ bv (List.replicate k 0)) ∧ w.grownBy w' none ∧ v'.ownBlock = some w.heap.size := by
  have hzl : (bv (List.replicate k 0)).length = k := by simp [bv]
  have hlen : (xs ++ bv (List.replicate k 0)).length = (n + k) * 1 := by rw [List.length_append, hown.1, hzl]; omega
  have hge := grownCap_ge w (n + k) n e
  have hcm : grownCap w (n + k) n e ≤ maxLen := grownCap_le_maxLen w (n + k) n e (by unfold maxLen; omega)
  have hxl := hown.1
  have hn : k ≠ 0 := by omega
  have hw : IntKind.i64.wrap (k : Int) = k := by rw [IntKind.wrap_i64]; omega
  have h48i : ¬ (281474976710656 < (k : Int)) := by omega
  have hneg : ¬ ((k : Int) < 0) := by omega
  have hfo := run_firstCells_some (P := P) w.drew i.size n ⟨g, 0, none⟩ n n xs (by rw [hsize]; exact hown.1) (by
    intro j u hj
    have := hown.cells (g := g) rfl j u hj
    simpa using this)
  have h63' : ¬ (9223372036854775807 < ((n : Int) + (k : Int))) := by omega
  have hroom : ¬ (n + k ≤ n) := by omega
  have hfit : ¬ (281474976710656 < Builtin.nextslicecap (n + k) n) := by
    have := growslice_fits (need := n + k) (old := n) (bytes := 1) (by omega) (by omega)
    omega
  have hr : (Builtin.append_ #[t, tn] ty #[.slice (some ⟨g, 0, none⟩) n n, .int .i64 k]).run P w = .ok (.slice (some ⟨w.heap.size, 0, none⟩) (n + k) (grownCap w (n + k) n e)) (w.drew.alloc (.cells (xs.toArray ++ Builtin.zeroCells (Value.int .u8 0).cells k ++ Builtin.zeroCells (Value.int .u8 0).cells (grownCap w (n + k) n e - (n + k))) e)) := by
    rw [hsize] at hfo
    simp [Builtin.append_, run_underlying ht, run_underlying htn, sizeOf, typeInfo, zeroValue, hi, hz, asInt, asIntOf, hsize, hby, hw, hn, hneg, h48i, hroom, h63', hfit, Question.forced, hfo, newRow, grownCap]
  refine ⟨_, _, hr, ⟨hlen, .inr ⟨w.heap.size, _, _, rfl, hbase, heap_alloc_new w.drew _, hge, hcm, ?_, ?_⟩⟩, ⟨rfl, rfl, rfl, by simp, fun j hj _ => heap_alloc_old w.drew _ hj⟩, rfl⟩
  · simp only [Array.size_append, List.size_toArray, zeros_cells, List.length_replicate]
    omega
  · rw [zeros_cells, bv_zeros]
    simp only [Array.toList_append]
    have e1 : (n + k) * 1 = (xs ++ List.replicate k (Value.int .u8 0)).length := by rw [List.length_append, hxl, List.length_replicate]; omega
    rw [e1]
    exact List.take_left

section
variable {w W W' : World} {T : Tab} {la lb l : List UInt8} {va vb : Value}
end
/-- the room: bytes, and 600 zeros behind. -/
def Roo6 (w : World) (g : Nat) (l : List UInt8) : Prop := Has w g 5 (bv l ++ List.replicate 600 (Value.int .u8 0)).toArray
theorem roo6_of {w : World} {g : Nat} {l : List UInt8} (h : w.heap[g]? = some (.cells (splice (List.replicate (l.length + 600) (Value.int .u8 0)) 0 (bv l)).toArray 5 (0, 0))) : Roo6 w g l := by
  rw [room_splice] at h
  exact h
theorem roo6_bs {w : World} {g : Nat} {l : List UInt8} (h : Roo6 w g l) : Bs w 0 w.heap.size (some ⟨g, 0, none⟩) l := by
  have h' : Has w g 5 _ := h
  exact (Has.bs h' h'.lt (fun j hj => by rw [List.getElem?_toArray, List.getElem?_append_left (by rw [bv_length]; exact hj), bv_get l j hj])).more (Nat.zero_le _) (Nat.le_refl _)
section
variable {w W W' : World} {T : Tab} {l : List UInt8} {va vb : Value} {R t : Nat} {d : Dv}
/-- data that a writing may be handed. -/
def PdD (t : Nat) (d : Dv) : Prop := t ≤ 65535 ∧ d.fits ∧ d.raw.size ≤ 8796093022208 ∧ d.host.size ≤ 140737488355328 ∧ d.mail.size ≤ 140737488355328
end
end Go.Proofs.YtbipcflmmfipbaaDoor
/- A slice of items that came in, nil or not: each with a number, a type and data. -/
namespace Go.Proofs.YtbipcflmmfipbaaDoor
open Go.ChangeShapes Go.WideShapes Go.Deep Go.RowKit

set_option maxRecDepth 100000 in
/-- the eight cells of data. -/
theorem open_data_at {H : Type} {enc : TypeId × Value → H} {W : World} {fuel : Nat} {c0 c1 c2 c3 c4 c5 c6 c7 : Value} {d : DataW H} {p : List MemPlace} (hf : DataW.trod enc Tryd.prog W 0 (fun _ => true) true fuel 27 [c0, c1, c2, c3, c4, c5, c6, c7] = some (d, p)) :
    ∃ D : Dv, [c0, c1, c2, c3, c4, c5, c6, c7] = D.cells.toList ∧ D.fits ∧ D.raw.size + D.host.size + D.mail.size ≤ Rows.uptoBulk d := by
  obtain ⟨xs, n, _, hx, _, hlen, hg⟩ := DataW.trod_struct Tryd.underlying27 hf
  match xs, hlen with
  | [y0, y1, y2, y3], _ =>
    simp only [Prod.mk.injEq] at hx
    have k0 : Tryd.prog.cellsOf 9 = 1 := by kernel_rfl
    have k1 : Tryd.prog.cellsOf 23 = 1 := by kernel_rfl
    have k3 : Tryd.prog.cellsOf 25 = 5 := by kernel_rfl
    have k4 : Tryd.prog.cellsOf 24 = 1 := by kernel_rfl
    have g0 : DataW.trod enc Tryd.prog W 0 (fun _ => true) true n 9 (List.take (Tryd.prog.cellsOf 9) [c0, c1, c2, c3, c4, c5, c6, c7]) = some y0 := hg 0 _ rfl
    have g1 : DataW.trod enc Tryd.prog W 0 (fun _ => true) true n 23 (List.take (Tryd.prog.cellsOf 23) [c1, c2, c3, c4, c5, c6, c7]) = some y1 := hg 1 _ rfl
    have g2 : DataW.trod enc Tryd.prog W 0 (fun _ => true) true n 23 (List.take (Tryd.prog.cellsOf 23) [c2, c3, c4, c5, c6, c7]) = some y2 := hg 2 _ rfl
    have g3 : DataW.trod enc Tryd.prog W 0 (fun _ => true) true n 25 (List.take (Tryd.prog.cellsOf 25) [c3, c4, c5, c6, c7]) = some y3 := hg 3 _ rfl
    rw [k0] at g0
    rw [k1] at g1 g2
    rw [k3] at g3
    obtain ⟨s0, e0, rfl, _⟩ := DataW.trod_string Tryd.underlying9 g0
    obtain ⟨s1, e1, rfl, _⟩ := DataW.trod_string Tryd.underlying23 g1
    obtain ⟨s2, e2, rfl, _⟩ := DataW.trod_string Tryd.underlying23 g2
    obtain ⟨zs, m, _, rfl, _, hzl, hz⟩ := DataW.trod_array Tryd.underlying25 g3
    match zs, hzl with
    | [z0, z1, z2, z3, z4], _ =>
      have a0 := hz 0 (by omega)
      have a1 := hz 1 (by omega)
      have a2 := hz 2 (by omega)
      have a3 := hz 3 (by omega)
      have a4 := hz 4 (by omega)
      rw [k4] at a0 a1 a2 a3 a4
      have b0 : DataW.trod enc Tryd.prog W 0 (fun _ => true) true m 24 [c3] = some z0 := a0
      have b1 : DataW.trod enc Tryd.prog W 0 (fun _ => true) true m 24 [c4] = some z1 := a1
      have b2 : DataW.trod enc Tryd.prog W 0 (fun _ => true) true m 24 [c5] = some z2 := a2
      have b3 : DataW.trod enc Tryd.prog W 0 (fun _ => true) true m 24 [c6] = some z3 := a3
      have b4 : DataW.trod enc Tryd.prog W 0 (fun _ => true) true m 24 [c7] = some z4 := a4
      obtain ⟨n0, f0, rfl, w0⟩ := DataW.trod_int Tryd.underlying24 b0
      obtain ⟨n1, f1, rfl, w1⟩ := DataW.trod_int Tryd.underlying24 b1
      obtain ⟨n2, f2, rfl, w2⟩ := DataW.trod_int Tryd.underlying24 b2
      obtain ⟨n3, f3, rfl, w3⟩ := DataW.trod_int Tryd.underlying24 b3
      obtain ⟨n4, f4, rfl, w4⟩ := DataW.trod_int Tryd.underlying24 b4
      obtain ⟨m0, rfl, l0⟩ := wf_u32 w0
      obtain ⟨m1, rfl, l1⟩ := wf_u32 w1
      obtain ⟨m2, rfl, l2⟩ := wf_u32 w2
      obtain ⟨m3, rfl, l3⟩ := wf_u32 w3
      obtain ⟨m4, rfl, l4⟩ := wf_u32 w4
      injection e0 with e0 _
      injection e1 with e1 _
      injection e2 with e2 _
      injection f0 with f0 _
      injection f1 with f1 _
      injection f2 with f2 _
      injection f3 with f3 _
      injection f4 with f4 _
      subst e0 e1 e2 f0 f1 f2 f3 f4
      obtain ⟨rfl, _⟩ := hx
      have q0 : s0.data.toList.length = s0.size := by simp
      have q1 : s1.data.toList.length = s1.size := by simp
      have q2 : s2.data.toList.length = s2.size := by simp
      refine ⟨⟨s0, s1, s2, m0, m1, m2, m3, m4⟩, rfl, fits_mk l0 l1 l2 l3 l4, ?_⟩
      simp only [List.map_cons, List.map_nil, Rows.uptoBulk, Rows.uptoBulkAll]
      show s0.size + s1.size + s2.size ≤ _
      omega
structure DIt where
  skip : Int
  ty : Nat
  data : Dv
/-- items that stand from a slice's head on. -/
def DIts (w : World) (hi : Nat) (A : Option Addr) (its : List DIt) : Prop :=
  0 < its.length → ∃ g o, A = some ⟨g, o, none⟩ ∧ g < hi ∧ ∀ j (h : j < its.length), w.cell? ⟨g, o + j * 10, none⟩ = some (.int .i64 its[j].skip) ∧ w.cell? ⟨g, o + j * 10 + 1, none⟩ = some (.int .u16 its[j].ty) ∧ ∀ i, i < 8 → w.cell? ⟨g, o + j * 10 + 2 + i, none⟩ = its[j].data.cells[i]?
theorem DIts.keep {w w' : World} {hi : Nat} {A : Option Addr} {its : List DIt} (h : DIts w hi A its) (hb : Below hi w w') : DIts w' hi A its := fun h0 => by
  obtain ⟨g, o, hA, hg, hc⟩ := h h0
  exact ⟨g, o, hA, hg, fun j hj => ⟨(hb.cell hg).trans (hc j hj).1, (hb.cell hg).trans (hc j hj).2.1, fun i hi => (hb.cell hg).trans ((hc j hj).2.2 i hi)⟩⟩
theorem bulk_in {H : Type} {d : DataW H} : ∀ {x : List (DataW H)}, d ∈ x → Rows.uptoBulk d ≤ Rows.uptoBulkAll x
  | c :: r, hm => by
    rw [Rows.uptoBulkAll]
    rcases List.mem_cons.1 hm with rfl | hm
    · omega
    · have := bulk_in hm
      omega
theorem wf_u16i {x : Int} (h : (Lit.int .u16 x).wf = true) : ∃ n : Nat, x = n ∧ n ≤ 65535 := by
  have h1 : IntKind.u16.min = 0 := rfl
  have h2 : IntKind.u16.max = 65535 := rfl
  simp only [Lit.wf, Bool.and_eq_true, decide_eq_true_eq] at h
  exact ⟨x.toNat, by omega, by omega⟩
set_option maxRecDepth 100000 in
/-- the ten cells of an item. -/
theorem open_ditem {H : Type} {enc : TypeId × Value → H} {W : World} {fuel : Nat} {cs : List Value} {x : DataW H × List MemPlace} (hl : cs.length = 10) (hf : DataW.trod enc Tryd.prog W 0 (fun _ => true) true fuel 41 cs = some x) :
    ∃ it : DIt, cs = .int .i64 it.skip :: .int .u16 it.ty :: it.data.cells.toList ∧ (Lit.int .i64 it.skip).wf = true ∧ it.ty ≤ 65535 ∧ it.data.fits ∧ it.data.raw.size + it.data.host.size + it.data.mail.size ≤ Rows.uptoBulk x.1 := by
  match cs, hl with
  | [a0, a1, c0, c1, c2, c3, c4, c5, c6, c7], _ =>
    obtain ⟨xs, n, _, hx, _, hlen, hg⟩ := DataW.trod_struct Tryd.underlying41 hf
    match xs, hlen with
    | [y0, y1, (y2, q2)], _ =>
      subst hx
      have k0 : Tryd.prog.cellsOf 3 = 1 := by kernel_rfl
      have k1 : Tryd.prog.cellsOf 22 = 1 := by kernel_rfl
      have k2 : Tryd.prog.cellsOf 27 = 8 := by kernel_rfl
      have g0 : DataW.trod enc Tryd.prog W 0 (fun _ => true) true n 3 (List.take (Tryd.prog.cellsOf 3) [a0, a1, c0, c1, c2, c3, c4, c5, c6, c7]) = some y0 := hg 0 _ rfl
      have g1 : DataW.trod enc Tryd.prog W 0 (fun _ => true) true n 22 (List.take (Tryd.prog.cellsOf 22) [a1, c0, c1, c2, c3, c4, c5, c6, c7]) = some y1 := hg 1 _ rfl
      have g2 : DataW.trod enc Tryd.prog W 0 (fun _ => true) true n 27 (List.take (Tryd.prog.cellsOf 27) [c0, c1, c2, c3, c4, c5, c6, c7]) = some (y2, q2) := hg 2 _ rfl
      rw [k0] at g0
      rw [k1] at g1
      rw [k2] at g2
      obtain ⟨n0, f0, rfl, w0⟩ := DataW.trod_int Tryd.underlying3 g0
      obtain ⟨n1, f1, rfl, w1⟩ := DataW.trod_int Tryd.underlying22 g1
      obtain ⟨m1, rfl, l1⟩ := wf_u16i w1
      obtain ⟨D, hD, hF, hB⟩ := open_data_at g2
      injection f0 with f0 _
      injection f1 with f1 _
      subst f0 f1
      refine ⟨⟨n0, m1, D⟩, by rw [← hD], w0, l1, hF, ?_⟩
      simp only [List.map_cons, List.map_nil, Rows.uptoBulk, Rows.uptoBulkAll]
      omega
set_option maxRecDepth 100000 in
theorem open_ditems {H : Type} {enc : TypeId × Value → H} {W : World} {base : Nat} {v : Value} {d : DataW H} {p : List MemPlace} (hval : Value.okWide Tryd.prog W .any base 33 v) (h : DataW.Trod enc Tryd.prog W 0 (fun _ => true) true 33 v d p) :
    ∃ A its c, v = .slice A its.length c ∧ its.length ≤ c ∧ (A = none → c = 0) ∧ DIts W W.heap.size A its ∧ ∀ it ∈ its, (Lit.int .i64 it.skip).wf = true ∧ it.ty ≤ 65535 ∧ it.data.fits ∧ it.data.raw.size + it.data.host.size + it.data.mail.size ≤ Rows.uptoBulk d := by
  obtain ⟨a0, len, cap, rfl⟩ := okWide_slice Tryd.underlying33 hval
  obtain ⟨fuel, hf⟩ := h
  have hC : Tryd.prog.cellsOf 41 = 10 := by kernel_rfl
  rcases open_slice Tryd.underlying33 hf with ⟨hcs, hx⟩ | ⟨a, len', cap', m, n, D, Pl, hcs, _, hl, hm, hmm, hx, hi⟩
  · simp [Value.cells] at hcs
    obtain ⟨rfl, rfl, rfl⟩ := hcs
    exact ⟨none, [], 0, rfl, Nat.le_refl _, fun _ => rfl, (fun h => absurd h (by simp)), fun it h => by cases h⟩
  · simp [Value.cells] at hcs
    obtain ⟨rfl, rfl, rfl⟩ := hcs
    simp only [Prod.mk.injEq] at hx
    obtain ⟨rfl, rfl⟩ := hx
    simp only [if_true] at hmm
    subst m
    have key : ∀ i, i < cap → ∃ it : DIt, W.cell? (a.add (i * 10)) = some (.int .i64 it.skip) ∧ W.cell? (a.add (i * 10 + 1)) = some (.int .u16 it.ty) ∧ (∀ j, j < 8 → W.cell? (a.add (i * 10 + 2 + j)) = it.data.cells[j]?) ∧ (Lit.int .i64 it.skip).wf = true ∧ it.ty ≤ 65535 ∧ it.data.fits ∧
        it.data.raw.size + it.data.host.size + it.data.mail.size ≤ Rows.uptoBulk (D i) := fun i hik => by
      obtain ⟨cs', hc, ht'⟩ := hi i hik
      rw [hC] at hc
      obtain ⟨_, hcl, hat⟩ := World.cells?_some hc
      obtain ⟨it, hcs', hw, hty, hfi, hbu⟩ := open_ditem hcl ht'
      have hat2 : ∀ j, j < 10 → W.cell? (a.add (i * 10 + j)) = cs'[j]? := fun j hj => by
        rw [← Go.Deep.add_add, hat j hj, List.getElem?_eq_getElem (by omega)]
      refine ⟨it, ?_, ?_, fun j hj => ?_, hw, hty, hfi, hbu⟩
      · have := hat2 0 (by omega)
        rw [hcs'] at this
        simpa using this
      · have := hat2 1 (by omega)
        rw [hcs'] at this
        simpa using this
      · have := hat2 (2 + j) (by omega)
        rw [hcs', ← Nat.add_assoc] at this
        rw [this, show 2 + j = j + 1 + 1 by omega, List.getElem?_cons_succ, List.getElem?_cons_succ, Array.getElem?_toList]
    have key' : ∀ i : Fin cap, ∃ it : DIt, W.cell? (a.add (i.1 * 10)) = some (.int .i64 it.skip) ∧ W.cell? (a.add (i.1 * 10 + 1)) = some (.int .u16 it.ty) ∧ (∀ j, j < 8 → W.cell? (a.add (i.1 * 10 + 2 + j)) = it.data.cells[j]?) ∧ (Lit.int .i64 it.skip).wf = true ∧ it.ty ≤ 65535 ∧ it.data.fits ∧
        it.data.raw.size + it.data.host.size + it.data.mail.size ≤ Rows.uptoBulk (D i.1) := fun i => key i.1 i.2
    obtain ⟨T, hT⟩ := Classical.axiomOfChoice key'
    have hlen : ((List.finRange cap).take len).length = len := by simp; omega
    have hlen2 : (((List.finRange cap).take len).map T).length = len := by rw [List.length_map, hlen]
    refine ⟨some a, ((List.finRange cap).take len).map T, cap, by rw [hlen2], by omega, (fun h => by cases h), fun hpos => ?_, fun it hit => ?_⟩
    · have hc0 := (hT ⟨0, by omega⟩).1
      rw [Nat.zero_mul] at hc0
      obtain ⟨e1, _⟩ := addr_form (k := 0) hc0
      refine ⟨a.block, a.off, by rw [← e1], ?_, fun j hj => ?_⟩
      · have := World.block_lt_of_cell? _ _ hc0
        rw [e1, (addr_form (k := 0) hc0).2] at this
        exact this
      · rw [hlen2] at hj
        obtain ⟨q0, q1, q2, _⟩ := hT ⟨j, by omega⟩
        rw [e1, (addr_form hc0).2] at q0 q1
        simp only [List.getElem_map, List.getElem_take, List.getElem_finRange, Fin.cast_mk]
        refine ⟨q0, by rw [Nat.add_assoc]; exact q1, fun i hi => ?_⟩
        have q := q2 i hi
        rw [e1, (addr_form hc0).2] at q
        rw [Nat.add_assoc, Nat.add_assoc, ← Nat.add_assoc (j * 10)]
        exact q
    · obtain ⟨i, hi2, rfl⟩ := List.mem_map.1 hit
      have hil : i.1 < len := by
        obtain ⟨k, hk, rfl⟩ := List.mem_iff_getElem.1 hi2
        simp at hk ⊢
        omega
      have hb := bulk_in (d := D i.1) (x := (List.range len).map D) (List.mem_map.2 ⟨i.1, List.mem_range.2 hil, rfl⟩)
      obtain ⟨_, _, _, r1, r2, r3, r4⟩ := hT i
      refine ⟨r1, r2, r3, ?_⟩
      rw [Rows.uptoBulk]
      omega
end Go.Proofs.YtbipcflmmfipbaaDoor
