/- Records as arguments: one, or a slice of them. -/
import Derived.Test.YtnhoaceickojeaaRdOpen
import Derived.Test.YtnhoaceickojeaaRdItems
import Derived.Test.YtnhoaceickojeaaRrMem
import Derived.Test.YtnhoaceickojeaaRrRv
namespace Go.Proofs.Ytnhoaceickojeaa
open Go.ChangeShapes Go.WideShapes Go.Deep Go.RowKit

set_option maxRecDepth 100000 in
/-- the eight cells of data. -/
theorem open_data_w {H : Type} {enc : TypeId × Value → H} {W : World} {fuel : Nat} {c0 c1 c2 c3 c4 c5 c6 c7 : Value} {d : DataW H} {p : List MemPlace} (hf : DataW.trod enc Try.prog W 0 (fun _ => true) true fuel 48 [c0, c1, c2, c3, c4, c5, c6, c7] = some (d, p)) :
    ∃ D : Dv, [c0, c1, c2, c3, c4, c5, c6, c7] = D.cells.toList ∧ D.fits ∧ D.raw.size + D.host.size + D.mail.size ≤ Rows.uptoBulk d ∧ ((d.weights Try.prog 48).all (· ≤ reachBytes) = true → D.raw.size ≤ 140737488351232 ∧ D.host.size ≤ 140737488351232 ∧ D.mail.size ≤ 140737488351232) := by
  obtain ⟨xs, n, _, hx, _, hlen, hg⟩ := DataW.trod_struct Try.underlying48 hf
  match xs, hlen with
  | [y0, y1, y2, y3], _ =>
    simp only [Prod.mk.injEq] at hx
    have k0 : Try.prog.cellsOf 9 = 1 := by kernel_rfl
    have k1 : Try.prog.cellsOf 32 = 1 := by kernel_rfl
    have k3 : Try.prog.cellsOf 46 = 5 := by kernel_rfl
    have k4 : Try.prog.cellsOf 45 = 1 := by kernel_rfl
    have g0 : DataW.trod enc Try.prog W 0 (fun _ => true) true n 9 (List.take (Try.prog.cellsOf 9) [c0, c1, c2, c3, c4, c5, c6, c7]) = some y0 := hg 0 _ rfl
    have g1 : DataW.trod enc Try.prog W 0 (fun _ => true) true n 32 (List.take (Try.prog.cellsOf 32) [c1, c2, c3, c4, c5, c6, c7]) = some y1 := hg 1 _ rfl
    have g2 : DataW.trod enc Try.prog W 0 (fun _ => true) true n 32 (List.take (Try.prog.cellsOf 32) [c2, c3, c4, c5, c6, c7]) = some y2 := hg 2 _ rfl
    have g3 : DataW.trod enc Try.prog W 0 (fun _ => true) true n 46 (List.take (Try.prog.cellsOf 46) [c3, c4, c5, c6, c7]) = some y3 := hg 3 _ rfl
    rw [k0] at g0
    rw [k1] at g1 g2
    rw [k3] at g3
    obtain ⟨s0, e0, rfl, _⟩ := DataW.trod_string Try.underlying9 g0
    obtain ⟨s1, e1, rfl, _⟩ := DataW.trod_string Try.underlying32 g1
    obtain ⟨s2, e2, rfl, _⟩ := DataW.trod_string Try.underlying32 g2
    obtain ⟨zs, m, _, rfl, _, hzl, hz⟩ := DataW.trod_array Try.underlying46 g3
    match zs, hzl with
    | [z0, z1, z2, z3, z4], _ =>
      have a0 := hz 0 (by omega)
      have a1 := hz 1 (by omega)
      have a2 := hz 2 (by omega)
      have a3 := hz 3 (by omega)
      have a4 := hz 4 (by omega)
      rw [k4] at a0 a1 a2 a3 a4
      have b0 : DataW.trod enc Try.prog W 0 (fun _ => true) true m 45 [c3] = some z0 := a0
      have b1 : DataW.trod enc Try.prog W 0 (fun _ => true) true m 45 [c4] = some z1 := a1
      have b2 : DataW.trod enc Try.prog W 0 (fun _ => true) true m 45 [c5] = some z2 := a2
      have b3 : DataW.trod enc Try.prog W 0 (fun _ => true) true m 45 [c6] = some z3 := a3
      have b4 : DataW.trod enc Try.prog W 0 (fun _ => true) true m 45 [c7] = some z4 := a4
      obtain ⟨n0, f0, rfl, w0⟩ := DataW.trod_int Try.underlying45 b0
      obtain ⟨n1, f1, rfl, w1⟩ := DataW.trod_int Try.underlying45 b1
      obtain ⟨n2, f2, rfl, w2⟩ := DataW.trod_int Try.underlying45 b2
      obtain ⟨n3, f3, rfl, w3⟩ := DataW.trod_int Try.underlying45 b3
      obtain ⟨n4, f4, rfl, w4⟩ := DataW.trod_int Try.underlying45 b4
      obtain ⟨m0, rfl, l0⟩ := wf_u32 w0
      obtain ⟨m1, rfl, l1⟩ := wf_u32 w1
      obtain ⟨m2, rfl, l2⟩ := wf_u32 w2
      obtain ⟨m3, rfl, l3⟩ := wf_u32 w3
      obtain ⟨m4, rfl, l4⟩ := wf_u32 w4
      injection e0 with e0 _
      injection e1 with e1 _
      injection e2 with e2 _
      injection f0 with f0 _
      injection f1 with f1 _
      injection f2 with f2 _
      injection f3 with f3 _
      injection f4 with f4 _
      subst e0 e1 e2 f0 f1 f2 f3 f4
      obtain ⟨rfl, _⟩ := hx
      have q0 : s0.data.toList.length = s0.size := by simp
      have q1 : s1.data.toList.length = s1.size := by simp
      have q2 : s2.data.toList.length = s2.size := by simp
      refine ⟨⟨s0, s1, s2, m0, m1, m2, m3, m4⟩, rfl, fits_mk l0 l1 l2 l3 l4, ?_, fun hw => ?_⟩
      · simp only [List.map_cons, List.map_nil, Rows.uptoBulk, Rows.uptoBulkAll]
        show s0.size + s1.size + s2.size ≤ _
        omega
      · simp only [DataW.weights, Try.underlying48, List.map_cons, List.map_nil, DataW.weightsEach, List.all_append, List.all_cons, Bool.and_eq_true, decide_eq_true_eq] at hw
        unfold reachBytes at hw
        show s0.size ≤ _ ∧ s1.size ≤ _ ∧ s2.size ≤ _
        refine ⟨?_, ?_, ?_⟩
        · rw [← q0]; exact hw.1.1
        · rw [← q1]; exact hw.2.1.1
        · rw [← q2]; exact hw.2.2.1.1
namespace Rv
/-- its numbers are numbers. -/
def fits (r : Rv) : Prop := r.ty ≤ 65535 ∧ r.cl ≤ 65535 ∧ r.ttl ≤ 4294967295 ∧ r.d.fits
/-- its texts lie in memory. -/
def near (r : Rv) : Prop := r.nm.size ≤ 140737488351232 ∧ r.d.raw.size ≤ 140737488351232 ∧ r.d.host.size ≤ 140737488351232 ∧ r.d.mail.size ≤ 140737488351232
theorem near.short {r : Rv} (h : r.near) : r.short := ⟨by have := h.1; omega, by have := h.2.2.1; omega, by have := h.2.2.2; omega⟩
end Rv
set_option maxRecDepth 100000 in
/-- the twelve cells of a record. -/
theorem open_rec_at {H : Type} {enc : TypeId × Value → H} {W : World} {fuel : Nat} {cs : List Value} {x : DataW H × List MemPlace} (hl : cs.length = 12) (hf : DataW.trod enc Try.prog W 0 (fun _ => true) true fuel 50 cs = some x) :
    ∃ r : Rv, cs = r.cells.toList ∧ r.fits ∧ ((x.1.weights Try.prog 50).all (· ≤ reachBytes) = true → r.near) ∧ r.d.raw.size ≤ Rows.uptoBulk x.1 := by
  match cs, hl with
  | [a0, a1, a2, a3, c0, c1, c2, c3, c4, c5, c6, c7], _ =>
    obtain ⟨xs, n, _, hx, _, hlen, hg⟩ := DataW.trod_struct Try.underlying50 hf
    match xs, hlen with
    | [y0, y1, y2, y3, (y4, q4)], _ =>
      subst hx
      have k0 : Try.prog.cellsOf 32 = 1 := by kernel_rfl
      have k1 : Try.prog.cellsOf 33 = 1 := by kernel_rfl
      have k3 : Try.prog.cellsOf 45 = 1 := by kernel_rfl
      have k4 : Try.prog.cellsOf 48 = 8 := by kernel_rfl
      have g0 : DataW.trod enc Try.prog W 0 (fun _ => true) true n 32 (List.take (Try.prog.cellsOf 32) [a0, a1, a2, a3, c0, c1, c2, c3, c4, c5, c6, c7]) = some y0 := hg 0 _ rfl
      have g1 : DataW.trod enc Try.prog W 0 (fun _ => true) true n 33 (List.take (Try.prog.cellsOf 33) [a1, a2, a3, c0, c1, c2, c3, c4, c5, c6, c7]) = some y1 := hg 1 _ rfl
      have g2 : DataW.trod enc Try.prog W 0 (fun _ => true) true n 33 (List.take (Try.prog.cellsOf 33) [a2, a3, c0, c1, c2, c3, c4, c5, c6, c7]) = some y2 := hg 2 _ rfl
      have g3 : DataW.trod enc Try.prog W 0 (fun _ => true) true n 45 (List.take (Try.prog.cellsOf 45) [a3, c0, c1, c2, c3, c4, c5, c6, c7]) = some y3 := hg 3 _ rfl
      have g4 : DataW.trod enc Try.prog W 0 (fun _ => true) true n 48 (List.take (Try.prog.cellsOf 48) [c0, c1, c2, c3, c4, c5, c6, c7]) = some (y4, q4) := hg 4 _ rfl
      rw [k0] at g0
      rw [k1] at g1 g2
      rw [k3] at g3
      rw [k4] at g4
      obtain ⟨s0, e0, rfl, _⟩ := DataW.trod_string Try.underlying32 g0
      obtain ⟨n1, f1, rfl, w1⟩ := DataW.trod_int Try.underlying33 g1
      obtain ⟨n2, f2, rfl, w2⟩ := DataW.trod_int Try.underlying33 g2
      obtain ⟨n3, f3, rfl, w3⟩ := DataW.trod_int Try.underlying45 g3
      obtain ⟨m1, rfl, l1⟩ := wf_u16i w1
      obtain ⟨m2, rfl, l2⟩ := wf_u16i w2
      obtain ⟨m3, rfl, l3⟩ := wf_u32 w3
      obtain ⟨D, hD, hF, hU, hB⟩ := open_data_w g4
      injection e0 with e0 _
      injection f1 with f1 _
      injection f2 with f2 _
      injection f3 with f3 _
      subst e0 f1 f2 f3
      refine ⟨⟨s0, m1, m2, m3, D⟩, ?_, ⟨l1, l2, l3, hF⟩, fun hw => ?_, ?_⟩
      · show _ = (.string s0 :: .int .u16 m1 :: .int .u16 m2 :: .int .u32 m3 :: D.cells.toList : List Value)
        rw [← hD]
      · simp only [DataW.weights, Try.underlying50, List.map_cons, List.map_nil, DataW.weightsEach, List.all_append, List.all_cons, Bool.and_eq_true, decide_eq_true_eq] at hw
        have q0 : s0.data.toList.length = s0.size := by simp
        obtain ⟨hw0, hw⟩ := hw
        have hwd : (y4.weights Try.prog 48).all (· ≤ reachBytes) = true := by
          first | exact hw.2.2.2.1 | simp_all
        have hb := hB hwd
        refine ⟨?_, hb⟩
        unfold reachBytes at hw0
        show s0.size ≤ _
        rw [← q0]
        first | exact hw0.1 | simpa using hw0
      · simp only [List.map_cons, List.map_nil, Rows.uptoBulk, Rows.uptoBulkAll]
        show D.raw.size ≤ _
        omega
set_option maxRecDepth 100000 in
/-- one record that came in. -/
theorem open_rec {H : Type} {enc : TypeId × Value → H} {W : World} {base : Nat} {v : Value} {d : DataW H} {p : List MemPlace} (hval : Value.okWide Try.prog W .any base 50 v) (h : DataW.Trod enc Try.prog W 0 (fun _ => true) true 50 v d p) :
    ∃ r : Rv, v = r.val ∧ r.fits ∧ ((d.weights Try.prog 50).all (· ≤ reachBytes) = true → r.near) := by
  obtain ⟨cs, rfl, hsz⟩ := okWide_struct Try.underlying50 hval
  have hsz8 : cs.size = 12 := hsz.trans (by kernel_rfl)
  obtain ⟨fuel, hf⟩ := h
  obtain ⟨r, hr, h1, h2⟩ := open_rec_at (cs := cs.toList) (by simpa using hsz8) hf
  exact ⟨r, by rw [show cs = r.cells from Array.toList_inj.1 hr]; rfl, h1, h2.1⟩
abbrev rcl (r : Rv) : List Value := r.cells.toList
theorem rcl_len (r : Rv) : (rcl r).length = 12 := rfl
theorem rcl_one (r : Rv) : ∀ v ∈ rcl r, v.oneCell' = true := by
  intro v hv
  simp only [rcl, Rv.cells, List.mem_cons, List.not_mem_nil, or_false] at hv
  rcases hv with rfl | rfl | rfl | rfl | rfl | rfl | rfl | rfl | rfl | rfl | rfl | rfl <;> rfl
set_option maxRecDepth 100000 in
theorem open_recs {H : Type} {enc : TypeId × Value → H} {W : World} {base : Nat} {v : Value} {d : DataW H} {p : List MemPlace} (hval : Value.okWide Try.prog W .any base 36 v) (h : DataW.Trod enc Try.prog W 0 (fun _ => true) true 36 v d p) :
    ∃ A rs c, v = .slice A rs.length c ∧ rs.length ≤ c ∧ (A = none → c = 0) ∧ Srow rcl 12 W 0 W.heap.size A rs ∧ (∀ r ∈ rs, r.fits) ∧ ((d.weights Try.prog 36).all (· ≤ reachBytes) = true → ∀ r ∈ rs, r.near) := by
  obtain ⟨a0, len, cap, rfl⟩ := okWide_slice Try.underlying36 hval
  obtain ⟨fuel, hf⟩ := h
  have hC : Try.prog.cellsOf 50 = 12 := by kernel_rfl
  rcases open_slice Try.underlying36 hf with ⟨hcs, hx⟩ | ⟨a, len', cap', m, n, D, Pl, hcs, _, hl, hm, hmm, hx, hi⟩
  · simp [Value.cells] at hcs
    obtain ⟨rfl, rfl, rfl⟩ := hcs
    exact ⟨none, [], 0, rfl, Nat.le_refl _, fun _ => rfl, Srow.nil, fun r h => (by cases h), fun _ r h => (by cases h)⟩
  · simp [Value.cells] at hcs
    obtain ⟨rfl, rfl, rfl⟩ := hcs
    simp only [Prod.mk.injEq] at hx
    obtain ⟨rfl, rfl⟩ := hx
    simp only [if_true] at hmm
    subst m
    have key : ∀ i, i < cap → ∃ r : Rv, (∀ j, j < 12 → W.cell? (a.add (i * 12 + j)) = (rcl r)[j]?) ∧ r.fits ∧ (((D i).weights Try.prog 50).all (· ≤ reachBytes) = true → r.near) := fun i hik => by
      obtain ⟨cs', hc, ht'⟩ := hi i hik
      rw [hC] at hc
      obtain ⟨_, hcl, hat⟩ := World.cells?_some hc
      obtain ⟨r, hcs', hfi, hne, _⟩ := open_rec_at hcl ht'
      refine ⟨r, fun j hj => ?_, hfi, hne⟩
      show _ = r.cells.toList[j]?
      rw [← Go.Deep.add_add, hat j hj, ← hcs', List.getElem?_eq_getElem (by omega)]
    have key' : ∀ i : Fin cap, ∃ r : Rv, (∀ j, j < 12 → W.cell? (a.add (i.1 * 12 + j)) = (rcl r)[j]?) ∧ r.fits ∧ (((D i.1).weights Try.prog 50).all (· ≤ reachBytes) = true → r.near) := fun i => key i.1 i.2
    obtain ⟨T, hT⟩ := Classical.axiomOfChoice key'
    have hlen : ((List.finRange cap).take len).length = len := by simp; omega
    have hlen2 : (((List.finRange cap).take len).map T).length = len := by rw [List.length_map, hlen]
    have hmem : ∀ r ∈ ((List.finRange cap).take len).map T, ∃ i : Fin cap, r = T i ∧ i.1 < len := fun r hr => by
      obtain ⟨i, hi2, rfl⟩ := List.mem_map.1 hr
      refine ⟨i, rfl, ?_⟩
      obtain ⟨k, hk, rfl⟩ := List.mem_iff_getElem.1 hi2
      simp at hk ⊢
      omega
    refine ⟨some a, ((List.finRange cap).take len).map T, cap, by rw [hlen2], by omega, (fun h => by cases h), fun hpos => ?_, fun r hr => ?_, fun hw r hr => ?_⟩
    · have hc0 : W.cell? (a.add 0) = some (.string (T ⟨0, by omega⟩).nm) := by
        have := (hT ⟨0, by omega⟩).1 0 (by omega)
        rw [Nat.zero_mul, Nat.zero_add] at this
        rw [this]
        rfl
      obtain ⟨e1, e2⟩ := addr_form (k := 0) hc0
      refine ⟨a.block, a.off, by rw [← e1], Nat.zero_le _, ?_, fun j hj => ?_⟩
      · have := World.block_lt_of_cell? _ _ hc0
        rw [e1, e2] at this
        exact this
      · rw [hlen2] at hj
        have q := (hT ⟨j, by omega⟩).1
        intro i u hu
        have hi12 : i < 12 := (List.getElem?_eq_some_iff.1 hu).1
        have q2 := q i hi12
        rw [e1, (addr_form hc0).2] at q2
        rw [Nat.add_assoc, ← hu]
        simp only [List.getElem_map, List.getElem_take, List.getElem_finRange, Fin.cast_mk]
        exact q2
    · obtain ⟨i, rfl, _⟩ := hmem r hr
      exact (hT i).2.1
    · obtain ⟨i, rfl, hil⟩ := hmem r hr
      simp only [DataW.weights, Try.underlying36, List.all_cons, Bool.and_eq_true, List.all_append] at hw
      have hw1 := weights_in (d := D i.1) (List.mem_map.2 ⟨i.1, List.mem_range.2 hil, rfl⟩) hw.2.1
      exact (hT i).2.2 hw1
end Go.Proofs.Ytnhoaceickojeaa
