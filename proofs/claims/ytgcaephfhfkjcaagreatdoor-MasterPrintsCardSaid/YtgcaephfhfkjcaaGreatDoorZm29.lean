/- Texts of the proofs, merged. -/
import Derived.Test.YtgcaephfhfkjcaaGreatDoorZm15
import Derived.Test.YtgcaephfhfkjcaaGreatDoorZm28
import Derived.Test.YtgcaephfhfkjcaaGreatDoorZm22
import Derived.Test.YtgcaephfhfkjcaaGreatDoorZm7
import Derived.Test.YtgcaephfhfkjcaaGreatDoorZm8
import Derived.BigQuiet
namespace Go.Proofs.YtgcaephfhfkjcaaGreatDoor
open Go.RowKit

/-- all cells of structs, one behind the other. -/
def fl {α : Type} (enc : α → List Value) (xs : List α) : List Value := xs.flatMap enc
section
variable {α : Type} {enc : α → List Value} {k : Nat}
theorem fl_append (xs ys : List α) : fl enc (xs ++ ys) = fl enc xs ++ fl enc ys := by simp [fl]
theorem fl_one (x : α) : fl enc [x] = enc x := by simp [fl]
theorem fl_len (hk : ∀ x, (enc x).length = k) : ∀ xs : List α, (fl enc xs).length = xs.length * k
  | [] => by simp [fl]
  | x :: r => by
    have := fl_len hk r
    simp only [fl, List.flatMap_cons, List.length_append, hk, List.length_cons] at *
    rw [this, Nat.add_mul, Nat.one_mul, Nat.add_comm]
theorem fl_get (hk : ∀ x, (enc x).length = k) : ∀ (xs : List α) {j i : Nat} (hj : j < xs.length), i < k → (fl enc xs)[j * k + i]? = (enc xs[j])[i]?
  | x :: r, 0, i, _, hi => by
    simp only [fl, List.flatMap_cons, Nat.zero_mul, Nat.zero_add, List.getElem_cons_zero]
    rw [List.getElem?_append_left (by rw [hk]; exact hi)]
  | x :: r, j + 1, i, hj, hi => by
    have := fl_get hk r (j := j) (i := i) (by simpa using hj) hi
    simp only [fl, List.flatMap_cons, List.getElem_cons_succ] at *
    rw [List.getElem?_append_right (by rw [hk, Nat.add_mul, Nat.one_mul]; omega), hk, ← this]
    congr 1
    rw [Nat.add_mul, Nat.one_mul]
    omega
end
/-- a row of structs of the call's own. -/
abbrev Own {α : Type} (enc : α → List Value) (k : Nat) (w : World) (base : Nat) (e : TypeId) (v : Value) (xs : List α) : Prop := w.ownsRow base e k v xs.length (fl enc xs)
section
variable {α : Type} {enc : α → List Value} {k : Nat} {w w' : World} {base B : Nat} {e : TypeId} {v : Value} {xs : List α}
theorem ownK_form {n : Nat} {ys : List Value} (h : w.ownsRow base e k v n ys) : ∃ ad cp, v = .slice ad n cp ∧ n ≤ cp := by
  rcases h.2 with ⟨rfl, h0⟩ | ⟨g', cap, cur, rfl, _, _, hc, _⟩
  · exact ⟨none, 0, by rw [h0], by omega⟩
  · exact ⟨_, _, rfl, hc⟩
theorem ownK_pos {n : Nat} {ys : List Value} (h : w.ownsRow base e k v n ys) (hn : 0 < n) : ∃ g cp cur, v = .slice (some ⟨g, 0, none⟩) n cp ∧ n ≤ cp ∧ base ≤ g ∧ g < w.heap.size ∧ w.heap[g]? = some (.cells cur e (0, 0)) ∧ cur.toList.take (n * k) = ys := by
  rcases h.2 with ⟨rfl, h0⟩ | ⟨g', cap, cur, rfl, hb, hg, hc, _, _, ht⟩
  · omega
  · exact ⟨g', cap, cur, rfl, hc, hb, (Array.getElem?_eq_some_iff.1 hg).1, hg, ht⟩
theorem ownK_below {n : Nat} {ys : List Value} (h : w.ownsRow base e k v n ys) (hb : Below B w w') (hB : w.heap.size ≤ B) : w'.ownsRow base e k v n ys := own_below h hb hB
theorem take_at {cur : Array Value} {n : Nat} {ys : List Value} (ht : cur.toList.take n = ys) {i : Nat} {u : Value} (hu : ys[i]? = some u) : cur[i]? = some u := by
  subst ht
  rw [List.getElem?_take] at hu
  split at hu
  · rwa [Array.getElem?_toList] at hu
  · cases hu
theorem Own.srow (hk : ∀ x, (enc x).length = k) (h : Own enc k w base e v xs) : ∃ A c, v = .slice A xs.length c ∧ xs.length ≤ c ∧ Srow enc k w base w.heap.size A xs := by
  rcases Nat.eq_zero_or_pos xs.length with h0 | h0
  · obtain ⟨ad, cp, hv, hc⟩ := ownK_form h
    exact ⟨ad, cp, hv, hc, fun h1 => by omega⟩
  · obtain ⟨g, cp, cur, hv, hc, hb, hlt, hg, ht⟩ := ownK_pos h h0
    refine ⟨_, cp, hv, hc, fun _ => ⟨g, 0, rfl, hb, hlt, fun j hj i u hu => ?_⟩⟩
    have hi : i < k := by rw [← hk xs[j]]; exact (List.getElem?_eq_some_iff.1 hu).1
    rw [cell_of_row w g _ cur e (0, 0) hg, Nat.zero_add]
    exact take_at ht (by rw [fl_get hk xs hj hi, hu])
end
def Apart2 (a b : Value) : Prop := ∀ g, a.ownBlock = some g → b.ownBlock ≠ some g
section
variable {P : Program} {w : World}
theorem run_append_where (base : Nat) (t ty e : TypeId) (i : TypeInfo) (z : Value) (size bytes : Nat) (ht : P.underlying t = some (.slice e)) (hi : P.info? e = some i) (hz : i.zero = some z)
    (hsize : i.size = size) (hby : i.bytes = bytes) (hzs : z.cells.size = size) (hsz : 0 < size)
    (v : Value) (n : Nat) (xs : List Value) (hown : w.ownsRow base e size v n xs)
    (a : Addr) (m c : Nat) (news : List Value) (hl : news.length = m * size) (hnews : ∀ j u, news[j]? = some u → w.cell? (a.add j) = some u) (h1 : ∀ u ∈ news, u.oneCell' = true) (hm : 0 < m)
    (h63 : n + m ≤ maxLen) (hbytes : (n + m) * bytes ≤ 140737488355328) (hbase : base ≤ w.heap.size) :
    ∃ v' w', (Builtin.append_ #[t, t] ty #[v, .slice (some a) m c]).run P w = .ok v' w' ∧ w'.ownsRow base e size v' (n + m) (xs ++ news) ∧ w.grownBy w' v.ownBlock ∧ (v'.ownBlock = v.ownBlock ∨ v'.ownBlock = some w.heap.size) := by
  obtain ⟨v', w', hr, h2, h3, _⟩ := run_append_own (P := P) w base t ty e i z size bytes ht hi hz hsize hby hzs hsz v n xs hown a m c news hl hnews h1 h63 hbytes hbase
  refine ⟨v', w', hr, h2, h3, ?_⟩
  subst hsize hby
  have hsmall : n + m ≤ 9223372036854775807 := by simp only [maxLen] at h63; omega
  rcases hown.2 with ⟨rfl, rfl⟩ | ⟨g, cap, cur, rfl, hbg, hg, hnc, hcm, hcs, htake⟩
  · have hr2 := run_append_nil (P := P) w t ty e i z ht hi hz a m c news hl hnews (by omega) (by omega) (by have hb := hbytes; simp only [Nat.zero_add] at hb; omega)
    rw [hr] at hr2
    injection hr2 with e1 _
    rw [e1]
    exact .inr rfl
  · by_cases hroom : n + m ≤ cap
    · have hfit : n * i.size + news.length ≤ cur.size := by rw [hl, hcs, ← Nat.add_mul]; exact Nat.mul_le_mul_right _ hroom
      have hr2 := run_append_room (P := P) w t ty e i ht hi g n cap cur hg a m c news hl hnews h1 hroom hfit
      rw [hr] at hr2
      injection hr2 with e1 _
      rw [e1]
      exact .inl rfl
    · have holds : ∀ j u, xs[j]? = some u → w.cell? ((⟨g, 0, none⟩ : Addr).add j) = some u := hown.cells (g := g) rfl
      have hr2 := run_append_grow (P := P) w t ty e i z ht hi hz ⟨g, 0, none⟩ n cap xs hown.1 holds a m c news hl hnews (by omega) (by omega) (growslice_fits (by omega) hbytes)
      rw [hr] at hr2
      injection hr2 with e1 _
      rw [e1]
      exact .inr rfl
end
/-- one struct put behind a row of the call's own. -/
theorem wpList_append_struct2 {α : Type} {enc : α → List Value} {k : Nat} {P : Program} {w : World} {ops : Array Oper} {rest : List Oper} {o : Oper} {a : Act} {Q : Exit → Act → World → Prop} (hgd : o.guard = none) (s x : Operand) (t : TypeId)
    (ho : o.op = .call { callee := .builtin .append, args := #[s, x], argTypes := #[t, t] })
    (hk : ∀ x, (enc x).length = k)
    (e : TypeId) (i : TypeInfo) (z : Value) (bytes : Nat) (ht : P.underlying t = some (.slice e)) (hi : P.info? e = some i) (hz : i.zero = some z)
    (hsize : i.size = k) (hby : i.bytes = bytes) (hzs : z.cells.size = k) (hsz : 0 < k)
    (base : Nat) (v : Value) (xs : List α) (hs : a.eval s = v) (hown : Own enc k w base e v xs)
    (y : α) (h1 : ∀ v ∈ enc y, v.oneCell' = true) (g c : Nat) (hx : a.eval x = .slice (some ⟨g, 0, none⟩) 1 c) (hy : w.rangeAt g 0 (enc y))
    (h63 : xs.length + 1 ≤ maxLen) (hbytes : (xs.length + 1) * bytes ≤ 140737488355328) (hbase : base ≤ w.heap.size)
    (h : ∀ v' w', Own enc k w' base e v' (xs ++ [y]) → w.grownBy w' v.ownBlock → (v'.ownBlock = v.ownBlock ∨ v'.ownBlock = some w.heap.size) → wpList P ops Q rest (a.put o.dst v') w') : wpList P ops Q (o :: rest) a w := by
  refine wpList_append_run hgd s x t t ho v _ hs hx (R := fun v' w' => Own enc k w' base e v' (xs ++ [y]) ∧ w.grownBy w' v.ownBlock ∧ (v'.ownBlock = v.ownBlock ∨ v'.ownBlock = some w.heap.size)) ?_ (fun v' w' ⟨h2, h3, h4⟩ => h v' w' h2 h3 h4)
  obtain ⟨v', w', hr, h2, h3, h4⟩ := run_append_where (P := P) (w := w) base t o.type e i z k bytes ht hi hz hsize hby hzs hsz v xs.length (fl enc xs) hown ⟨g, 0, none⟩ 1 c (enc y) (by rw [hk, Nat.one_mul]) (fun j u hu => by
    rw [addr_add]
    exact hy j u hu) h1 (by omega) h63 hbytes hbase
  refine ⟨v', w', hr, ?_, h3, h4⟩
  unfold Own
  rw [fl_append, fl_one, List.length_append, List.length_singleton]
  exact h2
end Go.Proofs.YtgcaephfhfkjcaaGreatDoor
namespace Go.Proofs.YtgcaephfhfkjcaaGreatDoor
open Go.RowKit Go.Sort Go.Shelf

section
variable {α : Type} {enc : α → List Value} {k : Nat}
theorem fl_flatK [Inhabited α] (hk : ∀ x, (enc x).length = k) (d : Array α) : (flatK enc k d).toList = fl enc d.toList := by
  apply List.ext_getElem?
  intro t
  by_cases ht : t < d.size * k
  · have h0 : 0 < k := by
      rcases Nat.eq_zero_or_pos k with h | h
      · subst h; simp at ht
      · exact h
    have hi : t / k < d.size := Nat.div_lt_of_lt_mul (by rw [Nat.mul_comm]; exact ht)
    have hm : t % k < k := Nat.mod_lt _ h0
    have e : t / k * k + t % k = t := by rw [Nat.mul_comm]; exact Nat.div_add_mod t k
    have h1 := flat_at hk d hi hm
    have h2 := fl_get hk d.toList (j := t / k) (i := t % k) (by simpa using hi) hm
    rw [e] at h1 h2
    rw [Array.getElem?_toList, h1, h2]
    simp
  · rw [List.getElem?_eq_none (by simp; omega), List.getElem?_eq_none (by rw [fl_len hk]; simp; omega)]
end
section
variable {α : Type} {enc : α → List Value} {k : Nat} {w w' : World} {base B : Nat} {e : TypeId} {v : Value} {xs : List α}
theorem Own.holds [Inhabited α] (hk : ∀ x, (enc x).length = k) {g n c : Nat} (h : Own enc k w base e (.slice (some ⟨g, 0, none⟩) n c) xs) (h0 : 0 < xs.length) : HoldsK enc k w g 0 xs.toArray := by
  obtain ⟨g', cp, cur, hv, hc, hb, hlt, hg, ht⟩ := ownK_pos h h0
  injection hv with hv _ _
  injection hv with hv
  injection hv with hv
  subst hv
  intro j hj
  have hf := fl_flatK hk xs.toArray
  refine ⟨?_, frozen_of_row w g _ cur e hg⟩
  rw [cell_of_row w g _ cur e (0, 0) hg, Nat.zero_add, getElem!_pos _ j hj]
  refine take_at ht ?_
  rw [show fl enc xs = (flatK enc k xs.toArray).toList from hf.symm, Array.getElem?_toList, Array.getElem?_eq_getElem hj]
  rfl
end
end Go.Proofs.YtgcaephfhfkjcaaGreatDoor
namespace Go.Proofs.YtgcaephfhfkjcaaGreatDoor
open Go.ChangeShapes Go.WideShapes Go.Deep Go.RowKit

set_option maxRecDepth 100000 in
/-- the eight cells of data. -/
theorem open_data_w {H : Type} {enc : TypeId × Value → H} {W : World} {fuel : Nat} {c0 c1 c2 c3 c4 c5 c6 c7 : Value} {d : DataW H} {p : List MemPlace} (hf : DataW.trod enc Tryz.prog W 0 (fun _ => true) true fuel 34 [c0, c1, c2, c3, c4, c5, c6, c7] = some (d, p)) :
    ∃ D : Dv, [c0, c1, c2, c3, c4, c5, c6, c7] = D.cells.toList ∧ D.fits ∧ D.raw.size + D.host.size + D.mail.size ≤ Rows.uptoBulk d ∧ ((d.weights Tryz.prog 34).all (· ≤ reachBytes) = true → D.raw.size ≤ 140737488351232 ∧ D.host.size ≤ 140737488351232 ∧ D.mail.size ≤ 140737488351232) := by
  obtain ⟨xs, n, _, hx, _, hlen, hg⟩ := DataW.trod_struct Tryz.underlying34 hf
  match xs, hlen with
  | [y0, y1, y2, y3], _ =>
    simp only [Prod.mk.injEq] at hx
    have k0 : Tryz.prog.cellsOf 9 = 1 := by kernel_rfl
    have k1 : Tryz.prog.cellsOf 22 = 1 := by kernel_rfl
    have k3 : Tryz.prog.cellsOf 32 = 5 := by kernel_rfl
    have k4 : Tryz.prog.cellsOf 31 = 1 := by kernel_rfl
    have g0 : DataW.trod enc Tryz.prog W 0 (fun _ => true) true n 9 (List.take (Tryz.prog.cellsOf 9) [c0, c1, c2, c3, c4, c5, c6, c7]) = some y0 := hg 0 _ rfl
    have g1 : DataW.trod enc Tryz.prog W 0 (fun _ => true) true n 22 (List.take (Tryz.prog.cellsOf 22) [c1, c2, c3, c4, c5, c6, c7]) = some y1 := hg 1 _ rfl
    have g2 : DataW.trod enc Tryz.prog W 0 (fun _ => true) true n 22 (List.take (Tryz.prog.cellsOf 22) [c2, c3, c4, c5, c6, c7]) = some y2 := hg 2 _ rfl
    have g3 : DataW.trod enc Tryz.prog W 0 (fun _ => true) true n 32 (List.take (Tryz.prog.cellsOf 32) [c3, c4, c5, c6, c7]) = some y3 := hg 3 _ rfl
    rw [k0] at g0
    rw [k1] at g1 g2
    rw [k3] at g3
    obtain ⟨s0, e0, rfl, _⟩ := DataW.trod_string Tryz.underlying9 g0
    obtain ⟨s1, e1, rfl, _⟩ := DataW.trod_string Tryz.underlying22 g1
    obtain ⟨s2, e2, rfl, _⟩ := DataW.trod_string Tryz.underlying22 g2
    obtain ⟨zs, m, _, rfl, _, hzl, hz⟩ := DataW.trod_array Tryz.underlying32 g3
    match zs, hzl with
    | [z0, z1, z2, z3, z4], _ =>
      have a0 := hz 0 (by omega)
      have a1 := hz 1 (by omega)
      have a2 := hz 2 (by omega)
      have a3 := hz 3 (by omega)
      have a4 := hz 4 (by omega)
      rw [k4] at a0 a1 a2 a3 a4
      have b0 : DataW.trod enc Tryz.prog W 0 (fun _ => true) true m 31 [c3] = some z0 := a0
      have b1 : DataW.trod enc Tryz.prog W 0 (fun _ => true) true m 31 [c4] = some z1 := a1
      have b2 : DataW.trod enc Tryz.prog W 0 (fun _ => true) true m 31 [c5] = some z2 := a2
      have b3 : DataW.trod enc Tryz.prog W 0 (fun _ => true) true m 31 [c6] = some z3 := a3
      have b4 : DataW.trod enc Tryz.prog W 0 (fun _ => true) true m 31 [c7] = some z4 := a4
      obtain ⟨n0, f0, rfl, w0⟩ := DataW.trod_int Tryz.underlying31 b0
      obtain ⟨n1, f1, rfl, w1⟩ := DataW.trod_int Tryz.underlying31 b1
      obtain ⟨n2, f2, rfl, w2⟩ := DataW.trod_int Tryz.underlying31 b2
      obtain ⟨n3, f3, rfl, w3⟩ := DataW.trod_int Tryz.underlying31 b3
      obtain ⟨n4, f4, rfl, w4⟩ := DataW.trod_int Tryz.underlying31 b4
      obtain ⟨m0, rfl, l0⟩ := wf_u32 w0
      obtain ⟨m1, rfl, l1⟩ := wf_u32 w1
      obtain ⟨m2, rfl, l2⟩ := wf_u32 w2
      obtain ⟨m3, rfl, l3⟩ := wf_u32 w3
      obtain ⟨m4, rfl, l4⟩ := wf_u32 w4
      injection e0 with e0 _
      injection e1 with e1 _
      injection e2 with e2 _
      injection f0 with f0 _
      injection f1 with f1 _
      injection f2 with f2 _
      injection f3 with f3 _
      injection f4 with f4 _
      subst e0 e1 e2 f0 f1 f2 f3 f4
      obtain ⟨rfl, _⟩ := hx
      have q0 : s0.data.toList.length = s0.size := by simp
      have q1 : s1.data.toList.length = s1.size := by simp
      have q2 : s2.data.toList.length = s2.size := by simp
      refine ⟨⟨s0, s1, s2, m0, m1, m2, m3, m4⟩, rfl, fits_mk l0 l1 l2 l3 l4, ?_, fun hw => ?_⟩
      · simp only [List.map_cons, List.map_nil, Rows.uptoBulk, Rows.uptoBulkAll]
        show s0.size + s1.size + s2.size ≤ _
        omega
      · simp only [DataW.weights, Tryz.underlying34, List.map_cons, List.map_nil, DataW.weightsEach, List.all_append, List.all_cons, Bool.and_eq_true, decide_eq_true_eq] at hw
        unfold reachBytes at hw
        show s0.size ≤ _ ∧ s1.size ≤ _ ∧ s2.size ≤ _
        refine ⟨?_, ?_, ?_⟩
        · rw [← q0]; exact hw.1.1
        · rw [← q1]; exact hw.2.1.1
        · rw [← q2]; exact hw.2.2.1.1
namespace Rv
/-- its numbers are numbers. -/
def fits (r : Rv) : Prop := r.ty ≤ 65535 ∧ r.cl ≤ 65535 ∧ r.ttl ≤ 4294967295 ∧ r.d.fits
/-- its texts lie in memory. -/
def near (r : Rv) : Prop := r.nm.size ≤ 140737488351232 ∧ r.d.raw.size ≤ 140737488351232 ∧ r.d.host.size ≤ 140737488351232 ∧ r.d.mail.size ≤ 140737488351232
theorem near.short {r : Rv} (h : r.near) : r.short := ⟨by have := h.1; omega, by have := h.2.2.1; omega, by have := h.2.2.2; omega⟩
end Rv
set_option maxRecDepth 100000 in
/-- the twelve cells of a record. -/
theorem open_rec_at {H : Type} {enc : TypeId × Value → H} {W : World} {fuel : Nat} {cs : List Value} {x : DataW H × List MemPlace} (hl : cs.length = 12) (hf : DataW.trod enc Tryz.prog W 0 (fun _ => true) true fuel 36 cs = some x) :
    ∃ r : Rv, cs = r.cells.toList ∧ r.fits ∧ ((x.1.weights Tryz.prog 36).all (· ≤ reachBytes) = true → r.near) ∧ r.d.raw.size ≤ Rows.uptoBulk x.1 := by
  match cs, hl with
  | [a0, a1, a2, a3, c0, c1, c2, c3, c4, c5, c6, c7], _ =>
    obtain ⟨xs, n, _, hx, _, hlen, hg⟩ := DataW.trod_struct Tryz.underlying36 hf
    match xs, hlen with
    | [y0, y1, y2, y3, (y4, q4)], _ =>
      subst hx
      have k0 : Tryz.prog.cellsOf 22 = 1 := by kernel_rfl
      have k1 : Tryz.prog.cellsOf 30 = 1 := by kernel_rfl
      have k3 : Tryz.prog.cellsOf 31 = 1 := by kernel_rfl
      have k4 : Tryz.prog.cellsOf 34 = 8 := by kernel_rfl
      have g0 : DataW.trod enc Tryz.prog W 0 (fun _ => true) true n 22 (List.take (Tryz.prog.cellsOf 22) [a0, a1, a2, a3, c0, c1, c2, c3, c4, c5, c6, c7]) = some y0 := hg 0 _ rfl
      have g1 : DataW.trod enc Tryz.prog W 0 (fun _ => true) true n 30 (List.take (Tryz.prog.cellsOf 30) [a1, a2, a3, c0, c1, c2, c3, c4, c5, c6, c7]) = some y1 := hg 1 _ rfl
      have g2 : DataW.trod enc Tryz.prog W 0 (fun _ => true) true n 30 (List.take (Tryz.prog.cellsOf 30) [a2, a3, c0, c1, c2, c3, c4, c5, c6, c7]) = some y2 := hg 2 _ rfl
      have g3 : DataW.trod enc Tryz.prog W 0 (fun _ => true) true n 31 (List.take (Tryz.prog.cellsOf 31) [a3, c0, c1, c2, c3, c4, c5, c6, c7]) = some y3 := hg 3 _ rfl
      have g4 : DataW.trod enc Tryz.prog W 0 (fun _ => true) true n 34 (List.take (Tryz.prog.cellsOf 34) [c0, c1, c2, c3, c4, c5, c6, c7]) = some (y4, q4) := hg 4 _ rfl
      rw [k0] at g0
      rw [k1] at g1 g2
      rw [k3] at g3
      rw [k4] at g4
      obtain ⟨s0, e0, rfl, _⟩ := DataW.trod_string Tryz.underlying22 g0
      obtain ⟨n1, f1, rfl, w1⟩ := DataW.trod_int Tryz.underlying30 g1
      obtain ⟨n2, f2, rfl, w2⟩ := DataW.trod_int Tryz.underlying30 g2
      obtain ⟨n3, f3, rfl, w3⟩ := DataW.trod_int Tryz.underlying31 g3
      obtain ⟨m1, rfl, l1⟩ := wf_u16i w1
      obtain ⟨m2, rfl, l2⟩ := wf_u16i w2
      obtain ⟨m3, rfl, l3⟩ := wf_u32 w3
      obtain ⟨D, hD, hF, hU, hB⟩ := open_data_w g4
      injection e0 with e0 _
      injection f1 with f1 _
      injection f2 with f2 _
      injection f3 with f3 _
      subst e0 f1 f2 f3
      refine ⟨⟨s0, m1, m2, m3, D⟩, ?_, ⟨l1, l2, l3, hF⟩, fun hw => ?_, ?_⟩
      · show _ = (.string s0 :: .int .u16 m1 :: .int .u16 m2 :: .int .u32 m3 :: D.cells.toList : List Value)
        rw [← hD]
      · simp only [DataW.weights, Tryz.underlying36, List.map_cons, List.map_nil, DataW.weightsEach, List.all_append, List.all_cons, Bool.and_eq_true, decide_eq_true_eq] at hw
        have q0 : s0.data.toList.length = s0.size := by simp
        obtain ⟨hw0, hw⟩ := hw
        have hwd : (y4.weights Tryz.prog 34).all (· ≤ reachBytes) = true := by
          first | exact hw.2.2.2.1 | simp_all
        have hb := hB hwd
        refine ⟨?_, hb⟩
        unfold reachBytes at hw0
        show s0.size ≤ _
        rw [← q0]
        first | exact hw0.1 | simpa using hw0
      · simp only [List.map_cons, List.map_nil, Rows.uptoBulk, Rows.uptoBulkAll]
        show D.raw.size ≤ _
        omega
abbrev rcl (r : Rv) : List Value := r.cells.toList
theorem rcl_len (r : Rv) : (rcl r).length = 12 := rfl
theorem rcl_one (r : Rv) : ∀ v ∈ rcl r, v.oneCell' = true := by
  intro v hv
  simp only [rcl, Rv.cells, List.mem_cons, List.not_mem_nil, or_false] at hv
  rcases hv with rfl | rfl | rfl | rfl | rfl | rfl | rfl | rfl | rfl | rfl | rfl | rfl <;> rfl
set_option maxRecDepth 100000 in
theorem open_recs {H : Type} {enc : TypeId × Value → H} {W : World} {base : Nat} {v : Value} {d : DataW H} {p : List MemPlace} (hval : Value.okWide Tryz.prog W .any base 23 v) (h : DataW.Trod enc Tryz.prog W 0 (fun _ => true) true 23 v d p) :
    ∃ A rs c, v = .slice A rs.length c ∧ rs.length ≤ c ∧ (A = none → c = 0) ∧ Srow rcl 12 W 0 W.heap.size A rs ∧ (∀ r ∈ rs, r.fits) ∧ ((d.weights Tryz.prog 23).all (· ≤ reachBytes) = true → ∀ r ∈ rs, r.near) := by
  obtain ⟨a0, len, cap, rfl⟩ := okWide_slice Tryz.underlying23 hval
  obtain ⟨fuel, hf⟩ := h
  have hC : Tryz.prog.cellsOf 36 = 12 := by kernel_rfl
  rcases open_slice Tryz.underlying23 hf with ⟨hcs, hx⟩ | ⟨a, len', cap', m, n, D, Pl, hcs, _, hl, hm, hmm, hx, hi⟩
  · simp [Value.cells] at hcs
    obtain ⟨rfl, rfl, rfl⟩ := hcs
    exact ⟨none, [], 0, rfl, Nat.le_refl _, fun _ => rfl, Srow.nil, fun r h => (by cases h), fun _ r h => (by cases h)⟩
  · simp [Value.cells] at hcs
    obtain ⟨rfl, rfl, rfl⟩ := hcs
    simp only [Prod.mk.injEq] at hx
    obtain ⟨rfl, rfl⟩ := hx
    simp only [if_true] at hmm
    subst m
    have key : ∀ i, i < cap → ∃ r : Rv, (∀ j, j < 12 → W.cell? (a.add (i * 12 + j)) = (rcl r)[j]?) ∧ r.fits ∧ (((D i).weights Tryz.prog 36).all (· ≤ reachBytes) = true → r.near) := fun i hik => by
      obtain ⟨cs', hc, ht'⟩ := hi i hik
      rw [hC] at hc
      obtain ⟨_, hcl, hat⟩ := World.cells?_some hc
      obtain ⟨r, hcs', hfi, hne, _⟩ := open_rec_at hcl ht'
      refine ⟨r, fun j hj => ?_, hfi, hne⟩
      show _ = r.cells.toList[j]?
      rw [← Go.Deep.add_add, hat j hj, ← hcs', List.getElem?_eq_getElem (by omega)]
    have key' : ∀ i : Fin cap, ∃ r : Rv, (∀ j, j < 12 → W.cell? (a.add (i.1 * 12 + j)) = (rcl r)[j]?) ∧ r.fits ∧ (((D i.1).weights Tryz.prog 36).all (· ≤ reachBytes) = true → r.near) := fun i => key i.1 i.2
    obtain ⟨T, hT⟩ := Classical.axiomOfChoice key'
    have hlen : ((List.finRange cap).take len).length = len := by simp; omega
    have hlen2 : (((List.finRange cap).take len).map T).length = len := by rw [List.length_map, hlen]
    have hmem : ∀ r ∈ ((List.finRange cap).take len).map T, ∃ i : Fin cap, r = T i ∧ i.1 < len := fun r hr => by
      obtain ⟨i, hi2, rfl⟩ := List.mem_map.1 hr
      refine ⟨i, rfl, ?_⟩
      obtain ⟨k, hk, rfl⟩ := List.mem_iff_getElem.1 hi2
      simp at hk ⊢
      omega
    refine ⟨some a, ((List.finRange cap).take len).map T, cap, by rw [hlen2], by omega, (fun h => by cases h), fun hpos => ?_, fun r hr => ?_, fun hw r hr => ?_⟩
    · have hc0 : W.cell? (a.add 0) = some (.string (T ⟨0, by omega⟩).nm) := by
        have := (hT ⟨0, by omega⟩).1 0 (by omega)
        rw [Nat.zero_mul, Nat.zero_add] at this
        rw [this]
        rfl
      obtain ⟨e1, e2⟩ := addr_form (k := 0) hc0
      refine ⟨a.block, a.off, by rw [← e1], Nat.zero_le _, ?_, fun j hj => ?_⟩
      · have := World.block_lt_of_cell? _ _ hc0
        rw [e1, e2] at this
        exact this
      · rw [hlen2] at hj
        have q := (hT ⟨j, by omega⟩).1
        intro i u hu
        have hi12 : i < 12 := (List.getElem?_eq_some_iff.1 hu).1
        have q2 := q i hi12
        rw [e1, (addr_form hc0).2] at q2
        rw [Nat.add_assoc, ← hu]
        simp only [List.getElem_map, List.getElem_take, List.getElem_finRange, Fin.cast_mk]
        exact q2
    · obtain ⟨i, rfl, _⟩ := hmem r hr
      exact (hT i).2.1
    · obtain ⟨i, rfl, hil⟩ := hmem r hr
      simp only [DataW.weights, Tryz.underlying23, List.all_cons, Bool.and_eq_true, List.all_append] at hw
      have hw1 := weights_in (d := D i.1) (List.mem_map.2 ⟨i.1, List.mem_range.2 hil, rfl⟩) hw.2.1
      exact (hT i).2.2 hw1
end Go.Proofs.YtgcaephfhfkjcaaGreatDoor
namespace Go.Proofs.YtgcaephfhfkjcaaGreatDoor
open Go.RowKit

def rvB (a b : Rv) : Bool := (a.nm.toList == b.nm.toList) && (((a.ty : Int) == b.ty) && (((a.cl : Int) == b.cl) && (((a.ttl : Int) == b.ttl) && dvB a.d b.d)))
set_option maxRecDepth 100000 in
theorem rvRun (W : World) (a b : Rv) (d : Nat) : (Op.equalIn (d + 5) 36 (.agg a.cells) (.agg b.cells)).run Tryz.prog W = .ok (rvB a b) W := by
  rw [run_equalIn_agg W (d + 4) _ _ _ (by kernel_rfl) Tryz.stoodInHeld36]
  have hf : (Tryz.prog.fieldsOf 36).toList.map (fun f => (f.name != "_", f.type, f.offset)) = [(true, 22, 0), (true, 30, 1), (true, 30, 2), (true, 31, 3), (true, 34, 4)] := by kernel_rfl
  have hlen : (Tryz.prog.fieldsOf 36).toList.length = 5 := by kernel_rfl
  generalize (Tryz.prog.fieldsOf 36).toList = fs at *
  match fs, hlen, hf with
  | [f0, f1, f2, f3, f4], _, hf =>
    simp only [List.map_cons, List.map_nil, List.cons.injEq, Prod.mk.injEq] at hf
    obtain ⟨⟨n0, t0, o0⟩, ⟨n1, t1, o1⟩, ⟨n2, t2, o2⟩, ⟨n3, t3, o3⟩, ⟨n4, t4, o4⟩, _⟩ := hf
    have p0 : ∀ x : Rv, (part 22 x.cells 0).run Tryz.prog W = .ok (.string x.nm) W := fun _ => rfl
    have p1 : ∀ x : Rv, (part 30 x.cells 1).run Tryz.prog W = .ok (.int .u16 x.ty) W := fun _ => rfl
    have p2 : ∀ x : Rv, (part 30 x.cells 2).run Tryz.prog W = .ok (.int .u16 x.cl) W := fun _ => rfl
    have p3 : ∀ x : Rv, (part 31 x.cells 3).run Tryz.prog W = .ok (.int .u32 x.ttl) W := fun _ => rfl
    have p4 : ∀ x : Rv, (part 34 x.cells 4).run Tryz.prog W = .ok (.agg x.d.cells) W := fun _ => rfl
    have m0 : ¬ (f0.name = "_") := by simpa using n0
    have m1 : ¬ (f1.name = "_") := by simpa using n1
    have m2 : ¬ (f2.name = "_") := by simpa using n2
    have m3 : ¬ (f3.name = "_") := by simpa using n3
    have m4 : ¬ (f4.name = "_") := by simpa using n4
    have st : ∀ (f : Field) (va vb : Value) (x y : Bool) (fs : List Field), ¬ (f.name = "_") → (part f.type a.cells f.offset).run Tryz.prog W = .ok va W → (part f.type b.cells f.offset).run Tryz.prog W = .ok vb W →
        (Op.equalIn (d + 4) f.type va vb).run Tryz.prog W = .ok x W → (Op.eqFields (d + 4) a.cells b.cells fs).run Tryz.prog W = .ok y W → (Op.eqFields (d + 4) a.cells b.cells (f :: fs)).run Tryz.prog W = .ok (x && y) W := fun f va vb x y fs hn ha hb he hr => by
      simp only [Op.eqFields, ne_eq, hn, not_false_eq_true, if_true, Sem.run_bind, ha, hb, he, Result.andThen_ok]
      exact and_run W (fun _ => Op.eqFields (d + 4) a.cells b.cells fs) _ hr
    have h4 := st f4 _ _ _ true [] m4 (by rw [t4, o4]; exact p4 a) (by rw [t4, o4]; exact p4 b) (by rw [t4]; exact dvRun W a.d b.d d) rfl
    rw [Bool.and_true] at h4
    exact st f0 _ _ _ _ _ m0 (by rw [t0, o0]; exact p0 a) (by rw [t0, o0]; exact p0 b) (by rw [t0]; exact run_equalIn_string W _ _ _ _ Tryz.underlying22)
      (st f1 _ _ _ _ _ m1 (by rw [t1, o1]; exact p1 a) (by rw [t1, o1]; exact p1 b) (by rw [t1]; exact run_equalIn_int W _ _ _ _ _ _ Tryz.underlying30)
        (st f2 _ _ _ _ _ m2 (by rw [t2, o2]; exact p2 a) (by rw [t2, o2]; exact p2 b) (by rw [t2]; exact run_equalIn_int W _ _ _ _ _ _ Tryz.underlying30)
          (st f3 _ _ _ _ _ m3 (by rw [t3, o3]; exact p3 a) (by rw [t3, o3]; exact p3 b) (by rw [t3]; exact run_equalIn_int W _ _ _ _ _ _ Tryz.underlying31) h4)))
theorem rvB_iff (a b : Rv) : rvB a b = true ↔ a = b := by
  obtain ⟨nm, ty, cl, ttl, d⟩ := a
  obtain ⟨nm', ty', cl', ttl', d'⟩ := b
  unfold rvB
  rw [strB]
  simp only [Bool.and_eq_true, decide_eq_true_eq, beq_iff_eq, dvB_iff, Rv.mk.injEq, Int.ofNat_inj]
end Go.Proofs.YtgcaephfhfkjcaaGreatDoor
namespace Go.Proofs.YtgcaephfhfkjcaaGreatDoor
open Go.RowKit Go.Sort Go.Shelf

set_option maxHeartbeats 4000000 in
set_option maxRecDepth 100000 in
theorem refEqual_any (xs : List Rv) (A B : Option Addr) (c c2 : Nat) (w : World) (hA : Srow rcl 12 w 0 w.heap.size A xs) (hB : Srow rcl 12 w 0 w.heap.size B xs) (hn : xs.length ≤ 4294967296) :
    Calls Tryz.prog 11 #[.slice A xs.length c, .slice B xs.length c2] w fun e w' => e = .returned (.bool true) ∧ Below w.heap.size w w' := by
  have HA := Lib.hid hA
  have HB := Lib.hid hB
  clear hA hB
  go_enter Tryz.func11, Tryz.ntmps11
  go_wp2
  go_loopw [5] (fun s5 wr => ∃ i q : Nat, s5 = .int .i64 i ∧ i ≤ xs.length ∧ wr = w.drewN q) (fun s5 _ => xs.length - (intOf s5).toNat)
  case atStart => exact ⟨0, 0, rfl, Nat.zero_le _, rfl⟩
  case round =>
    obtain ⟨i, q, rfl, hi, rfl⟩ := hrel
    by_cases hlt : i < xs.length
    · obtain ⟨g, o, rfl, _, _, hc⟩ := HA.out.at_ hlt
      obtain ⟨g2, o2, rfl, _, _, hc2⟩ := HB.out.at_ hlt
      have i0 : (0 : Int) ≤ (i : Int) := by omega
      have i1 : (i : Int) < (xs.length : Int) := by omega
      generalize xs[i] = r at *
      have hpe : ∀ W, (Op.equalIn 10000 36 (.agg r.cells) (.agg r.cells)).run Tryz.prog W = .ok true W := fun W => by
        have h := rvRun W r r 9995
        rw [(rvB_iff r r).2 rfl] at h
        exact h
      have HC : Hid ((w.drewN q).rangeAt g (o + i * 12) (rcl r)) := hc
      have HC2 : Hid ((w.drewN q).rangeAt g2 (o2 + i * 12) (rcl r)) := hc2
      have HQ : Hid (∀ n, (w.drewN q).drewN n = w.drewN (q + n)) := fun n => World.drewN_drewN ..
      clear hc hc2
      obtain ⟨nm, ty, cl, ttl, ⟨ra', ho, ma, n0, n1, n2, n3, n4⟩⟩ := r
      generalize w.drewN q = wq at *
      have e0 := HC.out 0 _ rfl
      have e1 := HC.out 1 _ rfl
      have e2 := HC.out 2 _ rfl
      have e3 := HC.out 3 _ rfl
      have e4 := HC.out 4 _ rfl
      have e5 := HC.out 5 _ rfl
      have e6 := HC.out 6 _ rfl
      have e7 := HC.out 7 _ rfl
      have e8 := HC.out 8 _ rfl
      have e9 := HC.out 9 _ rfl
      have e10 := HC.out 10 _ rfl
      have e11 := HC.out 11 _ rfl
      have f0 := HC2.out 0 _ rfl
      have f1 := HC2.out 1 _ rfl
      have f2 := HC2.out 2 _ rfl
      have f3 := HC2.out 3 _ rfl
      have f4 := HC2.out 4 _ rfl
      have f5 := HC2.out 5 _ rfl
      have f6 := HC2.out 6 _ rfl
      have f7 := HC2.out 7 _ rfl
      have f8 := HC2.out 8 _ rfl
      have f9 := HC2.out 9 _ rfl
      have f10 := HC2.out 10 _ rfl
      have f11 := HC2.out 11 _ rfl
      rw [Nat.add_zero] at e0 f0
      dsimp only [Rv.cells] at hpe
      clear HC HC2
      go_wp2_with fail
      go_quiet (fail)
      go_wp2_with fail
      go_roundw
      case rel => exact ⟨i + 1, q + _, by go_num, by omega, HQ.out _⟩
      case measure => simp [intOf]; omega
    · obtain rfl : i = xs.length := by omega
      go_wp2_with fail
      go_ret
      exact ⟨rfl, below_drewN (Below.refl _ _) q⟩
end Go.Proofs.YtgcaephfhfkjcaaGreatDoor
