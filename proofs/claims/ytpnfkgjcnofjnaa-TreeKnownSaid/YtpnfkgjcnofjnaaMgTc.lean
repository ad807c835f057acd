/- Texts of the proofs, merged. -/
import Derived.Test.YtpnfkgjcnofjnaaMgTb
import Derived.Shelf.Spec.SlicesInsertGrow
import Derived.Deep.RegionLaw
import Derived.Lib.SliceRun
/- A pointer put into a row of pointers. -/
namespace Go.Proofs.Ytpnfkgjcnofjnaa.Ti
open Go.RowKit Go.Shelf Tr

theorem infoPtr : (Try.prog.info? 73).map (fun i => (i.zero, i.size, i.bytes)) = some (some (.pointer none), 1, 8) := by kernel_rfl
theorem set_range {g : Nat} {t : TypeId} : ∀ (vs : List Value) (o : Nat) (F : Array Value) {w : World}, Has w g t F → ∃ F', Has (w.setCells g o vs) g t F' ∧ F'.size = F.size ∧ (∀ j, F'[j]? = if o ≤ j ∧ j < o + vs.length ∧ j < F.size then vs[j - o]? else F[j]?)
  | [], o, F, w, h => ⟨F, h, rfl, fun j => by rw [if_neg (by simp; omega)]⟩
  | v :: r, o, F, w, h => by
    obtain ⟨F', h1, h2, h4⟩ := set_range r (o + 1) _ (h.set o v)
    refine ⟨F', h1, by simpa using h2, fun j => ?_⟩
    rw [h4]
    by_cases e : o = j
    · subst e
      rw [if_neg (by omega)]
      by_cases hs : o < F.size
      · rw [if_pos ⟨by omega, by simp, hs⟩]
        simp [hs]
      · rw [if_neg (by omega)]
        simp [hs]
    · by_cases hc : o + 1 ≤ j ∧ j < o + 1 + r.length ∧ j < F.size
      · rw [if_pos (by simpa using hc), if_pos (by simp; omega)]
        rw [show j - o = (j - (o + 1)) + 1 by omega, List.getElem?_cons_succ]
      · rw [if_neg (by simpa using hc), if_neg (by simp; omega)]
        simp [e]
theorem only_setCells {S : List Nat} {a : World} {g : Nat} (hg : g ∈ S ∨ a.heap.size ≤ g) : ∀ (vs : List Value) (o : Nat) {w : World}, Only S a w → Only S a (w.setCells g o vs)
  | [], _, _, h => h
  | v :: r, o, w, h => by
    rw [World.setCells]
    exact only_setCells hg r (o + 1) (h.setCell (p := ⟨g, o, none⟩) hg v)
theorem Only.drew {S : List Nat} {a w : World} (h : Only S a w) : Only S a w.drew := ⟨h.os, h.tape, h.output, h.size, h.block⟩
theorem row_mk {w : World} {g cap n : Nat} {bs : List Nat} {cur : Array Value} (h : Has w g 73 cur) (hbn : bs.length = n) (hn : n ≤ cap) (hm : cap ≤ maxLen) (hs : cur.size = cap) (hc : ∀ j, j < n → cur[j]? = (ptrs bs)[j]?) :
    Row w (.slice (some ⟨g, 0, none⟩) n cap) bs := by
  subst hbn
  refine ⟨by rw [ptrs_len, Nat.mul_one], .inr ⟨g, cap, cur, rfl, Nat.zero_le _, h, hn, hm, by rw [hs, Nat.mul_one], ?_⟩⟩
  rw [Nat.mul_one]
  apply List.ext_getElem?
  intro j
  rw [List.getElem?_take]
  split
  · rename_i hj
    rw [Array.getElem?_toList]; exact hc j hj
  · rename_i hj
    rw [List.getElem?_eq_none (by rw [ptrs_len]; omega)]
theorem row_get {w : World} {g n cap : Nat} {bs : List Nat} (h : Row w (.slice (some ⟨g, 0, none⟩) n cap) bs) : bs.length = n ∧ n ≤ cap ∧ cap ≤ maxLen ∧ ∃ cur, Has w g 73 cur ∧ cur.size = cap ∧ ∀ j, j < n → cur[j]? = (ptrs bs)[j]? := by
  rcases h.2 with ⟨hv, _⟩ | ⟨g', cap', cur, hv, _, hg, hc, hm, hs, ht⟩
  · cases hv
  · injection hv with h1 h2 h3
    injection h1 with h1
    injection h1 with h1
    subst h1 h3
    rw [Nat.mul_one] at hs ht
    refine ⟨h2.symm, by omega, hm, cur, hg, hs, fun j hj => ?_⟩
    rw [← ht, List.getElem?_take, if_pos (by omega), Array.getElem?_toList]
theorem ptrs_ins (bs : List Nat) (i p : Nat) : ptrs (bs.take i ++ p :: bs.drop i) = (ptrs bs).take i ++ ptr p :: (ptrs bs).drop i := by simp [ptrs, List.map_take, List.map_drop]
theorem ins_len {bs : List Nat} {i p : Nat} (hi : i ≤ bs.length) : (bs.take i ++ p :: bs.drop i).length = bs.length + 1 := by simp; omega
theorem shape_of {w : World} {g : Nat} {t : TypeId} {cs : Array Value} (h : Has w g t cs) : w.shape? g = some (t, cs.size) := by
  unfold Has at h
  simp [World.shape?, h]
theorem ptr_one {xs : List Value} (h : ∃ bs, xs = ptrs bs) : ∀ v ∈ xs, v.oneCell' = true := by
  obtain ⟨bs, rfl⟩ := h
  intro v hv
  obtain ⟨b, _, rfl⟩ := List.mem_map.1 hv
  rfl
set_option maxHeartbeats 4000000 in
set_option maxRecDepth 100000 in
theorem ins_shift {w : World} {g cap i p gv : Nat} {bs : List Nat} (h : Row w (.slice (some ⟨g, 0, none⟩) bs.length cap) bs) (hi : i < bs.length) (hroom : bs.length + 1 ≤ cap) (hg : Has w gv 73 #[ptr p]) (hgn : gv ≠ g) :
    Calls Try.prog 76 #[.slice (some ⟨g, 0, none⟩) bs.length cap, .int .i64 i, .slice (some ⟨gv, 0, none⟩) 1 1] w fun e w' =>
      e = .returned (.slice (some ⟨g, 0, none⟩) (bs.length + 1) cap) ∧ Row w' (.slice (some ⟨g, 0, none⟩) (bs.length + 1) cap) (bs.take i ++ p :: bs.drop i) ∧ Only [g] w w' := by
  obtain ⟨_, _, hm, cur, hc, hcs, hcj⟩ := row_get h
  obtain ⟨n, hn⟩ : ∃ n, bs.length = n := ⟨_, rfl⟩
  obtain ⟨xs, hxs⟩ : ∃ xs, xs = ptrs bs := ⟨_, rfl⟩
  have hxl : xs.length = n := by rw [hxs, ptrs_len, hn]
  have hx1 := ptr_one ⟨bs, hxs⟩
  have hfin : Hid (Row ((w.drew.setCells g (i + 1) (xs.drop i)).setCells g i [ptr p]) (.slice (some ⟨g, 0, none⟩) (bs.length + 1) cap) (bs.take i ++ p :: bs.drop i)) := by
    obtain ⟨F1, a1, a2, a3⟩ := set_range (xs.drop i) (i + 1) cur (w := w.drew) hc
    obtain ⟨F2, b1, b2, b3⟩ := set_range [ptr p] i F1 a1
    refine row_mk b1 (ins_len (by omega)) (by omega) hm (by omega) fun j hj => ?_
    rw [b3, a3, ptrs_ins, ← hxs, List.length_drop, hxl]
    simp only [List.length_singleton]
    rcases Nat.lt_trichotomy j i with h1 | h1 | h1
    · rw [if_neg (by omega), if_neg (by omega), hcj j (by omega), ← hxs, List.getElem?_append_left (by rw [List.length_take]; omega), List.getElem?_take, if_pos h1]
    · subst h1
      rw [if_pos (by omega), List.getElem?_append_right (by rw [List.length_take]; omega), List.length_take]
      simp [Nat.min_eq_left (by omega : j ≤ xs.length)]
    · rw [if_neg (by omega), if_pos (by omega), List.getElem?_append_right (by rw [List.length_take]; omega), List.length_take, Nat.min_eq_left (by omega : i ≤ xs.length)]
      rw [show j - i = (j - (i + 1)) + 1 by omega, List.getElem?_cons_succ]
  have honly : Hid (Only [g] w ((w.drew.setCells g (i + 1) (xs.drop i)).setCells g i [ptr p])) := only_setCells (.inl (by simp)) _ _ (only_setCells (.inl (by simp)) _ _ (Only.refl _ _).drew)
  have hcs' : ∀ j v, xs[j]? = some v → w.cell? ⟨g, j, none⟩ = some v := fun j v hv => by
    have : j < n := by rw [← hxl]; exact (List.getElem?_eq_some_iff.1 hv).1
    rw [hc.cell, hcj j (by omega), ← hxs, hv]
  have hsp : ∀ j, j < n + 1 → (w.cell? ⟨g, j, none⟩).isSome = true := fun j hj => by rw [hc.cell, Array.getElem?_eq_getElem (by omega)]; rfl
  have hfz : ∀ j, w.frozen? ⟨g, j, none⟩ = false := fun j => hc.free j
  have hvs : w.cell? ⟨gv, 0, none⟩ = some (ptr p) := by rw [hg.cell]; rfl
  have hov : ∀ lb cb, (callFunc 95 #[.slice (some ⟨gv, 0, none⟩) 1 1, .slice (some ⟨g, i + 1, none⟩) lb cb]).run Try.prog w = .ok (.value (.bool false)) w := fun lb cb => by
    rw [run_callFunc_extern Try.func95 (by kernel_rfl) (by kernel_rfl) (by kernel_rfl) (e := Extern.SlicesOverlaps.overlaps #[68, 68] #[4]) (by kernel_rfl),
      Lib.run_overlaps_apart w 68 4 73 Try.underlying68 1 Try.sizeOf73 ⟨gv, 0, none⟩ ⟨g, i + 1, none⟩ 1 1 lb cb hgn _ _ _ _ (shape_of hg) (shape_of hc) (by omega) (hg.free 0) (hg.free 1)]
    rfl
  have hsz : (Try.prog.info? 73).map (·.size) = some 1 := by kernel_rfl
  have hdl : (xs.drop i).length = n - i := by rw [List.length_drop, hxl]
  have hcp1 : ∀ ty dc sc, (Builtin.copy_ #[68, 68] ty #[.slice (some ⟨g, i + 1, none⟩) (n - i) dc, .slice (some ⟨g, i, none⟩) (n + 1 - i) sc]).run Try.prog w.drew = .ok (goInt (xs.drop i).length) (w.drew.setCells g (i + 1) (xs.drop i)) := fun ty dc sc =>
    run_copy_cells w.drew _ _ ty 73 g (i + 1) (n - i) dc ⟨g, i, none⟩ (n + 1 - i) sc (xs.drop i) Try.underlying68 hsz (by rw [hdl]; simp only [Nat.min_def]; split <;> omega)
      (fun j v hj => by rw [Addr.add_lit]; exact hcs' (i + j) v (by rwa [List.getElem?_drop] at hj))
      (fun j hj => hsp _ (by omega)) (fun j hj => hfz _) (fun v hv => hx1 v (List.mem_of_mem_drop hv))
  obtain ⟨W1, hW1⟩ : ∃ W1, W1 = w.drew.setCells g (i + 1) (xs.drop i) := ⟨_, rfl⟩
  have hsp1 : ∀ k, k < n + 1 → (W1.cell? ⟨g, k, none⟩).isSome = true := fun k hk => by
    rw [hW1]
    exact isSome_setCells g (xs.drop i) (i + 1) w.drew (fun j hj => hsp (i + 1 + j) (by omega)) k (hsp k hk)
  have hcp2 : ∀ (W : World), (∀ x, W.cell? x = W1.cell? x) → (∀ x, W.frozen? x = W1.frozen? x) → ∀ ty dc, (Builtin.copy_ #[68, 68] ty #[.slice (some ⟨g, i, none⟩) (n + 1 - i) dc, .slice (some ⟨gv, 0, none⟩) 1 1]).run Try.prog W = .ok (goInt [ptr p].length) (W.setCells g i [ptr p]) := fun W hWc hWf ty dc =>
    run_copy_cells W _ _ ty 73 g i (n + 1 - i) dc ⟨gv, 0, none⟩ 1 1 [ptr p] Try.underlying68 hsz (by simp only [List.length_singleton, Nat.min_def]; split <;> omega)
      (fun j v hj => by
        have hj0 : j = 0 := by have := (List.getElem?_eq_some_iff.1 hj).1; simp at this; omega
        subst hj0
        rw [Addr.add_lit, hWc, hW1, World.cell?_setCells_out g _ _ _ _ (fun h _ => absurd h hgn), ← hj]
        exact hvs)
      (fun j hj => by rw [hWc]; exact hsp1 _ (by simp at hj; omega)) (fun j hj => by rw [hWf, hW1, World.frozen?_setCells]; exact hfz _) (fun v hv => by simp at hv; subst hv; rfl)
  rw [← hW1] at hcp1 hfin honly
  have mixed : Try.prog.follows .mixedOrders = true := by kernel_rfl
  have hw1 : IntKind.i64.wrap ((i : Int) + (1 : Int)) = (i : Int) + (1 : Int) := by unfold maxLen at hm; rw [IntKind.wrap_i64]; omega
  have hw2 : IntKind.i64.wrap ((n : Int) + (1 : Int)) = (n : Int) + (1 : Int) := by unfold maxLen at hm; rw [IntKind.wrap_i64]; omega
  rw [hn] at hi hroom hfin ⊢
  unfold maxLen at hm
  have hz2 : ((i : Int) == (n : Int)) = false := beq_eq_false_iff_ne.2 (by omega)
  have hz3 : decide ((cap : Int) < (n : Int) + 1) = false := decide_eq_false (by omega)
  have hb1 : (0 : Int) ≤ (i : Int) + (1 : Int) := by omega
  have hin : i ≤ n := by omega
  have htn : ((i : Int) + (1 : Int)).toNat = i + 1 := by omega
  have hb2 : ¬ (cap = i + 1) := by omega
  have hb3 : (i : Int) ≤ (n : Int) + (1 : Int) := by omega
  have hb4 : ¬ (cap = i) := by omega
  have HW := Lib.hid hW1
  clear h hc hcs hcj hxs hx1 hcs' hsp hfz hvs hsp1 hdl hxl hg hn hW1
  go_enter Try.func76, Try.ntmps76
  go_wp2_with (simp only [hov])
  go_region_law_o (refine step_copy_runI rfl _ _ 68 68 rfl _ _ (by simp [Act.eval, Act.put]) (by simp [Act.eval, Act.put]) (hcp1 _ _ _) ?_)
  go_wp2_with (at_builtin; refine wpList_copy_runI _ rfl _ _ 68 68 rfl _ _ rfl rfl (hcp2 _ (fun _ => rfl) (fun _ => rfl) _ _) ?_)
  go_ret
  exact ⟨rfl, hfin.out, honly.out⟩
end Go.Proofs.Ytpnfkgjcnofjnaa.Ti
/- A pointer put into a row of pointers: behind its end, and where there is no room. -/
namespace Go.Proofs.Ytpnfkgjcnofjnaa.Ti
open Go.RowKit Go.Shelf Tr

section
variable {P : Program} {w : World}
theorem run_append_at (base : Nat) (t ty e : TypeId) (i : TypeInfo) (z : Value) (size bytes : Nat) (ht : P.underlying t = some (.slice e)) (hi : P.info? e = some i) (hz : i.zero = some z)
    (hsize : i.size = size) (hby : i.bytes = bytes) (hzs : z.cells.size = size) (hsz : 0 < size)
    (v : Value) (n : Nat) (xs : List Value) (hown : w.ownsRow base e size v n xs)
    (a : Addr) (m c : Nat) (news : List Value) (hl : news.length = m * size) (hnews : ∀ j u, news[j]? = some u → w.cell? (a.add j) = some u) (h1 : ∀ u ∈ news, u.oneCell' = true) (hm : 0 < m)
    (h63 : n + m ≤ maxLen) (hbytes : (n + m) * bytes ≤ 140737488355328) (hbase : base ≤ w.heap.size) :
    ∃ v' w', (Builtin.append_ #[t, t] ty #[v, .slice (some a) m c]).run P w = .ok v' w' ∧ w'.ownsRow base e size v' (n + m) (xs ++ news) ∧ w.grownBy w' v.ownBlock ∧ (v'.ownBlock = v.ownBlock ∨ v'.ownBlock = some w.heap.size) := by
  obtain ⟨v', w', hr, h2, h3, _⟩ := run_append_own (P := P) w base t ty e i z size bytes ht hi hz hsize hby hzs hsz v n xs hown a m c news hl hnews h1 h63 hbytes hbase
  refine ⟨v', w', hr, h2, h3, ?_⟩
  subst hsize hby
  have hsmall : n + m ≤ 9223372036854775807 := by simp only [maxLen] at h63; omega
  rcases hown.2 with ⟨rfl, rfl⟩ | ⟨g, cap, cur, rfl, hbg, hg, hnc, hcm, hcs, htake⟩
  · have hr2 := run_append_nil (P := P) w t ty e i z ht hi hz a m c news hl hnews (by omega) (by omega) (by have hb := hbytes; simp only [Nat.zero_add] at hb; omega)
    rw [hr] at hr2
    injection hr2 with e1 _
    rw [e1]
    exact .inr rfl
  · by_cases hroom : n + m ≤ cap
    · have hfit : n * i.size + news.length ≤ cur.size := by rw [hl, hcs, ← Nat.add_mul]; exact Nat.mul_le_mul_right _ hroom
      have hr2 := run_append_room (P := P) w t ty e i ht hi g n cap cur hg a m c news hl hnews h1 hroom hfit
      rw [hr] at hr2
      injection hr2 with e1 _
      rw [e1]
      exact .inl rfl
    · have holds : ∀ j u, xs[j]? = some u → w.cell? ((⟨g, 0, none⟩ : Addr).add j) = some u := hown.cells (g := g) rfl
      have hr2 := run_append_grow (P := P) w t ty e i z ht hi hz ⟨g, 0, none⟩ n cap xs hown.1 holds a m c news hl hnews (by omega) (by omega) (growslice_fits (by omega) hbytes)
      rw [hr] at hr2
      injection hr2 with e1 _
      rw [e1]
      exact .inr rfl
end
theorem rowB_of {v : Value} {q : Nat} (h : v.ownBlock = some q) : rowB v = [q] := by unfold rowB; rw [h]
theorem only_grown {w w' : World} {v : Value} (h : w.grownBy w' v.ownBlock) : Only (rowB v) w w' := (Only.refl _ w).grown h fun r e => .inl (by rw [rowB_of e]; simp)
theorem row_new {w : World} {v v' : Value} (h : v'.ownBlock = v.ownBlock ∨ v'.ownBlock = some w.heap.size) : ∀ k ∈ rowB v', k ∈ rowB v ∨ w.heap.size ≤ k := by
  intro k hk
  rcases h with h | h
  · unfold rowB at *; rw [h] at hk; exact .inl hk
  · rw [rowB_of h] at hk; simp at hk; exact .inr (by omega)
set_option maxHeartbeats 1000000 in
set_option maxRecDepth 100000 in
theorem ins_end {w : World} {kv : Value} {p gv : Nat} {bs : List Nat} (h : Row w kv bs) (hg : Has w gv 73 #[ptr p]) (hbig : bs.length ≤ 1099511627776) :
    Calls Try.prog 76 #[kv, .int .i64 bs.length, .slice (some ⟨gv, 0, none⟩) 1 1] w fun e w' => ∃ kv', e = .returned kv' ∧ Row w' kv' (bs ++ [p]) ∧ Only (rowB kv) w w' ∧ ∀ k ∈ rowB kv', k ∈ rowB kv ∨ w.heap.size ≤ k := by
  obtain ⟨i0, hi, hz0, hz1, hz2⟩ := info_parts infoPtr
  obtain ⟨v', w', hr, h2, h3, h4⟩ := run_append_at (P := Try.prog) (w := w) 0 68 68 73 i0 (.pointer none) 1 8 Try.underlying68 hi hz0 hz1 hz2 rfl (by decide) kv bs.length (ptrs bs) h ⟨gv, 0, none⟩ 1 1 [ptr p] rfl
    (fun j u hj => by
      have hj0 : j = 0 := by have := (List.getElem?_eq_some_iff.1 hj).1; simp at this; omega
      subst hj0
      rw [addr_add, ← hj, hg.cell]; rfl) (fun v hv => by simp at hv; subst hv; rfl) (by omega) (by unfold maxLen; omega) (by omega) (Nat.zero_le _)
  have hrow : Hid (Row w' v' (bs ++ [p])) := by
    have : Row w' v' (bs ++ [p]) ↔ w'.ownsRow 0 73 1 v' (bs.length + 1) (ptrs bs ++ [ptr p]) := by unfold Row; rw [List.length_append]; simp [ptrs]
    exact this.2 h2
  have ho := Lib.hid (only_grown h3)
  have hn := Lib.hid (row_new h4)
  obtain ⟨A, cp, rfl⟩ := own_form h
  have hz : bs.length ≤ 9223372036854775806 := by omega
  have hle : (bs.length : Nat) ≤ cp := own_le h
  clear h h2 h3 h4 hg hi hz0 hz1 hz2
  generalize bs.length = n at *
  generalize rowB (.slice A n cp) = R at *
  go_enter Try.func76, Try.ntmps76
  go_wp2_with (at_builtin; refine Lib.wpList_append_run _ rfl _ _ _ _ rfl _ _ rfl rfl _ _ hr ?_)
  all_goals
    go_ret
    exact ⟨_, rfl, hrow.out, ho.out, hn.out⟩
set_option maxHeartbeats 4000000 in
set_option maxRecDepth 100000 in
theorem ins_grow {w : World} {g cap i p gv : Nat} {bs : List Nat} (h : Row w (.slice (some ⟨g, 0, none⟩) bs.length cap) bs) (hi : i < bs.length) (hroom : cap < bs.length + 1) (hg : Has w gv 73 #[ptr p]) (hbig : bs.length ≤ 1099511627776) :
    Calls Try.prog 76 #[.slice (some ⟨g, 0, none⟩) bs.length cap, .int .i64 i, .slice (some ⟨gv, 0, none⟩) 1 1] w fun e w' =>
      ∃ G, e = .returned (.slice (some ⟨w.heap.size, 0, none⟩) (bs.length + 1) G) ∧ Row w' (.slice (some ⟨w.heap.size, 0, none⟩) (bs.length + 1) G) (bs.take i ++ p :: bs.drop i) ∧ Only [] w w' := by
  obtain ⟨_, hnc, hm, cur, hc, hcs, hcj⟩ := row_get h
  obtain ⟨i0, hi0, hz0, hzs, hzb⟩ := info_parts infoPtr
  obtain ⟨n, hn⟩ : ∃ n, bs.length = n := ⟨_, rfl⟩
  obtain ⟨xs, hxs⟩ : ∃ xs, xs = ptrs bs := ⟨_, rfl⟩
  have hxl : xs.length = n := by rw [hxs, ptrs_len, hn]
  have hx1 := ptr_one ⟨bs, hxs⟩
  have hcs' : ∀ j v, xs[j]? = some v → w.cell? ⟨g, j, none⟩ = some v := fun j v hv => by
    have : j < n := by rw [← hxl]; exact (List.getElem?_eq_some_iff.1 hv).1
    rw [hc.cell, hcj j (by omega), ← hxs, hv]
  have hvs : w.cell? ⟨gv, 0, none⟩ = some (ptr p) := by rw [hg.cell]; rfl
  have hgw := hc.lt
  have hvw := hg.lt
  rw [hn] at hi hroom hnc hbig
  have hsz : (Try.prog.info? 73).map (·.size) = some 1 := by kernel_rfl
  have hkk : (n : Int) + (1 : Int) - (i : Int) = ((n + 1 - i : Nat) : Int) := by omega
  have hik : i + (n + 1 - i) = n + 1 := by omega
  have hold : (Builtin.firstCells i0.size i (.slice (some ⟨g, 0, none⟩) i cap)).run Try.prog w.drew = .ok (xs.take i).toArray w.drew := by
    rw [hzs]
    exact run_firstCells_some w.drew 1 i ⟨g, 0, none⟩ i cap (xs.take i) (by rw [List.length_take]; omega) (fun j v hj => by
      rw [addr_add, Nat.zero_add]
      rw [List.getElem?_take] at hj
      split at hj
      · exact hcs' j v hj
      · cases hj)
  have hrz : ∀ ty, (Builtin.append_ #[68, 3] ty #[.slice (some ⟨g, 0, none⟩) i cap, .int .i64 ((n : Int) + (1 : Int) - (i : Int))]).run Try.prog w =
      .ok (.slice (some ⟨w.heap.size, 0, none⟩) (n + 1) (grownCap w (n + 1) cap 73)) (w.drew.alloc (.cells ((xs.take i).toArray ++ Builtin.zeroCells (Value.pointer none).cells (n + 1 - i) ++ Builtin.zeroCells (Value.pointer none).cells (grownCap w (n + 1) cap 73 - (n + 1))) 73)) := fun ty => by
    have h := Lib.run_append_grow_zeros w 68 3 ty 73 i0 _ .i64 .i64 Try.underlying68 Try.underlying3 hi0 hz0 (some ⟨g, 0, none⟩) i cap (xs.take i) hold (n + 1 - i) (by omega) (by omega) (by omega) (by omega) (by rw [hzb]; omega) (by rw [hzb, hik]; exact growslice_fits hroom (by omega))
    rw [hik] at h
    rw [hkk]
    exact h
  have hGn := grownCap_ge w (n + 1) cap 73
  have hGm := grownCap_le_maxLen w (n + 1) cap 73 (by unfold maxLen; omega)
  generalize grownCap w (n + 1) cap 73 = G at *
  obtain ⟨ROW, hROW⟩ : ∃ ROW : Array Value, ROW = (xs.take i).toArray ++ Builtin.zeroCells (Value.pointer none).cells (n + 1 - i) ++ Builtin.zeroCells (Value.pointer none).cells (G - (n + 1)) := ⟨_, rfl⟩
  have hRs : ROW.size = G := by
    rw [hROW]
    simp [Builtin.zeroCells, Value.cells]
    omega
  have hRt : ∀ j, j < i → ROW[j]? = xs[j]? := fun j hj => by
    rw [hROW, Array.append_assoc, Array.getElem?_append_left (by simp; omega)]
    simp [hj]
  rw [← hROW] at hrz
  clear hROW
  have hN0 : Has (w.drew.alloc (.cells ROW 73)) w.heap.size 73 ROW := Has.fresh w.drew _ _
  have hfin : Hid (Row (((w.alloc (.cells ROW 73)).drew.setCells w.heap.size i [ptr p]).drew.setCells w.heap.size (i + 1) (xs.drop i)) (.slice (some ⟨w.heap.size, 0, none⟩) (n + 1) G) (bs.take i ++ p :: bs.drop i)) := by
    obtain ⟨F1, a1, a2, a3⟩ := set_range [ptr p] i ROW (w := (w.alloc (.cells ROW 73)).drew) hN0
    obtain ⟨F2, b1, b2, b3⟩ := set_range (xs.drop i) (i + 1) F1 (w := ((w.alloc (.cells ROW 73)).drew.setCells w.heap.size i [ptr p]).drew) a1
    refine row_mk b1 (by rw [ins_len (by omega), hn]) hGn hGm (by omega) fun j hj => ?_
    rw [b3, a3, ptrs_ins, ← hxs, List.length_drop, hxl]
    simp only [List.length_singleton]
    rcases Nat.lt_trichotomy j i with h1 | h1 | h1
    · rw [if_neg (by omega), if_neg (by omega), hRt j h1, List.getElem?_append_left (by rw [List.length_take]; omega), List.getElem?_take, if_pos h1]
    · subst h1
      rw [if_neg (by omega), if_pos (by omega), List.getElem?_append_right (by rw [List.length_take]; omega), List.length_take]
      simp [Nat.min_eq_left (by omega : j ≤ xs.length)]
    · rw [if_pos (by omega), List.getElem?_append_right (by rw [List.length_take]; omega), List.length_take, Nat.min_eq_left (by omega : i ≤ xs.length)]
      rw [show j - i = (j - (i + 1)) + 1 by omega, List.getElem?_cons_succ]
  have honly : Hid (Only [] w (((w.alloc (.cells ROW 73)).drew.setCells w.heap.size i [ptr p]).drew.setCells w.heap.size (i + 1) (xs.drop i))) :=
    only_setCells (.inr (Nat.le_refl _)) _ _ (only_setCells (.inr (Nat.le_refl _)) _ _ (Only.of_below ((Below.refl _ w).alloc (Nat.le_refl _) _) (Nat.le_refl _) []).drew).drew
  obtain ⟨W1, hW1⟩ : ∃ W1, W1 = w.drew.alloc (.cells ROW 73) := ⟨_, rfl⟩
  have hN : ∀ j, j < n + 1 → (W1.cell? ⟨w.heap.size, j, none⟩).isSome = true := fun j hj => by rw [hW1, hN0.cell, Array.getElem?_eq_getElem (by omega)]; rfl
  have hNf : ∀ j, W1.frozen? ⟨w.heap.size, j, none⟩ = false := fun j => by rw [hW1]; exact hN0.free j
  have hOld : ∀ (b j : Nat) (v : Value), b < w.heap.size → w.cell? ⟨b, j, none⟩ = some v → W1.cell? ⟨b, j, none⟩ = some v := fun b j v hb h => by rw [hW1, World.cell?_alloc_past (w := w.drew) _ b j hb]; exact h
  have hcpA : ∀ (W : World), (∀ x, W.cell? x = W1.cell? x) → (∀ x, W.frozen? x = W1.frozen? x) → ∀ ty dc, (Builtin.copy_ #[68, 68] ty #[.slice (some ⟨w.heap.size, i, none⟩) (n + 1 - i) dc, .slice (some ⟨gv, 0, none⟩) 1 1]).run Try.prog W = .ok (goInt [ptr p].length) (W.setCells w.heap.size i [ptr p]) := fun W hWc hWf ty dc =>
    run_copy_cells W _ _ ty 73 w.heap.size i (n + 1 - i) dc ⟨gv, 0, none⟩ 1 1 [ptr p] Try.underlying68 hsz (by simp only [List.length_singleton, Nat.min_def]; split <;> omega)
      (fun j v hj => by
        have hj0 : j = 0 := by have := (List.getElem?_eq_some_iff.1 hj).1; simp at this; omega
        subst hj0
        rw [addr_add, hWc, ← hj]
        exact hOld _ _ _ hvw hvs)
      (fun j hj => by rw [hWc]; exact hN _ (by simp at hj; omega)) (fun j hj => by rw [hWf]; exact hNf _) (fun v hv => by simp at hv; subst hv; rfl)
  have hbN : g ≠ w.heap.size := by omega
  have hdl : (xs.drop i).length = n - i := by rw [List.length_drop, hxl]
  have hcpB : ∀ (W : World), (∀ x, W.cell? x = (W1.setCells w.heap.size i [ptr p]).cell? x) → (∀ x, W.frozen? x = (W1.setCells w.heap.size i [ptr p]).frozen? x) → ∀ ty dc sc, (Builtin.copy_ #[68, 68] ty #[.slice (some ⟨w.heap.size, i + 1, none⟩) (n - i) dc, .slice (some ⟨g, i, none⟩) (n - i) sc]).run Try.prog W = .ok (goInt (xs.drop i).length) (W.setCells w.heap.size (i + 1) (xs.drop i)) := fun W hWc hWf ty dc sc =>
    run_copy_cells W _ _ ty 73 w.heap.size (i + 1) (n - i) dc ⟨g, i, none⟩ (n - i) sc (xs.drop i) Try.underlying68 hsz (by rw [hdl]; simp only [Nat.min_def]; split <;> omega)
      (fun j v hj => by
        rw [addr_add, hWc, World.cell?_setCells_out _ _ _ _ _ (fun h _ => absurd h hbN)]
        exact hOld _ _ _ hgw (hcs' (i + j) v (by rwa [List.getElem?_drop] at hj)))
      (fun j hj => by rw [hWc]; exact isSome_setCells w.heap.size [ptr p] i W1 (fun t ht => hN (i + t) (by simp at ht; omega)) _ (hN _ (by omega)))
      (fun j hj => by rw [hWf, World.frozen?_setCells]; exact hNf _) (fun v hv => hx1 v (List.mem_of_mem_drop hv))
  subst hW1
  have hE1 : ∀ x, ((w.alloc (.cells ROW 73)).drew).cell? x = (w.drew.alloc (.cells ROW 73)).cell? x := fun x => rfl
  have hE2 : ∀ x, ((w.alloc (.cells ROW 73)).drew).frozen? x = (w.drew.alloc (.cells ROW 73)).frozen? x := fun x => rfl
  have hF1 : ∀ x, (((w.alloc (.cells ROW 73)).drew.setCells w.heap.size i [ptr p]).drew).cell? x = ((w.drew.alloc (.cells ROW 73)).setCells w.heap.size i [ptr p]).cell? x := fun x => rfl
  have hF2 : ∀ x, (((w.alloc (.cells ROW 73)).drew.setCells w.heap.size i [ptr p]).drew).frozen? x = ((w.drew.alloc (.cells ROW 73)).setCells w.heap.size i [ptr p]).frozen? x := fun x => rfl
  have mixed : Try.prog.follows .mixedOrders = true := by kernel_rfl
  unfold maxLen at hm hGm
  have hw1 : IntKind.i64.wrap ((i : Int) + (1 : Int)) = (i : Int) + (1 : Int) := by rw [IntKind.wrap_i64]; omega
  have hw2 : IntKind.i64.wrap ((n : Int) + (1 : Int)) = (n : Int) + (1 : Int) := by rw [IntKind.wrap_i64]; omega
  have hw3 : IntKind.i64.wrap ((n : Int) + (1 : Int) - (i : Int)) = (n : Int) + (1 : Int) - (i : Int) := by rw [IntKind.wrap_i64]; omega
  have hz2 : ((i : Int) == (n : Int)) = false := beq_eq_false_iff_ne.2 (by omega)
  have hz3 : decide ((cap : Int) < (n : Int) + 1) = true := decide_eq_true (by omega)
  have hb1 : (0 : Int) ≤ (i : Int) + (1 : Int) := by omega
  have hin : i ≤ n := by omega
  have htn : ((i : Int) + (1 : Int)).toNat = i + 1 := by omega
  have hGi : ¬ (G = i) := by omega
  have hGim : ¬ (G = i + 1) := by omega
  have hci : ¬ (cap = i) := by omega
  have hb3 : (i : Int) ≤ (n : Int) := by omega
  rw [hn]
  clear hkk hik hold hRs hRt hN0 hN hNf hOld hdl hxl hx1 hxs hcs' hvs hc hcs hcj h hg hn hi0 hz0 hzs hzb hsz
  go_enter Try.func76, Try.ntmps76
  go_wp2_with (first
    | (at_builtin; refine Lib.wpList_append_run _ rfl _ _ _ _ rfl _ _ rfl rfl _ _ (hrz _) ?_)
    | (at_builtin; refine wpList_copy_runI _ rfl _ _ 68 68 rfl _ _ rfl rfl (hcpA _ hE1 hE2 _ _) ?_))
  go_region_law_o (refine step_copy_runI rfl _ _ 68 68 rfl (.slice (some ⟨w.heap.size, i + 1, none⟩) (n - i) (G - (i + 1))) (.slice (some ⟨g, i, none⟩) (n - i) (cap - i)) (by simp [Act.eval, Act.put]) (by simp [Act.eval, Act.put]) (hcpB _ hF1 hF2 3 (G - (i + 1)) (cap - i)) ?_)
  go_wp2
  go_ret
  exact ⟨G, rfl, hfin.out, honly.out⟩
theorem insert_any {w : World} {kv : Value} {bs : List Nat} (h : Row w kv bs) {i : Nat} (p : Nat) {gv : Nat} (hi : i ≤ bs.length) (hg : Has w gv 73 #[ptr p]) (hgn : gv ∉ rowB kv) (hbig : bs.length ≤ 1099511627776) :
    Calls Try.prog 76 #[kv, .int .i64 i, .slice (some ⟨gv, 0, none⟩) 1 1] w fun e w' => ∃ kv', e = .returned kv' ∧ Row w' kv' (bs.take i ++ p :: bs.drop i) ∧ Only (rowB kv) w w' ∧ ∀ k ∈ rowB kv', k ∈ rowB kv ∨ w.heap.size ≤ k := by
  by_cases he : i = bs.length
  · subst he
    rw [List.take_of_length_le (Nat.le_refl _), List.drop_eq_nil_of_le (Nat.le_refl _)]
    exact ins_end h hg hbig
  · obtain ⟨g, cap, rfl, hc, _⟩ := own_pos h (by omega)
    have hgn' : gv ≠ g := fun e => hgn (by rw [e]; simp [rowB, Value.ownBlock])
    by_cases hroom : bs.length + 1 ≤ cap
    · refine (ins_shift h (by omega) hroom hg hgn').mono ?_
      rintro e w' ⟨rfl, h1, h2⟩
      exact ⟨_, rfl, h1, h2, fun k hk => .inl hk⟩
    · refine (ins_grow h (by omega) (by omega) hg hbig).mono ?_
      rintro e w' ⟨G, rfl, h1, h2⟩
      exact ⟨_, rfl, h1, h2.mono (by simp), fun k hk => .inr (by simp [rowB, Value.ownBlock] at hk; omega)⟩
end Go.Proofs.Ytpnfkgjcnofjnaa.Ti
/- A pointer taken out of a row of pointers. -/
namespace Go.Proofs.Ytpnfkgjcnofjnaa.Ti
open Go.RowKit Go.Shelf Tr

theorem ptrs_del (bs : List Nat) (i : Nat) : ptrs (bs.take i ++ bs.drop (i + 1)) = (ptrs bs).take i ++ (ptrs bs).drop (i + 1) := by simp [ptrs, List.map_take, List.map_drop]
theorem del_len {bs : List Nat} {i n : Nat} (hn : bs.length = n + 1) (hi : i < n + 1) : (bs.take i ++ bs.drop (i + 1)).length = n := by simp; omega
set_option maxHeartbeats 4000000 in
set_option maxRecDepth 100000 in
theorem del_at {w : World} {g cap i n : Nat} {bs : List Nat} (h : Row w (.slice (some ⟨g, 0, none⟩) (n + 1) cap) bs) (hi : i < n + 1) :
    Calls Try.prog 80 #[.slice (some ⟨g, 0, none⟩) (n + 1) cap, .int .i64 i, .int .i64 ((i : Int) + 1)] w fun e w' =>
      e = .returned (.slice (some ⟨g, 0, none⟩) n cap) ∧ Row w' (.slice (some ⟨g, 0, none⟩) n cap) (bs.take i ++ bs.drop (i + 1)) ∧ Only [g] w w' := by
  obtain ⟨hbn, hnc, hm, cur, hc, hcs, hcj⟩ := row_get h
  obtain ⟨i0, hi0, hz0, hzs, hzb⟩ := info_parts infoPtr
  obtain ⟨xs, hxs⟩ : ∃ xs, xs = ptrs bs := ⟨_, rfl⟩
  have hxl : xs.length = n + 1 := by rw [hxs, ptrs_len, hbn]
  have hx1 := ptr_one ⟨bs, hxs⟩
  have hcs' : ∀ j v, xs[j]? = some v → w.cell? ⟨g, j, none⟩ = some v := fun j v hv => by
    have : j < n + 1 := by rw [← hxl]; exact (List.getElem?_eq_some_iff.1 hv).1
    rw [hc.cell, hcj j (by omega), ← hxs, hv]
  have hsp : ∀ j, j < cap → (w.cell? ⟨g, j, none⟩).isSome = true := fun j hj => by rw [hc.cell, Array.getElem?_eq_getElem (by omega)]; rfl
  have hfz : ∀ j, w.frozen? ⟨g, j, none⟩ = false := fun j => hc.free j
  have hdl : (xs.drop (i + 1)).length = n - i := by rw [List.length_drop, hxl]; omega
  have hfin : Hid (Row ((w.drew.setCells g i (xs.drop (i + 1))).setCells g n (List.replicate 1 (.pointer none))) (.slice (some ⟨g, 0, none⟩) n cap) (bs.take i ++ bs.drop (i + 1))) := by
    obtain ⟨F1, a1, a2, a3⟩ := set_range (xs.drop (i + 1)) i cur (w := w.drew) hc
    obtain ⟨F2, b1, b2, b3⟩ := set_range (List.replicate 1 (.pointer none)) n F1 a1
    refine row_mk b1 (del_len hbn hi) (by omega) hm (by omega) fun j hj => ?_
    rw [b3, a3, ptrs_del, ← hxs, hdl]
    rw [if_neg (by omega)]
    by_cases h1 : j < i
    · rw [if_neg (by omega), hcj j (by omega), ← hxs, List.getElem?_append_left (by rw [List.length_take]; omega), List.getElem?_take, if_pos h1]
    · rw [if_pos (by omega), List.getElem?_append_right (by rw [List.length_take]; omega), List.length_take, Nat.min_eq_left (by omega : i ≤ xs.length)]
  have honly : Hid (Only [g] w ((w.drew.setCells g i (xs.drop (i + 1))).setCells g n (List.replicate 1 (.pointer none)))) := only_setCells (.inl (by simp)) _ _ (only_setCells (.inl (by simp)) _ _ (Only.refl _ _).drew)
  obtain ⟨A, hA, hsrc⟩ : ∃ A : Addr, (if cap = i + 1 then some (⟨g, 0, none⟩ : Addr) else some ⟨g, i + 1, none⟩) = some A ∧ Hid (∀ t u, (xs.drop (i + 1))[t]? = some u → w.drew.cell? (A.add t) = some u) := by
    by_cases h : cap = i + 1
    · refine ⟨⟨g, 0, none⟩, by simp [h], fun t u hu => ?_⟩
      have h0 : (xs.drop (i + 1)).length = 0 := by rw [hdl]; omega
      rw [List.length_eq_zero_iff.1 h0] at hu
      simp at hu
    · refine ⟨⟨g, i + 1, none⟩, by simp [h], fun t u hu => ?_⟩
      rw [addr_add]
      exact hcs' (i + 1 + t) u (by rwa [List.getElem?_drop] at hu)
  have s1 : Hid ((xs.drop (i + 1)).length = (n - i) * 1) := by rw [Nat.mul_one]; exact hdl
  have s2 : Hid (∀ u ∈ xs.drop (i + 1), u.oneCell' = true) := fun u hu => hx1 u (List.mem_of_mem_drop hu)
  have s3 : Hid (∀ t, t < (xs.drop (i + 1)).length → (w.drew.cell? ⟨g, 0 + i * 1 + t, none⟩).isSome = true ∧ w.drew.frozen? ⟨g, 0 + i * 1 + t, none⟩ = false) := by
    intro t ht
    rw [hdl] at ht
    exact ⟨hsp _ (by omega), hfz _⟩
  obtain ⟨W1, hW1⟩ : ∃ W1, W1 = w.drew.setCells g i (xs.drop (i + 1)) := ⟨_, rfl⟩
  have hcl : ∀ ty, (Builtin.clear_ #[68] ty #[.slice (some ⟨g, n, none⟩) 1 (cap - n)]).run Try.prog W1 = .ok (.tuple #[]) (W1.setCells g n (List.replicate 1 (.pointer none))) := fun ty =>
    Lib.run_clear_slice W1 _ 73 ty _ Try.underlying68 Try.zeroValue73 rfl rfl g n 1 _ (by omega)
      (fun t ht => by rw [hW1]; exact isSome_setCells g (xs.drop (i + 1)) i w.drew (fun t ht => hsp (i + t) (by omega)) _ (hsp _ (by omega))) (fun t ht => by rw [hW1, World.frozen?_setCells]; exact hfz _)
  have HW : Hid (W1 = w.drew.setCells g (0 + i * 1) (xs.drop (i + 1))) := by rw [Hid, Nat.mul_one, Nat.zero_add]; exact hW1
  rw [← hW1] at hfin honly
  have mixed : Try.prog.follows .mixedOrders = true := by kernel_rfl
  unfold maxLen at hm
  have hic : i ≤ cap := by omega
  have hjc : i + 1 ≤ cap := by omega
  have hji : (i : Int) + 1 ≤ (n : Int) + 1 := by omega
  have hjt : ((i : Int) + 1).toNat = i + 1 := by omega
  have h01 : (0 : Int) ≤ (i : Int) + 1 := by omega
  have hne : ((i : Int) == (i : Int) + 1) = false := beq_eq_false_iff_ne.2 (by omega)
  have hin : i + (n - i) = n := by omega
  have hcn : ¬ (cap = n) := by omega
  clear hW1 h hbn hc hcs hcj hzb hx1 hxl hxs hcs' hsp hfz hdl hz0
  go_enter Try.func80, Try.ntmps80
  go_wp2_with fail
  go_region_law_o (refine step_append_room rfl (.tmp 22) (.tmp 25) 68 rfl 73 i0 1 Try.underlying68 hi0 hzs g 0 i cap (by simp [Act.eval, Act.put]) A (n - i) (cap - (i + 1)) (xs.drop (i + 1)) (by simp [Act.eval, Act.put]) s1.out hsrc.out s2.out (by omega) s3.out ?_; rw [← HW.out])
  go_wp2
  go_ret
  exact ⟨rfl, hfin.out, honly.out⟩
theorem delete_any {w : World} {kv : Value} {bs : List Nat} (h : Row w kv bs) {i : Nat} (hi : i < bs.length) :
    Calls Try.prog 80 #[kv, .int .i64 i, .int .i64 ((i : Int) + 1)] w fun e w' => ∃ kv', e = .returned kv' ∧ Row w' kv' (bs.take i ++ bs.drop (i + 1)) ∧ Only (rowB kv) w w' ∧ rowB kv' = rowB kv := by
  obtain ⟨g, cap, rfl, hc, _⟩ := own_pos h (by omega)
  obtain ⟨n, hn⟩ : ∃ n, bs.length = n + 1 := ⟨bs.length - 1, by omega⟩
  rw [hn] at h ⊢
  refine (del_at h (by omega)).mono ?_
  rintro e w' ⟨rfl, h1, h2⟩
  refine ⟨_, rfl, ?_, h2, rfl⟩
  unfold Row
  rw [del_len hn (by omega)]
  have := h1
  unfold Row at this
  rwa [del_len hn (by omega)] at this
end Go.Proofs.Ytpnfkgjcnofjnaa.Ti
