/- Texts of the proofs, merged. -/
import Derived.Test.YtmieakkhpkclpaaDoorG24
import Derived.Test.YtmieakkhpkclpaaDoorG28
import Derived.Test.YtmieakkhpkclpaaDoorG19
/- Gathering, step by step. -/
namespace Go.Proofs.YtmieakkhpkclpaaDoor
open Go.RowKit Go.Sort Go.Shelf Go.WideMaps Go.MapKept

/-- the first k records are gathered. -/
structure LA (R : List Rv) (w0 w : World) (m gf b0 k : Nat) (E : List En) : Prop where
  gat : Gat (R.take k) E
  ok : ∀ e ∈ E, e.k.ok
  gm : Gm w m b0 E
  has : Has w gf 43 (flatK rcl 12 R.toArray)
  bel : Below w0.heap.size w0 w
  lo : w0.heap.size ≤ m ∧ m < gf ∧ gf < b0 ∧ b0 ≤ w.heap.size
  len : E.length ≤ k
/-- .. and the next one's entry is there. -/
structure LB (R : List Rv) (w0 w : World) (m gf b0 k : Nat) (E : List En) (j : Nat) (e : En) (r : Rv) : Prop where
  gat : Gat1 (R.take k) E j r.kv
  he : E[j]? = some e
  ok : ∀ e ∈ E, e.k.ok
  gm : Gm w m b0 E
  has : Has w gf 43 (flatK rcl 12 R.toArray)
  bel : Below w0.heap.size w0 w
  lo : w0.heap.size ≤ m ∧ m < gf ∧ gf < b0 ∧ b0 ≤ w.heap.size
  len : E.length ≤ k + 1
section
variable {R : List Rv} {w0 w : World} {m gf b0 k : Nat} {E : List En}
theorem LA.next (h : LA R w0 w m gf b0 k E) {w' : World} (g : w.grownBy w' none) : LA R w0 w' m gf b0 k E :=
  ⟨h.gat, h.ok, h.gm.keep g, h.has.grown g (by simp), grown_none g h.bel h.bel.size, ⟨h.lo.1, h.lo.2.1, h.lo.2.2.1, Nat.le_trans h.lo.2.2.2 g.size⟩, h.len⟩
theorem LA.entry (h : LA R w0 w m gf b0 k E) (r : Rv) (hr : r.kv.ok) : ∃ v w', (Instr.mapEntry 45 (.map (some m)) r.kv.val).run Tryd.prog w = .ok v w' ∧ ∃ (E1 : List En) (j : Nat) (e : En), v = .tuple #[e.v, .int .i64 (j : Nat)] ∧ LB R w0 w' m gf b0 k E1 j e r ∧ w.grownBy w' (some m) ∧ w'.heap.size = w.heap.size := by
  obtain ⟨w', E1, j, e, hrun, h1, h2, h3, h4, h5, h6, h7⟩ := gm_entry h.gm h.gat h.ok r.kv hr
  have hne : some gf ≠ some m := fun e' => by injection e' with e'; have := h.lo.2.1; omega
  exact ⟨_, w', hrun, E1, j, e, rfl, ⟨h1, h2, h4, h3, h.has.grown h5 hne, h.bel.grown h5 h.bel.size (fun q e' => by injection e' with e'; have := h.lo.1; omega), ⟨h.lo.1, h.lo.2.1, h.lo.2.2.1, by rw [h6]; exact h.lo.2.2.2⟩, by have := h.len; omega⟩, h5, h6⟩
theorem own1_len (R : List Rv) (k : Kv) : (own1 R k).length ≤ R.length := List.length_filter_le _ _
theorem LB.rsLen {j : Nat} {e : En} {r : Rv} (h : LB R w0 w m gf b0 k E j e r) : e.rs.length ≤ R.length := by
  rw [h.gat.own e (List.mem_of_getElem? h.he)]
  refine Nat.le_trans (own1_len _ _) ?_
  rw [List.length_take]
  omega
theorem LB.own {j : Nat} {e : En} {r : Rv} (h : LB R w0 w m gf b0 k E j e r) : Own rcl 12 w b0 43 e.v e.rs := h.gm.own e (List.mem_of_getElem? h.he)
theorem LB.store {j : Nat} {e : En} {r : Rv} (h : LB R w0 w m gf b0 k E j e r) (hr : R[k]? = some r) {w2 : World} {v' : Value} (hown : Own rcl 12 w2 b0 43 v' (e.rs ++ [r])) (hg : w.grownBy w2 e.v.ownBlock) (hw : v'.ownBlock = e.v.ownBlock ∨ v'.ownBlock = some w.heap.size) :
    ∃ w3, (Instr.entryStore 45 (.map (some m)) (.int .i64 (j : Nat)) v').run Tryd.prog w2 = .ok () w3 ∧ ∃ E2, LA R w0 w3 m gf b0 (k + 1) E2 := by
  obtain ⟨w3, hrun, h1, h2, h3⟩ := gm_store h.gm h.he r v' hown hg hw
  obtain ⟨hk, hrk⟩ := List.getElem?_eq_some_iff.1 hr
  have hlt := h.own.lt
  have l1 := h.lo.1
  have l2 := h.lo.2.1
  have l3 := h.lo.2.2.1
  have hgf : some gf ≠ e.v.ownBlock := fun e' => by have := (hlt gf e'.symm).1; omega
  refine ⟨w3, hrun, _, ⟨?_, fun x hx => ?_, h1, (h.has.grown hg hgf).grown h2 (fun e' => by injection e' with e'; omega), ?_, ⟨l1, l2, l3, ?_⟩, by rw [List.length_set]; exact h.len⟩⟩
  · rw [List.take_succ_eq_append_getElem hk, hrk]
    exact h.gat.put h.he v'
  · obtain ⟨i, hi⟩ := List.mem_iff_getElem?.1 hx
    rw [set_same h.he] at hi
    split at hi
    · rw [← Option.some.inj hi]
      exact h.ok e (List.mem_of_getElem? h.he)
    · exact h.ok x (List.mem_of_getElem? hi)
  · exact (h.bel.grown hg h.bel.size (fun q e' => by have := (hlt q e').1; omega)).grown h2 (Nat.le_trans h.bel.size hg.size) (fun q e' => by injection e' with e'; omega)
  · rw [h3]
    exact Nat.le_trans h.lo.2.2.2 hg.size
end
theorem rv_kv_ok {r : Rv} (h1 : r.nums) (h2 : r.short) : r.kv.ok := ⟨h2.1, h1.1, h1.2⟩
theorem kv_cells (k : Kv) : k.val = .agg #[.string k.nm, .int .u16 k.ty, .int .u16 k.cl] := rfl
end Go.Proofs.YtmieakkhpkclpaaDoor
/- The map gone through, step by step. -/
namespace Go.Proofs.YtmieakkhpkclpaaDoor
open Go.RowKit Go.Sort Go.Shelf Go.WideMaps Go.MapKept

instance : Inhabited Sx := ⟨⟨⟨⟨#[]⟩, 0, 0⟩, 0, .slice none 0 0, []⟩⟩
theorem scl_len (s : Sx) : s.cells.length = 5 := rfl
/-- texts that there may be, and a slice. -/
def Sx.good (s : Sx) : Prop := s.k.nm.size ≤ 140737488355328 ∧ s.v.oneCell' = true ∧ ∀ d ∈ s.ds, d.short
theorem scl_one {s : Sx} (h : s.v.oneCell' = true) : ∀ v ∈ s.cells, v.oneCell' = true := by
  intro v hv
  simp only [Sx.cells, List.mem_cons, List.not_mem_nil, or_false] at hv
  rcases hv with rfl | rfl | rfl | rfl | rfl
  · rfl
  · rfl
  · rfl
  · rfl
  · exact h
/-- .. and the data lie in another block than the row. -/
def SetOff (w : World) (lo : Nat) (row : Option Nat) (s : Sx) : Prop := ∃ g c, s.v = .slice (some ⟨g, 0, none⟩) s.ds.length c ∧ s.ds.length ≤ c ∧ lo ≤ g ∧ g < w.heap.size ∧ row ≠ some g ∧ ∀ j (h : j < s.ds.length), w.rangeAt g (0 + j * 8) (dcl s.ds[j])
theorem SetOff.grown {w w' : World} {lo : Nat} {row r2 : Option Nat} {s : Sx} (h : SetOff w lo row s) (hg : w.grownBy w' r2) (hr : ∀ g, r2 = some g → g < lo ∨ row = some g) : SetOff w' lo row s := by
  obtain ⟨g, c, h1, h2, h3, h4, h5, h6⟩ := h
  refine ⟨g, c, h1, h2, h3, Nat.lt_of_lt_of_le h4 hg.size, h5, fun j hj i u hu => hg.cell (h6 j hj i u hu) (fun e => ?_)⟩
  rcases hr g e.symm with h | h
  · omega
  · exact h5 h
/-- the entries that were seen made these sets. -/
structure LC (R : List Rv) (w0 w : World) (m gf b0 : Nat) (E : List En) (it b2 : Nat) (seen : List Nat) (out : List Sx) (v : Value) : Prop where
  la : LA R w0 w m gf b0 R.length E
  iter : w.heap[it]? = some (.mapIter (some m) E.length seen.toArray E.length)
  nodup : seen.Nodup
  lt : ∀ j ∈ seen, j < E.length
  own : w.ownsRow b2 30 5 v out.length (fl Sx.cells out)
  len : out.length = seen.length
  of_ : ∀ (i : Nat) (s : Sx) (j : Nat) (e : En), out[i]? = some s → seen[i]? = some j → E[j]? = some e → s.of_ e
  dat : ∀ s ∈ out, SetOff w (it + 1) v.ownBlock s
  good : ∀ s ∈ out, s.good
  lo : m < b2 ∧ gf < b2 ∧ b2 ≤ it ∧ it < w.heap.size ∧ v.ownBlock ≠ some it ∧ ∀ e ∈ E, ∀ g, e.v.ownBlock = some g → g < b2
section
variable {R : List Rv} {w0 w : World} {m gf b0 : Nat} {E : List En} {it b2 : Nat} {seen : List Nat} {out : List Sx} {v : Value}
theorem LC.keep (h : LC R w0 w m gf b0 E it b2 seen out v) {w' : World} (g : w.grownBy w' none) : LC R w0 w' m gf b0 E it b2 seen out v :=
  ⟨h.la.next g, (g.block it h.lo.2.2.2.1 (by simp)).trans h.iter, h.nodup, h.lt, h.own.kept g (by
    cases hv : v.ownBlock
    · exact .inl rfl
    · exact .inr (by simp)), h.len, h.of_, fun s hs => (h.dat s hs).grown g (by simp), h.good, ⟨h.lo.1, h.lo.2.1, h.lo.2.2.1, Nat.lt_of_lt_of_le h.lo.2.2.2.1 g.size, h.lo.2.2.2.2⟩⟩
theorem pairs_len (E : List En) : (pairs E).length = E.length := by simp [pairs]
/-- what is next. -/
theorem LC.next (h : LC R w0 w m gf b0 E it b2 seen out v) (ty : TypeId) : ∃ u w', (Instr.next (.pointer (some ⟨it, 0, none⟩)) false ty).run Tryd.prog w = .ok u w' ∧
    ((u = .tuple #[.bool false] ∧ w' = w ∧ ∀ j, j < E.length → j ∈ seen) ∨
     ∃ (j : Nat) (e : En), u = .tuple #[.bool true, e.k.val, e.v] ∧ E[j]? = some e ∧ j ∉ seen ∧ (Instr.entry (.pointer (some ⟨it, 0, none⟩))).run Tryd.prog w' = .ok (.tuple #[e.k.val, e.v]) w' ∧
       LA R w0 w' m gf b0 R.length E ∧ w'.heap[it]? = some (.mapIter (some m) E.length (seen ++ [j]).toArray E.length) ∧ w.grownBy w' (some it) ∧ w'.heap.size = w.heap.size) := by
  have hi := h.iter
  rw [← pairs_len E] at hi
  rcases mp_next ty h.la.gm.mp hi with ⟨h1, h2⟩ | ⟨j, p, hj, hn, w', h2, h3, h4, h5, h6⟩
  · rw [pairs_len] at h1
    exact ⟨_, w, h2, .inl ⟨rfl, rfl, h1⟩⟩
  · rw [pairs_get] at hj
    obtain ⟨e, he, rfl⟩ := Option.map_eq_some_iff.1 hj
    rw [pairs_len] at h3
    obtain ⟨l1, l2, l3, l4, l5, l6⟩ := h.lo
    have hla := h.la
    have hgm : Gm w' m b0 E := by
      refine ⟨mp_kept hla.gm.mp h4 (fun e' => by injection e' with e'; omega), fun x hx => (hla.gm.own x hx).kept h4 ?_, hla.gm.apart, hla.gm.low⟩
      cases hv : x.v.ownBlock with
      | none => exact .inl rfl
      | some q => exact .inr (fun e' => by injection e' with e'; have := l6 x hx q hv; omega)
    have hm : w0.heap.size ≤ m := hla.lo.1
    exact ⟨_, w', h2, .inr ⟨j, e, rfl, he, hn, h6, ⟨hla.gat, hla.ok, hgm, hla.has.grown h4 (fun e' => by injection e' with e'; omega), hla.bel.grown h4 hla.bel.size (fun q e' => by injection e' with e'; omega), ⟨hm, hla.lo.2.1, hla.lo.2.2.1, by rw [h5]; exact hla.lo.2.2.2⟩, hla.len⟩, h3, h4, h5⟩⟩
/-- one set more. -/
theorem LC.put (h : LC R w0 w m gf b0 E it b2 seen out v) {j : Nat} {e : En} (he : E[j]? = some e) (hj : j ∉ seen) {w1 : World} (g1 : w.grownBy w1 (some it)) (hi : w1.heap[it]? = some (.mapIter (some m) E.length (seen ++ [j]).toArray E.length)) (hla : LA R w0 w1 m gf b0 R.length E)
    {w2 : World} (g2 : w1.grownBy w2 none) (s : Sx) (hs : s.of_ e) (hg : s.good) (hd : SetAt w2 w1.heap.size w2.heap.size s) {w3 : World} {v' : Value} (ho : w3.ownsRow b2 30 5 v' (out ++ [s]).length (fl Sx.cells (out ++ [s]))) (g3 : w2.grownBy w3 v.ownBlock) (hv : v'.ownBlock = v.ownBlock ∨ v'.ownBlock = some w2.heap.size) :
    LC R w0 w3 m gf b0 E it b2 (seen ++ [j]) (out ++ [s]) v' := by
  obtain ⟨l1, l2, l3, l4, l5, l6⟩ := h.lo
  have hjl : j < E.length := (List.getElem?_eq_some_iff.1 he).1
  have hrow : ∀ g, v.ownBlock = some g → b2 ≤ g ∧ g < w.heap.size := fun g e' => h.own.lt g e'
  have s1 := g1.size
  have s2 := g2.size
  have s3 := g3.size
  have hla2 := hla.next g2
  have hla3 : LA R w0 w3 m gf b0 R.length E := by
    have hgm : Gm w3 m b0 E := by
      refine ⟨mp_kept hla2.gm.mp g3 (fun e' => by have := (hrow m e'.symm).1; omega), fun x hx => (hla2.gm.own x hx).kept g3 ?_, hla2.gm.apart, hla2.gm.low⟩
      cases hx2 : x.v.ownBlock with
      | none => exact .inl rfl
      | some q =>
        right
        intro e'
        have := (hrow q e'.symm).1
        have := l6 x hx q hx2
        omega
    exact ⟨hla2.gat, hla2.ok, hgm, hla2.has.grown g3 (fun e' => by have := (hrow gf e'.symm).1; omega), hla2.bel.grown g3 hla2.bel.size (fun q e' => by have := (hrow q e').1; have := h.la.lo.1; omega), ⟨hla2.lo.1, hla2.lo.2.1, hla2.lo.2.2.1, Nat.le_trans hla2.lo.2.2.2 s3⟩, hla2.len⟩
  have hne' : v'.ownBlock ≠ some it := fun e' => by
    rcases hv with hv | hv
    · exact l5 (hv.symm.trans e')
    · rw [hv] at e'
      injection e' with e'
      omega
  refine ⟨hla3, ?_, ?_, fun x hx => ?_, ho, by rw [List.length_append, List.length_append, h.len]; rfl, fun i x q y hi1 hi2 hi3 => ?_, fun x hx => ?_, fun x hx => ?_, ⟨l1, l2, l3, by omega, hne', l6⟩⟩
  · rw [g3.block it (by omega) (fun e' => l5 e'.symm), g2.block it (by omega) (by simp)]
    exact hi
  · rw [List.nodup_append]
    exact ⟨h.nodup, by simp, fun a ha b hb e' => hj (by rw [← List.mem_singleton.1 hb, ← e']; exact ha)⟩
  · rcases List.mem_append.1 hx with hx | hx
    · exact h.lt x hx
    · rw [List.mem_singleton.1 hx]; exact hjl
  · by_cases hil : i < out.length
    · rw [List.getElem?_append_left hil] at hi1
      rw [List.getElem?_append_left (by rw [← h.len]; exact hil)] at hi2
      exact h.of_ i x q y hi1 hi2 hi3
    · have hib := (List.getElem?_eq_some_iff.1 hi1).1
      rw [List.length_append, List.length_singleton] at hib
      have e1 : i = out.length := by omega
      rw [e1, List.getElem?_concat_length] at hi1
      rw [e1, h.len, List.getElem?_concat_length] at hi2
      injection hi1 with hi1
      injection hi2 with hi2
      subst hi1 hi2
      rw [he] at hi3
      rw [← Option.some.inj hi3]
      exact hs
  · have hold : ∀ x, SetOff w2 (it + 1) v.ownBlock x → SetOff w3 (it + 1) v'.ownBlock x := fun x hx => by
      have h1 := hx.grown g3 (fun q e' => .inr e')
      obtain ⟨g, c, a1, a2, a3, a4, a5, a6⟩ := hx
      obtain ⟨g', c', b1, b2', b3, b4, b5, b6⟩ := h1
      rw [a1] at b1
      injection b1 with b1 _ b1'
      injection b1 with b1
      injection b1 with b1
      subst b1 b1'
      refine ⟨g, c, a1, a2, a3, b4, fun e' => ?_, b6⟩
      rcases hv with hv | hv
      · exact a5 (hv.symm.trans e')
      · rw [hv] at e'
        injection e' with e'
        omega
    rcases List.mem_append.1 hx with hx | hx
    · refine hold x (((h.dat x hx).grown g1 (fun q e' => by injection e' with e'; left; omega)).grown g2 (by simp))
    · rw [List.mem_singleton.1 hx]
      obtain ⟨g, c, a1, a2, a3, a4, a6⟩ := hd
      refine hold s ⟨g, c, a1, a2, by omega, a4, fun e' => by have := (hrow g e').2; omega, a6⟩
  · rcases List.mem_append.1 hx with hx | hx
    · exact h.good x hx
    · rw [List.mem_singleton.1 hx]; exact hg
end
end Go.Proofs.YtmieakkhpkclpaaDoor
/- Sets put in the order of their keys: the program's. -/
namespace Go.Proofs.YtmieakkhpkclpaaDoor
open Go.RowKit Go.Sort Go.Shelf

set_option maxHeartbeats 1000000 in
set_option maxRecDepth 100000 in
theorem clos_any (a b : Sx) (w : World) (ha : a.k.nm.size ≤ 140737488355328) (hb : b.k.nm.size ≤ 140737488355328) :
    Calls Tryd.prog 18 #[.agg a.cells.toArray, .agg b.cells.toArray] w fun e w' => e = .returned (.int .i64 (Rr.cmpK a.k.ky b.k.ky)) ∧ Below w.heap.size w w' := by
  have H := Lib.hid (fun W : World => cmpKey_any a.k b.k W ha hb)
  obtain ⟨⟨an, at', ac⟩, attl, av, ads⟩ := a
  obtain ⟨⟨bn, bt, bc⟩, bttl, bv, bds⟩ := b
  dsimp only [Sx.cells, Kv.val] at *
  clear ha hb
  have HB0 : Hid (Below w.heap.size w ((w.alloc (.cells #[.string an, .int .u16 at', .int .u16 ac, .int .u32 attl, av] 30)).alloc (.cells #[.string bn, .int .u16 bt, .int .u16 bc, .int .u32 bttl, bv] 30))) := ((Below.refl _ _).alloc (Nat.le_refl _) _).alloc (by simp) _
  generalize Rr.cmpK (Kv.ky ⟨an, at', ac⟩) (Kv.ky ⟨bn, bt, bc⟩) = x at *
  go_enter Tryd.func18, Tryd.ntmps18
  go_wp2_with (go_at_call 19; refine (H.out _).mono ?_; rintro e w1 ⟨rfl, B1⟩; have HB1 := Lib.hid (HB0.out.trans (B1.mono HB0.out.size)); clear B1)
  go_ret
  exact ⟨rfl, HB1.out⟩
theorem sortS_any (out : List Sx) (v : Value) (b2 : Nat) (w : World) (hown : w.ownsRow b2 30 5 v out.length (fl Sx.cells out)) (hgood : ∀ s ∈ out, s.good) (hn : out.length ≤ 4294967296) :
    Calls Tryd.prog 17 #[v, .func (.func 18) #[] #[]] w fun e w' => e = .returned (.tuple #[]) ∧ ∃ (l : List Sx) (A : Option Addr) (c : Nat), l.Perm out ∧ Rr.Up Rr.cmpK (l.map fun s => s.k.ky) ∧ v = .slice A out.length c ∧ out.length ≤ c ∧ Srow Sx.cells 5 w' b2 w'.heap.size A l ∧ w.grownBy w' v.ownBlock := by
  rcases Nat.eq_zero_or_pos out.length with h0 | h0
  · obtain ⟨A, c, rfl, hc⟩ := ownK_form hown
    have h := AnyF.slices_SortFunc_none (P := Tryd.prog) Tryd.sortS A c (.func (.func 18) #[] #[]) w
    change Calls Tryd.prog 17 _ _ _ at h
    rw [h0]
    have e0 := List.eq_nil_of_length_eq_zero h0
    subst e0
    refine h.mono fun e w' ⟨he, hw⟩ => ?_
    subst hw
    exact ⟨he, [], A, c, List.Perm.refl _, List.Pairwise.nil, rfl, Nat.zero_le _, Srow.nil, ⟨rfl, rfl, rfl, Nat.le_refl _, fun _ _ _ => rfl⟩⟩
  · obtain ⟨g, c, cur, rfl, hc, hb, hg, hcells, htake⟩ := ownK_pos hown h0
    have h := sort_any (P := Tryd.prog) Tryd.sortS (enc := Sx.cells) (k := 5) scl_len Sx.good ⟨Nat.zero_le _, rfl, fun d hd => by cases hd⟩ (fun x hx => scl_one hx.2.1) Tryd.isAgg30 Tryd.sizeOf30 (fun a b : Sx => Rr.cmpK a.k.ky b.k.ky) (fun a b => Rr.od_cmpK.neg _ _) (fun a b d => Rr.od_cmpK.trans _ _ _) 18 (enters_of Tryd.func18 (by kernel_rfl) rfl)
      (fun x y hx hy W => clos_any x y W hx.1 hy.1) g c 30 out hgood w (Own.holds scl_len hown h0) hg hn
    change Calls Tryd.prog 17 _ _ _ at h
    refine h.mono fun e w' ⟨he, l, h1, h2, h3, h4, _⟩ => ⟨he, l, some ⟨g, 0, none⟩, c, h1, List.pairwise_map.2 h2, rfl, hc, ?_, h4⟩
    exact holds_srow scl_len h3 hb (Nat.lt_of_lt_of_le hg h4.size)
end Go.Proofs.YtmieakkhpkclpaaDoor
/- The sets, put in order: what they are. -/
namespace Go.Proofs.YtmieakkhpkclpaaDoor
open Go.RowKit Go.Sort Go.Shelf Go.WideMaps Go.MapKept

/-- sets that stand from a slice's head on, with their data. -/
def SetsAt (w : World) (lo hi : Nat) (v : Value) (l : List Sx) : Prop := ∃ A c, v = .slice A l.length c ∧ l.length ≤ c ∧ Srow Sx.cells 5 w lo hi A l ∧ ∀ s ∈ l, SetAt w lo hi s ∧ s.good
theorem LC.ends {R : List Rv} {w0 w : World} {m gf b0 : Nat} {E : List En} {it b2 : Nat} {seen : List Nat} {out : List Sx} {v : Value} (h : LC R w0 w m gf b0 E it b2 seen out v) (hall : ∀ j, j < E.length → j ∈ seen)
    {w' : World} (g : w.grownBy w' v.ownBlock) {l : List Sx} {A : Option Addr} {c : Nat} (hp : l.Perm out) (hu : Rr.Up Rr.cmpK (l.map fun s => s.k.ky)) (hv : v = .slice A out.length c) (hc : out.length ≤ c) (hS : Srow Sx.cells 5 w' b2 w'.heap.size A l) :
    l.map Sx.st = Rr.sets (R.map Rv.rc) ∧ SetsAt w' w0.heap.size w'.heap.size v l ∧ Below w0.heap.size w0 w' := by
  have hg : Gat R E := by
    have := h.la.gat
    rwa [List.take_of_length_le (Nat.le_refl _)] at this
  have hl := h.la.lo.1
  have l1 := h.lo.1
  have l3 := h.lo.2.2.1
  refine ⟨sets_made hg h.nodup hall h.len h.of_ h.lt hp hu, ⟨A, c, by rw [hv, hp.length_eq], by rw [hp.length_eq]; exact hc, hS.more (by omega) (Nat.le_refl _), fun s hs => ?_⟩, h.la.bel.grown g h.la.bel.size (fun q e => by have := (h.own.lt q e).1; omega)⟩
  have hs2 := hp.mem_iff.1 hs
  obtain ⟨g', c', a1, a2, a3, a4, a5, a6⟩ := (h.dat s hs2).grown g (fun q e => .inr e)
  exact ⟨⟨g', c', a1, a2, by omega, a4, a6⟩, h.good s hs2⟩
theorem nodup_lt : ∀ (n : Nat) (l : List Nat), l.Nodup → (∀ j ∈ l, j < n) → l.length ≤ n
  | 0, l, _, h => by
    cases l with
    | nil => simp
    | cons a r => exact absurd (h a (by simp)) (by omega)
  | n + 1, l, hn, h => by
    have h1 := nodup_lt n (l.erase n) (hn.erase n) (fun j hj => by
      have := h j (List.mem_of_mem_erase hj)
      have hne : j ≠ n := fun e => by
        subst e
        exact (List.Nodup.not_mem_erase hn) hj
      omega)
    by_cases hm : n ∈ l
    · rw [List.length_erase_of_mem hm] at h1
      omega
    · rw [List.erase_of_not_mem hm] at h1
      omega
set_option maxRecDepth 100000 in
theorem fill_set (s : Sx) : Instr.fill (fun i => some (i * 5, 5)) ((Array.range (1 * 5)).map ((Value.agg (Sx.cells ⟨⟨⟨#[]⟩, 0, 0⟩, 0, .slice none 0 0, []⟩).toArray).cells[· % (Value.agg (Sx.cells ⟨⟨⟨#[]⟩, 0, 0⟩, 0, .slice none 0 0, []⟩).toArray).cells.size]!)) [(0, .agg s.cells.toArray)] = some s.cells.toArray := by kernel_rfl
theorem has_row {w : World} {g n b : Nat} {t : TypeId} {cs : Array Value} {k : Nat} (h : Has w g t cs) (hb : b ≤ g) (hn : n ≤ maxLen) (hs : cs.size = n * k) : w.ownsRow b t k (.slice (some ⟨g, 0, none⟩) 0 n) 0 [] :=
  ⟨by simp, .inr ⟨g, n, cs, rfl, hb, h, Nat.zero_le _, hn, hs, by simp⟩⟩
theorem setAt_lo {w : World} {lo lo' hi : Nat} {s : Sx} (h : SetAt w lo hi s) (hl : lo' ≤ lo) : SetAt w lo' hi s := by
  obtain ⟨g, c, h1, h2, h3, h4, h5⟩ := h
  exact ⟨g, c, h1, h2, by omega, h4, h5⟩
theorem setAt_keep {w w' : World} {lo : Nat} {s : Sx} (h : SetAt w lo w.heap.size s) (hg : w.grownBy w' none) : SetAt w' lo w'.heap.size s := by
  obtain ⟨g, c, h1, h2, h3, h4, h5⟩ := h
  exact ⟨g, c, h1, h2, h3, Nat.lt_of_lt_of_le h4 hg.size, fun j hj i u hu => hg.cell (h5 j hj i u hu) (by simp)⟩
theorem grown_two {a b c : World} (h1 : a.grownBy b none) (h2 : b.grownBy c none) : a.grownBy c none :=
  ⟨h2.os.trans h1.os, h2.tape.trans h1.tape, h2.output.trans h1.output, Nat.le_trans h1.size h2.size, fun k hk hne => (h2.block k (Nat.lt_of_lt_of_le hk h1.size) hne).trans (h1.block k hk hne)⟩
def lenOf : Value → Nat
  | .slice _ n _ => n
  | _ => 0
end Go.Proofs.YtmieakkhpkclpaaDoor
