/- Texts of the proofs, merged. -/
import Derived.Test.YtmieakkhpkclpaaDoorG29
import Derived.Test.YtmieakkhpkclpaaDoorG49
import Derived.Test.YtmieakkhpkclpaaDoorG52
import Derived.Test.YtmieakkhpkclpaaDoorG48
/- Sets in the making, in a row of the call's own. Nothing of the program. -/
namespace Go.Proofs.YtmieakkhpkclpaaDoor
open Go.RowKit Go.Sort Go.Shelf

theorem fl_last_set {α : Type} {enc : α → List Value} {k : Nat} (hk : ∀ x, (enc x).length = k) (pre : List α) (x y : α) {i : Nat} {u : Value} (h : enc y = (enc x).set i u) : (fl enc (pre ++ [x])).set (pre.length * k + i) u = fl enc (pre ++ [y]) := by
  rw [fl_append, fl_append, fl_one, fl_one, List.set_append_right _ _ (by rw [fl_len hk]; omega), fl_len hk, Nat.add_sub_cancel_left, h]
/-- sets in the making: the row, and each set's data in a row of its own. -/
structure SR (w : World) (b : Nat) (v : Value) (out : List Sx) : Prop where
  own : w.ownsRow b 30 5 v out.length (fl Sx.cells out)
  dat : ∀ s ∈ out, w.ownsRow b 41 8 s.v s.ds.length (fl dcl s.ds)
  off : ∀ s ∈ out, Apart2 s.v v
  apart : out.Pairwise fun s t => Apart2 s.v t.v
section
variable {w w' : World} {b : Nat} {v v' : Value} {out pre : List Sx} {s : Sx}
theorem SR.nil (w : World) (b : Nat) : SR w b (.slice none 0 0) [] := ⟨⟨rfl, .inl ⟨rfl, rfl⟩⟩, by simp, by simp, List.Pairwise.nil⟩
theorem SR.keep (h : SR w b v out) (g : w.grownBy w' none) : SR w' b v out :=
  ⟨h.own.kept g (Classical.em _), fun s hs => (h.dat s hs).kept g (Classical.em _), h.off, h.apart⟩
theorem SR.below (h : SR w b v out) {B : Nat} (hb : Below B w w') (hB : w.heap.size ≤ B) : SR w' b v out :=
  ⟨ownK_below h.own hb hB, fun s hs => ownK_below (h.dat s hs) hb hB, h.off, h.apart⟩
theorem SR.drewN (h : SR w b v out) (q : Nat) : SR (w.drewN q) b v out := ⟨h.own, h.dat, h.off, h.apart⟩
theorem off_kept (h : SR w b v out) (hs : s ∈ out) : s.v.ownBlock = none ∨ s.v.ownBlock ≠ v.ownBlock := by
  cases e : s.v.ownBlock with
  | none => exact .inl rfl
  | some q => exact .inr fun e2 => h.off s hs q e e2.symm
theorem SR.push (h : SR w b v out) {k : Kv} {ttl : Nat} (ho : w'.ownsRow b 30 5 v' (out.length + 1) (fl Sx.cells (out ++ [⟨k, ttl, .slice none 0 0, []⟩]))) (g : w.grownBy w' v.ownBlock) (hv : v'.ownBlock = v.ownBlock ∨ v'.ownBlock = some w.heap.size) :
    SR w' b v' (out ++ [⟨k, ttl, .slice none 0 0, []⟩]) := by
  refine ⟨by rw [List.length_append, List.length_singleton]; exact ho, fun s hs => ?_, fun s hs => ?_, List.pairwise_append.2 ⟨h.apart, List.pairwise_singleton _ _, fun a _ t ht => ?_⟩⟩
  · rcases List.mem_append.1 hs with hs | hs
    · exact (h.dat s hs).kept g (off_kept h hs)
    · rw [List.mem_singleton.1 hs]
      exact ⟨rfl, .inl ⟨rfl, rfl⟩⟩
  · rcases List.mem_append.1 hs with hs | hs
    · intro q e e2
      rcases hv with hv | hv
      · exact h.off s hs q e (hv.symm.trans e2)
      · rw [hv] at e2
        injection e2 with e2
        have := ((h.dat s hs).lt q e).2
        omega
    · rw [List.mem_singleton.1 hs]
      intro q e
      cases e
  · rw [List.mem_singleton.1 ht]
    intro q _ e
    cases e
/-- the last one is given another cell. -/
theorem SR.cell {g c : Nat} (h : SR w b (.slice (some ⟨g, 0, none⟩) (pre.length + 1) c) (pre ++ [s])) {i : Nat} {u : Value} (s' : Sx) (hc : s'.cells = s.cells.set i u) (hd : w.ownsRow b 41 8 s'.v s'.ds.length (fl dcl s'.ds)) (ho : ∀ q, s'.v.ownBlock = some q → q ≠ g) (ha : ∀ t ∈ pre, Apart2 t.v s'.v) :
    SR (w.setCell ⟨g, pre.length * 5 + i, none⟩ u) b (.slice (some ⟨g, 0, none⟩) (pre.length + 1) c) (pre ++ [s']) ∧ w.grownBy (w.setCell ⟨g, pre.length * 5 + i, none⟩ u) (some g) := by
  have hown := h.own
  rw [List.length_append, List.length_singleton] at hown
  obtain ⟨h1, h2⟩ := hown.stored (pre.length * 5 + i) u
  rw [fl_last_set scl_len pre s s' hc] at h1
  have hoff : ∀ t ∈ pre ++ [s'], ∀ q, t.v.ownBlock = some q → q ≠ g := fun t ht q e => by
    rcases List.mem_append.1 ht with ht | ht
    · exact fun e2 => h.off t (List.mem_append_left _ ht) q e (by rw [e2]; rfl)
    · rw [List.mem_singleton.1 ht] at e
      exact ho q e
  refine ⟨⟨by rw [List.length_append, List.length_singleton]; exact h1, fun t ht => ?_, fun t ht q e e2 => ?_, ?_⟩, h2⟩
  · have hk : t.v.ownBlock = none ∨ t.v.ownBlock ≠ some g := by
      cases e : t.v.ownBlock with
      | none => exact .inl rfl
      | some q => exact .inr fun e2 => hoff t ht q e (by injection e2)
    rcases List.mem_append.1 ht with ht | ht
    · exact (h.dat t (List.mem_append_left _ ht)).kept h2 hk
    · rw [List.mem_singleton.1 ht] at hk ⊢
      exact hd.kept h2 hk
  · have e3 : g = q := by injection e2
    exact hoff t ht q e e3.symm
  · refine List.pairwise_append.2 ⟨(List.pairwise_append.1 h.apart).1, List.pairwise_singleton _ _, fun a ha2 t ht => ?_⟩
    rw [List.mem_singleton.1 ht]
    exact ha a ha2
theorem SR.last_off {g n c : Nat} (h : SR w b (.slice (some ⟨g, 0, none⟩) n c) (pre ++ [s])) : ∀ q, s.v.ownBlock = some q → q ≠ g := fun q e e2 => h.off s (by simp) q e (by rw [e2]; rfl)
theorem SR.last_apart (h : SR w b v (pre ++ [s])) : ∀ t ∈ pre, Apart2 t.v s.v := fun t ht => (List.pairwise_append.1 h.apart).2.2 t ht s (by simp)
/-- .. another TTL. -/
theorem SR.ttl {g c : Nat} (h : SR w b (.slice (some ⟨g, 0, none⟩) (pre.length + 1) c) (pre ++ [s])) (t : Nat) :
    SR (w.setCell ⟨g, pre.length * 5 + 3, none⟩ (.int .u32 t)) b (.slice (some ⟨g, 0, none⟩) (pre.length + 1) c) (pre ++ [⟨s.k, t, s.v, s.ds⟩]) ∧ w.grownBy (w.setCell ⟨g, pre.length * 5 + 3, none⟩ (.int .u32 t)) (some g) :=
  h.cell ⟨s.k, t, s.v, s.ds⟩ rfl (h.dat s (by simp)) h.last_off h.last_apart
/-- .. data more. -/
theorem SR.data {g c : Nat} (h : SR w b (.slice (some ⟨g, 0, none⟩) (pre.length + 1) c) (pre ++ [s])) {d : Dv} (ho : w'.ownsRow b 41 8 v' (s.ds.length + 1) (fl dcl (s.ds ++ [d]))) (hg : w.grownBy w' s.v.ownBlock) (hv : v'.ownBlock = s.v.ownBlock ∨ v'.ownBlock = some w.heap.size) :
    SR (w'.setCell ⟨g, pre.length * 5 + 4, none⟩ v') b (.slice (some ⟨g, 0, none⟩) (pre.length + 1) c) (pre ++ [⟨s.k, s.ttl, v', s.ds ++ [d]⟩]) ∧ w'.grownBy (w'.setCell ⟨g, pre.length * 5 + 4, none⟩ v') (some g) := by
  have hgl : g < w.heap.size := (h.own.lt g rfl).2
  have hsv := h.last_off
  have hrow : ∀ t ∈ pre, t.v.ownBlock = none ∨ t.v.ownBlock ≠ s.v.ownBlock := fun t ht => by
    cases e : t.v.ownBlock with
    | none => exact .inl rfl
    | some q => exact .inr fun e2 => h.last_apart t ht q e e2.symm
  have hown : w'.ownsRow b 30 5 (.slice (some ⟨g, 0, none⟩) (pre.length + 1) c) (pre ++ [s]).length (fl Sx.cells (pre ++ [s])) := h.own.kept hg (by
    right
    intro e
    exact hsv g e.symm rfl)
  rw [List.length_append, List.length_singleton] at hown
  obtain ⟨h2, h3⟩ := hown.stored (pre.length * 5 + 4) v'
  rw [fl_last_set scl_len pre s ⟨s.k, s.ttl, v', s.ds ++ [d]⟩ rfl] at h2
  have hvg : ∀ q, v'.ownBlock = some q → q ≠ g := fun q e e2 => by
    rcases hv with hv | hv
    · exact hsv q (hv.symm.trans e) e2
    · rw [hv] at e
      injection e with e
      omega
  have hap : ∀ t ∈ pre, Apart2 t.v v' := fun t ht q e e2 => by
    rcases hv with hv | hv
    · exact h.last_apart t ht q e (hv.symm.trans e2)
    · rw [hv] at e2
      injection e2 with e2
      have := ((h.dat t (List.mem_append_left _ ht)).lt q e).2
      omega
  have hoff : ∀ t ∈ pre, ∀ q, t.v.ownBlock = some q → q ≠ g := fun t ht q e e2 => h.off t (List.mem_append_left _ ht) q e (by rw [e2]; rfl)
  refine ⟨⟨by rw [List.length_append, List.length_singleton]; exact h2, fun t ht => ?_, fun t ht q e e2 => ?_, ?_⟩, h3⟩
  · rcases List.mem_append.1 ht with ht | ht
    · refine ((h.dat t (List.mem_append_left _ ht)).kept hg (hrow t ht)).kept h3 ?_
      cases e : t.v.ownBlock with
      | none => exact .inl rfl
      | some q => exact .inr fun e2 => hoff t ht q e (by injection e2)
    · rw [List.mem_singleton.1 ht]
      have h5 : w'.ownsRow b 41 8 v' (s.ds ++ [d]).length (fl dcl (s.ds ++ [d])) := by rw [List.length_append, List.length_singleton]; exact ho
      refine h5.kept h3 ?_
      cases e : v'.ownBlock with
      | none => exact .inl rfl
      | some q => exact .inr fun e2 => hvg q e (by injection e2)
  · have e3 : g = q := by injection e2
    rcases List.mem_append.1 ht with ht | ht
    · exact hoff t ht q e e3.symm
    · rw [List.mem_singleton.1 ht] at e
      exact hvg q e e3.symm
  · refine List.pairwise_append.2 ⟨(List.pairwise_append.1 h.apart).1, List.pairwise_singleton _ _, fun a ha2 t ht => ?_⟩
    rw [List.mem_singleton.1 ht]
    exact hap a ha2
/-- a row of data of its own, as a set has it. -/
theorem own_setAt {lo : Nat} (h : w.ownsRow b 41 8 s.v s.ds.length (fl dcl s.ds)) (h0 : 0 < s.ds.length) (hlo : lo ≤ b) : SetAt w lo w.heap.size s := by
  obtain ⟨g, cp, cur, hv, hc, hb, hlt, hg, ht⟩ := ownK_pos h h0
  refine ⟨g, cp, hv, hc, Nat.le_trans hlo hb, hlt, fun j hj i u hu => ?_⟩
  have hi : i < 8 := by rw [← dcl_len s.ds[j]]; exact (List.getElem?_eq_some_iff.1 hu).1
  rw [cell_of_row w g _ cur _ (0, 0) hg, Nat.zero_add]
  exact take_at ht (by rw [fl_get dcl_len s.ds hj hi, hu])
theorem SR.ends (h : SR w b v out) {lo : Nat} (hlo : lo ≤ b) (hok : ∀ s ∈ out, s.k.nm.size ≤ 140737488355328 ∧ ∀ d ∈ s.ds, d.short) (hs : ∀ s ∈ out, 0 < s.ds.length) : SetsAt w lo w.heap.size v out := by
  obtain ⟨A, c, hv, hc, hS⟩ := Own.srow scl_len h.own
  refine ⟨A, c, hv, hc, hS.more hlo (Nat.le_refl _), fun s hs2 => ⟨own_setAt (h.dat s hs2) (hs s hs2) hlo, (hok s hs2).1, ?_, (hok s hs2).2⟩⟩
  obtain ⟨ad, cp, hv2, _⟩ := ownK_form (h.dat s hs2)
  rw [hv2]
  rfl
end
end Go.Proofs.YtmieakkhpkclpaaDoor
/- The document's Sets, record by record. Nothing of the program. -/
namespace Go.Proofs.YtmieakkhpkclpaaDoor
open Go.RowKit Go.Sort Go.Shelf

/-- data more, but the last one again. -/
def cpD (l : List Dv) (d : Dv) : List Dv := if l.getLast? = some d then l else l ++ [d]
theorem cpD_dt (l : List Dv) (d : Dv) : (cpD l d).map Dv.dt = Rr.cp1 (l.map Dv.dt) d.dt := by
  unfold cpD Rr.cp1
  rw [List.getLast?_map]
  by_cases h : l.getLast? = some d
  · rw [if_pos h, if_pos (by rw [h]; rfl)]
  · rw [if_neg h, if_neg, List.map_append]
    · rfl
    · intro e
      obtain ⟨y, hy, hyd⟩ := Option.map_eq_some_iff.1 e
      exact h (by rw [hy, dv_dt hyd])
/-- the first i records make these sets. -/
structure SM (S : List Rv) (i : Nat) (out : List Sx) : Prop where
  is_ : out.map Sx.st = ((S.take i).map Rv.rc).foldl Rr.put1 []
  ok : ∀ s ∈ out, s.k.nm.size ≤ 140737488355328 ∧ ∀ d ∈ s.ds, d.short
  some_ : ∀ s ∈ out, 0 < s.ds.length
/-- .. and one more is being put into the last one. -/
structure SN (S : List Rv) (i : Nat) (pre : List Sx) (x : Sx) (r : Rv) : Prop where
  is_ : ((S.take (i + 1)).map Rv.rc).foldl Rr.put1 [] = pre.map Sx.st ++ [⟨x.k.ky, min x.ttl r.ttl, Rr.cp1 (x.ds.map Dv.dt) r.d.dt⟩]
  ok : ∀ s ∈ pre ++ [x], s.k.nm.size ≤ 140737488355328 ∧ ∀ d ∈ s.ds, d.short
  some_ : ∀ s ∈ pre, 0 < s.ds.length
section
variable {S : List Rv} {i : Nat} {out pre : List Sx} {x : Sx} {r : Rv}
theorem SM.nil (S : List Rv) : SM S 0 [] := ⟨rfl, by simp, by simp⟩
theorem SM.step (h : SM S i out) (hr : S[i]? = some r) : ((S.take (i + 1)).map Rv.rc).foldl Rr.put1 [] = Rr.put1 (out.map Sx.st) r.rc := by
  obtain ⟨hi, he⟩ := List.getElem?_eq_some_iff.1 hr
  rw [List.take_succ_eq_append_getElem hi, List.map_append, List.foldl_append, ← h.is_, he]
  rfl
theorem SM.push (h : SM S i out) (hr : S[i]? = some r) (hs : r.nm.size ≤ 140737488355328) (hk : ∀ y, out.getLast? = some y → y.k ≠ r.kv) (v : Value) : SN S i out ⟨r.kv, r.ttl, v, []⟩ r := by
  refine ⟨?_, fun s hs2 => ?_, h.some_⟩
  · rw [h.step hr]
    have e : (⟨r.kv.ky, min r.ttl r.ttl, Rr.cp1 (([] : List Dv).map Dv.dt) r.d.dt⟩ : Rr.St) = ⟨r.rc.ky, r.rc.ttl, [r.rc.d]⟩ := by
      rw [Nat.min_self]
      rfl
    show _ = _ ++ [(⟨r.kv.ky, min r.ttl r.ttl, Rr.cp1 (([] : List Dv).map Dv.dt) r.d.dt⟩ : Rr.St)]
    rw [e]
    unfold Rr.put1
    rw [List.getLast?_map]
    cases hl : out.getLast? with
    | none =>
      rw [List.getLast?_eq_none_iff] at hl
      rw [hl]
      rfl
    | some y =>
      rw [Option.map_some]
      simp only
      rw [if_neg]
      intro e2
      exact hk y hl (kv_ky e2)
  · rcases List.mem_append.1 hs2 with hs2 | hs2
    · exact h.ok s hs2
    · rw [List.mem_singleton.1 hs2]
      exact ⟨hs, by simp⟩
theorem SM.last (h : SM S i (pre ++ [x])) (hr : S[i]? = some r) (hk : x.k = r.kv) : SN S i pre x r := by
  refine ⟨?_, h.ok, fun s hs => h.some_ s (List.mem_append_left _ hs)⟩
  rw [h.step hr]
  unfold Rr.put1
  rw [List.map_append, List.map_cons, List.map_nil, List.getLast?_concat]
  simp only
  rw [if_pos (show x.st.ky = r.rc.ky from congrArg Kv.ky hk), List.dropLast_concat]
  rfl
theorem SN.next (h : SN S i pre x r) (hd : r.d.short) (y : Sx) (h1 : y.k = x.k) (h2 : y.ttl = min x.ttl r.ttl) (h3 : y.ds = cpD x.ds r.d) : SM S (i + 1) (pre ++ [y]) := by
  have hx := h.ok x (by simp)
  have hmem : ∀ d ∈ cpD x.ds r.d, d = r.d ∨ d ∈ x.ds := fun d hd2 => by
    unfold cpD at hd2
    split at hd2
    · exact .inr hd2
    · rcases List.mem_append.1 hd2 with h' | h'
      · exact .inr h'
      · exact .inl (List.mem_singleton.1 h')
  refine ⟨?_, fun s hs => ?_, fun s hs => ?_⟩
  · rw [h.is_, List.map_append, List.map_cons, List.map_nil]
    unfold Sx.st
    rw [h1, h2, h3, cpD_dt]
  · rcases List.mem_append.1 hs with hs | hs
    · exact h.ok s (List.mem_append_left _ hs)
    · rw [List.mem_singleton.1 hs, h1, h3]
      refine ⟨hx.1, fun d hd2 => ?_⟩
      rcases hmem d hd2 with e | e
      · rw [e]; exact hd
      · exact hx.2 d e
  · rcases List.mem_append.1 hs with hs | hs
    · exact h.some_ s hs
    · rw [List.mem_singleton.1 hs, h3]
      unfold cpD
      split
      · rename_i e
        exact List.length_pos_of_mem (List.mem_of_getLast? e)
      · simp
end
/-- all records of what Sort leaves: the sets. -/
theorem SM.all {l S : List Rv} {out : List Sx} (h : SM S S.length out) (hs : Srtd l S) : out.map Sx.st = Rr.sets (fcs l) := by
  rw [h.is_, List.take_of_length_le (Nat.le_refl _), Rr.put_all hs.2]
  exact Rr.sets_perm (hs.1.map _)
end Go.Proofs.YtmieakkhpkclpaaDoor
/- Sets in the making: what stands in the last one. -/
namespace Go.Proofs.YtmieakkhpkclpaaDoor
open Go.RowKit Go.Sort Go.Shelf

theorem nil_or_last {α : Type} (l : List α) : l = [] ∨ ∃ pre x, l = pre ++ [x] := by
  rcases List.eq_nil_or_concat l with h | ⟨a, b, h⟩
  · exact .inl h
  · exact .inr ⟨a, b, by simpa using h⟩
section
variable {w w' : World} {b : Nat} {v : Value} {out pre : List Sx} {y : Sx}
theorem SR.last_form (h : SR w b v (pre ++ [y])) : ∃ g c, v = .slice (some ⟨g, 0, none⟩) (pre.length + 1) c ∧ b ≤ g ∧ g < w.heap.size ∧ (∀ i u, (Sx.cells y)[i]? = some u → w.cell? ⟨g, pre.length * 5 + i, none⟩ = some u) ∧ ∀ i, w.frozen? ⟨g, i, none⟩ = false := by
  have ho := h.own
  rw [List.length_append, List.length_singleton] at ho
  obtain ⟨g, cp, cur, hv, hc, hb, hlt, hg, ht⟩ := ownK_pos ho (by omega)
  refine ⟨g, cp, hv, hb, hlt, fun i u hu => ?_, fun i => frozen_of_row w g i cur _ hg⟩
  have hi : i < 5 := by rw [← scl_len y]; exact (List.getElem?_eq_some_iff.1 hu).1
  rw [cell_of_row w g _ cur _ (0, 0) hg]
  refine take_at ht ?_
  rw [fl_get scl_len (pre ++ [y]) (j := pre.length) (by simp) hi]
  simpa using hu
theorem SR.data_form (h : SR w b v (pre ++ [y])) : (y.ds = [] ∧ ∃ A c, y.v = .slice A 0 c) ∨ ∃ dp dl g c, y.ds = dp ++ [dl] ∧ y.v = .slice (some ⟨g, 0, none⟩) (dp.length + 1) c ∧ ∀ i u, (dcl dl)[i]? = some u → w.cell? ⟨g, dp.length * 8 + i, none⟩ = some u := by
  have ho := h.dat y (by simp)
  rcases nil_or_last y.ds with h0 | ⟨dp, dl, h0⟩
  · obtain ⟨A, c, e, _⟩ := ownK_form ho
    rw [h0] at e
    exact .inl ⟨h0, A, c, e⟩
  · rw [h0, List.length_append, List.length_singleton] at ho
    obtain ⟨g, cp, cur, hv, hc, hb, hlt, hg, ht⟩ := ownK_pos ho (by omega)
    refine .inr ⟨dp, dl, g, cp, h0, hv, fun i u hu => ?_⟩
    have hi : i < 8 := by rw [← dcl_len dl]; exact (List.getElem?_eq_some_iff.1 hu).1
    rw [cell_of_row w g _ cur _ (0, 0) hg]
    refine take_at ht ?_
    rw [fl_get dcl_len (dp ++ [dl]) (j := dp.length) (by simp) hi]
    simpa using hu
theorem SR.up (h : SR w b v out) (hb : Below w.heap.size w w') : SR w' b v out := h.below hb (Nat.le_refl _)
theorem SR.under (h : SR w b v (pre ++ [y])) {g n c : Nat} (hv : v = .slice (some ⟨g, 0, none⟩) n c) : b ≤ g := (h.own.lt g (by rw [hv]; rfl)).1
end
theorem cpD_nil (d : Dv) : cpD [] d = [d] := rfl
theorem cpD_same {l : List Dv} {d : Dv} : cpD (l ++ [d]) d = l ++ [d] := by rw [cpD, List.getLast?_concat, if_pos rfl]
theorem cpD_other {l : List Dv} {c d : Dv} (h : c ≠ d) : cpD (l ++ [c]) d = l ++ [c] ++ [d] := by
  rw [cpD, List.getLast?_concat, if_neg]
  intro e
  injection e with e
  exact h e
theorem cpD_len (l : List Dv) (d : Dv) : (cpD l d).length ≤ l.length + 1 := by
  unfold cpD
  split
  · omega
  · simp
end Go.Proofs.YtmieakkhpkclpaaDoor
