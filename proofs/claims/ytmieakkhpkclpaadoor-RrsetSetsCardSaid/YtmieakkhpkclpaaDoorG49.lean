/- Texts of the proofs, merged. -/
import Derived.Test.YtmieakkhpkclpaaDoorG33
import Derived.Test.YtmieakkhpkclpaaDoorG29
import Derived.Test.YtmieakkhpkclpaaDoorG34
import Derived.Test.YtmieakkhpkclpaaDoorG22
/- RrsetSet: what is turned round, sorted twice, and the records of all sets. Nothing of the program. -/
namespace Go.Proofs.YtmieakkhpkclpaaDoor
open Go.RowKit Go.Sort Go.Shelf

theorem small_small (c : UInt8) : Nm.small (Nm.small c) = Nm.small c := by
  unfold Nm.small
  by_cases h : 65 ≤ c ∧ c ≤ 90
  · rw [if_pos h, if_neg]
    intro h2
    have e : (c + 32).toNat = (c.toNat + 32) % 256 := UInt8.toNat_add c 32
    have a1 : 65 ≤ c.toNat := h.1
    have a2 : c.toNat ≤ 90 := h.2
    have a3 : (c + 32).toNat ≤ 90 := h2.2
    omega
  · rw [if_neg h, if_neg h]
theorem nm_fold2 (l : List UInt8) : Nm.fold (Nm.fold l) = Nm.fold l := by
  unfold Nm.fold
  rw [List.map_map]
  exact List.map_congr_left fun c _ => small_small c
theorem dv_fold2 (t : Nat) (d : Dv) : (d.fold t).fold t = d.fold t := by
  obtain ⟨r, h, m, n0, n1, n2, n3, n4⟩ := d
  unfold Dv.fold
  simp only
  by_cases h1 : Rd.isHost t = true
  · by_cases h2 : Rd.isMail t = true
    · simp only [if_pos h1, if_pos h2, nm_fold2]
    · simp only [if_pos h1, if_neg h2, nm_fold2]
  · by_cases h2 : Rd.isMail t = true
    · simp only [if_neg h1, if_pos h2, nm_fold2]
    · simp only [if_neg h1, if_neg h2]
theorem rv_fold2 (r : Rv) : r.fold.fold = r.fold := by
  obtain ⟨nm, ty, cl, ttl, d⟩ := r
  unfold Rv.fold
  simp only [nm_fold2, dv_fold2]
theorem rc_inj {l m : List Rv} (h : l.map Rv.rc = m.map Rv.rc) : l = m := by
  revert m
  induction l with
  | nil => intro m h; cases m with
    | nil => rfl
    | cons => cases h
  | cons x l ih =>
    intro m h
    cases m with
    | nil => cases h
    | cons y m =>
      rw [List.map_cons, List.map_cons] at h
      injection h with h1 h2
      rw [rv_rc h1, ih h2]
theorem fcs_perm {l m : List Rv} (h : l.Perm m) : (fcs l).Perm (fcs m) := (h.map _).map _
theorem fcs_folded {l : List Rv} (h : ∀ r ∈ l, r.fold = r) : fcs l = l.map Rv.rc := by
  unfold fcs
  rw [List.map_map]
  exact List.map_congr_left fun r hr => by rw [Function.comp_apply, h r hr]
theorem folded_of {l rs : List Rv} (h : l.Perm (rs.map Rv.fold)) : ∀ r ∈ l, r.fold = r := fun r hr => by
  obtain ⟨q, _, rfl⟩ := List.mem_map.1 (h.mem_iff.1 hr)
  exact rv_fold2 q
/-- what Sort leaves is one list. -/
def Srtd (rs l : List Rv) : Prop := l.Perm (rs.map Rv.fold) ∧ Rr.Up Rr.cmpR (l.map Rv.rc)
theorem Srtd.is {rs l : List Rv} (h : Srtd rs l) : l.map Rv.rc = Rr.sort Rr.cmpR (fcs rs) :=
  (Rr.sort_of Rr.od_cmpR Rr.cmpR_zero (h.1.map _) h.2).symm
theorem Srtd.one {rs qs l m : List Rv} (h : Srtd rs l) (k : Srtd qs m) (hp : rs.Perm qs) : l = m :=
  rc_inj (by rw [h.is, k.is, Rr.sort_perm_eq Rr.od_cmpR Rr.cmpR_zero (fcs_perm hp)])
theorem Srtd.again {rs l m : List Rv} (h : Srtd rs l) (k : Srtd l m) : l = m := by
  refine rc_inj ?_
  rw [k.is, fcs_folded (folded_of h.1)]
  exact (Rr.sort_of Rr.od_cmpR Rr.cmpR_zero (List.Perm.refl _) h.2).symm
theorem Srtd.len {rs l : List Rv} (h : Srtd rs l) : l.length = rs.length := by rw [h.1.length_eq, List.length_map]
theorem Srtd.step {rs l : List Rv} (h : Srtd rs l) {i : Nat} (hi : i + 1 < l.length) : Rr.cmpR (l[i]'(by omega)).fold.rc (l[i + 1]'hi).fold.rc ≤ 0 := by
  rw [folded_of h.1 _ (List.getElem_mem _), folded_of h.1 _ (List.getElem_mem _)]
  have := List.pairwise_iff_getElem.1 h.2 i (i + 1) (by rw [List.length_map]; omega) (by rw [List.length_map]; omega) (by omega)
  simpa using this
/-- a list turned round, from a place on. -/
def turn (l : List Rv) (k a : Nat) : List Rv := ((List.range k).map fun i => l[(i + a) % l.length]!)
theorem turn_all (l : List Rv) (a : Nat) : (turn l l.length a).Perm l := by
  rcases Nat.eq_zero_or_pos l.length with h0 | h0
  · have := List.eq_nil_of_length_eq_zero h0
    subst this
    exact List.Perm.refl _
  · have e : turn l l.length a = l.drop (a % l.length) ++ l.take (a % l.length) := by
      have hb : a % l.length < l.length := Nat.mod_lt _ h0
      unfold turn
      apply List.ext_getElem
      · simp; omega
      · intro i h1 h2
        have hi : i < l.length := by simpa using h1
        rw [List.getElem_map, List.getElem_range]
        have hm : (i + a) % l.length = (i + a % l.length) % l.length := by rw [Nat.add_mod, Nat.mod_eq_of_lt hi]
        rw [hm]
        by_cases hc : i + a % l.length < l.length
        · rw [Nat.mod_eq_of_lt hc, getElem!_pos l _ hc, List.getElem_append_left (by rw [List.length_drop]; omega), List.getElem_drop]
          congr 1
          omega
        · have hm2 : (i + a % l.length) % l.length = i + a % l.length - l.length := by
            rw [Nat.mod_eq_sub_mod (by omega), Nat.mod_eq_of_lt (by omega)]
          rw [hm2, getElem!_pos l _ (by omega), List.getElem_append_right (by rw [List.length_drop]; omega), List.getElem_take]
          congr 1
          rw [List.length_drop]
          omega
    rw [e]
    exact List.perm_append_comm.trans (by rw [List.take_append_drop])
theorem turn_succ (l : List Rv) (k a : Nat) : turn l (k + 1) a = turn l k a ++ [l[(k + a) % l.length]!] := by
  unfold turn
  rw [List.range_succ, List.map_append]
  rfl
/-- the last k of a list, turned round, from behind. -/
def turnB (l : List Rv) (k a : Nat) : List Rv := ((List.range l.length).reverse.map fun i => l[(i + a) % l.length]!).take k
theorem turnB_all (l : List Rv) (a : Nat) : (turnB l l.length a).Perm l := by
  have e : turnB l l.length a = (turn l l.length a).reverse := by
    unfold turnB turn
    rw [List.take_of_length_le (by simp), List.map_reverse]
  rw [e]
  exact (List.reverse_perm _).trans (turn_all l a)
theorem turnB_succ (l : List Rv) (k a : Nat) (h : k < l.length) : turnB l (k + 1) a = turnB l k a ++ [l[(l.length - 1 - k + a) % l.length]'(Nat.mod_lt _ (by omega))] := by
  unfold turnB
  rw [List.take_succ_eq_append_getElem (by simpa using h), List.getElem_map, List.getElem_reverse, List.getElem_range]
  congr 1
  rw [List.length_range, getElem!_pos]
theorem turnB_len (l : List Rv) (k a : Nat) (h : k ≤ l.length) : (turnB l k a).length = k := by
  unfold turnB
  simp
  omega
/-- a set's records. -/
def Sx.recs (s : Sx) : List Rv := s.ds.map fun d => ⟨s.k.nm, s.k.ty, s.k.cl, s.ttl, d⟩
theorem recs_rc (s : Sx) : s.recs.map Rv.rc = Rr.recs s.st := by
  unfold Sx.recs Rr.recs Sx.st
  simp only [List.map_map]
  exact List.map_congr_left fun d _ => rfl
theorem all_rc (ls : List Sx) : (ls.flatMap Sx.recs).map Rv.rc = (ls.map Sx.st).flatMap Rr.recs := by
  rw [List.map_flatMap, List.flatMap_map]
  congr 1
  exact funext fun s => recs_rc s
theorem all_is {rs : List Rv} {ls : List Sx} (h : ls.map Sx.st = Rr.sets (fcs rs)) : (ls.flatMap Sx.recs).map Rv.rc = Rr.all (fcs rs) := by
  rw [all_rc, h]
  rfl
theorem all_folded {rs : List Rv} {ls : List Sx} (h : ls.map Sx.st = Rr.sets (fcs rs)) : ∀ r ∈ ls.flatMap Sx.recs, r.fold = r := fun r hr => by
  have h1 : r.rc ∈ Rr.all (fcs rs) := by rw [← all_is h]; exact List.mem_map_of_mem hr
  obtain ⟨h2, _, h4⟩ := Rr.all_mem.1 h1
  obtain ⟨q, hq, hqd⟩ := Rr.grp_mem.1 h4
  obtain ⟨hq1, hq2⟩ := Rr.ofKey_mem.1 hq
  obtain ⟨p, hp, rfl⟩ := List.mem_map.1 hq1
  obtain ⟨o, ho, rfl⟩ := List.mem_map.1 hp
  have e1 : o.fold.kv = r.kv := kv_ky hq2
  have e2 : o.fold.d = r.d := dv_dt hqd
  have e3 := rv_fold2 o
  obtain ⟨nm, ty, cl, ttl, d⟩ := r
  have f := e1
  unfold Rv.kv at f
  injection f with f1 f2 f3
  simp only at f1 f2 f3 e2
  unfold Rv.fold
  simp only
  have g1 : (⟨(Nm.fold nm.data.toList).toArray⟩ : ByteArray) = nm := by
    rw [← f1]
    exact congrArg Rv.nm e3
  have g2 : d.fold ty = d := by
    rw [← e2, ← f2]
    exact congrArg Rv.d e3
  rw [g1, g2]
theorem all_fcs {rs : List Rv} {ls : List Sx} (h : ls.map Sx.st = Rr.sets (fcs rs)) : fcs (ls.flatMap Sx.recs) = Rr.all (fcs rs) := by
  rw [fcs_folded (all_folded h), all_is h]
theorem sx_eq {s t : Sx} (h : s.st = t.st) : s.k = t.k ∧ s.ttl = t.ttl ∧ s.ds = t.ds := by
  unfold Sx.st at h
  injection h with h1 h2 h3
  refine ⟨kv_ky h1, h2, ?_⟩
  have H : ∀ (l m : List Dv), l.map Dv.dt = m.map Dv.dt → l = m := by
    intro l
    induction l with
    | nil => intro m h; cases m with
      | nil => rfl
      | cons => cases h
    | cons x l ih =>
      intro m h
      cases m with
      | nil => cases h
      | cons y m =>
        rw [List.map_cons, List.map_cons] at h
        injection h with h1 h2
        rw [dv_dt h1, ih _ h2]
  exact H _ _ h3
/-- keys rise, no set is empty, data rise. -/
theorem keys_step {rs : List Rv} {ls : List Sx} (h : ls.map Sx.st = Rr.sets (fcs rs)) {i : Nat} (hi : i + 1 < ls.length) : Rr.cmpK (ls[i]'(by omega)).k.ky (ls[i + 1]'hi).k.ky < 0 := by
  have h1 := Rr.sets_lt (fcs rs)
  rw [← h, List.map_map] at h1
  have := List.pairwise_iff_getElem.1 h1 i (i + 1) (by rw [List.length_map]; omega) (by rw [List.length_map]; omega) (by omega)
  have h2 : Rr.cmpK (ls[i]'(by omega)).st.ky (ls[i + 1]'hi).st.ky < 0 := by simpa using this
  exact h2
theorem ds_some {rs : List Rv} {ls : List Sx} (h : ls.map Sx.st = Rr.sets (fcs rs)) {s : Sx} (hs : s ∈ ls) : 0 < s.ds.length := by
  have := (Rr.sets_some (F := fcs rs) (x := s.st) (by rw [← h]; exact List.mem_map_of_mem hs)).1
  rcases hd : s.ds with _ | ⟨x, r⟩
  · unfold Sx.st at this
    rw [hd] at this
    exact absurd rfl this
  · simp
theorem ds_step {rs : List Rv} {ls : List Sx} (h : ls.map Sx.st = Rr.sets (fcs rs)) {s : Sx} (hs : s ∈ ls) {i : Nat} (hi : i + 1 < s.ds.length) : Rr.cmpD (s.ds[i]'(by omega)).dt (s.ds[i + 1]'hi).dt < 0 := by
  have h1 := (Rr.sets_some (F := fcs rs) (x := s.st) (by rw [← h]; exact List.mem_map_of_mem hs)).2
  have := List.pairwise_iff_getElem.1 h1 i (i + 1) (by show i < (s.ds.map Dv.dt).length; rw [List.length_map]; omega) (by show i + 1 < (s.ds.map Dv.dt).length; rw [List.length_map]; omega) (by omega)
  unfold Sx.st at this
  simpa using this
end Go.Proofs.YtmieakkhpkclpaaDoor
/- Sort: the program's. -/
namespace Go.Proofs.YtmieakkhpkclpaaDoor
open Go.RowKit Go.Sort Go.Shelf

theorem has_holds {α : Type} [Inhabited α] {enc : α → List Value} {k : Nat} {w : World} {g : Nat} {t : TypeId} {d : Array α} (h : Has w g t (flatK enc k d)) : HoldsK enc k w g 0 d := fun j hj => by
  refine ⟨?_, h.free _⟩
  rw [h.cell, Nat.zero_add, getElem!_pos _ j hj, Array.getElem?_eq_getElem hj]
  rfl
end Go.Proofs.YtmieakkhpkclpaaDoor
/- A list turned round: the statement's. -/
namespace Go.Proofs.YtmieakkhpkclpaaDoor
open Go.RowKit Go.Sort Go.Shelf

end Go.Proofs.YtmieakkhpkclpaaDoor
