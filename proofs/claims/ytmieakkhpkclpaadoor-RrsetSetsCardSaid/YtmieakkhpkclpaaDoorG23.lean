/- Texts of the proofs, merged. -/
import Derived.Test.YtmieakkhpkclpaaDoorG21
import Derived.Test.YtmieakkhpkclpaaDoorG6
import Derived.Test.YtmieakkhpkclpaaDoorG19
/- Gathering by keys, and the sets of it. Nothing of the program. -/
namespace Go.Proofs.YtmieakkhpkclpaaDoor
open Go.RowKit Go.Sort Go.Shelf

section
variable {α : Type} [Inhabited α] {c : α → α → Int} {d d' : Array α}
theorem perm_of (h : PermIn 0 d.size d d') : d'.size = d.size ∧ d'.toList.Perm d.toList := by
  obtain ⟨hs, _, hp⟩ := h
  have e1 : d'.extract 0 d.size = d' := by rw [← hs]; exact Array.extract_size
  rw [e1, Array.extract_size] at hp
  exact ⟨hs, hp⟩
theorem up_of (hc : ∀ a b, c a b = - c b a) (h : SortedIn (ltOf c) 0 d.size d') (hs : d'.size = d.size) : Rr.Up c d'.toList := by
  refine List.pairwise_iff_getElem.2 fun i j hi hj hij => ?_
  have hj' : j < d'.size := by simpa using hj
  have := h i j (Nat.zero_le _) hij (by omega)
  rw [getElem!_pos d' j hj', getElem!_pos d' i (by omega)] at this
  unfold ltOf at this
  simp only [decide_eq_false_iff_not] at this
  have := hc d'[i] d'[j]
  rw [Array.getElem_toList, Array.getElem_toList]
  omega
end
theorem ba_list {a b : ByteArray} (h : a.data.toList = b.data.toList) : a = b := by
  obtain ⟨x⟩ := a
  obtain ⟨y⟩ := b
  exact congrArg ByteArray.mk (Array.toList_inj.1 h)
theorem kv_ky {a b : Kv} (h : a.ky = b.ky) : a = b := by
  obtain ⟨n, t, c⟩ := a
  obtain ⟨n', t', c'⟩ := b
  unfold Kv.ky at h
  injection h with h1 h2 h3
  have := ba_list h1
  simp only at h2 h3
  subst this h2 h3
  rfl
theorem dv_dt {a b : Dv} (h : a.dt = b.dt) : a = b := by
  obtain ⟨r, h1, m, n0, n1, n2, n3, n4⟩ := a
  obtain ⟨r', h1', m', n0', n1', n2', n3', n4'⟩ := b
  unfold Dv.dt at h
  injection h with e1 e2 e3 e4 e5 e6 e7 e8
  have := ba_list e1
  have := ba_list e2
  have := ba_list e3
  simp only at e4 e5 e6 e7 e8
  subst_vars
  rfl
theorem rv_rc {a b : Rv} (h : a.rc = b.rc) : a = b := by
  obtain ⟨n, t, c, l, d⟩ := a
  obtain ⟨n', t', c', l', d'⟩ := b
  unfold Rv.rc at h
  injection h with e1 e2 e3
  have h1 := kv_ky e1
  have h2 := dv_dt e3
  simp only at e2 h2
  unfold Rv.kv at h1
  injection h1 with f1 f2 f3
  simp only at f1 f2 f3
  subst_vars
  rfl
instance : DecidableEq Kv := fun a b => decidable_of_iff (a.ky = b.ky) ⟨kv_ky, fun h => by rw [h]⟩
instance : DecidableEq Dv := fun a b => decidable_of_iff (a.dt = b.dt) ⟨dv_dt, fun h => by rw [h]⟩
instance : DecidableEq Rv := fun a b => decidable_of_iff (Rr.cmpR a.rc b.rc = 0) ⟨fun h => rv_rc (Rr.cmpR_zero.1 h), fun h => Rr.cmpR_zero.2 (by rw [h])⟩
/-- the records of a key. -/
def own1 (R : List Rv) (k : Kv) : List Rv := R.filter fun r => decide (r.kv = k)
theorem own1_snoc (R : List Rv) (r : Rv) (k : Kv) : own1 (R ++ [r]) k = if r.kv = k then own1 R k ++ [r] else own1 R k := by
  unfold own1
  rw [List.filter_append]
  split
  · rename_i h; simp [h]
  · rename_i h; simp [h]
theorem own1_rc (R : List Rv) (k : Kv) : (own1 R k).map Rv.rc = Rr.ofKey (R.map Rv.rc) k.ky := by
  unfold own1 Rr.ofKey
  rw [List.filter_map]
  congr 1
  apply List.filter_congr
  intro r _
  simp only [Function.comp_apply, decide_eq_decide]
  exact ⟨fun h => by rw [← h]; rfl, fun h => kv_ky h⟩
theorem own1_none {R : List Rv} {k : Kv} (h : ∀ r ∈ R, r.kv ≠ k) : own1 R k = [] := by
  unfold own1
  rw [List.filter_eq_nil_iff]
  intro r hr
  simpa using h r hr
/-- an entry of the map: a key, the slice, and what that has. -/
structure En where
  k : Kv
  v : Value
  rs : List Rv
/-- what was gathered of records. -/
structure Gat (R : List Rv) (E : List En) : Prop where
  nodup : (E.map En.k).Nodup
  own : ∀ e ∈ E, e.rs = own1 R e.k
  all : ∀ r ∈ R, r.kv ∈ E.map En.k
  some_ : ∀ e ∈ E, e.rs ≠ []
/-- an entry of a key: found, or laid. -/
structure Gat1 (R : List Rv) (E : List En) (j : Nat) (k : Kv) : Prop where
  nodup : (E.map En.k).Nodup
  own : ∀ e ∈ E, e.rs = own1 R e.k
  all : ∀ r ∈ R, r.kv ∈ E.map En.k
  key : ∃ e, E[j]? = some e ∧ e.k = k
  some_ : ∀ i e, E[i]? = some e → i ≠ j → e.rs ≠ []
theorem Gat.nil : Gat [] [] := ⟨List.nodup_nil, by simp, by simp, by simp⟩
theorem Gat.found {R : List Rv} {E : List En} (h : Gat R E) {j : Nat} {e : En} (hj : E[j]? = some e) : Gat1 R E j e.k :=
  ⟨h.nodup, h.own, h.all, ⟨e, hj, rfl⟩, fun _ e hi _ => h.some_ e (List.mem_of_getElem? hi)⟩
theorem Gat.laid {R : List Rv} {E : List En} (h : Gat R E) {k : Kv} (hk : ∀ e ∈ E, e.k ≠ k) (v : Value) : Gat1 R (E ++ [⟨k, v, []⟩]) E.length k := by
  refine ⟨?_, fun e he => ?_, fun r hr => ?_, ⟨⟨k, v, []⟩, by simp, rfl⟩, fun i e hi hne => ?_⟩
  · rw [List.map_append, List.map_cons, List.map_nil, List.nodup_append]
    refine ⟨h.nodup, by simp, fun a ha b hb => ?_⟩
    rw [List.mem_singleton.1 hb]
    obtain ⟨e, he, rfl⟩ := List.mem_map.1 ha
    exact hk e he
  · rcases List.mem_append.1 he with he | he
    · exact h.own e he
    · rw [List.mem_singleton.1 he]
      refine (own1_none fun r hr hrk => ?_).symm
      obtain ⟨e, he, hek⟩ := List.mem_map.1 (h.all r hr)
      exact hk e he (by rw [hek, hrk])
  · rw [List.map_append, List.mem_append]
    exact .inl (h.all r hr)
  · have hi2 : i < (E ++ [(⟨k, v, []⟩ : En)]).length := (List.getElem?_eq_some_iff.1 hi).1
    rw [List.length_append, List.length_singleton] at hi2
    rw [List.getElem?_append_left (by omega)] at hi
    exact h.some_ e (List.mem_of_getElem? hi)
theorem Gat1.put {R : List Rv} {E : List En} {j : Nat} {r : Rv} (h : Gat1 R E j r.kv) {e : En} (he : E[j]? = some e) (v : Value) : Gat (R ++ [r]) (E.set j ⟨e.k, v, e.rs ++ [r]⟩) := by
  have hjl : j < E.length := (List.getElem?_eq_some_iff.1 he).1
  have hek : e.k = r.kv := by
    obtain ⟨e', he', hk⟩ := h.key
    rw [he] at he'
    rw [Option.some.inj he', hk]
  have hm : (E.set j ⟨e.k, v, e.rs ++ [r]⟩).map En.k = E.map En.k := by
    rw [List.map_set]
    apply List.ext_getElem?
    intro i
    rw [List.getElem?_set]
    split
    · rename_i e1
      subst e1
      rw [List.getElem?_map, he]
      simp [hjl]
    · rfl
  refine ⟨by rw [hm]; exact h.nodup, fun x hx => ?_, fun q hq => ?_, fun x hx => ?_⟩
  · obtain ⟨i, hi⟩ := List.mem_iff_getElem?.1 hx
    rw [List.getElem?_set] at hi
    split at hi
    · rename_i e1
      subst e1
      rw [← Option.some.inj hi]
      show e.rs ++ [r] = own1 (R ++ [r]) e.k
      rw [own1_snoc, if_pos hek.symm, h.own e (List.mem_of_getElem? he)]
    · rename_i hne
      rw [own1_snoc, if_neg, h.own x (List.mem_of_getElem? hi)]
      intro e2
      have h1 : (E.map En.k)[i]? = some r.kv := by rw [List.getElem?_map, hi, e2]; rfl
      have h2 : (E.map En.k)[j]? = some r.kv := by rw [List.getElem?_map, he, ← hek]; rfl
      have hil : i < (E.map En.k).length := (List.getElem?_eq_some_iff.1 h1).1
      have := (List.getElem?_inj hil h.nodup).1 (h1.trans h2.symm)
      exact hne this.symm
  · rw [hm]
    rcases List.mem_append.1 hq with hq | hq
    · exact h.all q hq
    · rw [List.mem_singleton.1 hq, ← hek]
      exact List.mem_map_of_mem (List.mem_of_getElem? he)
  · obtain ⟨i, hi⟩ := List.mem_iff_getElem?.1 hx
    rw [List.getElem?_set] at hi
    split at hi
    · rename_i e1
      subst e1
      rw [← Option.some.inj hi]
      simp
    · rename_i hne
      exact h.some_ i x hi (fun e2 => hne e2.symm)
/-- a set, as its head lies, and its data. -/
structure Sx where
  k : Kv
  ttl : Nat
  v : Value
  ds : List Dv
def Sx.cells (s : Sx) : List Value := [.string s.k.nm, .int .u16 s.k.ty, .int .u16 s.k.cl, .int .u32 s.ttl, s.v]
def Sx.st (s : Sx) : Rr.St := ⟨s.k.ky, s.ttl, s.ds.map Dv.dt⟩
/-- the set of an entry. -/
def Sx.of_ (s : Sx) (e : En) : Prop := s.k = e.k ∧ s.st = Rr.grp e.k.ky (e.rs.map Rv.rc)
/-- the sets that were made of all entries, in whatever order, put in theirs. -/
theorem sets_made {R : List Rv} {E : List En} (h : Gat R E) {seen : List Nat} {out l : List Sx} (hn : seen.Nodup) (hall : ∀ j, j < E.length → j ∈ seen) (hlen : out.length = seen.length)
    (hof : ∀ (i : Nat) (s : Sx) (j : Nat) (e : En), out[i]? = some s → seen[i]? = some j → E[j]? = some e → s.of_ e) (hin : ∀ j ∈ seen, j < E.length)
    (hp : l.Perm out) (hu : Rr.Up Rr.cmpK (l.map fun s => s.k.ky)) : l.map Sx.st = Rr.sets (R.map Rv.rc) := by
  have hks : out.map Sx.k = seen.map fun j => ((E[j]?).map En.k).getD ⟨⟨#[]⟩, 0, 0⟩ := by
    apply List.ext_getElem?
    intro i
    rw [List.getElem?_map, List.getElem?_map]
    by_cases hi : i < out.length
    · have hi2 : i < seen.length := by omega
      rw [List.getElem?_eq_getElem hi, List.getElem?_eq_getElem hi2]
      have hj := hin _ (List.getElem_mem hi2)
      have := (hof i out[i] seen[i] (E[seen[i]]'hj) (List.getElem?_eq_getElem hi) (List.getElem?_eq_getElem hi2) (List.getElem?_eq_getElem hj)).1
      simp only [Option.map_some, List.getElem?_eq_getElem hj, Option.getD_some, this]
    · rw [List.getElem?_eq_none (by omega), List.getElem?_eq_none (by omega)]
      rfl
  have hmem : ∀ s ∈ out, ∃ e ∈ E, s.of_ e := fun s hs => by
    obtain ⟨i, hi⟩ := List.mem_iff_getElem?.1 hs
    have hi2 : i < seen.length := by have := (List.getElem?_eq_some_iff.1 hi).1; omega
    have hj := hin _ (List.getElem_mem hi2)
    exact ⟨_, List.getElem_mem hj, hof i s seen[i] _ hi (List.getElem?_eq_getElem hi2) (List.getElem?_eq_getElem hj)⟩
  have hst : ∀ s : Sx, s.st.ky = s.k.ky := fun _ => rfl
  have hky : (l.map Sx.st).map Rr.St.ky = l.map fun s => s.k.ky := by rw [List.map_map]; rfl
  refine Rr.sets_of (fun x hx => ?_) (fun k => ?_) ?_ (by rw [hky]; exact hu)
  · obtain ⟨s, hs, rfl⟩ := List.mem_map.1 hx
    obtain ⟨e, he, h1, h2⟩ := hmem s (hp.mem_iff.1 hs)
    rw [hst, h1, ← own1_rc, ← h.own e he]
    exact h2
  · rw [hky, List.mem_map]
    constructor
    · rintro ⟨s, hs, rfl⟩
      obtain ⟨e, he, h1, _⟩ := hmem s (hp.mem_iff.1 hs)
      have hne := h.some_ e he
      rw [h.own e he] at hne
      obtain ⟨r, hr⟩ := List.exists_mem_of_ne_nil _ hne
      have hr2 := List.mem_filter.1 hr
      refine ⟨r.rc, List.mem_map_of_mem hr2.1, ?_⟩
      have : r.kv = e.k := by simpa using hr2.2
      show r.kv.ky = s.k.ky
      rw [this, h1]
    · rintro ⟨q, hq, rfl⟩
      obtain ⟨r, hr, rfl⟩ := List.mem_map.1 hq
      obtain ⟨e, he, hek⟩ := List.mem_map.1 (h.all r hr)
      obtain ⟨j, hj⟩ := List.mem_iff_getElem?.1 he
      have hjl : j < E.length := (List.getElem?_eq_some_iff.1 hj).1
      obtain ⟨i, hi⟩ := List.mem_iff_getElem?.1 (hall j hjl)
      have hil : i < out.length := by have := (List.getElem?_eq_some_iff.1 hi).1; omega
      have := (hof i out[i] j e (List.getElem?_eq_getElem hil) hi hj).1
      refine ⟨out[i], hp.mem_iff.2 (List.getElem_mem hil), ?_⟩
      rw [this, hek]
      rfl
  · rw [hky]
    have h1 : (out.map Sx.k).Nodup := by
      rw [hks]
      refine List.pairwise_map.2 (hn.imp_of_mem fun {a b} ha hb hab e => ?_)
      have h1 := hin a ha
      have h2 := hin b hb
      rw [List.getElem?_eq_getElem h1, List.getElem?_eq_getElem h2] at e
      simp only [Option.map_some, Option.getD_some] at e
      refine hab ((List.getElem?_inj (by simpa using h1) h.nodup).1 ?_)
      rw [List.getElem?_map, List.getElem?_map, List.getElem?_eq_getElem h1, List.getElem?_eq_getElem h2]
      simp [e]
    have h2 : (l.map Sx.k).Nodup := (hp.map _).nodup_iff.2 h1
    have h3 : l.map (fun s => s.k.ky) = (l.map Sx.k).map Kv.ky := by rw [List.map_map]; rfl
    rw [h3]
    exact List.pairwise_map.2 (h2.imp fun hab e => hab (kv_ky e))
end Go.Proofs.YtmieakkhpkclpaaDoor
/- Of those that are alike the first one, step by step. Nothing of the program. -/
namespace Go.Proofs.YtmieakkhpkclpaaDoor
open Go.RowKit Go.Sort Go.Shelf

namespace Rr
section
variable {α β : Type} [DecidableEq α] [DecidableEq β]
theorem cpt_map {f : α → β} (hf : ∀ a b, f a = f b → a = b) (l : List α) : (cpt l).map f = cpt (l.map f) := by
  refine snoc_ind (P := fun l => (cpt l).map f = cpt (l.map f)) rfl (fun l x ih => ?_) l
  rw [List.map_append, List.map_cons, List.map_nil, cpt_snoc, cpt_snoc, ← ih]
  unfold cp1
  rw [List.getLast?_map]
  by_cases h : (cpt l).getLast? = some x
  · rw [if_pos h, h, Option.map_some, if_pos rfl]
  · rw [if_neg h, if_neg, List.map_append]
    · rfl
    · intro e
      obtain ⟨y, hy, he⟩ := Option.map_eq_some_iff.1 e
      exact h (by rw [hy, hf _ _ he])
theorem cpt_step {l : List α} {i : Nat} (hi : i < l.length) (h0 : 0 < i) : cpt (l.take (i + 1)) = if l[i] = l[i - 1] then cpt (l.take i) else cpt (l.take i) ++ [l[i]] := by
  rw [List.take_succ_eq_append_getElem hi, cpt_snoc]
  unfold cp1
  have hl : (l.take i).getLast? = some l[i - 1] := by
    rw [List.getLast?_eq_getElem?, List.length_take, Nat.min_eq_left (by omega), List.getElem?_take, if_pos (by omega), List.getElem?_eq_getElem (by omega)]
  rw [cpt_last, hl]
  by_cases h : l[i] = l[i - 1]
  · rw [if_pos (by rw [h]), if_pos h]
  · rw [if_neg (fun e => h (Option.some.inj e).symm), if_neg h]
theorem cpt_one {l : List α} (h : 0 < l.length) : cpt (l.take 1) = l.take 1 := by
  cases l with
  | nil => simp at h
  | cons a r => rfl
theorem cpt_nil : cpt ([] : List α) = [] := rfl
end
theorem least_map_take {l : List Nat} {i : Nat} (hi : i < l.length) : least (l.take (i + 1)) = if i = 0 then l[i] else min (least (l.take i)) l[i] := by
  rw [List.take_succ_eq_append_getElem hi, least_snoc]
  by_cases h : i = 0
  · subst h; simp
  · rw [if_neg h, if_neg]
    intro e
    have := congrArg List.length e
    rw [List.length_take, List.length_nil] at this
    omega
end Rr
/-- the sets' data: sorted, and of those that are alike one. -/
theorem ds_of {rs : List Rv} {l : List Dv} (hp : l.Perm (rs.map Rv.d)) (hu : Rr.Up (fun a b : Dv => Rr.cmpD a.dt b.dt) l) : (Rr.cpt l).map Dv.dt = Rr.cpt (Rr.sort Rr.cmpD ((rs.map Rv.rc).map Rr.Rc.d)) := by
  rw [Rr.cpt_map (fun _ _ h => dv_dt h)]
  congr 1
  have e : (rs.map Rv.rc).map Rr.Rc.d = (rs.map Rv.d).map Dv.dt := by rw [List.map_map, List.map_map]; rfl
  rw [e]
  exact (Rr.sort_of Rr.od_cmpD Rr.cmpD_zero (hp.map _) (List.pairwise_map.2 hu)).symm
end Go.Proofs.YtmieakkhpkclpaaDoor
