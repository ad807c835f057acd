/- Texts of the proofs, merged. -/
import Derived.Test.YtapbcepjcnnkgaaDoorG33
import Derived.Test.YtapbcepjcnnkgaaDoorG29
import Derived.Test.YtapbcepjcnnkgaaDoorG34
import Derived.Test.YtapbcepjcnnkgaaDoorG22
import Derived.Test.YtapbcepjcnnkgaaDoorG30
import Derived.Test.YtapbcepjcnnkgaaDoorG48
import Derived.Test.YtapbcepjcnnkgaaDoorG42
import Derived.Deep.RegionHeld3
import Derived.StillTailTactics
import Derived.BigQuiet
/- RrsetSet: what is turned round, sorted twice, and the records of all sets. Nothing of the program. -/
namespace Go.Proofs.YtapbcepjcnnkgaaDoor
open Go.RowKit Go.Sort Go.Shelf

theorem small_small (c : UInt8) : Nm.small (Nm.small c) = Nm.small c := by
  unfold Nm.small
  by_cases h : 65 ≤ c ∧ c ≤ 90
  · rw [if_pos h, if_neg]
    intro h2
    have e : (c + 32).toNat = (c.toNat + 32) % 256 := UInt8.toNat_add c 32
    have a1 : 65 ≤ c.toNat := h.1
    have a2 : c.toNat ≤ 90 := h.2
    have a3 : (c + 32).toNat ≤ 90 := h2.2
    omega
  · rw [if_neg h, if_neg h]
theorem nm_fold2 (l : List UInt8) : Nm.fold (Nm.fold l) = Nm.fold l := by
  unfold Nm.fold
  rw [List.map_map]
  exact List.map_congr_left fun c _ => small_small c
theorem dv_fold2 (t : Nat) (d : Dv) : (d.fold t).fold t = d.fold t := by
  obtain ⟨r, h, m, n0, n1, n2, n3, n4⟩ := d
  unfold Dv.fold
  simp only
  by_cases h1 : Rd.isHost t = true
  · by_cases h2 : Rd.isMail t = true
    · simp only [if_pos h1, if_pos h2, nm_fold2]
    · simp only [if_pos h1, if_neg h2, nm_fold2]
  · by_cases h2 : Rd.isMail t = true
    · simp only [if_neg h1, if_pos h2, nm_fold2]
    · simp only [if_neg h1, if_neg h2]
theorem rv_fold2 (r : Rv) : r.fold.fold = r.fold := by
  obtain ⟨nm, ty, cl, ttl, d⟩ := r
  unfold Rv.fold
  simp only [nm_fold2, dv_fold2]
theorem rc_inj {l m : List Rv} (h : l.map Rv.rc = m.map Rv.rc) : l = m := by
  revert m
  induction l with
  | nil => intro m h; cases m with
    | nil => rfl
    | cons => cases h
  | cons x l ih =>
    intro m h
    cases m with
    | nil => cases h
    | cons y m =>
      rw [List.map_cons, List.map_cons] at h
      injection h with h1 h2
      rw [rv_rc h1, ih h2]
theorem fcs_perm {l m : List Rv} (h : l.Perm m) : (fcs l).Perm (fcs m) := (h.map _).map _
theorem fcs_folded {l : List Rv} (h : ∀ r ∈ l, r.fold = r) : fcs l = l.map Rv.rc := by
  unfold fcs
  rw [List.map_map]
  exact List.map_congr_left fun r hr => by rw [Function.comp_apply, h r hr]
theorem folded_of {l rs : List Rv} (h : l.Perm (rs.map Rv.fold)) : ∀ r ∈ l, r.fold = r := fun r hr => by
  obtain ⟨q, _, rfl⟩ := List.mem_map.1 (h.mem_iff.1 hr)
  exact rv_fold2 q
/-- what Sort leaves is one list. -/
def Srtd (rs l : List Rv) : Prop := l.Perm (rs.map Rv.fold) ∧ Rr.Up Rr.cmpR (l.map Rv.rc)
theorem Srtd.is {rs l : List Rv} (h : Srtd rs l) : l.map Rv.rc = Rr.sort Rr.cmpR (fcs rs) :=
  (Rr.sort_of Rr.od_cmpR Rr.cmpR_zero (h.1.map _) h.2).symm
theorem Srtd.one {rs qs l m : List Rv} (h : Srtd rs l) (k : Srtd qs m) (hp : rs.Perm qs) : l = m :=
  rc_inj (by rw [h.is, k.is, Rr.sort_perm_eq Rr.od_cmpR Rr.cmpR_zero (fcs_perm hp)])
theorem Srtd.again {rs l m : List Rv} (h : Srtd rs l) (k : Srtd l m) : l = m := by
  refine rc_inj ?_
  rw [k.is, fcs_folded (folded_of h.1)]
  exact (Rr.sort_of Rr.od_cmpR Rr.cmpR_zero (List.Perm.refl _) h.2).symm
theorem Srtd.len {rs l : List Rv} (h : Srtd rs l) : l.length = rs.length := by rw [h.1.length_eq, List.length_map]
theorem Srtd.step {rs l : List Rv} (h : Srtd rs l) {i : Nat} (hi : i + 1 < l.length) : Rr.cmpR (l[i]'(by omega)).fold.rc (l[i + 1]'hi).fold.rc ≤ 0 := by
  rw [folded_of h.1 _ (List.getElem_mem _), folded_of h.1 _ (List.getElem_mem _)]
  have := List.pairwise_iff_getElem.1 h.2 i (i + 1) (by rw [List.length_map]; omega) (by rw [List.length_map]; omega) (by omega)
  simpa using this
/-- a list turned round, from a place on. -/
def turn (l : List Rv) (k a : Nat) : List Rv := ((List.range k).map fun i => l[(i + a) % l.length]!)
theorem turn_all (l : List Rv) (a : Nat) : (turn l l.length a).Perm l := by
  rcases Nat.eq_zero_or_pos l.length with h0 | h0
  · have := List.eq_nil_of_length_eq_zero h0
    subst this
    exact List.Perm.refl _
  · have e : turn l l.length a = l.drop (a % l.length) ++ l.take (a % l.length) := by
      have hb : a % l.length < l.length := Nat.mod_lt _ h0
      unfold turn
      apply List.ext_getElem
      · simp; omega
      · intro i h1 h2
        have hi : i < l.length := by simpa using h1
        rw [List.getElem_map, List.getElem_range]
        have hm : (i + a) % l.length = (i + a % l.length) % l.length := by rw [Nat.add_mod, Nat.mod_eq_of_lt hi]
        rw [hm]
        by_cases hc : i + a % l.length < l.length
        · rw [Nat.mod_eq_of_lt hc, getElem!_pos l _ hc, List.getElem_append_left (by rw [List.length_drop]; omega), List.getElem_drop]
          congr 1
          omega
        · have hm2 : (i + a % l.length) % l.length = i + a % l.length - l.length := by
            rw [Nat.mod_eq_sub_mod (by omega), Nat.mod_eq_of_lt (by omega)]
          rw [hm2, getElem!_pos l _ (by omega), List.getElem_append_right (by rw [List.length_drop]; omega), List.getElem_take]
          congr 1
          rw [List.length_drop]
          omega
    rw [e]
    exact List.perm_append_comm.trans (by rw [List.take_append_drop])
theorem turn_succ (l : List Rv) (k a : Nat) : turn l (k + 1) a = turn l k a ++ [l[(k + a) % l.length]!] := by
  unfold turn
  rw [List.range_succ, List.map_append]
  rfl
/-- the last k of a list, turned round, from behind. -/
def turnB (l : List Rv) (k a : Nat) : List Rv := ((List.range l.length).reverse.map fun i => l[(i + a) % l.length]!).take k
theorem turnB_all (l : List Rv) (a : Nat) : (turnB l l.length a).Perm l := by
  have e : turnB l l.length a = (turn l l.length a).reverse := by
    unfold turnB turn
    rw [List.take_of_length_le (by simp), List.map_reverse]
  rw [e]
  exact (List.reverse_perm _).trans (turn_all l a)
theorem turnB_succ (l : List Rv) (k a : Nat) (h : k < l.length) : turnB l (k + 1) a = turnB l k a ++ [l[(l.length - 1 - k + a) % l.length]'(Nat.mod_lt _ (by omega))] := by
  unfold turnB
  rw [List.take_succ_eq_append_getElem (by simpa using h), List.getElem_map, List.getElem_reverse, List.getElem_range]
  congr 1
  rw [List.length_range, getElem!_pos]
theorem turnB_len (l : List Rv) (k a : Nat) (h : k ≤ l.length) : (turnB l k a).length = k := by
  unfold turnB
  simp
  omega
/-- a set's records. -/
def Sx.recs (s : Sx) : List Rv := s.ds.map fun d => ⟨s.k.nm, s.k.ty, s.k.cl, s.ttl, d⟩
theorem recs_rc (s : Sx) : s.recs.map Rv.rc = Rr.recs s.st := by
  unfold Sx.recs Rr.recs Sx.st
  simp only [List.map_map]
  exact List.map_congr_left fun d _ => rfl
theorem all_rc (ls : List Sx) : (ls.flatMap Sx.recs).map Rv.rc = (ls.map Sx.st).flatMap Rr.recs := by
  rw [List.map_flatMap, List.flatMap_map]
  congr 1
  exact funext fun s => recs_rc s
theorem all_is {rs : List Rv} {ls : List Sx} (h : ls.map Sx.st = Rr.sets (fcs rs)) : (ls.flatMap Sx.recs).map Rv.rc = Rr.all (fcs rs) := by
  rw [all_rc, h]
  rfl
theorem all_folded {rs : List Rv} {ls : List Sx} (h : ls.map Sx.st = Rr.sets (fcs rs)) : ∀ r ∈ ls.flatMap Sx.recs, r.fold = r := fun r hr => by
  have h1 : r.rc ∈ Rr.all (fcs rs) := by rw [← all_is h]; exact List.mem_map_of_mem hr
  obtain ⟨h2, _, h4⟩ := Rr.all_mem.1 h1
  obtain ⟨q, hq, hqd⟩ := Rr.grp_mem.1 h4
  obtain ⟨hq1, hq2⟩ := Rr.ofKey_mem.1 hq
  obtain ⟨p, hp, rfl⟩ := List.mem_map.1 hq1
  obtain ⟨o, ho, rfl⟩ := List.mem_map.1 hp
  have e1 : o.fold.kv = r.kv := kv_ky hq2
  have e2 : o.fold.d = r.d := dv_dt hqd
  have e3 := rv_fold2 o
  obtain ⟨nm, ty, cl, ttl, d⟩ := r
  have f := e1
  unfold Rv.kv at f
  injection f with f1 f2 f3
  simp only at f1 f2 f3 e2
  unfold Rv.fold
  simp only
  have g1 : (⟨(Nm.fold nm.data.toList).toArray⟩ : ByteArray) = nm := by
    rw [← f1]
    exact congrArg Rv.nm e3
  have g2 : d.fold ty = d := by
    rw [← e2, ← f2]
    exact congrArg Rv.d e3
  rw [g1, g2]
theorem all_fcs {rs : List Rv} {ls : List Sx} (h : ls.map Sx.st = Rr.sets (fcs rs)) : fcs (ls.flatMap Sx.recs) = Rr.all (fcs rs) := by
  rw [fcs_folded (all_folded h), all_is h]
theorem sx_eq {s t : Sx} (h : s.st = t.st) : s.k = t.k ∧ s.ttl = t.ttl ∧ s.ds = t.ds := by
  unfold Sx.st at h
  injection h with h1 h2 h3
  refine ⟨kv_ky h1, h2, ?_⟩
  have H : ∀ (l m : List Dv), l.map Dv.dt = m.map Dv.dt → l = m := by
    intro l
    induction l with
    | nil => intro m h; cases m with
      | nil => rfl
      | cons => cases h
    | cons x l ih =>
      intro m h
      cases m with
      | nil => cases h
      | cons y m =>
        rw [List.map_cons, List.map_cons] at h
        injection h with h1 h2
        rw [dv_dt h1, ih _ h2]
  exact H _ _ h3
/-- keys rise, no set is empty, data rise. -/
theorem keys_step {rs : List Rv} {ls : List Sx} (h : ls.map Sx.st = Rr.sets (fcs rs)) {i : Nat} (hi : i + 1 < ls.length) : Rr.cmpK (ls[i]'(by omega)).k.ky (ls[i + 1]'hi).k.ky < 0 := by
  have h1 := Rr.sets_lt (fcs rs)
  rw [← h, List.map_map] at h1
  have := List.pairwise_iff_getElem.1 h1 i (i + 1) (by rw [List.length_map]; omega) (by rw [List.length_map]; omega) (by omega)
  have h2 : Rr.cmpK (ls[i]'(by omega)).st.ky (ls[i + 1]'hi).st.ky < 0 := by simpa using this
  exact h2
theorem ds_some {rs : List Rv} {ls : List Sx} (h : ls.map Sx.st = Rr.sets (fcs rs)) {s : Sx} (hs : s ∈ ls) : 0 < s.ds.length := by
  have := (Rr.sets_some (F := fcs rs) (x := s.st) (by rw [← h]; exact List.mem_map_of_mem hs)).1
  rcases hd : s.ds with _ | ⟨x, r⟩
  · unfold Sx.st at this
    rw [hd] at this
    exact absurd rfl this
  · simp
theorem ds_step {rs : List Rv} {ls : List Sx} (h : ls.map Sx.st = Rr.sets (fcs rs)) {s : Sx} (hs : s ∈ ls) {i : Nat} (hi : i + 1 < s.ds.length) : Rr.cmpD (s.ds[i]'(by omega)).dt (s.ds[i + 1]'hi).dt < 0 := by
  have h1 := (Rr.sets_some (F := fcs rs) (x := s.st) (by rw [← h]; exact List.mem_map_of_mem hs)).2
  have := List.pairwise_iff_getElem.1 h1 i (i + 1) (by show i < (s.ds.map Dv.dt).length; rw [List.length_map]; omega) (by show i + 1 < (s.ds.map Dv.dt).length; rw [List.length_map]; omega) (by omega)
  unfold Sx.st at this
  simpa using this
end Go.Proofs.YtapbcepjcnnkgaaDoor
/- Sort: the program's. -/
namespace Go.Proofs.YtapbcepjcnnkgaaDoor
open Go.RowKit Go.Sort Go.Shelf

theorem has_holds {α : Type} [Inhabited α] {enc : α → List Value} {k : Nat} {w : World} {g : Nat} {t : TypeId} {d : Array α} (h : Has w g t (flatK enc k d)) : HoldsK enc k w g 0 d := fun j hj => by
  refine ⟨?_, h.free _⟩
  rw [h.cell, Nat.zero_add, getElem!_pos _ j hj, Array.getElem?_eq_getElem hj]
  rfl
set_option maxHeartbeats 1000000 in
set_option maxRecDepth 100000 in
theorem sortR_any (l : List Rv) (g c : Nat) (w : World) (hl : ∀ r ∈ l, r.short) (hX : Has w g 44 (flatK rcl 12 l.toArray)) (hn : l.length ≤ 4294967296) :
    Calls Tryd.prog 27 #[.slice (some ⟨g, 0, none⟩) l.length c, .func (.func 28) #[] #[]] w fun e w' => e = .returned (.tuple #[]) ∧ ∃ l' : List Rv, l'.Perm l ∧ Rr.Up Rr.cmpR (l'.map Rv.rc) ∧ Has w' g 44 (flatK rcl 12 l'.toArray) ∧ w.grownBy w' (some g) := by
  have h := sort_any (P := Tryd.prog) Tryd.sortR (enc := rcl) (k := 12) rcl_len (fun r => r.short) ⟨Nat.zero_le _, Nat.zero_le _, Nat.zero_le _⟩ (fun x _ => rcl_one x) Tryd.isAgg44 Tryd.sizeOf44 (fun a b : Rv => Rr.cmpR a.rc b.rc) (fun a b => Rr.od_cmpR.neg _ _) (fun a b d => Rr.od_cmpR.trans _ _ _) 28 (enters_of Tryd.func28 (by kernel_rfl) rfl)
    (fun x y hx hy W => cmpFolded_any x y W hx hy) g c 44 l hl w (has_holds hX) hX.lt hn
  change Calls Tryd.prog 27 _ _ _ at h
  exact h.mono fun e w' ⟨he, l', h1, h2, _, h4, h5⟩ => ⟨he, l', h1, List.pairwise_map.2 h2, h5 hX, h4⟩
set_option maxHeartbeats 1000000 in
set_option maxRecDepth 100000 in
theorem rrSort_any (rs : List Rv) (A : Option Addr) (c : Nat) (w : World) (hL : LayR w) (hS : Srow rcl 12 w 0 w.heap.size A rs) (hr : ∀ r ∈ rs, r.nums ∧ r.short) (hn : rs.length ≤ 4294967296) :
    Calls Tryd.prog 14 #[.slice A rs.length c] w fun e w' => ∃ g l, e = .returned (.slice (some ⟨g, 0, none⟩) rs.length rs.length) ∧ Srtd rs l ∧ (∀ r ∈ l, r.nums ∧ r.short) ∧ Srow rcl 12 w' w.heap.size w'.heap.size (some ⟨g, 0, none⟩) l ∧ Below w.heap.size w w' := by
  have H1 := Lib.hid (folded_any rs A c w hL hS hr hn)
  have HR : Hid (∀ r ∈ rs.map Rv.fold, r.nums ∧ r.short) := fun r h => by
    obtain ⟨q, hq, rfl⟩ := List.mem_map.1 h
    exact ⟨rv_fold_nums (hr q hq).1, rv_fold_short (hr q hq).2⟩
  have hlen : (rs.map Rv.fold).length = rs.length := List.length_map ..
  have H2 := Lib.hid (fun (g c : Nat) (W : World) (hX : Has W g 44 (flatK rcl 12 (rs.map Rv.fold).toArray)) => sortR_any (rs.map Rv.fold) g c W (fun r h => (HR.out r h).2) hX (by omega))
  rw [hlen] at H2
  clear hL hS hr hn hlen
  go_enter Tryd.func14, Tryd.ntmps14
  go_wp2_with (first
    | (go_at_call 20
       refine H1.out.mono ?_
       rintro e w1 ⟨g, rfl, hg, hX, B1⟩
       have HG := Lib.hid hg
       have HX := Lib.hid hX
       have HB := Lib.hid B1
       clear hg hX B1)
    | (go_at_call 27
       refine (H2.out _ _ _ HX.out).mono ?_
       rintro e w2 ⟨rfl, l, h1, h2, h3, h4⟩
       have HS : Hid (Srtd rs l) := ⟨h1, h2⟩
       have HX2 := Lib.hid h3
       have HB2 := Lib.hid (HB.out.grown h4 HB.out.size (fun k e => by injection e with e; rw [← e]; exact HG.out))
       clear h1 h2 h3 h4))
  go_ret
  refine ⟨g, l, rfl, HS.out, fun r h => HR.out r (HS.out.1.mem_iff.1 h), ?_, HB2.out⟩
  have hx := HX2.out
  exact holds_srow (d := l.toArray) rcl_len (has_holds hx) HG.out hx.lt
end Go.Proofs.YtapbcepjcnnkgaaDoor
/- A list turned round: the statement's. -/
namespace Go.Proofs.YtapbcepjcnnkgaaDoor
open Go.RowKit Go.Sort Go.Shelf

set_option maxHeartbeats 2000000 in
set_option maxRecDepth 100000 in
theorem turned_any (rs : List Rv) (A : Option Addr) (c : Nat) (at' : Nat) (w : World) (hS : Srow rcl 12 w 0 w.heap.size A rs) (hn : rs.length ≤ 200) (ha : at' ≤ 255) :
    Calls Tryd.prog 13 #[.slice A rs.length c, .int .i64 at'] w fun e w' => ∃ v, e = .returned v ∧ Own rcl 12 w' w.heap.size 44 v (turnB rs rs.length at') ∧ Below w.heap.size w w' := by
  have HS := Lib.hid hS
  clear hS
  have hi12 : (Tryd.prog.info? 44).map (·.size) = some 12 := by kernel_rfl
  have HI := Lib.hid hi12
  clear hi12
  obtain ⟨ti, ht1, ht2, ht3, ht4⟩ : ∃ i, Tryd.prog.info? 44 = some i ∧ i.zero = some (.agg (rcl ⟨⟨#[]⟩, 0, 0, 0, ⟨⟨#[]⟩, ⟨#[]⟩, ⟨#[]⟩, 0, 0, 0, 0, 0⟩⟩).toArray) ∧ i.size = 12 ∧ i.bytes = 96 := ⟨_, rfl, by kernel_rfl, by kernel_rfl, by kernel_rfl⟩
  have HT := Lib.hid (And.intro ht1 (And.intro ht2 (And.intro ht3 ht4)))
  clear ht1 ht2 ht3 ht4
  have s0 : IntKind.i64.wrap ((rs.length : Int) - 1) = (rs.length : Int) - 1 := IntWalk.i64_in _ (by omega)
  go_enter Tryd.func13, Tryd.ntmps13
  go_wp2
  go_loopw [5, 6] (fun s5 s6 wr => ∃ (k : Nat) (i : Int), s6 = .int .i64 i ∧ k ≤ rs.length ∧ i = (rs.length : Int) - 1 - k ∧ Hid (Own rcl 12 wr w.heap.size 44 s5 (turnB rs k at')) ∧ Hid (Below w.heap.size w wr)) (fun _ s6 _ => (intOf s6 + 1).toNat)
  case atStart => exact ⟨0, _, rfl, Nat.zero_le _, by omega, ⟨rfl, .inl ⟨rfl, rfl⟩⟩, Below.refl _ _⟩
  case round =>
    obtain ⟨k, i, rfl, hk, hi, HO, HB⟩ := hrel
    by_cases hlt : k < rs.length
    · obtain ⟨m, rfl⟩ : ∃ m : Nat, i = m := ⟨rs.length - 1 - k, by omega⟩
      have hm : m = rs.length - 1 - k := by omega
      have HU := Lib.hid (turnB_succ rs k at' hlt)
      have hj : (m + at') % rs.length < rs.length := Nat.mod_lt _ (by omega)
      rw [← hm] at HU
      obtain ⟨j, hjj⟩ : ∃ j, (m + at') % rs.length = j := ⟨_, rfl⟩
      have hj2 : j < rs.length := by rw [← hjj]; exact hj
      have HU2 : Hid (turnB rs (k + 1) at' = turnB rs k at' ++ [rs[j]'hj2]) := by
        have h := HU.out
        simp only [hjj] at h
        exact h
      obtain ⟨g, o, hA, _, hg, hc⟩ := HS.out.at_ hj2
      have HC := Lib.hid (range_below HB.out hg hc)
      have s1 : IntKind.i64.wrap ((m : Int) + (at' : Int)) = (m : Int) + (at' : Int) := IntWalk.i64_in _ (by omega)
      have s2 : ((m : Int) + (at' : Int)).tmod (rs.length : Int) = (j : Int) := by
        rw [← hjj, ← Int.natCast_add, Int.ofNat_tmod]
      have s3 : IntKind.i64.wrap ((m : Int) - 1) = (m : Int) - 1 := IntWalk.i64_in _ (by omega)
      have q0 : ((rs.length : Int) == 0) = false := beq_eq_false_iff_ne.2 (by omega)
      have j0 : (0 : Int) ≤ (j : Int) := by omega
      have j1 : (j : Int) < (rs.length : Int) := by omega
      have m0 : (0 : Int) ≤ (m : Int) := by omega
      have hlen : (turnB rs k at').length = k := turnB_len rs k at' hk
      have HM := Lib.hid hm
      have HLN := Lib.hid hlen
      clear hc HU hj hjj hm hi hlen
      generalize rs[j] = r at *
      subst hA
      go_wp2_with (first
        | (refine wpList_load_mid rfl 44 (.tmp 22) rfl g _ rfl (rcl r) _ HC.out Tryd.underlying44 rfl HI.out ?_)
        | (refine wpList_build_one rfl 22 44 (.tmp 23) rfl 12 r.cells ti _ Tryd.underlying22 HT.out.1 HT.out.2.1 HT.out.2.2.1 (by omega) (by omega) rfl (fill_rec r) ?_
           intro w2 hN g2 hs2
           have HN2 := Lib.hid hN
           have HO2 := Lib.hid (HO.out.kept g2 (Classical.em _))
           have HB2 := Lib.hid (grown_none g2 HB.out HB.out.size)
           clear hN g2 hs2)
        | (refine wpList_append_struct rfl (.tmp 14) (.tmp 24) 22 rfl rcl_len rcl_one 44 ti _ 96 Tryd.underlying22 HT.out.1 HT.out.2.1 HT.out.2.2.1 HT.out.2.2.2 rfl (by omega) w.heap.size u5 (turnB rs k at') rfl HO2.out r wr.heap.size 1 rfl (fun i u hu => by rw [Nat.zero_add, HN2.out.cell]; rw [← hu, Array.getElem?_toList]) (by rw [HLN.out]; unfold maxLen; omega) (by rw [HLN.out]; omega) HB2.out.size ?_
           intro v3 w3 ho3 g3 _
           rw [← HU2.out] at ho3
           have HO3 := Lib.hid ho3
           have HB3 := Lib.hid (HB2.out.grown g3 HB2.out.size (fun k e => (HO2.out.lt k e).1))
           clear ho3 g3))
      go_roundw
      case rel =>
        have hm := HM.out
        exact ⟨k + 1, _, rfl, by omega, by push_cast; omega, HO3, HB3⟩
      case measure => simp [intOf]
    · obtain rfl : k = rs.length := by omega
      have i0 : i < 0 := by omega
      have d0 : decide (0 ≤ i) = false := by rw [decide_eq_false_iff_not]; omega
      go_wp2
      go_ret
      exact ⟨_, rfl, HO.out, HB.out⟩
end Go.Proofs.YtapbcepjcnnkgaaDoor
/- A set's records: the program's. -/
namespace Go.Proofs.YtapbcepjcnnkgaaDoor
open Go.RowKit Go.Sort Go.Shelf

set_option maxHeartbeats 2000000 in
set_option maxRecDepth 100000 in
theorem records_any (s : Sx) (lo : Nat) (w : World) (hat : SetAt w lo w.heap.size s) (hn : s.ds.length ≤ 4294967296) :
    Calls Tryd.prog 11 #[.agg s.cells.toArray] w fun e w' => ∃ g, e = .returned (.slice (some ⟨g, 0, none⟩) s.ds.length s.ds.length) ∧ w.heap.size ≤ g ∧ Has w' g 44 (flatK rcl 12 s.recs.toArray) ∧ Below w.heap.size w w' := by
  obtain ⟨gd, cd, e1, hcd, _, hgd, hrow⟩ := hat
  have hi12 : (Tryd.prog.info? 44).map (·.size) = some 12 := by kernel_rfl
  have HI := Lib.hid hi12
  have hi8 : (Tryd.prog.info? 42).map (·.size) = some 8 := by kernel_rfl
  have HI8 := Lib.hid hi8
  clear hi12 hi8
  obtain ⟨ti, ht1, ht2, ht3, ht4⟩ : ∃ i, Tryd.prog.info? 44 = some i ∧ i.zero = some (.agg (rcl default).toArray) ∧ i.size = 12 ∧ i.bytes = 96 := ⟨_, rfl, by kernel_rfl, by kernel_rfl, by kernel_rfl⟩
  have HT := Lib.hid (And.intro ht1 (And.intro ht2 (And.intro ht3 ht4)))
  clear ht1 ht2 ht3 ht4
  obtain ⟨⟨kn, kt, kc⟩, ttl, v, ds⟩ := s
  simp only at e1 hcd hrow hn
  subst e1
  have HROW := Lib.hid hrow
  clear hrow
  have hR : Sx.recs ⟨⟨kn, kt, kc⟩, ttl, .slice (some ⟨gd, 0, none⟩) ds.length cd, ds⟩ = ds.map (fun d => (⟨kn, kt, kc, ttl, d⟩ : Rv)) := rfl
  rw [hR]
  clear hR
  dsimp only [Sx.cells]
  have HS0 : Hid (Has (w.alloc (.cells #[.string kn, .int .u16 kt, .int .u16 kc, .int .u32 ttl, .slice (some ⟨gd, 0, none⟩) ds.length cd] 30)) w.heap.size 30 #[.string kn, .int .u16 kt, .int .u16 kc, .int .u32 ttl, .slice (some ⟨gd, 0, none⟩) ds.length cd]) := Has.fresh w _ _
  have HB0 : Hid (Below w.heap.size w (w.alloc (.cells #[.string kn, .int .u16 kt, .int .u16 kc, .int .u32 ttl, .slice (some ⟨gd, 0, none⟩) ds.length cd] 30))) := (Below.refl _ _).alloc (Nat.le_refl _) _
  go_enter Tryd.func11, Tryd.ntmps11
  go_wp2_with (refine wpList_make_structs rfl (.tmp 8) (.tmp 8) 22 rfl rcl_len default 44 ti _ 96 Tryd.underlying22 HT.out.1 HT.out.2.1 rfl HT.out.2.2.1 HT.out.2.2.2 .i64 .i64 _ _ ds.length ds.length rfl rfl rfl rfl (Nat.le_refl _) (by omega) (by omega) ?_
               generalize w.alloc _ = wa at HS0 HB0 ⊢
               intro w1 hX1 B1 hs1
               have HS1 := Lib.hid (HS0.out.below B1 HS0.out.lt)
               have HB1 := Lib.hid (HB0.out.trans (B1.mono HB0.out.size))
               have HGL : Hid (w.heap.size < wa.heap.size) := HS0.out.lt
               have HGW : Hid (wa.heap.size < w1.heap.size) := (by rw [Hid, hs1]; omega)
               generalize wa.heap.size = gl at hX1 HGL HGW ⊢
               have HX1 := Lib.hid hX1
               have c4 : w1.cell? ⟨w.heap.size, 4, none⟩ = some (.slice (some ⟨gd, 0, none⟩) ds.length cd) := HS1.out.cell 4
               clear hX1 B1 hs1 HS0 HB0)
  clear c4
  go_loopw [13] (fun i wr => ∃ k : Nat, i = .int .i64 k ∧ k ≤ ds.length ∧ Hid (Has wr gl 44 (flatK rcl 12 (upTo (fun d => (⟨kn, kt, kc, ttl, d⟩ : Rv)) ds k))) ∧ Hid (Has wr w.heap.size 30 #[.string kn, .int .u16 kt, .int .u16 kc, .int .u32 ttl, .slice (some ⟨gd, 0, none⟩) ds.length cd]) ∧ Hid (Below w.heap.size w wr) ∧ Hid (gl < wr.heap.size)) (fun i _ => ds.length - (intOf i).toNat)
  case atStart => exact ⟨0, rfl, by omega, by rw [upTo_zero]; exact HX1, HS1, HB1, HGW⟩
  case round =>
    obtain ⟨k, rfl, hk, HX, HS, HB, HG⟩ := hrel
    have hg2 := HG.out
    have hgl := HGL.out
    have hwr := HB.out.size
    by_cases hlt : k < ds.length
    · have hc1 := range_below HB.out hgd (HROW.out k hlt)
      rw [Nat.zero_add] at hc1
      have hc2 := Lib.hid hc1
      clear hc1
      have hst := upTo_set (f := fun d => (⟨kn, kt, kc, ttl, d⟩ : Rv)) ds hlt
      have hkd : k < (upTo (fun d => (⟨kn, kt, kc, ttl, d⟩ : Rv)) ds k).size := by rw [upTo_size ds hk]; exact hlt
      have HKD := Lib.hid hkd
      have HST := Lib.hid hst
      clear hst hkd
      generalize ds[k] = d at *
      obtain ⟨ra, ho, ma, n0, n1, n2, n3, n4⟩ := d
      go_wp2_with (first
        | (refine wpList_load_mid rfl 42 (.tmp 16) rfl gd _ rfl (dcl ⟨ra, ho, ma, n0, n1, n2, n3, n4⟩) _ hc2.out Tryd.underlying42 rfl HI8.out ?_)
        | (refine wpList_store_boxed rfl 42 (.tmp 5) (.tmp 17) rfl 42 _ #[.string ra, .string ho, .string ma, .int .u32 n0, .int .u32 n1, .int .u32 n2, .int .u32 n3, .int .u32 n4] rfl rfl HI8.out rfl (dv_one ⟨ra, ho, ma, n0, n1, n2, n3, n4⟩) ?_
           intro w2 hY g2 hs2
           have HY2 := Lib.hid hY
           have HX2 := Lib.hid (HX.out.grown g2 (by simp))
           have HS2 := Lib.hid (HS.out.grown g2 (by simp))
           have HB2 := Lib.hid (grown_none g2 HB.out hwr)
           obtain ⟨k0, k1, k2, k3, _⟩ := five HS2.out
           clear hY g2)
        | (refine wpList_load_row rfl 42 (.tmp 5) rfl wr.heap.size rfl 42 #[.string ra, .string ho, .string ma, .int .u32 n0, .int .u32 n1, .int .u32 n2, .int .u32 n3, .int .u32 n4] (0, 0) _ HY2.out Tryd.underlying42 rfl HI8.out ?_)
        | (refine wpList_store_elem rfl 44 (.tmp 33) (.tmp 32) rfl rcl_len rcl_one gl k 44 _ (⟨kn, kt, kc, ttl, ⟨ra, ho, ma, n0, n1, n2, n3, n4⟩⟩ : Rv) HX2.out HKD.out rfl rfl HI.out ?_
           rw [HST.out]
           intro w4 hX4 g4 hs4
           have HX4 := Lib.hid hX4
           have HS4 := Lib.hid (HS2.out.grown g4 (by simp; omega))
           have HB4 := Lib.hid (HB2.out.grown g4 (by omega) (fun k e => by injection e with e; omega))
           clear hX4 g4))
      go_roundw
      case rel => exact ⟨k + 1, by go_num, by omega, HX4, HS4, HB4, by rw [Hid]; omega⟩
      case measure => simp [intOf]; omega
    · obtain rfl : k = ds.length := by omega
      rw [upTo_all] at HX
      go_wp2
      go_ret
      exact ⟨gl, rfl, Nat.le_of_lt HGL.out, HX.out, HB.out⟩
end Go.Proofs.YtapbcepjcnnkgaaDoor
/- Two lists of sets that are one: the statement's equal. -/
namespace Go.Proofs.YtapbcepjcnnkgaaDoor
open Go.RowKit Go.Sort Go.Shelf

theorem sets_at {la lb : List Sx} (h : la.map Sx.st = lb.map Sx.st) {i : Nat} (h1 : i < la.length) (h2 : i < lb.length) : la[i].k = lb[i].k ∧ la[i].ttl = lb[i].ttl ∧ la[i].ds = lb[i].ds := by
  have e : (la.map Sx.st)[i]'(by rw [List.length_map]; exact h1) = (lb.map Sx.st)[i]'(by rw [List.length_map]; exact h2) := List.getElem_of_eq h _
  rw [List.getElem_map, List.getElem_map] at e
  exact sx_eq e
set_option maxHeartbeats 4000000 in
set_option maxRecDepth 100000 in
theorem equal_any (la lb : List Sx) (va vb : Value) (lo lo2 : Nat) (w : World) (ha : SetsAt w lo w.heap.size va la) (hb : SetsAt w lo2 w.heap.size vb lb) (he : la.map Sx.st = lb.map Sx.st) (hn : la.length ≤ 4294967296) (hd : ∀ s ∈ la, s.ds.length ≤ 4294967296) :
    Calls Tryd.prog 18 #[va, vb] w fun e w' => e = .returned (.bool true) ∧ Below w.heap.size w w' := by
  obtain ⟨A, c, rfl, hca, hSa, hga⟩ := ha
  obtain ⟨B, c2, rfl, hcb, hSb, hgb⟩ := hb
  have hlen : lb.length = la.length := by have := congrArg List.length he; simpa using this.symm
  have HEQ := Lib.hid (fun (i : Nat) (h1 : i < la.length) (h2 : i < lb.length) => sets_at he h1 h2)
  have hi8 : (Tryd.prog.info? 42).map (·.size) = some 8 := by kernel_rfl
  have HI8 := Lib.hid hi8
  have HSA := Lib.hid hSa
  have HSB := Lib.hid hSb
  have HGA := Lib.hid hga
  have HGB := Lib.hid hgb
  have HD := Lib.hid hd
  have HL := Lib.hid hlen
  rw [hlen]
  clear hca hSa hga hcb hSb hgb he hd hi8 hlen
  go_enter Tryd.func18, Tryd.ntmps18
  go_wp2
  go_loopw [5] (fun s5 wr => ∃ i q : Nat, s5 = .int .i64 i ∧ i ≤ la.length ∧ wr = w.drewN q) (fun s5 _ => la.length - (intOf s5).toNat)
  case atStart => exact ⟨0, 0, rfl, Nat.zero_le _, rfl⟩
  case round =>
    obtain ⟨i, q, rfl, hi, rfl⟩ := hrel
    by_cases hlt : i < la.length
    · have hlb : i < lb.length := by rw [HL.out]; exact hlt
      obtain ⟨e1, e2, e3⟩ := HEQ.out i hlt hlb
      obtain ⟨g, o, rfl, _, _, hc⟩ := HSA.out.at_ hlt
      obtain ⟨g2, o2, rfl, _, _, hc2⟩ := HSB.out.at_ hlb
      obtain ⟨ga, ca, v1, hca, _, hga, r1⟩ := (HGA.out la[i] (List.getElem_mem hlt)).1
      obtain ⟨gb, cb, v2, hcb, _, hgb, r2⟩ := (HGB.out lb[i] (List.getElem_mem hlb)).1
      have hds := HD.out la[i] (List.getElem_mem hlt)
      generalize la[i] = s at *
      generalize lb[i] = t at *
      obtain ⟨⟨an, at', ac⟩, attl, av, ads⟩ := s
      obtain ⟨⟨bn, bt, bc⟩, bttl, bv, bds⟩ := t
      simp only [Kv.mk.injEq] at e1 e2 e3 v1 v2 hds r1 r2 hca hcb
      obtain ⟨e4, e5, e6⟩ := e1
      subst e2 e3 e4 e5 e6 v1 v2
      have i0 : (0 : Int) ≤ (i : Int) := by omega
      have i1 : (i : Int) < (la.length : Int) := by omega
      have a0 : (w.drewN q).cell? ⟨g, o + i * 5 + 0, none⟩ = some (.string an) := hc 0 _ rfl
      have a1 : (w.drewN q).cell? ⟨g, o + i * 5 + 1, none⟩ = some (.int .u16 at') := hc 1 _ rfl
      have a2 : (w.drewN q).cell? ⟨g, o + i * 5 + 2, none⟩ = some (.int .u16 ac) := hc 2 _ rfl
      have a3 : (w.drewN q).cell? ⟨g, o + i * 5 + 3, none⟩ = some (.int .u32 attl) := hc 3 _ rfl
      have a4 : (w.drewN q).cell? ⟨g, o + i * 5 + 4, none⟩ = some (.slice (some ⟨ga, 0, none⟩) ads.length ca) := hc 4 _ rfl
      have b0 : (w.drewN q).cell? ⟨g2, o2 + i * 5 + 0, none⟩ = some (.string an) := hc2 0 _ rfl
      have b1 : (w.drewN q).cell? ⟨g2, o2 + i * 5 + 1, none⟩ = some (.int .u16 at') := hc2 1 _ rfl
      have b2 : (w.drewN q).cell? ⟨g2, o2 + i * 5 + 2, none⟩ = some (.int .u16 ac) := hc2 2 _ rfl
      have b3 : (w.drewN q).cell? ⟨g2, o2 + i * 5 + 3, none⟩ = some (.int .u32 attl) := hc2 3 _ rfl
      have b4 : (w.drewN q).cell? ⟨g2, o2 + i * 5 + 4, none⟩ = some (.slice (some ⟨gb, 0, none⟩) ads.length cb) := hc2 4 _ rfl
      rw [Nat.add_zero] at a0 b0
      have hqs : (an.toList == an.toList) = true := beq_self_eq_true _
      have R1 := Lib.hid (fun (k : Nat) (h : k < ads.length) (W : World) (hW : ∃ n, W = (w.drewN q).drewN n) => (show W.rangeAt ga (k * 8) (dcl ads[k]) from by have := range_drewN (w := w.drewN q) (r1 k h) W hW; rwa [Nat.zero_add] at this))
      have R2 := Lib.hid (fun (k : Nat) (h : k < ads.length) (W : World) (hW : ∃ n, W = (w.drewN q).drewN n) => (show W.rangeAt gb (k * 8) (dcl ads[k]) from by have := range_drewN (w := w.drewN q) (r2 k h) W hW; rwa [Nat.zero_add] at this))
      have HQ : Hid (∀ n, (w.drewN q).drewN n = w.drewN (q + n)) := fun n => World.drewN_drewN ..
      clear hc hc2 r1 r2 hca hcb hga hgb
      generalize w.drewN q = wq at *
      go_wp2_with fail
      go_quiet (fail)
      go_wp2_with fail
      clear a0 a1 a2 a3 b0 b1 b2 b3
      go_loopw [6] (fun s6 wr => ∃ k p : Nat, s6 = .int .i64 k ∧ k ≤ ads.length ∧ wr = wq.drewN p) (fun s6 _ => ads.length - (intOf s6).toNat)
      case atStart => exact ⟨0, nq, rfl, Nat.zero_le _, rfl⟩
      case round =>
        obtain ⟨k, p, rfl, hk, rfl⟩ := hrel
        have x4 : (wq.drewN p).cell? ⟨g, o + i * 5 + 4, none⟩ = some (.slice (some ⟨ga, 0, none⟩) ads.length ca) := a4
        have y4 : (wq.drewN p).cell? ⟨g2, o2 + i * 5 + 4, none⟩ = some (.slice (some ⟨gb, 0, none⟩) ads.length cb) := b4
        have k0 : (0 : Int) ≤ (k : Int) := by omega
        by_cases hlk : k < ads.length
        · have k1 : (k : Int) < (ads.length : Int) := by omega
          have D1 := Lib.hid (fun (W : World) (hW : ∃ n, W = (wq.drewN p).drewN n) => R1.out k hlk W (by obtain ⟨n, rfl⟩ := hW; exact ⟨p + n, by rw [World.drewN_drewN]⟩))
          have D2 := Lib.hid (fun (W : World) (hW : ∃ n, W = (wq.drewN p).drewN n) => R2.out k hlk W (by obtain ⟨n, rfl⟩ := hW; exact ⟨p + n, by rw [World.drewN_drewN]⟩))
          generalize ads[k] = d at *
          have HP : Hid (∀ n, (wq.drewN p).drewN n = wq.drewN (p + n)) := fun n => World.drewN_drewN ..
          generalize wq.drewN p = wp at *
          go_wp2_with fail
          refine wp_region_quiet_lit (by kernel_rfl) (by kernel_rfl) ?_
          repeat (first
            | (refine wpQuiet_load_mid rfl 42 (.tmp 73) rfl ga (k * 8) rfl (dcl d) _ D1.out Tryd.underlying42 rfl HI8.out ?_)
            | (refine wpQuiet_load_mid rfl 42 (.tmp 81) rfl gb (k * 8) rfl (dcl d) _ D2.out Tryd.underlying42 rfl HI8.out ?_)
            | (refine wpQuiet_neq_data rfl (.tmp 74) (.tmp 82) rfl d d rfl rfl true (decide_eq_true rfl) ?_)
            | quiet_step (fail))
          refine wpQuiet_nil ?_
          rintro _ ⟨np, rfl⟩
          go_wp2_with fail
          go_roundw
          case rel => exact ⟨k + 1, p + np, by go_num, by omega, HP.out np⟩
          case measure => simp [intOf]; omega
        · obtain rfl : k = ads.length := by omega
          go_wp2_with fail
          go_roundw
          case rel => exact ⟨i + 1, q + p, by go_num, by omega, HQ.out p⟩
          case measure => simp [intOf]; omega
    · obtain rfl : i = la.length := by omega
      go_wp2_with fail
      go_ret
      exact ⟨rfl, below_drewN (Below.refl _ _) q⟩
end Go.Proofs.YtapbcepjcnnkgaaDoor
/- RrsetSet: what is known within the walk. -/
namespace Go.Proofs.YtapbcepjcnnkgaaDoor
open Go.RowKit Go.Sort Go.Shelf

/-- a slice of structs at hand. -/
structure Rdx {α : Type} (enc : α → List Value) (k : Nat) (W : World) (A : Option Addr) (c : Nat) (xs : List α) : Prop where
  cap : xs.length ≤ c
  nil : A = none → c = 0
  row : Srow enc k W 0 W.heap.size A xs
section
variable {α : Type} {enc : α → List Value} {k : Nat} {W W' : World} {A : Option Addr} {c : Nat} {xs : List α}
theorem Rdx.keep (h : Rdx enc k W A c xs) (hb : Below W.heap.size W W') : Rdx enc k W' A c xs := ⟨h.cap, h.nil, (h.row.keep hb).more (Nat.le_refl _) hb.size⟩
theorem Rdx.own (hk : ∀ x, (enc x).length = k) {base : Nat} {e : TypeId} {v : Value} (h : Own enc k W base e v xs) : ∃ A c, v = .slice A xs.length c ∧ Rdx enc k W A c xs := by
  obtain ⟨A, c, hv, hc, hs⟩ := Own.srow hk h
  refine ⟨A, c, hv, hc, fun hA => ?_, hs.more (Nat.zero_le _) (Nat.le_refl _)⟩
  rcases h.2 with ⟨h1, _⟩ | ⟨g, cap, cur, h1, _⟩
  · rw [hv] at h1
    injection h1
  · rw [hv] at h1
    injection h1 with h1 _ _
    rw [hA] at h1
    cases h1
end
theorem all_from {rs : List Rv} {ls : List Sx} (h : ls.map Sx.st = Rr.sets (fcs rs)) : ∀ r ∈ ls.flatMap Sx.recs, ∃ o ∈ rs, o.fold.kv = r.kv ∧ o.fold.d = r.d := fun r hr => by
  have h1 : r.rc ∈ Rr.all (fcs rs) := by rw [← all_is h]; exact List.mem_map_of_mem hr
  obtain ⟨h2, _, h4⟩ := Rr.all_mem.1 h1
  obtain ⟨q, hq, hqd⟩ := Rr.grp_mem.1 h4
  obtain ⟨hq1, hq2⟩ := Rr.ofKey_mem.1 hq
  obtain ⟨p, hp, rfl⟩ := List.mem_map.1 hq1
  obtain ⟨o, ho, rfl⟩ := List.mem_map.1 hp
  exact ⟨o, ho, kv_ky hq2, dv_dt hqd⟩
theorem all_ok {rs : List Rv} {ls : List Sx} (h : ls.map Sx.st = Rr.sets (fcs rs)) (hr : ∀ r ∈ rs, r.nums ∧ r.short) : ∀ r ∈ ls.flatMap Sx.recs, r.nums ∧ r.short := fun r hm => by
  obtain ⟨o, ho, e1, e2⟩ := all_from h r hm
  have h1 := rv_fold_nums (hr o ho).1
  have h2 := rv_fold_short (hr o ho).2
  generalize o.fold = q at *
  obtain ⟨nm, ty, cl, ttl, d⟩ := r
  obtain ⟨nm', ty', cl', ttl', d'⟩ := q
  unfold Rv.kv at e1
  injection e1 with a1 a2 a3
  simp only at a1 a2 a3 e2
  subst a1 a2 a3 e2
  exact ⟨h1, h2⟩
theorem all_len {ls : List Sx} {n : Nat} (h : ∀ s ∈ ls, s.ds.length ≤ n) : (ls.flatMap Sx.recs).length ≤ ls.length * n := by
  induction ls with
  | nil => exact Nat.zero_le _
  | cons s ls ih =>
    have h1 := ih (fun t ht => h t (List.mem_cons_of_mem _ ht))
    have h2 := h s (List.mem_cons_self ..)
    have h3 : s.recs.length = s.ds.length := List.length_map ..
    rw [List.flatMap_cons, List.length_append, List.length_cons, Nat.add_mul, Nat.one_mul]
    omega
theorem few_sets {l : List Sx} {rs : List Rv} (h : l.map Sx.st = Rr.sets (fcs rs)) : l.length ≤ rs.length := by
  have h1 := congrArg List.length h
  have h2 := Rr.sets_le (fcs rs)
  rw [List.length_map] at h1
  unfold fcs at h1 h2
  rw [List.length_map, List.length_map] at h2
  omega
theorem few_ds {l : List Sx} {rs : List Rv} (h : l.map Sx.st = Rr.sets (fcs rs)) : ∀ s ∈ l, s.ds.length ≤ rs.length := fun s hs => by
  have h1 : s.st ∈ Rr.sets (fcs rs) := by rw [← h]; exact List.mem_map_of_mem hs
  have h2 := Rr.ds_le h1
  have h3 : s.st.ds.length = s.ds.length := List.length_map ..
  unfold fcs at h2
  rw [List.length_map, List.length_map] at h2
  omega
theorem setsAt_low {w : World} {lo : Nat} {v : Value} {l : List Sx} (h : SetsAt w lo w.heap.size v l) : SetsAt w 0 w.heap.size v l := setsAt_keep h (Below.refl _ _)
end Go.Proofs.YtapbcepjcnnkgaaDoor
