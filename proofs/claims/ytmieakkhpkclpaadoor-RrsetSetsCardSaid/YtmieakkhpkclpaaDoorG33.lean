/- Texts of the proofs, merged. -/
import Derived.Test.YtmieakkhpkclpaaDoorG32
import Derived.Test.YtmieakkhpkclpaaDoorG6
/- Same: the program's, whole. -/
namespace Go.Proofs.YtmieakkhpkclpaaDoor
open Go.RowKit Go.Sort Go.Shelf

namespace Rr
theorem cpt_le {α : Type} [DecidableEq α] (l : List α) : (cpt l).length ≤ l.length := by
  refine snoc_ind (P := fun l => (cpt l).length ≤ l.length) (Nat.le_refl _) (fun l x ih => ?_) l
  rw [cpt_snoc]
  unfold cp1
  rw [List.length_append, List.length_singleton]
  split
  · omega
  · rw [List.length_append, List.length_singleton]
    omega
theorem sets_le (F : List Rc) : (sets F).length ≤ F.length := by
  unfold sets keys
  rw [List.length_map]
  refine Nat.le_trans (cpt_le _) ?_
  rw [sort_length, List.length_map]
  exact Nat.le_refl _
theorem ds_le {F : List Rc} {x : St} (h : x ∈ sets F) : x.ds.length ≤ F.length := by
  obtain ⟨k, _, rfl⟩ := List.mem_map.1 h
  show (cpt (sort cmpD ((ofKey F k).map Rc.d))).length ≤ _
  refine Nat.le_trans (cpt_le _) ?_
  rw [sort_length, List.length_map]
  exact List.length_filter_le _ _
end Rr
theorem setsAt_keep {w w' : World} {lo : Nat} {v : Value} {l : List Sx} (h : SetsAt w lo w.heap.size v l) (hb : Below w.heap.size w w') : SetsAt w' 0 w'.heap.size v l := by
  obtain ⟨A, c, h1, h2, h3, h4⟩ := h
  refine ⟨A, c, h1, h2, (h3.keep hb).more (Nat.zero_le _) hb.size, fun s hs => ⟨?_, (h4 s hs).2⟩⟩
  obtain ⟨g, c, a1, a2, a3, a4, a5⟩ := (h4 s hs).1
  exact ⟨g, c, a1, a2, Nat.zero_le _, Nat.lt_of_lt_of_le a4 hb.size, fun j hj => range_below hb a4 (a5 j hj)⟩
def fcs (rs : List Rv) : List Rr.Rc := (rs.map Rv.fold).map Rv.rc
theorem len_sets {l : List Sx} {rs : List Rv} (h : l.map Sx.st = Rr.sets ((rs.map Rv.fold).map Rv.rc)) (hn : rs.length ≤ 4294967296) : l.length ≤ 4294967296 := by
  have h1 := congrArg List.length h
  have h2 := Rr.sets_le ((rs.map Rv.fold).map Rv.rc)
  rw [List.length_map] at h1
  rw [List.length_map, List.length_map] at h2
  omega
theorem len_ds {l : List Sx} {rs : List Rv} (h : l.map Sx.st = Rr.sets ((rs.map Rv.fold).map Rv.rc)) (hn : rs.length ≤ 4294967296) : ∀ s ∈ l, s.ds.length ≤ 4294967296 := fun s hs => by
  have h1 : s.st ∈ Rr.sets ((rs.map Rv.fold).map Rv.rc) := by rw [← h]; exact List.mem_map_of_mem hs
  have h2 := Rr.ds_le h1
  have h3 : s.st.ds.length = s.ds.length := List.length_map ..
  rw [List.length_map, List.length_map] at h2
  omega
set_option maxHeartbeats 1000000 in
set_option maxRecDepth 100000 in
theorem same_any (ra rb : List Rv) (A B : Option Addr) (ca cb : Nat) (w : World) (hL : LayR w) (hSa : Srow rcl 12 w 0 w.heap.size A ra) (hSb : Srow rcl 12 w 0 w.heap.size B rb) (hra : ∀ r ∈ ra, r.nums ∧ r.short) (hrb : ∀ r ∈ rb, r.nums ∧ r.short) (hna : ra.length ≤ 4294967296) (hnb : rb.length ≤ 4294967296) :
    Calls Tryd.prog 12 #[.slice A ra.length ca, .slice B rb.length cb] w fun e w' => e = .returned (.bool (decide ((Rr.sets (fcs ra)).map Rr.hd = (Rr.sets (fcs rb)).map Rr.hd))) ∧ Below w.heap.size w w' := by
  have H1 := Lib.hid (sets_any ra A ca w hL hSa hra hna)
  have H2 := Lib.hid (fun (W : World) (hb : Below w.heap.size w W) => sets_any rb B cb W (hL.below hb (Nat.le_refl _)) ((hSb.keep hb).more (Nat.le_refl _) hb.size) hrb hnb)
  have HN : Hid (ra.length ≤ 4294967296) := hna
  clear hL hSa hSb hra hrb hna hnb
  go_enter Tryd.func12, Tryd.ntmps12
  go_wp2_with (first
    | (go_at_call_of 7 (Value.slice A ra.length ca); refine H1.out.mono ?_; rintro e w1 ⟨la, va, rfl, hla, hat, B1⟩; have HLA := Lib.hid hla; have HAT := Lib.hid hat; have HB1 := Lib.hid B1; clear hla hat B1)
    | (go_at_call_of 7 (Value.slice B rb.length cb); refine (H2.out _ HB1.out).mono ?_; rintro e w2 ⟨lb, vb, rfl, hlb, hbt, B2⟩; have HLB := Lib.hid hlb; have HBT := Lib.hid (setsAt_keep hbt (Below.refl _ _)); have HAT2 := Lib.hid (setsAt_keep HAT.out B2); have HB2 := Lib.hid (HB1.out.trans (B2.mono HB1.out.size)); clear hlb hbt B2)
    | (go_at_call 22; refine (eqf_any la lb va vb _ HAT2.out HBT.out (len_sets HLA.out HN.out) (len_ds HLA.out HN.out)).mono ?_; rintro e w3 ⟨rfl, B3⟩; have HB3 := Lib.hid (HB2.out.trans (B3.mono HB2.out.size)); clear B3))
  go_ret
  refine ⟨?_, HB3.out⟩
  have e1 : likes la lb = decide ((Rr.sets (fcs ra)).map Rr.hd = (Rr.sets (fcs rb)).map Rr.hd) := by
    rw [Bool.eq_iff_iff, likes_iff, decide_eq_true_eq, HLA.out, HLB.out]
    exact Iff.rfl
  rw [← e1]
  rfl
end Go.Proofs.YtmieakkhpkclpaaDoor
