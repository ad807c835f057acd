/- Texts of the proofs, merged. -/
import Derived.Test.YtmieakkhpkclpaaDoorG30
import Derived.Test.YtmieakkhpkclpaaDoorG31
import Derived.Test.YtmieakkhpkclpaaDoorG6
/- Two lists of records compared: the program's. -/
namespace Go.Proofs.YtmieakkhpkclpaaDoor
open Go.RowKit Go.Sort Go.Shelf

def likes : List Sx → List Sx → Bool
  | [], [] => true
  | a :: r, b :: s => a.like b && likes r s
  | _, _ => false
theorem likes_iff : ∀ a b : List Sx, likes a b = true ↔ (a.map Sx.st).map Rr.hd = (b.map Sx.st).map Rr.hd
  | [], [] => by simp [likes]
  | [], _ :: _ => by simp [likes]
  | _ :: _, [] => by simp [likes]
  | a :: r, b :: s => by
    have ih := likes_iff r s
    simp only [likes, Bool.and_eq_true, ih, List.map_cons, List.cons.injEq]
    refine and_congr_left fun _ => ?_
    unfold Sx.like Rr.hd Sx.st
    rw [decide_eq_true_eq, Prod.mk.injEq]
    constructor
    · rintro ⟨h1, h2⟩
      rw [h1, h2]
      exact ⟨rfl, rfl⟩
    · rintro ⟨h1, h2⟩
      exact ⟨kv_ky h1, List.map_inj_right (fun _ _ h => dv_dt h) |>.1 h2⟩
theorem likes_at : ∀ (a b : List Sx) (_ : a.length = b.length), likes a b = decide (∀ j (h : j < a.length) (h2 : j < b.length), a[j].like b[j] = true)
  | [], [], _ => by simp [likes]
  | a :: r, b :: s, h => by
    have ih := likes_at r s (by simpa using h)
    rw [likes, ih, Bool.eq_iff_iff, Bool.and_eq_true, decide_eq_true_eq, decide_eq_true_eq]
    constructor
    · rintro ⟨h1, h2⟩ j hj hj2
      cases j with
      | zero => exact h1
      | succ j => exact h2 j (by simpa using hj) (by simpa using hj2)
    · intro h1
      exact ⟨h1 0 (by simp) (by simp), fun j hj hj2 => h1 (j + 1) (by simpa using hj) (by simpa using hj2)⟩
theorem likes_len {a b : List Sx} (h : a.length ≠ b.length) : likes a b = false := by
  by_cases h1 : likes a b = true
  · have := congrArg List.length ((likes_iff a b).1 h1)
    simp at this
    exact absurd this h
  · simpa using h1
set_option maxHeartbeats 2000000 in
set_option maxRecDepth 100000 in
theorem eqf_any (a b : List Sx) (va vb : Value) (w : World) (ha : SetsAt w 0 w.heap.size va a) (hb : SetsAt w 0 w.heap.size vb b) (hn : a.length ≤ 4294967296) (hds : ∀ s ∈ a, s.ds.length ≤ 4294967296) :
    Calls Tryd.prog 22 #[va, vb, .func (.func 23) #[] #[]] w fun e w' => e = .returned (.bool (likes a b)) ∧ Below w.heap.size w w' := by
  obtain ⟨A, c1, rfl, hc1, hSa, hda⟩ := ha
  obtain ⟨B, c2, rfl, hc2, hSb, hdb⟩ := hb
  have HSA := Lib.hid hSa
  have HSB := Lib.hid hSb
  have HDA := Lib.hid hda
  have HDB := Lib.hid hdb
  have HDS := Lib.hid hds
  clear hSa hSb hda hdb hds hc1 hc2
  have hi5 : (Tryd.prog.info? 30).map (·.size) = some 5 := by kernel_rfl
  have HI := Lib.hid hi5
  clear hi5
  by_cases hl : a.length = b.length
  · have HLA := Lib.hid (likes_at a b hl)
    rw [← hl]
    have HL := Lib.hid hl
    clear hl
    go_enter Tryd.func22, Tryd.ntmps22
    go_wp2
    go_loopw [17] (fun i wr => ∃ k : Nat, i = .int .i64 k ∧ k ≤ a.length ∧ Hid (∀ j (h : j < a.length) (h2 : j < b.length), j < k → a[j].like b[j] = true) ∧ Hid (Below w.heap.size w wr)) (fun i _ => a.length - (intOf i).toNat)
    case atStart => exact ⟨0, rfl, Nat.zero_le _, fun j _ _ h => absurd h (Nat.not_lt_zero _), Below.refl _ _⟩
    case round =>
      obtain ⟨k, rfl, hk, HT, HB⟩ := hrel
      have hwr := HB.out.size
      by_cases hlt : k < a.length
      · have hlb : k < b.length := by rw [← HL.out]; exact hlt
        obtain ⟨g1, o1, rfl, _, hg1, hr1⟩ := HSA.out.at_ hlt
        obtain ⟨g2, o2, rfl, _, hg2, hr2⟩ := HSB.out.at_ hlb
        have HR1 := Lib.hid (range_below HB.out hg1 hr1)
        have HR2 := Lib.hid (range_below HB.out hg2 hr2)
        have HKA := Lib.hid (HDA.out _ (List.getElem_mem hlt))
        have HKB := Lib.hid (HDB.out _ (List.getElem_mem hlb))
        have hdl := HDS.out _ (List.getElem_mem hlt)
        have HNX : Hid (∀ q : Bool, a[k].like b[k] = q → (q = true → ∀ j (h : j < a.length) (h2 : j < b.length), j < k + 1 → a[j].like b[j] = true) ∧ (q = false → likes a b = false)) := fun q hq => ⟨fun e j h h2 hj => by
          by_cases hjk : j = k
          · subst hjk; rw [hq, e]
          · exact HT.out j h h2 (by omega), fun e => by
          rw [HLA.out]
          exact decide_eq_false (fun hall => by have := hall k hlt hlb; rw [hq, e] at this; cases this)⟩
        have HCL := Lib.hid (fun (W : World) (hbW : Below w.heap.size w W) => like_any a[k] b[k] W 0 0 (by
          obtain ⟨g, c, h1, h2, h3, h4, h5⟩ := HKA.out.1
          exact ⟨g, c, h1, h2, h3, Nat.lt_of_lt_of_le h4 hbW.size, fun j hj => range_below hbW h4 (h5 j hj)⟩) (by
          obtain ⟨g, c, h1, h2, h3, h4, h5⟩ := HKB.out.1
          exact ⟨g, c, h1, h2, h3, Nat.lt_of_lt_of_le h4 hbW.size, fun j hj => range_below hbW h4 (h5 j hj)⟩) hdl)
        have HOA := Lib.hid (all_oneCell_toArray (scl_one HKA.out.2.2.1))
        have HOB := Lib.hid (all_oneCell_toArray (scl_one HKB.out.2.2.1))
        clear hr1 hr2 HKA HKB hdl
        obtain ⟨q, hq⟩ : ∃ q, a[k].like b[k] = q := ⟨_, rfl⟩
        have HN2 := Lib.hid (HNX.out q hq)
        rw [hq] at HCL
        clear hq HNX
        generalize a[k] = s at *
        generalize b[k] = t at *
        clear hlb
        cases q with
        | true =>
          go_wp2_with (first
            | (refine wpList_load_mid rfl 30 (.tmp 20) rfl g1 (o1 + k * 5) rfl s.cells _ HR1.out Tryd.underlying30 rfl HI.out ?_)
            | (refine wpList_store_boxed rfl 30 (.tmp 8) (.tmp 21) rfl 30 _ s.cells.toArray rfl rfl HI.out rfl HOA.out ?_; intro w2 hY g2' hs2; have HY2 := Lib.hid hY; have HR22 : Hid (w2.rangeAt g2 (o2 + k * 5) t.cells) := (fun i u hu => g2'.cell (HR2.out i u hu) (by simp)); have HB2 := Lib.hid (grown_none g2' HB.out hwr); clear hY g2' hs2)
            | (refine wpList_load_mid rfl 30 (.tmp 24) rfl g2 (o2 + k * 5) rfl t.cells _ HR22.out Tryd.underlying30 rfl HI.out ?_)
            | (refine wpList_store_boxed rfl 30 (.tmp 9) (.tmp 25) rfl 30 _ t.cells.toArray rfl rfl HI.out rfl HOB.out ?_; intro w3 hY g3' hs3; have HZ3 := Lib.hid hY; have HY3 := Lib.hid (HY2.out.grown g3' (by simp)); have HB3 := Lib.hid (grown_none g3' HB2.out HB2.out.size); clear hY g3' hs3)
            | (refine wpList_load_row rfl 30 (.tmp 8) rfl wr.heap.size rfl 30 s.cells.toArray (0, 0) _ HY3.out Tryd.underlying30 rfl HI.out ?_)
            | (refine wpList_load_row rfl 30 (.tmp 9) rfl w2.heap.size rfl 30 t.cells.toArray (0, 0) _ HZ3.out Tryd.underlying30 rfl HI.out ?_)
            | (go_at_call 23; refine (HCL.out _ HB3.out).mono ?_; rintro e w4 ⟨rfl, B4⟩; have HB4 := Lib.hid (HB3.out.trans (B4.mono HB3.out.size)); clear B4))
          go_roundw
          case rel => exact ⟨k + 1, by go_num, by omega, HN2.out.1 (by first | rfl | trivial), HB4⟩
          case measure => simp [intOf]; omega
        | false =>
          go_wp2_with (first
            | (refine wpList_load_mid rfl 30 (.tmp 20) rfl g1 (o1 + k * 5) rfl s.cells _ HR1.out Tryd.underlying30 rfl HI.out ?_)
            | (refine wpList_store_boxed rfl 30 (.tmp 8) (.tmp 21) rfl 30 _ s.cells.toArray rfl rfl HI.out rfl HOA.out ?_; intro w2 hY g2' hs2; have HY2 := Lib.hid hY; have HR22 : Hid (w2.rangeAt g2 (o2 + k * 5) t.cells) := (fun i u hu => g2'.cell (HR2.out i u hu) (by simp)); have HB2 := Lib.hid (grown_none g2' HB.out hwr); clear hY g2' hs2)
            | (refine wpList_load_mid rfl 30 (.tmp 24) rfl g2 (o2 + k * 5) rfl t.cells _ HR22.out Tryd.underlying30 rfl HI.out ?_)
            | (refine wpList_store_boxed rfl 30 (.tmp 9) (.tmp 25) rfl 30 _ t.cells.toArray rfl rfl HI.out rfl HOB.out ?_; intro w3 hY g3' hs3; have HZ3 := Lib.hid hY; have HY3 := Lib.hid (HY2.out.grown g3' (by simp)); have HB3 := Lib.hid (grown_none g3' HB2.out HB2.out.size); clear hY g3' hs3)
            | (refine wpList_load_row rfl 30 (.tmp 8) rfl wr.heap.size rfl 30 s.cells.toArray (0, 0) _ HY3.out Tryd.underlying30 rfl HI.out ?_)
            | (refine wpList_load_row rfl 30 (.tmp 9) rfl w2.heap.size rfl 30 t.cells.toArray (0, 0) _ HZ3.out Tryd.underlying30 rfl HI.out ?_)
            | (go_at_call 23; refine (HCL.out _ HB3.out).mono ?_; rintro e w4 ⟨rfl, B4⟩; have HB4 := Lib.hid (HB3.out.trans (B4.mono HB3.out.size)); clear B4))
          go_ret
          refine ⟨?_, HB4.out⟩
          rw [HN2.out.2 (by first | rfl | trivial)]
          rfl
      · obtain rfl : k = a.length := by omega
        go_wp2
        go_ret
        refine ⟨?_, HB.out⟩
        rw [HLA.out, decide_eq_true (fun j h h2 => HT.out j h h2 h)]
        rfl
  · have hne : ¬ (a.length : Int) = (b.length : Int) := by omega
    have HLL := Lib.hid (likes_len hl)
    clear hl
    go_enter Tryd.func22, Tryd.ntmps22
    go_wp2
    go_ret
    exact ⟨by rw [HLL.out]; rfl, Below.refl _ _⟩
end Go.Proofs.YtmieakkhpkclpaaDoor
