/- Texts of the proofs, merged. -/
import Derived.Test.YtmieakkhpkclpaaDoorG9
import Derived.Test.YtmieakkhpkclpaaDoorG19
import Derived.Deep.MidRow
import Derived.Test.YtmieakkhpkclpaaDoorG13
import Derived.Test.YtmieakkhpkclpaaDoorG21
import Derived.Test.YtmieakkhpkclpaaDoorG22
import Derived.Test.YtmieakkhpkclpaaDoorG23
/- Records in small letters, and their keys: the program's. -/
namespace Go.Proofs.YtmieakkhpkclpaaDoor
open Go.RowKit

/-- a record in small letters. -/
def Rv.fold (r : Rv) : Rv := { r with nm := ⟨(Nm.fold r.nm.data.toList).toArray⟩, d := r.d.fold r.ty }
def Rv.nums (r : Rv) : Prop := r.ty ≤ 65535 ∧ r.cl ≤ 65535
theorem rv_nm {W : World} {g : Nat} {r : Rv} {t : TypeId} (h : Has W g t r.cells) : W.cell? ⟨g, 0, none⟩ = some (.string r.nm) := by rw [h.cell]; rfl
theorem rv_ty {W : World} {g : Nat} {r : Rv} {t : TypeId} (h : Has W g t r.cells) : W.cell? ⟨g, 1, none⟩ = some (.int .u16 r.ty) := by rw [h.cell]; rfl
theorem rv_ttl {W : World} {g : Nat} {r : Rv} {t : TypeId} (h : Has W g t r.cells) : W.cell? ⟨g, 3, none⟩ = some (.int .u32 r.ttl) := by rw [h.cell]; rfl
theorem rv_data {W : World} {g : Nat} {r : Rv} {t : TypeId} (h : Has W g t r.cells) : W.rangeAt g 4 r.d.cells.toList := fun j v hj => by
  rw [h.cell]
  have hl : j < 8 := (List.getElem?_eq_some_iff.1 hj).1
  rw [← hj]
  rcases (by omega : j = 0 ∨ j = 1 ∨ j = 2 ∨ j = 3 ∨ j = 4 ∨ j = 5 ∨ j = 6 ∨ j = 7) with rfl | rfl | rfl | rfl | rfl | rfl | rfl | rfl <;> rfl
theorem rv_there {W : World} {g : Nat} {r : Rv} {t : TypeId} (h : Has W g t r.cells) : W.there g 4 8 := fun j hj => by
  refine ⟨?_, h.free _⟩
  rw [h.cell]
  rcases (by omega : j = 0 ∨ j = 1 ∨ j = 2 ∨ j = 3 ∨ j = 4 ∨ j = 5 ∨ j = 6 ∨ j = 7) with rfl | rfl | rfl | rfl | rfl | rfl | rfl | rfl <;> rfl
theorem rv_one (r : Rv) : (r.cells.all fun x => x.oneCell') = true := by simp [Rv.cells, Value.oneCell']
theorem set_range {g : Nat} {t : TypeId} : ∀ (vs : List Value) (o : Nat) (F : Array Value) {w : World}, Has w g t F → ∃ F', Has (w.setCells g o vs) g t F' ∧ F'.size = F.size ∧ (∀ B, B ≤ g → ∀ a, Below B a w → Below B a (w.setCells g o vs)) ∧ (∀ j, F'[j]? = if o ≤ j ∧ j < o + vs.length ∧ j < F.size then vs[j - o]? else F[j]?)
  | [], o, F, w, h => ⟨F, h, rfl, fun _ _ _ h => h, fun j => by rw [if_neg (by simp; omega)]⟩
  | v :: r, o, F, w, h => by
    obtain ⟨F', h1, h2, h3, h4⟩ := set_range r (o + 1) _ (h.set o v)
    refine ⟨F', h1, by simpa using h2, fun B hB a hb => h3 B hB a (hb.setCell (p := ⟨g, o, none⟩) hB v), fun j => ?_⟩
    rw [h4]
    by_cases e : o = j
    · subst e
      rw [if_neg (by omega)]
      by_cases hs : o < F.size
      · rw [if_pos ⟨by omega, by simp, hs⟩]
        simp [hs]
      · rw [if_neg (by omega)]
        simp [hs]
    · by_cases hc : o + 1 ≤ j ∧ j < o + 1 + r.length ∧ j < F.size
      · rw [if_pos (by simpa using hc), if_pos (by simp; omega)]
        rw [show j - o = (j - (o + 1)) + 1 by omega, List.getElem?_cons_succ]
      · rw [if_neg (by simpa using hc), if_neg (by simp; omega)]
        simp [e]
/-- data stored into a record. -/
theorem rv_set_data {w : World} {g : Nat} {t : TypeId} {r : Rv} (h : Has w g t r.cells) (d : Dv) : Has (w.setCells g 4 d.cells.toList) g t ({ r with d := d } : Rv).cells ∧ ∀ B, B ≤ g → ∀ a, Below B a w → Below B a (w.setCells g 4 d.cells.toList) := by
  obtain ⟨F', h1, h2, h3, h4⟩ := set_range (w := w) d.cells.toList 4 _ h
  have e : F' = ({ r with d := d } : Rv).cells := by
    apply Array.ext_getElem?
    intro j
    rw [h4]
    by_cases hj : j < 12
    · rcases (by omega : j = 0 ∨ j = 1 ∨ j = 2 ∨ j = 3 ∨ j = 4 ∨ j = 5 ∨ j = 6 ∨ j = 7 ∨ j = 8 ∨ j = 9 ∨ j = 10 ∨ j = 11) with rfl | rfl | rfl | rfl | rfl | rfl | rfl | rfl | rfl | rfl | rfl | rfl <;> rfl
    · rw [if_neg (by simp [Rv.cells]; omega), Array.getElem?_eq_none (by simp [Rv.cells]; omega), Array.getElem?_eq_none (by simp [Rv.cells]; omega)]
  rw [e] at h1
  exact ⟨h1, h3⟩
set_option maxHeartbeats 400000 in
set_option maxRecDepth 100000 in
theorem rrFold_any (r : Rv) (w : World) (hL : LayR w) (ht : r.ty ≤ 65535) (hs : r.short) :
    Calls Tryd.prog 26 #[r.val] w fun e w' => e = .returned r.fold.val ∧ Below w.heap.size w w' := by
  have HN := Lib.hid (fun W : World => Fold_any r.nm W hs.1)
  have HD := Lib.hid (fun (W : World) (h : LayR W) => (show Calls Tryd.prog 41 #[.int .u16 r.ty, .agg r.d.cells] W (fun e w' => e = .returned (.agg (r.d.fold r.ty).cells) ∧ Below W.heap.size W w') from pdFold_any r.ty r.d W ht h hs.2.1 hs.2.2))
  have hf : r.fold = { r with nm := ⟨(Nm.fold r.nm.data.toList).toArray⟩, d := r.d.fold r.ty } := rfl
  generalize (⟨(Nm.fold r.nm.data.toList).toArray⟩ : ByteArray) = N at *
  generalize r.d.fold r.ty = D at *
  obtain ⟨R, hR⟩ : ∃ R, r.fold = R := ⟨_, rfl⟩
  rw [hR]
  rw [hR] at hf
  have HRES := Lib.hid hf
  clear hR hf
  have HL := Lib.hid hL
  clear hL hs ht
  have hval : r.val = .agg r.cells := rfl
  have hd8 : ∀ d : Dv, d.val = .agg d.cells := fun _ => rfl
  have hi12 : (Tryd.prog.info? 43).map (·.size) = some 12 := by kernel_rfl
  have HI := Lib.hid hi12
  have hi8 : (Tryd.prog.info? 41).map (·.size) = some 8 := by kernel_rfl
  have HI8 := Lib.hid hi8
  clear hi12 hi8
  have HX0 : Hid (Has ((w.alloc (.cells r.cells 43)).alloc (.cells #[.string ⟨#[]⟩, .int .u16 0, .int .u16 0, .int .u32 0, .string ⟨#[]⟩, .string ⟨#[]⟩, .string ⟨#[]⟩, .int .u32 0, .int .u32 0, .int .u32 0, .int .u32 0, .int .u32 0] 43)) w.heap.size 43 r.cells) := (Has.fresh w _ _).alloc _
  have HZ0 : Hid (Has ((w.alloc (.cells r.cells 43)).alloc (.cells #[.string ⟨#[]⟩, .int .u16 0, .int .u16 0, .int .u32 0, .string ⟨#[]⟩, .string ⟨#[]⟩, .string ⟨#[]⟩, .int .u32 0, .int .u32 0, .int .u32 0, .int .u32 0, .int .u32 0] 43)) (w.heap.size + 1) 43 #[.string ⟨#[]⟩, .int .u16 0, .int .u16 0, .int .u32 0, .string ⟨#[]⟩, .string ⟨#[]⟩, .string ⟨#[]⟩, .int .u32 0, .int .u32 0, .int .u32 0, .int .u32 0, .int .u32 0]) := by
    have h := Has.fresh (w.alloc (.cells r.cells 43)) 43 #[.string ⟨#[]⟩, .int .u16 0, .int .u16 0, .int .u32 0, .string ⟨#[]⟩, .string ⟨#[]⟩, .string ⟨#[]⟩, .int .u32 0, .int .u32 0, .int .u32 0, .int .u32 0, .int .u32 0]
    have e : (w.alloc (.cells r.cells 43)).heap.size = w.heap.size + 1 := by simp
    rw [e] at h
    exact h
  have HB0 : Hid (Below w.heap.size w ((w.alloc (.cells r.cells 43)).alloc (.cells #[.string ⟨#[]⟩, .int .u16 0, .int .u16 0, .int .u32 0, .string ⟨#[]⟩, .string ⟨#[]⟩, .string ⟨#[]⟩, .int .u32 0, .int .u32 0, .int .u32 0, .int .u32 0, .int .u32 0] 43))) := ((Below.refl _ _).alloc (Nat.le_refl _) _).alloc (by simp) _
  have c0 := rv_nm HX0.out
  go_enter Tryd.func26, Tryd.ntmps26
  go_wp2_with (first
    | (go_at_call 40
       refine (HN.out _).mono ?_
       rintro e w1 ⟨rfl, B1⟩
       have hs1 := B1.size
       simp only [World.size_alloc] at hs1
       have HX1 := Lib.hid (HX0.out.below B1 (by simp; omega))
       have HZ1 := Lib.hid (HZ0.out.below B1 (by simp))
       have HB1 := Lib.hid (HB0.out.trans (B1.mono (by simp; omega)))
       have c1 := rv_nm HX1.out
       have f1 := HX1.out.free 0
       have HX2 : Hid (Has (w1.setCell ⟨w.heap.size, 0, none⟩ (.string N)) w.heap.size 43 ({ r with nm := N } : Rv).cells) := HX1.out.set 0 _
       have c2 : (w1.setCell ⟨w.heap.size, 0, none⟩ (.string N)).cell? ⟨w.heap.size, 1, none⟩ = some (.int .u16 r.ty) := (by have h := rv_ty HX2.out; exact h)
       clear B1)
    | (refine wpList_load_mid rfl 41 (.tmp 9) rfl w.heap.size 4 rfl r.d.cells.toList _ (by have h := rv_data HX2.out; exact h) Tryd.underlying41 rfl HI8.out ?_)
    | (go_at_call 41
       refine (HD.out _ (HL.out.below (HB1.out.setCell (Nat.le_refl _) _) (Nat.le_refl _))).mono ?_
       rintro e w2 ⟨rfl, B2⟩
       have hs2 := B2.size
       simp only [World.size_setCell] at hs2
       have HX3 := Lib.hid (HX2.out.below B2 (by simp; omega))
       have HZ3 := Lib.hid ((HZ1.out.far (p := ⟨w.heap.size, 0, none⟩) (by simp) (.string N)).below B2 (by simp; omega))
       have HB3 := Lib.hid ((HB1.out.setCell (p := ⟨w.heap.size, 0, none⟩) (Nat.le_refl _) (.string N)).trans (B2.mono (by simp; omega)))
       have HT3 := Lib.hid (rv_there HX3.out)
       have HX4 : Hid (Has (w2.setCells w.heap.size 4 D.cells.toList) w.heap.size 43 R.cells) := by rw [Hid, HRES.out]; exact (rv_set_data HX3.out D).1
       have HB4 := Lib.hid ((rv_set_data HX3.out D).2 _ (Nat.le_refl _) _ HB3.out)
       have HZ4 := Lib.hid (HZ3.out.farCells (g' := w.heap.size) (by omega) D.cells.toList 4)
       clear B2 HX3 HB3 HZ3 HX2)
    | (refine wpList_store_mid rfl 41 (.tmp 12) (.tmp 11) rfl w.heap.size 4 D.cells rfl rfl HT3.out HI8.out (dv_one _) ?_; revert HX4 HZ4 HB4; generalize w2.setCells w.heap.size 4 D.cells.toList = w3; intro HX4 HB4 HZ4; clear c0 c1 c2 f1 hval hd8 HX1 HZ1 HB1 HX0 HZ0 HB0 HT3 hs1; rename_i Q0 K0 A0; refine wpList_nil ?_; change K0 _ _; refine A0 _ _ ?_; clear A0; go_wp2_with (first | (refine wpList_load_row rfl 43 (.tmp 1) rfl w.heap.size rfl 43 R.cells (0, 0) _ HX4.out Tryd.underlying43 rfl HI.out ?_) | (refine wpList_store_row rfl 43 (.tmp 2) (.tmp 13) rfl (w.heap.size + 1) R.cells rfl rfl 43 _ HZ4.out HI.out rfl (rv_one R) ?_))))
  refine bodyPost_ret (results_cell_row rfl _ _ (w.heap.size + 1) 43 R.cells (0, 0) _ rfl (HZ4.out.row _) Tryd.underlying43 rfl HI.out) rfl ?_
  exact ⟨rfl, below_setRow HB4.out (by omega) _⟩
end Go.Proofs.YtmieakkhpkclpaaDoor
/- Records in small letters, as they stand: the program's. -/
namespace Go.Proofs.YtmieakkhpkclpaaDoor
open Go.RowKit Go.Sort Go.Shelf

instance : Inhabited Dv := ⟨⟨⟨#[]⟩, ⟨#[]⟩, ⟨#[]⟩, 0, 0, 0, 0, 0⟩⟩
instance : Inhabited Rv := ⟨⟨⟨#[]⟩, 0, 0, 0, default⟩⟩
theorem rv_fold_short {r : Rv} (h : r.short) : r.fold.short := by
  have hs : ∀ s : ByteArray, (⟨(Nm.fold s.data.toList).toArray⟩ : ByteArray).size = s.size := fun s => by
    show ((Nm.fold s.data.toList).toArray).size = s.size
    simp [Nm.fold]
  obtain ⟨h1, h2, h3⟩ := h
  refine ⟨by show (⟨(Nm.fold r.nm.data.toList).toArray⟩ : ByteArray).size ≤ _; rw [hs]; exact h1, ?_, ?_⟩
  · show (if Rd.isHost r.ty then (⟨(Nm.fold r.d.host.data.toList).toArray⟩ : ByteArray) else r.d.host).size ≤ _
    split
    · rw [hs]; exact h2
    · exact h2
  · show (if Rd.isMail r.ty then (⟨(Nm.fold r.d.mail.data.toList).toArray⟩ : ByteArray) else r.d.mail).size ≤ _
    split
    · rw [hs]; exact h3
    · exact h3
theorem rv_fold_nums {r : Rv} (h : r.nums) : r.fold.nums := h
/-- of records the first k in small letters, then nothing. -/
def foldedTo (rs : List Rv) (k : Nat) : Array Rv := ((rs.take k).map Rv.fold ++ List.replicate (rs.length - k) default).toArray
theorem foldedTo_size (rs : List Rv) {k : Nat} (h : k ≤ rs.length) : (foldedTo rs k).size = rs.length := by
  unfold foldedTo
  simp
  omega
theorem foldedTo_zero (rs : List Rv) : foldedTo rs 0 = Array.replicate rs.length default := by
  unfold foldedTo
  apply Array.ext'
  simp
theorem foldedTo_all (rs : List Rv) : foldedTo rs rs.length = (rs.map Rv.fold).toArray := by
  unfold foldedTo
  simp
theorem foldedTo_set (rs : List Rv) {k : Nat} (h : k < rs.length) : (foldedTo rs k).setIfInBounds k rs[k].fold = foldedTo rs (k + 1) := by
  apply Array.ext'
  apply List.ext_getElem?
  intro i
  have hl : (List.map Rv.fold (rs.take k)).length = k := by simp; omega
  have hl2 : (List.map Rv.fold (rs.take (k + 1))).length = k + 1 := by simp; omega
  unfold foldedTo
  rw [Array.toList_setIfInBounds, List.getElem?_set, List.toList_toArray, List.toList_toArray]
  by_cases e : k = i
  · subst e
    rw [if_pos rfl, if_pos (by simp; omega), List.getElem?_append_left (by omega), List.getElem?_map, List.getElem?_take, if_pos (by omega), List.getElem?_eq_getElem h]
    rfl
  · rw [if_neg e]
    by_cases hi : i < k
    · rw [List.getElem?_append_left (by omega), List.getElem?_append_left (by omega), List.getElem?_map, List.getElem?_map, List.getElem?_take, List.getElem?_take, if_pos hi, if_pos (by omega)]
    · rw [List.getElem?_append_right (by omega), List.getElem?_append_right (by omega), hl, hl2, List.getElem?_replicate, List.getElem?_replicate]
      by_cases h3 : i < rs.length
      · rw [if_pos (by omega), if_pos (by omega)]
      · rw [if_neg (by omega), if_neg (by omega)]
set_option maxHeartbeats 2000000 in
set_option maxRecDepth 100000 in
theorem folded_any (rs : List Rv) (A : Option Addr) (c : Nat) (w : World) (hL : LayR w) (hS : Srow rcl 12 w 0 w.heap.size A rs) (hr : ∀ r ∈ rs, r.nums ∧ r.short) (hn : rs.length ≤ 4294967296) :
    Calls Tryd.prog 14 #[.slice A rs.length c] w fun e w' => ∃ g, e = .returned (.slice (some ⟨g, 0, none⟩) rs.length rs.length) ∧ w.heap.size ≤ g ∧ Has w' g 43 (flatK rcl 12 (rs.map Rv.fold).toArray) ∧ Below w.heap.size w w' := by
  have HL := Lib.hid hL
  have HS := Lib.hid hS
  have HR := Lib.hid hr
  clear hL hS hr
  have hi12 : (Tryd.prog.info? 43).map (·.size) = some 12 := by kernel_rfl
  have HI := Lib.hid hi12
  clear hi12
  obtain ⟨ti, ht1, ht2, ht3, ht4⟩ : ∃ i, Tryd.prog.info? 43 = some i ∧ i.zero = some (.agg (rcl default).toArray) ∧ i.size = 12 ∧ i.bytes = 96 := ⟨_, rfl, by kernel_rfl, by kernel_rfl, by kernel_rfl⟩
  have HT := Lib.hid (And.intro ht1 (And.intro ht2 (And.intro ht3 ht4)))
  clear ht1 ht2 ht3 ht4
  go_enter Tryd.func14, Tryd.ntmps14
  go_wp2_with (refine wpList_make_structs rfl (.tmp 7) (.tmp 7) 22 rfl rcl_len default 43 ti _ 96 Tryd.underlying22 HT.out.1 HT.out.2.1 rfl HT.out.2.2.1 HT.out.2.2.2 .i64 .i64 _ _ rs.length rs.length rfl rfl rfl rfl (Nat.le_refl _) (by omega) (by omega) ?_; intro w1 hX1 B1 hs1; have HX1 := Lib.hid hX1; have HB1 := Lib.hid B1; clear hX1 B1)
  go_loopw [11] (fun i wr => ∃ k : Nat, i = .int .i64 k ∧ k ≤ rs.length ∧ Hid (Has wr w.heap.size 43 (flatK rcl 12 (foldedTo rs k))) ∧ Hid (Below w.heap.size w wr) ∧ Hid (w.heap.size + 1 ≤ wr.heap.size)) (fun i _ => rs.length - (intOf i).toNat)
  case atStart => exact ⟨0, rfl, by omega, by rw [foldedTo_zero]; exact HX1, HB1, by rw [Hid, hs1]; exact Nat.le_refl _⟩
  case round =>
    obtain ⟨k, rfl, hk, HX, HB, HZ⟩ := hrel
    have hz := HZ.out
    by_cases hlt : k < rs.length
    · obtain ⟨g, o, rfl, _, hg, hc⟩ := HS.out.at_ hlt
      have hc2 := Lib.hid (range_below HB.out hg hc)
      have hrk := HR.out _ (List.getElem_mem hlt)
      have HF := Lib.hid (fun (W : World) (h : LayR W) => rrFold_any rs[k] W h hrk.1.1 hrk.2)
      have hst := foldedTo_set rs hlt
      have hsz := foldedTo_size rs hk
      have hval : ∀ r : Rv, r.val = .agg r.cells := fun _ => rfl
      have hkd : k < (foldedTo rs k).size := by omega
      have HK := Lib.hid hkd
      have HST := Lib.hid hst
      clear hst hsz hc hrk hkd
      generalize rs[k].fold = rf at *
      generalize rs[k] = rk at *
      rw [hval, hval] at HF
      clear hval
      go_wp2_with (first
        | (refine wpList_load_mid rfl 43 (.tmp 14) rfl g (o + k * 12) rfl (rcl rk) _ hc2.out Tryd.underlying43 rfl HI.out ?_)
        | (refine wpList_store_boxed rfl 43 (.tmp 5) (.tmp 15) rfl 43 _ rk.cells rfl rfl HI.out rfl (rv_one rk) ?_; intro w2 hY g2 hs2; have HY2 := Lib.hid hY; have HX2 := Lib.hid (HX.out.grown g2 (by simp)); have HB2 := Lib.hid (grown_none g2 HB.out (by omega)); clear hY g2)
        | (refine wpList_load_row rfl 43 (.tmp 5) rfl wr.heap.size rfl 43 rk.cells (0, 0) _ HY2.out Tryd.underlying43 rfl HI.out ?_)
        | (go_at_call 26; refine (HF.out _ (HL.out.below HB2.out (Nat.le_refl _))).mono ?_; rintro e w3 ⟨rfl, B3⟩; have hs3 := B3.size; have HX3 := Lib.hid (HX2.out.below B3 (by omega)); have HB3 := Lib.hid (HB2.out.trans (B3.mono (by omega))); clear B3)
        | (refine wpList_store_elem rfl 43 (.tmp 20) (.tmp 19) rfl rcl_len rcl_one w.heap.size k 43 _ rf HX3.out HK.out rfl rfl HI.out ?_; rw [HST.out]; intro w4 hX4 g4 hs4; have HX4 := Lib.hid hX4; have HB4 := Lib.hid (HB3.out.grown g4 (by omega) (fun k e => by injection e with e; omega)); clear hX4 g4))
      go_roundw
      case rel => exact ⟨k + 1, by go_num, by omega, HX4, HB4, by rw [Hid]; omega⟩
      case measure => simp [intOf]; omega
    · obtain rfl : k = rs.length := by omega
      go_wp2
      go_ret
      exact ⟨w.heap.size, rfl, Nat.le_refl _, by rw [← foldedTo_all]; exact HX.out, HB.out⟩
end Go.Proofs.YtmieakkhpkclpaaDoor
/- The least TTL: the program's. -/
namespace Go.Proofs.YtmieakkhpkclpaaDoor
open Go.RowKit Go.Sort Go.Shelf

set_option maxHeartbeats 2000000 in
set_option maxRecDepth 100000 in
theorem least_any (rs : List Rv) (A : Option Addr) (c : Nat) (w : World) (hS : Srow rcl 12 w 0 w.heap.size A rs) (hn : rs.length ≤ 4294967296) :
    Calls Tryd.prog 29 #[.slice A rs.length c] w fun e w' => e = .returned (.int .u32 (Rr.least (rs.map Rv.ttl) : Nat)) ∧ Below w.heap.size w w' := by
  have HS := Lib.hid hS
  clear hS
  obtain ⟨R, hR⟩ : ∃ R, Rr.least (rs.map Rv.ttl) = R := ⟨_, rfl⟩
  rw [hR]
  have HR := Lib.hid hR
  clear hR
  have hi12 : (Tryd.prog.info? 43).map (·.size) = some 12 := by kernel_rfl
  have HI := Lib.hid hi12
  clear hi12
  go_enter Tryd.func29, Tryd.ntmps29
  go_wp2
  go_loopw [3, 8] (fun l i wr => ∃ k m : Nat, i = .int .i64 k ∧ l = .int .u32 m ∧ k ≤ rs.length ∧ Hid (m = Rr.least ((rs.map Rv.ttl).take k)) ∧ Hid (Below w.heap.size w wr)) (fun _ i _ => rs.length - (intOf i).toNat)
  case atStart => exact ⟨0, 0, rfl, rfl, by omega, rfl, Below.refl _ _⟩
  case round =>
    obtain ⟨k, m, rfl, rfl, hk, HM, HB⟩ := hrel
    have hz := HB.out.size
    by_cases hlt : k < rs.length
    · obtain ⟨g, o, rfl, _, hg, hc⟩ := HS.out.at_ hlt
      have hc2 := Lib.hid (range_below HB.out hg hc)
      have hst := Rr.least_map_take (l := rs.map Rv.ttl) (i := k) (by simpa using hlt)
      have e1 : (rs.map Rv.ttl)[k]'(by simpa using hlt) = rs[k].ttl := by simp
      rw [e1, ← HM.out] at hst
      have HST := Lib.hid hst
      clear hc hst e1
      generalize rs[k] = rk at *
      by_cases h0 : k = 0
      · subst h0
        go_wp2_with (first
          | (refine wpList_load_mid rfl 43 (.tmp 11) rfl g _ rfl (rcl rk) _ hc2.out Tryd.underlying43 rfl HI.out ?_)
          | (refine wpList_store_boxed rfl 43 (.tmp 5) (.tmp 12) rfl 43 _ rk.cells rfl rfl HI.out rfl (rv_one rk) ?_; intro w2 hY g2 hs2; have c3 := rv_ttl hY; have HB2 := Lib.hid (grown_none g2 HB.out (by omega)); clear hY g2))
        go_roundw
        case rel => exact ⟨1, rk.ttl, by go_num, rfl, by omega, by rw [Hid, HST.out, if_pos rfl], HB2⟩
        case measure => simp [intOf]; omega
      · have h1 : ((k : Int) == 0) = false := beq_eq_false_iff_ne.2 (by omega)
        by_cases hl : rk.ttl < m
        · have h2 : decide ((rk.ttl : Int) < (m : Int)) = true := by simp; omega
          go_wp2_with (first
            | (refine wpList_load_mid rfl 43 (.tmp 11) rfl g _ rfl (rcl rk) _ hc2.out Tryd.underlying43 rfl HI.out ?_)
            | (refine wpList_store_boxed rfl 43 (.tmp 5) (.tmp 12) rfl 43 _ rk.cells rfl rfl HI.out rfl (rv_one rk) ?_; intro w2 hY g2 hs2; have c3 := rv_ttl hY; have HB2 := Lib.hid (grown_none g2 HB.out (by omega)); clear hY g2))
          go_roundw
          case rel => exact ⟨k + 1, rk.ttl, by go_num, rfl, by omega, by rw [Hid, HST.out, if_neg h0]; omega, HB2⟩
          case measure => simp [intOf]; omega
        · have h2 : decide ((rk.ttl : Int) < (m : Int)) = false := by simp; omega
          go_wp2_with (first
            | (refine wpList_load_mid rfl 43 (.tmp 11) rfl g _ rfl (rcl rk) _ hc2.out Tryd.underlying43 rfl HI.out ?_)
            | (refine wpList_store_boxed rfl 43 (.tmp 5) (.tmp 12) rfl 43 _ rk.cells rfl rfl HI.out rfl (rv_one rk) ?_; intro w2 hY g2 hs2; have c3 := rv_ttl hY; have HB2 := Lib.hid (grown_none g2 HB.out (by omega)); clear hY g2))
          go_roundw
          case rel => exact ⟨k + 1, m, by go_num, rfl, by omega, by rw [Hid, HST.out, if_neg h0]; omega, HB2⟩
          case measure => simp [intOf]; omega
    · obtain rfl : k = rs.length := by omega
      go_wp2
      go_ret
      exact ⟨by rw [HM.out, List.take_of_length_le (by simp), HR.out]; rfl, HB.out⟩
end Go.Proofs.YtmieakkhpkclpaaDoor
