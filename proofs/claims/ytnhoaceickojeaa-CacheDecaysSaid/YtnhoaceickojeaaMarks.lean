/- The marks of a name: where its labels begin. -/
import Derived.Test.YtnhoaceickojeaaBase
import Derived.Test.YtnhoaceickojeaaZero
namespace Go.Proofs.Ytnhoaceickojeaa
open Go.RowKit

/-- the cells of a value of marks. -/
def mkc (os : List Nat) (c : Nat) : Array Value := ((os.map fun (o : Nat) => Value.int .u8 (o : Int)) ++ List.replicate (128 - os.length) (Value.int .u8 0) ++ [Value.int .i64 (c : Int)]).toArray
theorem mkc_zero : Try.zeroCells102 = mkc [] 0 := by kernel_rfl
theorem mkc_size {os : List Nat} (c : Nat) (h : os.length ≤ 128) : (mkc os c).size = 129 := by simp [mkc]; omega
theorem mkc_count {os : List Nat} (c : Nat) (h : os.length ≤ 128) : (mkc os c)[128]? = some (.int .i64 (c : Int)) := by
  unfold mkc
  rw [List.getElem?_toArray, List.getElem?_append_right (by simp; omega)]
  simp [show 128 - (os.length + (128 - os.length)) = 0 from by omega]
theorem mkc_free {os : List Nat} (c j : Nat) (h : os.length ≤ j) (h2 : j < 128) : (mkc os c)[j]? = some (.int .u8 0) := by
  unfold mkc
  rw [List.getElem?_toArray, List.getElem?_append_left (by simp; omega), List.getElem?_append_right (by simp; omega)]
  simp [List.getElem?_replicate]; omega
theorem mkc_at {os : List Nat} (c j o : Nat) (h : os[j]? = some o) : (mkc os c)[j]? = some (.int .u8 (o : Int)) := by
  have hj : j < os.length := (List.getElem?_eq_some_iff.1 h).1
  unfold mkc
  rw [List.getElem?_toArray, List.getElem?_append_left (by simp; omega), List.getElem?_append_left (by simpa using hj)]
  simp [h]
theorem mkc_push {os : List Nat} (c x : Nat) (h : os.length < 128) : (mkc os c).setIfInBounds os.length (.int .u8 (x : Int)) = mkc (os ++ [x]) c := by
  unfold mkc
  rw [List.setIfInBounds_toArray, List.append_assoc, List.set_append_right _ _ (by simp)]
  congr 1
  obtain ⟨m, hm⟩ : ∃ m, 128 - os.length = m + 1 := ⟨127 - os.length, by omega⟩
  have hm' : 128 - (os ++ [x]).length = m := by simp; omega
  rw [hm, hm', List.replicate_succ]
  simp
theorem mkc_set {os : List Nat} (c d : Nat) (h : os.length ≤ 128) : (mkc os c).setIfInBounds 128 (.int .i64 (d : Int)) = mkc os d := by
  unfold mkc
  rw [List.setIfInBounds_toArray, List.set_append_right _ _ (by simp; omega)]
  simp [show 128 - (os.length + (128 - os.length)) = 0 from by omega]

/-- what a loop of marksOf has read when it stands at k, after the labels ps. -/
def At (l : List UInt8) (k : Nat) (ps : List (List UInt8)) : Prop := k ≤ l.length ∧ l = Nm.body ps ++ l.drop k ∧ (Nm.body ps).length = k ∧ Nm.Good ps ∧ Nm.sp l = (Nm.sp (l.drop k)).map (ps ++ ·)
/-- it has been led beyond the end. -/
def Over (l : List UInt8) (k : Nat) : Prop := l.length < k ∧ k ≤ 400 ∧ Nm.sp l = none

theorem At.zero (l : List UInt8) : At l 0 [] := ⟨Nat.zero_le _, rfl, rfl, (by intro x hx; simp at hx), (by simp)⟩
theorem At.step {l : List UInt8} {k : Nat} {ps : List (List UInt8)} {c : UInt8} (h : At l k ps) (hk : k < l.length) (hc : l[k] = c) (h0 : c.toNat ≠ 0) (h2 : c.toNat ≤ 63) (hl : l.length ≤ 255) :
    At l (k + 1 + c.toNat) (ps ++ [(l.drop (k + 1)).take c.toNat]) ∨ Over l (k + 1 + c.toNat) := by
  obtain ⟨_, a, b, g, d⟩ := h
  have e : l.drop k = c :: l.drop (k + 1) := by rw [← hc]; exact Nm.drop_cons hk
  rw [e] at a d
  by_cases h3 : c.toNat ≤ (l.drop (k + 1)).length
  · left
    obtain ⟨p, q⟩ := Nm.sp_step a d h0 h2 h3
    have hb : Nm.body (ps ++ [(l.drop (k + 1)).take c.toNat]) = Nm.body ps ++ c :: (l.drop (k + 1)).take c.toNat := by
      rw [Nm.body_append]; congr 1; rw [Nm.body_cons, Nm.lab_take h3]; simp [Nm.body_nil]
    have hd : l.drop (k + 1 + c.toNat) = (l.drop (k + 1)).drop c.toNat := by rw [List.drop_drop]
    refine ⟨by simp at h3; omega, by rw [hb, hd]; exact p, ?_, ?_, by rw [hd]; exact q⟩
    · rw [Nm.body_snoc_length, b, List.length_take, Nat.min_eq_left h3]
    · intro x hx
      rcases List.mem_append.1 hx with hx | hx
      · exact g x hx
      · simp at hx; subst hx; simp at h3 ⊢; omega
  · right
    refine ⟨by simp at h3; omega, by omega, ?_⟩
    rw [d, Nm.sp_bad h0 (Or.inr (by omega))]; rfl
theorem At.bad {l : List UInt8} {k : Nat} {ps : List (List UInt8)} (h : At l k ps) (hk : k < l.length) (h2 : 63 < (l[k]).toNat) : Nm.sp l = none := by
  rw [h.2.2.2.2, Nm.drop_cons hk, Nm.sp_bad (by omega) (Or.inl h2)]; rfl
theorem At.endless {l : List UInt8} {ps : List (List UInt8)} (h : At l l.length ps) : Nm.sp l = none := by
  rw [h.2.2.2.2, List.drop_length]; rfl
theorem At.early {l : List UInt8} {k : Nat} {ps : List (List UInt8)} (h : At l k ps) (hk : k + 1 < l.length) (h2 : (l[k]).toNat = 0) : Nm.sp l = none := by
  rw [h.2.2.2.2, Nm.drop_cons (by omega), Nm.sp_zero h2, if_neg (by simp; omega)]; rfl
theorem At.done {l : List UInt8} {k : Nat} {ps : List (List UInt8)} (h : At l k ps) (hk : k + 1 = l.length) (h2 : (l[k]).toNat = 0) : Nm.sp l = some ps := by
  rw [h.2.2.2.2, Nm.drop_cons (by omega), Nm.sp_zero h2, if_pos (by simp; omega)]; simp
theorem At.few {l : List UInt8} {k : Nat} {ps : List (List UInt8)} (h : At l k ps) (hl : l.length ≤ 255) : 2 * ps.length ≤ k ∧ ps.length ≤ 127 := by
  have := Nm.good_count h.2.2.2.1
  have h1 := h.1
  have hb := h.2.2.1
  omega

def marksV (ls : List (List UInt8)) : Array Value := mkc (Nm.offs ls) ls.length
/-- what marksOf answers. -/
def marksR (l : List UInt8) : Value := match Nm.split l with
  | none => .tuple #[.agg (mkc [] 0), .bool false]
  | some ls => .tuple #[.agg (marksV ls), .bool true]
theorem marksR_none {l : List UInt8} (h : Nm.split l = none) : marksR l = .tuple #[.agg (mkc [] 0), .bool false] := by unfold marksR; rw [h]
theorem marksR_some {l : List UInt8} {ls : List (List UInt8)} (h : Nm.split l = some ls) : marksR l = .tuple #[.agg (marksV ls), .bool true] := by unfold marksR; rw [h]

theorem mkc_one (os : List Nat) (c : Nat) : (mkc os c).all (·.oneCell') = true := by
  rw [Array.all_eq_true_iff_forall_mem]
  intro v hv
  simp [mkc] at hv
  rcases hv with ⟨a, _, rfl⟩ | ⟨_, rfl⟩ | rfl <;> rfl
theorem markInfo {os : List Nat} (c : Nat) (h : os.length ≤ 128) : (Try.prog.info? 102).map (·.size) = some (mkc os c).size := by
  rw [mkc_size c h]; kernel_rfl
theorem zeroMarks_size : (mkc [] 0).size = Try.zeroCells102.size := by rw [mkc_zero]

/-- marksOf has answered no. -/
theorem marks_no {w wr : World} {a : Act} {l : List UInt8} (h2 : a.tmps.getD 2 undef = .pointer (some ⟨w.heap.size, 0, none⟩)) (h3 : a.tmps.getD 3 undef = .bool false) (hd : a.defers = [])
    (hA : Has wr w.heap.size 102 (mkc [] 0)) (hB : Below w.heap.size w wr) (hl : Nm.split l = none) :
    bodyPost Try.prog Try.f51 (fun e w' => e = .returned (marksR l) ∧ Below w.heap.size w w') .ret a (wr.setRow w.heap.size (mkc [] 0)) := by
  refine bodyPost_ret (results_row_tmp (p := 2) (u := 3) (ty := 102) rfl _ _ w.heap.size 102 (mkc [] 0) _ h2 (hA.row _) Try.underlying102 rfl (markInfo 0 (by simp))) hd ?_
  exact ⟨by rw [h3, marksR_none hl], below_setRow hB (Nat.le_refl _) _⟩
theorem marks_yes {w wr : World} {a : Act} {l : List UInt8} {ps : List (List UInt8)} (h2 : a.tmps.getD 2 undef = .pointer (some ⟨w.heap.size, 0, none⟩)) (h3 : a.tmps.getD 3 undef = .bool true) (hd : a.defers = [])
    (hA : Has wr w.heap.size 102 (mkc [] 0)) (hB : Below w.heap.size w wr) (hl : Nm.split l = some ps) (hp : ps.length ≤ 127) :
    bodyPost Try.prog Try.f51 (fun e w' => e = .returned (marksR l) ∧ Below w.heap.size w w') .ret a (wr.setRow w.heap.size (marksV ps)) := by
  refine bodyPost_ret (results_row_tmp (p := 2) (u := 3) (ty := 102) rfl _ _ w.heap.size 102 (marksV ps) _ h2 (hA.row _) Try.underlying102 rfl (markInfo _ (by rw [Nm.offs_length]; omega))) hd ?_
  exact ⟨by rw [h3, marksR_some hl], below_setRow hB (Nat.le_refl _) _⟩

set_option maxHeartbeats 1000000 in
set_option maxRecDepth 100000 in
theorem marksOf_any (s : ByteArray) (w : World) (hs : s.size ≤ 140737488355328) :
    Calls Try.prog 51 #[.string s] w fun e w' => e = .returned (marksR s.data.toList) ∧ Below w.heap.size w w' := by
  have hz : Has ((w.alloc (.cells Try.zeroCells102 102)).alloc (.cells Try.zeroCells102 102)) w.heap.size 102 (mkc [] 0) := by
    rw [mkc_zero]; exact (Has.fresh w _ _).alloc _
  have hz2 : Has ((w.alloc (.cells Try.zeroCells102 102)).alloc (.cells Try.zeroCells102 102)) (w.heap.size + 1) 102 (mkc [] 0) := by
    rw [mkc_zero]; have := Has.fresh (w.alloc (.cells (mkc [] 0) 102)) 102 (mkc [] 0); simpa using this
  have hz1 : Has (w.alloc (.cells Try.zeroCells102 102)) w.heap.size 102 (mkc [] 0) := by
    rw [mkc_zero]; exact Has.fresh w _ _
  have HZ := Lib.hid hz
  have HZ1 := Lib.hid hz1
  have HZ2 := Lib.hid hz2
  have HM : Hid (∀ c : Nat, (Try.prog.info? 102).map (·.size) = some (mkc [] c).size) := fun c => markInfo c (by simp)
  have HM0 : Hid ((Try.prog.info? 102).map (·.size) = some Try.zeroCells102.size) := by rw [Hid, ← zeroMarks_size]; exact HM.out 0
  clear hz hz2 hz1
  by_cases hbig : s.size ≤ 255
  · go_enter Try.func51, Try.ntmps51
    go_wp2
    have hb0 : Below w.heap.size w ((w.alloc (.cells Try.zeroCells102 102)).alloc (.cells Try.zeroCells102 102)) := ((Below.refl _ _).alloc (Nat.le_refl _) _).alloc (by simp) _
    generalize (w.alloc (.cells Try.zeroCells102 102)).alloc (.cells Try.zeroCells102 102) = w1 at *
    go_loopw [5] (fun i wr => ∃ k c : Nat, ∃ ps, i = .int .i64 k ∧ c = ps.length ∧ Has wr w.heap.size 102 (mkc [] 0) ∧ Has wr (w.heap.size + 1) 102 (mkc (Nm.starts ps) c) ∧ Below w.heap.size w wr ∧ (At s.data.toList k ps ∨ Over s.data.toList k)) (fun i _ => s.size - (intOf i).toNat)
    case atStart => exact ⟨0, 0, [], rfl, rfl, HZ.out, HZ2.out, hb0, .inl (At.zero _)⟩
    case round =>
      clear HZ1 HZ HZ2 hb0
      obtain ⟨k, c, ps, rfl, hc, hA, hB, hbel, hat⟩ := hrel
      have HA := Lib.hid hA
      have HB := Lib.hid hB
      have HBL := Lib.hid hbel
      have HC := Lib.hid hc
      have hsz : s.data.toList.length = s.size := by simp
      have HSZ := Lib.hid hsz
      clear hA hB hbel hc hsz
      have HSP : Hid (Nm.split s.data.toList = Nm.sp s.data.toList) := Nm.split_of_sp (by rw [HSZ.out]; exact hbig)
      rcases hat with hat | hat
      · have hk := hat.1
        rw [HSZ.out] at hk
        have hfew := hat.few (by rw [HSZ.out]; exact hbig)
        rw [← HC.out] at hfew
        obtain ⟨hf1, hf2⟩ := hfew
        have hstl : (Nm.starts ps).length = c := by rw [Nm.starts_length, HC.out]
        have HSL := Lib.hid hstl
        have AT := Lib.hid hat
        clear hat hstl
        by_cases hlt : k < s.size
        · have h8 : s[k].toNat < 256 := s[k].toNat_lt
          by_cases h0 : s[k].toNat = 0
          · by_cases hns : k + 1 < s.size
            · go_wp2_with (refine wpList_store_row rfl 102 (.tmp 2) (.tmp 54) rfl w.heap.size Try.zeroCells102 rfl rfl 102 (mkc [] 0) HA.out HM0.out zeroMarks_size (by rw [mkc_zero]; exact mkc_one _ _) ?_)
              rw [mkc_zero]
              exact marks_no rfl rfl rfl HA.out HBL.out (by rw [HSP.out]; exact (AT.out.early (by rw [HSZ.out]; exact hns) h0))
            · have hq : (s.size : Int) - 1 = k := by omega
              have h128 : wr.cell? ⟨w.heap.size + 1, 128, none⟩ = some (.int .i64 c) := by rw [HB.out.cell, mkc_count _ (by rw [HSL.out]; omega)]
              have hcc : wr.cell? ⟨w.heap.size + 1, c, none⟩ = some (.int .u8 0) := by rw [HB.out.cell, mkc_free _ _ (by rw [HSL.out]; omega) (by omega)]
              have hfr : ∀ i, wr.frozen? ⟨w.heap.size + 1, i, none⟩ = false := HB.out.free
              have hB2 : Hid (Has (wr.setCell ⟨w.heap.size + 1, c, none⟩ (.int .u8 k)) (w.heap.size + 1) 102 (marksV ps)) := by
                have := HB.out.set c (.int .u8 (k : Int))
                have e := mkc_push (os := Nm.starts ps) c k (by rw [HSL.out]; omega)
                rw [HSL.out] at e
                rw [e] at this
                have e2 : marksV ps = mkc (Nm.starts ps ++ [k]) c := by unfold marksV Nm.offs; rw [AT.out.2.2.1, HC.out]
                rw [e2]; exact this
              have hA2 : Hid (Has (wr.setCell ⟨w.heap.size + 1, c, none⟩ (.int .u8 k)) w.heap.size 102 (mkc [] 0)) := HA.out.far (by simp) _
              have HS : Hid (Nm.split s.data.toList = some ps) := by rw [Hid, HSP.out]; exact AT.out.done (by rw [HSZ.out]; omega) h0
              have HI : Hid ((Try.prog.info? 102).map (·.size) = some (marksV ps).size) := markInfo _ (by rw [Nm.offs_length, ← HC.out]; omega)
              have HOld : Hid ((mkc [] 0).size = (marksV ps).size) := by rw [Hid, mkc_size _ (by simp), marksV, mkc_size _ (by rw [Nm.offs_length, ← HC.out]; omega)]
              go_wp2_with (first | (refine wpList_load_row rfl 102 (.tmp 4) rfl (w.heap.size + 1) rfl 102 (marksV ps) (0, 0) _ hB2.out Try.underlying102 rfl HI.out ?_) | (refine wpList_store_row rfl 102 (.tmp 2) (.tmp 61) rfl w.heap.size (marksV ps) rfl rfl 102 (mkc [] 0) hA2.out HI.out HOld.out (mkc_one _ _) ?_))
              exact marks_yes rfl rfl rfl hA2.out (HBL.out.setCell (by simp) _) HS.out (by rw [← HC.out]; omega)
          · by_cases h63 : 63 < s[k].toNat
            · have hne : ((s[k].toNat : Int) != 0) = true := by rw [bne_iff_ne]; omega
              by_cases hns : k + 1 < s.size
              · go_wp2_with (refine wpList_store_row rfl 102 (.tmp 2) (.tmp 54) rfl w.heap.size Try.zeroCells102 rfl rfl 102 (mkc [] 0) HA.out HM0.out zeroMarks_size (by rw [mkc_zero]; exact mkc_one _ _) ?_)
                rw [mkc_zero]
                exact marks_no rfl rfl rfl HA.out HBL.out (by rw [HSP.out]; exact (AT.out.bad (by rw [HSZ.out]; exact hlt) h63))
              · have hq : (s.size : Int) - 1 = k := by omega
                go_wp2_with (refine wpList_store_row rfl 102 (.tmp 2) (.tmp 54) rfl w.heap.size Try.zeroCells102 rfl rfl 102 (mkc [] 0) HA.out HM0.out zeroMarks_size (by rw [mkc_zero]; exact mkc_one _ _) ?_)
                rw [mkc_zero]
                exact marks_no rfl rfl rfl HA.out HBL.out (by rw [HSP.out]; exact (AT.out.bad (by rw [HSZ.out]; exact hlt) h63))
            · have h128 : wr.cell? ⟨w.heap.size + 1, 128, none⟩ = some (.int .i64 c) := by rw [HB.out.cell, mkc_count _ (by rw [HSL.out]; omega)]
              have hcc : wr.cell? ⟨w.heap.size + 1, c, none⟩ = some (.int .u8 0) := by rw [HB.out.cell, mkc_free _ _ (by rw [HSL.out]; omega) (by omega)]
              have hfr : ∀ i, wr.frozen? ⟨w.heap.size + 1, i, none⟩ = false := HB.out.free
              have h128' : ∀ v, (wr.setCell ⟨w.heap.size + 1, c, none⟩ v).cell? ⟨w.heap.size + 1, 128, none⟩ = some (.int .i64 c) := fun v => by rw [cell_set_off v (by omega)]; exact h128
              have H2 : Hid (Has ((wr.setCell ⟨w.heap.size + 1, c, none⟩ (.int .u8 k)).setCell ⟨w.heap.size + 1, 128, none⟩ (.int .i64 ((c : Int) + 1))) (w.heap.size + 1) 102 (mkc (Nm.starts ps ++ [k]) (c + 1))) := by
                have := (HB.out.set c (.int .u8 (k : Int))).set 128 (.int .i64 ((c + 1 : Nat) : Int))
                have e := mkc_push (os := Nm.starts ps) c k (by rw [HSL.out]; omega)
                rw [HSL.out] at e
                rw [e, mkc_set _ _ (by simp [HSL.out]; omega)] at this
                exact this
              have HST := Lib.hid (AT.out.step (c := s[k]) (by rw [HSZ.out]; exact hlt) rfl h0 (Nat.le_of_not_lt h63) (by rw [HSZ.out]; exact hbig))
              have HSN : Hid (∀ x, mkc (Nm.starts (ps ++ [x])) (c + 1) = mkc (Nm.starts ps ++ [k]) (c + 1)) := fun x => by rw [Nm.starts_snoc, AT.out.2.2.1]
              go_wp2
              go_roundw
              case rel =>
                refine ⟨k + 1 + s[k].toNat, c + 1, ps ++ [(s.data.toList.drop (k + 1)).take s[k].toNat], by go_num, by rw [List.length_append, HC.out]; rfl, (HA.out.far (by simp) _).far (by simp) _, ?_, (HBL.out.setCell (by simp) _).setCell (by simp) _, HST.out⟩
                rw [HSN.out]; exact H2.out
              case measure => simp [intOf]; omega
        · obtain rfl : k = s.size := by omega
          go_wp2_with (refine wpList_store_row rfl 102 (.tmp 2) (.tmp 54) rfl w.heap.size Try.zeroCells102 rfl rfl 102 (mkc [] 0) HA.out HM0.out zeroMarks_size (by rw [mkc_zero]; exact mkc_one _ _) ?_)
          rw [mkc_zero]
          exact marks_no rfl rfl rfl HA.out HBL.out (by rw [HSP.out]; exact (by have := AT.out; rw [← HSZ.out] at this; exact this.endless))
      · have hov := hat.1
        rw [HSZ.out] at hov
        have hov2 := hat.2.1
        go_wp2_with (refine wpList_store_row rfl 102 (.tmp 2) (.tmp 54) rfl w.heap.size Try.zeroCells102 rfl rfl 102 (mkc [] 0) HA.out HM0.out zeroMarks_size (by rw [mkc_zero]; exact mkc_one _ _) ?_)
        rw [mkc_zero]
        exact marks_no rfl rfl rfl HA.out HBL.out (by rw [HSP.out]; exact (hat.2.2))
  · go_enter Try.func51, Try.ntmps51
    go_wp2_with (refine wpList_store_row rfl 102 (.tmp 2) (.tmp 9) rfl w.heap.size Try.zeroCells102 rfl rfl 102 (mkc [] 0) HZ1.out HM0.out zeroMarks_size (by rw [mkc_zero]; exact mkc_one _ _) ?_)
    rw [mkc_zero]
    exact marks_no rfl rfl rfl HZ1.out ((Below.refl _ _).alloc (Nat.le_refl _) _) (Nm.split_long (by simpa using hbig))
end Go.Proofs.Ytnhoaceickojeaa
