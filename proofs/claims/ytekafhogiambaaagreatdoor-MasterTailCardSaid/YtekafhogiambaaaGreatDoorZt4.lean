/- Texts of the proofs, merged. -/
import Derived.Test.YtekafhogiambaaaGreatDoorZt3
import Derived.Test.YtekafhogiambaaaGreatDoorZt1
import Derived.Test.YtekafhogiambaaaGreatDoorRows
import Derived.Laws.StructEq
import Derived.MapKept
import Derived.Lib.AppendStr
namespace Go.Proofs.YtekafhogiambaaaGreatDoor
open Go.RowKit

set_option maxHeartbeats 400000 in
theorem small_any (c : UInt8) (w : World) :
    Calls Tryz.prog 53 #[.int .u8 (c.toNat : Int)] w fun e w' => e = .returned (.int .u8 ((Nm.small c).toNat : Int)) ∧ w = w' := by
  have hc := c.toNat_lt
  have hv := Nm.small_val c
  have HV := Lib.hid hv
  clear hv
  by_cases h1 : 65 ≤ c.toNat
  · by_cases h2 : c.toNat ≤ 90
    · go_enter Tryz.func53, Tryz.ntmps53
      go_wp2
      go_ret
      exact ⟨ret_int (by rw [HV.out, if_pos ⟨h1, h2⟩]; omega), rfl⟩
    · go_enter Tryz.func53, Tryz.ntmps53
      go_wp2
      go_ret
      exact ⟨ret_int (by rw [HV.out, if_neg (by omega)]), rfl⟩
  · go_enter Tryz.func53, Tryz.ntmps53
    go_wp2
    go_ret
    exact ⟨ret_int (by rw [HV.out, if_neg (by omega)]), rfl⟩

-- the closure of Fold: it appends one byte to the row that it is handed.
set_option maxHeartbeats 400000 in
set_option maxRecDepth 100000 in
theorem fold1_any (B : Nat) (v : Value) (n : Nat) (xs : List Value) (c : UInt8) (w : World) (hB : B ≤ w.heap.size) (hown : w.ownsRow B 5 1 v n xs) (hn : n + 1 ≤ 140737488355328) :
    Calls Tryz.prog 52 #[v, .int .u8 (c.toNat : Int)] w fun e w' => ∃ v', e = .returned v' ∧ w'.ownsRow B 5 1 v' (n + 1) (xs ++ [.int .u8 ((Nm.small c).toNat : Int)]) ∧ Below B w w' := by
  obtain ⟨i0, hi, hz0, hz1, hz2⟩ := info_parts Tryz.infoByte
  have hcb := c.toNat_lt
  have hcs := (Nm.small c).toNat_lt
  go_enter Tryz.func52, Tryz.ntmps52
  go_wp2_with (first | (go_at_call 53; refine (small_any c _).mono ?_; rintro e w' ⟨rfl, rfl⟩) | (at_builtin; refine wpList_append_own _ rfl (.tmp 5) (.tmp 8) _ rfl B 5 i0 _ 1 1 Tryz.underlying51 hi hz0 hz1 hz2 rfl (by decide) v n xs rfl (hown.alloc _) ⟨w.heap.size, 0, none⟩ 1 1 [.int .u8 ((Nm.small c).toNat : Int)] rfl rfl ?c1 ?c2 ?c3 ?c4 ?c5 (fun v' w1 hown1 hg1 _ => ?_)))
  case c1 => exact cell_one_new _ _ _
  case c2 => simp [Value.oneCell']
  case c3 => unfold maxLen; omega
  case c4 => omega
  case c5 => simp; omega
  go_ret
  refine ⟨v', rfl, hown1, ?_⟩
  refine ((Below.refl _ _).alloc hB _).grown hg1 (by simp; omega) ?_
  intro k hk
  exact (hown.lt k hk).1


end Go.Proofs.YtekafhogiambaaaGreatDoor
namespace Go.Proofs.YtekafhogiambaaaGreatDoor
open Go.RowKit

/-- the cells of a value of marks. -/
def mkc (os : List Nat) (c : Nat) : Array Value := ((os.map fun (o : Nat) => Value.int .u8 (o : Int)) ++ List.replicate (128 - os.length) (Value.int .u8 0) ++ [Value.int .i64 (c : Int)]).toArray
theorem mkc_zero : Tryz.zeroCells80 = mkc [] 0 := by kernel_rfl
theorem mkc_size {os : List Nat} (c : Nat) (h : os.length ≤ 128) : (mkc os c).size = 129 := by simp [mkc]; omega
theorem mkc_count {os : List Nat} (c : Nat) (h : os.length ≤ 128) : (mkc os c)[128]? = some (.int .i64 (c : Int)) := by
  unfold mkc
  rw [List.getElem?_toArray, List.getElem?_append_right (by simp; omega)]
  simp [show 128 - (os.length + (128 - os.length)) = 0 from by omega]
theorem mkc_free {os : List Nat} (c j : Nat) (h : os.length ≤ j) (h2 : j < 128) : (mkc os c)[j]? = some (.int .u8 0) := by
  unfold mkc
  rw [List.getElem?_toArray, List.getElem?_append_left (by simp; omega), List.getElem?_append_right (by simp; omega)]
  simp [List.getElem?_replicate]; omega
theorem mkc_at {os : List Nat} (c j o : Nat) (h : os[j]? = some o) : (mkc os c)[j]? = some (.int .u8 (o : Int)) := by
  have hj : j < os.length := (List.getElem?_eq_some_iff.1 h).1
  unfold mkc
  rw [List.getElem?_toArray, List.getElem?_append_left (by simp; omega), List.getElem?_append_left (by simpa using hj)]
  simp [h]
theorem mkc_push {os : List Nat} (c x : Nat) (h : os.length < 128) : (mkc os c).setIfInBounds os.length (.int .u8 (x : Int)) = mkc (os ++ [x]) c := by
  unfold mkc
  rw [List.setIfInBounds_toArray, List.append_assoc, List.set_append_right _ _ (by simp)]
  congr 1
  obtain ⟨m, hm⟩ : ∃ m, 128 - os.length = m + 1 := ⟨127 - os.length, by omega⟩
  have hm' : 128 - (os ++ [x]).length = m := by simp; omega
  rw [hm, hm', List.replicate_succ]
  simp
theorem mkc_set {os : List Nat} (c d : Nat) (h : os.length ≤ 128) : (mkc os c).setIfInBounds 128 (.int .i64 (d : Int)) = mkc os d := by
  unfold mkc
  rw [List.setIfInBounds_toArray, List.set_append_right _ _ (by simp; omega)]
  simp [show 128 - (os.length + (128 - os.length)) = 0 from by omega]

/-- what a loop of marksOf has read when it stands at k, after the labels ps. -/
def At (l : List UInt8) (k : Nat) (ps : List (List UInt8)) : Prop := k ≤ l.length ∧ l = Nm.body ps ++ l.drop k ∧ (Nm.body ps).length = k ∧ Nm.Good ps ∧ Nm.sp l = (Nm.sp (l.drop k)).map (ps ++ ·)
/-- it has been led beyond the end. -/
def Over (l : List UInt8) (k : Nat) : Prop := l.length < k ∧ k ≤ 400 ∧ Nm.sp l = none

theorem At.zero (l : List UInt8) : At l 0 [] := ⟨Nat.zero_le _, rfl, rfl, (by intro x hx; simp at hx), (by simp)⟩
theorem At.step {l : List UInt8} {k : Nat} {ps : List (List UInt8)} {c : UInt8} (h : At l k ps) (hk : k < l.length) (hc : l[k] = c) (h0 : c.toNat ≠ 0) (h2 : c.toNat ≤ 63) (hl : l.length ≤ 255) :
    At l (k + 1 + c.toNat) (ps ++ [(l.drop (k + 1)).take c.toNat]) ∨ Over l (k + 1 + c.toNat) := by
  obtain ⟨_, a, b, g, d⟩ := h
  have e : l.drop k = c :: l.drop (k + 1) := by rw [← hc]; exact Nm.drop_cons hk
  rw [e] at a d
  by_cases h3 : c.toNat ≤ (l.drop (k + 1)).length
  · left
    obtain ⟨p, q⟩ := Nm.sp_step a d h0 h2 h3
    have hb : Nm.body (ps ++ [(l.drop (k + 1)).take c.toNat]) = Nm.body ps ++ c :: (l.drop (k + 1)).take c.toNat := by
      rw [Nm.body_append]; congr 1; rw [Nm.body_cons, Nm.lab_take h3]; simp [Nm.body_nil]
    have hd : l.drop (k + 1 + c.toNat) = (l.drop (k + 1)).drop c.toNat := by rw [List.drop_drop]
    refine ⟨by simp at h3; omega, by rw [hb, hd]; exact p, ?_, ?_, by rw [hd]; exact q⟩
    · rw [Nm.body_snoc_length, b, List.length_take, Nat.min_eq_left h3]
    · intro x hx
      rcases List.mem_append.1 hx with hx | hx
      · exact g x hx
      · simp at hx; subst hx; simp at h3 ⊢; omega
  · right
    refine ⟨by simp at h3; omega, by omega, ?_⟩
    rw [d, Nm.sp_bad h0 (Or.inr (by omega))]; rfl
theorem At.bad {l : List UInt8} {k : Nat} {ps : List (List UInt8)} (h : At l k ps) (hk : k < l.length) (h2 : 63 < (l[k]).toNat) : Nm.sp l = none := by
  rw [h.2.2.2.2, Nm.drop_cons hk, Nm.sp_bad (by omega) (Or.inl h2)]; rfl
theorem At.endless {l : List UInt8} {ps : List (List UInt8)} (h : At l l.length ps) : Nm.sp l = none := by
  rw [h.2.2.2.2, List.drop_length]; rfl
theorem At.early {l : List UInt8} {k : Nat} {ps : List (List UInt8)} (h : At l k ps) (hk : k + 1 < l.length) (h2 : (l[k]).toNat = 0) : Nm.sp l = none := by
  rw [h.2.2.2.2, Nm.drop_cons (by omega), Nm.sp_zero h2, if_neg (by simp; omega)]; rfl
theorem At.done {l : List UInt8} {k : Nat} {ps : List (List UInt8)} (h : At l k ps) (hk : k + 1 = l.length) (h2 : (l[k]).toNat = 0) : Nm.sp l = some ps := by
  rw [h.2.2.2.2, Nm.drop_cons (by omega), Nm.sp_zero h2, if_pos (by simp; omega)]; simp
theorem At.few {l : List UInt8} {k : Nat} {ps : List (List UInt8)} (h : At l k ps) (hl : l.length ≤ 255) : 2 * ps.length ≤ k ∧ ps.length ≤ 127 := by
  have := Nm.good_count h.2.2.2.1
  have h1 := h.1
  have hb := h.2.2.1
  omega

def marksV (ls : List (List UInt8)) : Array Value := mkc (Nm.offs ls) ls.length
/-- what marksOf answers. -/
def marksR (l : List UInt8) : Value := match Nm.split l with
  | none => .tuple #[.agg (mkc [] 0), .bool false]
  | some ls => .tuple #[.agg (marksV ls), .bool true]
theorem marksR_none {l : List UInt8} (h : Nm.split l = none) : marksR l = .tuple #[.agg (mkc [] 0), .bool false] := by unfold marksR; rw [h]
theorem marksR_some {l : List UInt8} {ls : List (List UInt8)} (h : Nm.split l = some ls) : marksR l = .tuple #[.agg (marksV ls), .bool true] := by unfold marksR; rw [h]

theorem mkc_one (os : List Nat) (c : Nat) : (mkc os c).all (·.oneCell') = true := by
  rw [Array.all_eq_true_iff_forall_mem]
  intro v hv
  simp [mkc] at hv
  rcases hv with ⟨a, _, rfl⟩ | ⟨_, rfl⟩ | rfl <;> rfl
theorem markInfo {os : List Nat} (c : Nat) (h : os.length ≤ 128) : (Tryz.prog.info? 80).map (·.size) = some (mkc os c).size := by
  rw [mkc_size c h]; kernel_rfl
theorem zeroMarks_size : (mkc [] 0).size = Tryz.zeroCells80.size := by rw [mkc_zero]

/-- marksOf has answered no. -/
theorem marks_no {w wr : World} {a : Act} {l : List UInt8} (h2 : a.tmps.getD 2 undef = .pointer (some ⟨w.heap.size, 0, none⟩)) (h3 : a.tmps.getD 3 undef = .bool false) (hd : a.defers = [])
    (hA : Has wr w.heap.size 80 (mkc [] 0)) (hB : Below w.heap.size w wr) (hl : Nm.split l = none) :
    bodyPost Tryz.prog Tryz.f26 (fun e w' => e = .returned (marksR l) ∧ Below w.heap.size w w') .ret a (wr.setRow w.heap.size (mkc [] 0)) := by
  refine bodyPost_ret (results_row_tmp (p := 2) (u := 3) (ty := 80) rfl _ _ w.heap.size 80 (mkc [] 0) _ h2 (hA.row _) Tryz.underlying80 rfl (markInfo 0 (by simp))) hd ?_
  exact ⟨by rw [h3, marksR_none hl], below_setRow hB (Nat.le_refl _) _⟩
theorem marks_yes {w wr : World} {a : Act} {l : List UInt8} {ps : List (List UInt8)} (h2 : a.tmps.getD 2 undef = .pointer (some ⟨w.heap.size, 0, none⟩)) (h3 : a.tmps.getD 3 undef = .bool true) (hd : a.defers = [])
    (hA : Has wr w.heap.size 80 (mkc [] 0)) (hB : Below w.heap.size w wr) (hl : Nm.split l = some ps) (hp : ps.length ≤ 127) :
    bodyPost Tryz.prog Tryz.f26 (fun e w' => e = .returned (marksR l) ∧ Below w.heap.size w w') .ret a (wr.setRow w.heap.size (marksV ps)) := by
  refine bodyPost_ret (results_row_tmp (p := 2) (u := 3) (ty := 80) rfl _ _ w.heap.size 80 (marksV ps) _ h2 (hA.row _) Tryz.underlying80 rfl (markInfo _ (by rw [Nm.offs_length]; omega))) hd ?_
  exact ⟨by rw [h3, marksR_some hl], below_setRow hB (Nat.le_refl _) _⟩

set_option maxHeartbeats 1000000 in
set_option maxRecDepth 100000 in
theorem marksOf_any (s : ByteArray) (w : World) (hs : s.size ≤ 140737488355328) :
    Calls Tryz.prog 26 #[.string s] w fun e w' => e = .returned (marksR s.data.toList) ∧ Below w.heap.size w w' := by
  have hz : Has ((w.alloc (.cells Tryz.zeroCells80 80)).alloc (.cells Tryz.zeroCells80 80)) w.heap.size 80 (mkc [] 0) := by
    rw [mkc_zero]; exact (Has.fresh w _ _).alloc _
  have hz2 : Has ((w.alloc (.cells Tryz.zeroCells80 80)).alloc (.cells Tryz.zeroCells80 80)) (w.heap.size + 1) 80 (mkc [] 0) := by
    rw [mkc_zero]; have := Has.fresh (w.alloc (.cells (mkc [] 0) 80)) 80 (mkc [] 0); simpa using this
  have hz1 : Has (w.alloc (.cells Tryz.zeroCells80 80)) w.heap.size 80 (mkc [] 0) := by
    rw [mkc_zero]; exact Has.fresh w _ _
  have HZ := Lib.hid hz
  have HZ1 := Lib.hid hz1
  have HZ2 := Lib.hid hz2
  have HM : Hid (∀ c : Nat, (Tryz.prog.info? 80).map (·.size) = some (mkc [] c).size) := fun c => markInfo c (by simp)
  have HM0 : Hid ((Tryz.prog.info? 80).map (·.size) = some Tryz.zeroCells80.size) := by rw [Hid, ← zeroMarks_size]; exact HM.out 0
  clear hz hz2 hz1
  by_cases hbig : s.size ≤ 255
  · go_enter Tryz.func26, Tryz.ntmps26
    go_wp2
    have hb0 : Below w.heap.size w ((w.alloc (.cells Tryz.zeroCells80 80)).alloc (.cells Tryz.zeroCells80 80)) := ((Below.refl _ _).alloc (Nat.le_refl _) _).alloc (by simp) _
    generalize (w.alloc (.cells Tryz.zeroCells80 80)).alloc (.cells Tryz.zeroCells80 80) = w1 at *
    go_loopw [5] (fun i wr => ∃ k c : Nat, ∃ ps, i = .int .i64 k ∧ c = ps.length ∧ Has wr w.heap.size 80 (mkc [] 0) ∧ Has wr (w.heap.size + 1) 80 (mkc (Nm.starts ps) c) ∧ Below w.heap.size w wr ∧ (At s.data.toList k ps ∨ Over s.data.toList k)) (fun i _ => s.size - (intOf i).toNat)
    case atStart => exact ⟨0, 0, [], rfl, rfl, HZ.out, HZ2.out, hb0, .inl (At.zero _)⟩
    case round =>
      clear HZ1 HZ HZ2 hb0
      obtain ⟨k, c, ps, rfl, hc, hA, hB, hbel, hat⟩ := hrel
      have HA := Lib.hid hA
      have HB := Lib.hid hB
      have HBL := Lib.hid hbel
      have HC := Lib.hid hc
      have hsz : s.data.toList.length = s.size := by simp
      have HSZ := Lib.hid hsz
      clear hA hB hbel hc hsz
      have HSP : Hid (Nm.split s.data.toList = Nm.sp s.data.toList) := Nm.split_of_sp (by rw [HSZ.out]; exact hbig)
      rcases hat with hat | hat
      · have hk := hat.1
        rw [HSZ.out] at hk
        have hfew := hat.few (by rw [HSZ.out]; exact hbig)
        rw [← HC.out] at hfew
        obtain ⟨hf1, hf2⟩ := hfew
        have hstl : (Nm.starts ps).length = c := by rw [Nm.starts_length, HC.out]
        have HSL := Lib.hid hstl
        have AT := Lib.hid hat
        clear hat hstl
        by_cases hlt : k < s.size
        · have h8 : s[k].toNat < 256 := s[k].toNat_lt
          by_cases h0 : s[k].toNat = 0
          · by_cases hns : k + 1 < s.size
            · go_wp2_with (refine wpList_store_row rfl 80 (.tmp 2) (.tmp 54) rfl w.heap.size Tryz.zeroCells80 rfl rfl 80 (mkc [] 0) HA.out HM0.out zeroMarks_size (by rw [mkc_zero]; exact mkc_one _ _) ?_)
              rw [mkc_zero]
              exact marks_no rfl rfl rfl HA.out HBL.out (by rw [HSP.out]; exact (AT.out.early (by rw [HSZ.out]; exact hns) h0))
            · have hq : (s.size : Int) - 1 = k := by omega
              have h128 : wr.cell? ⟨w.heap.size + 1, 128, none⟩ = some (.int .i64 c) := by rw [HB.out.cell, mkc_count _ (by rw [HSL.out]; omega)]
              have hcc : wr.cell? ⟨w.heap.size + 1, c, none⟩ = some (.int .u8 0) := by rw [HB.out.cell, mkc_free _ _ (by rw [HSL.out]; omega) (by omega)]
              have hfr : ∀ i, wr.frozen? ⟨w.heap.size + 1, i, none⟩ = false := HB.out.free
              have hB2 : Hid (Has (wr.setCell ⟨w.heap.size + 1, c, none⟩ (.int .u8 k)) (w.heap.size + 1) 80 (marksV ps)) := by
                have := HB.out.set c (.int .u8 (k : Int))
                have e := mkc_push (os := Nm.starts ps) c k (by rw [HSL.out]; omega)
                rw [HSL.out] at e
                rw [e] at this
                have e2 : marksV ps = mkc (Nm.starts ps ++ [k]) c := by unfold marksV Nm.offs; rw [AT.out.2.2.1, HC.out]
                rw [e2]; exact this
              have hA2 : Hid (Has (wr.setCell ⟨w.heap.size + 1, c, none⟩ (.int .u8 k)) w.heap.size 80 (mkc [] 0)) := HA.out.far (by simp) _
              have HS : Hid (Nm.split s.data.toList = some ps) := by rw [Hid, HSP.out]; exact AT.out.done (by rw [HSZ.out]; omega) h0
              have HI : Hid ((Tryz.prog.info? 80).map (·.size) = some (marksV ps).size) := markInfo _ (by rw [Nm.offs_length, ← HC.out]; omega)
              have HOld : Hid ((mkc [] 0).size = (marksV ps).size) := by rw [Hid, mkc_size _ (by simp), marksV, mkc_size _ (by rw [Nm.offs_length, ← HC.out]; omega)]
              go_wp2_with (first | (refine wpList_load_row rfl 80 (.tmp 4) rfl (w.heap.size + 1) rfl 80 (marksV ps) (0, 0) _ hB2.out Tryz.underlying80 rfl HI.out ?_) | (refine wpList_store_row rfl 80 (.tmp 2) (.tmp 61) rfl w.heap.size (marksV ps) rfl rfl 80 (mkc [] 0) hA2.out HI.out HOld.out (mkc_one _ _) ?_))
              exact marks_yes rfl rfl rfl hA2.out (HBL.out.setCell (by simp) _) HS.out (by rw [← HC.out]; omega)
          · by_cases h63 : 63 < s[k].toNat
            · have hne : ((s[k].toNat : Int) != 0) = true := by rw [bne_iff_ne]; omega
              by_cases hns : k + 1 < s.size
              · go_wp2_with (refine wpList_store_row rfl 80 (.tmp 2) (.tmp 54) rfl w.heap.size Tryz.zeroCells80 rfl rfl 80 (mkc [] 0) HA.out HM0.out zeroMarks_size (by rw [mkc_zero]; exact mkc_one _ _) ?_)
                rw [mkc_zero]
                exact marks_no rfl rfl rfl HA.out HBL.out (by rw [HSP.out]; exact (AT.out.bad (by rw [HSZ.out]; exact hlt) h63))
              · have hq : (s.size : Int) - 1 = k := by omega
                go_wp2_with (refine wpList_store_row rfl 80 (.tmp 2) (.tmp 54) rfl w.heap.size Tryz.zeroCells80 rfl rfl 80 (mkc [] 0) HA.out HM0.out zeroMarks_size (by rw [mkc_zero]; exact mkc_one _ _) ?_)
                rw [mkc_zero]
                exact marks_no rfl rfl rfl HA.out HBL.out (by rw [HSP.out]; exact (AT.out.bad (by rw [HSZ.out]; exact hlt) h63))
            · have h128 : wr.cell? ⟨w.heap.size + 1, 128, none⟩ = some (.int .i64 c) := by rw [HB.out.cell, mkc_count _ (by rw [HSL.out]; omega)]
              have hcc : wr.cell? ⟨w.heap.size + 1, c, none⟩ = some (.int .u8 0) := by rw [HB.out.cell, mkc_free _ _ (by rw [HSL.out]; omega) (by omega)]
              have hfr : ∀ i, wr.frozen? ⟨w.heap.size + 1, i, none⟩ = false := HB.out.free
              have h128' : ∀ v, (wr.setCell ⟨w.heap.size + 1, c, none⟩ v).cell? ⟨w.heap.size + 1, 128, none⟩ = some (.int .i64 c) := fun v => by rw [cell_set_off v (by omega)]; exact h128
              have H2 : Hid (Has ((wr.setCell ⟨w.heap.size + 1, c, none⟩ (.int .u8 k)).setCell ⟨w.heap.size + 1, 128, none⟩ (.int .i64 ((c : Int) + 1))) (w.heap.size + 1) 80 (mkc (Nm.starts ps ++ [k]) (c + 1))) := by
                have := (HB.out.set c (.int .u8 (k : Int))).set 128 (.int .i64 ((c + 1 : Nat) : Int))
                have e := mkc_push (os := Nm.starts ps) c k (by rw [HSL.out]; omega)
                rw [HSL.out] at e
                rw [e, mkc_set _ _ (by simp [HSL.out]; omega)] at this
                exact this
              have HST := Lib.hid (AT.out.step (c := s[k]) (by rw [HSZ.out]; exact hlt) rfl h0 (Nat.le_of_not_lt h63) (by rw [HSZ.out]; exact hbig))
              have HSN : Hid (∀ x, mkc (Nm.starts (ps ++ [x])) (c + 1) = mkc (Nm.starts ps ++ [k]) (c + 1)) := fun x => by rw [Nm.starts_snoc, AT.out.2.2.1]
              go_wp2
              go_roundw
              case rel =>
                refine ⟨k + 1 + s[k].toNat, c + 1, ps ++ [(s.data.toList.drop (k + 1)).take s[k].toNat], by go_num, by rw [List.length_append, HC.out]; rfl, (HA.out.far (by simp) _).far (by simp) _, ?_, (HBL.out.setCell (by simp) _).setCell (by simp) _, HST.out⟩
                rw [HSN.out]; exact H2.out
              case measure => simp [intOf]; omega
        · obtain rfl : k = s.size := by omega
          go_wp2_with (refine wpList_store_row rfl 80 (.tmp 2) (.tmp 54) rfl w.heap.size Tryz.zeroCells80 rfl rfl 80 (mkc [] 0) HA.out HM0.out zeroMarks_size (by rw [mkc_zero]; exact mkc_one _ _) ?_)
          rw [mkc_zero]
          exact marks_no rfl rfl rfl HA.out HBL.out (by rw [HSP.out]; exact (by have := AT.out; rw [← HSZ.out] at this; exact this.endless))
      · have hov := hat.1
        rw [HSZ.out] at hov
        have hov2 := hat.2.1
        go_wp2_with (refine wpList_store_row rfl 80 (.tmp 2) (.tmp 54) rfl w.heap.size Tryz.zeroCells80 rfl rfl 80 (mkc [] 0) HA.out HM0.out zeroMarks_size (by rw [mkc_zero]; exact mkc_one _ _) ?_)
        rw [mkc_zero]
        exact marks_no rfl rfl rfl HA.out HBL.out (by rw [HSP.out]; exact (hat.2.2))
  · go_enter Tryz.func26, Tryz.ntmps26
    go_wp2_with (refine wpList_store_row rfl 80 (.tmp 2) (.tmp 9) rfl w.heap.size Tryz.zeroCells80 rfl rfl 80 (mkc [] 0) HZ1.out HM0.out zeroMarks_size (by rw [mkc_zero]; exact mkc_one _ _) ?_)
    rw [mkc_zero]
    exact marks_no rfl rfl rfl HZ1.out ((Below.refl _ _).alloc (Nat.le_refl _) _) (Nm.split_long (by simpa using hbig))
end Go.Proofs.YtekafhogiambaaaGreatDoor
namespace Go.Proofs.YtekafhogiambaaaGreatDoor
open Go.RowKit

set_option maxHeartbeats 400000 in
set_option maxRecDepth 100000 in
theorem label_any (s : ByteArray) (g i : Nat) (ls : List (List UInt8)) (w : World) (h : Has w g 80 (marksV ls)) (hn : Nm.split s.data.toList = some ls) (hi : i < ls.length) :
    Calls Tryz.prog 80 #[.pointer (some ⟨g, 0, none⟩), .string s, .int .i64 i] w fun e w' => e = .returned (sv ls[i]) ∧ ∃ n, w' = w.drewN n := by
  obtain ⟨hl, hg, h255⟩ := Nm.split_some.1 hn
  have hlen : (Nm.glue ls).length = s.size := by rw [← hl]; simp
  have hcut : sv ls[i] = .string (s.extract ((Nm.body (ls.take i)).length + 1) (Nm.body (ls.take (i + 1))).length) := by
    unfold sv
    rw [← string_eq (s := s.extract _ _)]
    rw [extract_list, hl, Nm.label_cut hi]
  have hcnt := Nm.good_count hg
  have hbl := Nm.glue_length ls
  have h255' : s.size ≤ 255 := by simpa using h255
  have c1 : w.cell? ⟨g, i, none⟩ = some (.int .u8 ((Nm.body (ls.take i)).length : Nat)) := by rw [h.cell]; exact mkc_at _ _ _ (Nm.offs_get ls i (by omega))
  have c2 : w.cell? ⟨g, i + 1, none⟩ = some (.int .u8 ((Nm.body (ls.take (i + 1))).length : Nat)) := by rw [h.cell]; exact mkc_at _ _ _ (Nm.offs_get ls (i + 1) (by omega))
  have hts := Nm.take_succ_body hi
  have hle := Nm.body_take_le (ls := ls) (i := i + 1)
  have hi' : i + 1 ≤ 127 := by omega
  have hb1 : (Nm.body (ls.take i)).length + 1 ≤ (Nm.body (ls.take (i + 1))).length := by omega
  have hb2 : (Nm.body (ls.take (i + 1))).length + 1 ≤ s.size := by omega
  rw [hcut]
  clear hcut hl hg h255 hn hlen hcnt hbl hts hle h
  generalize (Nm.body (ls.take (i + 1))).length = b at *
  generalize (Nm.body (ls.take i)).length = a at *
  go_enter Tryz.func80, Tryz.ntmps80
  go_wp2
  go_quiet (fail)
  go_wp2
  go_ret
  exact ⟨rfl, _, rfl⟩

theorem marks_none (s : ByteArray) (w : World) (hs : s.size ≤ 140737488355328) (h : Nm.split s.data.toList = none) :
    Calls Tryz.prog 26 #[.string s] w fun e w' => e = .returned (.tuple #[.agg (mkc [] 0), .bool false]) ∧ Below w.heap.size w w' :=
  (marksOf_any s w hs).mono fun _ _ ⟨he, hb⟩ => ⟨by rw [he, marksR_none h], hb⟩
theorem marks_some (s : ByteArray) (ls : List (List UInt8)) (w : World) (hs : s.size ≤ 140737488355328) (h : Nm.split s.data.toList = some ls) :
    Calls Tryz.prog 26 #[.string s] w fun e w' => e = .returned (.tuple #[.agg (marksV ls), .bool true]) ∧ Below w.heap.size w w' :=
  (marksOf_any s w hs).mono fun _ _ ⟨he, hb⟩ => ⟨by rw [he, marksR_some h], hb⟩
theorem few {l : List UInt8} {ls : List (List UInt8)} (h : Nm.split l = some ls) : ls.length ≤ 127 := by
  obtain ⟨hl, hg, h255⟩ := Nm.split_some.1 h
  have := Nm.good_count hg
  have := Nm.glue_length ls
  rw [hl] at h255
  omega

/-- what is in a new block of marks behind the store of these. -/
theorem marks_stored {w w1 : World} {os : List Nat} {c : Nat} (hb : Below w.heap.size w w1) :
    Has ((w1.alloc (.cells Tryz.zeroCells80 80)).setRow w1.heap.size (mkc os c)) w1.heap.size 80 (mkc os c) ∧ Below w.heap.size w ((w1.alloc (.cells Tryz.zeroCells80 80)).setRow w1.heap.size (mkc os c)) :=
  ⟨(Has.fresh w1 _ _).row _, below_setRow (hb.alloc hb.size _) hb.size _⟩

set_option maxRecDepth 100000 in
theorem Check_any (s : ByteArray) (w : World) (hs : s.size ≤ 140737488355328) :
    Calls Tryz.prog 13 #[.string s] w fun e w' => e = .returned (.int .i64 (if (Nm.split s.data.toList).isSome then 0 else 11)) ∧ Below w.heap.size w w' := by
  have HZ : ∀ w1 : World, Hid (Has (w1.alloc (.cells Tryz.zeroCells80 80)) w1.heap.size 80 Tryz.zeroCells80) := fun w1 => Has.fresh w1 _ _
  rcases hn : Nm.split s.data.toList with _ | ls
  · have hm := Lib.hid (marks_none s w hs hn)
    have HI := Lib.hid (markInfo (os := []) 0 (by simp))
    clear hn
    go_enter Tryz.func13, Tryz.ntmps13
    go_wp2_with (first | (go_at_call 26; refine hm.out.mono ?_; rintro e w1 ⟨rfl, hb1⟩) | (refine wpList_store_row rfl 80 (.tmp 3) (.tmp 8) rfl w1.heap.size (mkc [] 0) rfl rfl 80 Tryz.zeroCells80 (HZ w1).out HI.out zeroMarks_size.symm (mkc_one _ _) ?_))
    go_ret
    exact ⟨rfl, (marks_stored hb1).2⟩
  · have hm := Lib.hid (marks_some s ls w hs hn)
    have ho : (Nm.offs ls).length ≤ 128 := by rw [Nm.offs_length]; have := few hn; omega
    have HI : Hid ((Tryz.prog.info? 80).map (·.size) = some (marksV ls).size) := markInfo (os := Nm.offs ls) ls.length ho
    have HO : Hid (Tryz.zeroCells80.size = (marksV ls).size) := by rw [Hid, ← zeroMarks_size, mkc_size _ (by simp), marksV, mkc_size _ ho]
    clear hn
    go_enter Tryz.func13, Tryz.ntmps13
    go_wp2_with (first | (go_at_call 26; refine hm.out.mono ?_; rintro e w1 ⟨rfl, hb1⟩) | (refine wpList_store_row rfl 80 (.tmp 3) (.tmp 8) rfl w1.heap.size (marksV ls) rfl rfl 80 Tryz.zeroCells80 (HZ w1).out HI.out HO.out (mkc_one _ _) ?_))
    go_ret
    exact ⟨rfl, (marks_stored hb1).2⟩

/-- its labels; none of what is no name. -/
def labelsOf (l : List UInt8) : List (List UInt8) := (Nm.split l).getD []

set_option maxHeartbeats 400000 in
set_option maxRecDepth 100000 in
theorem Labels_any (s : ByteArray) (w : World) (hs : s.size ≤ 140737488355328) :
    Calls Tryz.prog 49 #[.string s] w fun e w' => ∃ v, e = .returned v ∧ w'.ownsRow w.heap.size 9 1 v (labelsOf s.data.toList).length (svs (labelsOf s.data.toList)) ∧ Below w.heap.size w w' := by
  have HZ : ∀ w1 : World, Hid (Has (w1.alloc (.cells Tryz.zeroCells80 80)) w1.heap.size 80 Tryz.zeroCells80) := fun w1 => Has.fresh w1 _ _
  obtain ⟨i0, hi, hz0, hz1, hz2⟩ := info_parts Tryz.infoString
  unfold labelsOf
  rcases hn : Nm.split s.data.toList with _ | ls
  · have hm := Lib.hid (marks_none s w hs hn)
    have HI := Lib.hid (markInfo (os := []) 0 (by simp))
    have hc : ∀ w1 : World, ((w1.alloc (.cells Tryz.zeroCells80 80)).setRow w1.heap.size (mkc [] 0)).cell? ⟨w1.heap.size, 128, none⟩ = some (.int .i64 0) := fun w1 => by
      rw [((Has.fresh w1 _ _).row _).cell]; exact mkc_count 0 (by simp)
    clear hn
    go_enter Tryz.func49, Tryz.ntmps49
    go_wp2_with (first | (go_at_call 26; refine hm.out.mono ?_; rintro e w1 ⟨rfl, hb1⟩) | (refine wpList_store_row rfl 80 (.tmp 3) (.tmp 10) rfl w1.heap.size (mkc [] 0) rfl rfl 80 Tryz.zeroCells80 (HZ w1).out HI.out zeroMarks_size.symm (mkc_one _ _) ?_))
    refine wp_loop_rounds 1 ?_
    rw [rounds_succ]
    go_wp2
    go_ret
    exact ⟨_, rfl, World.ownsRow_nil _ _ _ _, (marks_stored hb1).2⟩
  · have hm := Lib.hid (marks_some s ls w hs hn)
    have hfew := few hn
    have ho : (Nm.offs ls).length ≤ 128 := by rw [Nm.offs_length]; omega
    have HI : Hid ((Tryz.prog.info? 80).map (·.size) = some (marksV ls).size) := markInfo (os := Nm.offs ls) ls.length ho
    have HO : Hid (Tryz.zeroCells80.size = (marksV ls).size) := by rw [Hid, ← zeroMarks_size, mkc_size _ (by simp), marksV, mkc_size _ ho]
    have hc : ∀ w1 : World, ((w1.alloc (.cells Tryz.zeroCells80 80)).setRow w1.heap.size (marksV ls)).cell? ⟨w1.heap.size, 128, none⟩ = some (.int .i64 (ls.length : Nat)) := fun w1 => by
      rw [((Has.fresh w1 _ _).row _).cell]; exact mkc_count _ ho
    have HN := Lib.hid hn
    clear hn
    go_enter Tryz.func49, Tryz.ntmps49
    go_wp2_with (first | (go_at_call 26; refine hm.out.mono ?_; rintro e w1 ⟨rfl, hb1⟩) | (refine wpList_store_row rfl 80 (.tmp 3) (.tmp 10) rfl w1.heap.size (marksV ls) rfl rfl 80 Tryz.zeroCells80 (HZ w1).out HI.out HO.out (mkc_one _ _) ?_))
    have hst := marks_stored (os := Nm.offs ls) (c := ls.length) hb1
    have hbs := hb1.size
    change Has ((w1.alloc (.cells Tryz.zeroCells80 80)).setRow w1.heap.size (marksV ls)) w1.heap.size 80 (marksV ls) ∧ Below w.heap.size w ((w1.alloc (.cells Tryz.zeroCells80 80)).setRow w1.heap.size (marksV ls)) at hst
    have hsz2 : ((w1.alloc (.cells Tryz.zeroCells80 80)).setRow w1.heap.size (marksV ls)).heap.size = w1.heap.size + 1 := by simp
    generalize (w1.alloc (.cells Tryz.zeroCells80 80)).setRow w1.heap.size (marksV ls) = w2 at *
    go_loopw [5, 14] (fun v i wr => ∃ k : Nat, i = .int .i64 k ∧ k ≤ ls.length ∧ wr.ownsRow w2.heap.size 9 1 v k (svs (ls.take k)) ∧ Below w2.heap.size w2 wr) (fun _ i _ => ls.length - (intOf i).toNat)
    case atStart => exact ⟨0, rfl, Nat.zero_le _, World.ownsRow_nil _ _ _ _, Below.refl _ _⟩
    case round =>
      obtain ⟨k, rfl, hk, hown, hb⟩ := hrel
      have HW := Lib.hid hown
      have HB := Lib.hid hb
      have hbs2 := hb.size
      have hM : Has wr w1.heap.size 80 (marksV ls) := hst.1.below hb (by omega)
      have HM := Lib.hid hM
      clear hown hb hM hsz2
      by_cases hlt : k < ls.length
      · have hsn : svs (ls.take (k + 1)) = svs (ls.take k) ++ [sv ls[k]] := by rw [List.take_succ_eq_append_getElem hlt, svs_append]; rfl
        have HSN := Lib.hid hsn
        clear hsn
        go_wp2_with (first | (go_at_call 80; refine (label_any s _ k ls _ HM.out HN.out hlt).mono ?_; rintro e w3 ⟨rfl, nn, rfl⟩) | (at_builtin; refine wpList_append_own _ rfl (.tmp 17) (.tmp 21) _ rfl w2.heap.size 9 i0 _ 1 16 Tryz.underlying45 hi hz0 hz1 hz2 rfl (by decide) _ k (svs (ls.take k)) rfl (World.ownsRow.alloc (w := wr.drewN nn) HW.out _) ⟨wr.heap.size, 0, none⟩ 1 1 [sv ls[k]] rfl rfl ?c1 ?c2 ?c3 ?c4 ?c5 (fun v' w4 hown1 hg1 _ => ?_)))
        case c1 => exact cell_one_new _ _ _
        case c2 => simp [Value.oneCell']
        case c3 => unfold maxLen; omega
        case c4 => omega
        case c5 => simp; omega
        go_roundw
        case rel => exact ⟨k + 1, by go_num, by omega, by rw [HSN.out]; exact hown1, (((below_drewN HB.out nn).alloc (by simp; omega) _).grown hg1 (by simp; omega) (fun j hj => (HW.out.lt j hj).1))⟩
        case measure => simp [intOf]; omega
      · obtain rfl : k = ls.length := by omega
        have hw : wr.ownsRow w2.heap.size 9 1 u5 ls.length (svs ls) := by have := HW.out; rwa [List.take_length] at this
        have HW2 := Lib.hid hw
        clear hw HW
        go_wp2
        go_ret
        exact ⟨_, rfl, own_mono HW2.out hst.2.size, hst.2.trans (HB.out.mono hst.2.size)⟩
end Go.Proofs.YtekafhogiambaaaGreatDoor
namespace Go.Proofs.YtekafhogiambaaaGreatDoor
open Go.RowKit

theorem At.cut {l : List UInt8} {k : Nat} {ps : List (List UInt8)} {t : ByteArray} (h : t.data.toList = l.drop k) (hk : k < l.length) (_ : At l k ps) : ∃ h0 : 0 < t.size, t[0] = l[k] := by
  have hs : t.size = l.length - k := by have := congrArg List.length h; simpa using this
  refine ⟨by omega, ?_⟩
  have e : t.data.toList = l[k] :: l.drop (k + 1) := by rw [h]; exact Nm.drop_cons hk
  have h0 : 0 < t.data.toList.length := by rw [e, List.length_cons]; omega
  have h2 : t.data.toList[0]'h0 = l[k] := by simp only [e, List.getElem_cons_zero]
  rw [← h2]; rfl
theorem At.piece {l : List UInt8} {k : Nat} {t : ByteArray} (h : t.data.toList = l.drop k) (c : Nat) : Value.string (t.extract 1 (c + 1)) = sv ((l.drop (k + 1)).take c) := by
  rw [string_eq (extract_list t 1 (c + 1)), h, List.drop_drop]
  show Value.string _ = Value.string _
  rw [show c + 1 - 1 = c from by omega]
theorem At.left {l : List UInt8} {k : Nat} {t : ByteArray} (h : t.data.toList = l.drop k) (c : Nat) : (t.extract (c + 1) t.size).data.toList = l.drop (k + 1 + c) := by
  have hs : t.size = t.data.toList.length := by simp
  rw [extract_list, List.take_of_length_le (by rw [List.length_drop]; omega), h, List.drop_drop]
  congr 1; omega

end Go.Proofs.YtekafhogiambaaaGreatDoor
namespace Go.Proofs.YtekafhogiambaaaGreatDoor
open Go.RowKit

set_option maxHeartbeats 400000 in
set_option maxRecDepth 100000 in
theorem each_fold (s : ByteArray) (w : World) (hs : s.size ≤ 140737488355328) :
    Calls Tryz.prog 51 #[.string s, .func (.func 52) #[] #[]] w fun e w' => e = .returned (.string ⟨(Nm.fold s.data.toList).toArray⟩) ∧ Below w.heap.size w w' := by
  obtain ⟨i0, hi, hz0, hz1, hz2⟩ := info_parts Tryz.infoByte
  go_enter Tryz.func51, Tryz.ntmps51
  go_wp2_with (first | (at_make; refine wpList_make_own _ rfl _ _ 51 rfl w.heap.size 5 i0 _ 1 Tryz.underlying51 hi hz0 hz1 .i64 .i64 s.size s.size rfl rfl rfl (by rw [hz2]; omega) (by unfold maxLen; omega) (Nat.le_refl _) ?_; intro w1 hown1 hg1))
  go_loopw [5, 12] (fun v i wr => ∃ k : Nat, k ≤ s.size ∧ i = .int .i64 k ∧ wr.ownsRow w.heap.size 5 1 v k (bv ((s.data.toList.take k).map Nm.small)) ∧ Below w.heap.size w wr) (fun _ i _ => s.size - (intOf i).toNat)
  case atStart => exact ⟨0, Nat.zero_le _, rfl, by simpa [bv] using hown1, (Below.refl _ _).grown hg1 (Nat.le_refl _) (by simp)⟩
  case round =>
    obtain ⟨k, hk, rfl, hown, hb⟩ := hrel
    have HO := Lib.hid hown
    have HB := Lib.hid hb
    have hbs := hb.size
    clear hown hb
    by_cases hlt : k < s.size
    · go_wp2_with (first | (go_at_call 52; refine (fold1_any w.heap.size _ k _ s[k] _ hbs HO.out (by omega)).mono ?_; rintro e w2 ⟨v', rfl, hown', hb'⟩))
      go_roundw
      case rel => exact ⟨k + 1, by omega, by go_num, by rw [bv_take_succ s _ k hlt]; exact hown', HB.out.trans hb'⟩
      case measure => simp [intOf]; omega
    · obtain rfl : k = s.size := by omega
      have HO' : Hid (wr.ownsRow w.heap.size 5 1 u5 s.size (bv (Nm.fold s.data.toList))) := by
        have := HO.out
        rw [List.take_of_length_le (by simp)] at this
        exact this
      clear HO
      go_wp2_with (refine wpList_convert_own _ rfl 51 9 (.tmp 22) rfl 5 Tryz.underlying51 Tryz.underlying5 Tryz.underlying9 w.heap.size s.size _ (Nm.fold s.data.toList) rfl HO'.out ?_)
      go_ret
      exact ⟨rfl, HB.out⟩

theorem Fold_any (s : ByteArray) (w : World) (hs : s.size ≤ 140737488355328) :
    Calls Tryz.prog 31 #[.string s] w fun e w' => e = .returned (.string ⟨(Nm.fold s.data.toList).toArray⟩) ∧ Below w.heap.size w w' := by
  go_enter Tryz.func31, Tryz.ntmps31
  go_wp2_with (first | (go_at_call 51; refine (each_fold s _ hs).mono ?_; rintro e w1 ⟨rfl, hb1⟩))
  go_ret
  exact ⟨rfl, hb1⟩

-- the document's answer: []byte(s), each letter turned in place, and back.
end Go.Proofs.YtekafhogiambaaaGreatDoor
namespace Go.Proofs.YtekafhogiambaaaGreatDoor
open Go.RowKit

theorem rd_cons_of (t : ByteArray) (h : 0 < t.size) : t.data.toList = t[0] :: t.data.toList.drop 1 := by
  have h0 : 0 < t.data.toList.length := by simpa using h
  have e := List.drop_eq_getElem_cons (i := 0) h0
  rw [List.drop_zero] at e
  exact e
/-- what texts answers. -/
def TextsPost (w : World) (o : Option (List (List UInt8))) (e : Ending) (w' : World) : Prop :=
  ∃ v, Below w.heap.size w w' ∧ match o with
    | none => e = .returned (.tuple #[v, .bool false])
    | some ls => e = .returned (.tuple #[v, .bool (decide (0 < ls.length))]) ∧ w'.ownsRow w.heap.size 9 1 v ls.length (svs ls)
theorem texts_no {w w' : World} {l : List UInt8} {v : Value} (hb : Below w.heap.size w w') (h : Rd.tx l = none) : TextsPost w (Rd.tx l) (.returned (.tuple #[v, .bool false])) w' := by
  rw [h]; exact ⟨v, hb, rfl⟩
theorem texts_yes {w w' : World} {l : List UInt8} {v x : Value} {ls : List (List UInt8)} (hb : Below w.heap.size w w') (h : Rd.tx l = some ls) (hx : x = .bool (decide (0 < ls.length))) (ho : w'.ownsRow w.heap.size 9 1 v ls.length (svs ls)) : TextsPost w (Rd.tx l) (.returned (.tuple #[v, x])) w' := by
  rw [h]; exact ⟨v, hb, by rw [hx], ho⟩
end Go.Proofs.YtekafhogiambaaaGreatDoor
namespace Go.Proofs.YtekafhogiambaaaGreatDoor
open Go.RowKit

/-- data, as they come. -/
structure Dv where
  raw : ByteArray
  host : ByteArray
  mail : ByteArray
  n0 : Nat
  n1 : Nat
  n2 : Nat
  n3 : Nat
  n4 : Nat
namespace Dv
def val (d : Dv) : Value := .agg #[.string d.raw, .string d.host, .string d.mail, .int .u32 d.n0, .int .u32 d.n1, .int .u32 d.n2, .int .u32 d.n3, .int .u32 d.n4]
def cells (d : Dv) : Array Value := #[.string d.raw, .string d.host, .string d.mail, .int .u32 d.n0, .int .u32 d.n1, .int .u32 d.n2, .int .u32 d.n3, .int .u32 d.n4]
def dt (d : Dv) : Rd.Dt := ⟨d.raw.data.toList, d.host.data.toList, d.mail.data.toList, d.n0, d.n1, d.n2, d.n3, d.n4⟩
def n (d : Dv) : Nat → Nat
  | 0 => d.n0
  | 1 => d.n1
  | 2 => d.n2
  | 3 => d.n3
  | _ => d.n4
/-- its numbers are numbers. -/
def fits (d : Dv) : Prop := ∀ k, d.n k ≤ 4294967295
theorem cell_n (d : Dv) {k : Nat} (hk : k < 5) : d.cells[3 + k]? = some (.int .u32 (d.n k)) := by
  match k, hk with
  | 0, _ => rfl
  | 1, _ => rfl
  | 2, _ => rfl
  | 3, _ => rfl
  | 4, _ => rfl
end Dv
theorem dv_raw {W : World} {g : Nat} {d : Dv} {t : TypeId} (h : Has W g t d.cells) : W.cell? ⟨g, 0, none⟩ = some (.string d.raw) := by rw [h.cell]; rfl
theorem dv_host {W : World} {g : Nat} {d : Dv} {t : TypeId} (h : Has W g t d.cells) : W.cell? ⟨g, 1, none⟩ = some (.string d.host) := by rw [h.cell]; rfl
theorem dv_mail {W : World} {g : Nat} {d : Dv} {t : TypeId} (h : Has W g t d.cells) : W.cell? ⟨g, 2, none⟩ = some (.string d.mail) := by rw [h.cell]; rfl
theorem dv_n {W : World} {g k : Nat} {d : Dv} {t : TypeId} (h : Has W g t d.cells) (hk : k < 5) : W.cell? ⟨g, 3 + k, none⟩ = some (.int .u32 (d.n k : Nat)) := by rw [h.cell]; exact d.cell_n hk
namespace Rd
def head (t : Nat) (d : Dt) : Bool := rawOk t d.raw && (isHost t == nm d.host) && (isHost t || d.host == []) && (isMail t == nm d.mail) && (isMail t || d.mail == [])
end Rd
end Go.Proofs.YtekafhogiambaaaGreatDoor
namespace Go.Proofs.YtekafhogiambaaaGreatDoor
open Go.RowKit

/-- data as they lie in a reader. -/
def dv (d : Rd.Dt) : Dv := ⟨⟨d.raw.toArray⟩, ⟨d.host.toArray⟩, ⟨d.mail.toArray⟩, d.n0, d.n1, d.n2, d.n3, d.n4⟩
end Go.Proofs.YtekafhogiambaaaGreatDoor
namespace Go.Proofs.YtekafhogiambaaaGreatDoor
open Go.RowKit Go.Lib

/-- the row in block g has gathered these labels; its bytes lie from block B on. -/
def RowIs (w : World) (g B : Nat) (ls : List (List UInt8)) : Prop :=
  ∃ v bs, Has w g 169 #[v, .bool (decide (255 < (Nm.body ls).length + 1))] ∧ w.ownsRow B 5 1 v bs.length (bv bs) ∧ bs.length ≤ 254 ∧ ((Nm.body ls).length ≤ 254 → bs = Nm.body ls)
/-- blocks of other types than byte, and other than g, are as they were. -/
def Typed (w w' : World) (g : Nat) : Prop := ∀ k c e fr, w.heap[k]? = some (.cells c e fr) → e ≠ 5 → k ≠ g → w'.heap[k]? = w.heap[k]?
theorem Typed.refl (w : World) (g : Nat) : Typed w w g := fun _ _ _ _ _ _ _ => rfl
theorem Typed.trans {a b c : World} {g : Nat} (h : Typed a b g) (k : Typed b c g) : Typed a c g := fun i x e fr hi he hg => by
  have h1 := h i x e fr hi he hg
  exact (k i x e fr (h1.trans hi) he hg).trans h1
theorem Typed.alloc {a b : World} {g : Nat} (h : Typed a b g) (o : Obj) : Typed a (b.alloc o) g := h.trans fun i _ _ _ hi _ _ => Below.heap_alloc b o i (Array.getElem?_eq_some_iff.1 hi).1
theorem Typed.drew {a b : World} {g : Nat} (h : Typed a b g) : Typed a b.drew g := h
theorem Typed.drewN {a b : World} {g : Nat} (h : Typed a b g) (n : Nat) : Typed a (b.drewN n) g := h
theorem Typed.set {a b : World} {g : Nat} (h : Typed a b g) (i : Nat) (u : Value) : Typed a (b.setCell ⟨g, i, none⟩ u) g := h.trans fun k _ _ _ _ _ hg => heap_setCell_other b _ k u hg
theorem Typed.own {a b c : World} {g B n : Nat} {v : Value} {xs : List Value} (h : Typed a b g) (ho : b.ownsRow B 5 1 v n xs) (hg : b.grownBy c v.ownBlock) : Typed a c g := h.trans fun k x e fr hk he _ => by
  refine hg.block k (Array.getElem?_eq_some_iff.1 hk).1 ?_
  intro hv
  rcases ho.2 with ⟨rfl, _⟩ | ⟨g', cap, cur, rfl, _, hh, _⟩
  · simp [Value.ownBlock] at hv
  · simp [Value.ownBlock] at hv
    subst hv
    rw [hh] at hk
    injection hk with hk
    injection hk with _ hk
    exact he hk.symm
theorem has_ne_own {w : World} {g B n : Nat} {t e : TypeId} {cs : Array Value} {v : Value} {xs : List Value} (h : Has w g t cs) (ho : w.ownsRow B e 1 v n xs) (hne : t ≠ e) : some g ≠ v.ownBlock := by
  rcases ho.2 with ⟨rfl, _⟩ | ⟨g', cap, cur, rfl, _, hh, _⟩
  · simp [Value.ownBlock]
  · intro hv
    simp [Value.ownBlock] at hv
    subst hv
    have h' := h.symm.trans hh
    injection h' with h'
    injection h' with _ h'
    exact hne h'
theorem own_far {w : World} {g B n : Nat} {t e : TypeId} {cs : Array Value} {v : Value} {xs : List Value} (ho : w.ownsRow B e 1 v n xs) (h : Has w g t cs) (hne : t ≠ e) (i : Nat) (u : Value) : (w.setCell ⟨g, i, none⟩ u).ownsRow B e 1 v n xs := by
  have hno := has_ne_own h ho hne
  refine ⟨ho.1, ?_⟩
  rcases ho.2 with hn | ⟨g', cap, cur, rfl, hb, hh, rest⟩
  · exact .inl hn
  · refine .inr ⟨g', cap, cur, rfl, hb, ?_, rest⟩
    rw [heap_setCell_other]; exact hh
    intro e; exact hno (by simp [Value.ownBlock]; exact e.symm)


def AddPost (w : World) (g B : Nat) (ls : List (List UInt8)) (l : List UInt8) (e : Ending) (w' : World) : Prop :=
  Below B w w' ∧ Typed w w' g ∧
  if 1 ≤ l.length ∧ l.length ≤ 63 then e = .returned (.int .i64 0) ∧ RowIs w' g B (ls ++ [l]) else e = .returned (.int .i64 10) ∧ RowIs w' g B ls

set_option maxHeartbeats 1000000 in
set_option maxRecDepth 100000 in
theorem add_any (w : World) (g B : Nat) (ls : List (List UInt8)) (s : ByteArray) (h : RowIs w g B ls) (hB : B ≤ g) (hs : s.size ≤ 140737488355328) :
    Calls Tryz.prog 135 #[.pointer (some ⟨g, 0, none⟩), .string s] w (AddPost w g B ls s.data.toList) := by
  obtain ⟨i0, hi, hz0, hz1, hz2⟩ := info_parts Tryz.infoByte
  have hsl : s.data.toList.length = s.size := by simp
  have HSL := Lib.hid hsl
  clear hsl
  have HR := Lib.hid h
  obtain ⟨v, bs, hH, hown, hbs, hbody⟩ := h
  have hlt := hH.lt
  have c0 : w.cell? ⟨g, 0, none⟩ = some v := by rw [hH.cell]; rfl
  have c1 : w.cell? ⟨g, 1, none⟩ = some (.bool (decide (255 < (Nm.body ls).length + 1))) := by rw [hH.cell]; rfl
  have f0 := hH.free 0
  have f1 := hH.free 1
  obtain ⟨ad, cp, hv⟩ := own_form hown
  subst hv
  have HH := Lib.hid hH
  have HO := Lib.hid hown
  have HB := Lib.hid hbody
  clear hH hown hbody
  by_cases h0 : s.size = 0
  · have h0b : ((s.size : Int) == 0) = true := by simp [h0]
    clear h0
    go_enter Tryz.func135, Tryz.ntmps135
    go_wp2
    go_ret
    exact ⟨Below.refl _ _, Typed.refl _ _, by rw [if_neg (by rw [HSL.out]; have := beq_iff_eq.1 h0b; omega)]; exact ⟨rfl, HR.out⟩⟩
  · have h0b : ((s.size : Int) == 0) = false := by simp [h0]
    by_cases h63 : 63 < s.size
    · go_enter Tryz.func135, Tryz.ntmps135
      go_wp2
      go_ret
      exact ⟨Below.refl _ _, Typed.refl _ _, by rw [if_neg (by rw [HSL.out]; omega)]; exact ⟨rfl, HR.out⟩⟩
    · by_cases hbig : 255 < bs.length + 1 + s.size + 1
      · go_enter Tryz.func135, Tryz.ntmps135
        go_wp2
        go_ret
        refine ⟨(Below.refl _ _).setCell (p := ⟨g, 1, none⟩) hB _, (Typed.refl _ _).set 1 _, ?_⟩
        rw [if_pos (by rw [HSL.out]; omega)]
        have hbl := Nm.body_snoc_length ls s.data.toList
        rw [HSL.out] at hbl
        have hlong : 255 < (Nm.body (ls ++ [s.data.toList])).length + 1 := by
          by_cases hle : (Nm.body ls).length ≤ 254
          · have := HB.out hle; rw [this] at hbig; omega
          · omega
        refine ⟨rfl, _, bs, ?_, own_far HO.out HH.out (by decide) 1 _, hbs, fun h => by omega⟩
        rw [decide_eq_true hlong]
        exact HH.out.set 1 (.bool true)
      · go_enter Tryz.func135, Tryz.ntmps135
        go_wp2_with (first
          | (at_builtin
             refine wpList_append_own _ rfl (.tmp 31) (.tmp 35) _ rfl B 5 i0 _ 1 1 Tryz.underlying51 hi hz0 hz1 hz2 rfl (by decide) _ bs.length (bv bs) rfl (HO.out.alloc _) ⟨w.heap.size, 0, none⟩ 1 1 [.int .u8 (s.size : Nat)] rfl rfl (cell_one_new _ _ _) (by simp [Value.oneCell']) (by unfold maxLen; omega) (by omega) (by simp; omega) ?_
             intro v1 w1 hown1 hg1 _
             obtain ⟨ad1, cp1, rfl⟩ := own_form hown1
             have hH1 := (HH.out.alloc _).grown hg1 (has_ne_own HH.out HO.out (by decide))
             have d0 := hH1.cell 0
             have d0f := hH1.free 0
             have HH1 := Lib.hid (hH1.set 0 (.slice ad1 (bs.length + 1) cp1))
             have HO1 := Lib.hid (own_far hown1 hH1 (by decide) 0 (.slice ad1 (bs.length + 1) cp1))
             have HB1 := Lib.hid (((((Below.refl _ _).alloc (by omega) _).grown hg1 (by simp; omega) (fun j hj => (HO.out.lt j hj).1)).setCell (p := ⟨g, 0, none⟩) hB (.slice ad1 (bs.length + 1) cp1) : Below B w _))
             have HT1 := Lib.hid ((((Typed.refl w g).alloc _).own (HO.out.alloc _) hg1).set 0 (.slice ad1 (bs.length + 1) cp1))
             clear hown1 hg1 hH1)
          | (at_builtin
             refine wpList_append_own_string _ rfl (.tmp 43) (.tmp 44) _ _ rfl B 5 i0 Tryz.underlying51 Tryz.underlying9 hi hz0 hz1 hz2 _ (bs.length + 1) _ rfl HO1.out s rfl (by unfold maxLen; omega) (by omega) (Nat.le_trans (by omega) HB1.out.size) ?_
             intro v2 w2 hown2 hg2 _
             obtain ⟨ad2, cp2, rfl⟩ := own_form hown2
             have hH2 := HH1.out.grown hg2 (has_ne_own HH1.out HO1.out (by decide))
             have e0 := hH2.cell 0
             have e0f := hH2.free 0
             have HH2 := Lib.hid (hH2.set 0 (.slice ad2 (bs.length + 1 + s.size) cp2))
             have HO2 := Lib.hid (own_far hown2 hH2 (by decide) 0 (.slice ad2 (bs.length + 1 + s.size) cp2))
             have HB2 := Lib.hid ((HB1.out.grown hg2 (Nat.le_trans (by omega) HB1.out.size) (fun j hj => (HO1.out.lt j hj).1)).setCell (p := ⟨g, 0, none⟩) hB (.slice ad2 (bs.length + 1 + s.size) cp2))
             have HT2 := Lib.hid ((HT1.out.own HO1.out hg2).set 0 (.slice ad2 (bs.length + 1 + s.size) cp2))
             clear hown2 hg2 hH2))
        go_ret
        refine ⟨HB2.out, HT2.out, ?_⟩
        rw [if_pos (by rw [HSL.out]; omega)]
        have hbl := Nm.body_snoc_length ls s.data.toList
        rw [HSL.out] at hbl
        have hx : UInt8.ofNat s.data.toList.length :: s.data.toList = Nm.lab s.data.toList := rfl
        have hxs : bv bs ++ [Value.int .u8 (s.size : Nat)] ++ strCells s = bv (bs ++ Nm.lab s.data.toList) := by
          rw [← hx, bv_append, strCells_bv, List.append_assoc]
          have : ((UInt8.ofNat s.data.toList.length).toNat : Int) = (s.size : Nat) := by rw [HSL.out]; simp; omega
          simp only [bv, List.map_cons, this]; rfl
        have hlen : (bs ++ Nm.lab s.data.toList).length = bs.length + 1 + s.size := by rw [List.length_append, Nm.lab_length, HSL.out]; omega
        refine ⟨rfl, .slice ad2 (bs.length + 1 + s.size) cp2, bs ++ Nm.lab s.data.toList, ?_, ?_, by rw [hlen]; omega, fun h => ?_⟩
        · have hd : decide (255 < (Nm.body (ls ++ [s.data.toList])).length + 1) = decide (255 < (Nm.body ls).length + 1) := by
            by_cases hle : (Nm.body ls).length ≤ 254
            · have := HB.out hle; rw [this] at hbig; rw [decide_eq_false (by omega), decide_eq_false (by omega)]
            · rw [decide_eq_true (by omega), decide_eq_true (by omega)]
          rw [hd]; exact HH2.out
        · rw [hlen, ← hxs]; exact HO2.out
        · rw [HB.out (by omega), Nm.body_append]; simp [Nm.body]

theorem add_ok (w : World) (g B : Nat) (ls : List (List UInt8)) (l : List UInt8) (h : RowIs w g B ls) (hB : B ≤ g) (hg : 1 ≤ l.length ∧ l.length ≤ 63) :
    Calls Tryz.prog 135 #[.pointer (some ⟨g, 0, none⟩), .string ⟨l.toArray⟩] w fun e w' => e = .returned (.int .i64 0) ∧ Below B w w' ∧ Typed w w' g ∧ RowIs w' g B (ls ++ [l]) :=
  (add_any w g B ls ⟨l.toArray⟩ h hB (by rw [mk_size]; omega)).mono fun _ _ ⟨a, b, c⟩ => by rw [if_pos hg] at c; exact ⟨c.1, a, b, c.2⟩
theorem add_no (w : World) (g B : Nat) (ls : List (List UInt8)) (l : List UInt8) (h : RowIs w g B ls) (hB : B ≤ g) (hs : l.length ≤ 140737488355328) (hg : ¬ (1 ≤ l.length ∧ l.length ≤ 63)) :
    Calls Tryz.prog 135 #[.pointer (some ⟨g, 0, none⟩), .string ⟨l.toArray⟩] w fun e w' => e = .returned (.int .i64 10) ∧ Below B w w' ∧ Typed w w' g ∧ RowIs w' g B ls :=
  (add_any w g B ls ⟨l.toArray⟩ h hB hs).mono fun _ _ ⟨a, b, c⟩ => by rw [if_neg hg] at c; exact ⟨c.1, a, b, c.2⟩
theorem own_typed {w w' : World} {g b n : Nat} {v : Value} {xs : List Value} {cs : Array Value} (h : w.ownsRow b 9 1 v n xs) (ht : Typed w w' g) (hg : Has w g 169 cs) : w'.ownsRow b 9 1 v n xs := by
  have hne := has_ne_own hg h (by decide)
  refine ⟨h.1, ?_⟩
  rcases h.2 with hn | ⟨g', cap, cur, rfl, hb, hh, rest⟩
  · exact .inl hn
  · exact .inr ⟨g', cap, cur, rfl, hb, (ht g' _ _ _ hh (by decide) (fun e => hne (by simp [Value.ownBlock]; exact e.symm))).trans hh, rest⟩
theorem RowIs.start (w : World) (B : Nat) : RowIs (w.alloc (.cells #[.slice none 0 0, .bool false] 169)) w.heap.size B [] :=
  ⟨.slice none 0 0, [], Has.fresh w _ _, World.ownsRow_nil _ _ _ _, by simp, fun _ => rfl⟩
theorem RowIs.below {w w' : World} {g B B' : Nat} {ls : List (List UInt8)} (h : RowIs w g B ls) (hb : Below B' w w') (hB : w.heap.size ≤ B') : RowIs w' g B ls := by
  obtain ⟨v, bs, hH, ho, a, b⟩ := h
  exact ⟨v, bs, hH.below hb (Nat.lt_of_lt_of_le hH.lt hB), own_below ho hb hB, a, b⟩
theorem RowIs.lt {w : World} {g B : Nat} {ls : List (List UInt8)} (h : RowIs w g B ls) : g < w.heap.size := by
  obtain ⟨v, bs, hH, _⟩ := h; exact hH.lt
theorem RowIs.drewN {w : World} {g B : Nat} {ls : List (List UInt8)} (h : RowIs w g B ls) (n : Nat) : RowIs (w.drewN n) g B ls := h
theorem RowIs.alloc {w : World} {g B : Nat} {ls : List (List UInt8)} (h : RowIs w g B ls) (o : Obj) : RowIs (w.alloc o) g B ls := by
  obtain ⟨v, bs, hH, ho, a, b⟩ := h
  exact ⟨v, bs, hH.alloc o, ho.alloc o, a, b⟩

/-- the name with the labels that came: what 'name' answers. -/
def nameR (ls : List (List UInt8)) : Value := if 255 < (Nm.body ls).length + 1 then .tuple #[.string ⟨#[]⟩, .int .i64 2] else .tuple #[sv (Nm.glue ls), .int .i64 0]

set_option maxHeartbeats 1000000 in
set_option maxRecDepth 100000 in
theorem rowName_any (w : World) (g B : Nat) (ls : List (List UInt8)) (h : RowIs w g B ls) :
    Calls Tryz.prog 111 #[.pointer (some ⟨g, 0, none⟩)] w fun e w' => e = .returned (nameR ls) ∧ w' = w := by
  obtain ⟨v, bs, hH, hown, hbs, hbody⟩ := h
  have c0 : w.cell? ⟨g, 0, none⟩ = some v := by rw [hH.cell]; rfl
  obtain ⟨ad, cp, hv⟩ := own_form hown
  subst hv
  have HO := Lib.hid hown
  unfold nameR
  by_cases hl : 255 < (Nm.body ls).length + 1
  · rw [if_pos hl]
    have c1 : w.cell? ⟨g, 1, none⟩ = some (.bool true) := by rw [hH.cell, decide_eq_true hl]; rfl
    clear hH hown hbody hl
    go_enter Tryz.func111, Tryz.ntmps111
    go_wp2
    go_ret2
    exact ⟨rfl, rfl⟩
  · rw [if_neg hl]
    have c1 : w.cell? ⟨g, 1, none⟩ = some (.bool false) := by rw [hH.cell, decide_eq_false hl]; rfl
    have HE := Lib.hid (hbody (by omega))
    clear hH hown hbody hl
    go_enter Tryz.func111, Tryz.ntmps111
    go_wp2_with (refine wpList_convert_own _ rfl 51 22 (.tmp 11) rfl 5 Tryz.underlying51 Tryz.underlying5 Tryz.underlying22 B bs.length _ bs rfl HO.out ?_)
    go_ret2
    refine ⟨?_, rfl⟩
    show Ending.returned (.tuple #[.string (⟨bs.toArray⟩ ++ ⟨#[0]⟩), .int .i64 0]) = _
    rw [string_eq (s := ⟨bs.toArray⟩ ++ ⟨#[0]⟩) (l := Nm.glue ls) (by rw [cat_list, HE.out]; rfl)]
theorem rowName_long (w : World) (g B : Nat) (ls : List (List UInt8)) (h : RowIs w g B ls) (hl : 255 < (Nm.body ls).length + 1) :
    Calls Tryz.prog 111 #[.pointer (some ⟨g, 0, none⟩)] w fun e w' => e = .returned (.tuple #[.string ⟨#[]⟩, .int .i64 2]) ∧ w = w' :=
  (rowName_any w g B ls h).mono fun _ _ ⟨a, b⟩ => ⟨by rw [a, nameR, if_pos hl], b.symm⟩
theorem rowName_ok (w : World) (g B : Nat) (ls : List (List UInt8)) (h : RowIs w g B ls) (hl : ¬ 255 < (Nm.body ls).length + 1) :
    Calls Tryz.prog 111 #[.pointer (some ⟨g, 0, none⟩)] w fun e w' => e = .returned (.tuple #[sv (Nm.glue ls), .int .i64 0]) ∧ w = w' :=
  (rowName_any w g B ls h).mono fun _ _ ⟨a, b⟩ => ⟨by rw [a, nameR, if_neg hl], b.symm⟩
end Go.Proofs.YtekafhogiambaaaGreatDoor
