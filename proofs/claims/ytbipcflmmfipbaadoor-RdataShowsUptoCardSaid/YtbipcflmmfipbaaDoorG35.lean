/- Texts of the proofs, merged. -/
import Derived.Test.YtbipcflmmfipbaaDoorG10
/- digit, marked, Bytes, Escape: the document's answers on texts. -/
namespace Go.Proofs.YtbipcflmmfipbaaDoor
open Go.RowKit

set_option maxHeartbeats 400000 in
theorem mk_34 (q : Bool) (c : UInt8) (w : World) (_ : ((c.toNat : Int) == 34) = true) : Calls Tryd.prog 101 #[.int .u8 (c.toNat : Int), .bool q] w fun e w' => e = .returned (.bool true) ∧ w = w' := by
  have h8 := c.toNat_lt
  go_enter Tryd.func101, Tryd.ntmps101
  go_wp2
  go_ret
  exact ⟨rfl, rfl⟩

set_option maxHeartbeats 400000 in
theorem mk_92 (q : Bool) (c : UInt8) (w : World) (_ : ((c.toNat : Int) == 34) = false) (_ : ((c.toNat : Int) == 92) = true) : Calls Tryd.prog 101 #[.int .u8 (c.toNat : Int), .bool q] w fun e w' => e = .returned (.bool true) ∧ w = w' := by
  have h8 := c.toNat_lt
  go_enter Tryd.func101, Tryd.ntmps101
  go_wp2
  go_ret
  exact ⟨rfl, rfl⟩

set_option maxHeartbeats 400000 in
theorem mk_quoted (c : UInt8) (w : World) (_ : ((c.toNat : Int) == 34) = false) (_ : ((c.toNat : Int) == 92) = false) : Calls Tryd.prog 101 #[.int .u8 (c.toNat : Int), .bool true] w fun e w' => e = .returned (.bool false) ∧ w = w' := by
  have h8 := c.toNat_lt
  go_enter Tryd.func101, Tryd.ntmps101
  go_wp2
  go_ret
  exact ⟨rfl, rfl⟩

set_option maxHeartbeats 400000 in
theorem mk_46 (c : UInt8) (w : World) (_ : ((c.toNat : Int) == 34) = false) (_ : ((c.toNat : Int) == 92) = false) (_ : ((c.toNat : Int) == 46) = true) : Calls Tryd.prog 101 #[.int .u8 (c.toNat : Int), .bool false] w fun e w' => e = .returned (.bool true) ∧ w = w' := by
  have h8 := c.toNat_lt
  go_enter Tryd.func101, Tryd.ntmps101
  go_wp2
  go_ret
  exact ⟨rfl, rfl⟩

set_option maxHeartbeats 400000 in
theorem mk_59 (c : UInt8) (w : World) (_ : ((c.toNat : Int) == 34) = false) (_ : ((c.toNat : Int) == 92) = false) (_ : ((c.toNat : Int) == 46) = false) (_ : ((c.toNat : Int) == 59) = true) : Calls Tryd.prog 101 #[.int .u8 (c.toNat : Int), .bool false] w fun e w' => e = .returned (.bool true) ∧ w = w' := by
  have h8 := c.toNat_lt
  go_enter Tryd.func101, Tryd.ntmps101
  go_wp2
  go_ret
  exact ⟨rfl, rfl⟩

set_option maxHeartbeats 400000 in
theorem mk_40 (c : UInt8) (w : World) (_ : ((c.toNat : Int) == 34) = false) (_ : ((c.toNat : Int) == 92) = false) (_ : ((c.toNat : Int) == 46) = false) (_ : ((c.toNat : Int) == 59) = false) (_ : ((c.toNat : Int) == 40) = true) : Calls Tryd.prog 101 #[.int .u8 (c.toNat : Int), .bool false] w fun e w' => e = .returned (.bool true) ∧ w = w' := by
  have h8 := c.toNat_lt
  go_enter Tryd.func101, Tryd.ntmps101
  go_wp2
  go_ret
  exact ⟨rfl, rfl⟩

set_option maxHeartbeats 400000 in
theorem mk_41 (c : UInt8) (w : World) (_ : ((c.toNat : Int) == 34) = false) (_ : ((c.toNat : Int) == 92) = false) (_ : ((c.toNat : Int) == 46) = false) (_ : ((c.toNat : Int) == 59) = false) (_ : ((c.toNat : Int) == 40) = false) (_ : ((c.toNat : Int) == 41) = true) : Calls Tryd.prog 101 #[.int .u8 (c.toNat : Int), .bool false] w fun e w' => e = .returned (.bool true) ∧ w = w' := by
  have h8 := c.toNat_lt
  go_enter Tryd.func101, Tryd.ntmps101
  go_wp2
  go_ret
  exact ⟨rfl, rfl⟩

set_option maxHeartbeats 400000 in
theorem mk_64 (c : UInt8) (w : World) (_ : ((c.toNat : Int) == 34) = false) (_ : ((c.toNat : Int) == 92) = false) (_ : ((c.toNat : Int) == 46) = false) (_ : ((c.toNat : Int) == 59) = false) (_ : ((c.toNat : Int) == 40) = false) (_ : ((c.toNat : Int) == 41) = false) (_ : ((c.toNat : Int) == 64) = true) : Calls Tryd.prog 101 #[.int .u8 (c.toNat : Int), .bool false] w fun e w' => e = .returned (.bool true) ∧ w = w' := by
  have h8 := c.toNat_lt
  go_enter Tryd.func101, Tryd.ntmps101
  go_wp2
  go_ret
  exact ⟨rfl, rfl⟩

set_option maxHeartbeats 400000 in
theorem mk_36 (c : UInt8) (w : World) (_ : ((c.toNat : Int) == 34) = false) (_ : ((c.toNat : Int) == 92) = false) (_ : ((c.toNat : Int) == 46) = false) (_ : ((c.toNat : Int) == 59) = false) (_ : ((c.toNat : Int) == 40) = false) (_ : ((c.toNat : Int) == 41) = false) (_ : ((c.toNat : Int) == 64) = false) (_ : ((c.toNat : Int) == 36) = true) : Calls Tryd.prog 101 #[.int .u8 (c.toNat : Int), .bool false] w fun e w' => e = .returned (.bool true) ∧ w = w' := by
  have h8 := c.toNat_lt
  go_enter Tryd.func101, Tryd.ntmps101
  go_wp2
  go_ret
  exact ⟨rfl, rfl⟩

set_option maxHeartbeats 400000 in
theorem mk_none (c : UInt8) (w : World) (_ : ((c.toNat : Int) == 34) = false) (_ : ((c.toNat : Int) == 92) = false) (_ : ((c.toNat : Int) == 46) = false) (_ : ((c.toNat : Int) == 59) = false) (_ : ((c.toNat : Int) == 40) = false) (_ : ((c.toNat : Int) == 41) = false) (_ : ((c.toNat : Int) == 64) = false) (_ : ((c.toNat : Int) == 36) = false) : Calls Tryd.prog 101 #[.int .u8 (c.toNat : Int), .bool false] w fun e w' => e = .returned (.bool false) ∧ w = w' := by
  have h8 := c.toNat_lt
  go_enter Tryd.func101, Tryd.ntmps101
  go_wp2
  go_ret
  exact ⟨rfl, rfl⟩

theorem marked_any (c : UInt8) (q : Bool) (w : World) : Calls Tryd.prog 101 #[.int .u8 (c.toNat : Int), .bool q] w fun e w' => e = .returned (.bool (Nm.mark q c)) ∧ w = w' := by
  by_cases h34 : c.toNat = 34
  · have e : Nm.mark q c = true := by simp [Nm.mark, h34]
    rw [e]; exact mk_34 q c w  (eq h34)
  by_cases h92 : c.toNat = 92
  · have e : Nm.mark q c = true := by simp [Nm.mark, h92]
    rw [e]; exact mk_92 q c w (ne h34) (eq h92)
  cases q
  rotate_left
  · have e : Nm.mark true c = false := by simp [Nm.mark, h34, h92]
    rw [e]; exact mk_quoted c w (ne h34) (ne h92)
  by_cases h46 : c.toNat = 46
  · have e : Nm.mark false c = true := by simp [Nm.mark, h46]
    rw [e]; exact mk_46 c w (ne h34) (ne h92) (eq h46)
  by_cases h59 : c.toNat = 59
  · have e : Nm.mark false c = true := by simp [Nm.mark, h59]
    rw [e]; exact mk_59 c w (ne h34) (ne h92) (ne h46) (eq h59)
  by_cases h40 : c.toNat = 40
  · have e : Nm.mark false c = true := by simp [Nm.mark, h40]
    rw [e]; exact mk_40 c w (ne h34) (ne h92) (ne h46) (ne h59) (eq h40)
  by_cases h41 : c.toNat = 41
  · have e : Nm.mark false c = true := by simp [Nm.mark, h41]
    rw [e]; exact mk_41 c w (ne h34) (ne h92) (ne h46) (ne h59) (ne h40) (eq h41)
  by_cases h64 : c.toNat = 64
  · have e : Nm.mark false c = true := by simp [Nm.mark, h64]
    rw [e]; exact mk_64 c w (ne h34) (ne h92) (ne h46) (ne h59) (ne h40) (ne h41) (eq h64)
  by_cases h36 : c.toNat = 36
  · have e : Nm.mark false c = true := by simp [Nm.mark, h36]
    rw [e]; exact mk_36 c w (ne h34) (ne h92) (ne h46) (ne h59) (ne h40) (ne h41) (ne h64) (eq h36)
  have e : Nm.mark false c = false := by simp [Nm.mark, h34, h92, h46, h59, h40, h41, h64, h36]
  rw [e]; exact mk_none c w (ne h34) (ne h92) (ne h46) (ne h59) (ne h40) (ne h41) (ne h64) (ne h36)


set_option maxHeartbeats 4000000 in
set_option maxRecDepth 100000 in
theorem refEscape_any (s : ByteArray) (q : Bool) (w : World) (hs : s.size ≤ 35184372088832) :
    Calls Tryd.prog 55 #[.string s, .bool q] w fun e w' => e = .returned (sv (Nm.esc q s.data.toList)) ∧ Below w.heap.size w w' := by
  obtain ⟨i0, hi, hz0, hz1, hz2⟩ := info_parts Tryd.infoByte
  go_enter Tryd.func55, Tryd.ntmps55
  go_wp2
  go_loopw [5, 6] (fun v i wr => ∃ k : Nat, k ≤ s.size ∧ i = .int .i64 k ∧ wr.ownsRow w.heap.size 5 1 v (Nm.esc q (s.data.toList.take k)).length (bv (Nm.esc q (s.data.toList.take k))) ∧ Below w.heap.size w wr) (fun _ i _ => s.size - (intOf i).toNat)
  case atStart => exact ⟨0, Nat.zero_le _, rfl, World.ownsRow_nil _ _ _ _, Below.refl _ _⟩
  case round =>
    obtain ⟨k, hk, rfl, hown, hb⟩ := hrel
    have HO := Lib.hid hown
    have HB := Lib.hid hb
    have hbs := hb.size
    clear hown hb
    by_cases hlt : k < s.size
    · have hts : s.data.toList.take (k + 1) = s.data.toList.take k ++ [s[k]] := List.take_succ_eq_append_getElem (by simpa using hlt)
      have hel := Nm.esc_len q (s.data.toList.take k)
      have htl : (s.data.toList.take k).length ≤ k := List.length_take_le _ _
      have HTS : Hid (Nm.esc q (s.data.toList.take (k + 1)) = Nm.esc q (s.data.toList.take k) ++ Nm.esc1 q s[k]) := by rw [Hid, hts, Nm.esc_snoc]
      clear hts
      generalize Nm.esc q (s.data.toList.take k) = l at *
      have hll : l.length ≤ 4 * k := by omega
      clear hel htl
      have h8 := s[k].toNat_lt
      rcases hm : Nm.mark q s[k] with _ | _
      · by_cases h1 : 32 < s[k].toNat
        · by_cases h2 : s[k].toNat < 127
          · have hcl : Nm.clear q s[k] = true := by simp [Nm.clear]; omega
            have HV : Hid (Nm.esc1 q s[k] = [s[k]]) := by show _ = _; unfold Nm.esc1; first | (rw [hm, hcl]; rfl) | (rw [hm]; rfl)
            have HM := Lib.hid (fun W => marked_any s[k] q W)
            rw [hm] at HM
            clear hm
            go_wp2_with (first
          | (go_at_call 101; refine (HM.out _).mono ?_; rintro e w' ⟨rfl, rfl⟩)
          | (at_builtin
             refine wpList_append_own _ rfl (.tmp 52) (.tmp 54) _ rfl w.heap.size 5 i0 _ 1 1 Tryd.underlying34 hi hz0 hz1 hz2 rfl (by decide) _ l.length (bv l) rfl (HO.out.alloc _) ⟨wr.heap.size, 0, none⟩ 1 1 [.int .u8 (s[k].toNat : Nat)] rfl rfl (cells_new _ _ [.int .u8 (s[k].toNat : Nat)]) (by simp [Value.oneCell']) (by unfold maxLen; omega) (by omega) (by simp; omega) ?_
             intro v' w1 hown1 hg1 _))
            go_roundw
            case rel =>
              refine ⟨k + 1, by omega, by go_num, ?_, (HB.out.alloc hbs _).grown hg1 (by simp; omega) (fun j hj => (HO.out.lt j hj).1)⟩
              rw [HTS.out, HV.out, List.length_append, bv_append, bv1]; exact hown1
            case measure => simp [intOf]; omega
          · have hcl : Nm.clear q s[k] = false := by simp [Nm.clear]; omega
            have HV : Hid (Nm.esc1 q s[k] = 92 :: Nm.dig3 s[k]) := by show _ = _; unfold Nm.esc1; first | (rw [hm, hcl]; rfl) | (rw [hm]; rfl)
            have h32 : ((s[k].toNat : Int) == 32) = false := beq_eq_false_iff_ne.2 (by omega)
            have HM := Lib.hid (fun W => marked_any s[k] q W)
            rw [hm] at HM
            clear hm
            go_wp2_with (first
          | (go_at_call 101; refine (HM.out _).mono ?_; rintro e w' ⟨rfl, rfl⟩)
          | (at_builtin
             refine wpList_append_own _ rfl (.tmp 17) (.tmp 28) _ rfl w.heap.size 5 i0 _ 1 1 Tryd.underlying34 hi hz0 hz1 hz2 rfl (by decide) _ l.length (bv l) rfl (HO.out.alloc _) ⟨wr.heap.size, 0, none⟩ 4 4 [.int .u8 92, .int .u8 (48 + (s[k].toNat : Int) / 100), .int .u8 (48 + (s[k].toNat : Int) / 10 % 10), .int .u8 (48 + (s[k].toNat : Int) % 10)] rfl rfl (cells_new _ _ [.int .u8 92, .int .u8 (48 + (s[k].toNat : Int) / 100), .int .u8 (48 + (s[k].toNat : Int) / 10 % 10), .int .u8 (48 + (s[k].toNat : Int) % 10)]) (by simp [Value.oneCell']) (by unfold maxLen; omega) (by omega) (by simp; omega) ?_
             intro v' w1 hown1 hg1 _))
            go_roundw
            case rel =>
              refine ⟨k + 1, by omega, by go_num, ?_, (HB.out.alloc hbs _).grown hg1 (by simp; omega) (fun j hj => (HO.out.lt j hj).1)⟩
              rw [HTS.out, HV.out, List.length_append, bv_append, bv4]; exact hown1
            case measure => simp [intOf]; omega
        · by_cases h32 : s[k].toNat = 32
          · have h32b : ((s[k].toNat : Int) == 32) = true := by simp [h32]
            cases q
            · have hcl : Nm.clear false s[k] = false := by simp [Nm.clear, h32]
              have HV : Hid (Nm.esc1 false s[k] = 92 :: Nm.dig3 s[k]) := by show _ = _; unfold Nm.esc1; first | (rw [hm, hcl]; rfl) | (rw [hm]; rfl)
              have HM := Lib.hid (fun W => marked_any s[k] false W)
              rw [hm] at HM
              clear hm h32
              go_wp2_with (first
          | (go_at_call 101; refine (HM.out _).mono ?_; rintro e w' ⟨rfl, rfl⟩)
          | (at_builtin
             refine wpList_append_own _ rfl (.tmp 17) (.tmp 28) _ rfl w.heap.size 5 i0 _ 1 1 Tryd.underlying34 hi hz0 hz1 hz2 rfl (by decide) _ l.length (bv l) rfl (HO.out.alloc _) ⟨wr.heap.size, 0, none⟩ 4 4 [.int .u8 92, .int .u8 (48 + (s[k].toNat : Int) / 100), .int .u8 (48 + (s[k].toNat : Int) / 10 % 10), .int .u8 (48 + (s[k].toNat : Int) % 10)] rfl rfl (cells_new _ _ [.int .u8 92, .int .u8 (48 + (s[k].toNat : Int) / 100), .int .u8 (48 + (s[k].toNat : Int) / 10 % 10), .int .u8 (48 + (s[k].toNat : Int) % 10)]) (by simp [Value.oneCell']) (by unfold maxLen; omega) (by omega) (by simp; omega) ?_
             intro v' w1 hown1 hg1 _))
              go_roundw
              case rel =>
                refine ⟨k + 1, by omega, by go_num, ?_, (HB.out.alloc hbs _).grown hg1 (by simp; omega) (fun j hj => (HO.out.lt j hj).1)⟩
                rw [HTS.out, HV.out, List.length_append, bv_append, bv4]; exact hown1
              case measure => simp [intOf]; omega
            · have hcl : Nm.clear true s[k] = true := by simp [Nm.clear, h32]
              have HV : Hid (Nm.esc1 true s[k] = [s[k]]) := by show _ = _; unfold Nm.esc1; first | (rw [hm, hcl]; rfl) | (rw [hm]; rfl)
              have HM := Lib.hid (fun W => marked_any s[k] true W)
              rw [hm] at HM
              clear hm h32
              go_wp2_with (first
          | (go_at_call 101; refine (HM.out _).mono ?_; rintro e w' ⟨rfl, rfl⟩)
          | (at_builtin
             refine wpList_append_own _ rfl (.tmp 52) (.tmp 54) _ rfl w.heap.size 5 i0 _ 1 1 Tryd.underlying34 hi hz0 hz1 hz2 rfl (by decide) _ l.length (bv l) rfl (HO.out.alloc _) ⟨wr.heap.size, 0, none⟩ 1 1 [.int .u8 (s[k].toNat : Nat)] rfl rfl (cells_new _ _ [.int .u8 (s[k].toNat : Nat)]) (by simp [Value.oneCell']) (by unfold maxLen; omega) (by omega) (by simp; omega) ?_
             intro v' w1 hown1 hg1 _))
              go_roundw
              case rel =>
                refine ⟨k + 1, by omega, by go_num, ?_, (HB.out.alloc hbs _).grown hg1 (by simp; omega) (fun j hj => (HO.out.lt j hj).1)⟩
                rw [HTS.out, HV.out, List.length_append, bv_append, bv1]; exact hown1
              case measure => simp [intOf]; omega
          · have hcl : Nm.clear q s[k] = false := by simp [Nm.clear, h32]; omega
            have HV : Hid (Nm.esc1 q s[k] = 92 :: Nm.dig3 s[k]) := by show _ = _; unfold Nm.esc1; first | (rw [hm, hcl]; rfl) | (rw [hm]; rfl)
            have h32b : ((s[k].toNat : Int) == 32) = false := beq_eq_false_iff_ne.2 (by omega)
            have HM := Lib.hid (fun W => marked_any s[k] q W)
            rw [hm] at HM
            clear hm
            go_wp2_with (first
          | (go_at_call 101; refine (HM.out _).mono ?_; rintro e w' ⟨rfl, rfl⟩)
          | (at_builtin
             refine wpList_append_own _ rfl (.tmp 17) (.tmp 28) _ rfl w.heap.size 5 i0 _ 1 1 Tryd.underlying34 hi hz0 hz1 hz2 rfl (by decide) _ l.length (bv l) rfl (HO.out.alloc _) ⟨wr.heap.size, 0, none⟩ 4 4 [.int .u8 92, .int .u8 (48 + (s[k].toNat : Int) / 100), .int .u8 (48 + (s[k].toNat : Int) / 10 % 10), .int .u8 (48 + (s[k].toNat : Int) % 10)] rfl rfl (cells_new _ _ [.int .u8 92, .int .u8 (48 + (s[k].toNat : Int) / 100), .int .u8 (48 + (s[k].toNat : Int) / 10 % 10), .int .u8 (48 + (s[k].toNat : Int) % 10)]) (by simp [Value.oneCell']) (by unfold maxLen; omega) (by omega) (by simp; omega) ?_
             intro v' w1 hown1 hg1 _))
            go_roundw
            case rel =>
              refine ⟨k + 1, by omega, by go_num, ?_, (HB.out.alloc hbs _).grown hg1 (by simp; omega) (fun j hj => (HO.out.lt j hj).1)⟩
              rw [HTS.out, HV.out, List.length_append, bv_append, bv4]; exact hown1
            case measure => simp [intOf]; omega
      · have hcl := hm
        have HV : Hid (Nm.esc1 q s[k] = [92, s[k]]) := by show _ = _; unfold Nm.esc1; first | (rw [hm, hcl]; rfl) | (rw [hm]; rfl)
        have HM := Lib.hid (fun W => marked_any s[k] q W)
        rw [hm] at HM
        clear hm
        go_wp2_with (first
          | (go_at_call 101; refine (HM.out _).mono ?_; rintro e w' ⟨rfl, rfl⟩)
          | (at_builtin
             refine wpList_append_own _ rfl (.tmp 34) (.tmp 36) _ rfl w.heap.size 5 i0 _ 1 1 Tryd.underlying34 hi hz0 hz1 hz2 rfl (by decide) _ l.length (bv l) rfl (HO.out.alloc _) ⟨wr.heap.size, 0, none⟩ 2 2 [.int .u8 92, .int .u8 (s[k].toNat : Nat)] rfl rfl (cells_new _ _ [.int .u8 92, .int .u8 (s[k].toNat : Nat)]) (by simp [Value.oneCell']) (by unfold maxLen; omega) (by omega) (by simp; omega) ?_
             intro v' w1 hown1 hg1 _))
        go_roundw
        case rel =>
          refine ⟨k + 1, by omega, by go_num, ?_, (HB.out.alloc hbs _).grown hg1 (by simp; omega) (fun j hj => (HO.out.lt j hj).1)⟩
          rw [HTS.out, HV.out, List.length_append, bv_append, bv2]; exact hown1
        case measure => simp [intOf]; omega
    · obtain rfl : k = s.size := by omega
      have HO' : Hid (wr.ownsRow w.heap.size 5 1 u5 (Nm.esc q s.data.toList).length (bv (Nm.esc q s.data.toList))) := by
        have := HO.out
        rw [List.take_of_length_le (by simp)] at this
        exact this
      clear HO
      go_wp2_with (refine wpList_convert_own _ rfl 34 9 (.tmp 56) rfl 5 Tryd.underlying34 Tryd.underlying5 Tryd.underlying9 w.heap.size _ _ (Nm.esc q s.data.toList) rfl HO'.out ?_)
      go_ret
      exact ⟨rfl, HB.out⟩
end Go.Proofs.YtbipcflmmfipbaaDoor
/- Bytes: the document's answer. -/
namespace Go.Proofs.YtbipcflmmfipbaaDoor
open Go.RowKit

theorem list_at (s : ByteArray) (k : Nat) (h : k < s.size) : s.data.toList.drop k = s[k] :: s.data.toList.drop (k + 1) := by
  rw [Nm.drop_cons (by simpa using h)]; rfl

end Go.Proofs.YtbipcflmmfipbaaDoor
