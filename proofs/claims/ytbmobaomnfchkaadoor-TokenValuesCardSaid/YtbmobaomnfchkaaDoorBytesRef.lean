/- Bytes: the document's answer. -/
import Derived.Test.YtbmobaomnfchkaaDoorTextRef
namespace Go.Proofs.YtbmobaomnfchkaaDoor
open Go.RowKit

theorem list_at (s : ByteArray) (k : Nat) (h : k < s.size) : s.data.toList.drop k = s[k] :: s.data.toList.drop (k + 1) := by
  rw [Nm.drop_cons (by simpa using h)]; rfl

set_option maxHeartbeats 4000000 in
set_option maxRecDepth 100000 in
theorem refBytes_any (s : ByteArray) (w : World) (hs : s.size ≤ 140737488355328) :
    Calls Tryd.prog 10 #[.string s] w fun e w' => e = .returned (unR s.data.toList) ∧ Below w.heap.size w w' := by
  obtain ⟨i0, hi, hz0, hz1, hz2⟩ := info_parts Tryd.infoByte
  have hsz : s.data.toList.length = s.size := by simp
  have HSZ := Lib.hid hsz
  clear hsz
  go_enter Tryd.func10, Tryd.ntmps10
  go_wp2
  go_loopw [4, 5] (fun v i wr => ∃ k : Nat, ∃ out, i = .int .i64 k ∧ Sofar s.data.toList k out ∧ wr.ownsRow w.heap.size 5 1 v out.length (bv out) ∧ Below w.heap.size w wr) (fun _ i _ => s.size - (intOf i).toNat)
  case atStart => exact ⟨0, [], rfl, Sofar.zero _, World.ownsRow_nil _ _ _ _, Below.refl _ _⟩
  case round =>
    obtain ⟨k, out, rfl, hso, hown, hb⟩ := hrel
    have hk := hso.1
    have hol := hso.2.1
    rw [HSZ.out] at hk
    have HS := Lib.hid hso
    have HO := Lib.hid hown
    have HB := Lib.hid hb
    have hbs := hb.size
    clear hso hown hb
    by_cases hlt : k < s.size
    · have hlt' : k < s.data.toList.length := by rw [HSZ.out]; exact hlt
      have h8 := s[k].toNat_lt
      by_cases h92 : s[k].toNat = 92
      · have h92b : ((s[k].toNat : Int) != 92) = false := by simp [h92]
        have H92 := Lib.hid h92
        clear h92
        by_cases hend : k + 1 = s.size
        · have HD : Hid (unR s.data.toList = .tuple #[.string ⟨#[]⟩, .int .i64 12]) := HS.out.no hlt' H92.out (by rw [List.drop_eq_nil_of_le (by rw [HSZ.out]; omega)]; rfl)
          have hq : ((k : Int) + 1 == (s.size : Int)) = true := beq_iff_eq.2 (by omega)
          clear hend
          go_wp2
          go_ret2
          exact ⟨by rw [HD.out]; rfl, HB.out⟩
        · have hq : ((k : Int) + 1 == (s.size : Int)) = false := beq_eq_false_iff_ne.2 (by omega)
          have hk1 : k + 1 < s.size := by omega
          have e1 := list_at s (k + 1) hk1
          have E1 := Lib.hid e1
          have d8 := s[k + 1].toNat_lt
          clear hend e1
          by_cases hd : Nm.dg s[k + 1]
          · have HY1 := Lib.hid (fun w => digit_yes s[k + 1] w hd)
            have hd1 := hd.1
            have hd2 := hd.2
            by_cases hsh : s.size ≤ k + 3
            · have HD : Hid (unR s.data.toList = .tuple #[.string ⟨#[]⟩, .int .i64 12]) := HS.out.no hlt' H92.out (by rw [E1.out]; exact Nm.escd_few hd (by simp; omega))
              clear hd
              go_wp2_with (first | (go_at_call 13; (with_reducible refine (HY1.out _).mono ?_); rintro e w' ⟨rfl, rfl⟩))
              go_ret2
              exact ⟨by rw [HD.out]; rfl, HB.out⟩
            · have hk2 : k + 2 < s.size := by omega
              have hk3 : k + 3 < s.size := by omega
              have E2 := Lib.hid (list_at s (k + 2) hk2)
              have E3 := Lib.hid (list_at s (k + 3) hk3)
              have HE : Hid (Nm.escd (s.data.toList.drop (k + 1)) = if Nm.dg s[k + 2] ∧ Nm.dg s[k + 3] ∧ Nm.val3 s[k + 1] s[k + 2] s[k + 3] ≤ 255 then some (UInt8.ofNat (Nm.val3 s[k + 1] s[k + 2] s[k + 3]), 3) else none) := by
                show _ = _
                rw [E1.out, E2.out, E3.out]; exact Nm.escd_three hd
              clear hd
              by_cases hd2' : Nm.dg s[k + 2]
              · have HY2 := Lib.hid (fun w => digit_yes s[k + 2] w hd2')
                have g1 := hd2'.1
                have g2 := hd2'.2
                by_cases hd3' : Nm.dg s[k + 3]
                · have HY3 := Lib.hid (fun w => digit_yes s[k + 3] w hd3')
                  have g3 := hd3'.1
                  have g4 := hd3'.2
                  have hval : ((Nm.val3 s[k + 1] s[k + 2] s[k + 3] : Nat) : Int) = 100 * ((s[k + 1].toNat : Int) - 48) + 10 * ((s[k + 2].toNat : Int) - 48) + ((s[k + 3].toNat : Int) - 48) := by unfold Nm.val3; omega
                  have HVAL := Lib.hid hval
                  clear hval
                  by_cases hbig : 100 * ((s[k + 1].toNat : Int) - 48) + 10 * ((s[k + 2].toNat : Int) - 48) + ((s[k + 3].toNat : Int) - 48) ≤ 255
                  · have HY := Lib.hid (HS.out.yes hlt' H92.out (HE.out.trans (if_pos ⟨hd2', hd3', by have := HVAL.out; omega⟩)))
                    have hnat : (UInt8.ofNat (Nm.val3 s[k + 1] s[k + 2] s[k + 3])).toNat = Nm.val3 s[k + 1] s[k + 2] s[k + 3] := by have := HVAL.out; simp; omega
                    have HNB : Hid (bv [UInt8.ofNat (Nm.val3 s[k + 1] s[k + 2] s[k + 3])] = [.int .u8 (100 * ((s[k + 1].toNat : Int) - 48) + 10 * ((s[k + 2].toNat : Int) - 48) + ((s[k + 3].toNat : Int) - 48))]) := by rw [Hid, bv1, hnat, HVAL.out]
                    clear hnat hd2' hd3'
                    go_wp2_with (first
                      | (go_at_call 13; (with_reducible refine (HY1.out _).mono ?_); rintro e w' ⟨rfl, rfl⟩)
                      | (go_at_call 13; (with_reducible refine (HY2.out _).mono ?_); rintro e w' ⟨rfl, rfl⟩)
                      | (go_at_call 13; (with_reducible refine (HY3.out _).mono ?_); rintro e w' ⟨rfl, rfl⟩))
                    have b1 : IntKind.u8.wrap ((s[k + 1].toNat : Int) - 48) = (s[k + 1].toNat : Int) - 48 := IntWalk.u8_in _ (by omega)
                    have b2 : IntKind.u8.wrap ((s[k + 2].toNat : Int) - 48) = (s[k + 2].toNat : Int) - 48 := IntWalk.u8_in _ (by omega)
                    have b3 : IntKind.u8.wrap ((s[k + 3].toNat : Int) - 48) = (s[k + 3].toNat : Int) - 48 := IntWalk.u8_in _ (by omega)
                    have b4 : IntKind.i64.wrap (100 * ((s[k + 1].toNat : Int) - 48)) = 100 * ((s[k + 1].toNat : Int) - 48) := IntWalk.i64_in _ (by omega)
                    have b5 : IntKind.i64.wrap (10 * ((s[k + 2].toNat : Int) - 48)) = 10 * ((s[k + 2].toNat : Int) - 48) := IntWalk.i64_in _ (by omega)
                    have b6 : IntKind.i64.wrap (100 * ((s[k + 1].toNat : Int) - 48) + 10 * ((s[k + 2].toNat : Int) - 48)) = 100 * ((s[k + 1].toNat : Int) - 48) + 10 * ((s[k + 2].toNat : Int) - 48) := IntWalk.i64_in _ (by omega)
                    have b7 : IntKind.i64.wrap (100 * ((s[k + 1].toNat : Int) - 48) + 10 * ((s[k + 2].toNat : Int) - 48) + ((s[k + 3].toNat : Int) - 48)) = 100 * ((s[k + 1].toNat : Int) - 48) + 10 * ((s[k + 2].toNat : Int) - 48) + ((s[k + 3].toNat : Int) - 48) := IntWalk.i64_in _ (by omega)
                    go_quiet (fail)
                    have HOq := Lib.hid (World.ownsRow.alloc (w := wr.drewN nq) HO.out (.cells #[.int .u8 (100 * ((s[k + 1].toNat : Int) - 48) + 10 * ((s[k + 2].toNat : Int) - 48) + ((s[k + 3].toNat : Int) - 48))] 5))
                    clear b1 b2 b3 b4 b5 b6 b7
                    go_wp2_with (first
                      | (at_builtin
                         refine wpList_append_own _ rfl (.tmp 88) (.tmp 91) _ rfl w.heap.size 5 i0 _ 1 1 Tryd.underlying39 hi hz0 hz1 hz2 rfl (by decide) _ out.length (bv out) rfl HOq.out ⟨wr.heap.size, 0, none⟩ 1 1 [.int .u8 (100 * ((s[k + 1].toNat : Int) - 48) + 10 * ((s[k + 2].toNat : Int) - 48) + ((s[k + 3].toNat : Int) - 48))] rfl rfl (cell_one_new _ _ _) (by simp [Value.oneCell']) (by unfold maxLen; omega) (by omega) (by simp; omega) ?_
                         intro v2 w2 hown2 hg2 _))
                    go_roundw
                    case rel =>
                      refine ⟨k + 1 + 3, out ++ [UInt8.ofNat (Nm.val3 s[k + 1] s[k + 2] s[k + 3])], by go_num, HY.out, ?_, (((below_drewN HB.out nq).alloc (by show _ ≤ wr.heap.size; omega) _).grown hg2 (by simp; omega) (fun j hj => (HO.out.lt j hj).1))⟩
                      rw [List.length_append, bv_append, HNB.out]; exact hown2
                    case measure => simp [intOf]; omega
                  · have HD : Hid (unR s.data.toList = .tuple #[.string ⟨#[]⟩, .int .i64 12]) := HS.out.no hlt' H92.out (HE.out.trans (if_neg (fun h => hbig (by have := HVAL.out; have := h.2.2; omega))))
                    clear hd2' hd3'
                    have hbg : 255 < 100 * ((s[k + 1].toNat : Int) - 48) + 10 * ((s[k + 2].toNat : Int) - 48) + ((s[k + 3].toNat : Int) - 48) := by omega
                    clear hbig
                    go_wp2_with (first
                      | (go_at_call 13; (with_reducible refine (HY1.out _).mono ?_); rintro e w' ⟨rfl, rfl⟩)
                      | (go_at_call 13; (with_reducible refine (HY2.out _).mono ?_); rintro e w' ⟨rfl, rfl⟩)
                      | (go_at_call 13; (with_reducible refine (HY3.out _).mono ?_); rintro e w' ⟨rfl, rfl⟩))
                    have b1 : IntKind.u8.wrap ((s[k + 1].toNat : Int) - 48) = (s[k + 1].toNat : Int) - 48 := IntWalk.u8_in _ (by omega)
                    have b2 : IntKind.u8.wrap ((s[k + 2].toNat : Int) - 48) = (s[k + 2].toNat : Int) - 48 := IntWalk.u8_in _ (by omega)
                    have b3 : IntKind.u8.wrap ((s[k + 3].toNat : Int) - 48) = (s[k + 3].toNat : Int) - 48 := IntWalk.u8_in _ (by omega)
                    have b4 : IntKind.i64.wrap (100 * ((s[k + 1].toNat : Int) - 48)) = 100 * ((s[k + 1].toNat : Int) - 48) := IntWalk.i64_in _ (by omega)
                    have b5 : IntKind.i64.wrap (10 * ((s[k + 2].toNat : Int) - 48)) = 10 * ((s[k + 2].toNat : Int) - 48) := IntWalk.i64_in _ (by omega)
                    have b6 : IntKind.i64.wrap (100 * ((s[k + 1].toNat : Int) - 48) + 10 * ((s[k + 2].toNat : Int) - 48)) = 100 * ((s[k + 1].toNat : Int) - 48) + 10 * ((s[k + 2].toNat : Int) - 48) := IntWalk.i64_in _ (by omega)
                    have b7 : IntKind.i64.wrap (100 * ((s[k + 1].toNat : Int) - 48) + 10 * ((s[k + 2].toNat : Int) - 48) + ((s[k + 3].toNat : Int) - 48)) = 100 * ((s[k + 1].toNat : Int) - 48) + 10 * ((s[k + 2].toNat : Int) - 48) + ((s[k + 3].toNat : Int) - 48) := IntWalk.i64_in _ (by omega)
                    go_quiet (fail)
                    clear b1 b2 b3 b4 b5 b6 b7
                    go_wp2
                    go_ret2
                    exact ⟨by rw [HD.out]; rfl, below_drewN HB.out _⟩
                · have HY3 := Lib.hid (fun w => digit_no s[k + 3] w hd3')
                  have HD : Hid (unR s.data.toList = .tuple #[.string ⟨#[]⟩, .int .i64 12]) := HS.out.no hlt' H92.out (HE.out.trans (if_neg (fun h => hd3' h.2.1)))
                  clear hd2' hd3'
                  go_wp2_with (first
                    | (go_at_call 13; (with_reducible refine (HY1.out _).mono ?_); rintro e w' ⟨rfl, rfl⟩)
                    | (go_at_call 13; (with_reducible refine (HY2.out _).mono ?_); rintro e w' ⟨rfl, rfl⟩)
                    | (go_at_call 13; (with_reducible refine (HY3.out _).mono ?_); rintro e w' ⟨rfl, rfl⟩))
                  go_ret2
                  exact ⟨by rw [HD.out]; rfl, HB.out⟩
              · have HY2 := Lib.hid (fun w => digit_no s[k + 2] w hd2')
                have HD : Hid (unR s.data.toList = .tuple #[.string ⟨#[]⟩, .int .i64 12]) := HS.out.no hlt' H92.out (HE.out.trans (if_neg (fun h => hd2' h.1)))
                clear hd2'
                go_wp2_with (first
                  | (go_at_call 13; (with_reducible refine (HY1.out _).mono ?_); rintro e w' ⟨rfl, rfl⟩)
                  | (go_at_call 13; (with_reducible refine (HY2.out _).mono ?_); rintro e w' ⟨rfl, rfl⟩))
                go_ret2
                exact ⟨by rw [HD.out]; rfl, HB.out⟩
          · have HY1 := Lib.hid (fun w => digit_no s[k + 1] w hd)
            have HY := Lib.hid (HS.out.yes hlt' H92.out (b := s[k + 1]) (n := 1) (by rw [E1.out]; exact Nm.escd_plain hd))
            clear hd
            go_wp2_with (first
              | (go_at_call 13; (with_reducible refine (HY1.out _).mono ?_); rintro e w' ⟨rfl, rfl⟩)
              | (at_builtin
                 refine wpList_append_own _ rfl (.tmp 34) (.tmp 39) _ rfl w.heap.size 5 i0 _ 1 1 Tryd.underlying39 hi hz0 hz1 hz2 rfl (by decide) _ out.length (bv out) rfl (HO.out.alloc _) ⟨wr.heap.size, 0, none⟩ 1 1 [.int .u8 (s[k + 1].toNat : Nat)] rfl rfl (cell_one_new _ _ _) (by simp [Value.oneCell']) (by unfold maxLen; omega) (by omega) (by simp; omega) ?_
                 intro v2 w2 hown2 hg2 _))
            go_roundw
            case rel =>
              refine ⟨k + 1 + 1, out ++ [s[k + 1]], by go_num, HY.out, ?_, (HB.out.alloc hbs _).grown hg2 (by simp; omega) (fun j hj => (HO.out.lt j hj).1)⟩
              rw [List.length_append, bv_append]; exact hown2
            case measure => simp [intOf]; omega
      · have h92b : ((s[k].toNat : Int) != 92) = true := by rw [bne_iff_ne]; omega
        have HP := Lib.hid (HS.out.plain hlt' h92)
        clear h92
        go_wp2_with (first
          | (at_builtin
             refine wpList_append_own _ rfl (.tmp 17) (.tmp 21) _ rfl w.heap.size 5 i0 _ 1 1 Tryd.underlying39 hi hz0 hz1 hz2 rfl (by decide) _ out.length (bv out) rfl (HO.out.alloc _) ⟨wr.heap.size, 0, none⟩ 1 1 [.int .u8 (s[k].toNat : Nat)] rfl rfl (cell_one_new _ _ _) (by simp [Value.oneCell']) (by unfold maxLen; omega) (by omega) (by simp; omega) ?_
             intro v2 w2 hown2 hg2 _))
        go_roundw
        case rel =>
          refine ⟨k + 1, out ++ [s[k]], by go_num, HP.out, ?_, (HB.out.alloc hbs _).grown hg2 (by simp; omega) (fun j hj => (HO.out.lt j hj).1)⟩
          rw [List.length_append, bv_append]; exact hown2
        case measure => simp [intOf]; omega
    · obtain rfl : k = s.size := by omega
      have HD := Lib.hid ((show Sofar s.data.toList s.data.toList.length out by rw [HSZ.out]; exact HS.out).done)
      go_wp2_with (refine wpList_convert_own _ rfl 39 9 (.tmp 95) rfl 5 Tryd.underlying39 Tryd.underlying5 Tryd.underlying9 w.heap.size out.length _ out rfl HO.out ?_)
      go_ret2
      exact ⟨by rw [HD.out]; rfl, HB.out⟩
end Go.Proofs.YtbmobaomnfchkaaDoor
