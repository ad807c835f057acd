/- Texts of the proofs, merged. -/
import Derived.Test.YtgcaephfhfkjcaaGreatDoorZh11
import Derived.Test.YtgcaephfhfkjcaaGreatDoorZh2
import Derived.Test.YtgcaephfhfkjcaaGreatDoorZh12
import Derived.Lib.ConvBytes
import Derived.Lib.ParseIntB
namespace Go.Proofs.YtgcaephfhfkjcaaGreatDoor
open Go.RowKit Go.Lib

/-- the two errors of strconv's lie in their variables. -/
def Lay (w : World) : Prop := (∃ tp p, w.cell? ⟨5, 0, none⟩ = some (.iface tp p)) ∧ (∃ tp p, w.cell? ⟨6, 0, none⟩ = some (.iface tp p))
/-- above both of them. -/
def layTop : Nat := Nat.max 5 6 + 1
theorem Lay.below {w w' : World} {B : Nat} (h : Lay w) (hb : Below B w w') (hB : layTop ≤ B) : Lay w' := by
  obtain ⟨⟨a, b, c⟩, d, e, f⟩ := h
  exact ⟨⟨a, b, (hb.cell (p := ⟨5, 0, none⟩) (Nat.lt_of_lt_of_le (show 5 < layTop by decide) hB)).trans c⟩, d, e, (hb.cell (p := ⟨6, 0, none⟩) (Nat.lt_of_lt_of_le (show 6 < layTop by decide) hB)).trans f⟩
theorem Lay.size {w : World} (h : Lay w) : layTop ≤ w.heap.size := by
  obtain ⟨⟨_, _, c⟩, d, e, f⟩ := h
  exact Nat.succ_le_of_lt (Nat.max_lt.2 ⟨block_lt_of_cell c, block_lt_of_cell f⟩)
theorem Lay.drewN {w : World} (h : Lay w) (n : Nat) : Lay (w.drewN n) := h
theorem Lay.drew {w : World} (h : Lay w) : Lay w.drew := h

theorem bytesWorld_below (w : World) (e : TypeId) (s : ByteArray) : Below w.heap.size w (Lib.bytesWorld w e s) := ⟨rfl, rfl, rfl, by rw [Lib.bytesWorld_size]; omega, fun j hj => Lib.bytesWorld_at_old w e s j hj⟩

/-- three bytes as a number: what ParseUint says of them. -/
theorem parse3 (a b c : UInt8) (h : Nm.dg a ∧ Nm.dg b ∧ Nm.dg c ∧ Nm.val3 a b c ≤ 255) : Lib.parseUintB 8 [a, b, c] = .ok (Nm.val3 a b c) := by
  obtain ⟨⟨a1, a2⟩, ⟨b1, b2⟩, ⟨c1, c2⟩, hv⟩ := h
  unfold Nm.val3 at *
  unfold Lib.parseUintB
  rw [if_neg (by simp)]
  simp only [Lib.parseUintM]
  rw [if_pos ⟨a1, a2⟩, if_neg (by omega), if_neg (by omega), if_pos ⟨b1, b2⟩, if_neg (by omega), if_neg (by omega), if_pos ⟨c1, c2⟩, if_neg (by omega), if_neg (by omega)]
  congr 1; omega
theorem parse3_no (a b c : UInt8) (h : ¬ (Nm.dg a ∧ Nm.dg b ∧ Nm.dg c ∧ Nm.val3 a b c ≤ 255)) : Lib.parseUintB 8 [a, b, c] = Lib.parseUintB 8 [] ∨ Lib.parseUintB 8 [a, b, c] = .range := by
  unfold Lib.parseUintB
  rw [if_neg (by simp)]
  simp only [Lib.parseUintM]
  by_cases ha : 48 ≤ a.toNat ∧ a.toNat ≤ 57
  · rw [if_pos ha, if_neg (by omega), if_neg (by omega)]
    by_cases hb : 48 ≤ b.toNat ∧ b.toNat ≤ 57
    · rw [if_pos hb, if_neg (by omega), if_neg (by omega)]
      by_cases hc : 48 ≤ c.toNat ∧ c.toNat ≤ 57
      · rw [if_pos hc, if_neg (by omega), if_pos ?_]
        · exact .inr rfl
        · have : ¬ Nm.val3 a b c ≤ 255 := fun hv => h ⟨ha, hb, hc, hv⟩
          unfold Nm.val3 at this; omega
      · rw [if_neg hc]; exact .inl rfl
    · rw [if_neg hb]; exact .inl rfl
  · rw [if_neg ha]; exact .inl rfl

/-- ParseUint of three bytes: the number, or some error. -/
theorem uint3_ok (s : ByteArray) (a b c : UInt8) (w : World) (hs : s.data.toList = [a, b, c]) (h : Nm.dg a ∧ Nm.dg b ∧ Nm.dg c ∧ Nm.val3 a b c ≤ 255) :
    Calls Tryz.prog 112 #[.string s, .int .i64 10, .int .i64 8] w fun e w' => e = .returned (.tuple #[.int .u64 (Nm.val3 a b c : Nat), .nilIface]) ∧ Below w.heap.size w w' := by
  have hz : s.size = 3 := by have := congrArg List.length hs; simpa using this
  refine (Tryz.strconv_ParseUint_10_at8_ok s (by omega) _ (by rw [hs]; exact parse3 a b c h) w).mono ?_
  rintro e w' ⟨rfl, rfl | rfl⟩
  · exact ⟨rfl, Below.refl _ _⟩
  · exact ⟨rfl, bytesWorld_below _ _ _⟩
theorem uint3_no (s : ByteArray) (a b c : UInt8) (w : World) (hL : Lay w) (hs : s.data.toList = [a, b, c]) (h : ¬ (Nm.dg a ∧ Nm.dg b ∧ Nm.dg c ∧ Nm.val3 a b c ≤ 255)) :
    Calls Tryz.prog 112 #[.string s, .int .i64 10, .int .i64 8] w fun e w' => ∃ x t a, e = .returned (.tuple #[.int .u64 x, .iface t (.pointer (some a))]) ∧ Below w.heap.size w w' := by
  have hz : s.size = 3 := by have := congrArg List.length hs; simpa using this
  obtain ⟨⟨t1, p1, h1⟩, t2, p2, h2⟩ := hL
  rcases parse3_no a b c h with hp | hp
  · refine (Tryz.strconv_ParseUint_10_at8_syntax s (by omega) (by rw [hs]; exact hp) _ w h1 (.inr ⟨_, _, rfl⟩)).mono ?_
    rintro e w' ⟨N, rfl, _, _, hb⟩
    exact ⟨_, _, _, rfl, hb⟩
  · refine (Tryz.strconv_ParseUint_10_at8_range s (by omega) (by rw [hs]; exact hp) _ w h2 (.inr ⟨_, _, rfl⟩)).mono ?_
    rintro e w' ⟨N, rfl, _, _, hb⟩
    exact ⟨_, _, _, rfl, hb⟩

theorem empty_yes {s : ByteArray} (h : s.size = 0) : s.toList.isEmpty = true := by
  rw [toList_data, List.isEmpty_iff]; exact List.eq_nil_of_length_eq_zero (by simpa using h)
theorem empty_no {s : ByteArray} (h : s.size ≠ 0) : s.toList.isEmpty = false := by
  rw [toList_data]
  rcases hs : s.data.toList with _ | ⟨c, t⟩
  · exact absurd (by have := congrArg List.length hs; simpa using this) h
  · rfl

def escR (l : List UInt8) : Value := match Nm.escd l with
  | none => .tuple #[.int .u8 0, .int .i64 0]
  | some (b, k) => .tuple #[.int .u8 (b.toNat : Nat), .int .i64 (k : Nat)]
theorem escR_none {l : List UInt8} (h : Nm.escd l = none) : escR l = .tuple #[.int .u8 0, .int .i64 0] := by unfold escR; rw [h]
theorem escR_some {l : List UInt8} {b : UInt8} {k : Nat} (h : Nm.escd l = some (b, k)) : escR l = .tuple #[.int .u8 (b.toNat : Nat), .int .i64 (k : Nat)] := by unfold escR; rw [h]
theorem at_list (s : ByteArray) (k : Nat) (h : k < s.size) : s.data.toList[k]'(by simpa using h) = s[k] := rfl

set_option maxHeartbeats 1000000 in
set_option maxRecDepth 100000 in
theorem escaped_any (s : ByteArray) (w : World) (hL : Lay w) (hs : s.size ≤ 140737488355328) :
    Calls Tryz.prog 173 #[.string s] w fun e w' => e = .returned (escR s.data.toList) ∧ Below w.heap.size w w' := by
  rcases hl : s.data.toList with _ | ⟨c, t⟩
  · have hz : s.size = 0 := by have := congrArg List.length hl; simpa using this
    have h1 := empty_yes hz
    have hr := escR_none (l := []) rfl
    rw [hr]
    clear hr hz hl
    go_enter Tryz.func173, Tryz.ntmps173
    go_wp2
    go_ret2
    exact ⟨rfl, Below.refl _ _⟩
  · have hz : s.size = t.length + 1 := by have := congrArg List.length hl; simpa using this
    have h1 := empty_no (s := s) (by omega)
    have h1' : (!s.toList.isEmpty) = true := by rw [h1]; rfl
    have hpos : 0 < s.size := by omega
    have hc0 : s[0] = c := by rw [← at_list s 0 hpos]; simp only [hl, List.getElem_cons_zero]
    have h8 := c.toNat_lt
    have HL := Lib.hid hl
    by_cases hd : Nm.dg c
    · have hd1 := hd.1
      have hd2 := hd.2
      by_cases h3 : s.size < 3
      · have hr : escR (c :: t) = .tuple #[.int .u8 0, .int .i64 0] := by
          apply escR_none
          exact Nm.escd_few hd (by omega)
        rw [hr]
        clear hr hl hz
        go_enter Tryz.func173, Tryz.ntmps173
        go_wp2
        go_ret2
        exact ⟨rfl, Below.refl _ _⟩
      · obtain ⟨d, e, r, rfl⟩ : ∃ d e r, t = d :: e :: r := by
          match t, hz with
          | [], hz => simp at hz; omega
          | [d], hz => simp at hz; omega
          | d :: e :: r, hz => exact ⟨d, e, r, rfl⟩
        have hx : (s.extract 0 3).data.toList = [c, d, e] := by rw [extract_list, hl]; rfl
        have HX := Lib.hid hx
        by_cases hok : Nm.dg c ∧ Nm.dg d ∧ Nm.dg e ∧ Nm.val3 c d e ≤ 255
        · have hv : Nm.val3 c d e ≤ 255 := hok.2.2.2
          have hr : escR (c :: d :: e :: r) = .tuple #[.int .u8 ((Nm.val3 c d e : Nat) : Int), .int .i64 3] := by
            rw [escR_some (b := UInt8.ofNat (Nm.val3 c d e)) (k := 3) (by rw [Nm.escd_three hd]; exact if_pos ⟨hok.2.1, hok.2.2.1, hv⟩)]
            have : (UInt8.ofNat (Nm.val3 c d e)).toNat = Nm.val3 c d e := by simp; omega
            rw [this]; rfl
          rw [hr]
          have HC := Lib.hid (uint3_ok (s.extract 0 3) c d e w hx hok)
          clear hr hl hz hx hok
          generalize Nm.val3 c d e = v at *
          go_enter Tryz.func173, Tryz.ntmps173
          go_wp2_with (first | (go_at_call 112; refine HC.out.mono ?_; rintro e1 w1 ⟨rfl, hb1⟩))
          go_ret2
          exact ⟨rfl, hb1⟩
        · have hr : escR (c :: d :: e :: r) = .tuple #[.int .u8 0, .int .i64 0] := by
            apply escR_none
            rw [Nm.escd_three hd]
            exact if_neg (fun h => hok ⟨hd, h.1, h.2.1, h.2.2⟩)
          rw [hr]
          have HC := Lib.hid (uint3_no (s.extract 0 3) c d e w hL hx hok)
          clear hr hl hz hx hok
          go_enter Tryz.func173, Tryz.ntmps173
          go_wp2_with (first | (go_at_call 112; refine HC.out.mono ?_; rintro e1 w1 ⟨x, tt, aa, rfl, hb1⟩))
          go_ret2
          exact ⟨rfl, hb1⟩
    · have hr : escR (c :: t) = .tuple #[.int .u8 (c.toNat : Nat), .int .i64 1] := by
        apply escR_some
        exact Nm.escd_plain hd
      rw [hr]
      have hd' : c.toNat < 48 ∨ 57 < c.toNat := by unfold Nm.dg at hd; omega
      clear hr hl hz hd
      rcases hd' with hd | hd
      · go_enter Tryz.func173, Tryz.ntmps173
        go_wp2
        go_ret2
        exact ⟨rfl, Below.refl _ _⟩
      · go_enter Tryz.func173, Tryz.ntmps173
        go_wp2
        go_ret2
        exact ⟨rfl, Below.refl _ _⟩

def unR (l : List UInt8) : Value := match Nm.unesc l with
  | none => .tuple #[.string ⟨#[]⟩, .int .i64 12]
  | some r => .tuple #[sv r, .int .i64 0]

/-- the bytes so far, at k. -/
def Sofar (l : List UInt8) (k : Nat) (out : List UInt8) : Prop := k ≤ l.length ∧ out.length ≤ k ∧ Nm.unesc l = (Nm.unesc (l.drop k)).map (out ++ ·)
theorem Sofar.zero (l : List UInt8) : Sofar l 0 [] := ⟨Nat.zero_le _, by simp, by simp⟩
theorem Sofar.plain {l : List UInt8} {k : Nat} {out : List UInt8} (h : Sofar l k out) (hk : k < l.length) (hc : (l[k]).toNat ≠ 92) : Sofar l (k + 1) (out ++ [l[k]]) := by
  refine ⟨hk, by have := h.2.1; simp; omega, ?_⟩
  rw [h.2.2, Nm.drop_cons hk, Nm.unesc_plain hc]
  rcases Nm.unesc (l.drop (k + 1)) with _ | r <;> simp
theorem Sofar.yes {l : List UInt8} {k : Nat} {out : List UInt8} {b : UInt8} {n : Nat} (h : Sofar l k out) (hk : k < l.length) (hc : (l[k]).toNat = 92) (he : Nm.escd (l.drop (k + 1)) = some (b, n)) : Sofar l (k + 1 + n) (out ++ [b]) := by
  have hp := Nm.escd_pos he
  simp at hp
  refine ⟨by omega, by have := h.2.1; simp; omega, ?_⟩
  rw [h.2.2, Nm.drop_cons hk, Nm.unesc_yes hc he, List.drop_drop]
  rcases Nm.unesc (l.drop (k + 1 + n)) with _ | r <;> simp
theorem Sofar.no {l : List UInt8} {k : Nat} {out : List UInt8} (h : Sofar l k out) (hk : k < l.length) (hc : (l[k]).toNat = 92) (he : Nm.escd (l.drop (k + 1)) = none) : unR l = .tuple #[.string ⟨#[]⟩, .int .i64 12] := by
  unfold unR
  rw [h.2.2, Nm.drop_cons hk, Nm.unesc_no hc he]; rfl
theorem Sofar.done {l : List UInt8} {out : List UInt8} (h : Sofar l l.length out) : unR l = .tuple #[sv out, .int .i64 0] := by
  unfold unR
  rw [h.2.2, List.drop_length, Nm.unesc_nil]; simp

set_option maxHeartbeats 1000000 in
set_option maxRecDepth 100000 in
theorem Bytes_any (s : ByteArray) (w : World) (hL : Lay w) (hs : s.size ≤ 140737488355328) :
    Calls Tryz.prog 155 #[.string s] w fun e w' => e = .returned (unR s.data.toList) ∧ Below w.heap.size w w' := by
  obtain ⟨i0, hi, hz0, hz1, hz2⟩ := info_parts Tryz.infoByte
  have h3 := hL.size
  have HL := Lib.hid hL
  have hsz : s.data.toList.length = s.size := by simp
  have HSZ := Lib.hid hsz
  clear hL hsz
  go_enter Tryz.func155, Tryz.ntmps155
  go_wp2_with (first | (at_make; refine wpList_make_own _ rfl _ _ 56 rfl w.heap.size 5 i0 _ 1 Tryz.underlying56 hi hz0 hz1 .i64 .i64 s.size s.size rfl rfl rfl (by rw [hz2]; omega) (by unfold maxLen; omega) (Nat.le_refl _) ?_; intro w1 hown1 hg1))
  go_loopw [4, 5] (fun v i wr => ∃ k : Nat, ∃ out, i = .int .i64 k ∧ Sofar s.data.toList k out ∧ wr.ownsRow w.heap.size 5 1 v out.length (bv out) ∧ Below w.heap.size w wr) (fun _ i _ => s.size - (RowKit.intOf i).toNat)
  case atStart => exact ⟨0, [], rfl, Sofar.zero _, hown1, (Below.refl _ _).grown hg1 (Nat.le_refl _) (by simp)⟩
  case round =>
    obtain ⟨k, out, rfl, hso, hown, hb⟩ := hrel
    have hk := hso.1
    have hol := hso.2.1
    rw [HSZ.out] at hk
    have HS := Lib.hid hso
    have HO := Lib.hid hown
    have HB := Lib.hid hb
    have hbs := hb.size
    have HL1 := Lib.hid (HL.out.below hb h3)
    clear hso hown hb hown1 hg1
    by_cases hlt : k < s.size
    · have hlt' : k < s.data.toList.length := by rw [HSZ.out]; exact hlt
      have he : s.data.toList[k]'hlt' = s[k] := rfl
      have HE := Lib.hid he
      have h8 := s[k].toNat_lt
      clear he
      by_cases h92 : s[k].toNat = 92
      · have h92b : ((s[k].toNat : Int) == 92) = true := by simp [h92]
        have hx : (s.extract (k + 1) s.size).data.toList = s.data.toList.drop (k + 1) := by rw [extract_list, List.take_of_length_le (by simp)]
        have HC := Lib.hid (escaped_any (s.extract (k + 1) s.size) wr HL1.out (by simp; omega))
        rw [hx] at HC
        have H92 := Lib.hid h92
        clear h92 hx
        rcases hd : Nm.escd (s.data.toList.drop (k + 1)) with _ | ⟨b, n⟩
        · rw [escR_none hd] at HC
          have HD := Lib.hid hd
          clear hd
          go_wp2_with (first | (go_at_call 173; refine HC.out.mono ?_; rintro e1 w1 ⟨rfl, hb1⟩))
          go_ret2
          exact ⟨by rw [HS.out.no hlt' H92.out HD.out]; rfl, HB.out.trans (hb1.mono hbs)⟩
        · rw [escR_some hd] at HC
          have hp := Nm.escd_pos hd
          have hnb : k + 1 + n ≤ s.size := by have := hp.2; simp at this; omega
          have hn1 := hp.1
          have hnz : ((n : Int) == 0) = false := beq_eq_false_iff_ne.2 (by omega)
          have HY := Lib.hid (HS.out.yes hlt' H92.out hd)
          clear hd hp
          have hb8 := b.toNat_lt
          go_wp2_with (first
            | (go_at_call 173; refine HC.out.mono ?_; rintro e1 w1 ⟨rfl, hb1⟩; have HO1 := Lib.hid (own_below HO.out hb1 (Nat.le_refl _)); have hbs1 := hb1.size)
            | (at_builtin
               refine wpList_append_own _ rfl (.tmp 37) (.tmp 39) _ rfl w.heap.size 5 i0 _ 1 1 Tryz.underlying56 hi hz0 hz1 hz2 rfl (by decide) _ out.length (bv out) rfl (HO1.out.alloc _) ⟨w1.heap.size, 0, none⟩ 1 1 [.int .u8 (b.toNat : Nat)] rfl rfl (cell_one_new _ _ _) (by simp [Value.oneCell']) (by unfold maxLen; omega) (by omega) (by simp; omega) ?_
               intro v2 w2 hown2 hg2 _))
          go_roundw
          case rel =>
            refine ⟨k + 1 + n, out ++ [b], by go_num, HY.out, ?_, ((HB.out.trans (hb1.mono hbs)).alloc (by omega) _).grown hg2 (by simp; omega) (fun j hj => (HO1.out.lt j hj).1)⟩
            rw [List.length_append, bv_append]; exact hown2
          case measure => simp [RowKit.intOf]; omega
      · have h92b : ((s[k].toNat : Int) == 92) = false := beq_eq_false_iff_ne.2 (by omega)
        have HP := Lib.hid (HS.out.plain hlt' h92)
        clear h92
        go_wp2_with (first
            | (at_builtin
               refine wpList_append_own _ rfl (.tmp 37) (.tmp 39) _ rfl w.heap.size 5 i0 _ 1 1 Tryz.underlying56 hi hz0 hz1 hz2 rfl (by decide) _ out.length (bv out) rfl (HO.out.alloc _) ⟨wr.heap.size, 0, none⟩ 1 1 [.int .u8 (s[k].toNat : Nat)] rfl rfl (cell_one_new _ _ _) (by simp [Value.oneCell']) (by unfold maxLen; omega) (by omega) (by simp; omega) ?_
               intro v2 w2 hown2 hg2 _))
        go_roundw
        case rel =>
          refine ⟨k + 1, out ++ [s[k]], by go_num, HP.out, ?_, (HB.out.alloc hbs _).grown hg2 (by simp; omega) (fun j hj => (HO.out.lt j hj).1)⟩
          rw [List.length_append, bv_append]; exact hown2
        case measure => simp [RowKit.intOf]; omega
    · obtain rfl : k = s.size := by omega
      have HD := Lib.hid ((show Sofar s.data.toList s.data.toList.length out by rw [HSZ.out]; exact HS.out).done)
      go_wp2_with (refine wpList_convert_own _ rfl 56 9 (.tmp 41) rfl 5 Tryz.underlying56 Tryz.underlying5 Tryz.underlying9 w.heap.size out.length _ out rfl HO.out ?_)
      go_ret2
      exact ⟨by rw [HD.out]; rfl, HB.out⟩
end Go.Proofs.YtgcaephfhfkjcaaGreatDoor
