/- Texts of the proofs, merged. -/
import Derived.Test.YtgcaephfhfkjcaaGreatDoorZm19
import Derived.Test.YtgcaephfhfkjcaaGreatDoorZm14
import Derived.Test.YtgcaephfhfkjcaaGreatDoorZm15
namespace Go.Proofs.YtgcaephfhfkjcaaGreatDoor
open Go.RowKit

namespace Rd
def quoted (E : By → By) (ls : List By) : By := ls.flatMap fun l => [32, 34] ++ E l ++ [34]
theorem quoted_take {E : By → By} {ls : List By} {k : Nat} (hk : k < ls.length) : quoted E (ls.take (k + 1)) = ((quoted E (ls.take k) ++ [32, 34]) ++ E (ls[k]'hk)) ++ [34] := by
  unfold quoted
  rw [List.take_add_one, List.getElem?_eq_getElem hk, List.flatMap_append]
  simp
end Rd
set_option maxHeartbeats 2000000 in
set_option maxRecDepth 100000 in
theorem rdShow_TXT (d : Dv) (w : World) (E : List UInt8 → List UInt8) (ls : List (List UInt8)) (hraw : d.raw.size ≤ 65535) (htx : Rd.tx d.raw.data.toList = some ls) (hne : 0 < ls.length) (hE : ∀ x ∈ ls, (E x).length ≤ 2000) (hesc : ∀ x ∈ ls, ∀ W : World, Calls Tryz.prog 45 #[sv x, .bool true] W fun e w' => e = .returned (sv (E x)) ∧ Below W.heap.size W w')
    (hck : ∀ W : World, Calls Tryz.prog 74 #[.int .u16 16, d.val] W fun e w' => e = .returned (.int .i64 0) ∧ Below W.heap.size W w') :
    Calls Tryz.prog 47 #[.int .u16 16, d.val] w fun e w' => e = .returned (.tuple #[sv ((Rd.quoted E ls).drop 1), .int .i64 0]) ∧ Below w.heap.size w w' := by
  have hll := Rd.tx_len htx
  have hl : d.raw.data.toList.length = d.raw.size := by simp
  rw [hl] at hll
  have HCK := Lib.hid hck
  have HES := Lib.hid hesc
  have HEL := Lib.hid hE
  have HNM : Hid (∀ W : World, Calls Tryz.prog 56 #[.int .u16 16] W fun e w' => e = .returned (.tuple #[.bool false, .bool false]) ∧ W = w') := fun W => rdNames_any 16 W (by omega)
  have HNU : Hid (∀ W : World, Calls Tryz.prog 75 #[.int .u16 16] W fun e w' => e = .returned (.tuple #[.int .i64 0, .int .i64 0]) ∧ W = w') := fun W => rdNumbers_any 16 W (by omega)
  have HTT : Hid (∀ W : World, Calls Tryz.prog 78 #[.string d.raw] W fun e w' => ∃ ad cp, e = .returned (.tuple #[.slice ad ls.length cp, .bool (decide (0 < ls.length))]) ∧ w'.ownsRow W.heap.size 9 1 (.slice ad ls.length cp) ls.length (svs ls) ∧ Below W.heap.size W w') := fun W => by
    have := rdTexts_any d.raw W (by omega)
    rw [htx] at this
    exact this.mono fun e w' ⟨v, hb, he, ho⟩ => by
      obtain ⟨ad, cp, rfl⟩ := own_form ho
      exact ⟨ad, cp, he, ho, hb⟩
  have HX0 : Hid (Has (w.alloc (.cells d.cells 34)) w.heap.size 34 d.cells) := Has.fresh w _ _
  have HB0 : Hid (Below w.heap.size w (w.alloc (.cells d.cells 34))) := (Below.refl _ w).alloc (Nat.le_refl _) _
  obtain ⟨R, hR⟩ : ∃ R, (Rd.quoted E ls).drop 1 = R := ⟨_, rfl⟩
  rw [hR]
  have HRR := Lib.hid hR
  clear hck hesc hE htx hl hR
  unfold Dv.val at HCK ⊢
  unfold Dv.cells at HX0 HB0
  go_enter Tryz.func47, Tryz.ntmps47
  go_wp2_with (first
    | (go_at_call 74; refine (HCK.out _).mono ?_; rintro e' w1 ⟨rfl, B1⟩; have HX : Hid (Has w1 w.heap.size 34 d.cells) := HX0.out.below B1 HX0.out.lt; have HB := Lib.hid (HB0.out.trans (B1.mono HB0.out.size)); have c1 := dv_raw HX.out; have hs1 := HB.out.size; clear B1)
    | (go_at_call 56; refine (HNM.out _).mono ?_; rintro e' w2 ⟨rfl, rfl⟩)
    | (go_at_call 75; refine (HNU.out _).mono ?_; rintro e' w3 ⟨rfl, rfl⟩)
    | (go_at_call 78; refine (HTT.out _).mono ?_; rintro e' w4 ⟨ad, cp, rfl, O4, B4⟩; have HO4 := Lib.hid (own_mono O4 hs1); have HB4 := Lib.hid (HB.out.trans (B4.mono hs1)); clear O4 B4))
  go_loopw [10, 15] (fun s i wr => ∃ (k : Nat) (r : List UInt8), i = .int .i64 k ∧ k ≤ ls.length ∧ s = sv r ∧ Hid (r = Rd.quoted E (ls.take k)) ∧ r.length ≤ 2003 * k ∧ Hid (wr.ownsRow w.heap.size 9 1 (.slice ad ls.length cp) ls.length (svs ls)) ∧ Hid (Below w.heap.size w wr)) (fun _ i _ => ls.length - (intOf i).toNat)
  case atStart => exact ⟨0, [], rfl, Nat.zero_le _, rfl, rfl, by simp, HO4.out, HB4.out⟩
  case round =>
    obtain ⟨k, r, rfl, hk, rfl, HE, hrl, HO, HB⟩ := hrel
    have hsw := HB.out.size
    by_cases hkl : k < ls.length
    · obtain ⟨gL, rfl, hcL, hcell⟩ := own_at HO.out hkl
      have c0 := hcell k (sv (ls[k]'hkl)) (by simp [svs, hkl])
      have hel := HEL.out _ (List.getElem_mem hkl)
      have hes := HES.out _ (List.getElem_mem hkl)
      have HE2 : Hid (((r ++ [32, 34]) ++ E (ls[k]'hkl)) ++ [34] = Rd.quoted E (ls.take (k + 1))) := by
        show _ = _
        rw [Rd.quoted_take hkl, HE.out]
      obtain ⟨y, hy⟩ : ∃ y, ls[k]'hkl = y := ⟨_, rfl⟩
      rw [hy] at c0 hel hes HE2
      obtain ⟨x, hx⟩ : ∃ x, E y = x := ⟨_, rfl⟩
      rw [hx] at hel hes HE2
      have HS := Lib.hid hes
      clear hy hx hes hcell
      go_wp2_with (go_at_call 45; refine (HS.out _).mono ?_; rintro e' w5 ⟨rfl, B5⟩; have HO5 := Lib.hid (own_below HO.out B5 (Nat.le_refl _)); have HB5 := Lib.hid (HB.out.trans (B5.mono hsw)); clear B5)
      go_roundw
      case rel => exact ⟨k + 1, ((r ++ [32, 34]) ++ x) ++ [34], by go_num, by omega, sv_eq (by simp), HE2.out, by simp; omega, HO5.out, HB5.out⟩
      case measure => simp [intOf]; omega
    · obtain rfl : k = ls.length := by omega
      have hq := HE.out
      rw [List.take_length] at hq
      have hpos : 0 < r.length := by
        rw [hq]
        cases ls with
        | nil => simp at hne
        | cons a b => unfold Rd.quoted; simp
      have HF : Hid (R = r.drop 1) := by rw [← HRR.out]; show _ = _; rw [hq]
      clear hq
      go_wp2
      go_ret2
      exact ⟨by rw [HF.out, ← sv_eq (ext_tail r)]; rfl, HB.out⟩
end Go.Proofs.YtgcaephfhfkjcaaGreatDoor
namespace Go.Proofs.YtgcaephfhfkjcaaGreatDoor
open Go.RowKit

set_option maxHeartbeats 400000 in
theorem mk_34 (q : Bool) (c : UInt8) (w : World) (_ : ((c.toNat : Int) == 34) = true) : Calls Tryz.prog 73 #[.int .u8 (c.toNat : Int), .bool q] w fun e w' => e = .returned (.bool true) ∧ w = w' := by
  have h8 := c.toNat_lt
  go_enter Tryz.func73, Tryz.ntmps73
  go_wp2
  go_ret
  exact ⟨rfl, rfl⟩

set_option maxHeartbeats 400000 in
theorem mk_92 (q : Bool) (c : UInt8) (w : World) (_ : ((c.toNat : Int) == 34) = false) (_ : ((c.toNat : Int) == 92) = true) : Calls Tryz.prog 73 #[.int .u8 (c.toNat : Int), .bool q] w fun e w' => e = .returned (.bool true) ∧ w = w' := by
  have h8 := c.toNat_lt
  go_enter Tryz.func73, Tryz.ntmps73
  go_wp2
  go_ret
  exact ⟨rfl, rfl⟩

set_option maxHeartbeats 400000 in
theorem mk_quoted (c : UInt8) (w : World) (_ : ((c.toNat : Int) == 34) = false) (_ : ((c.toNat : Int) == 92) = false) : Calls Tryz.prog 73 #[.int .u8 (c.toNat : Int), .bool true] w fun e w' => e = .returned (.bool false) ∧ w = w' := by
  have h8 := c.toNat_lt
  go_enter Tryz.func73, Tryz.ntmps73
  go_wp2
  go_ret
  exact ⟨rfl, rfl⟩

set_option maxHeartbeats 400000 in
theorem mk_46 (c : UInt8) (w : World) (_ : ((c.toNat : Int) == 34) = false) (_ : ((c.toNat : Int) == 92) = false) (_ : ((c.toNat : Int) == 46) = true) : Calls Tryz.prog 73 #[.int .u8 (c.toNat : Int), .bool false] w fun e w' => e = .returned (.bool true) ∧ w = w' := by
  have h8 := c.toNat_lt
  go_enter Tryz.func73, Tryz.ntmps73
  go_wp2
  go_ret
  exact ⟨rfl, rfl⟩

set_option maxHeartbeats 400000 in
theorem mk_59 (c : UInt8) (w : World) (_ : ((c.toNat : Int) == 34) = false) (_ : ((c.toNat : Int) == 92) = false) (_ : ((c.toNat : Int) == 46) = false) (_ : ((c.toNat : Int) == 59) = true) : Calls Tryz.prog 73 #[.int .u8 (c.toNat : Int), .bool false] w fun e w' => e = .returned (.bool true) ∧ w = w' := by
  have h8 := c.toNat_lt
  go_enter Tryz.func73, Tryz.ntmps73
  go_wp2
  go_ret
  exact ⟨rfl, rfl⟩

set_option maxHeartbeats 400000 in
theorem mk_40 (c : UInt8) (w : World) (_ : ((c.toNat : Int) == 34) = false) (_ : ((c.toNat : Int) == 92) = false) (_ : ((c.toNat : Int) == 46) = false) (_ : ((c.toNat : Int) == 59) = false) (_ : ((c.toNat : Int) == 40) = true) : Calls Tryz.prog 73 #[.int .u8 (c.toNat : Int), .bool false] w fun e w' => e = .returned (.bool true) ∧ w = w' := by
  have h8 := c.toNat_lt
  go_enter Tryz.func73, Tryz.ntmps73
  go_wp2
  go_ret
  exact ⟨rfl, rfl⟩

set_option maxHeartbeats 400000 in
theorem mk_41 (c : UInt8) (w : World) (_ : ((c.toNat : Int) == 34) = false) (_ : ((c.toNat : Int) == 92) = false) (_ : ((c.toNat : Int) == 46) = false) (_ : ((c.toNat : Int) == 59) = false) (_ : ((c.toNat : Int) == 40) = false) (_ : ((c.toNat : Int) == 41) = true) : Calls Tryz.prog 73 #[.int .u8 (c.toNat : Int), .bool false] w fun e w' => e = .returned (.bool true) ∧ w = w' := by
  have h8 := c.toNat_lt
  go_enter Tryz.func73, Tryz.ntmps73
  go_wp2
  go_ret
  exact ⟨rfl, rfl⟩

set_option maxHeartbeats 400000 in
theorem mk_64 (c : UInt8) (w : World) (_ : ((c.toNat : Int) == 34) = false) (_ : ((c.toNat : Int) == 92) = false) (_ : ((c.toNat : Int) == 46) = false) (_ : ((c.toNat : Int) == 59) = false) (_ : ((c.toNat : Int) == 40) = false) (_ : ((c.toNat : Int) == 41) = false) (_ : ((c.toNat : Int) == 64) = true) : Calls Tryz.prog 73 #[.int .u8 (c.toNat : Int), .bool false] w fun e w' => e = .returned (.bool true) ∧ w = w' := by
  have h8 := c.toNat_lt
  go_enter Tryz.func73, Tryz.ntmps73
  go_wp2
  go_ret
  exact ⟨rfl, rfl⟩

set_option maxHeartbeats 400000 in
theorem mk_36 (c : UInt8) (w : World) (_ : ((c.toNat : Int) == 34) = false) (_ : ((c.toNat : Int) == 92) = false) (_ : ((c.toNat : Int) == 46) = false) (_ : ((c.toNat : Int) == 59) = false) (_ : ((c.toNat : Int) == 40) = false) (_ : ((c.toNat : Int) == 41) = false) (_ : ((c.toNat : Int) == 64) = false) (_ : ((c.toNat : Int) == 36) = true) : Calls Tryz.prog 73 #[.int .u8 (c.toNat : Int), .bool false] w fun e w' => e = .returned (.bool true) ∧ w = w' := by
  have h8 := c.toNat_lt
  go_enter Tryz.func73, Tryz.ntmps73
  go_wp2
  go_ret
  exact ⟨rfl, rfl⟩

set_option maxHeartbeats 400000 in
theorem mk_none (c : UInt8) (w : World) (_ : ((c.toNat : Int) == 34) = false) (_ : ((c.toNat : Int) == 92) = false) (_ : ((c.toNat : Int) == 46) = false) (_ : ((c.toNat : Int) == 59) = false) (_ : ((c.toNat : Int) == 40) = false) (_ : ((c.toNat : Int) == 41) = false) (_ : ((c.toNat : Int) == 64) = false) (_ : ((c.toNat : Int) == 36) = false) : Calls Tryz.prog 73 #[.int .u8 (c.toNat : Int), .bool false] w fun e w' => e = .returned (.bool false) ∧ w = w' := by
  have h8 := c.toNat_lt
  go_enter Tryz.func73, Tryz.ntmps73
  go_wp2
  go_ret
  exact ⟨rfl, rfl⟩

theorem marked_any (c : UInt8) (q : Bool) (w : World) : Calls Tryz.prog 73 #[.int .u8 (c.toNat : Int), .bool q] w fun e w' => e = .returned (.bool (Nm.mark q c)) ∧ w = w' := by
  by_cases h34 : c.toNat = 34
  · have e : Nm.mark q c = true := by simp [Nm.mark, h34]
    rw [e]; exact mk_34 q c w  (eq h34)
  by_cases h92 : c.toNat = 92
  · have e : Nm.mark q c = true := by simp [Nm.mark, h92]
    rw [e]; exact mk_92 q c w (ne h34) (eq h92)
  cases q
  rotate_left
  · have e : Nm.mark true c = false := by simp [Nm.mark, h34, h92]
    rw [e]; exact mk_quoted c w (ne h34) (ne h92)
  by_cases h46 : c.toNat = 46
  · have e : Nm.mark false c = true := by simp [Nm.mark, h46]
    rw [e]; exact mk_46 c w (ne h34) (ne h92) (eq h46)
  by_cases h59 : c.toNat = 59
  · have e : Nm.mark false c = true := by simp [Nm.mark, h59]
    rw [e]; exact mk_59 c w (ne h34) (ne h92) (ne h46) (eq h59)
  by_cases h40 : c.toNat = 40
  · have e : Nm.mark false c = true := by simp [Nm.mark, h40]
    rw [e]; exact mk_40 c w (ne h34) (ne h92) (ne h46) (ne h59) (eq h40)
  by_cases h41 : c.toNat = 41
  · have e : Nm.mark false c = true := by simp [Nm.mark, h41]
    rw [e]; exact mk_41 c w (ne h34) (ne h92) (ne h46) (ne h59) (ne h40) (eq h41)
  by_cases h64 : c.toNat = 64
  · have e : Nm.mark false c = true := by simp [Nm.mark, h64]
    rw [e]; exact mk_64 c w (ne h34) (ne h92) (ne h46) (ne h59) (ne h40) (ne h41) (eq h64)
  by_cases h36 : c.toNat = 36
  · have e : Nm.mark false c = true := by simp [Nm.mark, h36]
    rw [e]; exact mk_36 c w (ne h34) (ne h92) (ne h46) (ne h59) (ne h40) (ne h41) (ne h64) (eq h36)
  have e : Nm.mark false c = false := by simp [Nm.mark, h34, h92, h46, h59, h40, h41, h64, h36]
  rw [e]; exact mk_none c w (ne h34) (ne h92) (ne h46) (ne h59) (ne h40) (ne h41) (ne h64) (ne h36)


set_option maxHeartbeats 4000000 in
set_option maxRecDepth 100000 in
theorem refEscape_any (s : ByteArray) (q : Bool) (w : World) (hs : s.size ≤ 35184372088832) :
    Calls Tryz.prog 45 #[.string s, .bool q] w fun e w' => e = .returned (sv (Nm.esc q s.data.toList)) ∧ Below w.heap.size w w' := by
  obtain ⟨i0, hi, hz0, hz1, hz2⟩ := info_parts Tryz.infoByte
  go_enter Tryz.func45, Tryz.ntmps45
  go_wp2
  go_loopw [5, 6] (fun v i wr => ∃ k : Nat, k ≤ s.size ∧ i = .int .i64 k ∧ wr.ownsRow w.heap.size 5 1 v (Nm.esc q (s.data.toList.take k)).length (bv (Nm.esc q (s.data.toList.take k))) ∧ Below w.heap.size w wr) (fun _ i _ => s.size - (intOf i).toNat)
  case atStart => exact ⟨0, Nat.zero_le _, rfl, World.ownsRow_nil _ _ _ _, Below.refl _ _⟩
  case round =>
    obtain ⟨k, hk, rfl, hown, hb⟩ := hrel
    have HO := Lib.hid hown
    have HB := Lib.hid hb
    have hbs := hb.size
    clear hown hb
    by_cases hlt : k < s.size
    · have hts : s.data.toList.take (k + 1) = s.data.toList.take k ++ [s[k]] := List.take_succ_eq_append_getElem (by simpa using hlt)
      have hel := Nm.esc_len q (s.data.toList.take k)
      have htl : (s.data.toList.take k).length ≤ k := List.length_take_le _ _
      have HTS : Hid (Nm.esc q (s.data.toList.take (k + 1)) = Nm.esc q (s.data.toList.take k) ++ Nm.esc1 q s[k]) := by rw [Hid, hts, Nm.esc_snoc]
      clear hts
      generalize Nm.esc q (s.data.toList.take k) = l at *
      have hll : l.length ≤ 4 * k := by omega
      clear hel htl
      have h8 := s[k].toNat_lt
      rcases hm : Nm.mark q s[k] with _ | _
      · by_cases h1 : 32 < s[k].toNat
        · by_cases h2 : s[k].toNat < 127
          · have hcl : Nm.clear q s[k] = true := by simp [Nm.clear]; omega
            have HV : Hid (Nm.esc1 q s[k] = [s[k]]) := by show _ = _; unfold Nm.esc1; first | (rw [hm, hcl]; rfl) | (rw [hm]; rfl)
            have HM := Lib.hid (fun W => marked_any s[k] q W)
            rw [hm] at HM
            clear hm
            go_wp2_with (first
          | (go_at_call 73; refine (HM.out _).mono ?_; rintro e w' ⟨rfl, rfl⟩)
          | (at_builtin
             refine wpList_append_own _ rfl (.tmp 52) (.tmp 54) _ rfl w.heap.size 5 i0 _ 1 1 Tryz.underlying56 hi hz0 hz1 hz2 rfl (by decide) _ l.length (bv l) rfl (HO.out.alloc _) ⟨wr.heap.size, 0, none⟩ 1 1 [.int .u8 (s[k].toNat : Nat)] rfl rfl (cells_new _ _ [.int .u8 (s[k].toNat : Nat)]) (by simp [Value.oneCell']) (by unfold maxLen; omega) (by omega) (by simp; omega) ?_
             intro v' w1 hown1 hg1 _))
            go_roundw
            case rel =>
              refine ⟨k + 1, by omega, by go_num, ?_, (HB.out.alloc hbs _).grown hg1 (by simp; omega) (fun j hj => (HO.out.lt j hj).1)⟩
              rw [HTS.out, HV.out, List.length_append, bv_append, bv1]; exact hown1
            case measure => simp [intOf]; omega
          · have hcl : Nm.clear q s[k] = false := by simp [Nm.clear]; omega
            have HV : Hid (Nm.esc1 q s[k] = 92 :: Nm.dig3 s[k]) := by show _ = _; unfold Nm.esc1; first | (rw [hm, hcl]; rfl) | (rw [hm]; rfl)
            have h32 : ((s[k].toNat : Int) == 32) = false := beq_eq_false_iff_ne.2 (by omega)
            have HM := Lib.hid (fun W => marked_any s[k] q W)
            rw [hm] at HM
            clear hm
            go_wp2_with (first
          | (go_at_call 73; refine (HM.out _).mono ?_; rintro e w' ⟨rfl, rfl⟩)
          | (at_builtin
             refine wpList_append_own _ rfl (.tmp 17) (.tmp 28) _ rfl w.heap.size 5 i0 _ 1 1 Tryz.underlying56 hi hz0 hz1 hz2 rfl (by decide) _ l.length (bv l) rfl (HO.out.alloc _) ⟨wr.heap.size, 0, none⟩ 4 4 [.int .u8 92, .int .u8 (48 + (s[k].toNat : Int) / 100), .int .u8 (48 + (s[k].toNat : Int) / 10 % 10), .int .u8 (48 + (s[k].toNat : Int) % 10)] rfl rfl (cells_new _ _ [.int .u8 92, .int .u8 (48 + (s[k].toNat : Int) / 100), .int .u8 (48 + (s[k].toNat : Int) / 10 % 10), .int .u8 (48 + (s[k].toNat : Int) % 10)]) (by simp [Value.oneCell']) (by unfold maxLen; omega) (by omega) (by simp; omega) ?_
             intro v' w1 hown1 hg1 _))
            go_roundw
            case rel =>
              refine ⟨k + 1, by omega, by go_num, ?_, (HB.out.alloc hbs _).grown hg1 (by simp; omega) (fun j hj => (HO.out.lt j hj).1)⟩
              rw [HTS.out, HV.out, List.length_append, bv_append, bv4]; exact hown1
            case measure => simp [intOf]; omega
        · by_cases h32 : s[k].toNat = 32
          · have h32b : ((s[k].toNat : Int) == 32) = true := by simp [h32]
            cases q
            · have hcl : Nm.clear false s[k] = false := by simp [Nm.clear, h32]
              have HV : Hid (Nm.esc1 false s[k] = 92 :: Nm.dig3 s[k]) := by show _ = _; unfold Nm.esc1; first | (rw [hm, hcl]; rfl) | (rw [hm]; rfl)
              have HM := Lib.hid (fun W => marked_any s[k] false W)
              rw [hm] at HM
              clear hm h32
              go_wp2_with (first
          | (go_at_call 73; refine (HM.out _).mono ?_; rintro e w' ⟨rfl, rfl⟩)
          | (at_builtin
             refine wpList_append_own _ rfl (.tmp 17) (.tmp 28) _ rfl w.heap.size 5 i0 _ 1 1 Tryz.underlying56 hi hz0 hz1 hz2 rfl (by decide) _ l.length (bv l) rfl (HO.out.alloc _) ⟨wr.heap.size, 0, none⟩ 4 4 [.int .u8 92, .int .u8 (48 + (s[k].toNat : Int) / 100), .int .u8 (48 + (s[k].toNat : Int) / 10 % 10), .int .u8 (48 + (s[k].toNat : Int) % 10)] rfl rfl (cells_new _ _ [.int .u8 92, .int .u8 (48 + (s[k].toNat : Int) / 100), .int .u8 (48 + (s[k].toNat : Int) / 10 % 10), .int .u8 (48 + (s[k].toNat : Int) % 10)]) (by simp [Value.oneCell']) (by unfold maxLen; omega) (by omega) (by simp; omega) ?_
             intro v' w1 hown1 hg1 _))
              go_roundw
              case rel =>
                refine ⟨k + 1, by omega, by go_num, ?_, (HB.out.alloc hbs _).grown hg1 (by simp; omega) (fun j hj => (HO.out.lt j hj).1)⟩
                rw [HTS.out, HV.out, List.length_append, bv_append, bv4]; exact hown1
              case measure => simp [intOf]; omega
            · have hcl : Nm.clear true s[k] = true := by simp [Nm.clear, h32]
              have HV : Hid (Nm.esc1 true s[k] = [s[k]]) := by show _ = _; unfold Nm.esc1; first | (rw [hm, hcl]; rfl) | (rw [hm]; rfl)
              have HM := Lib.hid (fun W => marked_any s[k] true W)
              rw [hm] at HM
              clear hm h32
              go_wp2_with (first
          | (go_at_call 73; refine (HM.out _).mono ?_; rintro e w' ⟨rfl, rfl⟩)
          | (at_builtin
             refine wpList_append_own _ rfl (.tmp 52) (.tmp 54) _ rfl w.heap.size 5 i0 _ 1 1 Tryz.underlying56 hi hz0 hz1 hz2 rfl (by decide) _ l.length (bv l) rfl (HO.out.alloc _) ⟨wr.heap.size, 0, none⟩ 1 1 [.int .u8 (s[k].toNat : Nat)] rfl rfl (cells_new _ _ [.int .u8 (s[k].toNat : Nat)]) (by simp [Value.oneCell']) (by unfold maxLen; omega) (by omega) (by simp; omega) ?_
             intro v' w1 hown1 hg1 _))
              go_roundw
              case rel =>
                refine ⟨k + 1, by omega, by go_num, ?_, (HB.out.alloc hbs _).grown hg1 (by simp; omega) (fun j hj => (HO.out.lt j hj).1)⟩
                rw [HTS.out, HV.out, List.length_append, bv_append, bv1]; exact hown1
              case measure => simp [intOf]; omega
          · have hcl : Nm.clear q s[k] = false := by simp [Nm.clear, h32]; omega
            have HV : Hid (Nm.esc1 q s[k] = 92 :: Nm.dig3 s[k]) := by show _ = _; unfold Nm.esc1; first | (rw [hm, hcl]; rfl) | (rw [hm]; rfl)
            have h32b : ((s[k].toNat : Int) == 32) = false := beq_eq_false_iff_ne.2 (by omega)
            have HM := Lib.hid (fun W => marked_any s[k] q W)
            rw [hm] at HM
            clear hm
            go_wp2_with (first
          | (go_at_call 73; refine (HM.out _).mono ?_; rintro e w' ⟨rfl, rfl⟩)
          | (at_builtin
             refine wpList_append_own _ rfl (.tmp 17) (.tmp 28) _ rfl w.heap.size 5 i0 _ 1 1 Tryz.underlying56 hi hz0 hz1 hz2 rfl (by decide) _ l.length (bv l) rfl (HO.out.alloc _) ⟨wr.heap.size, 0, none⟩ 4 4 [.int .u8 92, .int .u8 (48 + (s[k].toNat : Int) / 100), .int .u8 (48 + (s[k].toNat : Int) / 10 % 10), .int .u8 (48 + (s[k].toNat : Int) % 10)] rfl rfl (cells_new _ _ [.int .u8 92, .int .u8 (48 + (s[k].toNat : Int) / 100), .int .u8 (48 + (s[k].toNat : Int) / 10 % 10), .int .u8 (48 + (s[k].toNat : Int) % 10)]) (by simp [Value.oneCell']) (by unfold maxLen; omega) (by omega) (by simp; omega) ?_
             intro v' w1 hown1 hg1 _))
            go_roundw
            case rel =>
              refine ⟨k + 1, by omega, by go_num, ?_, (HB.out.alloc hbs _).grown hg1 (by simp; omega) (fun j hj => (HO.out.lt j hj).1)⟩
              rw [HTS.out, HV.out, List.length_append, bv_append, bv4]; exact hown1
            case measure => simp [intOf]; omega
      · have hcl := hm
        have HV : Hid (Nm.esc1 q s[k] = [92, s[k]]) := by show _ = _; unfold Nm.esc1; first | (rw [hm, hcl]; rfl) | (rw [hm]; rfl)
        have HM := Lib.hid (fun W => marked_any s[k] q W)
        rw [hm] at HM
        clear hm
        go_wp2_with (first
          | (go_at_call 73; refine (HM.out _).mono ?_; rintro e w' ⟨rfl, rfl⟩)
          | (at_builtin
             refine wpList_append_own _ rfl (.tmp 34) (.tmp 36) _ rfl w.heap.size 5 i0 _ 1 1 Tryz.underlying56 hi hz0 hz1 hz2 rfl (by decide) _ l.length (bv l) rfl (HO.out.alloc _) ⟨wr.heap.size, 0, none⟩ 2 2 [.int .u8 92, .int .u8 (s[k].toNat : Nat)] rfl rfl (cells_new _ _ [.int .u8 92, .int .u8 (s[k].toNat : Nat)]) (by simp [Value.oneCell']) (by unfold maxLen; omega) (by omega) (by simp; omega) ?_
             intro v' w1 hown1 hg1 _))
        go_roundw
        case rel =>
          refine ⟨k + 1, by omega, by go_num, ?_, (HB.out.alloc hbs _).grown hg1 (by simp; omega) (fun j hj => (HO.out.lt j hj).1)⟩
          rw [HTS.out, HV.out, List.length_append, bv_append, bv2]; exact hown1
        case measure => simp [intOf]; omega
    · obtain rfl : k = s.size := by omega
      have HO' : Hid (wr.ownsRow w.heap.size 5 1 u5 (Nm.esc q s.data.toList).length (bv (Nm.esc q s.data.toList))) := by
        have := HO.out
        rw [List.take_of_length_le (by simp)] at this
        exact this
      clear HO
      go_wp2_with (refine wpList_convert_own _ rfl 56 9 (.tmp 56) rfl 5 Tryz.underlying56 Tryz.underlying5 Tryz.underlying9 w.heap.size _ _ (Nm.esc q s.data.toList) rfl HO'.out ?_)
      go_ret
      exact ⟨rfl, HB.out⟩
end Go.Proofs.YtgcaephfhfkjcaaGreatDoor
namespace Go.Proofs.YtgcaephfhfkjcaaGreatDoor
open Go.RowKit

/-- the pieces ps end ahead of f. -/
def Ahead (l : List UInt8) (f : Nat) (ps : List (List UInt8)) : Prop :=
  f ≤ l.length ∧ ps.length ≤ f ∧ (f < l.length ∨ f = 0 → Nm.pieces l = (ps ++ (Nm.pieces (l.drop f)).1, (Nm.pieces (l.drop f)).2)) ∧ (f = l.length → 0 < f → Nm.pieces l = (ps, true))
theorem Ahead.zero (l : List UInt8) : Ahead l 0 [] := ⟨Nat.zero_le _, by simp, fun _ => by simp, fun _ h => by omega⟩
theorem CutAt.dot' {l : List UInt8} {k : Nat} (h : CutAt l k) (hk : k < l.length) (h46 : (l[k]).toNat = 46) : Nm.cutP l = (l.take k, l.drop (k + 1), true) := by
  rcases h with ⟨_, h⟩ | ⟨h, _⟩
  · rw [h, Nm.drop_cons hk, Nm.cutP_dot h46]; simp
  · omega
theorem CutAt.done' {l : List UInt8} {k : Nat} (h : CutAt l k) (hk : l.length ≤ k) : Nm.cutP l = (l, [], false) := by
  rcases h with ⟨h1, h⟩ | ⟨_, h⟩
  · obtain rfl : k = l.length := by omega
    rw [h, List.drop_length, List.take_length]; simp [Nm.cutP]
  · exact h
theorem Ahead.step {l : List UInt8} {f i : Nat} {ps : List (List UInt8)} (h : Ahead l f ps) (hfi : f ≤ i) (hi : i < l.length) (hc : CutAt (l.drop f) (i - f)) (h46 : (l[i]).toNat = 46) :
    Ahead l (i + 1) (ps ++ [(l.drop f).take (i - f)]) := by
  have hlt : i - f < (l.drop f).length := by rw [List.length_drop]; omega
  have hg : ((l.drop f)[i - f]'hlt).toNat = 46 := by rw [List.getElem_drop]; simp only [show f + (i - f) = i by omega]; exact h46
  have hcut := hc.dot' hlt hg
  have hd : (l.drop f).drop (i - f + 1) = l.drop (i + 1) := by rw [List.drop_drop]; congr 1; omega
  rw [hd] at hcut
  have hp := h.2.2.1 (.inl (by omega))
  refine ⟨hi, by have := h.2.1; simp; omega, fun hh => ?_, fun he _ => ?_⟩
  · have hm := Nm.pieces_more (l := l.drop f) (by rw [hcut]) (by rw [hcut]; simp; omega)
    rw [hp, hm, hcut]; simp
  · have hm := Nm.pieces_whole (l := l.drop f) (by rw [hcut]) (by rw [hcut]; simp; omega)
    rw [hp, hm, hcut]
theorem Ahead.rest {l : List UInt8} {f i : Nat} {ps : List (List UInt8)} (h : Ahead l f ps) (hfi : f ≤ i) (hi : l.length ≤ i) (hc : CutAt (l.drop f) (i - f)) (hn : f < l.length ∨ f = 0) : Nm.pieces l = (ps ++ [l.drop f], false) := by
  have hcut := hc.done' (by rw [List.length_drop]; omega)
  rw [h.2.2.1 hn, Nm.pieces_end (by rw [hcut]), hcut]

/-- the first k pieces have told the labels bs. -/
def ToldAt (ps : List (List UInt8)) (k : Nat) (bs : List (List UInt8)) : Prop :=
  k ≤ ps.length ∧ bs.length = k ∧ Nm.Good bs ∧ Nm.labelsP ps = match Nm.labelsP (ps.drop k) with | .error n => .error n | .ok r => .ok (bs ++ r)
theorem ToldAt.zero (ps : List (List UInt8)) : ToldAt ps 0 [] := ⟨Nat.zero_le _, rfl, (fun l hl => by simp at hl), by rw [List.drop_zero]; rcases Nm.labelsP ps <;> rfl⟩
theorem ToldAt.no {ps bs : List (List UInt8)} {k : Nat} (h : ToldAt ps k bs) (hk : k < ps.length) (hu : Nm.unesc ps[k] = none) : Nm.labelsP ps = .error 12 := by
  rw [h.2.2.2, List.drop_eq_getElem_cons hk, labelsP_esc _ _ hu]
theorem ToldAt.bad {ps bs : List (List UInt8)} {k : Nat} {b : List UInt8} (h : ToldAt ps k bs) (hk : k < ps.length) (hu : Nm.unesc ps[k] = some b) (hg : ¬ (1 ≤ b.length ∧ b.length ≤ 63)) : Nm.labelsP ps = .error 10 := by
  rw [h.2.2.2, List.drop_eq_getElem_cons hk, labelsP_bad _ _ _ hu hg]
theorem ToldAt.step {ps bs : List (List UInt8)} {k : Nat} {b : List UInt8} (h : ToldAt ps k bs) (hk : k < ps.length) (hu : Nm.unesc ps[k] = some b) (hg : 1 ≤ b.length ∧ b.length ≤ 63) : ToldAt ps (k + 1) (bs ++ [b]) := by
  refine ⟨hk, by rw [List.length_append, h.2.1]; rfl, good_app h.2.2.1 (fun l hl => by simp at hl; subst hl; exact hg), ?_⟩
  rw [h.2.2.2, List.drop_eq_getElem_cons hk, labelsP_cons _ _ _ hu hg]
  rcases Nm.labelsP (ps.drop (k + 1)) with n | r
  · rfl
  · simp
theorem ToldAt.done {ps bs : List (List UInt8)} (h : ToldAt ps ps.length bs) : Nm.labelsP ps = .ok bs := by
  rw [h.2.2.2, List.drop_length]; simp [Nm.labelsP]
end Go.Proofs.YtgcaephfhfkjcaaGreatDoor
namespace Go.Proofs.YtgcaephfhfkjcaaGreatDoor
open Go.RowKit

set_option maxHeartbeats 1000000 in
set_option maxRecDepth 100000 in
theorem refText_any (s : ByteArray) (w : World) (hs : s.size ≤ 140737488355328) :
    Calls Tryz.prog 27 #[.string s] w fun e w' => e = .returned (sv (Nm.text s.data.toList)) ∧ Below w.heap.size w w' := by
  rcases hn : Nm.split s.data.toList with _ | ls
  · have HR : Hid (Nm.text s.data.toList = []) := by show _ = _; unfold Nm.text; rw [hn]
    have H1 := Lib.hid (Split_no s w hs hn)
    clear hn
    go_enter Tryz.func27, Tryz.ntmps27
    go_wp2_with (first | (go_at_call 30; refine H1.out.mono ?_; rintro e w1 ⟨v1, rfl, hb1⟩))
    go_ret
    exact ⟨by rw [HR.out]; rfl, hb1⟩
  · have H1 := Lib.hid (Split_yes s ls w hs hn)
    have hf := few hn
    have hgood := (Nm.split_some.1 hn).2.1
    by_cases h0 : ls = []
    · subst h0
      have HR : Hid (Nm.text s.data.toList = [46]) := by show _ = _; unfold Nm.text; rw [hn]
      clear hn
      go_enter Tryz.func27, Tryz.ntmps27
      go_wp2_with (first | (go_at_call 30; refine H1.out.mono ?_; rintro e w1 ⟨ad1, cp1, rfl, ho1, hb1⟩))
      go_ret
      exact ⟨by rw [HR.out]; rfl, hb1⟩
    · have HR : Hid (Nm.text s.data.toList = Nm.textL ls) := by
        show _ = _
        unfold Nm.text; rw [hn]
        rcases ls with _ | ⟨a, ls⟩
        · exact absurd rfl h0
        · rfl
      have HG := Lib.hid hgood
      have hpos : 0 < ls.length := List.length_pos_iff.2 h0
      have hne : ((ls.length : Int) == 0) = false := beq_eq_false_iff_ne.2 (by omega)
      clear hn hgood h0
      generalize Nm.text s.data.toList = tx at *
      go_enter Tryz.func27, Tryz.ntmps27
      go_wp2_with (first | (go_at_call 30; refine H1.out.mono ?_; rintro e w1 ⟨ad1, cp1, rfl, ho1, hb1⟩; have HO := Lib.hid ho1; have B1 := Lib.hid hb1; have hs1 := hb1.size; clear ho1 hb1))
      go_loopw [5, 6] (fun t i wr => ∃ k : Nat, i = .int .i64 k ∧ k ≤ ls.length ∧ t = sv (Nm.textL (ls.take k)) ∧ Below w1.heap.size w1 wr) (fun _ i _ => ls.length - (intOf i).toNat)
      case atStart => exact ⟨0, rfl, Nat.zero_le _, rfl, Below.refl _ _⟩
      case round =>
        obtain ⟨k, rfl, hk, rfl, hbw⟩ := hrel
        have HB := Lib.hid hbw
        have hbs := hbw.size
        have HO2 := Lib.hid (own_below HO.out hbw (Nat.le_refl _))
        clear hbw
        by_cases hlt : k < ls.length
        · obtain ⟨g', rfl, hcap, ca⟩ := own_at HO2.out hlt
          have hc : wr.cell? ⟨g', k, none⟩ = some (sv ls[k]) := ca k _ (by simp [svs, hlt])
          have hgl := HG.out ls[k] (List.getElem_mem hlt)
          have HTS : Hid (Nm.textL (ls.take (k + 1)) = Nm.textL (ls.take k) ++ (Nm.esc false ls[k] ++ [46])) := by rw [Hid, List.take_succ_eq_append_getElem hlt, textL_snoc]
          have hte := textL_len (ls.take k) (fun x hx => HG.out x (List.mem_of_mem_take hx))
          have htl : (ls.take k).length ≤ k := List.length_take_le _ _
          have hte2 : (Nm.textL (ls.take k)).length ≤ 300 * k := by omega
          clear ca hte htl
          generalize ls[k] = l at *
          generalize Nm.textL (ls.take k) = tk at *
          have hel := Nm.esc_len false l
          go_wp2_with (first | (go_at_call 45; refine (refEscape_any ⟨l.toArray⟩ false _ (by rw [mk_size]; omega)).mono ?_; rintro e w2 ⟨rfl, hb2⟩))
          go_roundw
          case rel =>
            refine ⟨k + 1, by go_num, by omega, ?_, HB.out.trans (hb2.mono hbs)⟩
            rw [HTS.out]
            show Value.string ((⟨tk.toArray⟩ ++ ⟨(Nm.esc false l).toArray⟩) ++ ⟨#[46]⟩) = _
            rw [string_eq (s := (⟨tk.toArray⟩ ++ ⟨(Nm.esc false l).toArray⟩) ++ ⟨#[46]⟩) (l := tk ++ (Nm.esc false l ++ [46])) (by rw [cat_list, cat_list, List.append_assoc])]
          case measure => simp [intOf]; omega
        · obtain rfl : k = ls.length := by omega
          have HTS : Hid (Nm.textL (ls.take ls.length) = Nm.textL ls) := by rw [Hid, List.take_length]
          go_wp2
          go_ret
          refine ⟨?_, B1.out.trans (HB.out.mono hs1)⟩
          rw [HR.out, ← HTS.out]; rfl
end Go.Proofs.YtgcaephfhfkjcaaGreatDoor
