/- text, Cmp, Under: the document's order. -/
import Derived.Test.YtpnfkgjcnofjnaaRefs2
import Derived.Test.YtpnfkgjcnofjnaaSplit
import Derived.Test.YtpnfkgjcnofjnaaCmpPure
import Derived.Deep.RegionHeld3
namespace Go.Proofs.Ytpnfkgjcnofjnaa
open Go.RowKit

set_option maxHeartbeats 1000000 in
set_option maxRecDepth 100000 in
theorem text_any (a b : ByteArray) (w : World) (ha : a.size ≤ 140737488355328) (_ : b.size ≤ 140737488355328) :
    Calls Try.prog 56 #[.string a, .string b] w fun e w' => e = .returned (.int .i64 (Nm.cmpB a.data.toList b.data.toList)) ∧ ∃ n, w' = w.drewN n := by
  have HA : Hid (a.data.toList.length = a.size) := by show _ = _; simp
  have HB : Hid (b.data.toList.length = b.size) := by show _ = _; simp
  go_enter Try.func56, Try.ntmps56
  go_wp2
  go_loopw [5] (fun i wr => ∃ k : Nat, i = .int .i64 k ∧ k ≤ a.size ∧ k ≤ b.size ∧ a.data.toList.take k = b.data.toList.take k ∧ ∃ n, wr = w.drewN n) (fun i _ => a.size - (intOf i).toNat)
  case atStart => exact ⟨0, rfl, Nat.zero_le _, Nat.zero_le _, rfl, 0, rfl⟩
  case round =>
    obtain ⟨k, rfl, hka, hkb, hat, n, rfl⟩ := hrel
    have AT := Lib.hid hat
    clear hat
    by_cases hlt : k < a.size ∧ k < b.size
    · obtain ⟨h1, h2⟩ := hlt
      have h1' : k < a.data.toList.length := by rw [HA.out]; exact h1
      have h2' : k < b.data.toList.length := by rw [HB.out]; exact h2
      have hx := a[k].toNat_lt
      have hy := b[k].toNat_lt
      by_cases he : a[k].toNat = b[k].toNat
      · have hn : ((a[k].toNat : Int) != (b[k].toNat : Int)) = false := by simp [he]
        have HN := Lib.hid (Nm.take_succ_alike AT.out h1' h2' (UInt8.toNat_inj.1 he))
        clear he
        go_wp2
        go_quiet (fail)
        go_wp2
        go_roundw
        case rel => exact ⟨k + 1, by go_num, by omega, by omega, HN.out, _, rfl⟩
        case measure => simp [intOf]; omega
      · have hn : ((a[k].toNat : Int) != (b[k].toNat : Int)) = true := by rw [bne_iff_ne]; omega
        have HD := Lib.hid (Nm.cmpB_differ AT.out h1' h2' (fun e => he (congrArg UInt8.toNat e)))
        by_cases hl : a[k].toNat < b[k].toNat
        · have HS : Hid (Nm.cmpB a.data.toList b.data.toList = -1) := HD.out.trans (Nm.sgn_lt hl)
          clear he
          go_wp2
          go_quiet (fail)
          go_wp2
          go_quiet (fail)
          go_wp2
          go_ret
          refine ⟨by rw [HS.out]; rfl, ?_⟩
          rw [World.drewN_drewN, World.drewN_drewN]
          exact ⟨_, rfl⟩
        · have HS : Hid (Nm.cmpB a.data.toList b.data.toList = 1) := HD.out.trans (Nm.sgn_gt (show b[k].toNat < a[k].toNat by omega))
          have hl2 : b[k].toNat < a[k].toNat := by omega
          clear he hl
          go_wp2
          go_quiet (fail)
          go_wp2
          go_quiet (fail)
          go_wp2
          go_ret
          refine ⟨by rw [HS.out]; rfl, ?_⟩
          rw [World.drewN_drewN, World.drewN_drewN]
          exact ⟨_, rfl⟩
    · have HO := Lib.hid (Nm.cmpB_over AT.out (by rw [HA.out]; exact hka) (by rw [HB.out]; exact hkb) (by rw [HA.out, HB.out]; omega))
      rw [HA.out, HB.out] at HO
      have hend : a.size ≤ k ∨ b.size ≤ k := by omega
      clear hlt
      rcases Nat.lt_trichotomy a.size b.size with hl | hl | hl
      · have HS : Hid (Nm.cmpB a.data.toList b.data.toList = -1) := HO.out.trans (Nm.sgn_lt hl)
        have hka2 : a.size ≤ k := by omega
        go_wp2
        go_ret
        exact ⟨by rw [HS.out]; rfl, _, rfl⟩
      · have HS : Hid (Nm.cmpB a.data.toList b.data.toList = 0) := HO.out.trans (by rw [hl]; exact Nm.sgn_self _)
        have hq : ((a.size : Int) == (b.size : Int)) = true := by simp [hl]
        have hka2 : a.size ≤ k := by omega
        clear hend
        have HL := Lib.hid hl
        clear hl
        go_wp2
        go_ret
        exact ⟨by rw [HS.out]; rfl, _, rfl⟩
      · have HS : Hid (Nm.cmpB a.data.toList b.data.toList = 1) := HO.out.trans (Nm.sgn_gt hl)
        have hka2 : b.size ≤ k := by omega
        have h3 : k < a.size := by omega
        go_wp2
        go_ret
        exact ⟨by rw [HS.out]; rfl, _, rfl⟩

theorem keep_cell {W W1 : World} {p : Addr} {v : Value} (hb : Below W.heap.size W W1) (h : W.cell? p = some v) : W1.cell? p = some v := (hb.cell (block_lt_of_cell h)).trans h
theorem keep_drewN {W : World} {p : Addr} {v : Value} (h : W.cell? p = some v) (n : Nat) : (W.drewN n).cell? p = some v := h
theorem keep_below {B : Nat} {w W W1 : World} (hb : Below W.heap.size W W1) (h : Below B w W) (hB : B ≤ w.heap.size) : Below B w W1 := h.trans (hb.mono (Nat.le_trans hB h.size))

theorem Split_no (s : ByteArray) (w : World) (hs : s.size ≤ 140737488355328) (h : Nm.split s.data.toList = none) :
    Calls Try.prog 55 #[.string s] w fun e w' => ∃ v, e = .returned (.tuple #[v, .bool false]) ∧ Below w.heap.size w w' :=
  (Split_any s w hs).mono fun _ _ hp => by rw [h] at hp; obtain ⟨v, hb, he⟩ := hp; exact ⟨v, he, hb⟩
theorem Split_yes (s : ByteArray) (ls : List (List UInt8)) (w : World) (hs : s.size ≤ 140737488355328) (h : Nm.split s.data.toList = some ls) :
    Calls Try.prog 55 #[.string s] w fun e w' => ∃ ad cp, e = .returned (.tuple #[.slice ad ls.length cp, .bool true]) ∧ w'.ownsRow w.heap.size 9 1 (.slice ad ls.length cp) ls.length (svs ls) ∧ Below w.heap.size w w' :=
  (Split_any s w hs).mono fun _ _ hp => by
    rw [h] at hp
    obtain ⟨v, hb, he, ho⟩ := hp
    obtain ⟨ad, cp, rfl⟩ := own_form ho
    exact ⟨ad, cp, he, ho, hb⟩

set_option maxHeartbeats 1000000 in
set_option maxRecDepth 100000 in
theorem refCmp_any (a b : ByteArray) (w : World) (ha : a.size ≤ 140737488355328) (hb : b.size ≤ 140737488355328) :
    Calls Try.prog 24 #[.string a, .string b] w fun e w' => e = .returned (.int .i64 (Nm.cmpN a.data.toList b.data.toList)) ∧ Below w.heap.size w w' := by
  rcases hn : Nm.split a.data.toList with _ | x
  · have H1 := Lib.hid (Split_no a w ha hn)
    rcases hn2 : Nm.split b.data.toList with _ | y
    · have H2 := Lib.hid (fun w => Split_no b w hb hn2)
      have HC : Hid (Nm.cmpN a.data.toList b.data.toList = Nm.cmpB a.data.toList b.data.toList) := by unfold Nm.cmpN; rw [hn, hn2]; rfl
      clear hn hn2
      go_enter Try.func24, Try.ntmps24
      go_wp2_with (first
        | (go_at_call_of 55 (Value.string a); refine H1.out.mono ?_; rintro e w1 ⟨v1, rfl, hb1⟩)
        | (go_at_call_of 55 (Value.string b); refine (H2.out _).mono ?_; rintro e w2 ⟨v2, rfl, hb2⟩)
        | (go_at_call 56; refine (text_any a b _ ha hb).mono ?_; rintro e w3 ⟨rfl, n3, rfl⟩))
      go_ret
      exact ⟨by rw [HC.out]; rfl, below_drewN (hb1.trans (hb2.mono hb1.size)) n3⟩
    · have H2 := Lib.hid (fun w => Split_yes b y w hb hn2)
      have HC : Hid (Nm.cmpN a.data.toList b.data.toList = 1) := by unfold Nm.cmpN; rw [hn, hn2]; rfl
      clear hn hn2
      go_enter Try.func24, Try.ntmps24
      go_wp2_with (first
        | (go_at_call_of 55 (Value.string a); refine H1.out.mono ?_; rintro e w1 ⟨v1, rfl, hb1⟩)
        | (go_at_call_of 55 (Value.string b); refine (H2.out _).mono ?_; rintro e w2 ⟨ad2, cp2, rfl, ho2, hb2⟩))
      go_ret
      exact ⟨by rw [HC.out]; rfl, hb1.trans (hb2.mono hb1.size)⟩
  · have H1 := Lib.hid (Split_yes a x w ha hn)
    rcases hn2 : Nm.split b.data.toList with _ | y
    · have H2 := Lib.hid (fun w => Split_no b w hb hn2)
      have HC : Hid (Nm.cmpN a.data.toList b.data.toList = -1) := by unfold Nm.cmpN; rw [hn, hn2]; rfl
      clear hn hn2
      go_enter Try.func24, Try.ntmps24
      go_wp2_with (first
        | (go_at_call_of 55 (Value.string a); refine H1.out.mono ?_; rintro e w1 ⟨ad1, cp1, rfl, ho1, hb1⟩)
        | (go_at_call_of 55 (Value.string b); refine (H2.out _).mono ?_; rintro e w2 ⟨v2, rfl, hb2⟩))
      go_ret
      exact ⟨by rw [HC.out]; rfl, hb1.trans (hb2.mono hb1.size)⟩
    · have H2 := Lib.hid (fun w => Split_yes b y w hb hn2)
      have HC : Hid (Nm.cmpN a.data.toList b.data.toList = Nm.cmpL x.reverse y.reverse) := by unfold Nm.cmpN; rw [hn, hn2]; rfl
      have hfx := few hn
      have hfy := few hn2
      have HGX := Lib.hid (Nm.split_some.1 hn).2.1
      have HGY := Lib.hid (Nm.split_some.1 hn2).2.1
      clear hn hn2
      go_enter Try.func24, Try.ntmps24
      go_wp2_with (first
        | (go_at_call_of 55 (Value.string a); refine H1.out.mono ?_; rintro e w1 ⟨ad1, cp1, rfl, ho1, hb1⟩; have O1 := Lib.hid ho1; clear ho1)
        | (go_at_call_of 55 (Value.string b); refine (H2.out _).mono ?_; rintro e w2 ⟨ad2, cp2, rfl, ho2, hb2⟩; have O2 := Lib.hid ho2; clear ho2))
      have R1 := Lib.hid ((Rd.of_own O1.out).keep hb2)
      have R2 := Lib.hid (Rd.of_own O2.out)
      have B2 := Lib.hid (hb1.trans (hb2.mono hb1.size))
      have hs2 := hb2.size
      clear hb1 hb2
      go_loopw [9] (fun i wr => ∃ k : Nat, i = .int .i64 (k + 1 : Nat) ∧ Nm.Back x y k ∧ Below w2.heap.size w2 wr) (fun i _ => x.length + 1 - (intOf i).toNat)
      case atStart => exact ⟨0, rfl, Nm.Back.zero _ _, Below.refl _ _⟩
      case round =>
        obtain ⟨k, rfl, hbk, hbw⟩ := hrel
        have hk1 := hbk.1
        have hk2 := hbk.2.1
        have BK := Lib.hid hbk
        have BW := Lib.hid hbw
        have hbs := hbw.size
        clear hbk hbw
        by_cases hlt : k < x.length ∧ k < y.length
        · obtain ⟨h1, h2⟩ := hlt
          obtain ⟨A1, c1, e1, hc1, r1⟩ := R1.out
          injection e1 with e1 _ e2
          obtain ⟨A2, c2, e3, hc2, r2⟩ := R2.out
          injection e3 with e3 _ e4
          obtain ⟨g1, o1, rfl, hg1, ca1⟩ := r1 (by omega)
          obtain ⟨g2, o2, rfl, hg2, ca2⟩ := r2 (by omega)
          subst e1 e2 e3 e4
          have cx : wr.cell? ⟨g1, o1 + (x.length - (k + 1)), none⟩ = some (sv x[x.length - 1 - k]) := by
            have := (BW.out.cell (p := ⟨g1, o1 + (x.length - (k + 1)), none⟩) (by show g1 < _; omega))
            rw [this, show o1 + (x.length - (k + 1)) = o1 + (x.length - 1 - k) by omega]; exact ca1 _ (by omega)
          have cy : wr.cell? ⟨g2, o2 + (y.length - (k + 1)), none⟩ = some (sv y[y.length - 1 - k]) := by
            have := (BW.out.cell (p := ⟨g2, o2 + (y.length - (k + 1)), none⟩) (by show g2 < _; omega))
            rw [this, show o2 + (y.length - (k + 1)) = o2 + (y.length - 1 - k) by omega]; exact ca2 _ (by omega)
          have hlx := HGX.out x[x.length - 1 - k] (List.getElem_mem _)
          have hly := HGY.out y[y.length - 1 - k] (List.getElem_mem _)
          have HST := Lib.hid (BK.out.step h1 h2)
          have HDF := Lib.hid (BK.out.differ h1 h2)
          clear ca1 ca2
          generalize x[x.length - 1 - k] = u at *
          generalize y[y.length - 1 - k] = v at *
          have ax0 : (0 : Int) ≤ (x.length : Int) - ((k : Int) + 1) := by omega
          have ax1 : (x.length : Int) - ((k : Int) + 1) < (x.length : Int) := by omega
          have ax2 : ((x.length : Int) - ((k : Int) + 1)).toNat = x.length - (k + 1) := by omega
          have ax3 : IntKind.i64.wrap ((x.length : Int) - ((k : Int) + 1)) = (x.length : Int) - ((k : Int) + 1) := IntWalk.i64_in _ (by omega)
          have ay0 : (0 : Int) ≤ (y.length : Int) - ((k : Int) + 1) := by omega
          have ay1 : (y.length : Int) - ((k : Int) + 1) < (y.length : Int) := by omega
          have ay2 : ((y.length : Int) - ((k : Int) + 1)).toNat = y.length - (k + 1) := by omega
          have ay3 : IntKind.i64.wrap ((y.length : Int) - ((k : Int) + 1)) = (y.length : Int) - ((k : Int) + 1) := IntWalk.i64_in _ (by omega)
          have HTX : Hid (∀ W : World, Calls Try.prog 56 #[.string ⟨(Nm.fold u).toArray⟩, .string ⟨(Nm.fold v).toArray⟩] W fun e w' => e = .returned (.int .i64 (Nm.cmpB (Nm.fold u) (Nm.fold v))) ∧ ∃ n, w' = W.drewN n) := fun W =>
            text_any ⟨(Nm.fold u).toArray⟩ ⟨(Nm.fold v).toArray⟩ W (by rw [mk_size, Nm.fold_length]; omega) (by rw [mk_size, Nm.fold_length]; omega)
          have hcr := Nm.cmpB_range (Nm.fold u) (Nm.fold v)
          generalize Nm.cmpB (Nm.fold u) (Nm.fold v) = c at *
          obtain ⟨hc1, hc2⟩ := hcr
          by_cases hc0 : c = 0
          · have hcz : (c != 0) = false := by simp [hc0]
            have HS := Lib.hid (HST.out hc0)
            clear hc0
            go_wp2
            go_region_held3 (fun W => W.cell? ⟨g1, o1 + (x.length - (k + 1)), none⟩ = some (sv u) ∧ W.cell? ⟨g2, o2 + (y.length - (k + 1)), none⟩ = some (sv v) ∧ Below wr.heap.size wr W)
              (first
                | (go_keep; done)
                | (try dsimp only
                   repeat' apply And.intro
                   all_goals (first | exact cx | exact cy | exact (Below.refl _ _).drew | exact Below.refl _ _ | go_keep))
                | (go_split_ands
                   try dsimp only
                   refine ⟨keep_cell hbW (by assumption), keep_cell hbW (by assumption), keep_below hbW (by assumption) (Nat.le_refl _)⟩)
                | (go_split_ands
                   try dsimp only
                   refine ⟨keep_drewN (by assumption) n3, keep_drewN (by assumption) n3, below_drewN (by assumption) n3⟩))
              (first
                | (go_at_call_of 54 (sv u); refine (Low_any ⟨u.toArray⟩ _ (by rw [mk_size]; omega)).mono ?_; rintro e W1 ⟨rfl, hbW⟩)
                | (go_at_call_of 54 (sv v); refine (Low_any ⟨v.toArray⟩ _ (by rw [mk_size]; omega)).mono ?_; rintro e W1 ⟨rfl, hbW⟩)
                | (go_at_call 56; refine (HTX.out _).mono ?_; rintro e W1 ⟨rfl, n3, rfl⟩))
            go_split_ands
            go_wp2
            go_roundw
            case rel => exact ⟨k + 1, by go_num, HS.out, BW.out.trans (Below.mono (by assumption) hbs)⟩
            case measure => simp [intOf]; omega
          · have hcz : (c != 0) = true := by simpa using hc0
            have HS := Lib.hid (HDF.out hc0)
            clear hc0
            go_wp2
            go_region_held3 (fun W => W.cell? ⟨g1, o1 + (x.length - (k + 1)), none⟩ = some (sv u) ∧ W.cell? ⟨g2, o2 + (y.length - (k + 1)), none⟩ = some (sv v) ∧ Below wr.heap.size wr W)
              (first
                | (go_keep; done)
                | (try dsimp only
                   repeat' apply And.intro
                   all_goals (first | exact cx | exact cy | exact (Below.refl _ _).drew | exact Below.refl _ _ | go_keep))
                | (go_split_ands
                   try dsimp only
                   refine ⟨keep_cell hbW (by assumption), keep_cell hbW (by assumption), keep_below hbW (by assumption) (Nat.le_refl _)⟩)
                | (go_split_ands
                   try dsimp only
                   refine ⟨keep_drewN (by assumption) n3, keep_drewN (by assumption) n3, below_drewN (by assumption) n3⟩))
              (first
                | (go_at_call_of 54 (sv u); refine (Low_any ⟨u.toArray⟩ _ (by rw [mk_size]; omega)).mono ?_; rintro e W1 ⟨rfl, hbW⟩)
                | (go_at_call_of 54 (sv v); refine (Low_any ⟨v.toArray⟩ _ (by rw [mk_size]; omega)).mono ?_; rintro e W1 ⟨rfl, hbW⟩)
                | (go_at_call 56; refine (HTX.out _).mono ?_; rintro e W1 ⟨rfl, n3, rfl⟩))
            go_split_ands
            go_wp2
            go_ret
            exact ⟨by rw [HC.out, HS.out]; rfl, B2.out.trans ((BW.out.trans (Below.mono (by assumption) hbs)).mono B2.out.size)⟩
        · have HO := Lib.hid (BK.out.over (by omega))
          have hend : x.length ≤ k ∨ y.length ≤ k := by omega
          have hsg := Nm.sgn_range x.length y.length
          clear hlt
          have HF := Lib.hid (B2.out.trans (BW.out.mono B2.out.size))
          rcases Nat.lt_trichotomy x.length y.length with hl | hl | hl
          · have HS : Hid (Nm.cmpL x.reverse y.reverse = -1) := HO.out.trans (Nm.sgn_lt hl)
            have hka2 : x.length ≤ k := by omega
            go_wp2
            go_ret
            exact ⟨by rw [HC.out, HS.out]; rfl, HF.out⟩
          · have HS : Hid (Nm.cmpL x.reverse y.reverse = 0) := HO.out.trans (by rw [hl]; exact Nm.sgn_self _)
            have hq : ((x.length : Int) == (y.length : Int)) = true := by simp [hl]
            have hka2 : x.length ≤ k := by omega
            clear hend
            have HL := Lib.hid hl
            clear hl
            go_wp2
            go_ret
            exact ⟨by rw [HC.out, HS.out]; rfl, HF.out⟩
          · have HS : Hid (Nm.cmpL x.reverse y.reverse = 1) := HO.out.trans (Nm.sgn_gt hl)
            have hka2 : y.length ≤ k := by omega
            have hka3 : k < x.length := by omega
            go_wp2
            go_ret
            exact ⟨by rw [HC.out, HS.out]; rfl, HF.out⟩
end Go.Proofs.Ytpnfkgjcnofjnaa
