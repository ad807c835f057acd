/- TreeOrder holds: for every row of names and every name that can be read as data, the call returns true. Conditions: none but the reach of the form itself. -/
import Derived.Test.YtpnfkgjcnofjnaaLwOrdM
namespace Go.Proofs.Ytpnfkgjcnofjnaa
open Go.RowKit Go.Shelf Tr Ti

theorem prd_sub {W : World} {g N c3 at_ bl c : Nat} {L : List (By × TV)} (h : PRd W (.slice (some ⟨g, 0, none⟩) N c3) L) (hf : at_ + bl ≤ L.length) :
    PRd W (.slice (some ⟨g, at_ * 2, none⟩) bl c) ((L.drop at_).take bl) := by
  obtain ⟨A, c', hv, hr⟩ := h
  injection hv with e1 e2 e3
  subst e1
  have hl : ((L.drop at_).take bl).length = bl := by simp; omega
  refine ⟨_, c, by rw [hl], fun h0 => ?_⟩
  obtain ⟨g', o, hA, hg, hc⟩ := hr (by omega)
  injection hA with hA
  injection hA with e4 e5
  subst e4 e5
  refine ⟨g, at_ * 2, rfl, hg, fun j hj => ?_⟩
  have hj' : at_ + j < L.length := by omega
  have := hc (at_ + j) hj'
  rw [show at_ * 2 + j * 2 = 0 + (at_ + j) * 2 by omega]
  simpa using this
theorem prd_nil {W : World} (A : Option Addr) (c : Nat) : PRd W (.slice A 0 c) [] := ⟨A, c, rfl, fun h => absurd h (by simp)⟩

set_option maxRecDepth 100000 in
set_option maxHeartbeats 4000000 in
theorem order_main {w : World} {A : Option Addr} {nl c : Nat} {ls : List (List UInt8)} (s : ByteArray) (hs : s.size ≤ 2000)
    (hh : Calls Try.prog 21 #[.slice A nl c] w fun e w' => e = .returned (.bool false) ∧ w' = w)
    (hls : ls.length = nl) (hl : Rd w w.heap.size (.slice A nl c) ls) (h1 : nl ≤ 60) (hz1 : ∀ s ∈ ls, s.length ≤ 2000) :
    Calls Try.prog 4 #[.slice A nl c, .string s] w fun e w' => e = .returned (.bool true) ∧ Below w.heap.size w w' := by
  have HH := Lib.hid hh
  have HG := Lib.hid (grown_any w hls hl h1 hz1)
  have hs' : ¬ (2000 : Int) < (s.size : Int) := by omega
  have hsb : s.size ≤ 140737488355328 := by omega
  have HORD : Hid (∀ w2 b F, TM w2 b (growN ls 0 rootN) F → (nents (growN ls 0 rootN)).length ≤ nl → ∃ at_ bl, Ord w2 b ls (belowL (growN ls 0 rootN) [0]) s at_ bl) := fun w2 b F hT hle => ord_any hT (by omega) (by omega) hz1 s hsb
  have HL := Lib.hid hl
  have HLS := Lib.hid hls
  have HZ1 := Lib.hid hz1
  clear hh hl hls hz1
  go_enter Try.func4, Try.ntmps4
  go_wp2_with (first
    | (go_at_call 21; refine HH.out.mono ?_; rintro e w1 ⟨rfl, rfl⟩)
    | (go_at_call 22; refine HG.out.mono ?_; rintro e w2 ⟨rfl, ⟨F, hT, hF⟩, hb2, hlen⟩; have HT := Lib.hid hT; have HB2 := Lib.hid hb2; obtain ⟨at_, bl, hO⟩ := HORD.out _ _ _ hT hlen; clear hT hF hb2)
    | (go_at_call 20; refine (lawAll_any HT.out).mono ?_; rintro e w3 ⟨vt, rfl, hr3, hb3⟩; generalize belowL (growN ls 0 rootN) [0] = L at *; have HO := Lib.hid hO; have HR3 := Lib.hid hr3; have HB3 := Lib.hid hb3; obtain ⟨A3, c3, hvt, hc3⟩ := ownK_form hr3; obtain ⟨N, hN⟩ : ∃ N, L.length = N := ⟨_, rfl⟩; rw [hN] at hvt hc3; subst hvt; have HC3 := Lib.hid hc3; clear hc3; have HN := Lib.hid hN; have hln := hO.len _ hb3; rw [hN] at hln; have HLN := Lib.hid hln; clear hO hr3 hb3 hN hln)
    | (go_at_call 11; refine HLN.out.mono ?_; rintro e w4 ⟨rfl, rfl⟩))
  have HCT : Hid (∀ X, Below w4.heap.size w4 X → ∀ j, j < N → ∃ g, A3 = some ⟨g, 0, none⟩ ∧ X.cell? ⟨g, j * 2, none⟩ = some (sv (L.getD j ([], 0)).1) ∧ X.cell? ⟨g, j * 2 + 1, none⟩ = some (tz (L.getD j ([], 0)).2)) := fun X hb j hj => by
    have hjl : j < L.length := by have := HN.out; omega
    obtain ⟨g, cp, cur, hv, _, _, _, hg, ht⟩ := ownK_pos (ownK_below HR3.out hb (Nat.le_refl _)) (by omega)
    injection hv with e1 _ _
    rw [Ti.getD_in hjl]
    refine ⟨g, e1, ?_, ?_⟩
    · rw [cell_of_row X g _ cur _ (0, 0) hg]
      exact take_at ht (by have := fl_get pc_len L hjl (i := 0) (by decide); simpa [pc] using this)
    · rw [cell_of_row X g _ cur _ (0, 0) hg]
      exact take_at ht (by rw [fl_get pc_len L hjl (i := 1) (by decide)]; rfl)
  have HW4 : Hid (Below w1.heap.size w1 w4) := HB2.out.trans (HB3.out.mono HB2.out.size)
  have HCL : Hid (∀ X, Below w1.heap.size w1 X → ∀ k, k < nl → ∃ g o, A = some ⟨g, o, none⟩ ∧ X.cell? ⟨g, o + k, none⟩ = some (sv (ls.getD k []))) := fun X hb k hk => by
    obtain ⟨g, o, e, hl, hc⟩ := Rd.at (HL.out.keep hb) hk
    rw [Ti.getD_in hl]
    exact ⟨g, o, e, hc⟩
  have HFO : Hid (∀ X (x : By), x.length ≤ 2000 → Calls Try.prog 23 #[.string ⟨x.toArray⟩] X fun e w' => e = .returned (.string ⟨(Nm.fold x).toArray⟩) ∧ Below X.heap.size X w') := fun X x hx => by
    have := refFold_any ⟨x.toArray⟩ X (by rw [arr_size]; omega)
    rwa [arr_list] at this
  have HSH : Hid (∀ k, k < nl → (ls.getD k []).length ≤ 2000) := fun k hk => by
    have hkl : k < ls.length := by have := HLS.out; omega
    rw [Ti.getD_in hkl]
    exact HZ1.out _ (List.getElem_mem hkl)
  have hN60 : N ≤ 60 := by have := HO.out.few.1; have := HN.out; omega
  clear HH HG HORD HT
  go_loopw [7] (fun i wr => ∃ k : Nat, k ≤ N ∧ i = .int .i64 k ∧ Hid (Below w4.heap.size w4 wr)) (fun i _ => N - (intOf i).toNat)
  case atStart => exact ⟨0, Nat.zero_le _, rfl, Below.refl _ _⟩
  case round =>
    obtain ⟨k, hk, rfl, HB⟩ := hrel
    rcases Nat.lt_or_ge k N with hlt | hge
    · have hkl : k < L.length := by have := HN.out; omega
      obtain ⟨v, hv1, hv2, hv3, hv4⟩ := HO.out.val k hkl
      have hv1' : v < nl := by have := HLS.out; omega
      obtain ⟨g, rfl, c0, c1⟩ := HCT.out _ HB.out k hlt
      have hbw := HW4.out.trans (HB.out.mono HW4.out.size)
      obtain ⟨g0, o0, rfl, cv⟩ := HCL.out _ hbw v hv1'
      have HCT' : Hid (∀ X, Below w4.heap.size w4 X → ∀ j, j < N → X.cell? ⟨g, j * 2, none⟩ = some (sv (L.getD j ([], 0)).1)) := fun X hb j hj => by
        obtain ⟨g', e, h, _⟩ := HCT.out X hb j hj
        injection e with e; injection e with e; subst e; exact h
      have HCL' : Hid (∀ X, Below w1.heap.size w1 X → ∀ j, j < nl → X.cell? ⟨g0, o0 + j, none⟩ = some (sv (ls.getD j []))) := fun X hb j hj => by
        obtain ⟨g', o', e, h⟩ := HCL.out X hb j hj
        injection e with e; injection e with e e2; subst e e2; exact h
      have hfo := HFO.out wr _ (HSH.out v hv1')
      rw [hv3] at hfo
      have hnx := fun X hb => HO.out.nxt k hkl X hb
      have hvne : Hid (∀ j, v < j → j < nl → Nm.fold (ls.getD j []) ≠ (L.getD k ([], 0)).1) := fun j h1 h2 => hv4 j h1 (by have := HLS.out; omega)
      rw [hv2] at c1
      obtain ⟨key, hkey⟩ : ∃ key, (L.getD k ([], 0)).1 = key := ⟨_, rfl⟩
      obtain ⟨nm, hnm⟩ : ∃ nm, ls.getD v [] = nm := ⟨_, rfl⟩
      rw [hkey] at c0 hfo hnx hvne
      rw [hnm] at cv hfo
      have HFV := Lib.hid hfo
      have HNX := Lib.hid hnx
      have HKEY := Lib.hid hkey
      have hq : ((⟨key.toArray⟩ : ByteArray).toList == (⟨key.toArray⟩ : ByteArray).toList) = true := beq_self_eq_true _
      have i0 : (0 : Int) ≤ (k : Int) := by omega
      have i1 : (k : Int) < (N : Int) := by omega
      have i2 : (0 : Int) ≤ (v : Int) := by omega
      have i3 : (v : Int) < (nl : Int) := by omega
      have i4 : ¬ (v : Int) < 0 := by omega
      have i5 : ¬ (nl : Int) ≤ (v : Int) := by omega
      have hwr1 : IntKind.i64.wrap ((k : Int) + 1) = ((k + 1 : Nat) : Int) := by rw [IntKind.wrap_i64]; omega
      have hwr2 : IntKind.i64.wrap ((v : Int) + 1) = ((v + 1 : Nat) : Int) := by rw [IntKind.wrap_i64]; omega
      clear hv2 hv3 hv4 hv1 hkl hnx hfo hkey hnm hbw
      rcases Nat.eq_zero_or_pos k with hk0 | hk0
      · have i6 : ¬ (0 : Int) < (k : Int) := by omega
        have i9 : (k : Int) ≤ 0 := by omega
        clear hk0
        go_wp2_with (first
          | (go_at_call 23; refine HFV.out.mono ?_; rintro e w5 ⟨rfl, hb5⟩; have B5 := Lib.hid (HB.out.trans (hb5.mono HB.out.size)); clear hb5; (try have hc5 := HC5.out _ B5.out))
          | (go_at_call 24; refine (HCM.out _).mono ?_; rintro e w6 ⟨rfl, hb6⟩; have B5 := Lib.hid (B5.out.trans (hb6.mono B5.out.size)); clear hb6))
        clear HFV
        go_loopw [10] (fun i wz => ∃ j : Nat, j ≤ nl ∧ v < j ∧ i = .int .i64 j ∧ Hid (Below w4.heap.size w4 wz)) (fun i _ => nl - (intOf i).toNat)
        case atStart => exact ⟨v + 1, by omega, by omega, by simp, B5.out⟩
        case round =>
          obtain ⟨j, hj, hvj, rfl, HBJ⟩ := hrel
          rcases Nat.lt_or_ge j nl with hjt | hjge
          · have hbw := HW4.out.trans (HBJ.out.mono HW4.out.size)
            have cj := HCL'.out _ hbw j hjt
            have hne := hvne.out j hvj hjt
            obtain ⟨y, hy⟩ : ∃ y, ls.getD j [] = y := ⟨_, rfl⟩
            have hyl := HSH.out j hjt
            rw [hy] at cj hne hyl
            have HFJ : Hid (∀ X, Calls Try.prog 23 #[.string ⟨y.toArray⟩] X fun e w' => e = .returned (.string ⟨(Nm.fold y).toArray⟩) ∧ Below X.heap.size X w') := fun X => HFO.out X y hyl
            have hqj : ((⟨(Nm.fold y).toArray⟩ : ByteArray).toList == (⟨key.toArray⟩ : ByteArray).toList) = false := by rw [← Bool.not_eq_true, str_iff, arr_list, arr_list]; exact hne
            have hqk : (Nm.fold y == key) = false := beq_eq_false_iff_ne.2 hne
            obtain ⟨fy, hfy⟩ : ∃ fy, Nm.fold y = fy := ⟨_, rfl⟩
            rw [hfy] at HFJ hqj hqk
            have j0 : (0 : Int) ≤ (j : Int) := by omega
            have j1 : (j : Int) < (nl : Int) := by omega
            have hwj : IntKind.i64.wrap ((j : Int) + 1) = ((j + 1 : Nat) : Int) := by rw [IntKind.wrap_i64]; omega
            clear hne hy hyl hfy hbw
            go_wp2_with (go_at_call 23; refine (HFJ.out _).mono ?_; rintro e w7 ⟨rfl, hb7⟩; have B7 := Lib.hid (HBJ.out.trans (hb7.mono HBJ.out.size)); clear hb7)
            go_roundw
            case rel => exact ⟨j + 1, by omega, by omega, rfl, B7.out⟩
            case measure => simp [intOf]; omega
          · obtain rfl : nl = j := by omega
            have hnj : ¬ ((nl : Int) < (nl : Int)) := by omega
            have HNQ := Lib.hid (HNX.out _ (HB3.out.trans (HBJ.out.mono HB3.out.size)))
            rcases Nat.lt_or_ge (k + 1) N with hk1 | hk1
            · have hdt : decide (k + 1 < L.length) = true := decide_eq_true (by have := HN.out; omega)
              obtain ⟨kn, hkn⟩ : ∃ kn, (L.getD (k + 1) ([], 0)).1 = kn := ⟨_, rfl⟩
              have HC6 : Hid (∀ X, Below w4.heap.size w4 X → X.cell? ⟨g, (k + 1) * 2, none⟩ = some (sv kn)) := fun X hb => by
                have := HCT'.out X hb (k + 1) hk1
                rwa [hkn] at this
              rw [hdt, hkn] at HNQ
              have q1 : ((k + 1 : Nat) : Int) < (N : Int) := by omega
              have q2 : (k : Int) + 1 < (N : Int) := by omega
              have q3 : (0 : Int) ≤ ((k + 1 : Nat) : Int) := by omega
              have q4 : ((⟨kn.toArray⟩ : ByteArray).toList == (⟨kn.toArray⟩ : ByteArray).toList) = true := beq_self_eq_true _
              clear hdt hkn hk1
              go_wp2_with (go_at_call 25; refine HNQ.out.mono ?_; rintro e w8 ⟨rfl, hb8⟩; have B8 := Lib.hid (HBJ.out.trans (hb8.mono HBJ.out.size)); have c8 := HC6.out _ B8.out; clear hb8)
              go_roundw
              case rel => exact ⟨k + 1, by omega, rfl, B8.out⟩
              case measure => simp [intOf]; omega
            · have hdt : decide (k + 1 < L.length) = false := decide_eq_false (by have := HN.out; omega)
              rw [hdt] at HNQ
              generalize (L.getD (k + 1) ([], 0)).1 = kn at HNQ
              have q1 : ¬ ((k + 1 : Nat) : Int) < (N : Int) := by omega
              have q2 : ¬ (k : Int) + 1 < (N : Int) := by omega
              have q3 : (0 : Int) ≤ ((k + 1 : Nat) : Int) := by omega
              clear hdt
              go_wp2_with (go_at_call 25; refine HNQ.out.mono ?_; rintro e w8 ⟨rfl, hb8⟩; have B8 := Lib.hid (HBJ.out.trans (hb8.mono HBJ.out.size)); clear hb8)
              go_roundw
              case rel => exact ⟨k + 1, by omega, rfl, B8.out⟩
              case measure => simp [intOf]; omega
      · obtain ⟨k', hk'⟩ : ∃ k', k' + 1 = k := ⟨k - 1, by omega⟩
        have hcp := HCT'.out _ HB.out k' (by omega)
        have hasc := HO.out.asc k' (by have := HN.out; omega)
        rw [hk', HKEY.out] at hasc
        obtain ⟨kp, hkp⟩ : ∃ kp, (L.getD k' ([], 0)).1 = kp := ⟨_, rfl⟩
        have hsh1 := HO.out.short k'
        have hsh2 := HO.out.short k
        have HC5 : Hid (∀ X, Below w4.heap.size w4 X → X.cell? ⟨g, k' * 2, none⟩ = some (sv kp)) := fun X hb => by
          have := HCT'.out X hb k' (by omega)
          rwa [hkp] at this
        rw [hkp] at hcp hasc hsh1
        rw [HKEY.out] at hsh2
        obtain ⟨z, hz⟩ : ∃ z, Nm.cmpN kp key = z := ⟨_, rfl⟩
        rw [hz] at hasc
        have HCM : Hid (∀ X, Calls Try.prog 24 #[.string ⟨kp.toArray⟩, .string ⟨key.toArray⟩] X fun e w' => e = .returned (.int .i64 z) ∧ Below X.heap.size X w') := fun X => by
          have := refCmp_any ⟨kp.toArray⟩ ⟨key.toArray⟩ X (by rw [arr_size]; omega) (by rw [arr_size]; omega)
          rwa [arr_list, arr_list, hz] at this
        have hz0 : ¬ (0 : Int) ≤ z := by omega
        have hwr3 : IntKind.i64.wrap ((k : Int) - 1) = (k' : Int) := by rw [IntKind.wrap_i64]; omega
        have i6 : (0 : Int) < (k : Int) := by omega
        have i7 : (0 : Int) ≤ (k' : Int) := by omega
        have i8 : (k' : Int) < (N : Int) := by omega
        have HK' := Lib.hid hk'
        clear hkp hasc hsh1 hsh2 hz hcp hk' hk0
        go_wp2_with (first
          | (go_at_call 23; refine HFV.out.mono ?_; rintro e w5 ⟨rfl, hb5⟩; have B5 := Lib.hid (HB.out.trans (hb5.mono HB.out.size)); clear hb5; (try have hc5 := HC5.out _ B5.out))
          | (go_at_call 24; refine (HCM.out _).mono ?_; rintro e w6 ⟨rfl, hb6⟩; have B5 := Lib.hid (B5.out.trans (hb6.mono B5.out.size)); clear hb6))
        clear HFV
        go_loopw [10] (fun i wz => ∃ j : Nat, j ≤ nl ∧ v < j ∧ i = .int .i64 j ∧ Hid (Below w4.heap.size w4 wz)) (fun i _ => nl - (intOf i).toNat)
        case atStart => exact ⟨v + 1, by omega, by omega, by simp, B5.out⟩
        case round =>
          obtain ⟨j, hj, hvj, rfl, HBJ⟩ := hrel
          rcases Nat.lt_or_ge j nl with hjt | hjge
          · have hbw := HW4.out.trans (HBJ.out.mono HW4.out.size)
            have cj := HCL'.out _ hbw j hjt
            have hne := hvne.out j hvj hjt
            obtain ⟨y, hy⟩ : ∃ y, ls.getD j [] = y := ⟨_, rfl⟩
            have hyl := HSH.out j hjt
            rw [hy] at cj hne hyl
            have HFJ : Hid (∀ X, Calls Try.prog 23 #[.string ⟨y.toArray⟩] X fun e w' => e = .returned (.string ⟨(Nm.fold y).toArray⟩) ∧ Below X.heap.size X w') := fun X => HFO.out X y hyl
            have hqj : ((⟨(Nm.fold y).toArray⟩ : ByteArray).toList == (⟨key.toArray⟩ : ByteArray).toList) = false := by rw [← Bool.not_eq_true, str_iff, arr_list, arr_list]; exact hne
            have hqk : (Nm.fold y == key) = false := beq_eq_false_iff_ne.2 hne
            obtain ⟨fy, hfy⟩ : ∃ fy, Nm.fold y = fy := ⟨_, rfl⟩
            rw [hfy] at HFJ hqj hqk
            have j0 : (0 : Int) ≤ (j : Int) := by omega
            have j1 : (j : Int) < (nl : Int) := by omega
            have hwj : IntKind.i64.wrap ((j : Int) + 1) = ((j + 1 : Nat) : Int) := by rw [IntKind.wrap_i64]; omega
            clear hne hy hyl hfy hbw
            go_wp2_with (go_at_call 23; refine (HFJ.out _).mono ?_; rintro e w7 ⟨rfl, hb7⟩; have B7 := Lib.hid (HBJ.out.trans (hb7.mono HBJ.out.size)); clear hb7)
            go_roundw
            case rel => exact ⟨j + 1, by omega, by omega, rfl, B7.out⟩
            case measure => simp [intOf]; omega
          · obtain rfl : nl = j := by omega
            have hnj : ¬ ((nl : Int) < (nl : Int)) := by omega
            have HNQ := Lib.hid (HNX.out _ (HB3.out.trans (HBJ.out.mono HB3.out.size)))
            rcases Nat.lt_or_ge (k + 1) N with hk1 | hk1
            · have hdt : decide (k + 1 < L.length) = true := decide_eq_true (by have := HN.out; omega)
              obtain ⟨kn, hkn⟩ : ∃ kn, (L.getD (k + 1) ([], 0)).1 = kn := ⟨_, rfl⟩
              have HC6 : Hid (∀ X, Below w4.heap.size w4 X → X.cell? ⟨g, (k + 1) * 2, none⟩ = some (sv kn)) := fun X hb => by
                have := HCT'.out X hb (k + 1) hk1
                rwa [hkn] at this
              rw [hdt, hkn] at HNQ
              have q1 : ((k + 1 : Nat) : Int) < (N : Int) := by omega
              have q2 : (k : Int) + 1 < (N : Int) := by omega
              have q3 : (0 : Int) ≤ ((k + 1 : Nat) : Int) := by omega
              have q4 : ((⟨kn.toArray⟩ : ByteArray).toList == (⟨kn.toArray⟩ : ByteArray).toList) = true := beq_self_eq_true _
              clear hdt hkn hk1
              go_wp2_with (go_at_call 25; refine HNQ.out.mono ?_; rintro e w8 ⟨rfl, hb8⟩; have B8 := Lib.hid (HBJ.out.trans (hb8.mono HBJ.out.size)); have c8 := HC6.out _ B8.out; clear hb8)
              go_roundw
              case rel => exact ⟨k + 1, by omega, rfl, B8.out⟩
              case measure => simp [intOf]; omega
            · have hdt : decide (k + 1 < L.length) = false := decide_eq_false (by have := HN.out; omega)
              rw [hdt] at HNQ
              generalize (L.getD (k + 1) ([], 0)).1 = kn at HNQ
              have q1 : ¬ ((k + 1 : Nat) : Int) < (N : Int) := by omega
              have q2 : ¬ (k : Int) + 1 < (N : Int) := by omega
              have q3 : (0 : Int) ≤ ((k + 1 : Nat) : Int) := by omega
              clear hdt
              go_wp2_with (go_at_call 25; refine HNQ.out.mono ?_; rintro e w8 ⟨rfl, hb8⟩; have B8 := Lib.hid (HBJ.out.trans (hb8.mono HBJ.out.size)); clear hb8)
              go_roundw
              case rel => exact ⟨k + 1, by omega, rfl, B8.out⟩
              case measure => simp [intOf]; omega
    · obtain rfl : N = k := by omega
      have hneg : ¬ ((N : Int) < (N : Int)) := by omega
      have HB4 := HB
      have hz0 : Below w4.heap.size w4 wr := HB.out
      obtain ⟨wq, hwq⟩ : ∃ x, x = wr := ⟨_, rfl⟩
      subst hwq
      clear HB
      go_wp2
      go_loopw [13] (fun i wz => ∃ j : Nat, j ≤ nl ∧ i = .int .i64 j ∧ Hid (Below w4.heap.size w4 wz)) (fun i _ => nl - (intOf i).toNat)
      case atStart => exact ⟨0, Nat.zero_le _, rfl, HB4.out⟩
      case round =>
        obtain ⟨j, hj, rfl, HB⟩ := hrel
        rcases Nat.lt_or_ge j nl with hjt | hjge
        · have hbw := HW4.out.trans (HB.out.mono HW4.out.size)
          obtain ⟨g0, o0, rfl, cj⟩ := HCL.out _ hbw j hjt
          have hjl : j < ls.length := by have := HLS.out; omega
          have hg := HO.out.get j hjl _ (HB3.out.trans (HB.out.mono HB3.out.size))
          have hyl := HSH.out j hjt
          have hcj : ∀ X, Below w4.heap.size w4 X → X.cell? ⟨g0, o0 + j, none⟩ = some (sv (ls.getD j [])) := fun X hb => by
            obtain ⟨g', o', e, h⟩ := HCL.out X (HW4.out.trans (hb.mono HW4.out.size)) j hjt
            injection e with e; injection e with e e2; subst e e2; exact h
          obtain ⟨y, hy⟩ : ∃ y, ls.getD j [] = y := ⟨_, rfl⟩
          rw [hy] at cj hg hyl hcj
          have HG1 := Lib.hid hg
          have HCJ := Lib.hid hcj
          have HIS : Hid (∀ X, Calls Try.prog 27 #[.string ⟨y.toArray⟩] X fun e w' => e = .returned (.bool (isN y)) ∧ Below X.heap.size X w') := fun X => by
            have := refIs_any ⟨y.toArray⟩ X (by rw [arr_size]; omega)
            rwa [arr_list] at this
          have j0 : (0 : Int) ≤ (j : Int) := by omega
          have j1 : (j : Int) < (nl : Int) := by omega
          have hwj : IntKind.i64.wrap ((j : Int) + 1) = ((j + 1 : Nat) : Int) := by rw [IntKind.wrap_i64]; omega
          obtain ⟨tt, htt⟩ : ∃ tt, isN y = tt := ⟨_, rfl⟩
          rw [htt] at HG1 HIS
          clear hbw hjl hg hyl hcj hy htt
          cases tt with
          | true =>
            go_wp2_with (first
              | (go_at_call 26; refine HG1.out.mono ?_; rintro e w5 ⟨gv, rfl, hb5⟩; have B5 := Lib.hid (HB.out.trans (hb5.mono HB.out.size)); have c5 := HCJ.out _ B5.out; clear hb5)
              | (go_at_call 27; refine (HIS.out _).mono ?_; rintro e w6 ⟨rfl, hb6⟩; have B6 := Lib.hid (B5.out.trans (hb6.mono B5.out.size)); clear hb6))
            go_roundw
            case rel => exact ⟨j + 1, by omega, rfl, B6.out⟩
            case measure => simp [intOf]; omega
          | false =>
            go_wp2_with (first
              | (go_at_call 26; refine HG1.out.mono ?_; rintro e w5 ⟨gv, rfl, hb5⟩; have B5 := Lib.hid (HB.out.trans (hb5.mono HB.out.size)); have c5 := HCJ.out _ B5.out; clear hb5)
              | (go_at_call 27; refine (HIS.out _).mono ?_; rintro e w6 ⟨rfl, hb6⟩; have B6 := Lib.hid (B5.out.trans (hb6.mono B5.out.size)); clear hb6))
            go_roundw
            case rel => exact ⟨j + 1, by omega, rfl, B6.out⟩
            case measure => simp [intOf]; omega
        · obtain rfl : nl = j := by omega
          have hnj : ¬ ((nl : Int) < (nl : Int)) := by omega
          have HBEL := Lib.hid (HO.out.bel _ (HB3.out.trans (HB.out.mono HB3.out.size)))
          have hfit : at_ + bl ≤ N := by have := HN.out; have := HO.out.fit; omega
          obtain ⟨P, hP⟩ : ∃ P, (L.drop at_).take bl = P := ⟨_, rfl⟩
          have HPL : Hid (P.length = bl) := by have := HN.out; rw [Hid, ← hP]; simp; omega
          rw [hP] at HBEL
          have HP := Lib.hid hP
          have HNON : Hid (bl = 0 → at_ = N) := fun h => by have := HO.out.non h; rw [this, HN.out]
          have HUN : Hid (∀ i, i < N → ∀ X, Calls Try.prog 28 #[.string ⟨(L.getD i ([], 0)).1.toArray⟩, .string s] X fun e w' => e = .returned (.bool (decide (at_ ≤ i ∧ i < at_ + bl))) ∧ Below X.heap.size X w') := fun i hi => HO.out.und i (by have := HN.out; omega)
          clear hP
          go_wp2_with (go_at_call 18; refine HBEL.out.mono ?_; rintro e w5 ⟨vp, rfl, hr5, hb5⟩; have HB5 := Lib.hid (HB.out.trans (hb5.mono HB.out.size)); have HR5 := Lib.hid hr5; obtain ⟨A5, c5, hv5, _⟩ := ownK_form hr5; rw [HPL.out] at hv5; subst hv5; clear hb5 hr5 HBEL)
          go_loopw [17] (fun i wz => ∃ j : Nat, j ≤ at_ ∧ i = .int .i64 j ∧ Hid (Below w5.heap.size w5 wz)) (fun i _ => at_ + 1 - (intOf i).toNat)
          case atStart => exact ⟨0, Nat.zero_le _, rfl, Below.refl _ _⟩
          case round =>
            obtain ⟨j, hj, rfl, HB6⟩ := hrel
            have B6 := Lib.hid (HB5.out.trans (HB6.out.mono HB5.out.size))
            rcases Nat.lt_or_ge j at_ with hjt | hjge
            · obtain ⟨g, rfl, cj, _⟩ := HCT.out _ B6.out j (by omega)
              have hu := HUN.out j (by omega)
              rw [decide_eq_false (by omega)] at hu
              obtain ⟨y, hy⟩ : ∃ y, (L.getD j ([], 0)).1 = y := ⟨_, rfl⟩
              rw [hy] at cj hu
              have HU := Lib.hid hu
              have j0 : (0 : Int) ≤ (j : Int) := by omega
              have j1 : (j : Int) < (N : Int) := by omega
              have hwj : IntKind.i64.wrap ((j : Int) + 1) = ((j + 1 : Nat) : Int) := by rw [IntKind.wrap_i64]; omega
              clear hu hy
              go_wp2_with (go_at_call 28; refine (HU.out _).mono ?_; rintro e w7 ⟨rfl, hb7⟩; have B7 := Lib.hid (HB6.out.trans (hb7.mono HB6.out.size)); clear hb7)
              go_roundw
              case rel => exact ⟨j + 1, by omega, rfl, B7.out⟩
              case measure => simp [intOf]; omega
            · obtain rfl : at_ = j := by omega
              rcases Nat.eq_zero_or_pos bl with hb0 | hb0
              · have hat := HNON.out hb0
                have hnn : ¬ ((at_ : Int) < (N : Int)) := by omega
                have HSM : Hid (∀ X (A A' : Option Addr) (c c' : Nat), Calls Try.prog 17 #[.slice A 0 c, .slice A' 0 c'] X fun e w' => e = .returned (.bool true) ∧ Below X.heap.size X w') := fun X A A' c c' => by
                  have := Same_any (w := X) (prd_nil A c) (prd_nil A' c') (by simp)
                  rwa [decide_eq_true rfl] at this
                subst hb0
                obtain rfl : N = at_ := hat.symm
                have q3 : (N : Int) ≤ (c3 : Int) := by have := HC3.out; omega
                go_wp2_with (go_at_call 17; refine (HSM.out _ _ _ _ _).mono ?_; rintro e w8 ⟨rfl, hb8⟩; have B8 := Lib.hid (B6.out.trans (hb8.mono B6.out.size)); clear hb8)
                · go_loopw [18] (fun i wz => ∃ j : Nat, j ≤ N ∧ i = .int .i64 j ∧ Hid (Below w4.heap.size w4 wz)) (fun i _ => N - (intOf i).toNat)
                  case atStart => exact ⟨0, Nat.zero_le _, rfl, B8.out⟩
                  case round =>
                    obtain ⟨j, hj, rfl, HB9⟩ := hrel
                    rcases Nat.lt_or_ge j N with hjt | hjge
                    · obtain ⟨g, rfl, cj, _⟩ := HCT.out _ HB9.out j hjt
                      have hu := HUN.out j hjt
                      obtain ⟨y, hy⟩ : ∃ y, (L.getD j ([], 0)).1 = y := ⟨_, rfl⟩
                      rw [hy] at cj hu
                      have j0 : (0 : Int) ≤ (j : Int) := by omega
                      have j1 : (j : Int) < (N : Int) := by omega
                      have hwj5 : IntKind.i64.wrap ((j : Int) + 1) = ((j + 1 : Nat) : Int) := by rw [IntKind.wrap_i64]; omega
                      rw [decide_eq_false (by omega)] at hu
                      have HU := Lib.hid hu
                      have k1 : ¬ (N : Int) ≤ (j : Int) := by omega
                      clear hy hu
                      go_wp2_with (go_at_call 28; refine (HU.out _).mono ?_; rintro e w9 ⟨rfl, hb9⟩; have B9 := Lib.hid (HB9.out.trans (hb9.mono HB9.out.size)); clear hb9)
                      go_roundw
                      case rel => exact ⟨j + 1, by omega, rfl, B9.out⟩
                      case measure => simp [intOf]; omega
                    · obtain rfl : N = j := by omega
                      have hnj5 : ¬ ((N : Int) < (N : Int)) := by omega
                      go_wp2_with (go_at_call 29; refine (grows_any _).mono ?_; rintro e w9 ⟨rfl, hb9⟩; have B9 := Lib.hid (HB9.out.trans (hb9.mono HB9.out.size)); clear hb9)
                      go_ret
                      exact ⟨rfl, HW4.out.trans (B9.out.mono HW4.out.size)⟩
                · generalize Option.map (fun x : Addr => x.add (N * 2)) A3 = AA
                  go_loopw [18] (fun i wz => ∃ j : Nat, j ≤ N ∧ i = .int .i64 j ∧ Hid (Below w4.heap.size w4 wz)) (fun i _ => N - (intOf i).toNat)
                  case atStart => exact ⟨0, Nat.zero_le _, rfl, B8.out⟩
                  case round =>
                    obtain ⟨j, hj, rfl, HB9⟩ := hrel
                    rcases Nat.lt_or_ge j N with hjt | hjge
                    · obtain ⟨g, rfl, cj, _⟩ := HCT.out _ HB9.out j hjt
                      have hu := HUN.out j hjt
                      obtain ⟨y, hy⟩ : ∃ y, (L.getD j ([], 0)).1 = y := ⟨_, rfl⟩
                      rw [hy] at cj hu
                      have j0 : (0 : Int) ≤ (j : Int) := by omega
                      have j1 : (j : Int) < (N : Int) := by omega
                      have hwj5 : IntKind.i64.wrap ((j : Int) + 1) = ((j + 1 : Nat) : Int) := by rw [IntKind.wrap_i64]; omega
                      rw [decide_eq_false (by omega)] at hu
                      have HU := Lib.hid hu
                      have k1 : ¬ (N : Int) ≤ (j : Int) := by omega
                      clear hy hu
                      go_wp2_with (go_at_call 28; refine (HU.out _).mono ?_; rintro e w9 ⟨rfl, hb9⟩; have B9 := Lib.hid (HB9.out.trans (hb9.mono HB9.out.size)); clear hb9)
                      go_roundw
                      case rel => exact ⟨j + 1, by omega, rfl, B9.out⟩
                      case measure => simp [intOf]; omega
                    · obtain rfl : N = j := by omega
                      have hnj5 : ¬ ((N : Int) < (N : Int)) := by omega
                      go_wp2_with (go_at_call 29; refine (grows_any _).mono ?_; rintro e w9 ⟨rfl, hb9⟩; have B9 := Lib.hid (HB9.out.trans (hb9.mono HB9.out.size)); clear hb9)
                      go_ret
                      exact ⟨rfl, HW4.out.trans (B9.out.mono HW4.out.size)⟩
              · obtain ⟨g, rfl, cj, _⟩ := HCT.out _ B6.out at_ (by omega)
                have hu := HUN.out at_ (by omega)
                rw [decide_eq_true (by omega)] at hu
                obtain ⟨y, hy⟩ : ∃ y, (L.getD at_ ([], 0)).1 = y := ⟨_, rfl⟩
                rw [hy] at cj hu
                have HU := Lib.hid hu
                have j0 : (0 : Int) ≤ (at_ : Int) := by omega
                have j1 : (at_ : Int) < (N : Int) := by omega
                clear hu hy
                go_wp2_with (go_at_call 28; refine (HU.out _).mono ?_; rintro e w7 ⟨rfl, hb7⟩; have B7 := Lib.hid (B6.out.trans (hb7.mono B6.out.size)))
                have HSM : Hid (∀ X, Below w5.heap.size w5 X → Calls Try.prog 17 #[.slice A5 bl c5, .slice (some ⟨g, at_ * 2, none⟩) bl (c3 - at_)] X fun e w' => e = .returned (.bool true) ∧ Below X.heap.size X w') := fun X hb => by
                  have h1 := (PRow.rd HR5.out).below hb (Nat.le_refl _)
                  have h2 := prd_sub (c := c3 - at_) (bl := bl) (at_ := at_) (PRow.rd HR3.out) (by have := HN.out; omega)
                  rw [HP.out] at h2
                  have := Same_any h1 (h2.below (HB5.out.trans (hb.mono HB5.out.size)) (Nat.le_refl _)) (by have := HPL.out; omega)
                  rwa [decide_eq_true rfl] at this
                have hwj : IntKind.i64.wrap ((at_ : Int) + (bl : Int)) = (at_ : Int) + (bl : Int) := by rw [IntKind.wrap_i64]; omega
                have q1 : (at_ : Int) ≤ (at_ : Int) + (bl : Int) := by omega
                have q3 : (at_ : Int) + (bl : Int) ≤ (c3 : Int) := by have := HC3.out; omega
                have q4 : ¬ (N : Int) < (at_ : Int) + (bl : Int) := by omega
                have q5 : (0 : Int) ≤ (at_ : Int) + (bl : Int) := by omega
                have q6 : ((at_ : Int) + (bl : Int)).toNat = at_ + bl := by omega
                have q7 : ¬ c3 = at_ := by have := HC3.out; omega
                have q8 : at_ + bl - at_ = bl := by omega
                have q9 : at_ ≤ at_ + bl := by omega
                have HB7 := Lib.hid (HB6.out.trans (hb7.mono HB6.out.size))
                clear hb7
                go_wp2_with (go_at_call 17; refine (HSM.out _ HB7.out).mono ?_; rintro e w8 ⟨rfl, hb8⟩; have B8 := Lib.hid (B7.out.trans (hb8.mono B7.out.size)); clear hb8)
                · go_loopw [18] (fun i wz => ∃ j : Nat, j ≤ N ∧ i = .int .i64 j ∧ Hid (Below w4.heap.size w4 wz)) (fun i _ => N - (intOf i).toNat)
                  case atStart => exact ⟨0, Nat.zero_le _, rfl, B8.out⟩
                  case round =>
                    obtain ⟨j, hj, rfl, HB9⟩ := hrel
                    rcases Nat.lt_or_ge j N with hjt | hjge
                    · obtain ⟨g', e', cj, _⟩ := HCT.out _ HB9.out j hjt
                      injection e' with e'; injection e' with e'; subst e'
                      have hu := HUN.out j hjt
                      obtain ⟨y, hy⟩ : ∃ y, (L.getD j ([], 0)).1 = y := ⟨_, rfl⟩
                      rw [hy] at cj hu
                      have j0 : (0 : Int) ≤ (j : Int) := by omega
                      have j1 : (j : Int) < (N : Int) := by omega
                      have hwj5 : IntKind.i64.wrap ((j : Int) + 1) = ((j + 1 : Nat) : Int) := by rw [IntKind.wrap_i64]; omega
                      clear hy
                      rcases Nat.lt_or_ge j at_ with ha | ha
                      · rw [decide_eq_false (by omega)] at hu
                        have HU := Lib.hid hu
                        have k1 : ¬ (at_ : Int) ≤ (j : Int) := by omega
                        clear hu
                        go_wp2_with (go_at_call 28; refine (HU.out _).mono ?_; rintro e w9 ⟨rfl, hb9⟩; have B9 := Lib.hid (HB9.out.trans (hb9.mono HB9.out.size)); clear hb9)
                        go_roundw
                        case rel => exact ⟨j + 1, by omega, rfl, B9.out⟩
                        case measure => simp [intOf]; omega
                      · have k1 : (at_ : Int) ≤ (j : Int) := by omega
                        rcases Nat.lt_or_ge j (at_ + bl) with hb | hb
                        · rw [decide_eq_true (by omega)] at hu
                          have HU := Lib.hid hu
                          have k2 : (j : Int) < (at_ : Int) + (bl : Int) := by omega
                          clear hu
                          go_wp2_with (go_at_call 28; refine (HU.out _).mono ?_; rintro e w9 ⟨rfl, hb9⟩; have B9 := Lib.hid (HB9.out.trans (hb9.mono HB9.out.size)); clear hb9)
                          go_roundw
                          case rel => exact ⟨j + 1, by omega, rfl, B9.out⟩
                          case measure => simp [intOf]; omega
                        · rw [decide_eq_false (by omega)] at hu
                          have HU := Lib.hid hu
                          have k2 : ¬ (j : Int) < (at_ : Int) + (bl : Int) := by omega
                          clear hu
                          go_wp2_with (go_at_call 28; refine (HU.out _).mono ?_; rintro e w9 ⟨rfl, hb9⟩; have B9 := Lib.hid (HB9.out.trans (hb9.mono HB9.out.size)); clear hb9)
                          go_roundw
                          case rel => exact ⟨j + 1, by omega, rfl, B9.out⟩
                          case measure => simp [intOf]; omega
                    · obtain rfl : N = j := by omega
                      have hnj5 : ¬ ((N : Int) < (N : Int)) := by omega
                      go_wp2_with (go_at_call 29; refine (grows_any _).mono ?_; rintro e w9 ⟨rfl, hb9⟩; have B9 := Lib.hid (HB9.out.trans (hb9.mono HB9.out.size)); clear hb9)
                      go_ret
                      exact ⟨rfl, HW4.out.trans (B9.out.mono HW4.out.size)⟩
                · exfalso; rename_i hbad; exact hbad ⟨by omega, by have := HC3.out; omega⟩
set_option maxRecDepth 100000 in
theorem order_big {w : World} {A : Option Addr} {nl c : Nat} (s : ByteArray) (b : Bool) (hh : Calls Try.prog 21 #[.slice A nl c] w fun e w' => e = .returned (.bool b) ∧ w' = w) (hb : b = false → 2000 < s.size) :
    Calls Try.prog 4 #[.slice A nl c, .string s] w fun e w' => e = .returned (.bool true) ∧ Below w.heap.size w w' := by
  have HH := Lib.hid hh
  clear hh
  cases b with
  | true =>
    clear hb
    go_enter Try.func4, Try.ntmps4
    go_wp2_with (go_at_call 21; refine HH.out.mono ?_; rintro e w1 ⟨rfl, rfl⟩)
    go_ret
    exact ⟨rfl, Below.refl _ _⟩
  | false =>
    have hs' : (2000 : Int) < (s.size : Int) := by have := hb rfl; omega
    clear hb
    go_enter Try.func4, Try.ntmps4
    go_wp2_with (go_at_call 21; refine HH.out.mono ?_; rintro e w1 ⟨rfl, rfl⟩)
    go_ret
    exact ⟨rfl, Below.refl _ _⟩
theorem walk_TreeOrder (w : World) (A : Option Addr) (ls : List (List UInt8)) (c : Nat) (hc : ls.length ≤ c) (_ : A = none → c = 0) (hr : Ss w w.heap.size A ls) (_ : c * 16 ≤ 140737488351232 ∧ ∀ l ∈ ls, l.length ≤ 140737488351232) (s : ByteArray) (_ : s.size ≤ 140737488351232) :
    Calls Try.prog 4 #[.slice A ls.length c, .string s] w fun e w' => e = .returned (.bool true) ∧ Below w.heap.size w w' := by
  have hrd := hr.rd hc
  have hh := heavy_any w rfl hrd
  cases hv : heavyL ls with
  | true =>
    rw [hv] at hh
    exact order_big s true hh (fun h => by cases h)
  | false =>
    rw [hv] at hh
    obtain ⟨h1, h2⟩ := heavy_no hv
    by_cases hs : 2000 < s.size
    · exact order_big s false hh (fun _ => hs)
    · exact order_main s (by omega) hh rfl hrd h1 h2

namespace treeOrder
open Go.ChangeShapes Go.WideShapes Go.ChangeAt
open Go.ChangeMaps (open_string shut_string)
set_option maxRecDepth 100000 in
theorem contract (H : Type) (enc : TypeId × Value → H) (W : World) (base : Nat) (args : Array Value) (ds gs : List (DataW H)) (before : List MemPlace)
    (hval : ∀ (j : Nat) t v, Try.f4.params[j]? = some t → args[j]? = some v → Value.okWide Try.prog W .any base t v)
    (hW : DataW.Whole enc Try.prog Try.f4.params.toList Rows.treeOrderSpec.vars false W args.toList ds gs before)
    (hR : (DataW.weightsEach Try.prog (Try.f4.params.toList ++ (OpenSpec.ofChange Rows.treeOrderSpec).bare.plain.varTypes Try.prog) (ds ++ gs)).all (· ≤ reachBytes) = true) :
    Calls Try.prog 4 args W fun e W' => ∃ v, e = .returned v ∧ Rows.treeOrderSpec.post enc Try.prog Try.f4 false true false false W args v W' := by
  have hW' := hW
  obtain ⟨p, q, hA0, hV, rfl, hfz, hnd⟩ := hW
  have hA : DataW.TrodAll enc Try.prog W 0 (fun _ => true) true Try.f4.params.toList args.toList ds p := hA0
  have HS := trodAll_stays (W' := W) (sp := fun _ => true) out (by kernel_rfl) hA
  have HA := Lib.hid hA
  rw [Try.params4] at hA hval hR
  obtain ⟨v0, vs0, d0, ds0, p0, q0, hargs0, rfl, rfl, h0, r0⟩ := trodAll_cons hA
  obtain ⟨v1, vs1, d1, ds1, p1, q1, hargs1, rfl, rfl, h1, r1⟩ := trodAll_cons r0
  obtain ⟨rfl, rfl, rfl⟩ := trodAll_nil r1
  obtain rfl : args = #[v0, v1] := by cases args; simp_all
  obtain ⟨rfl, rfl⟩ := trodVars_none hV
  obtain ⟨A0, l, c0, rfl, hc0, hn0, hb0, hm0⟩ := open_strs Try.underlying44 Try.underlying28 (by kernel_rfl) (by kernel_rfl) (hval 0 44 v0 rfl rfl) h0
  obtain ⟨s, rfl, rfl, rfl, z1⟩ := open_string Try.underlying28 (hval 1 28 v1 rfl rfl) h1
  clear hA0 HS
  obtain ⟨k0, s0⟩ := reach_cons hR
  obtain ⟨k1, s1⟩ := reach_cons s0
  refine (walk_TreeOrder W A0 l c0 hc0 hn0 hb0 (hm0 k0) s (reach_str k1)).mono fun e W' ⟨he, hb⟩ => ?_
  subst he
  have hlt := hW'.lt
  refine ⟨_, rfl, post_low hW' (pa := _) (pv := []) rfl hb (fun _ _ _ => trodAll_cons_mk (shut_bool Try.underlying4 _) trodAll_mk0) (fun sp hsp => ?_) (fun _ _ => rfl) (ok_one (by kernel_rfl) rfl (okWide_bool_mk Try.underlying4 _))⟩
  exact trodAll_stays out (by kernel_rfl) HA.out (fun x hx => hb.same (hlt x (List.mem_append_left _ hx))) (fun x hx => hsp x (List.mem_append_left _ hx))

noncomputable def wargs : Array Value := #[.slice none 0 0, .string ByteArray.empty]
noncomputable def lw (os : Os) : World := World.settled Try.prog os
theorem reads (os : Os) {H : Type} (enc : TypeId × Value → H) : ∃ places, DataW.whole enc Try.prog ((lw os).forCall (fun _ _ => 0) ⟨#[], wargs, []⟩).memory Try.f4.params.toList Rows.treeOrderSpec.vars false wargs.toList 8 = some ([.nil, .lit (.string [])], [], places) :=
  ⟨[], by kernel_rfl⟩
set_option maxRecDepth 100000 in
theorem lifted (os : Os) (started : os.Started) (H : Type) (enc : TypeId × Value → H) (G : Stop.Interp) :
    ReturnsInHanded {} Try.checked os 4 .any ((OpenSpec.ofChange Rows.treeOrderSpec).preRow enc Try.prog Try.f4 Rows.treeOrderRow.domain false Rows.treeOrderRow.laid) (((OpenSpec.ofChange Rows.treeOrderSpec).at G).post enc Try.prog Try.f4 false true false false) := by
  obtain ⟨places, hx⟩ := reads os enc
  refine returnsInHanded_of_row (C := Try.checked) (s := OpenSpec.ofChange Rows.treeOrderSpec) own started (by kernel_rfl) Try.func4
    (witness_row_atRef (enc := enc) (C := Try.checked) false (lw os) wargs rfl (by kernel_rfl) (by kernel_rfl) (by kernel_rfl)
      (OpenSpec.preRow_of_cond 8 hx (by kernel_rfl) (fun k hk => by cases hk) (by kernel_rfl) (laidMetH_nil _ _))) ?_
  intro W base args ds gs before hval hW _ _ hR _ _ _
  exact contract H enc W base args ds gs before hval hW hR
/-- THE STATEMENT. -/
theorem said : Rows.TreeOrderSaid :=
  OpenClaim.holds_of_cond 4 Try.f4 rfl rfl rfl rfl rfl rfl rfl ⟨rfl, rfl, rfl, rfl, rfl⟩ rfl rfl rfl rfl rfl (by kernel_rfl) Try.func4 (by kernel_rfl)
    (of_decide_eq_true (by kernel_rfl)) (by unfold Func.isWrapper; first | (rw [if_pos (by decide +kernel)]; kernel_rfl) | (rw [if_neg (by decide +kernel)]; exact ⟨rfl, rfl⟩))
    (fun os started H enc _ G => by rw [OpenClaim.pre_eq_preRow]; exact lifted os started H enc G)
end treeOrder
end Go.Proofs.Ytpnfkgjcnofjnaa
