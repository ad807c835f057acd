/- Texts of the proofs, merged. -/
import Derived.Test.YtpnfkgjcnofjnaaMgPa
import Derived.Deep.CutRange
/- The document's lists: Exists, Next, Encloser. -/
namespace Go.Proofs.Ytpnfkgjcnofjnaa.Ti
open Go.RowKit Go.Shelf Tr

set_option maxRecDepth 100000 in
theorem refExists_any {w : World} {base : Nat} {v : Value} {M : List KV} (h : PRow w base v M) (hm : Sml M) (s : ByteArray) (hs : s.size ≤ 100000) :
    Calls Try.prog 52 #[v, .string s] w fun e w' => e = .returned (.bool (decide (0 < (M.filter fun x => Nm.underB x.1 s.data.toList).length))) ∧ Below w.heap.size w w' := by
  have HB := Lib.hid (refBelow_any h hm s hs)
  generalize (M.filter fun x => Nm.underB x.1 s.data.toList) = L at *
  clear h
  obtain ⟨n, hn⟩ : ∃ n, L.length = n := ⟨_, rfl⟩
  have HN := Lib.hid hn
  rw [hn]
  clear hn
  rcases Nat.eq_zero_or_pos n with h0 | h0
  · subst h0
    go_enter Try.func52, Try.ntmps52
    go_wp2_with (go_at_call 19; refine HB.out.mono ?_; rintro e w1 ⟨v', rfl, hr, hb1⟩; have B1 := Lib.hid hb1; obtain ⟨A2, c2, hv2, _⟩ := ownK_form hr; rw [HN.out] at hv2; subst hv2; clear hb1 hr)
    go_ret
    exact ⟨rfl, B1.out⟩
  · rw [decide_eq_true h0]
    have h1 : (0 : Int) < (n : Int) := by omega
    go_enter Try.func52, Try.ntmps52
    go_wp2_with (go_at_call 19; refine HB.out.mono ?_; rintro e w1 ⟨v', rfl, hr, hb1⟩; have B1 := Lib.hid hb1; obtain ⟨A2, c2, hv2, _⟩ := ownK_form hr; rw [HN.out] at hv2; subst hv2; clear hb1 hr)
    go_ret
    exact ⟨rfl, B1.out⟩
set_option maxRecDepth 100000 in
theorem refNext_any {w : World} {base : Nat} {v : Value} {M : List KV} (h : PRow w base v M) (hm : Sml M) (s : ByteArray) (hs : s.size ≤ 100000) :
    Calls Try.prog 50 #[v, .string s] w fun e w' => e = .returned (optB (nextM M s.data.toList)) ∧ Below w.heap.size w w' := by
  obtain ⟨A, c, hv, hc⟩ := ownK_form h
  subst hv
  have HW := Lib.hid h
  obtain ⟨N, hN⟩ : ∃ N, M.length = N := ⟨_, rfl⟩
  have HN := Lib.hid hN
  have HI : Hid (∀ X, Calls Try.prog 27 #[.string s] X fun e w' => e = .returned (.bool (isN s.data.toList)) ∧ Below X.heap.size X w') := fun X => refIs_any s X (by omega)
  have HAT : Hid (∀ j, j < N → ∃ g, A = some ⟨g, 0, none⟩ ∧ ∀ X, Below w.heap.size w X → X.cell? ⟨g, j * 2, none⟩ = some (sv (M.getD j ([], 0)).1) ∧ X.cell? ⟨g, j * 2 + 1, none⟩ = some (tz (M.getD j ([], 0)).2)) := fun j hj => by
    obtain ⟨g, cp, e, _, hx⟩ := prow_at HW.out (j := j) (by omega)
    injection e with e _ _
    exact ⟨g, e, hx⟩
  have HCM : Hid (∀ j X, Calls Try.prog 24 #[.string ⟨(M.getD j ([], 0)).1.toArray⟩, .string s] X fun e w' => e = .returned (.int .i64 (Nm.cmpN (M.getD j ([], 0)).1 s.data.toList)) ∧ Below X.heap.size X w') := fun j X => by
    have := refCmp_any ⟨(M.getD j ([], 0)).1.toArray⟩ s X (by rw [arr_size]; have := hm.short j; omega) (by omega)
    rwa [arr_list] at this
  have hfew := hm.few
  rw [hN] at hfew hc ⊢
  unfold nextM
  cases hn : isN s.data.toList with
  | false =>
    rw [hn] at HI
    clear h hm hN HW hn HAT HCM
    rcases Nat.eq_zero_or_pos N with h0 | h0
    · subst h0
      clear HN
      go_enter Try.func50, Try.ntmps50
      go_wp2
      go_loopw [6] (fun i wz => i = .int .i64 0 ∧ Hid (Below w.heap.size w wz)) (fun i _ => 0)
      case atStart => exact ⟨rfl, Below.refl _ _⟩
      case round =>
        obtain ⟨rfl, HB⟩ := hrel
        go_wp2
        go_ret2
        exact ⟨rfl, HB.out⟩
    · have h1 : (0 : Int) < (N : Int) := by omega
      clear HN
      go_enter Try.func50, Try.ntmps50
      go_wp2
      go_loopw [6] (fun i wz => i = .int .i64 0 ∧ Hid (Below w.heap.size w wz)) (fun i _ => 0)
      case atStart => exact ⟨rfl, Below.refl _ _⟩
      case round =>
        obtain ⟨rfl, HB⟩ := hrel
        go_wp2_with (go_at_call 27; refine (HI.out _).mono ?_; rintro e w3 ⟨rfl, hb3⟩; have B3 := Lib.hid (HB.out.trans (hb3.mono HB.out.size)); clear hb3)
        go_ret2
        exact ⟨rfl, B3.out⟩
  | true =>
    rw [hn] at HI
    rw [if_pos rfl]
    have hp : ∃ p : Nat, p ≤ N ∧ (∀ j, j < p → ¬ 0 < Nm.cmpN (M.getD j ([], 0)).1 s.data.toList) ∧ (p < N → 0 < Nm.cmpN (M.getD p ([], 0)).1 s.data.toList) ∧ (M.find? fun x => decide (0 < Nm.cmpN x.1 s.data.toList)) = if p < N then some (M.getD p ([], 0)) else none := by
      cases hf : M.find? fun x => decide (0 < Nm.cmpN x.1 s.data.toList) with
      | none =>
        rw [List.find?_eq_none] at hf
        refine ⟨N, Nat.le_refl _, fun j hj => ?_, fun h => absurd h (Nat.lt_irrefl _), by rw [if_neg (Nat.lt_irrefl _)]⟩
        rw [Ti.getD_in (by omega)]
        have := hf _ (List.getElem_mem (show j < M.length by omega))
        simpa using this
      | some x =>
        rw [List.find?_eq_some_iff_getElem] at hf
        obtain ⟨hx, p, hp, e, hlt⟩ := hf
        refine ⟨p, by omega, fun j hj => ?_, fun _ => ?_, ?_⟩
        · rw [Ti.getD_in (by omega)]
          have := hlt j hj
          simpa using this
        · rw [Ti.getD_in hp, e]; simpa using hx
        · rw [if_pos (by omega), Ti.getD_in hp, e]
    obtain ⟨p, hpN, hlo, hat, hfi⟩ := hp
    rw [hfi]
    obtain ⟨res, hres⟩ : ∃ res, optB (Option.map (fun x : KV => x.1) (if p < N then some (M.getD p ([], 0)) else none)) = res := ⟨_, rfl⟩
    rw [hres]
    have HRES := Lib.hid hres
    clear hres
    have HLO := Lib.hid hlo
    have HPA := Lib.hid hat
    have HAT2 : Hid (∀ j X, Below w.heap.size w X → j < N → ∃ g, A = some ⟨g, 0, none⟩ ∧ X.cell? ⟨g, j * 2, none⟩ = some (sv (M.getD j ([], 0)).1)) := fun j X hb hj => by
      obtain ⟨g, e, hx⟩ := HAT.out j hj
      exact ⟨g, e, (hx X hb).1⟩
    clear h hm hN HW hn hlo hat hfi HAT
    go_enter Try.func50, Try.ntmps50
    go_wp2
    go_loopw [6] (fun i wz => ∃ j : Nat, j ≤ p ∧ i = .int .i64 j ∧ Hid (Below w.heap.size w wz)) (fun i _ => p + 1 - (intOf i).toNat)
    case atStart => exact ⟨0, Nat.zero_le _, rfl, Below.refl _ _⟩
    case round =>
      obtain ⟨j, hj, rfl, HB⟩ := hrel
      rcases Nat.lt_or_ge j N with hjN | hjN
      · obtain ⟨g, rfl, cj⟩ := HAT2.out j _ HB.out hjN
        have HC : Hid (∀ X, Below w.heap.size w X → X.cell? ⟨g, j * 2, none⟩ = some (sv (M.getD j ([], 0)).1)) := fun X hb => by
          obtain ⟨g', e, h⟩ := HAT2.out j X hb hjN
          injection e with e; injection e with e; subst e; exact h
        have hcm := HCM.out j
        have hlo := HLO.out j
        have hpa := fun e : j = p => HPA.out (e ▸ hjN)
        obtain ⟨y, hy⟩ : ∃ y, (M.getD j ([], 0)).1 = y := ⟨_, rfl⟩
        rw [hy] at cj hcm hlo HC
        obtain ⟨z, hz⟩ : ∃ z, Nm.cmpN y s.data.toList = z := ⟨_, rfl⟩
        rw [hz] at hcm hlo
        have HM := Lib.hid hcm
        have j0 : (0 : Int) ≤ (j : Int) := by omega
        have j1 : (j : Int) < (N : Int) := by omega
        rcases Nat.lt_or_ge j p with hjp | hjp
        · have hz0 : ¬ 0 < z := by have := HLO.out j hjp; rw [hy, hz] at this; omega
          have hwj : IntKind.i64.wrap ((j : Int) + 1) = ((j + 1 : Nat) : Int) := by rw [IntKind.wrap_i64]; omega
          clear hcm hlo hpa hy hz
          go_wp2_with (first
            | (go_at_call 27; refine (HI.out _).mono ?_; rintro e w3 ⟨rfl, hb3⟩; have B3 := Lib.hid (HB.out.trans (hb3.mono HB.out.size)); have c3 := HC.out _ B3.out; clear hb3)
            | (go_at_call 24; refine (HM.out _).mono ?_; rintro e w4 ⟨rfl, hb4⟩; have B4 := Lib.hid (B3.out.trans (hb4.mono B3.out.size)); clear hb4))
          go_roundw
          case rel => exact ⟨j + 1, by omega, rfl, B4.out⟩
          case measure => simp [intOf]; omega
        · obtain rfl : p = j := by omega
          have hz0 : 0 < z := by have := HPA.out hjN; rwa [hy, hz] at this
          have HJN := Lib.hid hjN
          have HY := Lib.hid hy
          clear hcm hlo hpa hy hz
          go_wp2_with (first
            | (go_at_call 27; refine (HI.out _).mono ?_; rintro e w3 ⟨rfl, hb3⟩; have B3 := Lib.hid (HB.out.trans (hb3.mono HB.out.size)); have c3 := HC.out _ B3.out; clear hb3)
            | (go_at_call 24; refine (HM.out _).mono ?_; rintro e w4 ⟨rfl, hb4⟩; have B4 := Lib.hid (B3.out.trans (hb4.mono B3.out.size)); have c4 := HC.out _ B4.out; clear hb4))
          go_ret2
          refine ⟨?_, B4.out⟩
          rw [← HRES.out, if_pos HJN.out]
          simp only [optB, Option.map_some, Option.getD_some, Option.isSome_some, HY.out]
          rfl
      · have hjn : ¬ (j : Int) < (N : Int) := by omega
        have hpn : ¬ p < N := by omega
        have HPN := Lib.hid hpn
        clear hpn
        go_wp2
        go_ret2
        exact ⟨by rw [← HRES.out, if_neg HPN.out]; rfl, HB.out⟩
theorem enc_ex {n : No TV} (hok : ok n) {s : By} {a : Nat} (ha : a ≤ (pth s).length) (hne : (nents n).isEmpty = false) : exE ((pth s).take a) (nents n) = decide (a ≤ dep (pth s) n) := by
  refine ex_take hok ?_ ha
  cases hb : bare n with
  | false => rfl
  | true => rw [(nents_nil hok).2 hb] at hne; cases hne
theorem pth_kn {s : By} (hs : isN s = true) (a : Nat) : isN (kn (pth s) a) = true ∧ pth (kn (pth s) a) = (pth s).take a := by
  obtain ⟨h1, h2, _⟩ := up_name hs a
  exact ⟨h1, h2⟩
theorem key_short2 {s : By} (h : isN s = true) : (Nm.fold s).length ≤ 255 := by
  obtain ⟨x, hx⟩ := isN_some h
  rw [Nm.fold_length]
  exact (Nm.split_some.1 hx).2.2
theorem kn_short2 {s : By} (h : isN s = true) {a : Nat} (ha : a ≤ (pth s).length) : (kn (pth s) a).length ≤ 255 := by
  have h1 := key_short2 h
  rw [← kn_all h] at h1
  rcases Nat.lt_or_ge a (pth s).length with h2 | h2
  · have := kn_mono h2 (Nat.le_refl _); omega
  · rw [show a = (pth s).length by omega]; exact h1
theorem kvs_small {E : List (En TV)} (hk : KeyOk E) (hl : E.length ≤ 1000) : Sml (kvs E) := by
  refine ⟨by rw [kvs_len]; exact hl, fun i => ?_⟩
  rcases Nat.lt_or_ge i (kvs E).length with h | h
  · rw [Ti.getD_in h]
    obtain ⟨e, he, e1⟩ := List.mem_map.1 (List.getElem_mem h)
    obtain ⟨t, ht, h1, _⟩ := hk e he
    rw [← e1]
    show e.k.length ≤ 255
    rw [h1]
    exact key_short2 ht
  · rw [Ti.getD_out h]; simp
set_option maxRecDepth 100000 in
theorem refEncloser_any {w : World} {base : Nat} {v : Value} {n : No TV} (hok : ok n) (hk : KeyOk (nents n)) (hl : (nents n).length ≤ 1000) (h : PRow w base v (kvs (nents n))) (s : ByteArray) (hs : s.size ≤ 100000) :
    Calls Try.prog 51 #[v, .string s] w fun e w' => e = .returned (optB (encR n s.data.toList)) ∧ Below w.heap.size w w' := by
  have hm := kvs_small hk hl
  have HF := Lib.hid (refFold_any s w (by omega))
  have HI : Hid (∀ X, Calls Try.prog 27 #[.string s] X fun e w' => e = .returned (.bool (isN s.data.toList)) ∧ Below X.heap.size X w') := fun X => refIs_any s X (by omega)
  have H := Lib.hid h
  have HM := Lib.hid hm
  cases hn : isN s.data.toList with
  | false =>
    rw [hn] at HI
    have he : encR n s.data.toList = none := by simp [encR, hn]
    rw [he]
    clear he hn h hm hok hk hl
    go_enter Try.func51, Try.ntmps51
    go_wp2_with (first
      | (go_at_call 23; refine HF.out.mono ?_; rintro e w1 ⟨rfl, hb1⟩; have B1 := Lib.hid hb1; clear hb1 HF)
      | (go_at_call 27; refine (HI.out _).mono ?_; rintro e w3 ⟨rfl, hb3⟩; have B3 := Lib.hid (B1.out.trans (hb3.mono B1.out.size)); clear hb3))
    go_loopw [6, 7] (fun x t wz => t = .bool false ∧ Hid (Below w.heap.size w wz)) (fun _ _ _ => 0)
    case atStart => exact ⟨rfl, B3.out⟩
    case round =>
      obtain ⟨rfl, HB⟩ := hrel
      go_wp2
      go_ret2
      exact ⟨rfl, HB.out⟩
  | true =>
    rw [hn] at HI
    rw [← kn_all hn] at HF
    obtain ⟨q, hq⟩ : ∃ q, pth s.data.toList = q := ⟨_, rfl⟩
    obtain ⟨d, hd⟩ : ∃ d, dep q n = d := ⟨_, rfl⟩
    have hdl : d ≤ q.length := by rw [← hd]; exact dep_le _ _
    obtain ⟨emp, hemp⟩ : ∃ emp, (nents n).isEmpty = emp := ⟨_, rfl⟩
    have HEX : Hid (∀ a X, a ≤ q.length → Below w.heap.size w X → Calls Try.prog 52 #[v, .string ⟨(kn q a).toArray⟩] X fun e w' => e = .returned (.bool (!emp && decide (a ≤ d))) ∧ Below X.heap.size X w') := fun a X ha hb => by
      have hsh : (kn (pth s.data.toList) a).length ≤ 255 := kn_short2 hn (by rw [hq]; exact ha)
      have := refExists_any (ownK_below H.out hb (Nat.le_refl _)) HM.out ⟨(kn (pth s.data.toList) a).toArray⟩ (by rw [arr_size]; omega)
      rw [arr_list, ← ex_list hk, (pth_kn hn a).1, (pth_kn hn a).2, Bool.true_and] at this
      have e : exE ((pth s.data.toList).take a) (nents n) = (!emp && decide (a ≤ d)) := by
        cases emp with
        | true => rw [List.isEmpty_iff.1 hemp]; rfl
        | false => rw [enc_ex hok (by rw [hq]; exact ha) hemp, hq, hd]; rfl
      rw [e, hq] at this
      exact this
    have HPA : Hid (∀ a X, a < q.length → Calls Try.prog 32 #[.string ⟨(kn q (a + 1)).toArray⟩] X fun e w' => e = .returned (.tuple #[.string ⟨(kn q a).toArray⟩, .bool true]) ∧ Below X.heap.size X w') := fun a X ha => by
      subst hq
      have hsh : (kn (pth s.data.toList) (a + 1)).length ≤ 255 := kn_short2 hn (by omega)
      have := refParent_any ⟨(kn (pth s.data.toList) (a + 1)).toArray⟩ X (by rw [arr_size]; omega)
      rw [arr_list, kn_parent hn (by omega)] at this
      exact this
    have HP0 : Hid (∀ X, Calls Try.prog 32 #[.string ⟨(kn q 0).toArray⟩] X fun e w' => e = .returned (.tuple #[.string ⟨#[]⟩, .bool false]) ∧ Below X.heap.size X w') := fun X => by
      subst hq
      have hsh : (kn (pth s.data.toList) 0).length ≤ 255 := kn_short2 hn (Nat.zero_le _)
      have := refParent_any ⟨(kn (pth s.data.toList) 0).toArray⟩ X (by rw [arr_size]; omega)
      rw [arr_list, kn_parent hn (Nat.zero_le _)] at this
      exact this
    have HR : Hid (encR n s.data.toList = if emp then none else some (kn q d)) := by
      rw [Hid]
      unfold encR
      rw [hn, hemp, hq, hd]
      cases emp <;> rfl
    rw [hq] at HF
    clear hq hd hn h hm hemp hok hk hl H HM
    cases emp with
    | true =>
      go_enter Try.func51, Try.ntmps51
      go_wp2_with (first
        | (go_at_call 23; refine HF.out.mono ?_; rintro e w1 ⟨rfl, hb1⟩; have B1 := Lib.hid hb1; clear hb1 HF)
        | (go_at_call 27; refine (HI.out _).mono ?_; rintro e w3 ⟨rfl, hb3⟩; have B3 := Lib.hid (B1.out.trans (hb3.mono B1.out.size)); clear hb3))
      go_loopw [6, 7] (fun x t wz => Hid (Below w.heap.size w wz) ∧ ((∃ a, a ≤ q.length ∧ x = sv (kn q a) ∧ t = .bool true) ∨ t = .bool false)) (fun x t _ => match x, t with
        | .string y, .bool true => y.size + 1
        | _, _ => 0)
      case atStart => exact ⟨B3.out, .inl ⟨q.length, Nat.le_refl _, rfl, rfl⟩⟩
      case round =>
        obtain ⟨HB, ⟨a, ha, rfl, rfl⟩ | rfl⟩ := hrel
        · have HE := Lib.hid (HEX.out a _ ha HB.out)
          cases a with
          | zero =>
            go_wp2_with (first
              | (go_at_call 52; refine HE.out.mono ?_; rintro e w4 ⟨rfl, hb4⟩; have B4 := Lib.hid (HB.out.trans (hb4.mono HB.out.size)); clear hb4)
              | (go_at_call 32; refine (HP0.out _).mono ?_; rintro e w5 ⟨rfl, hb5⟩; have B5 := Lib.hid (B4.out.trans (hb5.mono B4.out.size)); clear hb5))
            go_roundw
            case rel => exact ⟨B5.out, .inr rfl⟩
            case measure => simp
          | succ a =>
            have hkl := kn_len (q := q) (a := a) (by omega)
            have HKL := Lib.hid hkl
            have HPP := Lib.hid (fun X => HPA.out a X (by omega))
            obtain ⟨y1, hy1⟩ : ∃ y1, kn q (a + 1) = y1 := ⟨_, rfl⟩
            obtain ⟨y0, hy0⟩ : ∃ y0, kn q a = y0 := ⟨_, rfl⟩
            have HY0 := Lib.hid hy0
            rw [hy1] at HE HKL HPP
            rw [hy0] at HKL HPP
            rw [hy1]
            clear hy1 hy0 hkl
            go_wp2_with (first
              | (go_at_call 52; refine HE.out.mono ?_; rintro e w4 ⟨rfl, hb4⟩; have B4 := Lib.hid (HB.out.trans (hb4.mono HB.out.size)); clear hb4)
              | (go_at_call 32; refine (HPP.out _).mono ?_; rintro e w5 ⟨rfl, hb5⟩; have B5 := Lib.hid (B4.out.trans (hb5.mono B4.out.size)); clear hb5))
            go_roundw
            case rel => exact ⟨B5.out, .inl ⟨a, by omega, by rw [HY0.out], rfl⟩⟩
            case measure => have := HKL.out; simp [arr_size]; omega
        · go_wp2
          go_ret2
          exact ⟨by rw [HR.out]; rfl, HB.out⟩
    | false =>
      go_enter Try.func51, Try.ntmps51
      go_wp2_with (first
        | (go_at_call 23; refine HF.out.mono ?_; rintro e w1 ⟨rfl, hb1⟩; have B1 := Lib.hid hb1; clear hb1 HF)
        | (go_at_call 27; refine (HI.out _).mono ?_; rintro e w3 ⟨rfl, hb3⟩; have B3 := Lib.hid (B1.out.trans (hb3.mono B1.out.size)); clear hb3))
      go_loopw [6, 7] (fun x t wz => Hid (Below w.heap.size w wz) ∧ ∃ a, d ≤ a ∧ a ≤ q.length ∧ x = sv (kn q a) ∧ t = .bool true) (fun x t _ => match x with
        | .string y => y.size
        | _ => 0)
      case atStart => exact ⟨B3.out, q.length, hdl, Nat.le_refl _, rfl, rfl⟩
      case round =>
        obtain ⟨HB, a, hda, ha, rfl, rfl⟩ := hrel
        have HE := Lib.hid (HEX.out a _ ha HB.out)
        rcases Nat.lt_or_ge d a with hlt | hge
        · obtain ⟨b, rfl⟩ : ∃ b, a = b + 1 := ⟨a - 1, by omega⟩
          have hkl := kn_len (q := q) (a := b) (by omega)
          have HKL := Lib.hid hkl
          have HPP := Lib.hid (fun X => HPA.out b X (by omega))
          rw [decide_eq_false (by omega)] at HE
          obtain ⟨y1, hy1⟩ : ∃ y1, kn q (b + 1) = y1 := ⟨_, rfl⟩
          obtain ⟨y0, hy0⟩ : ∃ y0, kn q b = y0 := ⟨_, rfl⟩
          have HY0 := Lib.hid hy0
          rw [hy1] at HE HKL HPP
          rw [hy0] at HKL HPP
          rw [hy1]
          clear hy1 hy0 hkl
          go_wp2_with (first
            | (go_at_call 52; refine HE.out.mono ?_; rintro e w4 ⟨rfl, hb4⟩; have B4 := Lib.hid (HB.out.trans (hb4.mono HB.out.size)); clear hb4)
            | (go_at_call 32; refine (HPP.out _).mono ?_; rintro e w5 ⟨rfl, hb5⟩; have B5 := Lib.hid (B4.out.trans (hb5.mono B4.out.size)); clear hb5))
          go_roundw
          case rel => exact ⟨B5.out, b, by omega, by omega, by rw [HY0.out], rfl⟩
          case measure => have := HKL.out; simp [arr_size]; omega
        · obtain rfl : d = a := by omega
          rw [decide_eq_true (Nat.le_refl _)] at HE
          go_wp2_with (go_at_call 52; refine HE.out.mono ?_; rintro e w4 ⟨rfl, hb4⟩; have B4 := Lib.hid (HB.out.trans (hb4.mono HB.out.size)); clear hb4)
          go_ret2
          exact ⟨by rw [HR.out]; rfl, B4.out⟩
end Go.Proofs.Ytpnfkgjcnofjnaa.Ti
/- The document's lists: Put, Delete. -/
namespace Go.Proofs.Ytpnfkgjcnofjnaa.Ti
open Go.RowKit Go.Shelf Tr

theorem app_src2 {W : World} {base : Nat} {v : Value} {L : List KV} (h : PRow W base v L) (hb : base ≤ W.heap.size) {S : List KV} {A : Option Addr} {c m k : Nat}
    (hS : (S = [] ∧ (A = none → c = 0)) ∨ ∃ a, A = some a ∧ ∀ j u, (fl pc S)[j]? = some u → W.cell? (a.add j) = some u) (hm : m = S.length) (hk : k = (L ++ S).length) (hl : k ≤ 1000000) :
    ∃ A2 c2 w2, (Builtin.append_ #[27, 27] 27 #[v, .slice A m c]).run Try.prog W = .ok (.slice A2 k c2) w2 ∧ PRow w2 base (.slice A2 k c2) (L ++ S) ∧ Below base W w2 := by
  subst hm hk
  obtain ⟨A2, c2, w2, h1, h2, h3⟩ := app_src h hb hS (by rw [List.length_append] at hl; exact hl)
  rw [List.length_append]
  exact ⟨A2, c2, w2, h1, h2, h3⟩
theorem src_take {w X : World} {base N c i : Nat} {A : Option Addr} {M : List KV} (h : PRow w base (.slice A N c) M) (hb : Below w.heap.size w X) :
    (M.take i = [] ∧ (A = none → c = 0)) ∨ ∃ a, A = some a ∧ ∀ j u, (fl pc (M.take i))[j]? = some u → X.cell? (a.add j) = some u := by
  rcases (ownK_below h hb (Nat.le_refl _)).2 with ⟨e, h0⟩ | ⟨g, cap, cur, hv, _, hg, _, _, _, ht⟩
  · injection e with e1 e2 e3
    exact .inl ⟨by rw [List.length_eq_zero_iff.1 h0]; simp, fun _ => e3⟩
  · injection hv with e1 e2 e3
    refine .inr ⟨_, e1, fun j u hu => ?_⟩
    rw [addr_add, Nat.zero_add, cell_of_row X g _ cur _ (0, 0) hg]
    refine take_at ht ?_
    have e : fl pc M = fl pc (M.take i) ++ fl pc (M.drop i) := by rw [← fl_append, List.take_append_drop]
    rw [e, List.getElem?_append_left (List.getElem?_eq_some_iff.1 hu).1]
    exact hu
theorem src_drop {w X : World} {base N c i : Nat} {A : Option Addr} {M : List KV} (h : PRow w base (.slice A N c) M) (hb : Below w.heap.size w X) (hi : i ≤ M.length) :
    (M.drop i = [] ∧ (A.map (fun x => x.add (i * 2)) = none → c - i = 0)) ∨ ∃ a, A.map (fun x => x.add (i * 2)) = some a ∧ ∀ j u, (fl pc (M.drop i))[j]? = some u → X.cell? (a.add j) = some u := by
  rcases (ownK_below h hb (Nat.le_refl _)).2 with ⟨e, h0⟩ | ⟨g, cap, cur, hv, _, hg, _, _, _, ht⟩
  · injection e with e1 e2 e3
    exact .inl ⟨by rw [List.length_eq_zero_iff.1 h0]; simp, fun _ => by omega⟩
  · injection hv with e1 e2 e3
    subst e1
    refine .inr ⟨_, rfl, fun j u hu => ?_⟩
    dsimp only
    rw [addr_add, addr_add, Nat.zero_add, cell_of_row X g _ cur _ (0, 0) hg]
    refine take_at ht ?_
    have e : fl pc M = fl pc (M.take i) ++ fl pc (M.drop i) := by rw [← fl_append, List.take_append_drop]
    have hl : (fl pc (M.take i)).length = i * 2 := by rw [fl_len pc_len, List.length_take]; congr 1; omega
    rw [e, List.getElem?_append_right (by omega), hl, Nat.add_sub_cancel_left]
    exact hu
theorem src_none {X : World} {c i : Nat} {A : Option Addr} {M : List KV} (hi : M.length ≤ i) (hc : c = i) :
    (M.drop i = [] ∧ (A = none → c - i = 0)) ∨ ∃ a, A = some a ∧ ∀ j u, (fl pc (M.drop i))[j]? = some u → X.cell? (a.add j) = some u :=
  .inl ⟨List.drop_eq_nil_iff.2 hi, fun _ => by omega⟩
set_option maxRecDepth 100000 in
set_option maxHeartbeats 1000000 in
theorem refPut_yes {w : World} {base : Nat} {v : Value} {M : List KV} (h : PRow w base v M) (hm : Sml M) (s : ByteArray) (hs : s.size ≤ 100000) (val : Int) (hn : isN s.data.toList = true) :
    Calls Try.prog 13 #[v, .string s, .int .i64 val] w fun e w' => ∃ v', e = .returned (.tuple #[v', .bool (!thr M (plc M (Nm.fold s.data.toList)) (Nm.fold s.data.toList)), .int .i64 0]) ∧ PRow w' w.heap.size v' (M.take (plc M (Nm.fold s.data.toList)) ++ (Nm.fold s.data.toList, val) :: M.drop (if thr M (plc M (Nm.fold s.data.toList)) (Nm.fold s.data.toList) then plc M (Nm.fold s.data.toList) + 1 else plc M (Nm.fold s.data.toList))) ∧ Below w.heap.size w w' := by
  have HF := Lib.hid (fun X => refFold_any s X (by omega))
  have HI : Hid (∀ X, Calls Try.prog 27 #[.string s] X fun e w' => e = .returned (.bool (isN s.data.toList)) ∧ Below X.heap.size X w') := fun X => refIs_any s X (by omega)
  rw [hn] at HI
  obtain ⟨k, hk⟩ : ∃ k, Nm.fold s.data.toList = k := ⟨_, rfl⟩
  have hkl : k.length ≤ 100000 := by rw [← hk, Nm.fold_length]; simpa using hs
  have HP : Hid (∀ X, Below w.heap.size w X → Calls Try.prog 46 #[v, .string ⟨k.toArray⟩] X fun e w' => e = .returned (.int .i64 (plc M k : Nat)) ∧ Below X.heap.size X w') := fun X hb => refPlace_any (ownK_below h hb (Nat.le_refl _)) hm k hkl
  have hpl := plc_le M k
  have hfew := hm.few
  have HT : Hid (∀ X, Below w.heap.size w X → Calls Try.prog 47 #[v, .int .i64 (plc M k : Nat), .string ⟨k.toArray⟩] X fun e w' => e = .returned (.bool (thr M (plc M k) k)) ∧ w' = X) := fun X hb => refThere_any (ownK_below h hb (Nat.le_refl _)) _ (by omega) k
  have HTL : Hid (thr M (plc M k) k = true → plc M k < M.length) := fun h => thr_lt h
  rw [hk] at HF ⊢
  obtain ⟨p, hp⟩ : ∃ p, plc M k = p := ⟨_, rfl⟩
  rw [hp] at HP HT HTL hpl ⊢
  obtain ⟨tt, htt⟩ : ∃ tt, thr M p k = tt := ⟨_, rfl⟩
  rw [htt] at HT HTL ⊢
  have H := Lib.hid h
  obtain ⟨A, c, hv, hc⟩ := ownK_form h
  subst hv
  obtain ⟨N, hN⟩ : ∃ N, M.length = N := ⟨_, rfl⟩
  rw [hN] at HP HT HTL hpl hc hfew ⊢
  have HN := Lib.hid hN
  have HA1 : Hid (∀ X, Below w.heap.size w X → ∃ A1 c1 w3, (Builtin.append_ #[27, 27] 27 #[.slice none 0 0, .slice A p c]).run Try.prog X = .ok (.slice A1 p c1) w3 ∧ PRow w3 w.heap.size (.slice A1 p c1) (M.take p) ∧ Below w.heap.size w w3 ∧
      ∃ A2 c2 w4, (Builtin.append_ #[27, 27] 27 #[.slice A1 p c1, .slice (some ⟨w3.heap.size, 0, none⟩) 1 1]).run Try.prog (w3.alloc (.cells #[sv k, tz val] 48)) = .ok (.slice A2 (p + 1) c2) w4 ∧ PRow w4 w.heap.size (.slice A2 (p + 1) c2) (M.take p ++ [(k, val)]) ∧ Below w.heap.size w w4) := fun X hb => by
    have hsz := hb.size
    have hlt : (M.take p).length = p := by rw [List.length_take]; omega
    obtain ⟨A1, c1, w3, hr1, ho1, hb1⟩ := app_src2 (W := X) (base := w.heap.size) (v := .slice none 0 0) (L := []) ⟨by simp [fl], .inl ⟨rfl, rfl⟩⟩ hsz (src_take (i := p) H.out hb) (m := p) (k := p) hlt.symm (by rw [List.nil_append, hlt]) (by omega)
    rw [List.nil_append] at ho1
    have hs3 := hb1.size
    have hb3 : Below w.heap.size w w3 := hb.trans hb1
    obtain ⟨A2, c2, w4, hr2, ho2, hb2⟩ := app_src2 (W := w3.alloc (.cells #[sv k, tz val] 48)) (ho1.alloc _) (by simp; omega) (S := [(k, val)]) (A := some ⟨w3.heap.size, 0, none⟩) (c := 1) (m := 1) (k := p + 1) (.inr ⟨_, rfl, fun i u hu => by
      rw [addr_add, Nat.zero_add, (Has.fresh w3 48 #[sv k, tz val]).cell i]
      simpa [fl, pc] using hu⟩) rfl (by rw [List.length_append, hlt]; rfl) (by omega)
    exact ⟨A1, c1, w3, hr1, ho1, hb3, A2, c2, w4, hr2, ho2, (hb3.alloc (by have := hb3.size; omega) _).trans hb2⟩
  clear h hk hkl hp htt hn hm hN
  have p0 : (0 : Int) ≤ (p : Int) := by omega
  have p1 : (p : Int) ≤ (N : Int) := by omega
  have p2 : (p : Int) ≤ (c : Int) := by omega
  have p3 : (N : Int) ≤ (c : Int) := by omega
  obtain ⟨i, hi⟩ : ∃ i, (if tt = true then p + 1 else p) = i := ⟨_, rfl⟩
  have hiN : i ≤ N := by
    cases tt with
    | true => have := HTL.out rfl; simp at hi; omega
    | false => simp at hi; omega
  rw [hi]
  have HA3 : Hid (∀ X A2 c2, Below w.heap.size w X → PRow X w.heap.size (.slice A2 (p + 1) c2) (M.take p ++ [(k, val)]) → ∃ A3 c3 w5, (Builtin.append_ #[27, 27] 27 #[.slice A2 (p + 1) c2, .slice (if c = i then A else A.map (fun x => x.add (i * 2))) (N - i) (c - i)]).run Try.prog X = .ok (.slice A3 (p + 1 + (N - i)) c3) w5 ∧ PRow w5 w.heap.size (.slice A3 (p + 1 + (N - i)) c3) (M.take p ++ (k, val) :: M.drop i) ∧ Below w.heap.size w w5) := fun X A2 c2 hb ho => by
    have hN := HN.out
    have hlt : (M.take p).length = p := by rw [List.length_take]; omega
    have hS : (M.drop i = [] ∧ ((if c = i then A else A.map (fun x => x.add (i * 2))) = none → c - i = 0)) ∨ ∃ a, (if c = i then A else A.map (fun x => x.add (i * 2))) = some a ∧ ∀ j u, (fl pc (M.drop i))[j]? = some u → X.cell? (a.add j) = some u := by
      split
      · rename_i e; exact src_none (by omega) e
      · exact src_drop H.out hb (by omega)
    obtain ⟨A3, c3, w5, hr, ho2, hb2⟩ := app_src2 (W := X) (L := M.take p ++ [(k, val)]) (v := .slice A2 (p + 1) c2) (by
      exact ho) hb.size hS (m := N - i) (k := p + 1 + (N - i)) (by rw [List.length_drop, hN]) (by rw [List.length_append, List.length_append, hlt, List.length_drop, hN]; rfl) (by omega)
    refine ⟨A3, c3, w5, hr, ?_, hb.trans hb2⟩
    rw [List.append_assoc] at ho2
    exact ho2
  have HIC : Hid (i ≤ c) := by rw [Hid]; omega
  clear HTL
  cases tt with
  | true =>
    obtain rfl : p + 1 = i := by simpa using hi
    have hwp : IntKind.i64.wrap ((p : Int) + 1) = ((p + 1 : Nat) : Int) := by rw [IntKind.wrap_i64]; omega
    have p4 : (0 : Int) ≤ ((p + 1 : Nat) : Int) := by omega
    have p5 : ((p + 1 : Nat) : Int) ≤ (N : Int) := by omega
    have p6 : ((p + 1 : Nat) : Int) ≤ (c : Int) := by omega
    clear hi hiN
    by_cases hci : c = p + 1
    · obtain rfl : N = c := by omega
      subst hci
      rw [if_pos rfl, Nat.sub_self] at HA3
      go_enter Try.func13, Try.ntmps13
      go_upto_region 6 with (first
        | (go_at_call 23; refine (HF.out _).mono ?_; rintro e w1 ⟨rfl, hb1⟩; have B1 := Lib.hid (B0.out.trans (hb1.mono B0.out.size)); clear hb1)
        | (go_at_call 46; refine (HP.out _ B1.out).mono ?_; rintro e w2 ⟨rfl, hb2⟩; have B2 := Lib.hid (B1.out.trans (hb2.mono B1.out.size)); clear hb2; obtain ⟨A1, c1, w3, hr1, ho1, B3, A2, c2, w4, hr2, ho2, B4⟩ := HA1.out _ B2.out; obtain ⟨A3, c3, w5, hr3, ho3, B5⟩ := HA3.out _ _ _ B4 ho2; have HR1 := Lib.hid hr1; have HR2 := Lib.hid hr2; have HR3 := Lib.hid hr3; have HO3 := Lib.hid ho3; have B3 := Lib.hid B3; have B4 := Lib.hid B4; have B5 := Lib.hid B5; clear hr1 ho1 hr2 ho2 hr3 ho3)
        | (go_at_call 27; refine (HI.out _).mono ?_; rintro e w0 ⟨rfl, hb0⟩; have B0 := Lib.hid hb0; clear hb0))
      go_upto_region 7 with (at_builtin; refine wpList_append_at rfl (.tmp 21) (.tmp 24) 27 rfl _ _ rfl rfl HR1.out ?_; clear HR1)
      go_upto_region 8 with (at_builtin; refine wpList_append_at rfl (.tmp 26) (.tmp 30) 27 rfl _ _ rfl rfl HR2.out ?_; clear HR2)
      go_upto_region 9 with (go_at_call 47; refine (HT.out _ B4.out).mono ?_; rintro e w4 ⟨rfl, rfl⟩)
      go_wp2_with (at_builtin; refine wpList_append_at rfl (.tmp 36) (.tmp 40) 27 rfl _ _ rfl rfl HR3.out ?_; clear HR3)
      go_ret3
      exact ⟨_, rfl, HO3.out, B5.out⟩
    · rw [if_neg hci] at HA3
      go_enter Try.func13, Try.ntmps13
      go_upto_region 6 with (first
        | (go_at_call 23; refine (HF.out _).mono ?_; rintro e w1 ⟨rfl, hb1⟩; have B1 := Lib.hid (B0.out.trans (hb1.mono B0.out.size)); clear hb1)
        | (go_at_call 46; refine (HP.out _ B1.out).mono ?_; rintro e w2 ⟨rfl, hb2⟩; have B2 := Lib.hid (B1.out.trans (hb2.mono B1.out.size)); clear hb2; obtain ⟨A1, c1, w3, hr1, ho1, B3, A2, c2, w4, hr2, ho2, B4⟩ := HA1.out _ B2.out; obtain ⟨A3, c3, w5, hr3, ho3, B5⟩ := HA3.out _ _ _ B4 ho2; have HR1 := Lib.hid hr1; have HR2 := Lib.hid hr2; have HR3 := Lib.hid hr3; have HO3 := Lib.hid ho3; have B3 := Lib.hid B3; have B4 := Lib.hid B4; have B5 := Lib.hid B5; clear hr1 ho1 hr2 ho2 hr3 ho3)
        | (go_at_call 27; refine (HI.out _).mono ?_; rintro e w0 ⟨rfl, hb0⟩; have B0 := Lib.hid hb0; clear hb0))
      go_upto_region 7 with (at_builtin; refine wpList_append_at rfl (.tmp 21) (.tmp 24) 27 rfl _ _ rfl rfl HR1.out ?_; clear HR1)
      go_upto_region 8 with (at_builtin; refine wpList_append_at rfl (.tmp 26) (.tmp 30) 27 rfl _ _ rfl rfl HR2.out ?_; clear HR2)
      go_upto_region 9 with (go_at_call 47; refine (HT.out _ B4.out).mono ?_; rintro e w4 ⟨rfl, rfl⟩)
      go_wp2_with (at_builtin; refine wpList_append_at rfl (.tmp 36) (.tmp 40) 27 rfl _ _ rfl rfl HR3.out ?_; clear HR3)
      go_ret3
      exact ⟨_, rfl, HO3.out, B5.out⟩
  | false =>
    obtain rfl : p = i := by simpa using hi
    clear hi hiN
    by_cases hci : c = p
    · obtain rfl : N = c := by omega
      subst hci
      rw [if_pos rfl, Nat.sub_self] at HA3
      go_enter Try.func13, Try.ntmps13
      go_upto_region 6 with (first
        | (go_at_call 23; refine (HF.out _).mono ?_; rintro e w1 ⟨rfl, hb1⟩; have B1 := Lib.hid (B0.out.trans (hb1.mono B0.out.size)); clear hb1)
        | (go_at_call 46; refine (HP.out _ B1.out).mono ?_; rintro e w2 ⟨rfl, hb2⟩; have B2 := Lib.hid (B1.out.trans (hb2.mono B1.out.size)); clear hb2; obtain ⟨A1, c1, w3, hr1, ho1, B3, A2, c2, w4, hr2, ho2, B4⟩ := HA1.out _ B2.out; obtain ⟨A3, c3, w5, hr3, ho3, B5⟩ := HA3.out _ _ _ B4 ho2; have HR1 := Lib.hid hr1; have HR2 := Lib.hid hr2; have HR3 := Lib.hid hr3; have HO3 := Lib.hid ho3; have B3 := Lib.hid B3; have B4 := Lib.hid B4; have B5 := Lib.hid B5; clear hr1 ho1 hr2 ho2 hr3 ho3)
        | (go_at_call 27; refine (HI.out _).mono ?_; rintro e w0 ⟨rfl, hb0⟩; have B0 := Lib.hid hb0; clear hb0))
      go_upto_region 7 with (at_builtin; refine wpList_append_at rfl (.tmp 21) (.tmp 24) 27 rfl _ _ rfl rfl HR1.out ?_; clear HR1)
      go_upto_region 8 with (at_builtin; refine wpList_append_at rfl (.tmp 26) (.tmp 30) 27 rfl _ _ rfl rfl HR2.out ?_; clear HR2)
      go_upto_region 11 with (go_at_call 47; refine (HT.out _ B4.out).mono ?_; rintro e w4 ⟨rfl, rfl⟩)
      go_wp2_with (at_builtin; refine wpList_append_at rfl (.tmp 43) (.tmp 46) 27 rfl _ _ rfl rfl HR3.out ?_; clear HR3)
      go_ret3
      exact ⟨_, rfl, HO3.out, B5.out⟩
    · rw [if_neg hci] at HA3
      go_enter Try.func13, Try.ntmps13
      go_upto_region 6 with (first
        | (go_at_call 23; refine (HF.out _).mono ?_; rintro e w1 ⟨rfl, hb1⟩; have B1 := Lib.hid (B0.out.trans (hb1.mono B0.out.size)); clear hb1)
        | (go_at_call 46; refine (HP.out _ B1.out).mono ?_; rintro e w2 ⟨rfl, hb2⟩; have B2 := Lib.hid (B1.out.trans (hb2.mono B1.out.size)); clear hb2; obtain ⟨A1, c1, w3, hr1, ho1, B3, A2, c2, w4, hr2, ho2, B4⟩ := HA1.out _ B2.out; obtain ⟨A3, c3, w5, hr3, ho3, B5⟩ := HA3.out _ _ _ B4 ho2; have HR1 := Lib.hid hr1; have HR2 := Lib.hid hr2; have HR3 := Lib.hid hr3; have HO3 := Lib.hid ho3; have B3 := Lib.hid B3; have B4 := Lib.hid B4; have B5 := Lib.hid B5; clear hr1 ho1 hr2 ho2 hr3 ho3)
        | (go_at_call 27; refine (HI.out _).mono ?_; rintro e w0 ⟨rfl, hb0⟩; have B0 := Lib.hid hb0; clear hb0))
      go_upto_region 7 with (at_builtin; refine wpList_append_at rfl (.tmp 21) (.tmp 24) 27 rfl _ _ rfl rfl HR1.out ?_; clear HR1)
      go_upto_region 8 with (at_builtin; refine wpList_append_at rfl (.tmp 26) (.tmp 30) 27 rfl _ _ rfl rfl HR2.out ?_; clear HR2)
      go_upto_region 11 with (go_at_call 47; refine (HT.out _ B4.out).mono ?_; rintro e w4 ⟨rfl, rfl⟩)
      go_wp2_with (at_builtin; refine wpList_append_at rfl (.tmp 43) (.tmp 46) 27 rfl _ _ rfl rfl HR3.out ?_; clear HR3)
      go_ret3
      exact ⟨_, rfl, HO3.out, B5.out⟩
end Go.Proofs.Ytpnfkgjcnofjnaa.Ti
/- The document's lists: Put of what is no name, Delete. -/
namespace Go.Proofs.Ytpnfkgjcnofjnaa.Ti
open Go.RowKit Go.Shelf Tr

set_option maxRecDepth 100000 in
theorem refPut_no {w : World} {v : Value} (s : ByteArray) (hs : s.size ≤ 100000) (val : Int) (hn : isN s.data.toList = false) :
    Calls Try.prog 13 #[v, .string s, .int .i64 val] w fun e w' => e = .returned (.tuple #[v, .bool false, .int .i64 11]) ∧ Below w.heap.size w w' := by
  have HI : Hid (∀ X, Calls Try.prog 27 #[.string s] X fun e w' => e = .returned (.bool (isN s.data.toList)) ∧ Below X.heap.size X w') := fun X => refIs_any s X (by omega)
  rw [hn] at HI
  clear hn
  go_enter Try.func13, Try.ntmps13
  go_wp2_with (go_at_call 27; refine (HI.out _).mono ?_; rintro e w0 ⟨rfl, hb0⟩; have B0 := Lib.hid hb0; clear hb0)
  go_ret3
  exact ⟨rfl, B0.out⟩
set_option maxRecDepth 100000 in
set_option maxHeartbeats 1000000 in
theorem refDel_any {w : World} {base : Nat} {v : Value} {M : List KV} (h : PRow w base v M) (hm : Sml M) (s : ByteArray) (hs : s.size ≤ 100000) (nn tt : Bool) (hnn : isN s.data.toList = nn) (htt : thr M (plc M (Nm.fold s.data.toList)) (Nm.fold s.data.toList) = tt) :
    Calls Try.prog 15 #[v, .string s] w fun e w' => ∃ v', e = .returned (.tuple #[v', .bool (nn && tt)]) ∧ Below w.heap.size w w' ∧ if (nn && tt) = true then PRow w' w.heap.size v' (M.take (plc M (Nm.fold s.data.toList)) ++ M.drop (plc M (Nm.fold s.data.toList) + 1)) else v' = v := by
  have HF := Lib.hid (refFold_any s w (by omega))
  have HI : Hid (∀ X, Calls Try.prog 27 #[.string s] X fun e w' => e = .returned (.bool (isN s.data.toList)) ∧ Below X.heap.size X w') := fun X => refIs_any s X (by omega)
  rw [hnn] at HI
  obtain ⟨k, hk⟩ : ∃ k, Nm.fold s.data.toList = k := ⟨_, rfl⟩
  have hkl : k.length ≤ 100000 := by rw [← hk, Nm.fold_length]; simpa using hs
  rw [hk] at HF htt ⊢
  have HP : Hid (∀ X, Below w.heap.size w X → Calls Try.prog 46 #[v, .string ⟨k.toArray⟩] X fun e w' => e = .returned (.int .i64 (plc M k : Nat)) ∧ Below X.heap.size X w') := fun X hb => refPlace_any (ownK_below h hb (Nat.le_refl _)) hm k hkl
  have hpl := plc_le M k
  have hfew := hm.few
  have HT : Hid (∀ X, Below w.heap.size w X → Calls Try.prog 47 #[v, .int .i64 (plc M k : Nat), .string ⟨k.toArray⟩] X fun e w' => e = .returned (.bool tt) ∧ w' = X) := fun X hb => by
    rw [← htt]
    exact refThere_any (ownK_below h hb (Nat.le_refl _)) _ (by omega) k
  have HTL : Hid (tt = true → plc M k < M.length) := fun h => thr_lt (htt.trans h)
  obtain ⟨p, hp⟩ : ∃ p, plc M k = p := ⟨_, rfl⟩
  rw [hp] at HP HT HTL hpl ⊢
  have H := Lib.hid h
  obtain ⟨A, c, hv, hc⟩ := ownK_form h
  subst hv
  obtain ⟨N, hN⟩ : ∃ N, M.length = N := ⟨_, rfl⟩
  rw [hN] at HP HT HTL hpl hc hfew ⊢
  have HN := Lib.hid hN
  have p0 : (0 : Int) ≤ (p : Int) := by omega
  clear h hk hkl hp htt hnn hm hN
  cases nn with
  | false =>
    go_enter Try.func15, Try.ntmps15
    go_wp2_with (first
      | (go_at_call 23; refine HF.out.mono ?_; rintro e w1 ⟨rfl, hb1⟩; have B1 := Lib.hid hb1; clear hb1 HF)
      | (go_at_call 46; refine (HP.out _ B1.out).mono ?_; rintro e w2 ⟨rfl, hb2⟩; have B2 := Lib.hid (B1.out.trans (hb2.mono B1.out.size)); clear hb2)
      | (go_at_call 27; refine (HI.out _).mono ?_; rintro e w3 ⟨rfl, hb3⟩; have B3 := Lib.hid (B2.out.trans (hb3.mono B2.out.size)); clear hb3))
    go_ret2
    first | exact B3.out | exact ⟨rfl, B3.out⟩ | exact ⟨_, rfl, B3.out, rfl⟩
  | true =>
    cases tt with
    | false =>
      go_enter Try.func15, Try.ntmps15
      go_wp2_with (first
        | (go_at_call 23; refine HF.out.mono ?_; rintro e w1 ⟨rfl, hb1⟩; have B1 := Lib.hid hb1; clear hb1 HF)
        | (go_at_call 46; refine (HP.out _ B1.out).mono ?_; rintro e w2 ⟨rfl, hb2⟩; have B2 := Lib.hid (B1.out.trans (hb2.mono B1.out.size)); clear hb2)
        | (go_at_call 47; refine (HT.out _ B3.out).mono ?_; rintro e w4 ⟨rfl, rfl⟩)
        | (go_at_call 27; refine (HI.out _).mono ?_; rintro e w3 ⟨rfl, hb3⟩; have B3 := Lib.hid (B2.out.trans (hb3.mono B2.out.size)); clear hb3))
      go_ret2
      first | exact B3.out | exact ⟨rfl, B3.out⟩ | exact ⟨_, rfl, B3.out, rfl⟩
    | true =>
      have hpN := HTL.out rfl
      have HA1 : Hid (∀ X, Below w.heap.size w X → ∃ A1 c1 w3, (Builtin.append_ #[27, 27] 27 #[.slice none 0 0, .slice A p c]).run Try.prog X = .ok (.slice A1 p c1) w3 ∧ Below w.heap.size w w3 ∧
          ∃ A3 c3 w5, (Builtin.append_ #[27, 27] 27 #[.slice A1 p c1, .slice (if c = p + 1 then A else A.map (fun x => x.add ((p + 1) * 2))) (N - (p + 1)) (c - (p + 1))]).run Try.prog w3 = .ok (.slice A3 (p + (N - (p + 1))) c3) w5 ∧ PRow w5 w.heap.size (.slice A3 (p + (N - (p + 1))) c3) (M.take p ++ M.drop (p + 1)) ∧ Below w.heap.size w w5) := fun X hb => by
        have hN := HN.out
        have hlt : (M.take p).length = p := by rw [List.length_take]; omega
        obtain ⟨A1, c1, w3, hr1, ho1, hb1⟩ := app_src2 (W := X) (base := w.heap.size) (v := .slice none 0 0) (L := []) ⟨by simp [fl], .inl ⟨rfl, rfl⟩⟩ hb.size (src_take (i := p) H.out hb) (m := p) (k := p) hlt.symm (by rw [List.nil_append, hlt]) (by omega)
        rw [List.nil_append] at ho1
        have hb3 : Below w.heap.size w w3 := hb.trans hb1
        have hS : (M.drop (p + 1) = [] ∧ ((if c = p + 1 then A else A.map (fun x => x.add ((p + 1) * 2))) = none → c - (p + 1) = 0)) ∨ ∃ a, (if c = p + 1 then A else A.map (fun x => x.add ((p + 1) * 2))) = some a ∧ ∀ j u, (fl pc (M.drop (p + 1)))[j]? = some u → w3.cell? (a.add j) = some u := by
          split
          · rename_i e; exact src_none (by omega) e
          · exact src_drop H.out hb3 (by omega)
        obtain ⟨A3, c3, w5, hr, ho2, hb2⟩ := app_src2 (W := w3) (L := M.take p) (v := .slice A1 p c1) ho1 hb3.size hS (m := N - (p + 1)) (k := p + (N - (p + 1))) (by rw [List.length_drop, hN]) (by rw [List.length_append, hlt, List.length_drop, hN]) (by omega)
        exact ⟨A1, c1, w3, hr1, hb3, A3, c3, w5, hr, ho2, hb3.trans hb2⟩
      have p1 : (p : Int) ≤ (N : Int) := by omega
      have p2 : (p : Int) ≤ (c : Int) := by omega
      have p3 : (N : Int) ≤ (c : Int) := by omega
      have hwp : IntKind.i64.wrap ((p : Int) + 1) = ((p + 1 : Nat) : Int) := by rw [IntKind.wrap_i64]; omega
      have p4 : (0 : Int) ≤ ((p + 1 : Nat) : Int) := by omega
      have p5 : ((p + 1 : Nat) : Int) ≤ (N : Int) := by omega
      have p6 : ((p + 1 : Nat) : Int) ≤ (c : Int) := by omega
      clear HTL
      by_cases hci : c = p + 1
      · obtain rfl : N = c := by omega
        subst hci
        rw [if_pos rfl, Nat.sub_self] at HA1
        clear hpN
        go_enter Try.func15, Try.ntmps15
        go_upto_region 6 with (first
          | (go_at_call 23; refine HF.out.mono ?_; rintro e w1 ⟨rfl, hb1⟩; have B1 := Lib.hid hb1; clear hb1 HF)
          | (go_at_call 46; refine (HP.out _ B1.out).mono ?_; rintro e w2 ⟨rfl, hb2⟩; have B2 := Lib.hid (B1.out.trans (hb2.mono B1.out.size)); clear hb2)
          | (go_at_call 47; refine (HT.out _ B3.out).mono ?_; rintro e w4 ⟨rfl, rfl⟩; obtain ⟨A1, c1, w4, hr1, B4, A3, c3, w5, hr3, ho3, B5⟩ := HA1.out _ B3.out; have HR1 := Lib.hid hr1; have HR3 := Lib.hid hr3; have HO3 := Lib.hid ho3; have B4 := Lib.hid B4; have B5 := Lib.hid B5; clear hr1 hr3 ho3)
          | (go_at_call 27; refine (HI.out _).mono ?_; rintro e w3 ⟨rfl, hb3⟩; have B3 := Lib.hid (B2.out.trans (hb3.mono B2.out.size)); clear hb3))
        go_upto_region 7 with (at_builtin; refine wpList_append_at rfl (.tmp 25) (.tmp 28) 27 rfl _ _ rfl rfl HR1.out ?_; clear HR1)
        go_wp2_with (at_builtin; refine wpList_append_at rfl (.tmp 30) (.tmp 34) 27 rfl _ _ rfl rfl HR3.out ?_; clear HR3)
        go_ret2
        exact ⟨_, rfl, B5.out, HO3.out⟩
      · rw [if_neg hci] at HA1
        clear hpN
        go_enter Try.func15, Try.ntmps15
        go_upto_region 6 with (first
          | (go_at_call 23; refine HF.out.mono ?_; rintro e w1 ⟨rfl, hb1⟩; have B1 := Lib.hid hb1; clear hb1 HF)
          | (go_at_call 46; refine (HP.out _ B1.out).mono ?_; rintro e w2 ⟨rfl, hb2⟩; have B2 := Lib.hid (B1.out.trans (hb2.mono B1.out.size)); clear hb2)
          | (go_at_call 47; refine (HT.out _ B3.out).mono ?_; rintro e w4 ⟨rfl, rfl⟩; obtain ⟨A1, c1, w4, hr1, B4, A3, c3, w5, hr3, ho3, B5⟩ := HA1.out _ B3.out; have HR1 := Lib.hid hr1; have HR3 := Lib.hid hr3; have HO3 := Lib.hid ho3; have B4 := Lib.hid B4; have B5 := Lib.hid B5; clear hr1 hr3 ho3)
          | (go_at_call 27; refine (HI.out _).mono ?_; rintro e w3 ⟨rfl, hb3⟩; have B3 := Lib.hid (B2.out.trans (hb3.mono B2.out.size)); clear hb3))
        go_upto_region 7 with (at_builtin; refine wpList_append_at rfl (.tmp 25) (.tmp 28) 27 rfl _ _ rfl rfl HR1.out ?_; clear HR1)
        go_wp2_with (at_builtin; refine wpList_append_at rfl (.tmp 30) (.tmp 34) 27 rfl _ _ rfl rfl HR3.out ?_; clear HR3)
        go_ret2
        exact ⟨_, rfl, B5.out, HO3.out⟩
end Go.Proofs.Ytpnfkgjcnofjnaa.Ti
/- What a tree answers of a name is what the document's list answers. -/
namespace Go.Proofs.Ytpnfkgjcnofjnaa.Ti
open Go.RowKit Go.Shelf Tr

theorem get_two {n : No TV} (hok : ok n) (hk : KeyOk (nents n)) (s : By) : getM (kvs (nents n)) s = getR n s := by
  unfold getM getR
  cases hn : isN s with
  | false => rfl
  | true => rw [if_pos rfl, if_pos rfl]; exact (get_list (asc_nents hok) hk hn).symm
theorem next_two {n : No TV} (hk : KeyOk (nents n)) (s : By) : nextM (kvs (nents n)) s = nextR n s := by
  unfold nextM nextR
  cases hn : isN s with
  | false => rfl
  | true => rw [if_pos rfl, if_pos rfl]; exact (next_list hk hn).symm
set_option maxRecDepth 100000 in
set_option maxHeartbeats 1000000 in
theorem asked_any {w : World} {base b : Nat} {v : Value} {n : No TV} {F : List Nat} (hT : TM w b n F) (hk : KeyOk (nents n)) (hl : (nents n).length ≤ 1000) (h : PRow w base v (kvs (nents n))) (s : ByteArray) (hs : s.size ≤ 100000) :
    Calls Try.prog 16 #[ptr b, v, .string s] w fun e w' => e = .returned (.bool true) ∧ Below w.heap.size w w' := by
  have hm := kvs_small hk hl
  have hT2 : ∀ X, Below w.heap.size w X → TM X b n F := fun X hb => hT.below hb (Nat.le_refl _)
  have hR2 : ∀ X, Below w.heap.size w X → PRow X base v (kvs (nents n)) := fun X hb => ownK_below h hb (Nat.le_refl _)
  obtain ⟨gv, hgv⟩ : ∃ gv, (getR n s.data.toList).getD 0 = gv := ⟨_, rfl⟩
  obtain ⟨gs, hgs⟩ : ∃ gs, (getR n s.data.toList).isSome = gs := ⟨_, rfl⟩
  have H1 : Hid (∀ X, Below w.heap.size w X → Calls Try.prog 26 #[ptr b, .string s] X fun e w' => e = .returned (.tuple #[tz gv, .bool gs]) ∧ Below X.heap.size X w') := fun X hb => by
    have := Get_any (hT2 X hb) s (by omega)
    rwa [hgv, hgs] at this
  have H2 : Hid (∀ X, Below w.heap.size w X → Calls Try.prog 49 #[v, .string s] X fun e w' => e = .returned (.tuple #[tz gv, .bool gs]) ∧ Below X.heap.size X w') := fun X hb => by
    have := refGet_any (hR2 X hb) hm s hs
    rwa [get_two hT.ok hk, hgv, hgs] at this
  obtain ⟨nv, hnv⟩ : ∃ nv, (nextR n s.data.toList).getD [] = nv := ⟨_, rfl⟩
  obtain ⟨ns, hns⟩ : ∃ ns, (nextR n s.data.toList).isSome = ns := ⟨_, rfl⟩
  have H3 : Hid (∀ X, Below w.heap.size w X → Calls Try.prog 25 #[ptr b, .string s] X fun e w' => e = .returned (.tuple #[.string ⟨nv.toArray⟩, .bool ns]) ∧ Below X.heap.size X w') := fun X hb => by
    have := Next_any (hT2 X hb) s (by omega)
    unfold optB at this
    rwa [hnv, hns] at this
  have H4 : Hid (∀ X, Below w.heap.size w X → Calls Try.prog 50 #[v, .string s] X fun e w' => e = .returned (.tuple #[.string ⟨nv.toArray⟩, .bool ns]) ∧ Below X.heap.size X w') := fun X hb => by
    have := refNext_any (hR2 X hb) hm s hs
    unfold optB at this
    rwa [next_two hk, hnv, hns] at this
  obtain ⟨ev, hev⟩ : ∃ ev, (encR n s.data.toList).getD [] = ev := ⟨_, rfl⟩
  obtain ⟨es, hes⟩ : ∃ es, (encR n s.data.toList).isSome = es := ⟨_, rfl⟩
  have H5 : Hid (∀ X, Below w.heap.size w X → Calls Try.prog 30 #[ptr b, .string s] X fun e w' => e = .returned (.tuple #[.string ⟨ev.toArray⟩, .bool es]) ∧ Below X.heap.size X w') := fun X hb => by
    have := Encloser_any (hT2 X hb) s (by omega)
    unfold optB at this
    rwa [hev, hes] at this
  have H6 : Hid (∀ X, Below w.heap.size w X → Calls Try.prog 51 #[v, .string s] X fun e w' => e = .returned (.tuple #[.string ⟨ev.toArray⟩, .bool es]) ∧ Below X.heap.size X w') := fun X hb => by
    have := refEncloser_any hT.ok hk hl (hR2 X hb) s hs
    unfold optB at this
    rwa [hev, hes] at this
  obtain ⟨xv, hxv⟩ : ∃ xv, (isN s.data.toList && exE (pth s.data.toList) (nents n)) = xv := ⟨_, rfl⟩
  have H7 : Hid (∀ X, Below w.heap.size w X → Calls Try.prog 31 #[ptr b, .string s] X fun e w' => e = .returned (.bool xv) ∧ Below X.heap.size X w') := fun X hb => by
    have := Exists_any (hT2 X hb) s (by omega)
    rwa [hxv] at this
  have H8 : Hid (∀ X, Below w.heap.size w X → Calls Try.prog 52 #[v, .string s] X fun e w' => e = .returned (.bool xv) ∧ Below X.heap.size X w') := fun X hb => by
    have := refExists_any (hR2 X hb) hm s hs
    rwa [← ex_list hk, hxv] at this
  have q1 : ((⟨nv.toArray⟩ : ByteArray).toList == (⟨nv.toArray⟩ : ByteArray).toList) = true := beq_self_eq_true _
  have q2 : ((⟨ev.toArray⟩ : ByteArray).toList == (⟨ev.toArray⟩ : ByteArray).toList) = true := beq_self_eq_true _
  clear hT hk hl h hm hT2 hR2 hgv hgs hnv hns hev hes hxv
  go_enter Try.func16, Try.ntmps16
  go_wp2_with (first
    | (go_at_call 26; refine (H1.out _ (Below.refl _ _)).mono ?_; rintro e w1 ⟨rfl, hb1⟩; have B1 := Lib.hid hb1; clear hb1)
    | (go_at_call 49; refine (H2.out _ B1.out).mono ?_; rintro e w2 ⟨rfl, hb2⟩; have B2 := Lib.hid (B1.out.trans (hb2.mono B1.out.size)); clear hb2)
    | (go_at_call 25; refine (H3.out _ B2.out).mono ?_; rintro e w3 ⟨rfl, hb3⟩; have B3 := Lib.hid (B2.out.trans (hb3.mono B2.out.size)); clear hb3)
    | (go_at_call 50; refine (H4.out _ B3.out).mono ?_; rintro e w4 ⟨rfl, hb4⟩; have B4 := Lib.hid (B3.out.trans (hb4.mono B3.out.size)); clear hb4)
    | (go_at_call 30; refine (H5.out _ B4.out).mono ?_; rintro e w5 ⟨rfl, hb5⟩; have B5 := Lib.hid (B4.out.trans (hb5.mono B4.out.size)); clear hb5)
    | (go_at_call 51; refine (H6.out _ B5.out).mono ?_; rintro e w6 ⟨rfl, hb6⟩; have B6 := Lib.hid (B5.out.trans (hb6.mono B5.out.size)); clear hb6)
    | (go_at_call 31; refine (H7.out _ B6.out).mono ?_; rintro e w7 ⟨rfl, hb7⟩; have B7 := Lib.hid (B6.out.trans (hb7.mono B6.out.size)); clear hb7)
    | (go_at_call 52; refine (H8.out _ B7.out).mono ?_; rintro e w8 ⟨rfl, hb8⟩; have B8 := Lib.hid (B7.out.trans (hb8.mono B7.out.size)); clear hb8))
  go_ret
  exact ⟨rfl, B8.out⟩
end Go.Proofs.Ytpnfkgjcnofjnaa.Ti
