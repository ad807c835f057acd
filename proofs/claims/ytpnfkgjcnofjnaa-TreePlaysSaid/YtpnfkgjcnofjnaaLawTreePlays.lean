/- TreePlays holds: for every row of steps that can be read as data, the call returns true. Conditions: none but the reach of the form itself. -/
import Derived.Test.YtpnfkgjcnofjnaaPlLong
namespace Go.Proofs.Ytpnfkgjcnofjnaa
open Go.RowKit Go.Shelf Tr Ti

namespace Ti
section
variable {w X : World} {b : Nat} {n : No TV} {F : List Nat} {v : Value} {M : List KV}
theorem PlS.len (h : PlS w X b n F v M) {z : Nat} (hz : (nents n).length = z) : Calls Try.prog 11 #[ptr b] X fun e w' => e = .returned (.int .i64 (z : Nat)) ∧ w' = X := by
  rw [← hz]; exact Len_any h.tm
theorem PlS.ask (h : PlS w X b n F v (kvs (nents n))) (hk : KeyOk (nents n)) (hl : (nents n).length ≤ 1000) (s : ByteArray) (hs : s.size ≤ 100000) :
    Calls Try.prog 16 #[ptr b, v, .string s] X fun e w' => e = .returned (.bool true) ∧ Below X.heap.size X w' := asked_any h.tm hk hl h.row s hs
theorem PlS.form (h : PlS w X b n F v (kvs (nents n))) {z : Nat} (hz : (nents n).length = z) : ∃ A c, v = .slice A z c := by
  obtain ⟨A, c, e, _⟩ := ownK_form h.row
  exact ⟨A, c, by rw [e, kvs_len, hz]⟩
theorem pls_put_yes (h : PlS w X b n F v (kvs (nents n))) (hl : (nents n).length ≤ 999) (s : ByteArray) (hs : s.size ≤ 100000) (val : Int) (hn : isN s.data.toList = true) :
    Calls Try.prog 12 #[ptr b, .string s, tz val] X fun e w' => ∃ F', e = .returned (.tuple #[.bool !hasE (pth s.data.toList) (nents n), .int .i64 0]) ∧ PlS w w' b (putN s.data.toList val n) F' v (kvs (nents n)) :=
  (Put_any h.tm (by omega) s val (by omega) hn).mono fun e w' ⟨F', he, hT, hN, hO⟩ => ⟨F', he, h.only hT hN hO⟩
theorem pls_rput_yes {F' : List Nat} (hok : ok n) (hk : KeyOk (nents n)) (hl : (nents n).length ≤ 999) (s : ByteArray) (hs : s.size ≤ 100000) (val : Int) (hn : isN s.data.toList = true) (h : PlS w X b (putN s.data.toList val n) F' v (kvs (nents n))) :
    Calls Try.prog 13 #[v, .string s, .int .i64 val] X fun e w' => ∃ v', e = .returned (.tuple #[v', .bool !hasE (pth s.data.toList) (nents n), .int .i64 0]) ∧ PlS w w' b (putN s.data.toList val n) F' v' (kvs (nents (putN s.data.toList val n))) := by
  obtain ⟨h1, h2⟩ := put_list (asc_nents hok) hk hn val
  refine (refPut_yes h.row (kvs_small hk (by omega)) s hs val hn).mono fun e w' ⟨v', he, hr, hb⟩ => ⟨v', by rw [he, h2], ?_⟩
  refine h.next hb ?_
  have e : nents (putN s.data.toList val n) = insE ⟨pth s.data.toList, Nm.fold s.data.toList, val⟩ (nents n) := put_ents hok
  rw [e, h1]
  exact hr
theorem pls_put_no (h : PlS w X b n F v (kvs (nents n))) (s : ByteArray) (hs : s.size ≤ 100000) (val : Int) (hn : isN s.data.toList = false) :
    Calls Try.prog 12 #[ptr b, .string s, tz val] X fun e w' => e = .returned (.tuple #[.bool false, .int .i64 11]) ∧ PlS w w' b n F v (kvs (nents n)) :=
  (PutNo_any h.tm s val (by omega) hn).mono fun e w' ⟨he, _, hB⟩ => ⟨he, h.below hB (Nat.le_refl _)⟩
theorem pls_rput_no (h : PlS w X b n F v M) (s : ByteArray) (hs : s.size ≤ 100000) (val : Int) (hn : isN s.data.toList = false) :
    Calls Try.prog 13 #[v, .string s, .int .i64 val] X fun e w' => e = .returned (.tuple #[v, .bool false, .int .i64 11]) ∧ PlS w w' b n F v M :=
  (refPut_no s hs val hn).mono fun _ _ ⟨he, hb⟩ => ⟨he, h.below hb (Nat.le_refl _)⟩
theorem pls_del_no (h : PlS w X b n F v M) (s : ByteArray) (hs : s.size ≤ 100000) (hn : isN s.data.toList = false) :
    Calls Try.prog 14 #[ptr b, .string s] X fun e w' => e = .returned (.bool false) ∧ PlS w w' b n F v M :=
  (DelNo_any h.tm s (by omega) hn).mono fun e w' ⟨he, _, hB⟩ => ⟨he, h.below hB (Nat.le_refl _)⟩
theorem pls_rdel_no (h : PlS w X b n F v (kvs (nents n))) (hk : KeyOk (nents n)) (hl : (nents n).length ≤ 1000) (s : ByteArray) (hs : s.size ≤ 100000) (hn : isN s.data.toList = false) :
    Calls Try.prog 15 #[v, .string s] X fun e w' => e = .returned (.tuple #[v, .bool false]) ∧ PlS w w' b n F v (kvs (nents n)) :=
  (refDel_any h.row (kvs_small hk hl) s hs false _ hn rfl).mono fun e w' ⟨v', he, hb, h3⟩ => by
    have h3 : v' = v := by simpa using h3
    subst h3
    exact ⟨he, h.below hb (Nat.le_refl _)⟩
theorem pls_del_yes (h : PlS w X b n F v M) (s : ByteArray) (hs : s.size ≤ 100000) (hn : isN s.data.toList = true) :
    Calls Try.prog 14 #[ptr b, .string s] X fun e w' => ∃ F', e = .returned (.bool (hasE (pth s.data.toList) (nents n))) ∧ PlS w w' b (delN s.data.toList n) F' v M :=
  (Del_any h.tm s (by omega) hn).mono fun e w' ⟨F', he, hT, hN, hO⟩ => ⟨F', he, h.only hT hN hO⟩
theorem pls_rdel_yes {F' : List Nat} (hok : ok n) (hk : KeyOk (nents n)) (hl : (nents n).length ≤ 1000) (s : ByteArray) (hs : s.size ≤ 100000) (hn : isN s.data.toList = true) (h : PlS w X b (delN s.data.toList n) F' v (kvs (nents n))) :
    Calls Try.prog 15 #[v, .string s] X fun e w' => ∃ v', e = .returned (.tuple #[v', .bool (hasE (pth s.data.toList) (nents n))]) ∧ PlS w w' b (delN s.data.toList n) F' v' (kvs (nents (delN s.data.toList n))) := by
  have h1 := del_list (asc_nents hok) hk hn
  have h2 := (put_list (asc_nents hok) hk hn 0).2
  refine (refDel_any h.row (kvs_small hk hl) s hs true _ hn h2).mono fun e w' ⟨v', he, hb, h3⟩ => ⟨v', by rw [he, Bool.true_and], ?_⟩
  rw [del_ents hok, h1, h2]
  cases hh : hasE (pth s.data.toList) (nents n) with
  | true =>
    rw [hh] at h3
    rw [if_pos rfl]
    exact h.next hb (by simpa using h3)
  | false =>
    rw [hh] at h3
    have h3 : v' = v := by simpa using h3
    subst h3
    rw [if_neg (by simp)]
    exact h.below hb (Nat.le_refl _)
end
end Ti
set_option maxRecDepth 100000 in
set_option maxHeartbeats 4000000 in
theorem plays_main {w : World} {A : Option Addr} {N c : Nat} {ls : List Sp}
    (hh : Calls Try.prog 9 #[.slice A N c] w fun e w' => e = .returned (.bool false) ∧ w' = w)
    (hls : ls.length = N) (hl : Sps w w.heap.size A ls) (h1 : N ≤ 120) (hz : ∀ x ∈ ls, x.name.size ≤ 2000) (hwf : ∀ x ∈ ls, ((Lit.int .u8 x.skip).wf = true ∧ (Lit.int .i64 x.plain).wf = true)) :
    Calls Try.prog 3 #[.slice A N c] w fun e w' => e = .returned (.bool true) ∧ Below w.heap.size w w' := by
  have HH := Lib.hid hh
  have HLS := Lib.hid hls
  have HAT : Hid (∀ k, k < N → ∃ (g o : Nat) (r val : Int) (s : ByteArray), A = some ⟨g, o, none⟩ ∧ 0 ≤ r ∧ r < 256 ∧ s.size ≤ 2000 ∧ ∀ X, Below w.heap.size w X → X.cell? ⟨g, o + k * 3, none⟩ = some (.int .u8 r) ∧ X.cell? ⟨g, o + k * 3 + 1, none⟩ = some (.string s) ∧ X.cell? ⟨g, o + k * 3 + 2, none⟩ = some (.int .i64 val)) := fun k hk => by
    have hk2 : k < ls.length := by omega
    obtain ⟨g, o, e, hg, hc⟩ := hl (by omega)
    have hm := List.getElem_mem hk2
    have hw0 := (hwf _ hm).1
    simp only [Lit.wf, decide_eq_true_eq, Bool.and_eq_true] at hw0
    refine ⟨g, o, (ls[k]).skip, (ls[k]).plain, (ls[k]).name, e, ?_, ?_, hz _ hm, fun X hb => ?_⟩
    · have : IntKind.u8.min = 0 := by decide
      omega
    · have : IntKind.u8.max = 255 := by decide
      omega
    · obtain ⟨c0, c1, c2⟩ := hc k hk2
      exact ⟨(hb.cell (p := ⟨g, o + k * 3, none⟩) hg).trans c0, (hb.cell (p := ⟨g, o + k * 3 + 1, none⟩) hg).trans c1, (hb.cell (p := ⟨g, o + k * 3 + 2, none⟩) hg).trans c2⟩
  have HNEW := Lib.hid (New_any w)
  clear hh hls hl hz hwf
  go_enter Try.func3, Try.ntmps3
  go_wp2_with (first
    | (go_at_call 9; refine HH.out.mono ?_; rintro e w0 ⟨rfl, rfl⟩)
    | (go_at_call 10; refine HNEW.out.mono ?_; rintro e w1 ⟨rfl, hT, hb1⟩; have HT := Lib.hid hT; have HB1 := Lib.hid hb1; have HLN := Lib.hid (Len_any hT); have hz0 : Hid ((nents (rootN)).length = 0) := rfl; rw [hz0.out] at HLN; clear hT hb1)
    | (go_at_call 11; refine HLN.out.mono ?_; rintro e w2 ⟨rfl, rfl⟩))
  have HP0 : Hid (PlS w0 w2 w0.heap.size rootN [w0.heap.size] (.slice none 0 0) (kvs (nents rootN))) := ⟨HT.out, by simp, HB1.out, ⟨rfl, .inl ⟨rfl, rfl⟩⟩, fun q hq => by cases hq⟩
  clear HH HNEW HT HB1 HLN hz0
  obtain ⟨b, hb⟩ : ∃ b, b = w0.heap.size := ⟨_, rfl⟩
  rw [← hb] at HP0
  rw [← hb]
  clear hb
  go_loopw [4, 5] (fun mv i wr => ∃ (k : Nat) (n : No TV) (F : List Nat) (A2 : Option Addr) (z c2 : Nat), k ≤ N ∧ mv = .slice A2 z c2 ∧ i = .int .i64 k ∧ Hid (PlS w0 wr b n F (.slice A2 z c2) (kvs (nents n)) ∧ KeyOk (nents n) ∧ (nents n).length = z ∧ z ≤ k)) (fun _ i _ => N - (intOf i).toNat)
  case atStart => exact ⟨0, rootN, _, none, 0, 0, Nat.zero_le _, rfl, rfl, HP0.out, root_okG.2, rfl, Nat.le_refl _⟩
  case round =>
    obtain ⟨k, n, F, A2, z, c2, hk, rfl, rfl, HR⟩ := hrel
    rcases Nat.lt_or_ge k N with hkN | hkN
    · obtain ⟨g, o, r, val, s, rfl, hr0, hr1, hs, hx⟩ := HAT.out k hkN
      obtain ⟨c0, c1, c2'⟩ := hx _ HR.out.1.bel
      have HX := Lib.hid hx
      have hok : ok n := HR.out.1.tm.ok
      have hky := HR.out.2.1
      have hzk := HR.out.2.2.2
      have hzl := HR.out.2.2.1
      have HSZ := Lib.hid hs
      have i0 : (0 : Int) ≤ (k : Int) := by omega
      have i1 : (k : Int) < (N : Int) := by omega
      have hwk : IntKind.i64.wrap ((k : Int) + 1) = ((k + 1 : Nat) : Int) := by rw [IntKind.wrap_i64]; omega
      obtain ⟨nn, hnn⟩ : ∃ nn, isN s.data.toList = nn := ⟨_, rfl⟩
      have hr4 : Int.tmod r 4 = 0 ∨ Int.tmod r 4 = 1 ∨ Int.tmod r 4 = 2 ∨ Int.tmod r 4 = 3 := by
        rw [Int.tmod_eq_emod_of_nonneg hr0]; omega
      rcases hr4 with hr4 | hr4 | hr4 | hr4
      · cases nn with
        | false =>
          have HP := Lib.hid (pls_put_no HR.out.1 s (by omega) val hnn)
          have HRP : Hid (∀ X, PlS w0 X b n F (.slice A2 z c2) (kvs (nents n)) → Calls Try.prog 13 #[.slice A2 z c2, .string s, .int .i64 val] X fun e w' => e = .returned (.tuple #[.slice A2 z c2, .bool false, .int .i64 11]) ∧ PlS w0 w' b n F (.slice A2 z c2) (kvs (nents n))) := fun X h => pls_rput_no h s (by omega) val hnn
          have HLN : Hid (∀ X, PlS w0 X b n F (.slice A2 z c2) (kvs (nents n)) → Calls Try.prog 11 #[ptr b] X fun e w' => e = .returned (.int .i64 (z : Nat)) ∧ w' = X) := fun X h => h.len hzl
          have HAK : Hid (∀ X, PlS w0 X b n F (.slice A2 z c2) (kvs (nents n)) → Calls Try.prog 16 #[ptr b, .slice A2 z c2, .string s] X fun e w' => e = .returned (.bool true) ∧ Below X.heap.size X w') := fun X h => h.ask hky (by omega) s (by omega)
          clear hx hok hky hnn
          go_wp2_with (first
            | (go_at_call 12; refine HP.out.mono ?_; rintro e w3 ⟨rfl, hp3⟩; have P3 := Lib.hid hp3; obtain ⟨d0, d1, d2⟩ := HX.out _ hp3.bel; clear hp3)
            | (go_at_call 13; refine (HRP.out _ P3.out).mono ?_; rintro e w4 ⟨rfl, hp4⟩; have P4 := Lib.hid hp4; clear hp4)
            | (go_at_call 11; refine (HLN.out _ P4.out).mono ?_; rintro e w5 ⟨rfl, rfl⟩)
            | (go_at_call 16; refine (HAK.out _ P4.out).mono ?_; rintro e w6 ⟨rfl, hb6⟩; have HB6 := Lib.hid hb6; clear hb6))
          go_roundw
          case rel => exact ⟨k + 1, n, F, A2, z, c2, by omega, rfl, rfl, P4.out.below HB6.out (Nat.le_refl _), HR.out.2.1, HR.out.2.2.1, by omega⟩
          case measure => simp [intOf]; omega
        | true =>
          have hky2 : KeyOk (nents (putN s.data.toList val n)) := keyOk_put hnn hok hky
          have hzz := put_len (s := s.data.toList) (v := val) hok
          have hzz2 : (nents (putN s.data.toList val n)).length ≤ z + 1 := by rw [hzz, hzl]; split <;> omega
          have hp := pls_put_yes HR.out.1 (by omega) s (by omega) val hnn
          have hrp := fun X F' (h : PlS w0 X b (putN s.data.toList val n) F' (.slice A2 z c2) (kvs (nents n))) => pls_rput_yes hok hky (by omega) s (by omega) val hnn h
          obtain ⟨bt, hbt⟩ : ∃ bt, hasE (pth s.data.toList) (nents n) = bt := ⟨_, rfl⟩
          rw [hbt] at hp hrp
          obtain ⟨m, hm⟩ : ∃ m, putN s.data.toList val n = m := ⟨_, rfl⟩
          rw [hm] at hky2 hzz2 hp hrp
          obtain ⟨zz, hzzz⟩ : ∃ zz, (nents m).length = zz := ⟨_, rfl⟩
          rw [hzzz] at hzz2
          have HP := Lib.hid hp
          have HRP := Lib.hid hrp
          have HKM := Lib.hid hky2
          have HZM := Lib.hid hzzz
          have HFM : Hid (∀ X F' v', PlS w0 X b m F' v' (kvs (nents m)) → ∃ A c, v' = .slice A zz c) := fun X F' v' h => h.form hzzz
          have HLN : Hid (∀ X F' v', PlS w0 X b m F' v' (kvs (nents m)) → Calls Try.prog 11 #[ptr b] X fun e w' => e = .returned (.int .i64 (zz : Nat)) ∧ w' = X) := fun X F' v' h => h.len hzzz
          have HAK : Hid (∀ X F' v', PlS w0 X b m F' v' (kvs (nents m)) → Calls Try.prog 16 #[ptr b, v', .string s] X fun e w' => e = .returned (.bool true) ∧ Below X.heap.size X w') := fun X F' v' h => h.ask hky2 (by omega) s (by omega)
          clear hx hok hky hnn hzz hp hrp hbt hm hky2 hzzz
          go_wp2_with (first
            | (go_at_call 12; refine HP.out.mono ?_; rintro e w3 ⟨F3, rfl, hp3⟩; have P3 := Lib.hid hp3; obtain ⟨d0, d1, d2⟩ := HX.out _ hp3.bel; clear hp3)
            | (go_at_call 13; refine (HRP.out _ _ P3.out).mono ?_; rintro e w4 ⟨v4, rfl, hp4⟩; obtain ⟨A4, c4, hv4⟩ := HFM.out _ _ _ hp4; subst hv4; have P4 := Lib.hid hp4; clear hp4)
            | (go_at_call 11; refine (HLN.out _ _ _ P4.out).mono ?_; rintro e w5 ⟨rfl, rfl⟩)
            | (go_at_call 16; refine (HAK.out _ _ _ P4.out).mono ?_; rintro e w6 ⟨rfl, hb6⟩; have HB6 := Lib.hid hb6; clear hb6))
          go_roundw
          case rel => exact ⟨k + 1, m, F3, A4, zz, c4, by omega, rfl, rfl, P4.out.below HB6.out (Nat.le_refl _), HKM.out, HZM.out, by omega⟩
          case measure => simp [intOf]; omega
      · cases nn with
        | false =>
          have HP := Lib.hid (pls_put_no HR.out.1 s (by omega) val hnn)
          have HRP : Hid (∀ X, PlS w0 X b n F (.slice A2 z c2) (kvs (nents n)) → Calls Try.prog 13 #[.slice A2 z c2, .string s, .int .i64 val] X fun e w' => e = .returned (.tuple #[.slice A2 z c2, .bool false, .int .i64 11]) ∧ PlS w0 w' b n F (.slice A2 z c2) (kvs (nents n))) := fun X h => pls_rput_no h s (by omega) val hnn
          have HLN : Hid (∀ X, PlS w0 X b n F (.slice A2 z c2) (kvs (nents n)) → Calls Try.prog 11 #[ptr b] X fun e w' => e = .returned (.int .i64 (z : Nat)) ∧ w' = X) := fun X h => h.len hzl
          have HAK : Hid (∀ X, PlS w0 X b n F (.slice A2 z c2) (kvs (nents n)) → Calls Try.prog 16 #[ptr b, .slice A2 z c2, .string s] X fun e w' => e = .returned (.bool true) ∧ Below X.heap.size X w') := fun X h => h.ask hky (by omega) s (by omega)
          clear hx hok hky hnn
          go_wp2_with (first
            | (go_at_call 12; refine HP.out.mono ?_; rintro e w3 ⟨rfl, hp3⟩; have P3 := Lib.hid hp3; obtain ⟨d0, d1, d2⟩ := HX.out _ hp3.bel; clear hp3)
            | (go_at_call 13; refine (HRP.out _ P3.out).mono ?_; rintro e w4 ⟨rfl, hp4⟩; have P4 := Lib.hid hp4; clear hp4)
            | (go_at_call 11; refine (HLN.out _ P4.out).mono ?_; rintro e w5 ⟨rfl, rfl⟩)
            | (go_at_call 16; refine (HAK.out _ P4.out).mono ?_; rintro e w6 ⟨rfl, hb6⟩; have HB6 := Lib.hid hb6; clear hb6))
          go_roundw
          case rel => exact ⟨k + 1, n, F, A2, z, c2, by omega, rfl, rfl, P4.out.below HB6.out (Nat.le_refl _), HR.out.2.1, HR.out.2.2.1, by omega⟩
          case measure => simp [intOf]; omega
        | true =>
          have hky2 : KeyOk (nents (putN s.data.toList val n)) := keyOk_put hnn hok hky
          have hzz := put_len (s := s.data.toList) (v := val) hok
          have hzz2 : (nents (putN s.data.toList val n)).length ≤ z + 1 := by rw [hzz, hzl]; split <;> omega
          have hp := pls_put_yes HR.out.1 (by omega) s (by omega) val hnn
          have hrp := fun X F' (h : PlS w0 X b (putN s.data.toList val n) F' (.slice A2 z c2) (kvs (nents n))) => pls_rput_yes hok hky (by omega) s (by omega) val hnn h
          obtain ⟨bt, hbt⟩ : ∃ bt, hasE (pth s.data.toList) (nents n) = bt := ⟨_, rfl⟩
          rw [hbt] at hp hrp
          obtain ⟨m, hm⟩ : ∃ m, putN s.data.toList val n = m := ⟨_, rfl⟩
          rw [hm] at hky2 hzz2 hp hrp
          obtain ⟨zz, hzzz⟩ : ∃ zz, (nents m).length = zz := ⟨_, rfl⟩
          rw [hzzz] at hzz2
          have HP := Lib.hid hp
          have HRP := Lib.hid hrp
          have HKM := Lib.hid hky2
          have HZM := Lib.hid hzzz
          have HFM : Hid (∀ X F' v', PlS w0 X b m F' v' (kvs (nents m)) → ∃ A c, v' = .slice A zz c) := fun X F' v' h => h.form hzzz
          have HLN : Hid (∀ X F' v', PlS w0 X b m F' v' (kvs (nents m)) → Calls Try.prog 11 #[ptr b] X fun e w' => e = .returned (.int .i64 (zz : Nat)) ∧ w' = X) := fun X F' v' h => h.len hzzz
          have HAK : Hid (∀ X F' v', PlS w0 X b m F' v' (kvs (nents m)) → Calls Try.prog 16 #[ptr b, v', .string s] X fun e w' => e = .returned (.bool true) ∧ Below X.heap.size X w') := fun X F' v' h => h.ask hky2 (by omega) s (by omega)
          clear hx hok hky hnn hzz hp hrp hbt hm hky2 hzzz
          go_wp2_with (first
            | (go_at_call 12; refine HP.out.mono ?_; rintro e w3 ⟨F3, rfl, hp3⟩; have P3 := Lib.hid hp3; obtain ⟨d0, d1, d2⟩ := HX.out _ hp3.bel; clear hp3)
            | (go_at_call 13; refine (HRP.out _ _ P3.out).mono ?_; rintro e w4 ⟨v4, rfl, hp4⟩; obtain ⟨A4, c4, hv4⟩ := HFM.out _ _ _ hp4; subst hv4; have P4 := Lib.hid hp4; clear hp4)
            | (go_at_call 11; refine (HLN.out _ _ _ P4.out).mono ?_; rintro e w5 ⟨rfl, rfl⟩)
            | (go_at_call 16; refine (HAK.out _ _ _ P4.out).mono ?_; rintro e w6 ⟨rfl, hb6⟩; have HB6 := Lib.hid hb6; clear hb6))
          go_roundw
          case rel => exact ⟨k + 1, m, F3, A4, zz, c4, by omega, rfl, rfl, P4.out.below HB6.out (Nat.le_refl _), HKM.out, HZM.out, by omega⟩
          case measure => simp [intOf]; omega
      · cases nn with
        | false =>
          have HP := Lib.hid (pls_del_no HR.out.1 s (by omega) hnn)
          have HRP : Hid (∀ X, PlS w0 X b n F (.slice A2 z c2) (kvs (nents n)) → Calls Try.prog 15 #[.slice A2 z c2, .string s] X fun e w' => e = .returned (.tuple #[.slice A2 z c2, .bool false]) ∧ PlS w0 w' b n F (.slice A2 z c2) (kvs (nents n))) := fun X h => pls_rdel_no h hky (by omega) s (by omega) hnn
          have HLN : Hid (∀ X, PlS w0 X b n F (.slice A2 z c2) (kvs (nents n)) → Calls Try.prog 11 #[ptr b] X fun e w' => e = .returned (.int .i64 (z : Nat)) ∧ w' = X) := fun X h => h.len hzl
          have HAK : Hid (∀ X, PlS w0 X b n F (.slice A2 z c2) (kvs (nents n)) → Calls Try.prog 16 #[ptr b, .slice A2 z c2, .string s] X fun e w' => e = .returned (.bool true) ∧ Below X.heap.size X w') := fun X h => h.ask hky (by omega) s (by omega)
          clear hx hok hky hnn
          go_wp2_with (first
            | (go_at_call 14; refine HP.out.mono ?_; rintro e w3 ⟨rfl, hp3⟩; have P3 := Lib.hid hp3; clear hp3)
            | (go_at_call 15; refine (HRP.out _ P3.out).mono ?_; rintro e w4 ⟨rfl, hp4⟩; have P4 := Lib.hid hp4; clear hp4)
            | (go_at_call 11; refine (HLN.out _ P4.out).mono ?_; rintro e w5 ⟨rfl, rfl⟩)
            | (go_at_call 16; refine (HAK.out _ P4.out).mono ?_; rintro e w6 ⟨rfl, hb6⟩; have HB6 := Lib.hid hb6; clear hb6))
          go_roundw
          case rel => exact ⟨k + 1, n, F, A2, z, c2, by omega, rfl, rfl, P4.out.below HB6.out (Nat.le_refl _), HR.out.2.1, HR.out.2.2.1, by omega⟩
          case measure => simp [intOf]; omega
        | true =>
          have hky2 : KeyOk (nents (delN s.data.toList n)) := keyOk_del hok hky
          have hzz2 : (nents (delN s.data.toList n)).length ≤ z := by rw [del_ents hok, ← hzl]; exact List.length_filter_le _ _
          have hp := pls_del_yes HR.out.1 s (by omega) hnn
          have hrp := fun X F' (h : PlS w0 X b (delN s.data.toList n) F' (.slice A2 z c2) (kvs (nents n))) => pls_rdel_yes hok hky (by omega) s (by omega) hnn h
          obtain ⟨bt, hbt⟩ : ∃ bt, hasE (pth s.data.toList) (nents n) = bt := ⟨_, rfl⟩
          rw [hbt] at hp hrp
          obtain ⟨m, hm⟩ : ∃ m, delN s.data.toList n = m := ⟨_, rfl⟩
          rw [hm] at hky2 hzz2 hp hrp
          obtain ⟨zz, hzzz⟩ : ∃ zz, (nents m).length = zz := ⟨_, rfl⟩
          rw [hzzz] at hzz2
          have HP := Lib.hid hp
          have HRP := Lib.hid hrp
          have HKM := Lib.hid hky2
          have HZM := Lib.hid hzzz
          have HFM : Hid (∀ X F' v', PlS w0 X b m F' v' (kvs (nents m)) → ∃ A c, v' = .slice A zz c) := fun X F' v' h => h.form hzzz
          have HLN : Hid (∀ X F' v', PlS w0 X b m F' v' (kvs (nents m)) → Calls Try.prog 11 #[ptr b] X fun e w' => e = .returned (.int .i64 (zz : Nat)) ∧ w' = X) := fun X F' v' h => h.len hzzz
          have HAK : Hid (∀ X F' v', PlS w0 X b m F' v' (kvs (nents m)) → Calls Try.prog 16 #[ptr b, v', .string s] X fun e w' => e = .returned (.bool true) ∧ Below X.heap.size X w') := fun X F' v' h => h.ask hky2 (by omega) s (by omega)
          clear hx hok hky hnn hp hrp hbt hm hky2 hzzz
          go_wp2_with (first
            | (go_at_call 14; refine HP.out.mono ?_; rintro e w3 ⟨F3, rfl, hp3⟩; have P3 := Lib.hid hp3; clear hp3)
            | (go_at_call 15; refine (HRP.out _ _ P3.out).mono ?_; rintro e w4 ⟨v4, rfl, hp4⟩; obtain ⟨A4, c4, hv4⟩ := HFM.out _ _ _ hp4; subst hv4; have P4 := Lib.hid hp4; clear hp4)
            | (go_at_call 11; refine (HLN.out _ _ _ P4.out).mono ?_; rintro e w5 ⟨rfl, rfl⟩)
            | (go_at_call 16; refine (HAK.out _ _ _ P4.out).mono ?_; rintro e w6 ⟨rfl, hb6⟩; have HB6 := Lib.hid hb6; clear hb6))
          go_roundw
          case rel => exact ⟨k + 1, m, F3, A4, zz, c4, by omega, rfl, rfl, P4.out.below HB6.out (Nat.le_refl _), HKM.out, HZM.out, by omega⟩
          case measure => simp [intOf]; omega
      · have HLN := Lib.hid (HR.out.1.len hzl)
        have HAK := Lib.hid (HR.out.1.ask hky (by omega) s (by omega))
        clear hx hok hky hnn
        go_wp2_with (first
          | (go_at_call 11; refine HLN.out.mono ?_; rintro e w3 ⟨rfl, rfl⟩)
          | (go_at_call 16; refine HAK.out.mono ?_; rintro e w4 ⟨rfl, hb4⟩; have HB4 := Lib.hid hb4; clear hb4))
        go_roundw
        case rel => exact ⟨k + 1, n, F, A2, z, c2, by omega, rfl, rfl, HR.out.1.below HB4.out (Nat.le_refl _), HR.out.2.1, HR.out.2.2.1, by omega⟩
        case measure => simp [intOf]; omega
    · obtain rfl : N = k := by omega
      have hneg : ¬ ((N : Int) < (N : Int)) := by omega
      obtain ⟨wq, hwq⟩ : ∃ x, x = wr := ⟨_, rfl⟩
      subst hwq
      have hps := HR.out.1
      have hky := HR.out.2.1
      have hzl := HR.out.2.2.1
      have hzk := HR.out.2.2.2
      have HBQ := Lib.hid hps.bel
      have HASK : Hid (∀ (s : ByteArray) X, s.size ≤ 2000 → Below wq.heap.size wq X → Calls Try.prog 16 #[ptr b, .slice A2 z c2, .string s] X fun e w' => e = .returned (.bool true) ∧ Below X.heap.size X w') := fun s X hs hb => (hps.below hb (Nat.le_refl _)).ask hky (by omega) s (by omega)
      have HBL : Hid (∀ (s : ByteArray) X, s.size ≤ 2000 → Below wq.heap.size wq X → Calls Try.prog 18 #[ptr b, .string s] X fun e w' => ∃ v, e = .returned v ∧ PRow w' X.heap.size v (belowL n s.data.toList) ∧ Below X.heap.size X w') := fun s X hs hb => lawBelow_any (hps.below hb (Nat.le_refl _)).tm s (by omega)
      have HRB : Hid (∀ (s : ByteArray) X, s.size ≤ 2000 → Below wq.heap.size wq X → Calls Try.prog 19 #[.slice A2 z c2, .string s] X fun e w' => ∃ v, e = .returned v ∧ PRow w' X.heap.size v (belowL n s.data.toList) ∧ Below X.heap.size X w') := fun s X hs hb => by
        have := refBelow_any (hps.below hb (Nat.le_refl _)).row (kvs_small hky (by omega)) s (by omega)
        rw [below_list hky] at this
        exact this
      have HLL : Hid (∀ s, (belowL n s).length ≤ 1000000) := fun s => by
        unfold belowL
        split
        · rw [List.length_map]; exact Nat.le_trans (List.length_filter_le _ _) (by omega)
        · simp
      have HALL : Hid (∀ X, Below wq.heap.size wq X → Calls Try.prog 20 #[ptr b] X fun e w' => ∃ v, e = .returned v ∧ PRow w' X.heap.size v (kvs (nents n)) ∧ Below X.heap.size X w') := fun X hb => by
        have := lawAll_any (hps.below hb (Nat.le_refl _)).tm
        rw [told_all] at this
        exact this
      have HRW : Hid (∀ X, Below wq.heap.size wq X → PRd X (.slice A2 z c2) (kvs (nents n))) := fun X hb => PRow.rd (hps.below hb (Nat.le_refl _)).row
      have HKL : Hid ((kvs (nents n)).length ≤ 1000000) := by rw [Hid, kvs_len]; omega
      clear hps hky hzl hzk HR HP0
      go_wp2
      go_loopw [15] (fun i wz => ∃ j : Nat, j ≤ N ∧ i = .int .i64 j ∧ Hid (Below wq.heap.size wq wz)) (fun i _ => N - (intOf i).toNat)
      case atStart => exact ⟨0, Nat.zero_le _, rfl, Below.refl _ _⟩
      case round =>
        obtain ⟨j, hj, rfl, HB⟩ := hrel
        rcases Nat.lt_or_ge j N with hjt | hjge
        · obtain ⟨g, o, r, val, s, rfl, hr0, hr1, hs, hx⟩ := HAT.out j hjt
          have hbw := HBQ.out.trans (HB.out.mono HBQ.out.size)
          have c1 := (hx _ hbw).2.1
          have H1 : Hid (∀ X, Below wr.heap.size wr X → Calls Try.prog 16 #[ptr b, .slice A2 z c2, .string s] X fun e w' => e = .returned (.bool true) ∧ Below X.heap.size X w') := fun X hb => HASK.out s X hs (HB.out.trans (hb.mono HB.out.size))
          have H2 : Hid (∀ X, Below wr.heap.size wr X → Calls Try.prog 18 #[ptr b, .string s] X fun e w' => ∃ v, e = .returned v ∧ PRow w' X.heap.size v (belowL n s.data.toList) ∧ Below X.heap.size X w') := fun X hb => HBL.out s X hs (HB.out.trans (hb.mono HB.out.size))
          have H3 : Hid (∀ X, Below wr.heap.size wr X → Calls Try.prog 19 #[.slice A2 z c2, .string s] X fun e w' => ∃ v, e = .returned v ∧ PRow w' X.heap.size v (belowL n s.data.toList) ∧ Below X.heap.size X w') := fun X hb => HRB.out s X hs (HB.out.trans (hb.mono HB.out.size))
          have HL := Lib.hid (HLL.out s.data.toList)
          obtain ⟨L, hL⟩ : ∃ L, belowL n s.data.toList = L := ⟨_, rfl⟩
          rw [hL] at H2 H3 HL
          have H4 : Hid (∀ X u v, PRd X u L → PRd X v L → Calls Try.prog 17 #[u, v] X fun e w' => e = .returned (.bool true) ∧ Below X.heap.size X w') := fun X u v hu hv => by
            have := Same_any hu hv HL.out
            rwa [decide_eq_true rfl] at this
          have j0 : (0 : Int) ≤ (j : Int) := by omega
          have j1 : (j : Int) < (N : Int) := by omega
          have hwj : IntKind.i64.wrap ((j : Int) + 1) = ((j + 1 : Nat) : Int) := by rw [IntKind.wrap_i64]; omega
          have hlt : g < wr.heap.size := World.block_lt_of_cell? _ _ c1
          have HG := Lib.hid hlt
          clear hx hL hbw hlt
          go_wp2
          go_region_held3 (fun W => W.cell? ⟨g, o + j * 3 + 1, none⟩ = some (.string s) ∧ Below wr.heap.size wr W)
            (first
              | (go_keep; done)
              | (try dsimp only
                 repeat' apply And.intro
                 all_goals (first | exact c1 | exact (Below.refl _ _).drew | exact Below.refl _ _ | go_keep))
              | (go_split_ands
                 try dsimp only
                 refine ⟨keep_cell hbW (by assumption), keep_below hbW (by assumption) (Nat.le_refl _)⟩))
            (first
              | (go_at_call 16; go_split_ands; refine (H1.out _ (by assumption)).mono ?_; rintro e W1 ⟨rfl, hbW⟩)
              | (go_at_call 18; go_split_ands; refine (H2.out _ (by assumption)).mono ?_; rintro e W2 ⟨va, rfl, hra, hbW⟩; have HRA := Lib.hid hra; clear hra)
              | (go_at_call 19; go_split_ands; refine (H3.out _ (by assumption)).mono ?_; rintro e W3 ⟨vb, rfl, hrb, hbW⟩; have HRA := Lib.hid (ownK_below HRA.out hbW (Nat.le_refl _)); have HRB := Lib.hid hrb; clear hrb)
              | (go_at_call 17; refine (H4.out _ _ _ (PRow.rd HRA.out) (PRow.rd HRB.out)).mono ?_; rintro e W4 ⟨rfl, hbW⟩))
          go_split_ands
          go_wp2
          go_roundw
          case rel => exact ⟨j + 1, by omega, rfl, HB.out.trans (Below.mono (by assumption) HB.out.size)⟩
          case measure => simp [intOf]; omega
        · obtain rfl : N = j := by omega
          have hnj : ¬ ((N : Int) < (N : Int)) := by omega
          have H4 : Hid (∀ X u v, PRd X u (kvs (nents n)) → PRd X v (kvs (nents n)) → Calls Try.prog 17 #[u, v] X fun e w' => e = .returned (.bool true) ∧ Below X.heap.size X w') := fun X u v hu hv => by
            have := Same_any hu hv HKL.out
            rwa [decide_eq_true rfl] at this
          go_wp2_with (first
            | (go_at_call 20; refine (HALL.out _ HB.out).mono ?_; rintro e w8 ⟨v8, rfl, hr8, hb8⟩; have HR8 := Lib.hid hr8; have B8 := Lib.hid (HB.out.trans (hb8.mono HB.out.size)); clear hr8 hb8)
            | (go_at_call 17; refine (H4.out _ _ _ (PRow.rd HR8.out) (HRW.out _ B8.out)).mono ?_; rintro e w9 ⟨rfl, hb9⟩; have B9 := Lib.hid (B8.out.trans (hb9.mono B8.out.size)); clear hb9))
          go_ret
          exact ⟨rfl, HBQ.out.trans (B9.out.mono HBQ.out.size)⟩
set_option maxRecDepth 100000 in
theorem plays_big {w : World} {A : Option Addr} {N c : Nat} (hh : Calls Try.prog 9 #[.slice A N c] w fun e w' => e = .returned (.bool true) ∧ w' = w) :
    Calls Try.prog 3 #[.slice A N c] w fun e w' => e = .returned (.bool true) ∧ Below w.heap.size w w' := by
  have HH := Lib.hid hh
  clear hh
  go_enter Try.func3, Try.ntmps3
  go_wp2_with (go_at_call 9; refine HH.out.mono ?_; rintro e w1 ⟨rfl, rfl⟩)
  go_ret
  exact ⟨rfl, Below.refl _ _⟩
theorem walk_TreePlays (w : World) (A : Option Addr) (ls : List Sp) (c : Nat) (_ : ls.length ≤ c) (_ : A = none → c = 0) (hr : Sps w w.heap.size A ls) (hwf : ∀ x ∈ ls, ((Lit.int .u8 x.skip).wf = true ∧ (Lit.int .i64 x.plain).wf = true)) (_ : ∀ x ∈ ls, x.name.size ≤ 140737488351232) :
    Calls Try.prog 3 #[.slice A ls.length c] w fun e w' => e = .returned (.bool true) ∧ Below w.heap.size w w' := by
  have hh := long_any (c := c) w rfl hr
  cases hv : longL ls with
  | true =>
    rw [hv] at hh
    exact plays_big hh
  | false =>
    rw [hv] at hh
    obtain ⟨h1, h2⟩ := long_no hv
    exact plays_main hh rfl hr h1 h2 hwf

namespace treePlays
open Go.ChangeShapes Go.WideShapes Go.ChangeAt
open Go.ChangeMaps (open_string shut_string)
set_option maxRecDepth 100000 in
theorem contract (H : Type) (enc : TypeId × Value → H) (W : World) (base : Nat) (args : Array Value) (ds gs : List (DataW H)) (before : List MemPlace)
    (hval : ∀ (j : Nat) t v, Try.f3.params[j]? = some t → args[j]? = some v → Value.okWide Try.prog W .any base t v)
    (hW : DataW.Whole enc Try.prog Try.f3.params.toList Rows.treePlaysSpec.vars false W args.toList ds gs before)
    (hR : (DataW.weightsEach Try.prog (Try.f3.params.toList ++ (OpenSpec.ofChange Rows.treePlaysSpec).bare.plain.varTypes Try.prog) (ds ++ gs)).all (· ≤ reachBytes) = true) :
    Calls Try.prog 3 args W fun e W' => ∃ v, e = .returned v ∧ Rows.treePlaysSpec.post enc Try.prog Try.f3 false true false false W args v W' := by
  have hW' := hW
  obtain ⟨p, q, hA0, hV, rfl, hfz, hnd⟩ := hW
  have hA : DataW.TrodAll enc Try.prog W 0 (fun _ => true) true Try.f3.params.toList args.toList ds p := hA0
  have HS := trodAll_stays (W' := W) (sp := fun _ => true) out (by kernel_rfl) hA
  have HA := Lib.hid hA
  rw [Try.params3] at hA hval hR
  obtain ⟨v0, vs0, d0, ds0, p0, q0, hargs0, rfl, rfl, h0, r0⟩ := trodAll_cons hA
  obtain ⟨rfl, rfl, rfl⟩ := trodAll_nil r0
  obtain rfl : args = #[v0] := by cases args; simp_all
  obtain ⟨rfl, rfl⟩ := trodVars_none hV
  obtain ⟨A0, l, c0, rfl, hc0, hn0, hb0, hw0, hm0⟩ := open_steps Try.underlying22 Try.underlying30 rfl Try.underlying5 Try.underlying28 Try.underlying3 (by kernel_rfl) (by kernel_rfl) (hval 0 22 v0 rfl rfl) h0
  clear hA0 HS
  obtain ⟨k0, s0⟩ := reach_cons hR
  refine (walk_TreePlays W A0 l c0 hc0 hn0 hb0 hw0 (hm0 k0)).mono fun e W' ⟨he, hb⟩ => ?_
  subst he
  have hlt := hW'.lt
  refine ⟨_, rfl, post_low hW' (pa := _) (pv := []) rfl hb (fun _ _ _ => trodAll_cons_mk (shut_bool Try.underlying4 _) trodAll_mk0) (fun sp hsp => ?_) (fun _ _ => rfl) (ok_one (by kernel_rfl) rfl (okWide_bool_mk Try.underlying4 _))⟩
  exact trodAll_stays out (by kernel_rfl) HA.out (fun x hx => hb.same (hlt x (List.mem_append_left _ hx))) (fun x hx => hsp x (List.mem_append_left _ hx))

noncomputable def wargs : Array Value := #[.slice none 0 0]
noncomputable def lw (os : Os) : World := World.settled Try.prog os
theorem reads (os : Os) {H : Type} (enc : TypeId × Value → H) : ∃ places, DataW.whole enc Try.prog ((lw os).forCall (fun _ _ => 0) ⟨#[], wargs, []⟩).memory Try.f3.params.toList Rows.treePlaysSpec.vars false wargs.toList 8 = some ([.nil], [], places) :=
  ⟨[], by kernel_rfl⟩
set_option maxRecDepth 100000 in
theorem lifted (os : Os) (started : os.Started) (H : Type) (enc : TypeId × Value → H) (G : Stop.Interp) :
    ReturnsInHanded {} Try.checked os 3 .any ((OpenSpec.ofChange Rows.treePlaysSpec).preRow enc Try.prog Try.f3 Rows.treePlaysRow.domain false Rows.treePlaysRow.laid) (((OpenSpec.ofChange Rows.treePlaysSpec).at G).post enc Try.prog Try.f3 false true false false) := by
  obtain ⟨places, hx⟩ := reads os enc
  refine returnsInHanded_of_row (C := Try.checked) (s := OpenSpec.ofChange Rows.treePlaysSpec) own started (by kernel_rfl) Try.func3
    (witness_row_atRef (enc := enc) (C := Try.checked) false (lw os) wargs rfl (by kernel_rfl) (by kernel_rfl) (by kernel_rfl)
      (OpenSpec.preRow_of_cond 8 hx (by kernel_rfl) (fun k hk => by cases hk) (by kernel_rfl) (laidMetH_nil _ _))) ?_
  intro W base args ds gs before hval hW _ _ hR _ _ _
  exact contract H enc W base args ds gs before hval hW hR
/-- THE STATEMENT. -/
theorem said : Rows.TreePlaysSaid :=
  OpenClaim.holds_of_cond 3 Try.f3 rfl rfl rfl rfl rfl rfl rfl ⟨rfl, rfl, rfl, rfl, rfl⟩ rfl rfl rfl rfl rfl (by kernel_rfl) Try.func3 (by kernel_rfl)
    (of_decide_eq_true (by kernel_rfl)) (by unfold Func.isWrapper; first | (rw [if_pos (by decide +kernel)]; kernel_rfl) | (rw [if_neg (by decide +kernel)]; exact ⟨rfl, rfl⟩))
    (fun os started H enc _ G => by rw [OpenClaim.pre_eq_preRow]; exact lifted os started H enc G)
end treePlays
end Go.Proofs.Ytpnfkgjcnofjnaa
