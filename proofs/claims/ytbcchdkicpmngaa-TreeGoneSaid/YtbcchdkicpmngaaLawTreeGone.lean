/- TreeGone. -/
import Derived.Test.YtbcchdkicpmngaaLwGoneM
namespace Go.Proofs.Ytbcchdkicpmngaa
open Go.RowKit Go.Shelf Tr Ti

set_option maxRecDepth 100000 in
set_option maxHeartbeats 4000000 in
theorem gone_main {w : World} {A A' : Option Addr} {nl c nm d : Nat} {ls ms : List (List UInt8)} (s : ByteArray) (hs : s.size ≤ 2000)
    (hh : Calls Try.prog 21 #[.slice A nl c] w fun e w' => e = .returned (.bool false) ∧ w' = w)
    (hh2 : Calls Try.prog 21 #[.slice A' nm d] w fun e w' => e = .returned (.bool false) ∧ w' = w)
    (hls : ls.length = nl) (hms : ms.length = nm) (hl : Rd w w.heap.size (.slice A nl c) ls) (hm : Rd w w.heap.size (.slice A' nm d) ms) (h1 : nl ≤ 60) (h2 : nm ≤ 60) (hz1 : ∀ s ∈ ls, s.length ≤ 2000) (hz2 : ∀ s ∈ ms, s.length ≤ 2000) :
    Calls Try.prog 6 #[.slice A nl c, .slice A' nm d, .string s] w fun e w' => e = .returned (.bool true) ∧ Below w.heap.size w w' := by
  have HH := Lib.hid hh
  have HH2 := Lib.hid hh2
  have HG := Lib.hid (grown_any w hls hl h1 hz1)
  obtain ⟨m, hmm⟩ : ∃ m, m = growN ls 0 rootN := ⟨_, rfl⟩
  rw [← hmm] at HG
  have hs' : ¬ (2000 : Int) < (s.size : Int) := by omega
  have hsb : s.size ≤ 140737488355328 := by omega
  have HM := Lib.hid hm
  have HMS := Lib.hid hms
  have HZ2 := Lib.hid hz2
  have HNM := Lib.hid h2
  obtain ⟨hok, _⟩ := grow_ok ls 0 rootN root_okG.1 root_okG.2
  rw [← hmm] at hok
  have HOK := Lib.hid hok
  obtain ⟨ex, hex⟩ : ∃ ex, (isN s.data.toList && exE (pth s.data.toList) (nents m)) = ex := ⟨_, rfl⟩
  obtain ⟨es, hes⟩ : ∃ es : ByteArray, es = ⟨((encR m s.data.toList).getD []).toArray⟩ := ⟨_, rfl⟩
  obtain ⟨et, het⟩ : ∃ et, (encR m s.data.toList).isSome = et := ⟨_, rfl⟩
  have HEX := Lib.hid hex
  have HEN : Hid (optB (encR m s.data.toList) = .tuple #[.string es, .bool et]) := by rw [Hid, optB, ← hes, het]
  clear hh hh2 hls hl hz1 hmm hm hz2 hms hok hex hes het
  go_enter Try.func6, Try.ntmps6
  go_wp2_with (first
    | (go_at_call 21; refine HH.out.mono ?_; rintro e w1 ⟨rfl, rfl⟩; clear HH)
    | (go_at_call 21; refine HH2.out.mono ?_; rintro e w1 ⟨rfl, rfl⟩; clear HH2)
    | (go_at_call 22; refine HG.out.mono ?_; rintro e w2 ⟨rfl, ⟨F, hT, hF⟩, hb2, hlen⟩; have HT := Lib.hid hT; have HF := Lib.hid hF; have HB2 := Lib.hid hb2; clear hT hF hb2)
    | (go_at_call 20; refine (lawAll_any HT.out).mono ?_; rintro e w3 ⟨vw, rfl, hr3, hb3⟩; have HB3 := Lib.hid hb3; have HR3 := Lib.hid hr3; have HT3 := Lib.hid (HT.out.below hb3 (Nat.le_refl _)); clear hb3 hr3)
    | (go_at_call 31; have hxx := Exists_any HT3.out s hsb; rw [HEX.out] at hxx; refine hxx.mono ?_; clear hxx; rintro e w4 ⟨rfl, hb4⟩; have HB4 := Lib.hid hb4; have HT4 := Lib.hid (HT3.out.below hb4 (Nat.le_refl _)); clear hb4)
    | (go_at_call 30; have hxx := Encloser_any HT4.out s hsb; rw [HEN.out] at hxx; refine hxx.mono ?_; clear hxx; rintro e w5 ⟨rfl, hb5⟩; have HB5 := Lib.hid hb5; have HT5 := Lib.hid (HT4.out.below hb5 (Nat.le_refl _)); clear hb5))
  have hB25 : Below w2.heap.size w2 w5 := (HB3.out.trans (HB4.out.mono HB3.out.size)).trans (HB5.out.mono (Nat.le_trans HB3.out.size HB4.out.size))
  have HGN : Hid (GnS w1 w5 w1.heap.size vw (belowL m [0]) m [] (.slice none 0 0) F) := by
    have hw5 : PRow w5 w2.heap.size vw (belowL m [0]) := ownK_below (ownK_below HR3.out HB4.out (Nat.le_refl _)) HB5.out (Nat.le_refl _)
    have hz := HB2.out.size
    refine ⟨HT5.out, HF.out, HB2.out.trans (hB25.mono hz), own_mono hw5 hz, fun q hq hm => ?_, ⟨by simp [svs], .inl ⟨rfl, rfl⟩⟩, (fun q hq => by cases hq), (fun q hq => by cases hq)⟩
    have h1 := HT.out.node.lt q hm
    have h2 := (HR3.out.lt q hq).1
    omega
  have HBL : Hid ((belowL m [0]).length ≤ 1000000) := by
    unfold belowL
    split
    · rw [Hid, List.length_map]; exact Nat.le_trans (List.length_filter_le _ _) HT.out.few
    · simp [Hid]
  generalize hLL : belowL m [0] = L at *
  have HLL := Lib.hid hLL
  clear hLL
  clear HB3 HB4 HB5 HR3 HT3 HT4 HT5 hB25 HT HF HB2
  go_loopw [12, 13] (fun vf i wr => ∃ (k : Nat) (A2 : Option Addr) (n2 c2 : Nat) (fr : List By) (m2 : No TV) (F2 : List Nat), k ≤ nm ∧ i = .int .i64 k ∧ vf = .slice A2 n2 c2 ∧ Hid (n2 = fr.length) ∧ Hid (GnS w1 wr w1.heap.size vw L m2 fr (.slice A2 n2 c2) F2 ∧ GoneOk (nents m) m2 fr ∧ fr.length ≤ k ∧ (nents m2).length ≤ nl + k ∧ ∀ x ∈ fr, x.length ≤ 2000)) (fun _ i _ => nm - (intOf i).toNat)
  case atStart => exact ⟨0, none, 0, 0, [], m, F, Nat.zero_le _, rfl, rfl, rfl, HGN.out, gone_nil m, Nat.le_refl _, by omega, by simp⟩
  case round =>
    obtain ⟨k, A2, n2, c2, fr, m2, F2, hk, rfl, rfl, HN2, HR⟩ := hrel
    by_cases hlt : k < nm
    · have hrdk := fun (X : World) (hb : Below w1.heap.size w1 X) => Rd.at (HM.out.keep hb) hlt
      obtain ⟨g0, o0, rfl, hl0, _⟩ := hrdk _ HR.out.1.bel
      have hcl : ∀ (X : World), Below w1.heap.size w1 X → X.cell? ⟨g0, o0 + k, none⟩ = some (sv ms[k]) := fun X hb => by
        obtain ⟨g, o, e, hl, hc⟩ := hrdk X hb
        injection e with e; injection e with e1 e2; subst e1 e2; exact hc
      have hx := HZ2.out _ (List.getElem_mem hl0)
      generalize ms[k] = x at *
      have i0 : (0 : Int) ≤ (k : Int) := by omega
      have i1 : (k : Int) < (nm : Int) := by omega
      have hwr : IntKind.i64.wrap ((k : Int) + 1) = ((k + 1 : Nat) : Int) := by rw [IntKind.wrap_i64]; omega
      have hcell := hcl _ HR.out.1.bel
      have HC := Lib.hid hcl
      have hxs : x.length ≤ 140737488355328 := by omega
      have HXL := Lib.hid hx
      have HGET := Lib.hid (Get_any HR.out.1.tm ⟨x.toArray⟩ hxs)
      rw [arr_list] at HGET
      obtain ⟨g, hg⟩ : ∃ g, (getR m2 x).isSome = g := ⟨_, rfl⟩
      obtain ⟨gv, hgv⟩ : ∃ gv, (getR m2 x).getD 0 = gv := ⟨_, rfl⟩
      rw [hg, hgv] at HGET
      have HIS : Hid (∀ X, Calls Try.prog 27 #[.string ⟨x.toArray⟩] X fun e w' => e = .returned (.bool (isN x)) ∧ Below X.heap.size X w') := fun X => by
        have := refIs_any ⟨x.toArray⟩ X hxs
        rwa [arr_list] at this
      have HHAS : Hid (isN x = true → hasE (pth x) (nents m2) = g) := fun hn => by
        rw [← hg]
        simp only [getR, hn, if_true, Option.isSome_map]
        unfold hasE
        rw [getE_any]
      clear hrdk hl0 hcl hx hg hgv
      cases g with
      | true =>
        go_wp2_with (go_at_call 26; refine HGET.out.mono ?_; rintro e w6 ⟨rfl, hb6⟩; have G6 := Lib.hid (HR.out.1.below hb6 (Nat.le_refl _)); clear hb6)
        go_roundw
        case rel => exact ⟨k + 1, A2, n2, c2, fr, m2, F2, by omega, rfl, rfl, HN2, G6.out, HR.out.2.1, by have := HR.out.2.2.1; omega, by have := HR.out.2.2.2.1; omega, HR.out.2.2.2.2⟩
        case measure => simp [intOf]; omega
      | false =>
        cases hi : isN x with
        | false =>
          rw [hi] at HIS
          clear hi
          go_wp2_with (first
            | (go_at_call 26; refine HGET.out.mono ?_; rintro e w6 ⟨rfl, hb6⟩; have G6 := Lib.hid (HR.out.1.below hb6 (Nat.le_refl _)); have c6 := HC.out _ G6.out.bel; clear hb6)
            | (go_at_call 27; refine (HIS.out _).mono ?_; rintro e w7 ⟨rfl, hb7⟩; have G7 := Lib.hid (G6.out.below hb7 (Nat.le_refl _)); clear hb7))
          go_roundw
          case rel => exact ⟨k + 1, A2, n2, c2, fr, m2, F2, by omega, rfl, rfl, HN2, G7.out, HR.out.2.1, by have := HR.out.2.2.1; omega, by have := HR.out.2.2.2.1; omega, HR.out.2.2.2.2⟩
          case measure => simp [intOf]; omega
        | true =>
          have hhas := HHAS.out hi
          rw [hi] at HIS
          have HPUT : Hid (∀ X, TM X w1.heap.size m2 F2 → Calls Try.prog 12 #[ptr w1.heap.size, .string ⟨x.toArray⟩, tz (-1)] X fun e w' => ∃ F', e = .returned (.tuple #[.bool true, .int .i64 0]) ∧ TM w' w1.heap.size (putN x (-1) m2) F' ∧ New X F2 F' ∧ Only F2 X w') := fun X hT => by
            have := Put_any hT (by have := HR.out.2.2.2.1; have := HNM.out; omega) ⟨x.toArray⟩ (-1) hxs (by rw [arr_list]; exact hi)
            rw [arr_list, hhas] at this
            exact this
          have HGO : Hid (GoneOk (nents m) (putN x (-1) m2) (fr ++ [x])) := gone_put HR.out.1.tm.ok HR.out.2.1 hi hhas _
          have hpl := put_len (s := x) (v := (-1 : Int)) HR.out.1.tm.ok
          rw [hhas] at hpl
          have HPL := Lib.hid hpl
          have hfl : fr.length ≤ 1000000 := by have := HR.out.2.2.1; omega
          clear hi hhas hpl
          go_wp2_with (first
            | (go_at_call 26; refine HGET.out.mono ?_; rintro e w6 ⟨rfl, hb6⟩; have G6 := Lib.hid (HR.out.1.below hb6 (Nat.le_refl _)); have c6 := HC.out _ G6.out.bel; clear hb6)
            | (go_at_call 27; refine (HIS.out _).mono ?_; rintro e w7 ⟨rfl, hb7⟩; have G7 := Lib.hid (G6.out.below hb7 (Nat.le_refl _)); have c7 := HC.out _ G7.out.bel; clear hb7)
            | (go_at_call 12; refine (HPUT.out _ G7.out.tm).mono ?_; rintro e w8 ⟨F3, rfl, hT8, hn8, ho8⟩; have G8 := Lib.hid (G7.out.only hT8 hn8 ho8); have c8 := HC.out _ G8.out.bel; obtain ⟨A3, c3, w9, hr9, g9⟩ := G8.out.app x hfl; have G9 := Lib.hid g9; obtain ⟨n3, hn3⟩ : ∃ n3, n3 = fr.length + 1 := ⟨_, rfl⟩; rw [← hn3] at hr9 G9; have HR9 := Lib.hid hr9; have HN3 := Lib.hid hn3; clear hT8 hn8 ho8 g9 hr9 hn3)
            | (at_builtin; refine wpList_append_at rfl (.tmp 82) (.tmp 87) 44 rfl _ _ rfl rfl HR9.out ?_; clear HR9))
          go_roundw
          case rel =>
            refine ⟨k + 1, A3, n3, c3, fr ++ [x], _, F3, by omega, rfl, rfl, ?_, G9.out, HGO.out, ?_, ?_, fun y hy => ?_⟩
            · have := HN3.out; rw [Hid]; simp; omega
            · have := HR.out.2.2.1; simp; omega
            · have h0 := HPL.out; have := HR.out.2.2.2.1; simp at h0; omega
            · rcases List.mem_append.1 hy with hy | hy
              · exact HR.out.2.2.2.2 y hy
              · simp at hy; subst hy; exact HXL.out
          case measure => simp [intOf]; omega
    · obtain rfl : k = nm := by omega
      have hneg : ¬ ((k : Int) < (k : Int)) := by omega
      go_wp2
      obtain ⟨HG0, HO0, _, _, HZ0⟩ := HR.out
      have HG1 := Lib.hid HG0
      have HO1 := Lib.hid HO0
      have HZ1 := Lib.hid HZ0
      clear HR HG0 HO0 HZ0 HGN
      go_loopw [18] (fun i wr => ∃ (j : Nat) (m3 : No TV) (F3 : List Nat), j ≤ n2 ∧ i = .int .i64 j ∧ Hid (GnS w1 wr w1.heap.size vw L m3 fr (.slice A2 n2 c2) F3 ∧ nents m3 = (nents m2).filter (outF (fr.take j)))) (fun i _ => n2 - (intOf i).toNat)
      case atStart =>
        refine ⟨0, m2, F2, Nat.zero_le _, rfl, HG1.out, ?_⟩
        symm
        rw [List.filter_eq_self]
        intro a _; rfl
      case round =>
        obtain ⟨j, m3, F3, hj, rfl, HR⟩ := hrel
        by_cases hjt : j < n2
        · have hjl : j < fr.length := by have := HN2.out; omega
          have hrow : ∀ {X : World} {m' : No TV} {F' : List Nat}, GnS w1 X w1.heap.size vw L m' fr (.slice A2 n2 c2) F' → X.ownsRow w1.heap.size 28 1 (.slice A2 n2 c2) n2 (svs fr) := fun h => by
            have := h.row
            rwa [← HN2.out] at this
          obtain ⟨g0, rfl, _, _⟩ := own_at (hrow HR.out.1) hjt
          have hcl : ∀ {X : World} {m' : No TV} {F' : List Nat}, GnS w1 X w1.heap.size vw L m' fr (.slice (some ⟨g0, 0, none⟩) n2 c2) F' → X.cell? ⟨g0, j, none⟩ = some (sv fr[j]) := fun h => by
            obtain ⟨g, e, _, hc⟩ := own_at (hrow h) hjt
            injection e with e; injection e with e; subst e
            exact hc j _ (by simp [svs, hjl])
          have hok3 := HR.out.1.tm.ok
          have hmem := List.getElem_mem hjl
          obtain ⟨hi, _, hK⟩ := HO1.out.1 _ hmem
          have hx := HZ1.out _ hmem
          have h1h := has_at hjl HO1.out.2.1 hK
          rw [← HR.out.2] at h1h
          have h2h := del_step hjl hok3 HR.out.2
          generalize fr[j] = y at *
          have hys : (⟨y.toArray⟩ : ByteArray).size ≤ 140737488355328 := by rw [arr_size]; omega
          have hiy : isN (⟨y.toArray⟩ : ByteArray).data.toList = true := by rw [arr_list]; exact hi
          have hcell := hcl HR.out.1
          have HC : Hid (∀ {X : World} {m' : No TV} {F' : List Nat}, GnS w1 X w1.heap.size vw L m' fr (.slice (some ⟨g0, 0, none⟩) n2 c2) F' → X.cell? ⟨g0, j, none⟩ = some (sv y)) := hcl
          have hng : hasE (pth y) (nents (delN y m3)) = false := by rw [del_ents hok3]; exact has_gone
          have HD1 : Hid (∀ X F, TM X w1.heap.size m3 F → Calls Try.prog 14 #[ptr w1.heap.size, .string ⟨y.toArray⟩] X fun e w' => ∃ F', e = .returned (.bool true) ∧ TM w' w1.heap.size (delN y m3) F' ∧ New X F F' ∧ Only F X w') := fun X F hT => by
            have := Del_any hT _ hys hiy
            rw [arr_list, h1h] at this
            exact this
          have HD2 : Hid (∀ X F, TM X w1.heap.size (delN y m3) F → Calls Try.prog 14 #[ptr w1.heap.size, .string ⟨y.toArray⟩] X fun e w' => ∃ F', e = .returned (.bool false) ∧ TM w' w1.heap.size (delN y (delN y m3)) F' ∧ New X F F' ∧ Only F X w') := fun X F hT => by
            have := Del_any hT _ hys hiy
            rw [arr_list, hng] at this
            exact this
          have hok4 : ok (delN y m3) := (drop_ents hok3).2.2
          have HE2 : Hid (nents (delN y (delN y m3)) = (nents m2).filter (outF (fr.take (j + 1)))) := by rw [Hid, del_again hok4 hng, h2h]
          have i0 : (0 : Int) ≤ (j : Int) := by omega
          have i1 : (j : Int) < (n2 : Int) := by omega
          have hn2b : n2 ≤ 1000000 := by
            have h5 := HN2.out
            have h6 := HG1.out.tm.few
            have h7 : fr.length ≤ 60 := by omega
            omega
          have hwr : IntKind.i64.wrap ((j : Int) + 1) = ((j + 1 : Nat) : Int) := by rw [IntKind.wrap_i64]; omega
          clear hrow hcl hok3 hmem hi hK hx h1h h2h hng hok4 hjl
          go_wp2_with (first
            | (go_at_call 14; refine (HD1.out _ _ HR.out.1.tm).mono ?_; rintro e w6 ⟨F6, rfl, hT6, hn6, ho6⟩; have G6 := Lib.hid (HR.out.1.only hT6 hn6 ho6); have c6 := HC.out G6.out; clear hT6 hn6 ho6 HD1)
            | (go_at_call 14; refine (HD2.out _ _ G6.out.tm).mono ?_; rintro e w7 ⟨F7, rfl, hT7, hn7, ho7⟩; have G7 := Lib.hid (G6.out.only hT7 hn7 ho7); clear hT7 hn7 ho7))
          go_roundw
          case rel => exact ⟨j + 1, _, F7, by omega, rfl, G7.out, HE2.out⟩
          case measure => simp [intOf]; omega
        · obtain rfl : j = n2 := by omega
          have hneg2 : ¬ ((j : Int) < (j : Int)) := by omega
          have hE : nents m3 = nents m := by rw [HR.out.2]; exact outF_all HO1.out (by have := HN2.out; omega)
          have hok3 := HR.out.1.tm.ok
          have HENC : Hid (∀ X F, TM X w1.heap.size m3 F → Calls Try.prog 30 #[ptr w1.heap.size, .string s] X fun e w' => e = .returned (.tuple #[.string es, .bool et]) ∧ Below X.heap.size X w') := fun X F hT => by
            have := Encloser_any hT s hsb
            rw [enc_same hok3 HOK.out hE, HEN.out] at this
            exact this
          have HALL : Hid (∀ X F, TM X w1.heap.size m3 F → Calls Try.prog 20 #[ptr w1.heap.size] X fun e w' => ∃ v, e = .returned v ∧ PRow w' X.heap.size v L ∧ Below X.heap.size X w') := fun X F hT => by
            have := lawAll_any hT
            rw [below_same hE, HLL.out] at this
            exact this
          have HEXI : Hid (∀ X F, TM X w1.heap.size m3 F → Calls Try.prog 31 #[ptr w1.heap.size, .string s] X fun e w' => e = .returned (.bool ex) ∧ Below X.heap.size X w') := fun X F hT => by
            have := Exists_any hT s hsb
            rw [hE, HEX.out] at this
            exact this
          have G5 := Lib.hid HR.out.1
          have hq1 : (es.toList == es.toList) = true := beq_self_eq_true _
          clear hE hok3 HR
          go_wp2_with (first
            | (go_at_call 30; refine (HENC.out _ _ G5.out.tm).mono ?_; rintro e w6 ⟨rfl, hb6⟩; have G6 := Lib.hid (G5.out.below hb6 (Nat.le_refl _)); clear hb6)
            | (go_at_call 20; refine (HALL.out _ _ G6.out.tm).mono ?_; rintro e w7 ⟨v7, rfl, hr7, hb7⟩; have G7 := Lib.hid (G6.out.below hb7 (Nat.le_refl _)); have R7 := Lib.hid hr7.rd; clear hr7 hb7)
            | (go_at_call 17; have hsm := Same_any R7.out G7.out.was.rd HBL.out; rw [decide_eq_true rfl] at hsm; refine hsm.mono ?_; clear hsm; rintro e w8 ⟨rfl, hb8⟩; have G8 := Lib.hid (G7.out.below hb8 (Nat.le_refl _)); clear hb8)
            | (go_at_call 31; refine (HEXI.out _ _ G8.out.tm).mono ?_; rintro e w9 ⟨rfl, hb9⟩; have G9 := Lib.hid (G8.out.below hb9 (Nat.le_refl _)); clear hb9)
            | (go_at_call 29; refine (grows_any _).mono ?_; rintro e w10 ⟨rfl, hb10⟩; have G10 := Lib.hid (G9.out.below hb10 (Nat.le_refl _)); clear hb10))
          go_ret
          exact ⟨rfl, G10.out.bel⟩
set_option maxRecDepth 100000 in
theorem gone_big {w : World} {A A' : Option Addr} {nl c nm d : Nat} (s : ByteArray) (h1 h2 : Bool)
    (hh : Calls Try.prog 21 #[.slice A nl c] w fun e w' => e = .returned (.bool h1) ∧ w' = w)
    (hh2 : Calls Try.prog 21 #[.slice A' nm d] w fun e w' => e = .returned (.bool h2) ∧ w' = w) (hb : h1 = false → h2 = false → 2000 < s.size) :
    Calls Try.prog 6 #[.slice A nl c, .slice A' nm d, .string s] w fun e w' => e = .returned (.bool true) ∧ Below w.heap.size w w' := by
  have HH := Lib.hid hh
  have HH2 := Lib.hid hh2
  clear hh hh2
  cases h1 with
  | true =>
    clear hb
    go_enter Try.func6, Try.ntmps6
    go_wp2_with (go_at_call 21; refine HH.out.mono ?_; rintro e w1 ⟨rfl, rfl⟩; clear HH)
    go_ret
    exact ⟨rfl, Below.refl _ _⟩
  | false =>
    cases h2 with
    | true =>
      clear hb
      go_enter Try.func6, Try.ntmps6
      go_wp2_with (first
        | (go_at_call 21; refine HH.out.mono ?_; rintro e w1 ⟨rfl, rfl⟩; clear HH)
        | (go_at_call 21; refine HH2.out.mono ?_; rintro e w1 ⟨rfl, rfl⟩; clear HH2))
      go_ret
      exact ⟨rfl, Below.refl _ _⟩
    | false =>
      have hs' : (2000 : Int) < (s.size : Int) := by have := hb rfl rfl; omega
      clear hb
      go_enter Try.func6, Try.ntmps6
      go_wp2_with (first
        | (go_at_call 21; refine HH.out.mono ?_; rintro e w1 ⟨rfl, rfl⟩; clear HH)
        | (go_at_call 21; refine HH2.out.mono ?_; rintro e w1 ⟨rfl, rfl⟩; clear HH2))
      go_ret
      exact ⟨rfl, Below.refl _ _⟩
theorem walk_TreeGone (w : World) (A : Option Addr) (ls : List (List UInt8)) (c : Nat) (hc : ls.length ≤ c) (_ : A = none → c = 0) (hr : Ss w w.heap.size A ls) (_ : c * 16 ≤ 140737488351232 ∧ ∀ l ∈ ls, l.length ≤ 140737488351232)
    (A' : Option Addr) (ms : List (List UInt8)) (d : Nat) (hd : ms.length ≤ d) (_ : A' = none → d = 0) (hr2 : Ss w w.heap.size A' ms) (_ : d * 16 ≤ 140737488351232 ∧ ∀ l ∈ ms, l.length ≤ 140737488351232) (s : ByteArray) (_ : s.size ≤ 140737488351232) :
    Calls Try.prog 6 #[.slice A ls.length c, .slice A' ms.length d, .string s] w fun e w' => e = .returned (.bool true) ∧ Below w.heap.size w w' := by
  have hrd := hr.rd hc
  have hrd2 := hr2.rd hd
  have hh := heavy_any w rfl hrd
  have hh2 := heavy_any w rfl hrd2
  cases hv : heavyL ls with
  | true =>
    rw [hv] at hh
    exact gone_big s true _ hh hh2 (fun h => by cases h)
  | false =>
    cases hv2 : heavyL ms with
    | true =>
      rw [hv] at hh
      rw [hv2] at hh2
      exact gone_big s false true hh hh2 (fun _ h => by cases h)
    | false =>
      rw [hv] at hh
      rw [hv2] at hh2
      obtain ⟨h1, h2⟩ := heavy_no hv
      obtain ⟨h3, h4⟩ := heavy_no hv2
      by_cases hs : 2000 < s.size
      · exact gone_big s false false hh hh2 (fun _ _ => hs)
      · exact gone_main s (by omega) hh hh2 rfl rfl hrd hrd2 h1 h3 h2 h4

namespace treeGone
open Go.ChangeShapes Go.WideShapes Go.ChangeAt
open Go.ChangeMaps (open_string shut_string)
set_option maxRecDepth 100000 in
theorem contract (H : Type) (enc : TypeId × Value → H) (W : World) (base : Nat) (args : Array Value) (ds gs : List (DataW H)) (before : List MemPlace)
    (hval : ∀ (j : Nat) t v, Try.f6.params[j]? = some t → args[j]? = some v → Value.okWide Try.prog W .any base t v)
    (hW : DataW.Whole enc Try.prog Try.f6.params.toList Rows.treeGoneSpec.vars false W args.toList ds gs before)
    (hR : (DataW.weightsEach Try.prog (Try.f6.params.toList ++ (OpenSpec.ofChange Rows.treeGoneSpec).bare.plain.varTypes Try.prog) (ds ++ gs)).all (· ≤ reachBytes) = true) :
    Calls Try.prog 6 args W fun e W' => ∃ v, e = .returned v ∧ Rows.treeGoneSpec.post enc Try.prog Try.f6 false true false false W args v W' := by
  have hW' := hW
  obtain ⟨p, q, hA0, hV, rfl, hfz, hnd⟩ := hW
  have hA : DataW.TrodAll enc Try.prog W 0 (fun _ => true) true Try.f6.params.toList args.toList ds p := hA0
  have HS := trodAll_stays (W' := W) (sp := fun _ => true) out (by kernel_rfl) hA
  have HA := Lib.hid hA
  rw [Try.params6] at hA hval hR
  obtain ⟨v0, vs0, d0, ds0, p0, q0, hargs0, rfl, rfl, h0, r0⟩ := trodAll_cons hA
  obtain ⟨v1, vs1, d1, ds1, p1, q1, hargs1, rfl, rfl, h1, r1⟩ := trodAll_cons r0
  obtain ⟨v2, vs2, d2, ds2, p2, q2, hargs2, rfl, rfl, h2, r2⟩ := trodAll_cons r1
  obtain ⟨rfl, rfl, rfl⟩ := trodAll_nil r2
  obtain rfl : args = #[v0, v1, v2] := by cases args; simp_all
  obtain ⟨rfl, rfl⟩ := trodVars_none hV
  obtain ⟨A0, l, c0, rfl, hc0, hn0, hb0, hm0⟩ := open_strs Try.underlying44 Try.underlying28 (by kernel_rfl) (by kernel_rfl) (hval 0 44 v0 rfl rfl) h0
  obtain ⟨A1, m, c1, rfl, hc1, hn1, hb1, hm1⟩ := open_strs Try.underlying44 Try.underlying28 (by kernel_rfl) (by kernel_rfl) (hval 1 44 v1 rfl rfl) h1
  obtain ⟨s, rfl, rfl, rfl, z2⟩ := open_string Try.underlying28 (hval 2 28 v2 rfl rfl) h2
  clear hA0 HS
  obtain ⟨k0, s0⟩ := reach_cons hR
  obtain ⟨k1, s1⟩ := reach_cons s0
  obtain ⟨k2, s2⟩ := reach_cons s1
  refine (walk_TreeGone W A0 l c0 hc0 hn0 hb0 (hm0 k0) A1 m c1 hc1 hn1 hb1 (hm1 k1) s (reach_str k2)).mono fun e W' ⟨he, hb⟩ => ?_
  subst he
  have hlt := hW'.lt
  refine ⟨_, rfl, post_low hW' (pa := _) (pv := []) rfl hb (fun _ _ _ => trodAll_cons_mk (shut_bool Try.underlying4 _) trodAll_mk0) (fun sp hsp => ?_) (fun _ _ => rfl) (ok_one (by kernel_rfl) rfl (okWide_bool_mk Try.underlying4 _))⟩
  exact trodAll_stays out (by kernel_rfl) HA.out (fun x hx => hb.same (hlt x (List.mem_append_left _ hx))) (fun x hx => hsp x (List.mem_append_left _ hx))

noncomputable def wargs : Array Value := #[.slice none 0 0, .slice none 0 0, .string ByteArray.empty]
noncomputable def lw (os : Os) : World := World.settled Try.prog os
theorem reads (os : Os) {H : Type} (enc : TypeId × Value → H) : ∃ places, DataW.whole enc Try.prog ((lw os).forCall (fun _ _ => 0) ⟨#[], wargs, []⟩).memory Try.f6.params.toList Rows.treeGoneSpec.vars false wargs.toList 8 = some ([.nil, .nil, .lit (.string [])], [], places) :=
  ⟨[], by kernel_rfl⟩
set_option maxRecDepth 100000 in
theorem lifted (os : Os) (started : os.Started) (H : Type) (enc : TypeId × Value → H) (G : Stop.Interp) :
    ReturnsInHanded {} Try.checked os 6 .any ((OpenSpec.ofChange Rows.treeGoneSpec).preRow enc Try.prog Try.f6 Rows.treeGoneRow.domain false Rows.treeGoneRow.laid) (((OpenSpec.ofChange Rows.treeGoneSpec).at G).post enc Try.prog Try.f6 false true false false) := by
  obtain ⟨places, hx⟩ := reads os enc
  refine returnsInHanded_of_row (C := Try.checked) (s := OpenSpec.ofChange Rows.treeGoneSpec) own started (by kernel_rfl) Try.func6
    (witness_row_atRef (enc := enc) (C := Try.checked) false (lw os) wargs rfl (by kernel_rfl) (by kernel_rfl) (by kernel_rfl)
      (OpenSpec.preRow_of_cond 8 hx (by kernel_rfl) (fun k hk => by cases hk) (by kernel_rfl) (laidMetH_nil _ _))) ?_
  intro W base args ds gs before hval hW _ _ hR _ _ _
  exact contract H enc W base args ds gs before hval hW hR
/-- THE STATEMENT. -/
theorem said : Rows.TreeGoneSaid :=
  OpenClaim.holds_of_cond 6 Try.f6 rfl rfl rfl rfl rfl rfl rfl ⟨rfl, rfl, rfl, rfl, rfl⟩ rfl rfl rfl rfl rfl (by kernel_rfl) Try.func6 (by kernel_rfl)
    (of_decide_eq_true (by kernel_rfl)) (by unfold Func.isWrapper; first | (rw [if_pos (by decide +kernel)]; kernel_rfl) | (rw [if_neg (by decide +kernel)]; exact ⟨rfl, rfl⟩))
    (fun os started H enc _ G => by rw [OpenClaim.pre_eq_preRow]; exact lifted os started H enc G)
end treeGone
end Go.Proofs.Ytbcchdkicpmngaa
