/- The document's Entries: the walk. -/
import Derived.Test.YtbmobaomnfchkaaTkRefD
import Derived.Test.YtbmobaomnfchkaaTkRefK
import Derived.Test.YtbmobaomnfchkaaTkEnt
import Derived.StillTailTactics
import Derived.Deep.RegionWith
import Derived.Deep.CutRange
import Derived.Deep.CutBlock
namespace Go.Proofs.Ytbmobaomnfchkaa
open Go.RowKit

theorem qs_begin (line col : Nat) (beg bl : Bool) (el : Nat) (ws : List Tk.Wd) (es : List Tk.En) (c : UInt8) : ∃ bl1 el1 ws1, (Tk.Qs.mk line col beg bl el ws es).begin c = ⟨line, col, false, bl1, el1, ws1, es⟩ ∧ (beg = true → bl1 = Tk.blank c ∧ el1 = line ∧ ws1 = []) ∧ (beg = false → bl1 = bl ∧ el1 = el ∧ ws1 = ws) := by
  cases beg with
  | true => exact ⟨Tk.blank c, line, [], rfl, fun _ => ⟨rfl, rfl, rfl⟩, (fun e => by cases e)⟩
  | false => exact ⟨bl, el, ws, rfl, (fun e => by cases e), fun _ => ⟨rfl, rfl, rfl⟩⟩
/-- an entry begins anew, cell by cell. -/
theorem es_new3 {w0 W : World} {b line col : Nat} {vo : Value} {out : List Ex} {x y z : Value} (he : Has W b 24 #[.int .i64 line, .int .i64 col]) (no : Has W (b + 1) 40 #[x, y, z]) (er : Ers W (b + 2) vo out) (be : Below b w0 W) (bl' : Bool) (el' : Nat) :
    ES w0 (((W.setCell ⟨b + 1, 0, none⟩ (.bool bl')).setCell ⟨b + 1, 1, none⟩ (.int .i64 el')).setCell ⟨b + 1, 2, none⟩ (.slice none 0 0)) b line col bl' el' (.slice none 0 0) vo [] out := by
  have hg := grown_set (grown_set (grown_set (World.grownBy.refl W (some (b + 1))) 0 (.bool bl')) 1 (.int .i64 el')) 2 (.slice none 0 0)
  exact ⟨((he.far (p := ⟨b + 1, 0, none⟩) (by show b ≠ b + 1; omega) _).far (p := ⟨b + 1, 1, none⟩) (by show b ≠ b + 1; omega) _).far (p := ⟨b + 1, 2, none⟩) (by show b ≠ b + 1; omega) _, ((no.set 0 _).set 1 _).set 2 _, Tx.start (er.far (g := b + 1) (by omega) hg),
    ((be.setCell (p := ⟨b + 1, 0, none⟩) (by show b ≤ b + 1; omega) _).setCell (p := ⟨b + 1, 1, none⟩) (by show b ≤ b + 1; omega) _).setCell (p := ⟨b + 1, 2, none⟩) (by show b ≤ b + 1; omega) _⟩
theorem qs_stop (line col : Nat) (bl : Bool) (el : Nat) (ws : List Tk.Wd) (out : List Ex) (v : Value) (k : Nat) : ∃ beg3 bl3 el3 ws3 out3, (Tk.Qs.mk line col false bl el ws (out.map Ex.en)).stop k = ⟨line, col, beg3, bl3, el3, ws3, out3.map Ex.en⟩ ∧
    (k = 2 → true = beg3 ∧ false = bl3 ∧ 0 = el3 ∧ [] = ws3 ∧ closeEx bl el v ws out = out3) ∧ (k ≠ 2 → false = beg3 ∧ bl = bl3 ∧ el = el3 ∧ ws = ws3 ∧ out = out3) ∧ out3.length + ws3.length ≤ out.length + ws.length := by
  unfold Tk.Qs.stop
  by_cases h : k = 2
  · refine ⟨true, false, 0, [], closeEx bl el v ws out, ?_, fun _ => ⟨rfl, rfl, rfl, rfl, rfl⟩, fun e => absurd h e, ?_⟩
    · rw [if_pos h]
      unfold Tk.Qs.done closeEx
      by_cases hw : ws = []
      · simp [hw]
      · simp [hw, Ex.en]
    · unfold closeEx
      by_cases hw : ws = []
      · simp [hw]
      · have := List.length_pos_iff.2 hw
        simp [hw]
        omega
  · exact ⟨false, bl, el, ws, out, by rw [if_neg h], fun e => absurd e h, fun _ => ⟨rfl, rfl, rfl, rfl, rfl⟩, Nat.le_refl _⟩
theorem int_beq (k n : Nat) : ((k : Int) == (n : Int)) = (k == n) := by
  rw [Bool.eq_iff_iff, beq_iff_eq, beq_iff_eq]
  exact Int.ofNat_inj
theorem qs_word (line col : Nat) (bl : Bool) (el : Nat) (ws : List Tk.Wd) (es : List Tk.En) (c : UInt8) (k : Nat) (m : Tk.By) : ∃ ws2, (Tk.Qs.mk line col false bl el ws es).word c k m = ⟨line, col, false, bl, el, ws2, es⟩ ∧ (k = 3 → ws2 = ws ++ [⟨c :: m, false, line, col⟩]) ∧ (k = 5 → ws2 = ws ++ [⟨m.dropLast, true, line, col⟩]) ∧ (k ≠ 3 → k ≠ 5 → ws2 = ws) ∧ ws2.length ≤ ws.length + 1 := by
  unfold Tk.Qs.word
  by_cases h3 : k = 3
  · exact ⟨ws ++ [⟨c :: m, false, line, col⟩], by rw [if_pos h3], fun _ => rfl, fun e => by omega, fun e => absurd h3 e, by simp⟩
  · by_cases h5 : k = 5
    · exact ⟨ws ++ [⟨m.dropLast, true, line, col⟩], by rw [if_neg h3, if_pos h5], fun e => absurd e h3, fun _ => rfl, fun _ e => absurd h5 e, by simp⟩
    · exact ⟨ws, by rw [if_neg h3, if_neg h5], fun e => absurd e h3, fun e => absurd e h5, fun _ _ => rfl, by omega⟩
set_option maxHeartbeats 8000000 in
set_option maxRecDepth 100000 in
theorem refEntries_any (s : ByteArray) (w : World) : Calls Try.prog 9 #[.string s] w (EnP s w) := by
  have hi2 : (Try.prog.info? 24).map (·.size) = some 2 := by kernel_rfl
  have HI := Lib.hid hi2
  clear hi2
  by_cases hs : 262144 < s.size
  · have hs2 : (262144 : Int) < (s.size : Int) := by omega
    have HS := Lib.hid hs
    clear hs
    go_enter Try.func9, Try.ntmps9
    go_wp2
    refine bodyPost_ret (results_tmp_row_tmp rfl _ _ w.heap.size 24 #[.int .i64 0, .int .i64 0] _ rfl (Has.fresh w _ _) Try.underlying24 rfl HI.out) rfl ?_
    refine ⟨(Below.refl _ _).alloc (Nat.le_refl _) _, ?_⟩
    rw [if_pos HS.out]
    rfl
  · have hs1 : s.size ≤ 262144 := by omega
    have hs2 : ¬ (262144 : Int) < (s.size : Int) := by omega
    have HNS := Lib.hid hs
    clear hs
    have HK0 := Lib.hid (kinds_any s (w.alloc (.cells #[.int .i64 0, .int .i64 0] 24)) hs1)
    have HT := Lib.hid (Tk.kin_tells s.data.toList)
    have e1 : (w.alloc (.cells #[.int .i64 0, .int .i64 0] 24)).heap.size = w.heap.size + 1 := by simp
    have HSZ := Lib.hid e1
    clear e1
    have HR0 := Lib.hid (Has.fresh w 24 #[.int .i64 0, .int .i64 0])
    have HB0 := Lib.hid ((Below.refl w.heap.size w).alloc (Nat.le_refl _) (.cells #[.int .i64 0, .int .i64 0] 24))
    have HL : Hid (s.data.toList.length = s.size) := by rw [Hid]; simp
    have HG5 := Lib.hid (fun ks => Tk.kin_five (t := s.data.toList) (ks := ks))
    unfold KnP at HK0
    generalize hq : Tk.kin (Tk.lx s.data.toList) 0 [] [] = q at *
    clear hq
    cases q with
    | err a x =>
      have HX : Hid ((x : Int) ≠ 0) := by
        rw [Hid]
        rcases play_errs (Tk.lx s.data.toList) _ _ _ _ HT.out.2 with h | h <;> omega
      have hx : ((x : Int) != 0) = true := by rw [bne_iff_ne]; exact HX.out
      have HSP := Lib.hid (fun W => spotOf_any s a W (by have := HT.out.1; have := HL.out; omega) (by omega))
      clear HG5
      go_enter Try.func9, Try.ntmps9
      go_wp2_with (first
        | (go_at_call 20
           refine HK0.out.mono ?_
           rintro e w1 ⟨B1, rfl⟩
           have HB1 := Lib.hid B1
           clear B1)
        | (go_at_call 21
           refine (HSP.out _).mono ?_
           rintro e w2 ⟨rfl, B2⟩
           have HB2 := Lib.hid (HB1.out.trans (B2.mono HB1.out.size))
           have HR2 := Lib.hid (HR0.out.below HB2.out (by rw [HSZ.out]; omega))
           have d0 := HR2.out.cell 0
           have d1 := HR2.out.cell 1
           have e0 := HR2.out.free 0
           have e1 := HR2.out.free 1
           simp only [List.getElem?_toArray, List.getElem?_cons_zero, List.getElem?_cons_succ] at d0 d1
           clear B2))
      refine bodyPost_ret (results_tmp_row_tmp rfl _ _ w.heap.size 24 #[.int .i64 (Tk.advs (1, 1) (s.data.toList.take a)).1, .int .i64 (Tk.advs (1, 1) (s.data.toList.take a)).2] _ rfl ((HR2.out.set 0 _).set 1 _) Try.underlying24 rfl HI.out) rfl ?_
      refine ⟨((HB0.out.trans (HB2.out.mono (by rw [HSZ.out]; omega))).setCell (p := ⟨w.heap.size, 0, none⟩) (Nat.le_refl _) _).setCell (p := ⟨w.heap.size, 1, none⟩) (Nat.le_refl _) _, ?_⟩
      rw [if_neg HNS.out, HT.out.2]
      rfl
    | ok ks =>
      have hkl : ks.length = s.data.toList.length := HT.out.1
      have HKL := Lib.hid hkl
      have HGD := Lib.hid (HG5.out ks rfl)
      obtain ⟨E, hE⟩ : ∃ E, E = Tk.p2 (s.data.toList.zip ks) ⟨1, 1, true, false, 0, [], []⟩ := ⟨_, rfl⟩
      have HTE : Hid (Tk.tells s.data.toList = .ok E) := by rw [Hid, HT.out.2, hE]
      have HE := Lib.hid hE
      have HBL := Lib.hid (fun c W => blank_any c W)
      clear HG5 HT hE hkl
      go_enter Try.func9, Try.ntmps9
      go_upto_region 6 with (go_at_call 20; refine HK0.out.mono ?_; rintro e w1 ⟨B1, v, rfl, O1⟩; have HB1 := Lib.hid B1; have HO1 := Lib.hid O1; have HR1 := Lib.hid (HR0.out.below B1 (by rw [HSZ.out]; omega)); clear B1 O1)
      obtain ⟨ka, kc, hv, hkc⟩ := ownK_form HO1.out
      subst hv
      have HKC : Hid (∀ W, Below w1.heap.size w1 W → ∀ j (hj : j < ks.length), ∃ g, ka = some ⟨g, 0, none⟩ ∧ s.size ≤ kc ∧ W.cell? ⟨g, j, none⟩ = some (.int .i64 (ks[j] : Nat))) := fun W hW j hj => by
        obtain ⟨g, hg, _, hc⟩ := own_at (own_below HO1.out hW (Nat.le_refl _)) (k := j) (by have := HKL.out; have := HL.out; omega)
        exact ⟨g, hg, hkc, hc j _ (iv_get (List.getElem?_eq_getElem hj))⟩
      clear HO1 HK0
      have hs1a : ∀ o, (w1.alloc o).heap.size = w1.heap.size + 1 := fun o => by simp
      have hh := (Has.fresh w1 24 #[.int .i64 1, .int .i64 1]).alloc (.cells #[.bool false, .int .i64 0, .slice none 0 0] 40)
      have hn := Has.fresh (w1.alloc (.cells #[.int .i64 1, .int .i64 1] 24)) 40 #[.bool false, .int .i64 0, .slice none 0 0]
      rw [hs1a] at hn
      have HES : Hid (ES w1 ((w1.alloc (.cells #[.int .i64 1, .int .i64 1] 24)).alloc (.cells #[.bool false, .int .i64 0, .slice none 0 0] 40)) w1.heap.size 1 1 false 0 (.slice none 0 0) (.slice none 0 0) [] []) :=
        ⟨hh, hn, Tx.start (Ers.nil _ _), ((Below.refl _ w1).alloc (Nat.le_refl _) _).alloc (by simp) _⟩
      clear hh hn hs1a
      go_wp2
      go_loopw [8, 11, 12] (fun vo be ia wr => ∃ (i line col el : Nat) (beg bl : Bool) (vw : Value) (ws : List Tk.Wd) (out : List Ex) (V : Value), vo = V ∧ ia = .int .i64 i ∧ be = .bool beg ∧ i ≤ s.size ∧ Hid (ES w1 wr w1.heap.size line col bl el vw V ws out) ∧ Hid (line ≤ i + 1 ∧ col ≤ i + 1 ∧ out.length + ws.length ≤ i) ∧ Hid (Tk.p2 ((s.data.toList.zip ks).drop i) ⟨line, col, beg, bl, el, ws, out.map Ex.en⟩ = E)) (fun _ _ ia _ => s.size - (intOf ia).toNat)
      case atStart => exact ⟨0, 1, 1, 0, true, false, _, [], [], _, rfl, rfl, rfl, Nat.zero_le _, HES.out, ⟨by omega, by omega, by simp⟩, HE.out.symm⟩
      case round =>
        obtain ⟨i, line, col, el, beg, bl, vw, ws, out, V, hV, rfl, rfl, hi, HS, HBD, HP⟩ := hrel
        obtain rfl := hV.symm
        by_cases hlt : i < s.size
        · have hi1 : (i : Int) < (s.size : Int) := by omega
          have hik : i < ks.length := by have := HKL.out; have := HL.out; omega
          obtain ⟨k, hk⟩ : ∃ k, k = ks[i] := ⟨_, rfl⟩
          obtain ⟨m, hm⟩ : ∃ m, m = Tk.mo ((s.data.toList.zip ks).drop (i + 1)) := ⟨_, rfl⟩
          obtain ⟨bl1, el1, ws1, hy, hy1, hy2⟩ := qs_begin line col beg bl el ws (out.map Ex.en) s[i]
          obtain ⟨ws2, hz, hz3, hz5, hz0, hzl⟩ := qs_word line col bl1 el1 ws1 (out.map Ex.en) s[i] k m
          have HP2 : Hid (Tk.p2 ((s.data.toList.zip ks).drop (i + 1)) (((Tk.Qs.mk line col false bl1 el1 ws2 (out.map Ex.en)).stop k).adv s[i]) = E) := by
            rw [Hid, ← HP.out, Tk.zip_drop HKL.out (n := i) (by rw [HL.out]; exact hlt)]
            rw [Tk.p2, Tk.Qs.step, ← hm]
            have hsi : s.data.toList[i]'(by have := HL.out; omega) = s[i] := by simp; rfl
            rw [hsi, ← hk, hy]
            rw [hz]
          have hwl : ws1.length ≤ ws.length := by
            cases beg with
            | true => rw [(hy1 rfl).2.2]; simp
            | false => rw [(hy2 rfl).2.2]; exact Nat.le_refl _
          have HBD2 : Hid (line ≤ i + 1 ∧ col ≤ i + 1 ∧ out.length + ws1.length ≤ i ∧ out.length + ws2.length ≤ i + 1) := by
            have := HBD.out
            exact ⟨this.1, this.2.1, by omega, by omega⟩
          have HY1 := Lib.hid hy1
          have HY2 := Lib.hid hy2
          have HZ3 := Lib.hid hz3
          have HZ5 := Lib.hid hz5
          have HZ0 := Lib.hid hz0
          have HKI := Lib.hid hk
          have HM := Lib.hid hm
          clear hy hy1 hy2 hz hz3 hz5 hz0 hzl hk hm hwl HP
          go_upto_if 38 with fail
          go_cut [11] from 32 to 127 (fun be wx => be = .bool false ∧ ∃ vw', Hid (ES w1 wx w1.heap.size line col bl1 el1 vw' V ws1 out))
          case first =>
            cases beg with
            | false =>
              go_wp2
              go_meet
              case rel => exact ⟨rfl, vw, by obtain ⟨rfl, rfl, rfl⟩ := HY2.out (by trivial); exact HS.out⟩
            | true =>
              go_upto_region 14 with fail
              have c0 : wr.cell? ⟨w1.heap.size, 0, none⟩ = some (.int .i64 line) := HS.out.he.cell 0
              have n0 : wr.cell? ⟨w1.heap.size + 1, 0, none⟩ = some (.bool bl) := HS.out.no.cell 0
              have n1 : wr.cell? ⟨w1.heap.size + 1, 1, none⟩ = some (.int .i64 el) := HS.out.no.cell 1
              have n2 : wr.cell? ⟨w1.heap.size + 1, 2, none⟩ = some vw := HS.out.no.cell 2
              have m0 := HS.out.no.free 0
              have m1 := HS.out.no.free 1
              have m2 := HS.out.no.free 2
              have HBI := Lib.hid (fun W => HBL.out s[i] W)
              have HDR : Hid (ES w1 wr.drew w1.heap.size line col bl el vw V ws out) := HS.out.drew
              obtain ⟨bb, hbb⟩ : ∃ bb, bb = Tk.blank s[i] := ⟨_, rfl⟩
              rw [← hbb] at HBI
              have HBB := Lib.hid hbb
              clear hbb
              go_region_with (go_at_call 17; refine (HBI.out _).mono ?_; rintro e w5 ⟨rfl, rfl⟩)
              all_goals
                go_wp2
                go_meet
                refine ⟨rfl, .slice none 0 0, ?_⟩
                obtain ⟨rfl, rfl, rfl⟩ := HY1.out (by trivial)
                rw [← HBB.out]
                exact es_new3 HDR.out.he HDR.out.no HDR.out.tx.er HDR.out.be _ _
          case rest =>
            obtain ⟨rfl, vw', HS1⟩ := hcut
            rename World => wa
            clear HS HY1 HY2
            obtain ⟨tt, htt⟩ : ∃ tt, tt = (k == 3 || k == 5) := ⟨_, rfl⟩
            have HTT := Lib.hid htt
            clear htt
            go_upto_region 16 with fail
            go_cut [57] from 32 to 127 (fun c wx => c = .bool tt ∧ wx = wa)
            case first =>
              obtain ⟨gk, hka, hkc2, ck⟩ := HKC.out wa HS1.out.be i hik
              subst hka
              rw [← HKI.out] at ck
              clear HKI hik
              by_cases h3 : k = 3
              · have t3 : ((k : Int) == 3) = true := by rw [h3]; rfl
                have HT3 : Hid ((k == 3 || k == 5) = true) := by rw [Hid, h3]; rfl
                clear h3
                go_wp2
                go_meet
                exact ⟨congrArg Value.bool (HTT.out.trans HT3.out).symm, rfl⟩
              · have t3 : ((k : Int) == 3) = false := beq_eq_false_iff_ne.2 (by omega)
                obtain ⟨t5, h5⟩ : ∃ t5, t5 = (k == 5) := ⟨_, rfl⟩
                have t5' : ((k : Int) == 5) = t5 := by rw [h5]; exact int_beq k 5
                have HT3 : Hid ((k == 3 || k == 5) = t5) := by rw [Hid, h5]; simp [h3]
                clear h3 h5
                cases t5
                all_goals
                  go_wp2
                  go_meet
                  exact ⟨congrArg Value.bool (HTT.out.trans HT3.out).symm, rfl⟩
            case rest =>
              obtain ⟨rfl, hwx⟩ := hcut
              obtain rfl := hwx.symm
              go_upto_if 57 with fail
              go_cut [13, 14] from 32 to 127 (fun _ _ wx => ∃ vw2, Hid (ES w1 wx w1.heap.size line col bl1 el1 vw2 V ws2 out))
              case first =>
                cases tt with
                | true =>
                  have h35 : k = 3 ∨ k = 5 := by
                    have h := HTT.out.symm
                    rw [Bool.or_eq_true, beq_iff_eq, beq_iff_eq] at h
                    exact h
                  have hmn := Tk.mn_le (t := s.data.toList) (ks := ks) (i + 1)
                  rw [HL.out] at hmn
                  obtain ⟨N, hN⟩ : ∃ N, N = i + 1 + Tk.mn s.data.toList ks (i + 1) := ⟨_, rfl⟩
                  have hN1 : i + 1 ≤ N := by omega
                  have hN2 : N ≤ s.size := by omega
                  have HNN := Lib.hid hN
                  have H35 := Lib.hid h35
                  clear hmn hN h35
                  go_upto_block 2 with fail
                  go_cut [13] from 32 to 127 (fun na wx => na = .int .i64 N ∧ wx = wa)
                  case first =>
                    go_wp2
                    go_loopw [13] (fun na wr => ∃ n : Nat, na = .int .i64 n ∧ i + 1 ≤ n ∧ n ≤ s.size ∧ Hid (n + Tk.mn s.data.toList ks n = N) ∧ wr = wa) (fun na _ => s.size - (intOf na).toNat)
                    case atStart => exact ⟨i + 1, by go_num, Nat.le_refl _, hlt, HNN.out.symm, rfl⟩
                    case round =>
                      obtain ⟨n, rfl, hn1, hn2, HN, hwr⟩ := hrel
                      subst hwr
                      by_cases hn : n < s.size
                      · have g1 : (n : Int) < (s.size : Int) := by omega
                        have hnk : n < ks.length := by have := HKL.out; have := HL.out; omega
                        have hnl : n < s.data.toList.length := by rw [HL.out]; exact hn
                        obtain ⟨gk, hka, hkc2, ck⟩ := HKC.out wr HS1.out.be n hnk
                        subst hka
                        by_cases h4 : ks[n] = 4
                        · have t4 : ((ks[n] : Int) == 4) = true := by rw [h4]; rfl
                          have HN2 : Hid (n + 1 + Tk.mn s.data.toList ks (n + 1) = N) := by
                            rw [Hid, ← HN.out, Tk.mn_step HKL.out hnl h4]; omega
                          obtain ⟨q, hq⟩ : ∃ q, q = ks[n] := ⟨_, rfl⟩
                          rw [← hq] at ck t4
                          clear h4 hq
                          go_wp2
                          go_roundw
                          case rel => exact ⟨n + 1, by go_num, by omega, by omega, HN2.out, by trivial⟩
                          case measure => simp [intOf]; omega
                        · have t4 : ((ks[n] : Int) == 4) = false := beq_eq_false_iff_ne.2 (by omega)
                          have h0 : n = N := by rw [← HN.out, Tk.mn_stop HKL.out hnl h4]; rfl
                          obtain ⟨q, hq⟩ : ∃ q, q = ks[n] := ⟨_, rfl⟩
                          rw [← hq] at ck t4
                          have H0 := Lib.hid h0
                          clear h4 hq h0
                          go_wp2
                          go_meet
                          exact ⟨by rw [H0.out], rfl⟩
                      · have g1 : ¬ (n : Int) < (s.size : Int) := by omega
                        have h0 : n = N := by rw [← HN.out, Tk.mn_end (by rw [HL.out]; omega)]; rfl
                        have H0 := Lib.hid h0
                        clear h0
                        go_wp2
                        go_meet
                        exact ⟨by rw [H0.out], rfl⟩
                  case rest =>
                    obtain ⟨rfl, hwx⟩ := hcut
                    obtain rfl := hwx.symm
                    have c0 : wa.cell? ⟨w1.heap.size, 0, none⟩ = some (.int .i64 line) := HS1.out.he.cell 0
                    have c1 : wa.cell? ⟨w1.heap.size, 1, none⟩ = some (.int .i64 col) := HS1.out.he.cell 1
                    have d0 : (wa.alloc (.cells #[.string ⟨#[]⟩, .bool false, .int .i64 0, .int .i64 0] 48)).cell? ⟨w1.heap.size, 0, none⟩ = some (.int .i64 line) := (HS1.out.alloc _).he.cell 0
                    have d1 : (wa.alloc (.cells #[.string ⟨#[]⟩, .bool false, .int .i64 0, .int .i64 0] 48)).cell? ⟨w1.heap.size, 1, none⟩ = some (.int .i64 col) := (HS1.out.alloc _).he.cell 1
                    have hN3 : (i : Int) ≤ (N : Int) := by omega
                    have hN4 : (N : Int) ≤ (s.size : Int) := by omega
                    have hi0 : (0 : Int) ≤ (i : Int) := by omega
                    have HFR := Lib.hid (Has.fresh wa 48 #[.string (s.extract i N), .bool false, .int .i64 line, .int .i64 col])
                    go_upto_region 20 with fail
                    go_cut [14] from 32 to 127 (fun p wx => ∃ gx, p = .pointer (some ⟨gx, 0, none⟩) ∧ w1.heap.size + 2 ≤ gx ∧ Hid (∀ W, Below gx wx W → ES w1 W w1.heap.size line col bl1 el1 vw' V ws1 out) ∧ Hid (Has wx gx 48 #[.string (s.extract i N), .bool false, .int .i64 line, .int .i64 col]))
                    case first =>
                      go_region
                      all_goals
                        go_wp2
                        go_meet
                        exact ⟨wa.heap.size, rfl, HS1.out.lt, fun W hW => HS1.out.above ((((Below.refl _ wa).alloc (Nat.le_refl _) _).drew).trans hW), HFR.out⟩
                    case rest =>
                      obtain ⟨gx, rfl, hgx, HF, HX⟩ := hcut
                      rename World => wb
                      have HS3 := Lib.hid (HF.out wb (Below.refl _ _))
                      clear c0 c1 d0 d1 HFR
                      obtain ⟨gk, hka, hkc2, ck⟩ := HKC.out wb HS3.out.be i hik
                      subst hka
                      rw [← HKI.out] at ck
                      by_cases h3 : k = 3
                      · have t5 : ((k : Int) == 5) = false := beq_eq_false_iff_ne.2 (by omega)
                        have x0 := HX.out.cell 0
                        have x1 := HX.out.cell 1
                        have x2 := HX.out.cell 2
                        have x3 := HX.out.cell 3
                        simp only [List.getElem?_toArray, List.getElem?_cons_zero, List.getElem?_cons_succ] at x0 x1 x2 x3
                        have n2 : wb.cell? ⟨w1.heap.size + 1, 2, none⟩ = some vw' := HS3.out.no.cell 2
                        obtain ⟨A5, c5, w5, hr, m2, f2, hes⟩ := HS3.out.word (by have := HBD2.out; omega) ⟨(s.extract i N).data.toList, false, line, col⟩ (z := wb.heap.size) rfl
                        have HR := Lib.hid hr
                        have HE5 : Hid (ES w1 (w5.setCell ⟨w1.heap.size + 1, 2, none⟩ (.slice A5 (ws1.length + 1) c5)) w1.heap.size line col bl1 el1 (.slice A5 (ws1.length + 1) c5) V ws2 out) := by
                          rw [HZ3.out h3, HM.out, ← Tk.bare_bytes HKL.out hlt HNN.out]; exact hes
                        clear h3 hr hes
                        go_wp2_with (at_builtin; refine wpList_append_run rfl (.tmp 96) (.tmp 98) _ _ rfl _ _ rfl rfl (R := fun v W => v = .slice A5 (ws1.length + 1) c5 ∧ W = w5) ⟨_, _, HR.out, rfl, rfl⟩ ?_; rintro _ _ ⟨rfl, rfl⟩)
                        go_meet
                        exact ⟨_, HE5.out⟩
                      · have h5 : k = 5 := H35.out.resolve_left h3
                        have t5 : ((k : Int) == 5) = true := by rw [h5]; rfl
                        have hNN : i + 1 < N := by
                          have h4 := HGD.out i (by rw [List.getElem?_eq_getElem hik, ← HKI.out, h5])
                          obtain ⟨hl4, e4⟩ := List.getElem?_eq_some_iff.1 h4
                          have := Tk.mn_step HKL.out (n := i + 1) (by have := HKL.out; omega) e4
                          have := HNN.out
                          omega
                        have x0 := HX.out.cell 0
                        have x1 := HX.out.cell 1
                        have f0 := HX.out.free 0
                        have f1 := HX.out.free 1
                        simp only [List.getElem?_toArray, List.getElem?_cons_zero, List.getElem?_cons_succ] at x0 x1
                        have l1 : (i : Int) + 1 ≤ (N : Int) - 1 := by omega
                        have l2 : (N : Int) - 1 ≤ (s.size : Int) := by omega
                        have l3 : (0 : Int) ≤ (i : Int) + 1 := by omega
                        have HX4 : Hid (Has ((wb.setCell ⟨gx, 1, none⟩ (.bool true)).setCell ⟨gx, 0, none⟩ (.string (s.extract (i + 1) (N - 1)))) gx 48 #[.string (s.extract (i + 1) (N - 1)), .bool true, .int .i64 line, .int .i64 col]) := (HX.out.set 1 _).set 0 _
                        have HS4 : Hid (ES w1 ((wb.setCell ⟨gx, 1, none⟩ (.bool true)).setCell ⟨gx, 0, none⟩ (.string (s.extract (i + 1) (N - 1)))) w1.heap.size line col bl1 el1 vw' V ws1 out) := HF.out _ (((Below.refl gx wb).setCell (p := ⟨gx, 1, none⟩) (Nat.le_refl _) _).setCell (p := ⟨gx, 0, none⟩) (Nat.le_refl _) _)
                        go_upto_region 24 with fail
                        generalize ((wb.setCell ⟨gx, 1, none⟩ (.bool true)).setCell ⟨gx, 0, none⟩ (.string (s.extract (i + 1) (N - 1)))) = wf at *
                        clear x0 x1 f0 f1 ck l1 l2 l3
                        have x0 := HX4.out.cell 0
                        have x1 := HX4.out.cell 1
                        have x2 := HX4.out.cell 2
                        have x3 := HX4.out.cell 3
                        simp only [List.getElem?_toArray, List.getElem?_cons_zero, List.getElem?_cons_succ] at x0 x1 x2 x3
                        have n2 : wf.cell? ⟨w1.heap.size + 1, 2, none⟩ = some vw' := HS4.out.no.cell 2
                        obtain ⟨A5, c5, w5, hr, m2, f2, hes⟩ := HS4.out.word (by have := HBD2.out; omega) ⟨(s.extract (i + 1) (N - 1)).data.toList, true, line, col⟩ (z := wf.heap.size) rfl
                        have HR := Lib.hid hr
                        have HE5 : Hid (ES w1 (w5.setCell ⟨w1.heap.size + 1, 2, none⟩ (.slice A5 (ws1.length + 1) c5)) w1.heap.size line col bl1 el1 (.slice A5 (ws1.length + 1) c5) V ws2 out) := by
                          rw [HZ5.out h5, HM.out, ← Tk.quo_bytes HKL.out HNN.out]; exact hes
                        clear h3 h5 hr hes
                        go_wp2_with (at_builtin; refine wpList_append_run rfl (.tmp 96) (.tmp 98) _ _ rfl _ _ rfl rfl (R := fun v W => v = .slice A5 (ws1.length + 1) c5 ∧ W = w5) ⟨_, _, HR.out, rfl, rfl⟩ ?_; rintro _ _ ⟨rfl, rfl⟩)
                        go_meet
                        exact ⟨_, HE5.out⟩
                | false =>
                  have h := HTT.out.symm
                  rw [Bool.or_eq_false_iff, beq_eq_false_iff_ne, beq_eq_false_iff_ne] at h
                  have HW2 := Lib.hid (HZ0.out h.1 h.2)
                  clear h
                  go_wp2
                  go_meet
                  exact ⟨vw', by rw [HW2.out]; exact HS1.out⟩
              case rest =>
                obtain ⟨vw2, HS2⟩ := hcut
                rename World => wc
                clear HS1 HZ3 HZ5 HZ0 HM HTT
                obtain ⟨A2, C2, hv2, _⟩ := ownK_form HS2.out.tx.wr
                subst hv2
                obtain ⟨beg3, bl3, el3, ws3, out3, h3, h3a, h3b, h3l⟩ := qs_stop line col bl1 el1 ws2 out (.slice A2 ws2.length C2) k
                have HP3 : Hid (Tk.p2 ((s.data.toList.zip ks).drop (i + 1)) ((Tk.Qs.mk line col beg3 bl3 el3 ws3 (out3.map Ex.en)).adv s[i]) = E) := by
                  rw [Hid, ← HP2.out, h3]
                have HBD3 : Hid (line ≤ i + 1 ∧ col ≤ i + 1 ∧ out3.length + ws3.length ≤ i + 1) := by
                  have := HBD2.out
                  exact ⟨this.1, this.2.1, by omega⟩
                have HA := Lib.hid h3a
                have HB := Lib.hid h3b
                have hwb : ws2.length ≤ 1048576 := by have := HBD2.out; omega
                clear h3 h3a h3b h3l HP2
                obtain ⟨gk, hka, hkc2, ck⟩ := HKC.out wc HS2.out.be i hik
                subst hka
                rw [← HKI.out] at ck
                go_upto_if 105 with fail
                go_cut [8, 11] from 32 to 127 (fun vo be wx => ∃ V3 vw3, vo = V3 ∧ be = .bool beg3 ∧ Hid (ES w1 wx w1.heap.size line col bl3 el3 vw3 V3 ws3 out3))
                case first =>
                  by_cases hk2 : k = 2
                  · have t2 : ((k : Int) == 2) = true := by rw [hk2]; rfl
                    obtain ⟨hb3, hl3, he3, hw3, ho3⟩ := HA.out hk2
                    subst hb3 hl3 he3 hw3 ho3
                    have m2 : wc.cell? ⟨w1.heap.size + 1, 2, none⟩ = some (.slice A2 ws2.length C2) := HS2.out.no.cell 2
                    have m0 : wc.cell? ⟨w1.heap.size + 1, 0, none⟩ = some (.bool bl1) := HS2.out.no.cell 0
                    have m1 : wc.cell? ⟨w1.heap.size + 1, 1, none⟩ = some (.int .i64 el1) := HS2.out.no.cell 1
                    have f0 := HS2.out.no.free 0
                    have f1 := HS2.out.no.free 1
                    have f2 := HS2.out.no.free 2
                    clear hk2
                    by_cases hw : ws2 = []
                    · have HC : Hid (closeEx bl1 el1 (.slice A2 ws2.length C2) ws2 out = out) := by rw [Hid, closeEx, if_pos hw]
                      have hl0 : ¬ (0 : Int) < (ws2.length : Int) := by rw [hw]; simp
                      have HE5 := Lib.hid (es_new3 HS2.out.he HS2.out.no HS2.out.tx.er HS2.out.be false 0)
                      clear hw
                      go_wp2
                      go_meet
                      exact ⟨_, _, rfl, rfl, by rw [HC.out]; exact HE5.out⟩
                    · have HC : Hid (closeEx bl1 el1 (.slice A2 ws2.length C2) ws2 out = out ++ [⟨bl1, el1, .slice A2 ws2.length C2, ws2⟩]) := by rw [Hid, closeEx, if_neg hw]
                      have hl0 : (0 : Int) < (ws2.length : Int) := by have := List.length_pos_iff.2 hw; omega
                      obtain ⟨v2, w5, hr, q1, q2, q3, q4⟩ := HS2.out.shut (by have := HBD2.out; omega) (z := wc.heap.size) rfl
                      have HR := Lib.hid hr
                      have m2' : w5.cell? ⟨w1.heap.size + 1, 2, none⟩ = some (.slice A2 ws2.length C2) := q2.cell 2
                      have m0' : w5.cell? ⟨w1.heap.size + 1, 0, none⟩ = some (.bool bl1) := q2.cell 0
                      have m1' : w5.cell? ⟨w1.heap.size + 1, 1, none⟩ = some (.int .i64 el1) := q2.cell 1
                      have f0' := q2.free 0
                      have f1' := q2.free 1
                      have f2' := q2.free 2
                      have HE5 := Lib.hid (es_new3 q1 q2 q3 q4 false 0)
                      clear hw hr q1 q2 q3 q4
                      go_wp2_with (at_builtin; refine wpList_append_run rfl (.tmp 110) (.tmp 112) _ _ rfl _ _ rfl rfl (R := fun v W => v = v2 ∧ W = w5) ⟨_, _, HR.out, rfl, rfl⟩ ?_; rintro _ _ ⟨rfl, rfl⟩)
                      go_meet
                      exact ⟨_, _, rfl, rfl, by rw [HC.out]; exact HE5.out⟩
                  · have t2 : ((k : Int) == 2) = false := beq_eq_false_iff_ne.2 (by omega)
                    obtain ⟨hb3, hl3, he3, hw3, ho3⟩ := HB.out hk2
                    subst hb3 hl3 he3 hw3 ho3
                    clear hk2
                    go_wp2
                    go_meet
                    exact ⟨_, _, rfl, rfl, HS2.out⟩
                case rest =>
                  obtain ⟨V3, vw3, rfl, rfl, HS3⟩ := hcut
                  rename World => wd
                  have c0 : wd.cell? ⟨w1.heap.size, 0, none⟩ = some (.int .i64 line) := HS3.out.he.cell 0
                  have c1 : wd.cell? ⟨w1.heap.size, 1, none⟩ = some (.int .i64 col) := HS3.out.he.cell 1
                  have f0 := HS3.out.he.free 0
                  have f1 := HS3.out.he.free 1
                  have b1 : line ≤ 262145 := by have := HBD3.out; omega
                  have b2 : col ≤ 262145 := by have := HBD3.out; omega
                  have HS4 := Lib.hid (HS3.out.setCol (col + 1))
                  clear HS2 HA HB
                  by_cases h10 : s[i].toNat = 10
                  · have t10 : ((s[i].toNat : Int) == 10) = true := by rw [h10]; rfl
                    have HP4 : Hid (Tk.p2 ((s.data.toList.zip ks).drop (i + 1)) ⟨line + 1, 1, beg3, bl3, el3, ws3, out3.map Ex.en⟩ = E) := by
                      rw [Hid, ← HP3.out]
                      unfold Tk.Qs.adv Tk.adv
                      simp only [h10, if_true]
                    have HS5 := Lib.hid ((HS4.out.setLine (line + 1)).setCol 1)
                    clear h10
                    go_wp2
                    go_roundw
                    case rel => exact ⟨i + 1, line + 1, 1, el3, beg3, bl3, vw3, ws3, out3, _, rfl, by go_num, rfl, by omega, HS5.out, ⟨by have := HBD3.out; omega, by omega, HBD3.out.2.2⟩, HP4.out⟩
                    case measure => simp [intOf]; omega
                  · have t10 : ((s[i].toNat : Int) == 10) = false := beq_eq_false_iff_ne.2 (by omega)
                    have HP4 : Hid (Tk.p2 ((s.data.toList.zip ks).drop (i + 1)) ⟨line, col + 1, beg3, bl3, el3, ws3, out3.map Ex.en⟩ = E) := by
                      rw [Hid, ← HP3.out]
                      unfold Tk.Qs.adv Tk.adv
                      simp only [h10, if_false]
                    clear h10
                    go_wp2
                    go_roundw
                    case rel => exact ⟨i + 1, line, col + 1, el3, beg3, bl3, vw3, ws3, out3, _, rfl, by go_num, rfl, by omega, HS4.out, ⟨by have := HBD3.out; omega, by have := HBD3.out; omega, HBD3.out.2.2⟩, HP4.out⟩
                    case measure => simp [intOf]; omega
        · have g1 : ¬ (i : Int) < (s.size : Int) := by omega
          have HDN : Hid ((closeEx bl el vw ws out).map Ex.en = E) := by
            rw [Hid, ← HP.out, List.drop_eq_nil_of_le (by have := HKL.out; have := HL.out; rw [List.length_zip]; omega), Tk.p2]
            unfold Tk.Qs.done closeEx
            by_cases hw : ws = []
            · simp [hw]
            · simp [hw, Ex.en]
          obtain ⟨A2, C2, hv2, _⟩ := ownK_form HS.out.tx.wr
          subst hv2
          have HSP0 : Hid (w.heap.size < w1.heap.size) := HR1.out.lt
          have HBW : Hid (Below w.heap.size w wr) := (HB0.out.trans (HB1.out.mono (by rw [HSZ.out]; omega))).trans (HS.out.be.mono (Nat.le_of_lt HSP0.out))
          have m2 : wr.cell? ⟨w1.heap.size + 1, 2, none⟩ = some (.slice A2 ws.length C2) := HS.out.no.cell 2
          have m0 : wr.cell? ⟨w1.heap.size + 1, 0, none⟩ = some (.bool bl) := HS.out.no.cell 0
          have m1 : wr.cell? ⟨w1.heap.size + 1, 1, none⟩ = some (.int .i64 el) := HS.out.no.cell 1
          clear HP HES HE HBL
          by_cases hw : ws = []
          · have hl0 : ¬ (0 : Int) < (ws.length : Int) := by rw [hw]; simp
            have HC : Hid (closeEx bl el (.slice A2 ws.length C2) ws out = out) := by rw [Hid, closeEx, if_pos hw]
            have HQ := Lib.hid (HR1.out.below HS.out.be HR1.out.lt)
            have d0 := HQ.out.cell 0
            have d1 := HQ.out.cell 1
            have e0 := HQ.out.free 0
            have e1 := HQ.out.free 1
            simp only [List.getElem?_toArray, List.getElem?_cons_zero, List.getElem?_cons_succ] at d0 d1
            clear hw
            go_wp2
            refine bodyPost_ret (results_tmp_row_tmp rfl _ _ w.heap.size 24 #[.int .i64 0, .int .i64 0] _ rfl ((HQ.out.set 0 _).set 1 _) Try.underlying24 rfl HI.out) rfl ?_
            refine ⟨(HBW.out.setCell (p := ⟨w.heap.size, 0, none⟩) (Nat.le_refl _) _).setCell (p := ⟨w.heap.size, 1, none⟩) (Nat.le_refl _) _, ?_⟩
            rw [if_neg HNS.out, HTE.out]
            refine ⟨V, out, rfl, (HS.out.tx.er.far (g := w.heap.size) (by have := HSP0.out; omega) (grown_set (grown_set (World.grownBy.refl wr _) 0 _) 1 _)).mono (by have := HSP0.out; omega), ?_⟩
            have h := HDN.out
            rw [HC.out] at h
            exact h
          · have hl0 : (0 : Int) < (ws.length : Int) := by have := List.length_pos_iff.2 hw; omega
            have HC : Hid (closeEx bl el (.slice A2 ws.length C2) ws out = out ++ [⟨bl, el, .slice A2 ws.length C2, ws⟩]) := by rw [Hid, closeEx, if_neg hw]
            obtain ⟨v2, w5, hr, q1, q2, q3, q4⟩ := HS.out.shut (by have := HBD.out; omega) (z := wr.heap.size) rfl
            have HR := Lib.hid hr
            have HQ := Lib.hid (HR1.out.below q4 HR1.out.lt)
            have d0 := HQ.out.cell 0
            have d1 := HQ.out.cell 1
            have e0 := HQ.out.free 0
            have e1 := HQ.out.free 1
            simp only [List.getElem?_toArray, List.getElem?_cons_zero, List.getElem?_cons_succ] at d0 d1
            have HQ3 := Lib.hid q3
            have HBW2 : Hid (Below w.heap.size w w5) := (HB0.out.trans (HB1.out.mono (by rw [HSZ.out]; omega))).trans (q4.mono (Nat.le_of_lt HSP0.out))
            clear hw hr q1 q2 q3 q4
            go_wp2_with (at_builtin; refine wpList_append_run rfl (.tmp 132) (.tmp 134) _ _ rfl _ _ rfl rfl (R := fun v W => v = v2 ∧ W = w5) ⟨_, _, HR.out, rfl, rfl⟩ ?_; rintro v5 W5 ⟨hv5, hw5⟩; obtain rfl := hv5.symm; obtain rfl := hw5.symm)
            refine bodyPost_ret (results_tmp_row_tmp rfl _ _ w.heap.size 24 #[.int .i64 0, .int .i64 0] _ rfl ((HQ.out.set 0 _).set 1 _) Try.underlying24 rfl HI.out) rfl ?_
            refine ⟨(HBW2.out.setCell (p := ⟨w.heap.size, 0, none⟩) (Nat.le_refl _) _).setCell (p := ⟨w.heap.size, 1, none⟩) (Nat.le_refl _) _, ?_⟩
            rw [if_neg HNS.out, HTE.out]
            refine ⟨v2, _, rfl, (HQ3.out.far (g := w.heap.size) (by have := HSP0.out; omega) (grown_set (grown_set (World.grownBy.refl w5 _) 0 _) 1 _)).mono (by have := HSP0.out; omega), ?_⟩
            have h := HDN.out
            rw [HC.out] at h
            exact h
end Go.Proofs.Ytbmobaomnfchkaa
