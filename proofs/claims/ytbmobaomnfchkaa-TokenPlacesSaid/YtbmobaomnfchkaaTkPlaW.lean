/- TokenPlaces' walk. -/
import Derived.Test.YtbmobaomnfchkaaTkOwn
import Derived.Test.YtbmobaomnfchkaaTkPlc
namespace Go.Proofs.Ytbmobaomnfchkaa
open Go.RowKit

theorem ints_kept {w : World} {b n : Nat} {e : TypeId} {v : Value} {l : List Nat} (h : w.ownsRow b e 1 v n (iv l)) (hn : 0 < n) : ∃ g cp, v = .slice (some ⟨g, 0, none⟩) n cp ∧ ∀ W, Below w.heap.size w W → ∀ (j m : Nat), l[j]? = some m → W.cell? ⟨g, j, none⟩ = some (.int .i64 (m : Int)) := by
  obtain ⟨g, cp, cur, hv, _, _, hgl, hgp, htk⟩ := ownK_pos h hn
  refine ⟨g, cp, hv, fun W hW j m hj => ?_⟩
  rw [hW.cell (p := ⟨g, j, none⟩) hgl, cell_of_row w g j cur e (0, 0) hgp]
  exact take_at htk (iv_get hj)
theorem hb_at {s : ByteArray} {p : Nat} (h : p < s.size) : Tk.hb (s.data.toList.drop p) = Tk.blank s[p] := by
  rw [hb_nb]
  congr 1
  unfold nb
  rw [List.getD_eq_getElem?_getD, List.getElem?_eq_getElem (by simpa using h)]
  rfl
theorem quietB {P : Program} {f : FuncId} {args : Array Value} {w : World} {n : Nat} {v : Value} (h : Calls P f args (w.drewN n) fun e w' => e = .returned v ∧ w' = w.drewN n) :
    Calls P f args (w.drewN n) fun e w'' => e = .returned v ∧ ∃ m, w'' = w.drewN m := h.mono fun _ _ ⟨he, hw⟩ => ⟨he, n, hw⟩
set_option maxHeartbeats 4000000 in
set_option maxRecDepth 100000 in
theorem walk_TokenPlaces (w : World) (s : ByteArray) (_ : s.size ≤ 140737488351232) : Calls Try.prog 5 #[.string s] w fun e w' => e = .returned (.bool true) ∧ Below w.heap.size w w' := by
  by_cases hs : 20000 < s.size
  · have hs2 : (20000 : Int) < (s.size : Int) := by omega
    clear hs
    go_enter Try.func5, Try.ntmps5
    go_wp2
    go_ret
    exact ⟨rfl, Below.refl _ _⟩
  have hs2 : ¬ (20000 : Int) < (s.size : Int) := by omega
  rcases hT : Tk.tells s.data.toList with ⟨l, c, x⟩ | es
  · have HE := Lib.hid (entries_no w (by omega) hT)
    have hx := play_errs _ _ _ _ _ hT
    have hx2 : ((x : Int) != 0) = true := by rcases hx with rfl | rfl <;> rfl
    clear hT hx hs
    go_enter Try.func5, Try.ntmps5
    go_wp2_with (first
      | (go_at_call 8; refine HE.out.mono ?_; rintro e w1 ⟨B1, rfl⟩; have HB1 := Lib.hid (B1.alloc B1.size (.cells #[.int .i64 l, .int .i64 c] 24)); clear B1)
      | (go_at_call 11; refine (reads_any _).mono ?_; rintro e w2 ⟨rfl, B2⟩; have HB2 := Lib.hid (HB1.out.trans (B2.mono HB1.out.size)); clear B2))
    go_ret
    exact ⟨rfl, HB2.out⟩
  have HE := Lib.hid (entries_ok w (by omega) hT)
  obtain ⟨eL, hEg⟩ := Tk.tells_places hT
  have HEG := Lib.hid hEg
  have HPL := Lib.hid (fun W => places_any s W (by omega))
  have hl : s.data.toList.length = s.size := by simp
  have HL := Lib.hid hl
  have hpos : 0 < (Tk.pls s.data.toList).length := by simp [Tk.pls]
  have hfit := Tk.tells_fit hT
  have hn : es.length ≤ 1048576 := by have := hfit.1; omega
  have HW : Hid (∀ x ∈ es, x.words.length ≤ 1048576) := fun x hx => by have := (hfit.2 x hx).2; omega
  clear hT hEg hl hfit
  go_enter Try.func5, Try.ntmps5
  go_wp2_with (first
    | (go_at_call 8
       refine HE.out.mono ?_
       rintro e w1 ⟨B1, ve, out, rfl, hO, hM⟩
       have HB1 := Lib.hid (B1.alloc B1.size (.cells #[.int .i64 0, .int .i64 0] 24))
       have HA1 : Hid (EnsAt (w1.alloc (.cells #[.int .i64 0, .int .i64 0] 24)) ve es) := by
         have h := hO.at_
         rw [hM] at h
         exact h.below ((Below.refl _ _).alloc (Nat.le_refl _) _)
       clear B1 hO hM)
    | (go_at_call 16
       refine (HPL.out _).mono ?_
       rintro e w2 ⟨B2, vp, rfl, hP⟩
       have HB2 := Lib.hid (HB1.out.trans (B2.mono HB1.out.size))
       have HA2 := Lib.hid (HA1.out.below B2)
       obtain ⟨gp, cp, rfl, hpc⟩ := ints_kept hP hpos
       have HPC := Lib.hid hpc
       clear B2 hP HA1 HB1 hpc))
  have hpl : (Tk.pls s.data.toList).length ≤ 1048577 := by
    have h := pls_le s.data.toList s.size
    rw [List.take_of_length_le (by simp)] at h
    omega
  obtain ⟨A, c, rfl, hform⟩ := HA2.out.form
  have HFORM := Lib.hid hform
  clear hform
  have HBR := Lib.hid (Below.refl w2.heap.size w2)
  go_loopw [7, 8] (fun v i wr => ∃ e j e0 : Nat, v = .int .i64 e ∧ i = .int .i64 j ∧ j ≤ es.length ∧ e ≤ e0 ∧ e ≤ s.size ∧ Hid (Tk.Eg s.data.toList e0 (es.drop j) eL) ∧ Hid (Below w2.heap.size w2 wr)) (fun _ i _ => es.length - (intOf i).toNat)
  case atStart => exact ⟨0, 0, 0, rfl, rfl, Nat.zero_le _, Nat.le_refl _, Nat.zero_le _, HEG.out, HBR.out⟩
  case round =>
    obtain ⟨e, j, e0, rfl, rfl, hj, hee, hes, HG, HBW⟩ := hrel
    by_cases hlt : j < es.length
    · have hG := HG.out
      rw [List.drop_eq_getElem_cons hlt] at hG
      obtain ⟨pe, e1, p1, p2, p3, p4, p5, p6, p7, p8, p9⟩ := hG
      obtain ⟨g, o, B, d, hA, hgl, c0, c1, c2, hB⟩ := HFORM.out j hlt
      subst hA
      have hwl := HW.out _ (List.getElem_mem hlt)
      clear HG
      generalize es[j] = x at *
      obtain ⟨bl, el, ws⟩ := x
      simp only at p3 p4 p5 p6 p7 p8 c0 c1 c2 hB hwl
      obtain ⟨ln, rfl⟩ : ∃ m, el = m + 1 := ⟨el - 1, by omega⟩
      rw [Nat.add_sub_cancel] at p5
      have hpe : pe < s.size := by have := HL.out; omega
      rw [hb_at hpe] at p6
      subst p6
      have a0 : wr.cell? ⟨g, o + j * 3, none⟩ = some (.bool (Tk.blank s[pe])) := (HBW.out.cell (p := ⟨g, o + j * 3, none⟩) hgl).trans c0
      have a1 : wr.cell? ⟨g, o + j * 3 + 1, none⟩ = some (.int .i64 ((ln : Int) + 1)) := (HBW.out.cell (p := ⟨g, o + j * 3 + 1, none⟩) hgl).trans c1
      have a2 : wr.cell? ⟨g, o + j * 3 + 2, none⟩ = some (.slice B ws.length d) := (HBW.out.cell (p := ⟨g, o + j * 3 + 2, none⟩) hgl).trans c2
      have q1 : wr.cell? ⟨gp, ln, none⟩ = some (.int .i64 (pe : Int)) := HPC.out wr HBW.out ln pe p5
      have HBL := Lib.hid (blank_any s[pe])
      have HC1 : Hid (w2.cell? ⟨g, o + j * 3 + 1, none⟩ = some (.int .i64 ((ln : Int) + 1))) := c1
      have HC2 := Lib.hid c2
      have HWL : Hid (ws.length ≤ 1048576) := hwl
      have HWG := Lib.hid p8
      have HG9 := Lib.hid p9
      have HP1 := Lib.hid p1
      have HBB := Lib.hid hB
      have hwpos : 0 < ws.length := List.length_pos_iff.2 p7
      have i1 : (j : Int) < (es.length : Int) := by omega
      have i2 : decide ((ln : Int) + 1 < 1) = false := decide_eq_false (by omega)
      have i3 : decide ((((Tk.pls s.data.toList).length : Nat) : Int) < (ln : Int) + 1) = false := decide_eq_false (by omega)
      have i4 : ((ws.length : Int) == 0) = false := beq_eq_false_iff_ne.2 (by omega)
      have i5 : decide ((s.size : Int) ≤ (pe : Int)) = false := decide_eq_false (by omega)
      have i6 : (ln : Int) < ((Tk.pls s.data.toList).length : Int) := by omega
      have i7 : (pe : Int) < (s.size : Int) := by omega
      have hln : ln ≤ 1048577 := by omega
      have hls : IntKind.i64.wrap (ln : Int) = (ln : Int) := by rw [IntKind.wrap_i64]; omega
      clear p1 p2 p3 p4 p5 p7 p8 p9 c0 c1 c2 hB hwl
      generalize hm : (Tk.pls s.data.toList).length = m at *
      have HM := Lib.hid hm
      clear hm
      generalize Tk.blank s[pe] = bb at *
      go_wp2_with fail
      go_quiet ((go_at_call 17; exact quietB (HBL.out _)))
      go_wp2
      clear a0 a1 a2 q1 i2 i3 i4 i5 hls
      go_loopw [7, 9] (fun v i wz => ∃ e2 k e3 : Nat, v = .int .i64 e2 ∧ i = .int .i64 k ∧ k ≤ ws.length ∧ e2 ≤ e3 ∧ e2 ≤ s.size ∧ Hid (Tk.Wg s.data.toList (ln + 1) e3 (ws.drop k) e1) ∧ Hid (Below w2.heap.size w2 wz)) (fun _ i _ => ws.length - (intOf i).toNat)
      case atStart => exact ⟨e, 0, pe, rfl, rfl, Nat.zero_le _, Nat.le_trans hee HP1.out, hes, HWG.out, below_drewN HBW.out _⟩
      case round =>
        obtain ⟨e2, k, e3, rfl, rfl, hk, he23, he2s, HG2, HBZ⟩ := hrel
        have b1 : wr.cell? ⟨g, o + j * 3 + 1, none⟩ = some (.int .i64 ((ln : Int) + 1)) := (HBZ.out.cell (p := ⟨g, o + j * 3 + 1, none⟩) hgl).trans HC1.out
        have b2 : wr.cell? ⟨g, o + j * 3 + 2, none⟩ = some (.slice B ws.length d) := (HBZ.out.cell (p := ⟨g, o + j * 3 + 2, none⟩) hgl).trans HC2.out
        by_cases hkl : k < ws.length
        · have hG2 := HG2.out
          rw [List.drop_eq_getElem_cons hkl] at hG2
          obtain ⟨off, bb2, r1, r2, r3, r4, r5, r6, r7, r8, r9, r10, r11⟩ := hG2
          obtain ⟨gw, ow, hB, hgw, s0, s1, s2, s3⟩ := word_cells HBB.out hkl
          subst hB
          clear HG2
          generalize ws[k] = y at *
          obtain ⟨tx, qd, yl, yc⟩ := y
          simp only at r1 r2 r3 r4 r5 r6 s0 s1 s2 s3
          obtain ⟨yl, rfl⟩ : ∃ m, yl = m + 1 := ⟨yl - 1, by omega⟩
          obtain ⟨yc, rfl⟩ : ∃ m, yc = m + 1 := ⟨yc - 1, by omega⟩
          rw [Nat.add_sub_cancel] at r5
          obtain rfl : off = bb2 + yc := by omega
          have HG11 := Lib.hid r11
          have HT9 := Lib.hid r9
          have HT8 : Hid (bb2 + yc + (Tk.Wd.txt ⟨tx, qd, yl + 1, yc + 1⟩).length ≤ s.size) := by rw [Hid, ← HL.out]; exact r8
          have HT10 : Hid (0 < (Tk.Wd.txt ⟨tx, qd, yl + 1, yc + 1⟩).length) := List.length_pos_iff.2 r10
          have t0 : wr.cell? ⟨gw, ow + k * 4, none⟩ = some (.string ⟨tx.toArray⟩) := (HBZ.out.cell (p := ⟨gw, ow + k * 4, none⟩) hgw).trans s0
          have t1 : wr.cell? ⟨gw, ow + k * 4 + 1, none⟩ = some (.bool qd) := (HBZ.out.cell (p := ⟨gw, ow + k * 4 + 1, none⟩) hgw).trans s1
          have t2 : wr.cell? ⟨gw, ow + k * 4 + 2, none⟩ = some (.int .i64 ((yl : Int) + 1)) := (HBZ.out.cell (p := ⟨gw, ow + k * 4 + 2, none⟩) hgw).trans s2
          have t3 : wr.cell? ⟨gw, ow + k * 4 + 3, none⟩ = some (.int .i64 ((yc : Int) + 1)) := (HBZ.out.cell (p := ⟨gw, ow + k * 4 + 3, none⟩) hgw).trans s3
          have HQ : Hid (∀ W, Below w2.heap.size w2 W → W.cell? ⟨gp, yl, none⟩ = some (.int .i64 (bb2 : Int))) := fun W hW => HPC.out W hW yl bb2 r5
          have HR7 := Lib.hid r7
          have n1 : yl + 1 ≤ m := by rw [← HM.out]; exact r4
          have n2 : ln + 1 ≤ yl + 1 := r1
          clear r1 r2 r3 r4 r5 r6 r7 r8 r9 r10 r11 s0 s1 s2 s3
          have k1 : (k : Int) < (ws.length : Int) := by omega
          have hyl : yl ≤ 1048577 := by omega
          have HXF := Lib.hid (Has.fresh wr 48 #[.string ⟨tx.toArray⟩, .bool qd, .int .i64 ((yl : Int) + 1), .int .i64 ((yc : Int) + 1)])
          have HBF := Lib.hid (HBZ.out.alloc HBZ.out.size (.cells #[.string ⟨tx.toArray⟩, .bool qd, .int .i64 ((yl : Int) + 1), .int .i64 ((yc : Int) + 1)] 48))
          obtain ⟨S, hS⟩ : ∃ S : ByteArray, S = ⟨tx.toArray⟩ := ⟨_, rfl⟩
          have HSL : Hid (S.data.toList = tx) := by rw [hS]; rfl
          rw [← hS] at t0 HXF HBF
          clear hS
          have j0c : decide (yl < ln) = false := decide_eq_false (by omega)
          have j1b : decide (m < yl + 1) = false := decide_eq_false (by omega)
          have j1c : decide (m ≤ yl) = false := decide_eq_false (by omega)
          have j1d : decide ((m : Int) ≤ (yl : Int)) = false := decide_eq_false (by omega)
          have j0b : decide ((yl : Int) < (ln : Int)) = false := decide_eq_false (by omega)
          have j0 : decide ((yl : Int) + 1 < (ln : Int) + 1) = false := decide_eq_false (by omega)
          have j1 : decide ((m : Int) < (yl : Int) + 1) = false := decide_eq_false (by omega)
          have j2 : decide ((yc : Int) + 1 < 1) = false := decide_eq_false (by omega)
          have j4 : (yl : Int) < (m : Int) := by omega
          have hls2 : IntKind.i64.wrap (yl : Int) = (yl : Int) := by rw [IntKind.wrap_i64]; omega
          have hbb : bb2 + yc ≤ 1048576 := by have := HT8.out; omega
          have hw1 : IntKind.i64.wrap ((bb2 : Int) + ((yc : Int) + 1)) = (bb2 : Int) + ((yc : Int) + 1) := by rw [IntKind.wrap_i64]; omega
          have hw2 : IntKind.i64.wrap ((bb2 : Int) + ((yc : Int) + 1) - 1) = (bb2 : Int) + (yc : Int) := by rw [IntKind.wrap_i64]; omega
          cases qd
          · have HL8 : Hid (bb2 + yc + S.size ≤ s.size) := by
              have h := HT8.out
              rw [← HSL.out] at h
              exact h
            have HL10 : Hid (0 < S.size) := by
              have h := HT10.out
              rw [← HSL.out] at h
              exact h
            have j3 : ((S.size : Int) == 0) = false := beq_eq_false_iff_ne.2 (by have := HL10.out; omega)
            have j3b : (S.size == 0) = false := beq_eq_false_iff_ne.2 (by have := HL10.out; omega)
            go_wp2
            clear t0 t1 t2 t3 b1 b2
            have z1 : (wr.alloc (.cells #[.string S, .bool false, .int .i64 ((yl : Int) + 1), .int .i64 ((yc : Int) + 1)] 48)).cell? ⟨g, o + j * 3 + 1, none⟩ = some (.int .i64 ((ln : Int) + 1)) := (HBF.out.cell (p := ⟨g, o + j * 3 + 1, none⟩) hgl).trans HC1.out
            generalize wr.heap.size = gy at *
            generalize wr.alloc (.cells #[.string S, .bool false, .int .i64 ((yl : Int) + 1), .int .i64 ((yc : Int) + 1)] 48) = wy at *
            have y2 : wy.cell? ⟨gy, 2, none⟩ = some (.int .i64 ((yl : Int) + 1)) := HXF.out.cell 2
            have y3 : wy.cell? ⟨gy, 3, none⟩ = some (.int .i64 ((yc : Int) + 1)) := HXF.out.cell 3
            have hq2 := HQ.out wy HBF.out
            go_quiet (fail)
            go_wp2_with fail
            clear j0 j0b j0c j1 j1b j1c j1d j2 j3 j3b z1
            go_quiet (fail)
            clear hls2 hw1 hw2 hq2 y2 y3 j4
            have hS8 : bb2 + yc + S.size ≤ s.size := HL8.out
            have hS9 : s.size ≤ 1048576 := by omega
            have hR7 : e2 ≤ bb2 + yc := Nat.le_trans he23 HR7.out
            have hwl2 : ws.length ≤ 1048576 := HWL.out
            have l0 : decide ((bb2 : Int) + (yc : Int) < (e2 : Int)) = false := decide_eq_false (by omega)
            have l0b : decide (bb2 + yc < e2) = false := decide_eq_false (by omega)
            have l1 : decide ((s.size : Int) < (bb2 : Int) + (yc : Int) + (S.size : Int)) = false := decide_eq_false (by omega)
            have l1b : decide (s.size < bb2 + yc + S.size) = false := decide_eq_false (by omega)
            have l2 : (0 : Int) ≤ (bb2 : Int) + (yc : Int) := by omega
            have l3 : (bb2 : Int) + (yc : Int) ≤ (bb2 : Int) + (yc : Int) + (S.size : Int) := by omega
            have l4 : (bb2 : Int) + (yc : Int) + (S.size : Int) ≤ (s.size : Int) := by omega
            have l5 : ((s.extract (bb2 + yc) (bb2 + yc + S.size)).toList == S.toList) = true := by
              have h9 := HT9.out
              have e1 : s.extract (bb2 + yc) (bb2 + yc + S.size) = S := by
                have e2 : (s.extract (bb2 + yc) (bb2 + yc + S.size)).data.toList = S.data.toList := by
                  rw [extract_list, show bb2 + yc + S.size - (bb2 + yc) = S.size by omega, HSL.out]
                  have hz : (Tk.Wd.txt ⟨tx, false, yl + 1, yc + 1⟩).length = S.size := by
                    show tx.length = S.size
                    rw [← HSL.out]; simp
                  rw [hz] at h9
                  exact h9
                exact (string_eq e2).trans (string_eq (s := S) rfl).symm
              rw [e1]
              exact beq_self_eq_true _
            have l6 : IntKind.i64.wrap ((bb2 : Int) + (yc : Int) + (S.size : Int)) = (bb2 : Int) + (yc : Int) + (S.size : Int) := by rw [IntKind.wrap_i64]; omega
            go_wp2
            go_roundw
            case rel => exact ⟨bb2 + yc + S.size, k + 1, _, by go_num, by go_num, by omega, Nat.le_refl _, hS8, by
              have h := HG11.out
              have hz : (Tk.Wd.txt ⟨tx, false, yl + 1, yc + 1⟩).length = S.size := by
                show tx.length = S.size
                rw [← HSL.out]; simp
              rw [hz] at h
              exact h, below_drewN HBF.out _⟩
            case measure => simp [intOf]; omega
          · obtain ⟨D, hD⟩ : ∃ D : ByteArray, D = ({ data := #[34] } ++ S ++ { data := #[34] }) := ⟨_, rfl⟩
            have HDL : Hid (D.data.toList = 34 :: tx ++ [34]) := by
              rw [Hid, hD, ← HSL.out]
              simp
            have hS1 : S.size ≤ 1048576 := by
              have h := HT8.out
              have h2 : (Tk.Wd.txt ⟨tx, true, yl + 1, yc + 1⟩).length = S.size + 2 := by
                show (34 :: tx ++ [34]).length = _
                rw [← HSL.out]; simp
              omega
            have HL8 : Hid (bb2 + yc + D.size ≤ s.size) := by
              have h := HT8.out
              rw [show Tk.Wd.txt ⟨tx, true, yl + 1, yc + 1⟩ = 34 :: tx ++ [34] from rfl, ← HDL.out] at h
              exact h
            have HL10 : Hid (0 < D.size) := by
              have h := HT10.out
              rw [show Tk.Wd.txt ⟨tx, true, yl + 1, yc + 1⟩ = 34 :: tx ++ [34] from rfl, ← HDL.out] at h
              exact h
            have j3 : ((D.size : Int) == 0) = false := beq_eq_false_iff_ne.2 (by have := HL10.out; omega)
            have j3b : (D.size == 0) = false := beq_eq_false_iff_ne.2 (by have := HL10.out; omega)
            go_wp2
            rw [← hD]
            clear hD hS1
            clear t0 t1 t2 t3 b1 b2
            have z1 : (wr.alloc (.cells #[.string S, .bool true, .int .i64 ((yl : Int) + 1), .int .i64 ((yc : Int) + 1)] 48)).cell? ⟨g, o + j * 3 + 1, none⟩ = some (.int .i64 ((ln : Int) + 1)) := (HBF.out.cell (p := ⟨g, o + j * 3 + 1, none⟩) hgl).trans HC1.out
            generalize wr.heap.size = gy at *
            generalize wr.alloc (.cells #[.string S, .bool true, .int .i64 ((yl : Int) + 1), .int .i64 ((yc : Int) + 1)] 48) = wy at *
            have y2 : wy.cell? ⟨gy, 2, none⟩ = some (.int .i64 ((yl : Int) + 1)) := HXF.out.cell 2
            have y3 : wy.cell? ⟨gy, 3, none⟩ = some (.int .i64 ((yc : Int) + 1)) := HXF.out.cell 3
            have hq2 := HQ.out wy HBF.out
            go_quiet (fail)
            go_wp2_with fail
            clear j0 j0b j0c j1 j1b j1c j1d j2 j3 j3b z1
            go_quiet (fail)
            clear hls2 hw1 hw2 hq2 y2 y3 j4
            have hS8 : bb2 + yc + D.size ≤ s.size := HL8.out
            have hS9 : s.size ≤ 1048576 := by omega
            have hR7 : e2 ≤ bb2 + yc := Nat.le_trans he23 HR7.out
            have hwl2 : ws.length ≤ 1048576 := HWL.out
            have l0 : decide ((bb2 : Int) + (yc : Int) < (e2 : Int)) = false := decide_eq_false (by omega)
            have l0b : decide (bb2 + yc < e2) = false := decide_eq_false (by omega)
            have l1 : decide ((s.size : Int) < (bb2 : Int) + (yc : Int) + (D.size : Int)) = false := decide_eq_false (by omega)
            have l1b : decide (s.size < bb2 + yc + D.size) = false := decide_eq_false (by omega)
            have l2 : (0 : Int) ≤ (bb2 : Int) + (yc : Int) := by omega
            have l3 : (bb2 : Int) + (yc : Int) ≤ (bb2 : Int) + (yc : Int) + (D.size : Int) := by omega
            have l4 : (bb2 : Int) + (yc : Int) + (D.size : Int) ≤ (s.size : Int) := by omega
            have l5 : ((s.extract (bb2 + yc) (bb2 + yc + D.size)).toList == D.toList) = true := by
              have h9 := HT9.out
              have e1 : s.extract (bb2 + yc) (bb2 + yc + D.size) = D := by
                have e2 : (s.extract (bb2 + yc) (bb2 + yc + D.size)).data.toList = D.data.toList := by
                  rw [extract_list, show bb2 + yc + D.size - (bb2 + yc) = D.size by omega, HDL.out]
                  have hz : (Tk.Wd.txt ⟨tx, true, yl + 1, yc + 1⟩).length = D.size := by
                    show (34 :: tx ++ [34]).length = D.size
                    rw [← HDL.out]; simp
                  rw [hz] at h9
                  exact h9
                exact (string_eq e2).trans (string_eq (s := D) rfl).symm
              rw [e1]
              exact beq_self_eq_true _
            have l6 : IntKind.i64.wrap ((bb2 : Int) + (yc : Int) + (D.size : Int)) = (bb2 : Int) + (yc : Int) + (D.size : Int) := by rw [IntKind.wrap_i64]; omega
            go_wp2
            go_roundw
            case rel => exact ⟨bb2 + yc + D.size, k + 1, _, by go_num, by go_num, by omega, Nat.le_refl _, hS8, by
              have h := HG11.out
              have hz : (Tk.Wd.txt ⟨tx, true, yl + 1, yc + 1⟩).length = D.size := by
                show (34 :: tx ++ [34]).length = D.size
                rw [← HDL.out]; simp
              rw [hz] at h
              exact h, below_drewN HBF.out _⟩
            case measure => simp [intOf]; omega
        · obtain rfl : k = ws.length := by omega
          have hG2 := HG2.out
          rw [List.drop_length] at hG2
          have hG2 : e3 = e1 := hG2
          subst hG2
          go_wp2
          go_roundw
          case rel => exact ⟨e2, j + 1, e3, rfl, by go_num, by omega, he23, he2s, HG9.out, HBZ⟩
          case measure => simp [intOf]; omega
    · obtain rfl : j = es.length := by omega
      go_wp2_with (go_at_call 11; refine (reads_any _).mono ?_; rintro e w3 ⟨rfl, B3⟩; have HB3 := Lib.hid ((HB2.out.trans (HBW.out.mono HB2.out.size)).trans (B3.mono (Nat.le_trans HB2.out.size HBW.out.size))); clear B3)
      go_ret
      exact ⟨rfl, HB3.out⟩
end Go.Proofs.Ytbmobaomnfchkaa
