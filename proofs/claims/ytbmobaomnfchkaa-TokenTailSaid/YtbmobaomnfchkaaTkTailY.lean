/- TokenTail's walk: both texts are well. -/
import Derived.Test.YtbmobaomnfchkaaTkTailX
namespace Go.Proofs.Ytbmobaomnfchkaa
open Go.RowKit

theorem shE_take {es : List Tk.En} {n j : Nat} (hj : j < es.length) : (es.take (j + 1)).map (Tk.shE n) = (es.take j).map (Tk.shE n) ++ [Tk.shE n es[j]] := by
  rw [List.take_succ_eq_append_getElem hj, List.map_append]
  rfl
theorem shW_take {ws : List Tk.Wd} {n k : Nat} (hk : k < ws.length) : (ws.take (k + 1)).map (Tk.shW n) = (ws.take k).map (Tk.shW n) ++ [Tk.shW n ws[k]] := by
  rw [List.take_succ_eq_append_getElem hk, List.map_append]
  rfl
theorem wg_lines {t : List UInt8} {el : Nat} : ∀ {ws : List Tk.Wd} {e e' : Nat}, Tk.Wg t el e ws e' → ∀ y ∈ ws, y.line ≤ (Tk.pls t).length
  | [], _, _, _, y, hy => by cases hy
  | w :: ws, _, _, h, y, hy => by
    obtain ⟨off, b, _, _, _, h4, _, _, _, _, _, _, h⟩ := h
    rcases List.mem_cons.1 hy with rfl | hy
    · exact h4
    · exact wg_lines h y hy
theorem eg_lines {t : List UInt8} : ∀ {es : List Tk.En} {e e' : Nat}, Tk.Eg t e es e' → ∀ x ∈ es, x.line ≤ (Tk.pls t).length ∧ ∀ y ∈ x.words, y.line ≤ (Tk.pls t).length
  | [], _, _, _, x, hx => by cases hx
  | x' :: es, _, _, h, x, hx => by
    obtain ⟨pe, e1, _, _, _, h4, _, _, _, hw, h⟩ := h
    rcases List.mem_cons.1 hx with rfl | hx
    · exact ⟨h4, wg_lines hw⟩
    · exact eg_lines h x hx
theorem Ers.allocs {w : World} {b : Nat} {v : Value} {out : List Ex} (h : Ers w b v out) (o : Obj) : Ers (w.alloc o) b v out := ⟨h.own.alloc o, fun x hx => (h.dat x hx).alloc o, h.off⟩
theorem tg_start {w : World} {b : Nat} {vW : Value} {out : List Ex} (h : Ers w b vW out) (o : Obj) : Tg (w.alloc o) b w.heap.size (.slice none 0 0) vW [] out :=
  ⟨Tx.start (h.allocs o), fun q e => (h.own.lt q e).2, fun x hx q e => ((h.dat x hx).lt q e).2, fun q e => by cases e⟩
set_option maxRecDepth 100000 in
theorem tail_long (w : World) (a b : ByteArray) (h : 20000 < a.size ∨ 20000 < b.size) : Calls Try.prog 6 #[.string a, .string b] w fun e w' => e = .returned (.bool true) ∧ Below w.heap.size w w' := by
  by_cases ha : 20000 < a.size
  · have ha2 : (20000 : Int) < (a.size : Int) := by omega
    clear h ha
    go_enter Try.func6, Try.ntmps6
    go_wp2
    go_ret
    exact ⟨rfl, Below.refl _ _⟩
  · have ha2 : ¬ (20000 : Int) < (a.size : Int) := by omega
    have hb2 : (20000 : Int) < (b.size : Int) := by omega
    clear h ha
    go_enter Try.func6, Try.ntmps6
    go_wp2
    go_ret
    exact ⟨rfl, Below.refl _ _⟩
set_option maxHeartbeats 4000000 in
set_option maxRecDepth 100000 in
theorem tail_both (w : World) (a b : ByteArray) (ha : a.size ≤ 20000) (hb : b.size ≤ 20000) (esA esB : List Tk.En) (hT : Tk.tells a.data.toList = .ok esA) (hU : Tk.tells b.data.toList = .ok esB) :
    Calls Try.prog 6 #[.string a, .string b] w fun e w' => e = .returned (.bool true) ∧ Below w.heap.size w w' := by
  have ha2 : ¬ (20000 : Int) < (a.size : Int) := by omega
  have hb2 : ¬ (20000 : Int) < (b.size : Int) := by omega
  have hV : Tk.tells (a ++ ⟨#[10]⟩ ++ b).data.toList = .ok (esA ++ esB.map (Tk.shE (Tk.lfs a.data.toList + 1))) := by
    rw [catB_list, Tk.tells_cat hT, hU]; rfl
  have hfv := Tk.tells_fit hV
  have hlv : (a ++ ⟨#[10]⟩ ++ b).data.toList.length = a.size + 1 + b.size := by rw [← catB_size]; rfl
  have hfb := Tk.tells_fit hU
  have hlb : b.data.toList.length = b.size := by simp
  have hfa := Tk.tells_fit hT
  have hla : a.data.toList.length = a.size := by simp
  have HWB : Hid (∀ x ∈ esB, x.words.length ≤ 1048576 ∧ x.line ≤ 1048576 ∧ ∀ y ∈ x.words, y.line ≤ 1048576) := fun x hx => by
    obtain ⟨e', hE⟩ := Tk.tells_places hU
    have h1 := eg_lines hE x hx
    have h2 := (hfb.2 x hx).2
    have h3 := pls_le b.data.toList b.size
    rw [List.take_of_length_le (by simp)] at h3
    exact ⟨by omega, by omega, fun y hy => by have := h1.2 y hy; omega⟩
  have HA := Lib.hid (entries_ok w (by omega) hT)
  have HB := Lib.hid (fun W => entries_ok W (by omega) hU)
  have HC := Lib.hid (fun W => entries_ok (s := a ++ ⟨#[10]⟩ ++ b) W (by rw [catB_size]; omega) hV)
  have HLN := Lib.hid (fun W => lines_any a W (by omega))
  have hlf := lfs_le a.data.toList
  have hnn : Tk.lfs a.data.toList + 1 ≤ 20001 := by omega
  have HS := Lib.hid (fun (v1 v2 : Value) (W : World) (p : EnsAt W v1 _) (q : EnsAt W v2 _) => same_any v1 v2 (esA ++ esB.map (Tk.shE (Tk.lfs a.data.toList + 1))) W p q (by have := hfv.1; omega) (fun x hx => by have := (hfv.2 x hx).2; omega))
  have hnA : esA.length ≤ 20001 := by have := hfa.1; omega
  have hnB : esB.length ≤ 20001 := by have := hfb.1; omega
  have hcast : ((Tk.lfs a.data.toList : Nat) : Int) + 1 = ((Tk.lfs a.data.toList + 1 : Nat) : Int) := by omega
  have HCA := Lib.hid hcast
  clear hT hU hV hfv hlv hfb hlb hfa hla hlf hcast
  generalize hn : Tk.lfs a.data.toList = n0 at *
  clear hn
  go_enter Try.func6, Try.ntmps6
  go_wp2_with (first
    | (go_at_call_of 8 (Value.string a)
       refine HA.out.mono ?_
       rintro e w1 ⟨B1, ve1, out1, rfl, hE1, hM1⟩
       have HB1 := Lib.hid (B1.alloc B1.size (.cells #[.int .i64 0, .int .i64 0] 24))
       have HE1 := Lib.hid (hE1.allocs (.cells #[.int .i64 0, .int .i64 0] 24))
       have HM1 := Lib.hid hM1
       clear B1 hE1 hM1)
    | (go_at_call_of 8 (Value.string b)
       refine (HB.out _).mono ?_
       rintro e w2 ⟨B2, ve2, out2, rfl, hE2, hM2⟩
       have HB2 := Lib.hid ((HB1.out.trans (B2.mono HB1.out.size)).alloc (Nat.le_trans HB1.out.size B2.size) (.cells #[.int .i64 0, .int .i64 0] 24))
       have HE2 := Lib.hid ((HE1.out.below B2 (Nat.le_refl _)).allocs (.cells #[.int .i64 0, .int .i64 0] 24))
       have HA2 : Hid (EnsAt (w2.alloc (.cells #[.int .i64 0, .int .i64 0] 24)) ve2 esB) := by
         have h := hE2.at_
         rw [hM2] at h
         exact h.below ((Below.refl _ _).alloc (Nat.le_refl _) _)
       clear B2 hE2 hM2 HE1 HB1)
    | (go_at_call 8
       refine (HC.out _).mono ?_
       rintro e w3 ⟨B3, ve3, out3, rfl, hE3, hM3⟩
       have HB3 := Lib.hid ((HB2.out.trans (B3.mono HB2.out.size)).alloc (Nat.le_trans HB2.out.size B3.size) (.cells #[.int .i64 0, .int .i64 0] 24))
       have HE3 := Lib.hid ((HE2.out.below B3 (Nat.le_refl _)).allocs (.cells #[.int .i64 0, .int .i64 0] 24))
       have HA3 := Lib.hid ((HA2.out.below B3).below ((Below.refl w3.heap.size w3).alloc (Nat.le_refl _) (.cells #[.int .i64 0, .int .i64 0] 24)))
       have HV3 : Hid (EnsAt (w3.alloc (.cells #[.int .i64 0, .int .i64 0] 24)) ve3 (esA ++ esB.map (Tk.shE (n0 + 1)))) := by
         have h := hE3.at_
         rw [hM3] at h
         exact h.below ((Below.refl _ _).alloc (Nat.le_refl _) _)
       clear B3 hE3 hM3 HE2 HA2 HB2)
    | (go_at_call 18
       refine (HLN.out _).mono ?_
       rintro e w5 ⟨rfl, hw5⟩
       subst hw5)
    | (at_builtin
       refine wpList_append_run rfl (.tmp 96) (.tmp 97) _ _ rfl (.slice none 0 0) ve1 rfl rfl (run_copy HE3.out (Nat.le_trans HB3.out.size (Nat.le_refl _)) (by have h := congrArg List.length HM1.out; simp at h; omega)) ?_
       rintro v' w6 ⟨hE6, hl6, hg6⟩
       have hsz3 : w3.heap.size < (w3.alloc (.cells #[.int .i64 0, .int .i64 0] 24)).heap.size := by simp
       have HG6 := Lib.hid (grown_below hg6 (Nat.le_refl _) (fun k e => by cases e))
       have HE6 := Lib.hid hE6
       have HL6 := Lib.hid hl6
       clear hE6 hl6 hg6))
  generalize w3.alloc (.cells #[.int .i64 0, .int .i64 0] 24) = wz at *
  obtain ⟨A, cB, rfl, hform⟩ := HA3.out.form
  have HFORM := Lib.hid hform
  clear hform
  go_loopw [15, 16] (fun vW i wr => ∃ (j : Nat) (outW : List Ex) (VW : Value), vW = VW ∧ i = .int .i64 j ∧ j ≤ esB.length ∧ Hid (outW.map Ex.en = esA ++ (esB.take j).map (Tk.shE (n0 + 1))) ∧ Hid (Ers wr w.heap.size VW outW) ∧ Hid (∀ q, VW.ownBlock = some q → wz.heap.size ≤ q) ∧ Hid (Below wz.heap.size wz wr)) (fun _ i _ => esB.length - (intOf i).toNat)
  case atStart => exact ⟨0, out1, _, rfl, rfl, Nat.zero_le _, by rw [Hid, HM1.out]; simp, HE6.out, HL6.out, HG6.out⟩
  case round =>
    obtain ⟨j, outW, VW, rfl, rfl, hj, HM, HE, HLW, HBW⟩ := hrel
    by_cases hlt : j < esB.length
    · obtain ⟨g, o, B, d, hA, hgl, c0, c1, c2, hB⟩ := HFORM.out j hlt
      subst hA
      obtain ⟨hwl, hll, hyl⟩ := HWB.out _ (List.getElem_mem hlt)
      have HSH := Lib.hid (shE_take (n := n0 + 1) hlt)
      have HOL : Hid (outW.length ≤ 40010) := by
        have h := congrArg List.length HM.out
        simp at h
        rw [Hid]
        omega
      generalize esB[j] = x at *
      obtain ⟨bl, el, ws⟩ := x
      simp only at c0 c1 c2 hB hwl hll hyl
      have HYL := Lib.hid hyl
      have HC2 := Lib.hid c2
      have HBB := Lib.hid hB
      have a0 : wr.cell? ⟨g, o + j * 3, none⟩ = some (.bool bl) := (HBW.out.cell (p := ⟨g, o + j * 3, none⟩) hgl).trans c0
      have a1 : wr.cell? ⟨g, o + j * 3 + 1, none⟩ = some (.int .i64 el) := (HBW.out.cell (p := ⟨g, o + j * 3 + 1, none⟩) hgl).trans c1
      have a2 : wr.cell? ⟨g, o + j * 3 + 2, none⟩ = some (.slice B ws.length d) := (HBW.out.cell (p := ⟨g, o + j * 3 + 2, none⟩) hgl).trans c2
      have i1 : (j : Int) < (esB.length : Int) := by omega
      have HX0 := Lib.hid (Has.fresh wr 40 #[.bool bl, .int .i64 ((el : Int) + ((n0 : Int) + 1)), .slice none 0 0])
      have HT0 := Lib.hid (tg_start HE.out (.cells #[.bool bl, .int .i64 ((el : Int) + ((n0 : Int) + 1)), .slice none 0 0] 40))
      have HB0 := Lib.hid (HBW.out.alloc HBW.out.size (.cells #[.bool bl, .int .i64 ((el : Int) + ((n0 : Int) + 1)), .slice none 0 0] 40))
      have hgx0 : wz.heap.size ≤ wr.heap.size := HBW.out.size
      clear c0 c1 c2 hB hyl
      go_wp2
      clear a0 a1
      generalize hgx : wr.heap.size = gx at *
      generalize wr.alloc (.cells #[.bool bl, .int .i64 ((el : Int) + ((n0 : Int) + 1)), .slice none 0 0] 40) = wx at *
      clear hgx
      go_loopw [18] (fun i wy => ∃ (k : Nat) (vx : Value), i = .int .i64 k ∧ k ≤ ws.length ∧ Hid (Has wy gx 40 #[.bool bl, .int .i64 ((el : Int) + ((n0 : Int) + 1)), vx]) ∧ Hid (Tg wy w.heap.size gx vx u15 ((ws.take k).map (Tk.shW (n0 + 1))) outW) ∧ Hid (Below wz.heap.size wz wy)) (fun i _ => ws.length - (intOf i).toNat)
      case atStart => exact ⟨0, .slice none 0 0, rfl, Nat.zero_le _, HX0.out, HT0.out, HB0.out⟩
      case round =>
        obtain ⟨k, vx, rfl, hk, HX, HT, HBy⟩ := hrel
        have b2 : wr.cell? ⟨g, o + j * 3 + 2, none⟩ = some (.slice B ws.length d) := (HBy.out.cell (p := ⟨g, o + j * 3 + 2, none⟩) hgl).trans HC2.out
        by_cases hkl : k < ws.length
        · obtain ⟨gw, ow, hBw, hgw, s0, s1, s2, s3⟩ := word_cells HBB.out hkl
          subst hBw
          have hyl := HYL.out _ (List.getElem_mem hkl)
          have HSW := Lib.hid (shW_take (n := n0 + 1) hkl)
          have hwk : ((ws.take k).map (Tk.shW (n0 + 1))).length = k := by rw [List.length_map, List.length_take]; omega
          have HWK := Lib.hid hwk
          generalize ws[k] = y at *
          obtain ⟨tx, qd, yl, yc⟩ := y
          simp only at hyl s0 s1 s2 s3
          have t0 : wr.cell? ⟨gw, ow + k * 4, none⟩ = some (.string ⟨tx.toArray⟩) := (HBy.out.cell (p := ⟨gw, ow + k * 4, none⟩) hgw).trans s0
          have t1 : wr.cell? ⟨gw, ow + k * 4 + 1, none⟩ = some (.bool qd) := (HBy.out.cell (p := ⟨gw, ow + k * 4 + 1, none⟩) hgw).trans s1
          have t2 : wr.cell? ⟨gw, ow + k * 4 + 2, none⟩ = some (.int .i64 yl) := (HBy.out.cell (p := ⟨gw, ow + k * 4 + 2, none⟩) hgw).trans s2
          have t3 : wr.cell? ⟨gw, ow + k * 4 + 3, none⟩ = some (.int .i64 yc) := (HBy.out.cell (p := ⟨gw, ow + k * 4 + 3, none⟩) hgw).trans s3
          clear s0 s1 s2 s3 hgw hwk
          obtain ⟨ad, cp, hvx, _⟩ := ownK_form HT.out.tx.wr
          subst hvx
          have x2 : (wr.alloc (.cells #[.string ⟨tx.toArray⟩, .bool qd, .int .i64 ((yl : Int) + ((n0 : Int) + 1)), .int .i64 yc] 48)).cell? ⟨gx, 2, none⟩ = some (.slice ad ((ws.take k).map (Tk.shW (n0 + 1))).length cp) := (HX.out.alloc _).cell 2
          obtain ⟨i4, z4, hi4, hz4, hs4, hb4, hc4⟩ := info_word
          have hww : w.heap.size ≤ wr.heap.size := Nat.le_trans HB3.out.size HBy.out.size
          rw [HWK.out] at x2
          have k1 : (k : Int) < (ws.length : Int) := by omega
          have hk9 : k ≤ 1048576 := by omega
          have hown := (HT.out.tx.wr.alloc (.cells #[.string ⟨tx.toArray⟩, .bool qd, .int .i64 ((yl : Int) + ((n0 : Int) + 1)), .int .i64 yc] 48)).alloc (.cells #[.string ⟨tx.toArray⟩, .bool qd, .int .i64 ((yl : Int) + ((n0 : Int) + 1)), .int .i64 yc] 48)
          have hsz : (wr.alloc (.cells #[.string ⟨tx.toArray⟩, .bool qd, .int .i64 ((yl : Int) + ((n0 : Int) + 1)), .int .i64 yc] 48)).heap.size = wr.heap.size + 1 := by simp
          have hcn := tk_cells_new (wr.alloc (.cells #[.string ⟨tx.toArray⟩, .bool qd, .int .i64 ((yl : Int) + ((n0 : Int) + 1)), .int .i64 yc] 48)) 48 [.string ⟨tx.toArray⟩, .bool qd, .int .i64 ((yl : Int) + ((n0 : Int) + 1)), .int .i64 yc]
          rw [hsz] at hcn
          obtain ⟨vx2, w5, hr, ho, hg5, hv5⟩ := run_append_where (P := Try.prog) w.heap.size 38 38 48 i4 z4 4 40 Try.underlying38 hi4 hz4 hs4 hb4 hc4 (by decide) _ _ _ hown ⟨wr.heap.size + 1, 0, none⟩ 1 1 _ rfl hcn (by simp [Value.oneCell']) (by decide) (by rw [HWK.out]; unfold maxLen; omega) (by rw [HWK.out]; omega) (by simp; omega)
          have hgxw : gx < wr.heap.size := HX.out.lt
          have HT5 : Hid (Tg w5 w.heap.size gx vx2 u15 ((ws.take k).map (Tk.shW (n0 + 1)) ++ [Tk.shW (n0 + 1) ⟨tx, qd, yl, yc⟩]) outW) :=
            ((HT.out.kept (World.grownBy_alloc wr _ none)).kept (World.grownBy_alloc _ _ none)).put (by simp; omega) (by rw [fl_append, fl_one]; exact ho) hg5 hv5
          have hne : some gx ≠ (Value.slice ad ((ws.take k).map (Tk.shW (n0 + 1))).length cp).ownBlock := fun e => by have := HT.out.gtX gx e.symm; omega
          have HX5 := Lib.hid (((HX.out.alloc (.cells #[.string ⟨tx.toArray⟩, .bool qd, .int .i64 ((yl : Int) + ((n0 : Int) + 1)), .int .i64 yc] 48)).alloc (.cells #[.string ⟨tx.toArray⟩, .bool qd, .int .i64 ((yl : Int) + ((n0 : Int) + 1)), .int .i64 yc] 48)).grown hg5 hne)
          have HB5 : Hid (Below wz.heap.size wz w5) := ((HBy.out.alloc HBy.out.size _).alloc (by have := HBy.out.size; simp; omega) _).grown hg5 (by have := HBy.out.size; simp; omega) (fun q e => by have := HT.out.gtX q e; omega)
          obtain ⟨ad2, cp2, hvx2, _⟩ := ownK_form ho
          subst hvx2
          rw [HWK.out] at hr
          have x5 : w5.cell? ⟨gx, 2, none⟩ = some (.slice ad ((ws.take k).map (Tk.shW (n0 + 1))).length cp) := HX5.out.cell 2
          rw [HWK.out] at x5
          have f5 := HX5.out.free 2
          have HR5 := Lib.hid hr
          clear hr ho hg5 hv5 hown hcn hsz hne hi4 hz4 hs4 hb4 hc4
          go_wp2_with (at_builtin
                       refine wpList_append_run rfl (.tmp 139) (.tmp 141) _ _ rfl (.slice ad k cp) _ rfl rfl (R := fun v W => v = .slice ad2 (k + 1) cp2 ∧ W = w5) ⟨_, _, HR5.out, rfl, rfl⟩ ?_
                       rintro _ _ ⟨rfl, rfl⟩)
          go_roundw
          case rel =>
            refine ⟨k + 1, .slice ad2 (k + 1) cp2, by go_num, by omega, HX5.out.set 2 _, ?_, HB5.out.setCell (p := ⟨gx, 2, none⟩) (by show wz.heap.size ≤ gx; omega) _⟩
            have h := HT5.out.set 2 (.slice ad2 (k + 1) cp2)
            rw [HWK.out] at h
            rw [HSW.out]
            exact h
          case measure => simp [intOf]; omega
        · obtain rfl : k = ws.length := by omega
          have hwk : ((ws.take ws.length).map (Tk.shW (n0 + 1))).length = ws.length := by rw [List.length_map, List.length_take]; omega
          have HWK := Lib.hid hwk
          clear hwk
          obtain ⟨ad, cp, hvx, _⟩ := ownK_form HT.out.tx.wr
          rw [HWK.out] at hvx
          subst hvx
          obtain ⟨i3, z3, hi3, hz3, hs3, hb3, hc3⟩ := info_entry
          have x0 : wr.cell? ⟨gx, 0, none⟩ = some (.bool bl) := HX.out.cell 0
          have x1 : wr.cell? ⟨gx, 1, none⟩ = some (.int .i64 ((el : Int) + ((n0 : Int) + 1))) := HX.out.cell 1
          have x2 : wr.cell? ⟨gx, 2, none⟩ = some (.slice ad ws.length cp) := HX.out.cell 2
          have hww : w.heap.size ≤ wr.heap.size := Nat.le_trans HB3.out.size HBy.out.size
          obtain ⟨aw, cw, hvW, _⟩ := ownK_form HT.out.tx.er.own
          obtain ⟨vW2, w6, hr, ho, hg6, hv6⟩ := run_append_where (P := Try.prog) (w := wr.alloc (.cells #[.bool bl, .int .i64 ((el : Int) + ((n0 : Int) + 1)), .slice ad ws.length cp] 40)) w.heap.size 22 22 40 i3 z3 3 40 Try.underlying22 hi3 hz3 hs3 hb3 hc3 (by decide) _ _ _ (HT.out.tx.er.own.alloc _) ⟨wr.heap.size, 0, none⟩ 1 1 _ rfl (tk_cells_new wr 40 [.bool bl, .int .i64 ((el : Int) + ((n0 : Int) + 1)), .slice ad ws.length cp]) (by simp [Value.oneCell']) (by decide) (by have := HOL.out; unfold maxLen; omega) (by have := HOL.out; omega) (by simp; omega)
          have HE6 : Hid (Ers w6 w.heap.size vW2 (outW ++ [⟨bl, el + (n0 + 1), .slice ad ws.length cp, (ws.take ws.length).map (Tk.shW (n0 + 1))⟩])) :=
            (HT.out.tx.alloc _).close (by rw [fl_append, fl_one]; exact ho) hg6 hv6
          have HB6 : Hid (Below wz.heap.size wz w6) := (HBy.out.alloc HBy.out.size _).grown hg6 (by have := HBy.out.size; simp; omega) (fun q e => HLW.out q e)
          have HL6 : Hid (∀ q, vW2.ownBlock = some q → wz.heap.size ≤ q) := fun q e => by
            rcases hv6 with h | h
            · exact HLW.out q (h.symm.trans e)
            · rw [h] at e
              injection e with e
              have := HBy.out.size
              simp at e
              omega
          have HR6 := Lib.hid hr
          clear hr ho hg6 hv6 hi3 hz3 hs3 hb3 hc3
          go_wp2_with (at_builtin
                       refine wpList_append_run rfl (.tmp 144) (.tmp 146) _ _ rfl u15 _ rfl rfl (R := fun v W => v = vW2 ∧ W = w6) ⟨_, _, HR6.out, rfl, rfl⟩ ?_
                       rintro _ _ ⟨rfl, rfl⟩)
          go_roundw
          case rel =>
            refine ⟨j + 1, _, _, rfl, by go_num, by omega, ?_, HE6.out, HL6.out, HB6.out⟩
            rw [Hid, List.map_append, HM.out, HSH.out, List.append_assoc]
            congr 2
            show [_] = [_]
            congr 1
            show Tk.En.mk _ _ _ = Tk.En.mk _ _ _
            rw [List.take_length]
          case measure => simp [intOf]; omega
    · obtain rfl : j = esB.length := by omega
      have HW1 : Hid (EnsAt wr u15 (esA ++ esB.map (Tk.shE (n0 + 1)))) := by
        have h := HE.out.at_
        have hm := HM.out
        rw [List.take_length] at hm
        rw [hm] at h
        exact h
      have HV1 := Lib.hid (HV3.out.below HBW.out)
      have HBF : Hid (Below w.heap.size w wr) := HB3.out.trans (HBW.out.mono HB3.out.size)
      go_wp2_with (first
        | (go_at_call 10
           refine (HS.out _ _ _ HV1.out HW1.out).mono ?_
           rintro e w7 ⟨rfl, n7, hw7⟩
           have HB7 : Hid (Below w.heap.size w w7) := by rw [Hid, hw7]; exact below_drewN HBF.out n7
           clear hw7)
        | (go_at_call 11
           refine (reads_any w7).mono ?_
           rintro e w8 ⟨rfl, B8⟩
           have HB8 := Lib.hid (HB7.out.trans (B8.mono HB7.out.size))
           clear B8))
      go_ret
      exact ⟨rfl, HB8.out⟩
theorem walk_TokenTail (w : World) (a : ByteArray) (_ : a.size ≤ 140737488351232) (b : ByteArray) (_ : b.size ≤ 140737488351232) :
    Calls Try.prog 6 #[.string a, .string b] w fun e w' => e = .returned (.bool true) ∧ Below w.heap.size w w' := by
  by_cases ha : a.size ≤ 20000
  · by_cases hb : b.size ≤ 20000
    · rcases hT : Tk.tells a.data.toList with ⟨l, c, x⟩ | es
      · rcases play_errs _ _ _ _ _ hT with rfl | rfl
        · exact tail_quote w a b ha hb l c hT
        · exact tail_paren w a b ha hb l c hT
      · rcases hU : Tk.tells b.data.toList with ⟨l, c, x⟩ | es2
        · exact tail_second w a b ha hb es hT l c x hU
        · exact tail_both w a b ha hb es es2 hT hU
    · exact tail_long w a b (.inr (by omega))
  · exact tail_long w a b (.inl (by omega))
end Go.Proofs.Ytbmobaomnfchkaa
