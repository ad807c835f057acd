/- A key of these labels is taken away: the program's drop. -/
import Derived.Test.YtpnfkgjcnofjnaaTrAt
import Derived.StillTailTactics
namespace Go.Proofs.Ytpnfkgjcnofjnaa.Ti
open Go.RowKit Go.Shelf Tr

/-- a node whose row of kids has lost one. -/
theorem node_del {w w1 : World} {top : Option Nat} {b : Nat} {n : No TV} {kv kv' : Value} {ks F1 : List Nat} {i : Nat} {f' : Fo TV} (hb : Has w b (nty top) (ncs top n.1 kv)) (hk : KidsM w n.2 ks F1) (hi : i < n.2.kids.length) (hf : f'.kids = n.2.kids.take i ++ n.2.kids.drop (i + 1)) (hd : (b :: rowB kv ++ F1).Nodup)
    (hr : Row w1 kv' (ks.take i ++ ks.drop (i + 1))) (ho : Only (rowB kv) w w1) (hq : rowB kv' = rowB kv) :
    ∃ F', NodeM (w1.setCell ⟨b, 4, none⟩ kv') top b (n.1, f') F' ∧ F'.Nodup ∧ (∀ k ∈ F', k ∈ b :: rowB kv ++ F1) ∧ Only (b :: rowB kv ++ F1) w (w1.setCell ⟨b, 4, none⟩ kv') := by
  have hp : (b :: rowB kv ++ F1).Perm (rowB kv ++ b :: F1) := List.perm_iff_count.2 fun a => by simp [List.count_append, List.count_cons]; omega
  have hd2 := List.nodup_append.1 (hp.nodup_iff.1 hd)
  have hbr : b ∉ rowB kv := fun h => hd2.2.2 b h b (by simp) rfl
  have hbF : b ∉ F1 := (List.nodup_cons.1 hd2.2.1).1
  have hrF : ∀ k ∈ F1, k ∉ rowB kv := fun k h1 h2 => hd2.2.2 k h2 k (by simp [h1]) rfl
  obtain ⟨A, G, B, hF, hk'⟩ := hk.del hi hf
  have hs : ∀ k ∈ F1, (w1.setCell ⟨b, 4, none⟩ kv').heap[k]? = w.heap[k]? := fun k hk1 => by
    rw [heap_setCell_other _ _ _ _ (fun e => hbF (by rw [← show k = b from e]; exact hk1))]
    exact ho.block k (hk.lt k hk1) (hrF k hk1)
  refine ⟨b :: rowB kv' ++ (A ++ B), ⟨kv', _, _, rfl, ?_, row_same hr (fun k hk1 => ?_), hk'.same fun k hk1 => hs k (by rw [hF]; simp at hk1 ⊢; rcases hk1 with h | h <;> simp [h])⟩, ?_, ?_, ?_⟩
  · have := (ho.has hbr hb).set 4 kv'
    cases top <;> exact this
  · rw [hq] at hk1
    exact heap_setCell_other _ _ _ _ (fun e => hbr (by rw [← show k = b from e]; exact hk1))
  · rw [hq]
    rw [hF] at hd
    refine hd.sublist ?_
    refine List.Sublist.append (List.Sublist.refl _) (List.Sublist.append (List.Sublist.refl _) (List.sublist_append_right _ _))
  · intro k hk1
    rw [hq] at hk1
    rw [hF]
    simp only [List.cons_append, List.mem_cons, List.mem_append] at hk1 ⊢
    rcases hk1 with h | h | h | h <;> simp [h]
  · exact (ho.mono fun i hi => by simp [hi]).setCell (p := ⟨b, 4, none⟩) (.inl (by simp)) _
/-- a node's row, and one of its kids. -/
theorem NodeM.rowAt {w : World} {top : Option Nat} {b : Nat} {n : No TV} {F : List Nat} (h : NodeM w top b n F) {i : Nat} {m : No TV} (hm : n.2.kids[i]? = some m) :
    ∃ g cap ks F1 b1 G, F = b :: rowB (.slice (some ⟨g, 0, none⟩) ks.length cap) ++ F1 ∧ Has w b (nty top) (ncs top n.1 (.slice (some ⟨g, 0, none⟩) ks.length cap)) ∧ Row w (.slice (some ⟨g, 0, none⟩) ks.length cap) ks ∧ KidsM w n.2 ks F1 ∧ w.cell? ⟨b, 4, none⟩ = some (.slice (some ⟨g, 0, none⟩) ks.length cap) ∧ i < ks.length ∧ w.cell? ⟨g, i, none⟩ = some (ptr b1) ∧ NodeM w none b1 m G := by
  obtain ⟨kv, ks, F0, hF, h3, h4, h5⟩ := h
  obtain ⟨b1, A, F1, B, _, h6, h7, _⟩ := h5.kid hm
  have hi : i < ks.length := (List.getElem?_eq_some_iff.1 h6).1
  obtain ⟨g, cp, rfl, hc, _⟩ := own_pos h4 (by omega)
  refine ⟨g, cp, ks, F0, b1, F1, hF, h3, h4, h5, ?_, hi, own_cells h4 i (ptr b1) (by simp [ptrs, h6]), h7⟩
  rw [h3.cell]; cases top <;> rfl
theorem blk_notin {b : Nat} {R F1 F : List Nat} (hF : F = b :: R ++ F1) (hd : F.Nodup) : b ∉ R := fun hm => by
  rw [hF] at hd
  exact (List.nodup_cons.1 hd).1 (by simp [hm])
theorem getElem?_set_self' {l : List (No TV)} {i : Nat} {m : No TV} (h : i < l.length) : (l.set i m)[i]? = some m := by simp [h]
set_option maxRecDepth 100000 in
set_option maxHeartbeats 2000000 in
theorem drop_any : ∀ (q : List By) {w : World} {top : Option Nat} {b : Nat} {n : No TV} {F : List Nat} {A : Option Addr} {c C : Nat} {ls : List By}, ls.reverse = q → NodeM w top b n F → F.Nodup → ok n → (nents n).length ≤ 1099511627776 →
    Rd w C (.slice A ls.length c) ls → (∀ g o, A = some ⟨g, o, none⟩ → g ∉ F) → ls.length ≤ 1099511627776 →
    Calls Try.prog 48 #[ptr b, .slice A ls.length c] w fun e w' => ∃ F', e = .returned (.bool (drop q n).2) ∧ NodeM w' top b (drop q n).1 F' ∧ F'.Nodup ∧ (∀ k ∈ F', k ∈ F) ∧ Only F w w'
  | [], w, top, b, n, F, A, c, C, ls, hq, h, hd, hok, hN, hv, hap, hls => by
    have e : ls = [] := by simpa using hq
    subst e
    have HU := Lib.hid (unset_any h hd)
    have hbF := h.blk
    clear hv hap
    go_enter Try.func48, Try.ntmps48
    go_wp2_with (go_at_call 79; refine HU.out.mono ?_; rintro e w1 ⟨rfl, h1, h2⟩)
    go_ret
    exact ⟨F, rfl, h1, hd, fun k hk => hk, h2.mono fun i hi => by simp at hi; subst hi; exact hbF⟩
  | x :: q, w, top, b, n, F, A, c, C, ls, hq, h, hd, hok, hN, hv, hap, hls => by
    obtain ⟨l', hl'⟩ : ∃ l', ls = l' ++ [x] := ⟨q.reverse, by rw [← List.reverse_reverse ls, hq]; simp⟩
    subst hl'
    have hq' : l'.reverse = q := by simpa using hq
    obtain ⟨k, hk⟩ : ∃ k, l'.length = k := ⟨_, rfl⟩
    have hll : (l' ++ [x]).length = k + 1 := by simp [hk]
    have hv' := hv
    obtain ⟨A', c', e0, hc, hcell⟩ := hv'
    injection e0 with e1 _ e3
    subst e1 e3
    obtain ⟨gl, ol, rfl, hgC, hcs⟩ := hcell (by simp)
    have hcx : w.cell? ⟨gl, ol + k, none⟩ = some (sv x) := by
      rw [hcs k (by omega)]
      simp [← hk]
    have hrd' : Rd w C (.slice (some ⟨gl, ol, none⟩) l'.length c) l' := ⟨_, _, rfl, by rw [hk]; omega, fun h0 => ⟨gl, ol, rfl, hgC, fun j hj => by rw [hcs j (by simp; omega)]; simp [hj]⟩⟩
    have hpl := place_any h hok.1 (⟨x.toArray⟩ : ByteArray) (by have := kids_le hok.1; unfold nents at hN; simp at hN; omega)
    simp only at hpl
    rw [hll] at hc hls ⊢
    have hwr : IntKind.i64.wrap ((k : Int) + 1 - 1) = (k : Int) := by rw [IntKind.wrap_i64]; omega
    have hne : (((k : Int) + 1) == 0) = false := beq_eq_false_iff_ne.2 (by omega)
    have hi0 : (0 : Int) ≤ (k : Int) := by omega
    have hi1 : (k : Int) < (k : Int) + 1 := by omega
    have hi2 : (k : Int) ≤ (c : Int) := by omega
    cases hs : n.2.sel x with
    | none =>
      rw [hs] at hpl
      simp only [Option.isSome_none] at hpl
      have HP := Lib.hid hpl
      have hdr : drop (x :: q) n = (n, false) := by rw [drop, hs]
      rw [hdr]
      have H := Lib.hid h
      clear hpl hs hdr h hcell hcs hrd' hv hll hq hq' hk
      go_enter Try.func48, Try.ntmps48
      go_wp2_with (go_at_call 75; refine HP.out.mono ?_; rintro e w1 ⟨rfl, hb1⟩)
      go_quiet (fail)
      go_wp2
      go_ret
      exact ⟨F, rfl, H.out.below (below_drewN hb1 _) (Nat.le_refl _), hd, fun k hk => hk, Only.of_below (below_drewN hb1 _) (Nat.le_refl _) _⟩
    | some m =>
      rw [hs] at hpl
      simp only [Option.isSome_some] at hpl
      have HP := Lib.hid hpl
      obtain ⟨g, cap, b2, A', F2, B', c4, hil, ci, hL2, hFe⟩ := (Lens.root h).down hok hs
      simp only [List.nil_append, List.append_nil] at hFe hL2
      have hatq : atq [x] n = m := by simp [atq, Fo.kid, hs]
      simp only [atq] at c4 hil ci
      have hm := hL2.node
      rw [hatq] at hm
      have hokm := ok_sel hok.1 hs
      have hd2 : F2.Nodup := by rw [← hFe] at hd; exact (List.nodup_append.1 (List.nodup_append.1 hd).2.1).1
      have hNm : (nents m).length ≤ 1099511627776 := by have := sel_ents_le hs; unfold nents at hN this ⊢; simp at hN this ⊢; omega
      have hap2 : ∀ g o, some (⟨gl, ol, none⟩ : Addr) = some ⟨g, o, none⟩ → g ∉ F2 := fun g o e hm => hap g o e (by rw [← hFe]; simp [hm])
      have hgw : gl < w.heap.size := World.block_lt_of_cell? _ _ hcx
      have HI := Lib.hid (fun (W : World) (hb : Below w.heap.size w W) => drop_any q (w := W) (C := W.heap.size) hq' (hm.below hb (Nat.le_refl _)) hd2 hokm.1 hNm ((by
        refine ⟨_, _, rfl, by rw [hk]; omega, fun h0 => ⟨gl, ol, rfl, Nat.lt_of_lt_of_le hgw hb.size, fun j hj => ?_⟩⟩
        rw [hb.cell (p := ⟨gl, ol + j, none⟩) hgw, hcs j (by simp; omega)]; simp [hj]) : Rd W W.heap.size (.slice (some ⟨gl, ol, none⟩) l'.length c) l') hap2 (by rw [hk]; omega))
      have hgW : g < w.heap.size := World.block_lt_of_cell? _ _ ci
      have hbW : b < w.heap.size := h.blk_lt
      have hkl := kids_le hok.1
      have hidx : n.2.kids[n.2.idx x]? = some m := by
        rcases idx_sel hok.1 x with ⟨m', e1, e2⟩ | ⟨e1, _⟩
        · rw [hs] at e1; injection e1 with e1; rw [e1]; exact e2
        · rw [hs] at e1; cases e1
      have hdr : drop (x :: q) n = if (drop q m).2 then ((n.1, if bare (drop q m).1 then n.2.del1 x else n.2.put1 x (drop q m).1), true) else ((n.1, n.2.put1 x (drop q m).1), false) := by rw [drop, hs]
      rw [hdr]
      rw [hk] at HI
      generalize drop q m = r at *
      obtain ⟨m', bd⟩ := r
      have HL := Lib.hid hL2
      have H := Lib.hid h
      have hcx' := hcx
      clear hpl hdr h hcell hcs hrd' hv hll hq hq' hk hL2 hm
      go_enter Try.func48, Try.ntmps48
      go_wp2_with (go_at_call 75; refine HP.out.mono ?_; rintro e w1 ⟨rfl, hb1⟩; have c4' := (hb1.cell (p := ⟨b, 4, none⟩) hbW).trans c4; have ci' := (hb1.cell (p := ⟨g, n.2.idx x, none⟩) hgW).trans ci)
      have hx0 : (0 : Int) ≤ ((n.2.idx x : Nat) : Int) := by omega
      have hx1 : ((n.2.idx x : Nat) : Int) < ((n.2.kids.length : Nat) : Int) := by omega
      have HB1 := Lib.hid hb1
      clear c4 ci hb1
      have hput : ∀ (w2 : World) (F2' : List Nat), NodeM w2 none b2 m' F2' → (∀ j ∈ F2', j ∈ F2) → F2'.Nodup → Only F2 w1.drew w2 → NodeM w2 top b (n.1, n.2.put1 x m') (A' ++ (F2' ++ B')) ∧ (A' ++ (F2' ++ B')).Nodup ∧ (∀ j ∈ A' ++ (F2' ++ B'), j ∈ F) ∧ Only F w w2 := fun w2 F2' h1 h2 h3 h4 => by
        have hd' := hd
        rw [← hFe] at hd'
        obtain ⟨n1, n2, n3⟩ := List.nodup_append.1 hd'
        obtain ⟨n4, n5, n6⟩ := List.nodup_append.1 n2
        refine ⟨?_, ?_, fun j hj => ?_, ?_⟩
        · have := HL.out.2.2 w2 m' F2' (fun j hj => ?_) h1
          · simpa [upd] using this
          · have hjl : j < w.heap.size := HL.out.lt j (by rcases hj with hj | hj <;> simp [hj])
            have hz := HB1.out.size
            refine (h4.block j (by show j < w1.heap.size; omega) ?_).trans (HB1.out.block j hjl)
            intro hm
            rcases hj with hj | hj
            · exact n3 j hj j (by simp [hm]) rfl
            · exact n6 j hm j hj rfl
        · refine List.nodup_append.2 ⟨n1, List.nodup_append.2 ⟨h3, n5, fun a ha b hb => n6 a (h2 a ha) b hb⟩, fun a ha b hb => n3 a ha b ?_⟩
          simp only [List.mem_append] at hb ⊢
          rcases hb with hb | hb
          · exact .inl (h2 b hb)
          · exact .inr hb
        · rw [← hFe]
          simp only [List.mem_append] at hj ⊢
          rcases hj with hj | hj | hj
          · exact .inl hj
          · exact .inr (.inl (h2 j hj))
          · exact .inr (.inr hj)
        · exact (Only.of_below HB1.out.drew (Nat.le_refl _) F).trans (h4.mono fun j hj => by rw [← hFe]; simp [hj])
      have HPUT := Lib.hid hput
      have HKM : Hid ((n.2.put1 x m').kids[n.2.idx x]? = some m') := by rw [Hid, kids_put_some hok.1 hs]; exact getElem?_set_self' hil
      have hwr2 : IntKind.i64.wrap (((n.2.idx x : Nat) : Int) + 1) = ((n.2.idx x : Nat) : Int) + 1 := by
        unfold nents at hN
        simp at hN
        rw [IntKind.wrap_i64]; omega
      have HDK : Hid ((n.2.del1 x).kids = (n.2.put1 x m').kids.take (n.2.idx x) ++ (n.2.put1 x m').kids.drop (n.2.idx x + 1)) := by
        rw [Hid, kids_put_some hok.1 hs, kids_del hok.1 hs, List.take_set_of_le (Nat.le_refl _), List.drop_set_of_lt (Nat.lt_succ_self _)]
      have HIL : Hid (n.2.idx x < (n.2.put1 x m').kids.length) := by rw [Hid, kids_put_some hok.1 hs]; simpa using hil
      clear hput hs hidx hok hokm hN hNm hkl hatq hap hap2
      cases bd with
      | false =>
        go_still_tail 13, (by kernel_rfl)
        go_wp2_with (go_at_call 48; refine (HI.out w1.drew HB1.out.drew).mono ?_; rintro e w2 ⟨F2', rfl, hm2, hd2', hs2, ho2⟩; have hp2 := HPUT.out w2 F2' hm2 hs2 hd2' ho2)
        go_ret
        exact ⟨rfl, _, hp2.1, hp2.2.1, hp2.2.2.1, hp2.2.2.2⟩
      | true =>
        cases hbm : bare m' with
        | false =>
          go_still_tail 13, (by kernel_rfl)
          go_wp2_with (first
            | (go_at_call 48; refine (HI.out w1.drew HB1.out.drew).mono ?_; rintro e w2 ⟨F2', rfl, hm2, hd2', hs2, ho2⟩; have hp2 := HPUT.out w2 F2' hm2 hs2 hd2' ho2; obtain ⟨g4, cap4, ks4, F4, b4, G4, hF4, hb4, hr4, hk4, e4, hi4, ei4, hn4⟩ := hp2.1.rowAt HKM.out; have HP2 := Lib.hid hp2; have HN4 := Lib.hid hn4; have hi4' : ((n.2.idx x : Nat) : Int) < ((ks4.length : Nat) : Int) := (by omega); clear hm2 hd2' hs2 ho2 hp2 hF4 hb4 hr4 hk4 hn4)
            | (go_at_call 63; refine (bare_any HN4.out).mono ?_; rintro e w3 ⟨rfl, rfl⟩))
          go_ret
          exact ⟨rfl, _, HP2.out.1, HP2.out.2.1, HP2.out.2.2.1, HP2.out.2.2.2⟩
        | true =>
          go_still_tail 13, (by kernel_rfl)
          go_wp2_with (first
            | (go_at_call 48; refine (HI.out w1.drew HB1.out.drew).mono ?_; rintro e w2 ⟨F2', rfl, hm2, hd2', hs2, ho2⟩; have hp2 := HPUT.out w2 F2' hm2 hs2 hd2' ho2; obtain ⟨g4, cap4, ks4, F4, b4, G4, hF4, hb4, hr4, hk4, e4, hi4, ei4, hn4⟩ := hp2.1.rowAt HKM.out; have HP2 := Lib.hid hp2; have HF4 := Lib.hid hF4; have HB4 := Lib.hid hb4; have HR4 := Lib.hid hr4; have HK4 := Lib.hid hk4; have HN4 := Lib.hid hn4; have hi4' : ((n.2.idx x : Nat) : Int) < ((ks4.length : Nat) : Int) := (by omega); clear hm2 hd2' hs2 ho2 hp2 hF4 hb4 hr4 hk4 hn4)
            | (go_at_call 63; refine (bare_any HN4.out).mono ?_; rintro e w3 ⟨rfl, rfl⟩)
            | (go_at_call 80; refine (delete_any HR4.out hi4).mono ?_; rintro e w5 ⟨kv5, rfl, hr5, ho5, hq5⟩; obtain ⟨A5, cp5, hkv⟩ := own_form hr5; obtain ⟨n5, hn5⟩ : ∃ n5, n5 = (ks4.take (n.2.idx x) ++ ks4.drop (n.2.idx x + 1)).length := ⟨_, rfl⟩; rw [← hn5] at hkv; subst hkv; clear hn5; have hb5 := ho5.has (blk_notin HF4.out HP2.out.2.1) HB4.out; have k5 : w5.cell? ⟨b, 4, none⟩ = some (.slice (some ⟨g4, 0, none⟩) ks4.length cap4) := (by rw [hb5.cell]; cases top <;> rfl); have f5 := hb5.free 4; have HR5 := Lib.hid hr5; have HO5 := Lib.hid ho5; have HQ5 := Lib.hid hq5; clear hr5 ho5 hq5 hb5))
          go_ret
          have hd4 := HP2.out.2.1
          rw [HF4.out] at hd4
          obtain ⟨F6, h1, h2, h3, h4⟩ := node_del (n := (n.1, n.2.put1 x m')) HB4.out HK4.out HIL.out HDK.out hd4 HR5.out HO5.out HQ5.out
          exact ⟨rfl, F6, h1, h2, fun j hj => HP2.out.2.2.1 j (by rw [HF4.out]; exact h3 j hj), HP2.out.2.2.2.trans (h4.mono fun j hj => HP2.out.2.2.1 j (by rw [HF4.out]; exact hj))⟩
end Go.Proofs.Ytpnfkgjcnofjnaa.Ti
