/- The document's answer to writing a name. -/
import Derived.Test.YtfekmolgiohegaaPrKeep
import Derived.Test.YtfekmolgiohegaaOct
namespace Go.Proofs.Ytfekmolgiohegaa
open Go.RowKit

theorem rSplit_no (s : ByteArray) (w : World) (hs : s.size ≤ 140737488355328) (h : Nm.split s.data.toList = none) :
    Calls Try.prog 34 #[.string s] w fun e w' => ∃ v, e = .returned (.tuple #[v, .bool false]) ∧ Below w.heap.size w w' :=
  (Split_any s w hs).mono fun _ _ hp => by rw [h] at hp; obtain ⟨v, hb, he⟩ := hp; exact ⟨v, he, hb⟩
theorem rSplit_yes (s : ByteArray) (ls : List (List UInt8)) (w : World) (hs : s.size ≤ 140737488355328) (h : Nm.split s.data.toList = some ls) :
    Calls Try.prog 34 #[.string s] w fun e w' => ∃ ad cp, e = .returned (.tuple #[.slice ad ls.length cp, .bool true]) ∧ w'.ownsRow w.heap.size 9 1 (.slice ad ls.length cp) ls.length (svs ls) ∧ Below w.heap.size w w' :=
  (Split_any s w hs).mono fun _ _ hp => by
    rw [h] at hp
    obtain ⟨v, hb, he, ho⟩ := hp
    obtain ⟨ad, cp, rfl⟩ := own_form ho
    exact ⟨ad, cp, he, ho, hb⟩
theorem own_tail {w : World} {b n g c m : Nat} {e : TypeId} {ls : List (List UInt8)} (h : w.ownsRow b e 1 (.slice (some ⟨g, 0, none⟩) n c) n (svs ls)) (hn : n = ls.length) (hm : m ≤ n) :
    Rd w w.heap.size (.slice (some ⟨g, m, none⟩) (n - m) (c - m)) (ls.drop m) := by
  subst hn
  have hg : g < w.heap.size := (h.lt g rfl).2
  have hc := own_le h
  refine ⟨_, _, by rw [List.length_drop], by rw [List.length_drop]; omega, fun _ => ⟨g, m, rfl, hg, fun j hj => ?_⟩⟩
  rw [List.length_drop] at hj
  exact own_cells h (m + j) _ (by simp [svs, show m + j < ls.length by omega])
theorem Rk.grown_new {base : Nat} {w w' w2 : World} {row : Option Nat} (h : Rk base w w') (hg : w'.grownBy w2 row) (hr : ∀ r, row = some r → w.heap.size ≤ r) (hb : base ≤ w.heap.size) : Rk base w w2 := by
  refine ⟨h.below.grown hg (by have := h.below.size; omega) (fun k hk => by have := hr k hk; omega), fun k o hk hn => ?_⟩
  have h1 := h.same k o hk hn
  have hlt := (Array.getElem?_eq_some_iff.1 hk).1
  exact (hg.block k (Array.getElem?_eq_some_iff.1 h1).1 (fun e => by have := hr k e.symm; omega)).trans h1
theorem Rk.more {base : Nat} {w w' w2 : World} (h : Rk base w w') (hb : Below w.heap.size w' w2) (hbs : base ≤ w.heap.size) : Rk base w w2 :=
  ⟨h.below.trans (hb.mono hbs), fun k o hk hn => (hb.block k (Array.getElem?_eq_some_iff.1 hk).1).trans (h.same k o hk hn)⟩
theorem RT.below {w w' : World} {g base : Nat} {t : Tab} (h : RT w g base t) (hb : Below w.heap.size w w') : RT w' g base t := by
  obtain ⟨vN, vP, h1, h2, h3⟩ := h
  exact ⟨vN, vP, h1.below hb h1.lt, own_below h2 hb (Nat.le_refl _), own_below h3 hb (Nat.le_refl _)⟩
theorem RT.still {w w' : World} {g base b n : Nat} {t : Tab} {v : Value} {xs : List Value} (h : RT w g base t) (ho : w.ownsRow b 5 1 v n xs) (hg : w.grownBy w' v.ownBlock) : RT w' g base t := by
  obtain ⟨vN, vP, h1, h2, h3⟩ := h
  exact ⟨vN, vP, h1.grown hg (has_not_own h1 ho (by decide)), own_still ho h2 (by decide) hg, own_still ho h3 (by decide) hg⟩
theorem RT.alloc {w : World} {g base : Nat} {t : Tab} (h : RT w g base t) (o : Obj) : RT (w.alloc o) g base t := h.below ((Below.refl _ _).alloc (Nat.le_refl _) _)
/-- what a writing by the document leaves. -/
def RefDone (plain : Bool) (g base : Nat) (t : Tab) (l : List UInt8) (ls : List (List UInt8)) (w : World) (e : Ending) (w' : World) : Prop :=
  ∃ v, e = .returned (.tuple #[v, .int .i64 0]) ∧ w'.ownsRow w.heap.size 5 1 v (l ++ (Pr.pw plain t l.length ls).2).length (bv (l ++ (Pr.pw plain t l.length ls).2)) ∧ RT w' g base (Pr.pw plain t l.length ls).1 ∧ Rk base w w'

theorem rput_no (g : Nat) (A : Option Addr) (n c : Nat) (s : ByteArray) (plain : Bool) (w : World) (hs : s.size ≤ 140737488355328) (hn : Nm.split s.data.toList = none) :
    Calls Try.prog 25 #[.pointer (some ⟨g, 0, none⟩), .slice A n c, .string s, .bool plain] w fun e w' => e = .returned (.tuple #[.slice none 0 0, .int .i64 11]) ∧ Below w.heap.size w w' := by
  have HC := Lib.hid (rSplit_no s w hs hn)
  clear hn
  go_enter Try.func25, Try.ntmps25
  go_wp2_with (go_at_call 34; refine HC.out.mono ?_; rintro e w1 ⟨v, rfl, hb1⟩)
  go_ret2
  exact ⟨rfl, hb1⟩

/-- how far it has come. -/
def RpI (plain : Bool) (t : Tab) (l : List UInt8) (ls : List (List UInt8)) (w : World) (vL : Value) (k : Nat) (nw : Tab) (vO vN vP : Value) (wr : World) : Prop :=
  wr.ownsRow w.heap.size 5 1 vO (l ++ Nm.body (ls.take k)).length (bv (l ++ Nm.body (ls.take k))) ∧ wr.ownsRow w.heap.size 32 1 vN nw.length (svs (nw.map (·.1))) ∧ wr.ownsRow w.heap.size 3 1 vP nw.length (ints (nw.map (·.2))) ∧
  wr.ownsRow w.heap.size 9 1 vL ls.length (svs ls) ∧ Below w.heap.size w wr ∧ Pr.Cont plain t l.length ls k (t ++ nw) ∧ Pr.Ahead t (t ++ nw) ls k ∧ nw.length ≤ k

/-- one byte, then a label: the row of bytes is a label longer. -/
theorem lab_bytes (l : List UInt8) {ls : List (List UInt8)} {k : Nat} (hk : k < ls.length) : l ++ Nm.body (ls.take (k + 1)) = (l ++ Nm.body (ls.take k)) ++ [UInt8.ofNat (ls[k]'hk).length] ++ (ls[k]'hk) := by
  rw [List.take_succ_eq_append_getElem hk, Nm.body_append]
  simp [Nm.body, Nm.lab]
theorem bv_one8 (n : Nat) (h : n < 256) : [Value.int .u8 (n : Int)] = bv [UInt8.ofNat n] := by
  simp [bv]; omega

set_option maxHeartbeats 4000000 in
set_option maxRecDepth 100000 in
theorem rput_in (g base : Nat) (t : Tab) (A : Option Addr) (l : List UInt8) (c : Nat) (s : ByteArray) (plain : Bool) (ls : List (List UInt8)) (w : World) (hT : RT w g base t) (hg : base ≤ g) (hbase : base ≤ w.heap.size) (hmax : ∀ x ∈ t, x.2 ≤ 16383)
    (hs : Nm.split s.data.toList = some ls) (hnil : A = none → c = 0) (hm : l.length ≤ 140737488355000) (hr : Bs w 0 w.heap.size A l) (ht : t.length ≤ 8796093022000) :
    Calls Try.prog 25 #[.pointer (some ⟨g, 0, none⟩), .slice A l.length c, .string s, .bool plain] w (RefDone plain g base t l ls w) := by
  obtain ⟨hgl, hgd, h255⟩ := Nm.split_some.1 hs
  have hbl : (Nm.body ls).length + 1 ≤ 255 := by rw [← Nm.glue_length, ← hgl]; exact h255
  have hcnt := Nm.good_count hgd
  have hsz : s.size ≤ 255 := by have : s.size = s.data.toList.length := by simp
                                omega
  obtain ⟨i0, hi, hz0, hz1, hz2⟩ := info_parts Try.infoByte
  obtain ⟨iN, hiN, zN0, zN1, zN2⟩ := info_parts Try.infoApiName
  obtain ⟨iP, hiP, zP0, zP1, zP2⟩ := info_parts Try.infoIntT
  have HC := Lib.hid (rSplit_yes s ls w (by omega) hs)
  have HT := Lib.hid hT
  have HR := Lib.hid hr
  have HN := Lib.hid hnil
  have HG := Lib.hid hgd
  have HM := Lib.hid hmax
  clear hT hr hnil hgl h255 hs hgd hmax
  go_enter Try.func25, Try.ntmps25
  go_wp2_with (first
    | (go_at_call 34; refine HC.out.mono ?_; rintro e w1 ⟨aL, cL, rfl, oL, hb1⟩; have HL := Lib.hid oL; have HB1 := Lib.hid hb1; have hsz1 := hb1.size; clear oL hb1)
    | (at_builtin; refine wpList_append_bs rfl (.const (.slice none 0 0)) (.tmp 25) _ rfl w.heap.size _ i0 _ Try.underlying31 hi hz0 hz1 hz2 rfl (.slice none 0 0) 0 [] rfl (World.ownsRow_nil _ _ _ _) 0 w.heap.size A c l rfl (HR.out.keep HB1.out) HN.out (by omega) hsz1 ?_; intro v2 w2 O2 G2))
  have hL2 := own_still (World.ownsRow_nil w1 w.heap.size 5 1) HL.out (by decide) G2
  have hB2 : Below w.heap.size w w2 := HB1.out.grown G2 hsz1 (fun k hk => by simp [Value.ownBlock] at hk)
  have H0 : Hid (RpI plain t l ls w (.slice aL ls.length cL) 0 [] v2 (.slice none 0 0) (.slice none 0 0) w2) := by
    refine ⟨own_to O2 (by simp [Nm.body]) (by simp [Nm.body]), World.ownsRow_nil _ _ _ _, World.ownsRow_nil _ _ _ _, hL2, hB2, ?_, ?_, Nat.le_refl _⟩
    · rw [List.append_nil]; exact Pr.Cont.zero _ _ _ _
    · rw [List.append_nil]; exact Pr.Ahead.zero _ _
  clear hL2 hB2 O2 G2 HL HB1 hsz1 HC
  go_loopw [12, 13, 14, 15] (fun vO vN vP i wr => ∃ (k : Nat) (nw : Tab), i = .int .i64 k ∧ k ≤ ls.length ∧ Hid (RpI plain t l ls w (.slice aL ls.length cL) k nw vO vN vP wr)) (fun _ _ _ i _ => ls.length - (intOf i).toNat)
  case atStart => exact ⟨0, [], rfl, Nat.zero_le _, H0.out⟩
  case round =>
    obtain ⟨k, nw, rfl, hk, HI⟩ := hrel
    obtain ⟨oO, oN, oP, oL, hbw, hcont, hah, hnl⟩ := HI.out
    have hszw := hbw.size
    obtain ⟨nO, hnO⟩ : ∃ nO, (l ++ Nm.body (ls.take k)).length = nO := ⟨_, rfl⟩
    have hnO2 : nO ≤ l.length + 255 := by rw [← hnO, List.length_append]; have := Nm.body_take_le (ls := ls) (i := k); omega
    obtain ⟨aO, cO, rfl⟩ := own_form oO
    obtain ⟨aN, cN, rfl⟩ := own_form oN
    obtain ⟨aP, cP, rfl⟩ := own_form oP
    by_cases hlt : k < ls.length
    · obtain ⟨gL, rfl, hcL, hcell⟩ := own_at oL hlt
      have hrd := own_tail oL rfl (m := k) (by omega)
      have hGL := Glue_any wr.heap.size _ (ls.drop k) wr hrd (Nat.le_refl _) (by rw [List.length_drop]; omega) (fun x hx => by have := HG.out x (List.mem_of_mem_drop hx); omega)
      have hcLk : ¬ cL = k := by omega
      have HGL := Lib.hid hGL
      clear hrd hGL
      have hgl255 : (Nm.glue (ls.drop k)).length ≤ 255 := by
        have h1 := Nm.glue_length (ls.drop k)
        have h2 : (Nm.body ls).length = (Nm.body (ls.take k)).length + (Nm.body (ls.drop k)).length := by rw [← List.length_append, ← Nm.body_append, List.take_append_drop]
        omega
      have hfind : ∀ W, Below w.heap.size w W → Calls Try.prog 35 #[.pointer (some ⟨g, 0, none⟩), sv (Nm.glue (ls.drop k))] W fun e w' => e = .returned (.int .i64 (findI t (Nm.glue (ls.drop k)))) ∧ W = w' := fun W hW =>
        find_any W g base t ⟨(Nm.glue (ls.drop k)).toArray⟩ (HT.out.below hW) (by omega)
      have hmx := findI_max (n := Nm.glue (ls.drop k)) HM.out
      have hah2 := hah k (Nat.le_refl _) hlt
      obtain ⟨R, hR⟩ : ∃ R, Nm.glue (ls.drop k) = R := ⟨_, rfl⟩
      rw [hR] at HGL hfind hmx hah2 hgl255
      have HR2 := Lib.hid hR
      have HF := Lib.hid hfind
      have HO := Lib.hid oO
      have HON := Lib.hid oN
      have HOP := Lib.hid oP
      have HOL := Lib.hid oL
      have HBW := Lib.hid hbw
      have HCO := Lib.hid hcont
      have HAH := Lib.hid hah
      have HNO := Lib.hid hnO
      rw [HNO.out] at HO
      clear hfind hR oO oN oP oL hbw hcont hah hcell hnO
      by_cases hf : 0 ≤ findI t R
      · obtain ⟨p, hp⟩ : ∃ p : Nat, findI t R = p := ⟨(findI t R).toNat, by omega⟩
        have hp16 : p ≤ 16383 := by omega
        rw [hp] at HF hah2
        cases plain with
        | false =>
          have hpw := HCO.out.ptr hlt (by rw [HR2.out, hah2]; omega)
          rw [HR2.out, hah2] at hpw
          have HPW := Lib.hid hpw
          clear hpw hp hf hmx hah2
          rw [HNO.out]
          go_wp2_with (first
            | (go_at_call 28; refine HGL.out.mono ?_; rintro e w5 ⟨rfl, hb5⟩; have HB5 := Lib.hid (HBW.out.trans (hb5.mono hszw)); have OO5 := Lib.hid (own_below HO.out hb5 (Nat.le_refl _)); have ON5 := Lib.hid (own_below HON.out hb5 (Nat.le_refl _)); have OP5 := Lib.hid (own_below HOP.out hb5 (Nat.le_refl _)); have OL5 := Lib.hid (own_below HOL.out hb5 (Nat.le_refl _)); have hs5 := hb5.size; have c5 := own_cells OL5.out k (sv (ls[k]'hlt)) (by simp [svs, hlt]); clear hb5)
            | (go_at_call 35; refine (HF.out _ HB5.out).mono ?_; rintro e w' ⟨rfl, rfl⟩)
            | (go_at_call 36; refine (keep_any _ g base w.heap.size t nw _ _ (HT.out.below HB5.out) hg ON5.out OP5.out (by omega) (by omega)).mono ?_; rintro e w6 ⟨rfl, hT6, hK6⟩; have HK6 := Lib.hid hK6; have HT6 := Lib.hid hT6; have hs6 := hK6.below.size; have OO6 := Lib.hid (hK6.own OO5.out rfl); clear hK6 hT6)
            | (at_builtin; refine wpList_append_new rfl (.tmp 50) (.tmp 58) _ rfl _ i0 _ 1 Try.underlying31 hi hz0 hz1 hz2 rfl w.heap.size w6 _ nO _ rfl OO6.out (Below.refl _ _) (by omega) [.int .u8 (192 + (p : Int) / 256), .int .u8 ((p : Int) % 256)] (by simp [Value.oneCell']) _ 2 rfl rfl (by omega) (by omega) ?_; intro v9 w9 O9 B9 G9))
          go_ret2
          have hbe := bv_beb2 (49152 + p) (a := 192 + (p : Int) / 256) (b := (p : Int) % 256) (by omega) (by omega)
          refine ⟨_, rfl, ?_, ?_, ?_⟩
          · rw [HPW.out]
            refine own_to O9 ?_ ?_
            · rw [← List.append_assoc, List.length_append, HNO.out]; simp [Oc.beb]
            · rw [hbe, ← bv_append, List.append_assoc]; rfl
          · rw [HPW.out]
            exact (HT6.out.alloc _).still (own_alloc OO6.out _) G9
          · exact ((Rk.of_below HB5.out hbase).trans HK6.out).more B9 hbase
        | true =>
          have hlk := HG.out (ls[k]'hlt) (List.getElem_mem hlt)
          have hst := HCO.out.step hlt (fun h => by cases h.2)
          have hsa := HAH.out.step (p := l.length + (Nm.body (ls.take k)).length) hlt
          rw [HR2.out, Pr.rem_there (by rw [hah2]; omega)] at hst hsa
          have HST := Lib.hid hst
          have HSA := Lib.hid hsa
          have hlk2 := hlk.2
          clear hp hf hmx hah2 hst hsa hlk
          rw [HNO.out]
          go_wp2_with (first
            | (go_at_call 28; refine HGL.out.mono ?_; rintro e w5 ⟨rfl, hb5⟩; have HB5 := Lib.hid (HBW.out.trans (hb5.mono hszw)); have OO5 := Lib.hid (own_below HO.out hb5 (Nat.le_refl _)); have ON5 := Lib.hid (own_below HON.out hb5 (Nat.le_refl _)); have OP5 := Lib.hid (own_below HOP.out hb5 (Nat.le_refl _)); have OL5 := Lib.hid (own_below HOL.out hb5 (Nat.le_refl _)); have hs5 := hb5.size; have c5 := own_cells OL5.out k (sv (ls[k]'hlt)) (by simp [svs, hlt]); clear hb5)
            | (go_at_call 35; refine (HF.out _ HB5.out).mono ?_; rintro e w' ⟨rfl, rfl⟩)
            | (at_builtin; refine wpList_append_new rfl (.tmp 76) (.tmp 83) _ rfl _ i0 _ 1 Try.underlying31 hi hz0 hz1 hz2 rfl w.heap.size w _ nO _ rfl OO5.out HB5.out (Nat.le_refl _) [.int .u8 ((ls[k]'hlt).length : Nat)] (by simp [Value.oneCell']) _ 1 rfl rfl (by omega) (by omega) ?_; intro v7 w7 O7 B7 G7; have OL7 := Lib.hid (own_still (own_alloc OO5.out _) (own_alloc OL5.out _) (by decide) G7); have c7 := own_cells OL7.out k (sv (ls[k]'hlt)) (by simp [svs, hlt]); have HO7 := Lib.hid O7; have HB7 := Lib.hid B7; have HG7 := Lib.hid G7; have hs7 := B7.size; clear O7 B7 G7)
            | (at_builtin; refine Lib.wpList_append_own_string _ rfl (.tmp 85) (.tmp 89) _ _ rfl w.heap.size _ i0 Try.underlying31 Try.underlying9 hi hz0 hz1 hz2 _ (nO + 1) _ rfl HO7.out ⟨(ls[k]'hlt).toArray⟩ rfl (by rw [mk_size]; unfold maxLen; omega) (by rw [mk_size]; omega) hs7 ?_; intro v8 w8 O8 G8 _))
          go_roundw
          case rel =>
            have hB8 : Below w.heap.size w w8 := HB7.out.grown G8 hs7 (fun r hr => (HO7.out.lt r hr).1)
            refine ⟨k + 1, nw, by go_num, by omega, ?_, own_still HO7.out (own_still (own_alloc OO5.out _) (own_alloc ON5.out _) (by decide) HG7.out) (by decide) G8, own_still HO7.out (own_still (own_alloc OO5.out _) (own_alloc OP5.out _) (by decide) HG7.out) (by decide) G8, own_still HO7.out OL7.out (by decide) G8, hB8, HST.out, HSA.out, by omega⟩
            refine own_to O8 ?_ ?_
            · rw [lab_bytes l hlt, mk_size, List.length_append, List.length_append, HNO.out]; rfl
            · rw [lab_bytes l hlt, strCells_bv, bv_one8 _ (by omega)]; simp only [bv_append]
          case measure => simp [intOf]; omega
      · have hlk := HG.out (ls[k]'hlt) (List.getElem_mem hlt)
        have hst := HCO.out.step hlt (fun h => absurd h.1 (by rw [HR2.out, hah2]; exact hf))
        have hsa := HAH.out.step (p := l.length + (Nm.body (ls.take k)).length) hlt
        have hneg := findI_neg hf
        have hnO3 := HNO.out
        rw [List.length_append] at hnO3
        rw [HR2.out, hnO3] at hst hsa
        rw [hneg] at HF
        have hlk2 := hlk.2
        by_cases hfar : 16383 < nO
        · rw [Pr.rem_far hfar] at hst hsa
          have HST := Lib.hid hst
          have HSA := Lib.hid hsa
          clear hf hmx hah2 hst hsa hlk hneg hnO3
          rw [HNO.out]
          go_wp2_with (first
            | (go_at_call 28; refine HGL.out.mono ?_; rintro e w5 ⟨rfl, hb5⟩; have HB5 := Lib.hid (HBW.out.trans (hb5.mono hszw)); have OO5 := Lib.hid (own_below HO.out hb5 (Nat.le_refl _)); have ON5 := Lib.hid (own_below HON.out hb5 (Nat.le_refl _)); have OP5 := Lib.hid (own_below HOP.out hb5 (Nat.le_refl _)); have OL5 := Lib.hid (own_below HOL.out hb5 (Nat.le_refl _)); have hs5 := hb5.size; have c5 := own_cells OL5.out k (sv (ls[k]'hlt)) (by simp [svs, hlt]); clear hb5)
            | (go_at_call 35; refine (HF.out _ HB5.out).mono ?_; rintro e w' ⟨rfl, rfl⟩)
            | (at_builtin; refine wpList_append_new rfl (.tmp 76) (.tmp 83) _ rfl _ i0 _ 1 Try.underlying31 hi hz0 hz1 hz2 rfl w.heap.size w _ nO _ rfl OO5.out HB5.out (Nat.le_refl _) [.int .u8 ((ls[k]'hlt).length : Nat)] (by simp [Value.oneCell']) _ 1 rfl rfl (by omega) (by omega) ?_; intro v7 w7 O7 B7 G7; have OL7 := Lib.hid (own_still (own_alloc OO5.out _) (own_alloc OL5.out _) (by decide) G7); have c7 := own_cells OL7.out k (sv (ls[k]'hlt)) (by simp [svs, hlt]); have HO7 := Lib.hid O7; have HB7 := Lib.hid B7; have HG7 := Lib.hid G7; have hs7 := B7.size; clear O7 B7 G7)
            | (at_builtin; refine Lib.wpList_append_own_string _ rfl (.tmp 85) (.tmp 89) _ _ rfl w.heap.size _ i0 Try.underlying31 Try.underlying9 hi hz0 hz1 hz2 _ (nO + 1) _ rfl HO7.out ⟨(ls[k]'hlt).toArray⟩ rfl (by rw [mk_size]; unfold maxLen; omega) (by rw [mk_size]; omega) hs7 ?_; intro v8 w8 O8 G8 _))
          go_roundw
          case rel =>
            have hB8 : Below w.heap.size w w8 := HB7.out.grown G8 hs7 (fun r hr => (HO7.out.lt r hr).1)
            refine ⟨k + 1, nw, by go_num, by omega, ?_, own_still HO7.out (own_still (own_alloc OO5.out _) (own_alloc ON5.out _) (by decide) HG7.out) (by decide) G8, own_still HO7.out (own_still (own_alloc OO5.out _) (own_alloc OP5.out _) (by decide) HG7.out) (by decide) G8, own_still HO7.out OL7.out (by decide) G8, hB8, HST.out, HSA.out, by omega⟩
            refine own_to O8 ?_ ?_
            · rw [lab_bytes l hlt, mk_size, List.length_append, List.length_append, HNO.out]; rfl
            · rw [lab_bytes l hlt, strCells_bv, bv_one8 _ (by omega)]; simp only [bv_append]
          case measure => simp [intOf]; omega
        · rw [Pr.rem_new (by rw [hah2]; exact hf) (by omega), List.append_assoc] at hst hsa
          have HST := Lib.hid hst
          have HSA := Lib.hid hsa
          clear hf hmx hah2 hst hsa hlk hneg hnO3
          rw [HNO.out]
          go_wp2_with (first
            | (go_at_call 28; refine HGL.out.mono ?_; rintro e w5 ⟨rfl, hb5⟩; have HB5 := Lib.hid (HBW.out.trans (hb5.mono hszw)); have OO5 := Lib.hid (own_below HO.out hb5 (Nat.le_refl _)); have ON5 := Lib.hid (own_below HON.out hb5 (Nat.le_refl _)); have OP5 := Lib.hid (own_below HOP.out hb5 (Nat.le_refl _)); have OL5 := Lib.hid (own_below HOL.out hb5 (Nat.le_refl _)); have hs5 := hb5.size; have c5 := own_cells OL5.out k (sv (ls[k]'hlt)) (by simp [svs, hlt]); clear hb5)
            | (go_at_call 35; refine (HF.out _ HB5.out).mono ?_; rintro e w' ⟨rfl, rfl⟩)
            | (at_builtin; refine wpList_append_new rfl (.tmp 67) (.tmp 69) _ rfl _ iN _ 16 Try.underlying27 hiN zN0 zN1 zN2 rfl w.heap.size w _ nw.length _ rfl ON5.out HB5.out (Nat.le_refl _) [sv R] (by simp [Value.oneCell']) _ 1 rfl rfl (by omega) (by omega) ?_; intro vN6 wN6 O6 B6 G6; have OO6 := Lib.hid (own_still (own_alloc ON5.out _) (own_alloc OO5.out _) (by decide) G6); have OP6 := Lib.hid (own_still (own_alloc ON5.out _) (own_alloc OP5.out _) (by decide) G6); have OL6 := Lib.hid (own_still (own_alloc ON5.out _) (own_alloc OL5.out _) (by decide) G6); have ON6 := Lib.hid O6; have HB6 := Lib.hid B6; have hs6 := B6.size; have c6 := own_cells OL6.out k (sv (ls[k]'hlt)) (by simp [svs, hlt]); clear O6 B6 G6)
            | (at_builtin; refine wpList_append_new rfl (.tmp 71) (.tmp 74) _ rfl _ iP _ 8 Try.underlying28 hiP zP0 zP1 zP2 rfl w.heap.size w _ nw.length _ rfl OP6.out HB6.out (Nat.le_refl _) [.int .i64 (nO : Nat)] (by simp [Value.oneCell']) _ 1 rfl rfl (by omega) (by omega) ?_; intro vP9 w9 O9 B9 G9; have OO9 := Lib.hid (own_still (own_alloc OP6.out _) (own_alloc OO6.out _) (by decide) G9); have ON9 := Lib.hid (own_still (own_alloc OP6.out _) (own_alloc ON6.out _) (by decide) G9); have OL9 := Lib.hid (own_still (own_alloc OP6.out _) (own_alloc OL6.out _) (by decide) G9); have OP9 := Lib.hid O9; have HB9 := Lib.hid B9; have hs9 := B9.size; have c9 := own_cells OL9.out k (sv (ls[k]'hlt)) (by simp [svs, hlt]); clear O9 B9 G9)
            | (at_builtin; refine wpList_append_new rfl (.tmp 76) (.tmp 83) _ rfl _ i0 _ 1 Try.underlying31 hi hz0 hz1 hz2 rfl w.heap.size w _ nO _ rfl OO9.out HB9.out (Nat.le_refl _) [.int .u8 ((ls[k]'hlt).length : Nat)] (by simp [Value.oneCell']) _ 1 rfl rfl (by omega) (by omega) ?_; intro v7 w7 O7 B7 G7; have OL7 := Lib.hid (own_still (own_alloc OO9.out _) (own_alloc OL9.out _) (by decide) G7); have c7 := own_cells OL7.out k (sv (ls[k]'hlt)) (by simp [svs, hlt]); have HO7 := Lib.hid O7; have HB7 := Lib.hid B7; have HG7 := Lib.hid G7; have hs7 := B7.size; clear O7 B7 G7)
            | (at_builtin; refine Lib.wpList_append_own_string _ rfl (.tmp 85) (.tmp 89) _ _ rfl w.heap.size _ i0 Try.underlying31 Try.underlying9 hi hz0 hz1 hz2 _ (nO + 1) _ rfl HO7.out ⟨(ls[k]'hlt).toArray⟩ rfl (by rw [mk_size]; unfold maxLen; omega) (by rw [mk_size]; omega) hs7 ?_; intro v8 w8 O8 G8 _))
          go_roundw
          case rel =>
            have hB8 : Below w.heap.size w w8 := HB7.out.grown G8 hs7 (fun r hr => (HO7.out.lt r hr).1)
            refine ⟨k + 1, nw ++ [(R, nO)], by go_num, by omega, ?_, own_to (own_still HO7.out (own_still (own_alloc OO9.out _) (own_alloc ON9.out _) (by decide) HG7.out) (by decide) G8) (by simp) (by rw [List.map_append, svs_append]; rfl), own_to (own_still HO7.out (own_still (own_alloc OO9.out _) (own_alloc OP9.out _) (by decide) HG7.out) (by decide) G8) (by simp) (by rw [List.map_append, ints_append]; rfl), own_still HO7.out OL7.out (by decide) G8, hB8, HST.out, HSA.out, by simp; omega⟩
            refine own_to O8 ?_ ?_
            · rw [lab_bytes l hlt, mk_size, List.length_append, List.length_append, HNO.out]; rfl
            · rw [lab_bytes l hlt, strCells_bv, bv_one8 _ (by omega)]; simp only [bv_append]
          case measure => simp [intOf]; omega
    · obtain rfl : k = ls.length := by omega
      have hpw := hcont.done
      have HPW := Lib.hid hpw
      have HO := Lib.hid oO
      have HON := Lib.hid oN
      have HOP := Lib.hid oP
      have HBW := Lib.hid hbw
      have HNO := Lib.hid hnO
      rw [HNO.out] at HO
      clear hpw oO oN oP oL hbw hcont hah hnO
      rw [HNO.out]
      go_wp2_with (first
        | (go_at_call 36; refine (keep_any _ g base w.heap.size t nw _ _ (HT.out.below HBW.out) hg HON.out HOP.out (by omega) (by omega)).mono ?_; rintro e w6 ⟨rfl, hT6, hK6⟩; have HK6 := Lib.hid hK6; have HT6 := Lib.hid hT6; have hs6 := hK6.below.size; have OO6 := Lib.hid (hK6.own HO.out rfl); clear hK6 hT6)
        | (at_builtin; refine wpList_append_new rfl (.tmp 95) (.tmp 96) _ rfl _ i0 _ 1 Try.underlying31 hi hz0 hz1 hz2 rfl w.heap.size w6 _ nO _ rfl OO6.out (Below.refl _ _) (by omega) [.int .u8 0] (by simp [Value.oneCell']) _ 1 rfl rfl (by omega) (by omega) ?_; intro v9 w9 O9 B9 G9))
      go_ret2
      refine ⟨_, rfl, ?_, ?_, ?_⟩
      · rw [HPW.out]
        have e1 := HNO.out
        rw [List.take_length] at e1
        refine own_to O9 ?_ ?_
        · show nO + 1 = (l ++ Nm.glue ls).length
          rw [Nm.glue, ← List.append_assoc, List.length_append, e1]; rfl
        · show _ = bv (l ++ Nm.glue ls)
          rw [List.take_length, Nm.glue, ← List.append_assoc, bv_append (l ++ Nm.body ls)]; rfl
      · rw [HPW.out]
        exact (HT6.out.alloc _).still (own_alloc OO6.out _) G9
      · exact ((Rk.of_below HBW.out hbase).trans HK6.out).more B9 hbase
end Go.Proofs.Ytfekmolgiohegaa
