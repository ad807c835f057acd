/- Put: a name written by a pointer where it can be: the walk. -/
import Derived.Test.YtfekmolgiohegaaPut
namespace Go.Proofs.Ytfekmolgiohegaa
open Go.RowKit Go.Shelf
attribute [local go_sem] Oper.semAt_some

theorem book_boxes {B b : Nat} {p A : Option Addr} {n c : Nat} {s : ByteArray} {v : Value} {e : Int} (hb : b + 5 ≤ B) : Book B (fun _ W => Boxes W b p A n c s v e) := fun _ W W' row hi hg hr => hi.grown hg (fun r e => by have := (hr r e).1; omega)
theorem put16_nil (q : Nat) (w : World) (hq : q < 65536) :
    Calls Try.prog 26 #[.slice none 0 0, .int .u16 q] w fun e w' => ∃ g cp, e = .returned (.slice (some ⟨g, 0, none⟩) 2 2) ∧ w'.ownsRow w.heap.size 5 1 (.slice (some ⟨g, 0, none⟩) 2 cp) 2 (bv (Oc.beb 2 q)) ∧ Below w.heap.size w w' :=
  put_u16 none [] 0 q w (Nat.le_refl 0) (by simp) hq 0 Bs.nil
theorem glue_front (ls : List (List UInt8)) (i : Nat) : (Nm.glue ls).take (Nm.body (ls.take i)).length = Nm.body (ls.take i) := by
  have e : Nm.glue ls = Nm.body (ls.take i) ++ Nm.glue (ls.drop i) := by
    unfold Nm.glue
    rw [← List.append_assoc, ← Nm.body_append, List.take_append_drop]
  rw [e, List.take_left]
theorem set_grown (W : World) (b i : Nat) (u : Value) : W.grownBy (W.setCell ⟨b, i, none⟩ u) (some b) := ⟨rfl, rfl, rfl, by simp, fun j _ hj => heap_setCell_other W ⟨b, i, none⟩ j u (fun e => hj (by rw [e]))⟩
theorem own_set {W : World} {base b i n : Nat} {e : TypeId} {v : Value} {xs : List Value} (h : W.ownsRow base e 1 v n xs) (hb : b < base) (u : Value) : (W.setCell ⟨b, i, none⟩ u).ownsRow base e 1 v n xs := by
  refine h.kept (set_grown W b i u) ?_
  rcases h.2 with ⟨rfl, _⟩ | ⟨g, cap, cur, rfl, hg, _⟩
  · exact .inl rfl
  · refine .inr fun e' => ?_
    have : g = b := by simpa [Value.ownBlock] using e'
    omega
/-- a round has left: the bytes are laid down. -/
def PutX (g base : Nat) (t : Tab) (l : List UInt8) (ls : List (List UInt8)) (w : World) (A : Option Addr) (c : Nat) (s : ByteArray) (k : Code) (_i : Nat) (W : World) : Prop :=
  k = .ret ∧ ∃ B m d mp', Boxes W w.heap.size (some ⟨g, 0, none⟩) A l.length c s (.slice B m d) 0 ∧ W.ownsRow w.heap.size 5 1 (.slice B m d) (l ++ (Pr.pw false t l.length ls).2).length (bv (l ++ (Pr.pw false t l.length ls).2)) ∧ Tb W g base mp' (Pr.pw false t l.length ls).1 ∧ Rg g base w W
theorem own_grown {W W' : World} {B b : Nat} {e : TypeId} {v : Value} {n : Nat} {xs : List Value} {row : Option Nat} (h : W.ownsRow b e 1 v n xs) (hg : W.grownBy W' row) (hr : ∀ r, row = some r → B ≤ r ∧ ∃ o : Obj, W.heap[r]? = some o ∧ isBook o = true) : W'.ownsRow b e 1 v n xs := by
  refine h.kept hg ?_
  rcases h.2 with ⟨rfl, _⟩ | ⟨g, cap, cur, rfl, _, hgb, _⟩
  · exact .inl rfl
  · refine .inr fun e' => ?_
    obtain ⟨_, o, ho, ho2⟩ := hr g (by simpa [Value.ownBlock] using e'.symm)
    rw [hgb] at ho; cases ho; cases ho2
theorem PutX.book {g base : Nat} {t : Tab} {l : List UInt8} {ls : List (List UInt8)} {w : World} {A : Option Addr} {c : Nat} {s : ByteArray} {B : Nat} (hB : w.heap.size + 5 ≤ B) (hg : g < w.heap.size) (hb : base ≤ w.heap.size) (k : Code) : Book B (PutX g base t l ls w A c s k) := by
  rintro i W W' row ⟨hk, B', m, d, mp, h1, h2, h3, h4⟩ hgr hr
  refine ⟨hk, B', m, d, mp, h1.grown hgr (fun r e => by have := (hr r e).1; omega), own_grown h2 hgr hr, h3.grown hgr (fun e => ?_) (fun r e o ho => ?_), h4.grown_new hgr (fun r e => ?_) hb⟩
  · have := (hr g e.symm).1; omega
  · obtain ⟨_, o', ho', hbk⟩ := hr r e
    rw [ho] at ho'
    cases ho'
    cases o <;> simp_all [isBook, isMapO]
  · have := (hr r e).1; omega

set_option maxRecDepth 100000 in
set_option maxHeartbeats 2000000 in
theorem put_in (g base : Nat) (mp : Option Nat) (t : Tab) (A : Option Addr) (l : List UInt8) (c : Nat) (s : ByteArray) (ls : List (List UInt8)) (w : World) (hT : Tb w g base mp t) (hbase : base ≤ w.heap.size)
    (hs : Nm.split s.data.toList = some ls) (_hc : l.length ≤ c) (hnil : A = none → c = 0) (hm : l.length ≤ 140737488355000) (hr : Bs w 0 w.heap.size A l) (ht : t.length ≤ 140737488354000) :
    Calls Try.prog 13 #[.pointer (some ⟨g, 0, none⟩), .slice A l.length c, .string s] w (PutDone false g base t l ls w) := by
  obtain ⟨hgl, hgd, h255⟩ := Nm.split_some.1 hs
  have hfew := few hs
  have hgw := hT.2.1.lt
  have hsz : s.size = (Nm.glue ls).length := by rw [← hgl]; simp
  have hs255 : s.size ≤ 255 := by rw [hsz, ← hgl]; exact h255
  have HC : Hid (Calls Try.prog 21 #[.pointer (some ⟨g, 0, none⟩), .string s] (PutW w (some ⟨g, 0, none⟩) A l.length c s 0) fun e w' => e = .returned (.int .i64 0) ∧ Below (w.heap.size + 5) (PutW w (some ⟨g, 0, none⟩) A l.length c s 0) w') := by
    have := pcheck_any g s (PutW w (some ⟨g, 0, none⟩) A l.length c s 0) (by omega)
    rw [hs, putW_size] at this
    exact this
  have mixed : Try.prog.follows .mixedOrders = true := by kernel_rfl
  refine (callsIn_wide (n := 4)).1 ?_
  refine callsIn_of_wp_marks Try.func13 rfl trivial ?_ rfl
  simp only [Try.ntmps13, List.size_toArray, List.length_cons, List.length_nil, Nat.reduceAdd, Nat.reduceSub, Array.replicate_succ, Array.replicate_zero, List.push_toArray, List.append_toArray, List.nil_append, List.cons_append]
  have HT := Lib.hid hT
  have HS := Lib.hid hs
  have HR := Lib.hid hr
  have HN := Lib.hid hnil
  have HZ := Lib.hid hsz
  have HG := Lib.hid hgl
  clear hT hs hgl hgd h255 hnil hr hsz
  gi_wp2_with (refine ⟨trivial, ?_⟩; gi_at_call 21; refine (callsIn_wide.2 HC.out).mono ?_; rintro e w2 ⟨rfl, hb2⟩; have hbx := Boxes.below (Boxes.new (p := some ⟨g, 0, none⟩) (A := A) (n := l.length) (c := c) (s := s) (e := 0) w) hb2 (Nat.le_refl _); have hbf2 := hbx.facts.2.2.1)
  gi_wp2_with (refine ⟨trivial, ?_⟩; gi_at_call 22; refine (callsIn_wide.2 (tails_any _ _)).mono ?_; rintro e w3 ⟨rfl, rfl⟩)
  have hbs2 := hb2.size
  rw [putW_size] at hbs2
  have hb03 : Below w.heap.size w (w2.alloc (.cells #[.string s] 32)) := ((putW_below w (some ⟨g, 0, none⟩) A l.length c s 0).trans (hb2.mono (by omega))).alloc (by omega) _
  have HX := Lib.hid (hbx.alloc (.cells #[.string s] 32))
  have HB3 := Lib.hid hb03
  clear hb2 hbx hbf2 hb03 HC
  refine wpIn_rangeFunc_N rfl (by omega) (gf := 31) (lb := #[.pointer (some ⟨w2.heap.size, 0, none⟩)]) rfl trivial (enters_of Try.func31 (by kernel_rfl) rfl) (lo := w2.heap.size) (by simp)
    (tails_seq 3 (by omega) w2.heap.size w2.heap.size s ls HS.out _ (Has.fresh w2 _ _) (Nat.le_refl _)) (fun _ => rfl)
    (fun i W => PlI false g base t l ls w i W ∧ Boxes W w.heap.size (some ⟨g, 0, none⟩) A l.length c s (.slice none 0 0) 0)
    (PutX g base t l ls w A c s)
    (book_and (PlI.book (by simp; omega) hgw hbase) (book_boxes (by simp; omega)))
    (PutX.book (by simp; omega) hgw hbase)
    ⟨⟨mp, t, HT.out.below HB3.out, Pr.Cont.zero _ _ _ _, Nat.le_refl _, Pr.Ahead.zero _ _, Rg.of_below HB3.out hbase⟩, HX.out⟩
    (fun i => { tmps := #[.pointer (some ⟨g, 0, none⟩), .slice A l.length c, .string s, .pointer (some ⟨w.heap.size, 0, none⟩), .pointer (some ⟨w.heap.size + 1, 0, none⟩), .pointer (some ⟨w.heap.size + 1 + 1, 0, none⟩), .pointer (some ⟨w.heap.size + 1 + 1 + 1, 0, none⟩), .pointer (some ⟨w.heap.size + 1 + 1 + 1 + 1, 0, none⟩), .int .i64 0,
      .int .i64 ((Nm.body (ls.take i)).length : Nat), sv (Nm.glue (ls.drop i)), undef, undef, .pointer (some ⟨g, 0, none⟩), .string s, .int .i64 0, .int .i64 0, .bool false, undef, .string s, .func (.func 31) #[] #[.pointer (some ⟨w2.heap.size, 0, none⟩)], .int .i64 ((Nm.body (ls.take i)).length : Nat), sv (Nm.glue (ls.drop i)), undef, undef, undef, undef, undef, undef, undef, undef, undef, undef, undef, undef,
      undef, undef, undef, undef, undef, undef, undef, undef, undef, undef, undef, undef, undef, undef, undef, undef, undef, undef, undef, undef], defers := [] }) ?assign ?body ?done ?stop
  case assign =>
    intro l2 i W K hK
    unfold tailV
    gi_wp2
    exact hK
  case body =>
    rintro l2 i W ⟨⟨mp2, T, hT2, hC2, hl2, hA2, hR2⟩, hBX⟩ hi
    have hsz2 := hR2.below.size
    have hbt : (Nm.body (ls.take i)).length ≤ 255 := by
      have h1 := Nm.body_take_le (ls := ls) (i := i)
      have h2 := HZ.out
      rw [Nm.glue_length] at h2
      omega
    have hbt2 : (Nm.body (ls.take i)).length ≤ s.size := by
      have h1 := Nm.body_take_le (ls := ls) (i := i)
      have h2 := HZ.out
      rw [Nm.glue_length] at h2
      omega
    have hgd : (Nm.glue (ls.drop i)).length ≤ 255 := by
      have h1 := glue_at ls i
      have h2 := congrArg List.length h1
      rw [List.length_drop] at h2
      have h3 := HZ.out
      omega
    have hlk := look_tb hT2 (s := ⟨(Nm.glue (ls.drop i)).toArray⟩) (by rw [mk_size]; omega)
    have hcg := hT2.cell
    obtain ⟨k0, k1, k2, k3, k4, z3, z4, k5⟩ := hBX.facts
    have HBX := Lib.hid hBX
    have HT2 := Lib.hid hT2
    have HR2 := Lib.hid hR2
    have HA2 := Lib.hid hA2
    have HC2 := Lib.hid hC2
    clear hBX hT2 hR2 hA2 hC2
    simp only at hlk
    by_cases hf : 0 ≤ findI T (Nm.glue (ls.drop i))
    · obtain ⟨p, hp⟩ : ∃ p : Nat, findI T (Nm.glue (ls.drop i)) = p := ⟨(findI T (Nm.glue (ls.drop i))).toNat, by omega⟩
      have hp16 : p ≤ 16383 := by have := findI_max (n := Nm.glue (ls.drop i)) HT2.out.2.2.1; omega
      rw [if_pos hf, decide_eq_true hf, hp] at hlk
      have HP : Hid (Pr.pw false t l.length ls = (T, Nm.body (ls.take i) ++ Oc.beb 2 (49152 + p))) := by
        have := HC2.out.ptr hi hf
        rw [hp] at this
        exact this
      clear hf hp
      dsimp only
      gi_wp2
      have hS0 : Below W.heap.size W W.drew := (Below.refl _ _).drew
      have hfront : (s.extract 0 (Nm.body (ls.take i)).length).data.toList = Nm.body (ls.take i) := by
        rw [extract_list, HG.out]
        exact glue_front ls i
      have HFR := Lib.hid hfront
      clear hfront
      have hlt := (HBX.out.b4).lt
      have hld1 : ∀ W', Below W.heap.size W W' → W'.cell? ⟨w.heap.size + 1, 0, none⟩ = some (.slice A l.length c) := fun W' h => (h.cell (p := ⟨w.heap.size + 1, 0, none⟩) (show w.heap.size + 1 < W.heap.size by omega)).trans k1
      have hld2 : ∀ W', Below W.heap.size W W' → W'.cell? ⟨w.heap.size + 1 + 1, 0, none⟩ = some (.string s) := fun W' h => (h.cell (p := ⟨w.heap.size + 1 + 1, 0, none⟩) (show w.heap.size + 1 + 1 < W.heap.size by omega)).trans k2
      have hSof : ∀ W', Below W.heap.size W W' → (W'.cell? ⟨w.heap.size + 1, 0, none⟩ = some (.slice A l.length c) ∧ W'.cell? ⟨w.heap.size + 1 + 1, 0, none⟩ = some (.string s)) := fun W' h => ⟨hld1 W' h, hld2 W' h⟩
      have hS00 := hSof _ hS0
      have h16 := or16 p hp16
      obtain ⟨q, hq⟩ : ∃ q : Nat, 49152 + p = q := ⟨_, rfl⟩
      have hq2 : q < 65536 := by omega
      rw [hq] at h16 HP
      clear hq
      have hz0 : (0 : Int) ≤ ((Nm.body (ls.take i)).length : Int) := by omega
      have hz1 : ((Nm.body (ls.take i)).length : Int) ≤ (s.size : Int) := by omega
      clear k0 k1 k2 k3 k4 z3 z4 k5 hlk hcg
      refine wpIn_region_S2 (S := fun W' => W'.cell? ⟨w.heap.size + 1, 0, none⟩ = some (.slice A l.length c) ∧ W'.cell? ⟨w.heap.size + 1 + 1, 0, none⟩ = some (.string s)) mixed 12 #[false, false, false, false, false, false, false, false, false, false, false, false] rfl rfl ?_
      refine wpAnyS_take (i := 0) (v := .slice A l.length c) rfl (by kernel_rfl) (by kernel_rfl) (by kernel_rfl) (by kernel_rfl) (fun _ _ _ h => h) ⟨Or.inl ⟨by rfl, fun W' hW' => (by have := hW'.1; go_simp)⟩, rfl, fun _ => rfl⟩ hS00 ?_
      simp only [Act.put, List.setIfInBounds_toArray, List.set_cons_zero]
      refine wpAnyS_take (i := 1) (v := .string s) rfl (by kernel_rfl) (by kernel_rfl) (by kernel_rfl) (by kernel_rfl) (fun _ _ _ h => h) ⟨Or.inl ⟨by rfl, fun W' hW' => (by have := hW'.2; go_simp)⟩, rfl, fun _ => rfl⟩ hS00 ?_
      simp only [Act.put, List.setIfInBounds_toArray, List.set_cons_zero, List.set_cons_succ]
      refine wpAnyS_take (i := 2) (v := .int .i64 ((Nm.body (ls.take i)).length : Nat)) rfl (by kernel_rfl) (by kernel_rfl) (by kernel_rfl) (by kernel_rfl) (fun _ _ _ h => h) ⟨Or.inl ⟨by rfl, fun W' hW' => (by go_simp)⟩, rfl, fun _ => rfl⟩ hS00 ?_
      simp only [Act.put, List.setIfInBounds_toArray, List.set_cons_zero, List.set_cons_succ]
      refine wpAnyS_take (i := 3) (v := .string (s.extract 0 (Nm.body (ls.take i)).length)) rfl (by kernel_rfl) (by kernel_rfl) (by kernel_rfl) (by kernel_rfl) (fun _ _ _ h => h) ⟨Or.inl ⟨by rfl, fun W' hW' => (by go_simp)⟩, rfl, fun _ => rfl⟩ hS00 ?_
      simp only [Act.put, List.setIfInBounds_toArray, List.set_cons_zero, List.set_cons_succ]
      refine wpAnyS_take (i := 5) (v := .int .u16 p) rfl (by kernel_rfl) (by kernel_rfl) (by kernel_rfl) (by kernel_rfl) (fun _ _ _ h => h) ⟨Or.inl ⟨by rfl, fun W' hW' => (by go_simp)⟩, rfl, fun _ => rfl⟩ hS00 ?_
      simp only [Act.put, List.setIfInBounds_toArray, List.set_cons_zero, List.set_cons_succ]
      refine wpAnyS_take (i := 6) (v := .int .u16 (q : Int)) rfl (by kernel_rfl) (by kernel_rfl) (by kernel_rfl) (by kernel_rfl) (fun _ _ _ h => h) ⟨Or.inl ⟨by rfl, fun W' hW' => (by rw [← h16]; go_simp)⟩, rfl, fun _ => rfl⟩ hS00 ?_
      simp only [Act.put, List.setIfInBounds_toArray, List.set_cons_zero, List.set_cons_succ]
      refine wpAnyS_ready (rs := [4, 7]) (by kernel_rfl) (by simp) ?_
      refine AllS.cons rfl rfl (fun K hK => ?_) (AllS.cons rfl rfl (fun K hK => ?_) AllS.nil)
      · obtain ⟨cap6, w6, hr6, hb6, hcap6, hbl6, hsz6⟩ := run_bytes_new (P := Try.prog) W.drew 32 31 5 (s.extract 0 (Nm.body (ls.take i)).length) Try.underlying32 Try.underlying31 Try.underlying5
        go_simp
        have hS6 : Below W.heap.size W w6 := hS0.trans hbl6
        have hz6 : w6.heap.size = W.heap.size + 1 := hsz6
        have hb66 : Bs w6 W.heap.size (W.heap.size + 1) (some ⟨W.heap.size, 0, none⟩) (Nm.body (ls.take i)) := by have := hb6; rw [HFR.out] at this; exact this
        clear hb6 hsz6 hbl6
        refine hK _ _ (hSof _ hS6) ?_
        clear hK K hr6
        refine wpAnyS_ready (rs := [7]) (by kernel_rfl) (by simp) (AllS.cons rfl rfl (fun K hK => ?_) AllS.nil)
        go_simp
        refine ⟨trivial, (CallsIn.inRound l2 (callsIn_wide.2 (put16_nil q w6 hq2))).mono ?_⟩
        rintro e w7 ⟨g7, cp7, rfl, hO7, hB7⟩
        have hs67 := hB7.size
        have hS7 : Below W.heap.size W w7 := hS6.trans (hB7.mono (by omega))
        have hbp := (Bs.of_own hO7).more (Nat.zero_le _) (Nat.le_refl _)
        have hbb := (hb66.keep (hB7.mono (by omega))).more (Nat.zero_le _) (by omega : _ ≤ w7.heap.size)
        refine hK _ _ (hSof _ hS7) ?_
        clear hK K hO7 hB7 hb66
        refine wpAnyS_ready (rs := [8]) (by kernel_rfl) (by simp) (AllS.cons rfl rfl (fun K hK => ?_) AllS.nil)
        go_simp
        have hS8 := hS7.alloc (Nat.le_trans (Nat.le_refl _) hS7.size) (.cells #[.slice A l.length c, .slice (some ⟨W.heap.size, 0, none⟩) (Nm.body (ls.take i)).length cap6, .slice (some ⟨g7, 0, none⟩) 2 2] 31)
        have hF := Has.fresh w7 31 #[.slice A l.length c, .slice (some ⟨W.heap.size, 0, none⟩) (Nm.body (ls.take i)).length cap6, .slice (some ⟨g7, 0, none⟩) 2 2]
        have hcat := concat3 w7.heap.size A (some ⟨W.heap.size, 0, none⟩) (some ⟨g7, 0, none⟩) c cap6 2 l.length (Nm.body (ls.take i)).length 2 l (Nm.body (ls.take i)) (Oc.beb 2 q) (w7.alloc (.cells #[.slice A l.length c, .slice (some ⟨W.heap.size, 0, none⟩) (Nm.body (ls.take i)).length cap6, .slice (some ⟨g7, 0, none⟩) 2 2] 31))
          (by simp) (by rw [hF.cell]; rfl) (by rw [hF.cell]; rfl) (by rw [hF.cell]; rfl) rfl rfl (by simp [Oc.beb])
          ((((HR2.out.bs HT.out HR.out).more (Nat.le_refl _) hsz2).keep hS8).more (Nat.le_refl _) hS8.size) ((hbb.alloc (Nat.le_refl _) _).more (Nat.le_refl _) (by simp)) ((hbp.alloc (Nat.le_refl _) _).more (Nat.le_refl _) (by simp)) HN.out (fun e => by cases e) (fun e => by cases e) (by simp [Oc.beb]; omega)
        have HCAT := Lib.hid hcat
        clear hF hcat hbb hbp
        refine hK _ _ (hSof _ hS8) ?_
        clear hK K
        refine wpAnyS_ready (rs := [9]) (by kernel_rfl) (by simp) (AllS.cons rfl rfl (fun K hK => ?_) AllS.nil)
        go_simp
        refine ⟨trivial, ?_⟩
        (with_reducible refine (CallsIn.inRound l2 (callsIn_wide.2 HCAT.out)).mono ?_)
        rintro e w9 ⟨v9, rfl, hO9, hB9⟩
        obtain ⟨n9, hn9⟩ : ∃ n9, (l ++ (Nm.body (ls.take i) ++ Oc.beb 2 q)).length = n9 := ⟨_, rfl⟩
        rw [hn9] at hO9
        have HN9 := Lib.hid hn9
        clear hn9
        obtain ⟨A9, d9, rfl⟩ := own_form hO9
        have HO9 := Lib.hid hO9
        clear hO9
        have hS9 : Below W.heap.size W w9 := hS8.trans (hB9.mono hS8.size)
        have hsz8 := hS8.size
        have hsz7 := hS7.size
        have hbx9 := Boxes.below HBX.out hS9 (by omega)
        obtain ⟨k0, k1, k2, k3, k4, z3, z4, k5⟩ := hbx9.facts
        refine hK _ _ (hSof _ hS9) ?_
        clear hK K
        refine wpAnyS_ready (rs := [10]) (by kernel_rfl) (by simp) (AllS.cons rfl rfl (fun K hK => ?_) AllS.nil)
        go_simp
        refine hK _ _ ⟨by rw [(hbx9.b1.far (p := ⟨w.heap.size + 1 + 1 + 1, 0, none⟩) (by simp) _).cell]; rfl, by rw [(hbx9.b2.far (p := ⟨w.heap.size + 1 + 1 + 1, 0, none⟩) (by simp) _).cell]; rfl⟩ ?_
        clear hK K
        refine wpAnyS_ready (rs := [11]) (by kernel_rfl) (by simp) (AllS.cons rfl rfl (fun K hK => ?_) AllS.nil)
        go_simp
        have hbx := hbx9.set (.slice A9 n9 d9) 0
        refine hK _ _ ⟨hbx.facts.2.1, hbx.facts.2.2.1⟩ ?_
        clear hK K
        refine wpAnyS_done (by kernel_rfl) ?_ _
        clear k0 k1 k2 k3 k4 z3 z4 k5
        gi_wp2
        have hlt9 := hS9.size
        refine ⟨((Keeps.of_below hS9 (Nat.le_refl _)).trans (Keeps.setCell _ (by simp; omega))).trans (Keeps.setCell _ (by simp; omega)), rfl, A9, n9, d9, mp2, hbx, ?_, ?_, ?_⟩
        · rw [HP.out]
          exact own_to (own_mono (own_set (own_set HO9.out (by simp; omega) _) (by simp; omega) _) (by simp; omega)) HN9.out.symm rfl
        · rw [HP.out]
          exact ((HT2.out.below hS9).set (by omega) hbx9.b3).set (by omega) (hbx9.b4.far (p := ⟨w.heap.size + 1 + 1 + 1, 0, none⟩) (by simp) _)
        · exact (((HR2.out.more hS9 hbase).grown_new (set_grown _ _ _ _) (fun r e => by cases e; omega) hbase).grown_new (set_grown _ _ _ _) (fun r e => by cases e; omega) hbase)
      · go_simp
        refine ⟨trivial, (CallsIn.inRound l2 (callsIn_wide.2 (put16_nil q W.drew hq2))).mono ?_⟩
        rintro e w6 ⟨g7, cp7, rfl, hO6, hB6⟩
        have hS6 : Below W.heap.size W w6 := hS0.trans hB6
        have hs6 := hS6.size
        refine hK _ _ (hSof _ hS6) ?_
        clear hK K
        refine wpAnyS_ready (rs := [4]) (by kernel_rfl) (by simp) (AllS.cons rfl rfl (fun K hK => ?_) AllS.nil)
        obtain ⟨cap6, w7, hr6, hb6, hcap6, hbl6, hsz6⟩ := run_bytes_new (P := Try.prog) w6 32 31 5 (s.extract 0 (Nm.body (ls.take i)).length) Try.underlying32 Try.underlying31 Try.underlying5
        go_simp
        have hS7 : Below W.heap.size W w7 := hS6.trans (hbl6.mono hs6)
        have hbp := ((Bs.of_own hO6).more (Nat.zero_le _) (Nat.le_refl _)).keep hbl6
        have hbp := hbp.more (Nat.le_refl _) (by omega : _ ≤ w7.heap.size)
        have hbb : Bs w7 0 w7.heap.size (some ⟨w6.heap.size, 0, none⟩) (Nm.body (ls.take i)) := by have := hb6.more (Nat.zero_le _) (by omega : _ ≤ w7.heap.size); rw [HFR.out] at this; exact this
        refine hK _ _ (hSof _ hS7) ?_
        have hs67 : w6.heap.size + 1 ≤ w7.heap.size := by omega
        clear hK K hO6 hB6 hb6 hr6 hbl6 hsz6
        refine wpAnyS_ready (rs := [8]) (by kernel_rfl) (by simp) (AllS.cons rfl rfl (fun K hK => ?_) AllS.nil)
        go_simp
        have hS8 := hS7.alloc (Nat.le_trans (Nat.le_refl _) hS7.size) (.cells #[.slice A l.length c, .slice (some ⟨w6.heap.size, 0, none⟩) (Nm.body (ls.take i)).length cap6, .slice (some ⟨g7, 0, none⟩) 2 2] 31)
        have hF := Has.fresh w7 31 #[.slice A l.length c, .slice (some ⟨w6.heap.size, 0, none⟩) (Nm.body (ls.take i)).length cap6, .slice (some ⟨g7, 0, none⟩) 2 2]
        have hcat := concat3 w7.heap.size A (some ⟨w6.heap.size, 0, none⟩) (some ⟨g7, 0, none⟩) c cap6 2 l.length (Nm.body (ls.take i)).length 2 l (Nm.body (ls.take i)) (Oc.beb 2 q) (w7.alloc (.cells #[.slice A l.length c, .slice (some ⟨w6.heap.size, 0, none⟩) (Nm.body (ls.take i)).length cap6, .slice (some ⟨g7, 0, none⟩) 2 2] 31))
          (by simp) (by rw [hF.cell]; rfl) (by rw [hF.cell]; rfl) (by rw [hF.cell]; rfl) rfl rfl (by simp [Oc.beb])
          ((((HR2.out.bs HT.out HR.out).more (Nat.le_refl _) hsz2).keep hS8).more (Nat.le_refl _) hS8.size) ((hbb.alloc (Nat.le_refl _) _).more (Nat.le_refl _) (by simp)) ((hbp.alloc (Nat.le_refl _) _).more (Nat.le_refl _) (by simp)) HN.out (fun e => by cases e) (fun e => by cases e) (by simp [Oc.beb]; omega)
        have HCAT := Lib.hid hcat
        clear hF hcat hbb hbp
        refine hK _ _ (hSof _ hS8) ?_
        clear hK K
        refine wpAnyS_ready (rs := [9]) (by kernel_rfl) (by simp) (AllS.cons rfl rfl (fun K hK => ?_) AllS.nil)
        go_simp
        refine ⟨trivial, ?_⟩
        (with_reducible refine (CallsIn.inRound l2 (callsIn_wide.2 HCAT.out)).mono ?_)
        rintro e w9 ⟨v9, rfl, hO9, hB9⟩
        obtain ⟨n9, hn9⟩ : ∃ n9, (l ++ (Nm.body (ls.take i) ++ Oc.beb 2 q)).length = n9 := ⟨_, rfl⟩
        rw [hn9] at hO9
        have HN9 := Lib.hid hn9
        clear hn9
        obtain ⟨A9, d9, rfl⟩ := own_form hO9
        have HO9 := Lib.hid hO9
        clear hO9
        have hS9 : Below W.heap.size W w9 := hS8.trans (hB9.mono hS8.size)
        have hsz8 := hS8.size
        have hsz7 := hS7.size
        have hbx9 := Boxes.below HBX.out hS9 (by omega)
        obtain ⟨k0, k1, k2, k3, k4, z3, z4, k5⟩ := hbx9.facts
        refine hK _ _ (hSof _ hS9) ?_
        clear hK K
        refine wpAnyS_ready (rs := [10]) (by kernel_rfl) (by simp) (AllS.cons rfl rfl (fun K hK => ?_) AllS.nil)
        go_simp
        refine hK _ _ ⟨by rw [(hbx9.b1.far (p := ⟨w.heap.size + 1 + 1 + 1, 0, none⟩) (by simp) _).cell]; rfl, by rw [(hbx9.b2.far (p := ⟨w.heap.size + 1 + 1 + 1, 0, none⟩) (by simp) _).cell]; rfl⟩ ?_
        clear hK K
        refine wpAnyS_ready (rs := [11]) (by kernel_rfl) (by simp) (AllS.cons rfl rfl (fun K hK => ?_) AllS.nil)
        go_simp
        have hbx := hbx9.set (.slice A9 n9 d9) 0
        refine hK _ _ ⟨hbx.facts.2.1, hbx.facts.2.2.1⟩ ?_
        clear hK K
        refine wpAnyS_done (by kernel_rfl) ?_ _
        clear k0 k1 k2 k3 k4 z3 z4 k5
        gi_wp2
        have hlt9 := hS9.size
        refine ⟨((Keeps.of_below hS9 (Nat.le_refl _)).trans (Keeps.setCell _ (by simp; omega))).trans (Keeps.setCell _ (by simp; omega)), rfl, A9, n9, d9, mp2, hbx, ?_, ?_, ?_⟩
        · rw [HP.out]
          exact own_to (own_mono (own_set (own_set HO9.out (by simp; omega) _) (by simp; omega) _) (by simp; omega)) HN9.out.symm rfl
        · rw [HP.out]
          exact ((HT2.out.below hS9).set (by omega) hbx9.b3).set (by omega) (hbx9.b4.far (p := ⟨w.heap.size + 1 + 1 + 1, 0, none⟩) (by simp) _)
        · exact (((HR2.out.more hS9 hbase).grown_new (set_grown _ _ _ _) (fun r e => by cases e; omega) hbase).grown_new (set_grown _ _ _ _) (fun r e => by cases e; omega) hbase)
    · rw [if_neg hf, decide_eq_false hf] at hlk
      have hrem := remember_any g base mp2 T ⟨(Nm.glue (ls.drop i)).toArray⟩ (l.length + (Nm.body (ls.take i)).length) W HT2.out (by omega) (by rw [mk_size]; omega) (by omega) (by omega)
      rw [Int.natCast_add] at hrem
      have HREM := Lib.hid hrem
      have HF := Lib.hid hf
      clear hrem hf
      dsimp only
      gi_wp2_with (refine ⟨trivial, ?_⟩; gi_at_call 23; refine (CallsIn.inRound l2 (callsIn_wide.2 HREM.out)).mono ?_; rintro e w5 ⟨rfl, mp5, hT5, hR5⟩)
      have hlen := Pr.rem_len T (Nm.glue (ls.drop i)) (l.length + (Nm.body (ls.take i)).length)
      exact ⟨hR5.keeps (by omega), ⟨mp5, _, hT5, HC2.out.step hi (fun h => absurd h.1 (Int.not_le.2 HF.out)), by omega, HA2.out.step hi, HR2.out.trans hR5⟩, HBX.out.rg hR5 hgw⟩
  case done =>
    rintro D W hD ⟨⟨mp2, T, hT2, hC2, hl2, hA2, hR2⟩, hBX⟩ hK
    obtain ⟨k0, k1, k2, k3, k4, z3, z4, k5⟩ := hBX.facts
    have hsz2 := hR2.below.size
    have hlt := hBX.b4.lt
    have hDl := (Array.getElem?_eq_some_iff.1 hK).1
    simp only [World.size_alloc] at hD
    have HK := Lib.hid hK
    have HT2 := Lib.hid hT2
    have HP := Lib.hid hC2.done
    have HR2 := Lib.hid hR2
    have HBX := Lib.hid hBX
    have HB := Lib.hid ((hR2.bs HT.out HR.out).more (Nat.le_refl _) hsz2)
    clear hK hT2 hC2 hA2 hR2 hBX k0 k3 k4 z3 z4 k5
    dsimp only
    gi_wp2_with (refine wpListIn_bytes rfl 32 31 (.tmp 51) rfl 5 Try.underlying32 Try.underlying31 Try.underlying5 s rfl ?_; intro cap w6 hb6 hcap6 hbl6 hsz6)
    have hF := Has.fresh w6 31 #[.slice A l.length c, .slice (some ⟨W.heap.size, 0, none⟩) s.size cap]
    rw [hsz6] at hF
    have hsl : s.size = s.data.toList.length := by simp
    have hbl7 : Below W.heap.size W (w6.alloc (.cells #[.slice A l.length c, .slice (some ⟨W.heap.size, 0, none⟩) s.size cap] 31)) := hbl6.alloc (by omega) _
    have hcat := concat2 (W.heap.size + 1) A (some ⟨W.heap.size, 0, none⟩) c cap l.length s.size l s.data.toList (w6.alloc (.cells #[.slice A l.length c, .slice (some ⟨W.heap.size, 0, none⟩) s.size cap] 31))
      (by simp; omega) (by rw [hF.cell]; rfl) (by rw [hF.cell]; rfl) rfl hsl ((HB.out.keep hbl7).more (Nat.le_refl _) (by simp; omega)) ((hb6.alloc (by omega) _).more (Nat.zero_le _) (by simp; omega)) HN.out (fun e => by cases e) (by rw [List.length_append, ← hsl]; omega)
    have HCAT := Lib.hid hcat
    have HB7 := Lib.hid hbl7
    clear hb6 hF hcat hsl hbl6 hbl7
    gi_wp2_with (refine ⟨trivial, ?_⟩; gi_at_call 24; refine (callsIn_wide.2 HCAT.out).mono ?_; rintro e w8 ⟨v8, rfl, hO8, hB8⟩; obtain ⟨n9, hn9⟩ : ∃ n9, (l ++ s.data.toList).length = n9 := ⟨_, rfl⟩; rw [hn9] at hO8; have HN9 := Lib.hid hn9; clear hn9; obtain ⟨A9, d9, rfl⟩ := own_form hO8; have HO8 := Lib.hid hO8; clear hO8; have HB8 := Lib.hid hB8; have hbx8 := Boxes.below HBX.out (HB7.out.trans (hB8.mono (by simp; omega))) (by omega); clear hB8; obtain ⟨k0, k1', k2', k3, k4, z3, z4, k5⟩ := hbx8.facts)
    have hsz8 := HB8.out.size
    simp only [World.size_alloc] at hsz8
    have hB08 : Below W.heap.size W w8 := HB7.out.trans (HB8.out.mono (by simp; omega))
    have hbx := hbx8.set (.slice A9 n9 d9) 0
    have hK8 : ((w8.setCell ⟨w.heap.size + 1 + 1 + 1, 0, none⟩ (.slice A9 n9 d9)).setCell ⟨w.heap.size + 1 + 1 + 1 + 1, 0, none⟩ (.int .i64 0)).heap[D]? = some (.deferred (some [])) := by
      rw [heap_setCell_other _ _ _ _ (by show D ≠ w.heap.size + 1 + 1 + 1 + 1; omega), heap_setCell_other _ _ _ _ (by show D ≠ w.heap.size + 1 + 1 + 1; omega)]
      exact (hB08.block D hDl).trans HK.out
    refine ⟨by simp, .inl ⟨_, _, rfl, run_takeDeferred hK8, ?_⟩⟩
    have hbxf := hbx.grown (grownBy_putObj' _ D (.deferred none)) (fun r e => by cases e; omega)
    refine ⟨_, put_results rfl rfl hbxf.facts.2.2.2.1 hbxf.facts.2.2.2.2.1, _, mp2, rfl, ?_, ?_, ?_⟩
    · rw [HP.out, ← HG.out]
      refine ownsRow_putObj ?_ _ hK8 rfl
      exact own_to (own_mono (own_set (own_set HO8.out (by simp; omega) _) (by simp; omega) _) (by simp; omega)) HN9.out.symm rfl
    · rw [HP.out]
      refine Tb.grown (((HT2.out.below hB08).set (by omega) hbx8.b3).set (by omega) (hbx8.b4.far (p := ⟨w.heap.size + 1 + 1 + 1, 0, none⟩) (by simp) _)) (grownBy_putObj' _ D _) (fun e => ?_) (fun r e o ho => ?_)
      · injection e with e; omega
      · cases e; rw [hK8] at ho; cases ho; rfl
    · exact ((((HR2.out.more hB08 hbase).grown_new (set_grown _ _ _ _) (fun r e => by cases e; omega) hbase).grown_new (set_grown _ _ _ _) (fun r e => by cases e; omega) hbase)).grown_new (grownBy_putObj' _ D _) (fun r e => by cases e; omega) hbase
  case stop =>
    rintro D k i W hD ⟨rfl, B, m, d, mp2, hBX, hO, hT2, hR2⟩ hK
    simp only [World.size_alloc] at hD
    gi_wp2
    refine ⟨by simp, .inl ⟨_, _, rfl, run_takeDeferred hK, ?_⟩⟩
    have hbxf := hBX.grown (grownBy_putObj' _ D (.deferred none)) (fun r e => by cases e; omega)
    refine ⟨_, put_results rfl rfl hbxf.facts.2.2.2.1 hbxf.facts.2.2.2.2.1, _, mp2, rfl, ownsRow_putObj hO _ hK rfl, ?_, hR2.grown_new (grownBy_putObj' _ D _) (fun r e => by cases e; omega) hbase⟩
    refine hT2.grown (grownBy_putObj' _ D _) (fun e => ?_) (fun r e o ho => ?_)
    · injection e with e; omega
    · cases e; rw [hK] at ho; cases ho; rfl
end Go.Proofs.Ytfekmolgiohegaa
