/- Texts of the proofs, merged. -/
import Derived.Test.YtpinhpnmnfcdoaaDoorG7
import Derived.Test.YtpinhpnmnfcdoaaDoorG4
import Derived.Test.YtpinhpnmnfcdoaaDoorG6
import Derived.Test.YtpinhpnmnfcdoaaDoorG3
import Derived.Deep.CutBlock
import Derived.Test.YtpinhpnmnfcdoaaDoorG1
import Derived.Test.YtpinhpnmnfcdoaaDoorShelf
import Derived.Lib.AppendIntMem
/- Put: a name written by a pointer where it can be: the walk. -/
namespace Go.Proofs.YtpinhpnmnfcdoaaDoor
open Go.RowKit Go.Shelf
attribute [local go_sem] Oper.semAt_some

theorem book_boxes {B b : Nat} {p A : Option Addr} {n c : Nat} {s : ByteArray} {v : Value} {e : Int} (hb : b + 5 ≤ B) : Book B (fun _ W => Boxes W b p A n c s v e) := fun _ W W' row hi hg hr => hi.grown hg (fun r e => by have := (hr r e).1; omega)
theorem put16_nil (q : Nat) (w : World) (hq : q < 65536) :
    Calls Tryd.prog 29 #[.slice none 0 0, .int .u16 q] w fun e w' => ∃ g cp, e = .returned (.slice (some ⟨g, 0, none⟩) 2 2) ∧ w'.ownsRow w.heap.size 5 1 (.slice (some ⟨g, 0, none⟩) 2 cp) 2 (bv (Oc.beb 2 q)) ∧ Below w.heap.size w w' :=
  put_u16 none [] 0 q w (Nat.le_refl 0) (by simp) hq 0 Bs.nil
theorem glue_front (ls : List (List UInt8)) (i : Nat) : (Nm.glue ls).take (Nm.body (ls.take i)).length = Nm.body (ls.take i) := by
  have e : Nm.glue ls = Nm.body (ls.take i) ++ Nm.glue (ls.drop i) := by
    unfold Nm.glue
    rw [← List.append_assoc, ← Nm.body_append, List.take_append_drop]
  rw [e, List.take_left]
theorem set_grown (W : World) (b i : Nat) (u : Value) : W.grownBy (W.setCell ⟨b, i, none⟩ u) (some b) := ⟨rfl, rfl, rfl, by simp, fun j _ hj => heap_setCell_other W ⟨b, i, none⟩ j u (fun e => hj (by rw [e]))⟩
theorem own_set {W : World} {base b i n : Nat} {e : TypeId} {v : Value} {xs : List Value} (h : W.ownsRow base e 1 v n xs) (hb : b < base) (u : Value) : (W.setCell ⟨b, i, none⟩ u).ownsRow base e 1 v n xs := by
  refine h.kept (set_grown W b i u) ?_
  rcases h.2 with ⟨rfl, _⟩ | ⟨g, cap, cur, rfl, hg, _⟩
  · exact .inl rfl
  · refine .inr fun e' => ?_
    have : g = b := by simpa [Value.ownBlock] using e'
    omega
/-- a round has left: the bytes are laid down. -/
def PutX (g base : Nat) (t : Tab) (l : List UInt8) (ls : List (List UInt8)) (w : World) (A : Option Addr) (c : Nat) (s : ByteArray) (k : Code) (_i : Nat) (W : World) : Prop :=
  k = .ret ∧ ∃ B m d mp', Boxes W w.heap.size (some ⟨g, 0, none⟩) A l.length c s (.slice B m d) 0 ∧ W.ownsRow w.heap.size 5 1 (.slice B m d) (l ++ (Pr.pw false t l.length ls).2).length (bv (l ++ (Pr.pw false t l.length ls).2)) ∧ Tb W g base mp' (Pr.pw false t l.length ls).1 ∧ Rg g base w W
theorem own_grown {W W' : World} {B b : Nat} {e : TypeId} {v : Value} {n : Nat} {xs : List Value} {row : Option Nat} (h : W.ownsRow b e 1 v n xs) (hg : W.grownBy W' row) (hr : ∀ r, row = some r → B ≤ r ∧ ∃ o : Obj, W.heap[r]? = some o ∧ isBook o = true) : W'.ownsRow b e 1 v n xs := by
  refine h.kept hg ?_
  rcases h.2 with ⟨rfl, _⟩ | ⟨g, cap, cur, rfl, _, hgb, _⟩
  · exact .inl rfl
  · refine .inr fun e' => ?_
    obtain ⟨_, o, ho, ho2⟩ := hr g (by simpa [Value.ownBlock] using e'.symm)
    rw [hgb] at ho; cases ho; cases ho2
theorem PutX.book {g base : Nat} {t : Tab} {l : List UInt8} {ls : List (List UInt8)} {w : World} {A : Option Addr} {c : Nat} {s : ByteArray} {B : Nat} (hB : w.heap.size + 5 ≤ B) (hg : g < w.heap.size) (hb : base ≤ w.heap.size) (k : Code) : Book B (PutX g base t l ls w A c s k) := by
  rintro i W W' row ⟨hk, B', m, d, mp, h1, h2, h3, h4⟩ hgr hr
  refine ⟨hk, B', m, d, mp, h1.grown hgr (fun r e => by have := (hr r e).1; omega), own_grown h2 hgr hr, h3.grown hgr (fun e => ?_) (fun r e o ho => ?_), h4.grown_new hgr (fun r e => ?_) hb⟩
  · have := (hr g e.symm).1; omega
  · obtain ⟨_, o', ho', hbk⟩ := hr r e
    rw [ho] at ho'
    cases ho'
    cases o <;> simp_all [isBook, isMapO]
  · have := (hr r e).1; omega

set_option maxRecDepth 100000 in
set_option maxHeartbeats 2000000 in
theorem put_in (g base : Nat) (mp : Option Nat) (t : Tab) (A : Option Addr) (l : List UInt8) (c : Nat) (s : ByteArray) (ls : List (List UInt8)) (w : World) (hT : Tb w g base mp t) (hbase : base ≤ w.heap.size)
    (hs : Nm.split s.data.toList = some ls) (_hc : l.length ≤ c) (hnil : A = none → c = 0) (hm : l.length ≤ 140737488355000) (hr : Bs w 0 w.heap.size A l) (ht : t.length ≤ 140737488354000) :
    Calls Tryd.prog 27 #[.pointer (some ⟨g, 0, none⟩), .slice A l.length c, .string s] w (PutDone false g base t l ls w) := by
  obtain ⟨hgl, hgd, h255⟩ := Nm.split_some.1 hs
  have hfew := few hs
  have hgw := hT.2.1.lt
  have hsz : s.size = (Nm.glue ls).length := by rw [← hgl]; simp
  have hs255 : s.size ≤ 255 := by rw [hsz, ← hgl]; exact h255
  have HC : Hid (Calls Tryd.prog 49 #[.pointer (some ⟨g, 0, none⟩), .string s] (PutW w (some ⟨g, 0, none⟩) A l.length c s 0) fun e w' => e = .returned (.int .i64 0) ∧ Below (w.heap.size + 5) (PutW w (some ⟨g, 0, none⟩) A l.length c s 0) w') := by
    have := pcheck_any g s (PutW w (some ⟨g, 0, none⟩) A l.length c s 0) (by omega)
    rw [hs, putW_size] at this
    exact this
  have mixed : Tryd.prog.follows .mixedOrders = true := by kernel_rfl
  refine (callsIn_wide (n := 4)).1 ?_
  refine callsIn_of_wp_marks Tryd.func27 rfl trivial ?_ rfl
  simp only [Tryd.ntmps27, List.size_toArray, List.length_cons, List.length_nil, Nat.reduceAdd, Nat.reduceSub, Array.replicate_succ, Array.replicate_zero, List.push_toArray, List.append_toArray, List.nil_append, List.cons_append]
  have HT := Lib.hid hT
  have HS := Lib.hid hs
  have HR := Lib.hid hr
  have HN := Lib.hid hnil
  have HZ := Lib.hid hsz
  have HG := Lib.hid hgl
  clear hT hs hgl hgd h255 hnil hr hsz
  gi_wp2_with (refine ⟨trivial, ?_⟩; gi_at_call 49; refine (callsIn_wide.2 HC.out).mono ?_; rintro e w2 ⟨rfl, hb2⟩; have hbx := Boxes.below (Boxes.new (p := some ⟨g, 0, none⟩) (A := A) (n := l.length) (c := c) (s := s) (e := 0) w) hb2 (Nat.le_refl _); have hbf2 := hbx.facts.2.2.1)
  gi_wp2_with (refine ⟨trivial, ?_⟩; gi_at_call 50; refine (callsIn_wide.2 (tails_any _ _)).mono ?_; rintro e w3 ⟨rfl, rfl⟩)
  have hbs2 := hb2.size
  rw [putW_size] at hbs2
  have hb03 : Below w.heap.size w (w2.alloc (.cells #[.string s] 48)) := ((putW_below w (some ⟨g, 0, none⟩) A l.length c s 0).trans (hb2.mono (by omega))).alloc (by omega) _
  have HX := Lib.hid (hbx.alloc (.cells #[.string s] 48))
  have HB3 := Lib.hid hb03
  clear hb2 hbx hbf2 hb03 HC
  refine wpIn_rangeFunc_N rfl (by omega) (gf := 74) (lb := #[.pointer (some ⟨w2.heap.size, 0, none⟩)]) rfl trivial (enters_of Tryd.func74 (by kernel_rfl) rfl) (lo := w2.heap.size) (by simp)
    (tails_seq 3 (by omega) w2.heap.size w2.heap.size s ls HS.out _ (Has.fresh w2 _ _) (Nat.le_refl _)) (fun _ => rfl)
    (fun i W => PlI false g base t l ls w i W ∧ Boxes W w.heap.size (some ⟨g, 0, none⟩) A l.length c s (.slice none 0 0) 0)
    (PutX g base t l ls w A c s)
    (book_and (PlI.book (by simp; omega) hgw hbase) (book_boxes (by simp; omega)))
    (PutX.book (by simp; omega) hgw hbase)
    ⟨⟨mp, t, HT.out.below HB3.out, Pr.Cont.zero _ _ _ _, Nat.le_refl _, Pr.Ahead.zero _ _, Rg.of_below HB3.out hbase⟩, HX.out⟩
    (fun i => { tmps := #[.pointer (some ⟨g, 0, none⟩), .slice A l.length c, .string s, .pointer (some ⟨w.heap.size, 0, none⟩), .pointer (some ⟨w.heap.size + 1, 0, none⟩), .pointer (some ⟨w.heap.size + 1 + 1, 0, none⟩), .pointer (some ⟨w.heap.size + 1 + 1 + 1, 0, none⟩), .pointer (some ⟨w.heap.size + 1 + 1 + 1 + 1, 0, none⟩), .int .i64 0,
      .int .i64 ((Nm.body (ls.take i)).length : Nat), sv (Nm.glue (ls.drop i)), undef, undef, .pointer (some ⟨g, 0, none⟩), .string s, .int .i64 0, .int .i64 0, .bool false, undef, .string s, .func (.func 74) #[] #[.pointer (some ⟨w2.heap.size, 0, none⟩)], .int .i64 ((Nm.body (ls.take i)).length : Nat), sv (Nm.glue (ls.drop i)), undef, undef, undef, undef, undef, undef, undef, undef, undef, undef, undef, undef,
      undef, undef, undef, undef, undef, undef, undef, undef, undef, undef, undef, undef, undef, undef, undef, undef, undef, undef, undef, undef], defers := [] }) ?assign ?body ?done ?stop
  case assign =>
    intro l2 i W K hK
    unfold tailV
    gi_wp2
    exact hK
  case body =>
    rintro l2 i W ⟨⟨mp2, T, hT2, hC2, hl2, hA2, hR2⟩, hBX⟩ hi
    have hsz2 := hR2.below.size
    have hbt : (Nm.body (ls.take i)).length ≤ 255 := by
      have h1 := Nm.body_take_le (ls := ls) (i := i)
      have h2 := HZ.out
      rw [Nm.glue_length] at h2
      omega
    have hbt2 : (Nm.body (ls.take i)).length ≤ s.size := by
      have h1 := Nm.body_take_le (ls := ls) (i := i)
      have h2 := HZ.out
      rw [Nm.glue_length] at h2
      omega
    have hgd : (Nm.glue (ls.drop i)).length ≤ 255 := by
      have h1 := glue_at ls i
      have h2 := congrArg List.length h1
      rw [List.length_drop] at h2
      have h3 := HZ.out
      omega
    have hlk := look_tb hT2 (s := ⟨(Nm.glue (ls.drop i)).toArray⟩) (by rw [mk_size]; omega)
    have hcg := hT2.cell
    obtain ⟨k0, k1, k2, k3, k4, z3, z4, k5⟩ := hBX.facts
    have HBX := Lib.hid hBX
    have HT2 := Lib.hid hT2
    have HR2 := Lib.hid hR2
    have HA2 := Lib.hid hA2
    have HC2 := Lib.hid hC2
    clear hBX hT2 hR2 hA2 hC2
    simp only at hlk
    by_cases hf : 0 ≤ findI T (Nm.glue (ls.drop i))
    · obtain ⟨p, hp⟩ : ∃ p : Nat, findI T (Nm.glue (ls.drop i)) = p := ⟨(findI T (Nm.glue (ls.drop i))).toNat, by omega⟩
      have hp16 : p ≤ 16383 := by have := findI_max (n := Nm.glue (ls.drop i)) HT2.out.2.2.1; omega
      rw [if_pos hf, decide_eq_true hf, hp] at hlk
      have HP : Hid (Pr.pw false t l.length ls = (T, Nm.body (ls.take i) ++ Oc.beb 2 (49152 + p))) := by
        have := HC2.out.ptr hi hf
        rw [hp] at this
        exact this
      clear hf hp
      dsimp only
      gi_wp2
      have hS0 : Below W.heap.size W W.drew := (Below.refl _ _).drew
      have hfront : (s.extract 0 (Nm.body (ls.take i)).length).data.toList = Nm.body (ls.take i) := by
        rw [extract_list, HG.out]
        exact glue_front ls i
      have HFR := Lib.hid hfront
      clear hfront
      have hlt := (HBX.out.b4).lt
      have hld1 : ∀ W', Below W.heap.size W W' → W'.cell? ⟨w.heap.size + 1, 0, none⟩ = some (.slice A l.length c) := fun W' h => (h.cell (p := ⟨w.heap.size + 1, 0, none⟩) (show w.heap.size + 1 < W.heap.size by omega)).trans k1
      have hld2 : ∀ W', Below W.heap.size W W' → W'.cell? ⟨w.heap.size + 1 + 1, 0, none⟩ = some (.string s) := fun W' h => (h.cell (p := ⟨w.heap.size + 1 + 1, 0, none⟩) (show w.heap.size + 1 + 1 < W.heap.size by omega)).trans k2
      have hSof : ∀ W', Below W.heap.size W W' → (W'.cell? ⟨w.heap.size + 1, 0, none⟩ = some (.slice A l.length c) ∧ W'.cell? ⟨w.heap.size + 1 + 1, 0, none⟩ = some (.string s)) := fun W' h => ⟨hld1 W' h, hld2 W' h⟩
      have hS00 := hSof _ hS0
      have h16 := or16 p hp16
      obtain ⟨q, hq⟩ : ∃ q : Nat, 49152 + p = q := ⟨_, rfl⟩
      have hq2 : q < 65536 := by omega
      rw [hq] at h16 HP
      clear hq
      have hz0 : (0 : Int) ≤ ((Nm.body (ls.take i)).length : Int) := by omega
      have hz1 : ((Nm.body (ls.take i)).length : Int) ≤ (s.size : Int) := by omega
      clear k0 k1 k2 k3 k4 z3 z4 k5 hlk hcg
      refine wpIn_region_S2 (S := fun W' => W'.cell? ⟨w.heap.size + 1, 0, none⟩ = some (.slice A l.length c) ∧ W'.cell? ⟨w.heap.size + 1 + 1, 0, none⟩ = some (.string s)) mixed 12 #[false, false, false, false, false, false, false, false, false, false, false, false] rfl rfl ?_
      refine wpAnyS_take (i := 0) (v := .slice A l.length c) rfl (by kernel_rfl) (by kernel_rfl) (by kernel_rfl) (by kernel_rfl) (fun _ _ _ h => h) ⟨Or.inl ⟨by rfl, fun W' hW' => (by have := hW'.1; go_simp)⟩, rfl, fun _ => rfl⟩ hS00 ?_
      simp only [Act.put, List.setIfInBounds_toArray, List.set_cons_zero]
      refine wpAnyS_take (i := 1) (v := .string s) rfl (by kernel_rfl) (by kernel_rfl) (by kernel_rfl) (by kernel_rfl) (fun _ _ _ h => h) ⟨Or.inl ⟨by rfl, fun W' hW' => (by have := hW'.2; go_simp)⟩, rfl, fun _ => rfl⟩ hS00 ?_
      simp only [Act.put, List.setIfInBounds_toArray, List.set_cons_zero, List.set_cons_succ]
      refine wpAnyS_take (i := 2) (v := .int .i64 ((Nm.body (ls.take i)).length : Nat)) rfl (by kernel_rfl) (by kernel_rfl) (by kernel_rfl) (by kernel_rfl) (fun _ _ _ h => h) ⟨Or.inl ⟨by rfl, fun W' hW' => (by go_simp)⟩, rfl, fun _ => rfl⟩ hS00 ?_
      simp only [Act.put, List.setIfInBounds_toArray, List.set_cons_zero, List.set_cons_succ]
      refine wpAnyS_take (i := 3) (v := .string (s.extract 0 (Nm.body (ls.take i)).length)) rfl (by kernel_rfl) (by kernel_rfl) (by kernel_rfl) (by kernel_rfl) (fun _ _ _ h => h) ⟨Or.inl ⟨by rfl, fun W' hW' => (by go_simp)⟩, rfl, fun _ => rfl⟩ hS00 ?_
      simp only [Act.put, List.setIfInBounds_toArray, List.set_cons_zero, List.set_cons_succ]
      refine wpAnyS_take (i := 5) (v := .int .u16 p) rfl (by kernel_rfl) (by kernel_rfl) (by kernel_rfl) (by kernel_rfl) (fun _ _ _ h => h) ⟨Or.inl ⟨by rfl, fun W' hW' => (by go_simp)⟩, rfl, fun _ => rfl⟩ hS00 ?_
      simp only [Act.put, List.setIfInBounds_toArray, List.set_cons_zero, List.set_cons_succ]
      refine wpAnyS_take (i := 6) (v := .int .u16 (q : Int)) rfl (by kernel_rfl) (by kernel_rfl) (by kernel_rfl) (by kernel_rfl) (fun _ _ _ h => h) ⟨Or.inl ⟨by rfl, fun W' hW' => (by rw [← h16]; go_simp)⟩, rfl, fun _ => rfl⟩ hS00 ?_
      simp only [Act.put, List.setIfInBounds_toArray, List.set_cons_zero, List.set_cons_succ]
      refine wpAnyS_ready (rs := [4, 7]) (by kernel_rfl) (by simp) ?_
      refine AllS.cons rfl rfl (fun K hK => ?_) (AllS.cons rfl rfl (fun K hK => ?_) AllS.nil)
      · obtain ⟨cap6, w6, hr6, hb6, hcap6, hbl6, hsz6⟩ := run_bytes_new (P := Tryd.prog) W.drew 48 52 5 (s.extract 0 (Nm.body (ls.take i)).length) Tryd.underlying48 Tryd.underlying52 Tryd.underlying5
        go_simp
        have hS6 : Below W.heap.size W w6 := hS0.trans hbl6
        have hz6 : w6.heap.size = W.heap.size + 1 := hsz6
        have hb66 : Bs w6 W.heap.size (W.heap.size + 1) (some ⟨W.heap.size, 0, none⟩) (Nm.body (ls.take i)) := by have := hb6; rw [HFR.out] at this; exact this
        clear hb6 hsz6 hbl6
        refine hK _ _ (hSof _ hS6) ?_
        clear hK K hr6
        refine wpAnyS_ready (rs := [7]) (by kernel_rfl) (by simp) (AllS.cons rfl rfl (fun K hK => ?_) AllS.nil)
        go_simp
        refine ⟨trivial, (CallsIn.inRound l2 (callsIn_wide.2 (put16_nil q w6 hq2))).mono ?_⟩
        rintro e w7 ⟨g7, cp7, rfl, hO7, hB7⟩
        have hs67 := hB7.size
        have hS7 : Below W.heap.size W w7 := hS6.trans (hB7.mono (by omega))
        have hbp := (Bs.of_own hO7).more (Nat.zero_le _) (Nat.le_refl _)
        have hbb := (hb66.keep (hB7.mono (by omega))).more (Nat.zero_le _) (by omega : _ ≤ w7.heap.size)
        refine hK _ _ (hSof _ hS7) ?_
        clear hK K hO7 hB7 hb66
        refine wpAnyS_ready (rs := [8]) (by kernel_rfl) (by simp) (AllS.cons rfl rfl (fun K hK => ?_) AllS.nil)
        go_simp
        have hS8 := hS7.alloc (Nat.le_trans (Nat.le_refl _) hS7.size) (.cells #[.slice A l.length c, .slice (some ⟨W.heap.size, 0, none⟩) (Nm.body (ls.take i)).length cap6, .slice (some ⟨g7, 0, none⟩) 2 2] 52)
        have hF := Has.fresh w7 52 #[.slice A l.length c, .slice (some ⟨W.heap.size, 0, none⟩) (Nm.body (ls.take i)).length cap6, .slice (some ⟨g7, 0, none⟩) 2 2]
        have hcat := concat3 w7.heap.size A (some ⟨W.heap.size, 0, none⟩) (some ⟨g7, 0, none⟩) c cap6 2 l.length (Nm.body (ls.take i)).length 2 l (Nm.body (ls.take i)) (Oc.beb 2 q) (w7.alloc (.cells #[.slice A l.length c, .slice (some ⟨W.heap.size, 0, none⟩) (Nm.body (ls.take i)).length cap6, .slice (some ⟨g7, 0, none⟩) 2 2] 52))
          (by simp) (by rw [hF.cell]; rfl) (by rw [hF.cell]; rfl) (by rw [hF.cell]; rfl) rfl rfl (by simp [Oc.beb])
          ((((HR2.out.bs HT.out HR.out).more (Nat.le_refl _) hsz2).keep hS8).more (Nat.le_refl _) hS8.size) ((hbb.alloc (Nat.le_refl _) _).more (Nat.le_refl _) (by simp)) ((hbp.alloc (Nat.le_refl _) _).more (Nat.le_refl _) (by simp)) HN.out (fun e => by cases e) (fun e => by cases e) (by simp [Oc.beb]; omega)
        have HCAT := Lib.hid hcat
        clear hF hcat hbb hbp
        refine hK _ _ (hSof _ hS8) ?_
        clear hK K
        refine wpAnyS_ready (rs := [9]) (by kernel_rfl) (by simp) (AllS.cons rfl rfl (fun K hK => ?_) AllS.nil)
        go_simp
        refine ⟨trivial, ?_⟩
        (with_reducible refine (CallsIn.inRound l2 (callsIn_wide.2 HCAT.out)).mono ?_)
        rintro e w9 ⟨v9, rfl, hO9, hB9⟩
        obtain ⟨n9, hn9⟩ : ∃ n9, (l ++ (Nm.body (ls.take i) ++ Oc.beb 2 q)).length = n9 := ⟨_, rfl⟩
        rw [hn9] at hO9
        have HN9 := Lib.hid hn9
        clear hn9
        obtain ⟨A9, d9, rfl⟩ := own_form hO9
        have HO9 := Lib.hid hO9
        clear hO9
        have hS9 : Below W.heap.size W w9 := hS8.trans (hB9.mono hS8.size)
        have hsz8 := hS8.size
        have hsz7 := hS7.size
        have hbx9 := Boxes.below HBX.out hS9 (by omega)
        obtain ⟨k0, k1, k2, k3, k4, z3, z4, k5⟩ := hbx9.facts
        refine hK _ _ (hSof _ hS9) ?_
        clear hK K
        refine wpAnyS_ready (rs := [10]) (by kernel_rfl) (by simp) (AllS.cons rfl rfl (fun K hK => ?_) AllS.nil)
        go_simp
        refine hK _ _ ⟨by rw [(hbx9.b1.far (p := ⟨w.heap.size + 1 + 1 + 1, 0, none⟩) (by simp) _).cell]; rfl, by rw [(hbx9.b2.far (p := ⟨w.heap.size + 1 + 1 + 1, 0, none⟩) (by simp) _).cell]; rfl⟩ ?_
        clear hK K
        refine wpAnyS_ready (rs := [11]) (by kernel_rfl) (by simp) (AllS.cons rfl rfl (fun K hK => ?_) AllS.nil)
        go_simp
        have hbx := hbx9.set (.slice A9 n9 d9) 0
        refine hK _ _ ⟨hbx.facts.2.1, hbx.facts.2.2.1⟩ ?_
        clear hK K
        refine wpAnyS_done (by kernel_rfl) ?_ _
        clear k0 k1 k2 k3 k4 z3 z4 k5
        gi_wp2
        have hlt9 := hS9.size
        refine ⟨((Keeps.of_below hS9 (Nat.le_refl _)).trans (Keeps.setCell _ (by simp; omega))).trans (Keeps.setCell _ (by simp; omega)), rfl, A9, n9, d9, mp2, hbx, ?_, ?_, ?_⟩
        · rw [HP.out]
          exact own_to (own_mono (own_set (own_set HO9.out (by simp; omega) _) (by simp; omega) _) (by simp; omega)) HN9.out.symm rfl
        · rw [HP.out]
          exact ((HT2.out.below hS9).set (by omega) hbx9.b3).set (by omega) (hbx9.b4.far (p := ⟨w.heap.size + 1 + 1 + 1, 0, none⟩) (by simp) _)
        · exact (((HR2.out.more hS9 hbase).grown_new (set_grown _ _ _ _) (fun r e => by cases e; omega) hbase).grown_new (set_grown _ _ _ _) (fun r e => by cases e; omega) hbase)
      · go_simp
        refine ⟨trivial, (CallsIn.inRound l2 (callsIn_wide.2 (put16_nil q W.drew hq2))).mono ?_⟩
        rintro e w6 ⟨g7, cp7, rfl, hO6, hB6⟩
        have hS6 : Below W.heap.size W w6 := hS0.trans hB6
        have hs6 := hS6.size
        refine hK _ _ (hSof _ hS6) ?_
        clear hK K
        refine wpAnyS_ready (rs := [4]) (by kernel_rfl) (by simp) (AllS.cons rfl rfl (fun K hK => ?_) AllS.nil)
        obtain ⟨cap6, w7, hr6, hb6, hcap6, hbl6, hsz6⟩ := run_bytes_new (P := Tryd.prog) w6 48 52 5 (s.extract 0 (Nm.body (ls.take i)).length) Tryd.underlying48 Tryd.underlying52 Tryd.underlying5
        go_simp
        have hS7 : Below W.heap.size W w7 := hS6.trans (hbl6.mono hs6)
        have hbp := ((Bs.of_own hO6).more (Nat.zero_le _) (Nat.le_refl _)).keep hbl6
        have hbp := hbp.more (Nat.le_refl _) (by omega : _ ≤ w7.heap.size)
        have hbb : Bs w7 0 w7.heap.size (some ⟨w6.heap.size, 0, none⟩) (Nm.body (ls.take i)) := by have := hb6.more (Nat.zero_le _) (by omega : _ ≤ w7.heap.size); rw [HFR.out] at this; exact this
        refine hK _ _ (hSof _ hS7) ?_
        have hs67 : w6.heap.size + 1 ≤ w7.heap.size := by omega
        clear hK K hO6 hB6 hb6 hr6 hbl6 hsz6
        refine wpAnyS_ready (rs := [8]) (by kernel_rfl) (by simp) (AllS.cons rfl rfl (fun K hK => ?_) AllS.nil)
        go_simp
        have hS8 := hS7.alloc (Nat.le_trans (Nat.le_refl _) hS7.size) (.cells #[.slice A l.length c, .slice (some ⟨w6.heap.size, 0, none⟩) (Nm.body (ls.take i)).length cap6, .slice (some ⟨g7, 0, none⟩) 2 2] 52)
        have hF := Has.fresh w7 52 #[.slice A l.length c, .slice (some ⟨w6.heap.size, 0, none⟩) (Nm.body (ls.take i)).length cap6, .slice (some ⟨g7, 0, none⟩) 2 2]
        have hcat := concat3 w7.heap.size A (some ⟨w6.heap.size, 0, none⟩) (some ⟨g7, 0, none⟩) c cap6 2 l.length (Nm.body (ls.take i)).length 2 l (Nm.body (ls.take i)) (Oc.beb 2 q) (w7.alloc (.cells #[.slice A l.length c, .slice (some ⟨w6.heap.size, 0, none⟩) (Nm.body (ls.take i)).length cap6, .slice (some ⟨g7, 0, none⟩) 2 2] 52))
          (by simp) (by rw [hF.cell]; rfl) (by rw [hF.cell]; rfl) (by rw [hF.cell]; rfl) rfl rfl (by simp [Oc.beb])
          ((((HR2.out.bs HT.out HR.out).more (Nat.le_refl _) hsz2).keep hS8).more (Nat.le_refl _) hS8.size) ((hbb.alloc (Nat.le_refl _) _).more (Nat.le_refl _) (by simp)) ((hbp.alloc (Nat.le_refl _) _).more (Nat.le_refl _) (by simp)) HN.out (fun e => by cases e) (fun e => by cases e) (by simp [Oc.beb]; omega)
        have HCAT := Lib.hid hcat
        clear hF hcat hbb hbp
        refine hK _ _ (hSof _ hS8) ?_
        clear hK K
        refine wpAnyS_ready (rs := [9]) (by kernel_rfl) (by simp) (AllS.cons rfl rfl (fun K hK => ?_) AllS.nil)
        go_simp
        refine ⟨trivial, ?_⟩
        (with_reducible refine (CallsIn.inRound l2 (callsIn_wide.2 HCAT.out)).mono ?_)
        rintro e w9 ⟨v9, rfl, hO9, hB9⟩
        obtain ⟨n9, hn9⟩ : ∃ n9, (l ++ (Nm.body (ls.take i) ++ Oc.beb 2 q)).length = n9 := ⟨_, rfl⟩
        rw [hn9] at hO9
        have HN9 := Lib.hid hn9
        clear hn9
        obtain ⟨A9, d9, rfl⟩ := own_form hO9
        have HO9 := Lib.hid hO9
        clear hO9
        have hS9 : Below W.heap.size W w9 := hS8.trans (hB9.mono hS8.size)
        have hsz8 := hS8.size
        have hsz7 := hS7.size
        have hbx9 := Boxes.below HBX.out hS9 (by omega)
        obtain ⟨k0, k1, k2, k3, k4, z3, z4, k5⟩ := hbx9.facts
        refine hK _ _ (hSof _ hS9) ?_
        clear hK K
        refine wpAnyS_ready (rs := [10]) (by kernel_rfl) (by simp) (AllS.cons rfl rfl (fun K hK => ?_) AllS.nil)
        go_simp
        refine hK _ _ ⟨by rw [(hbx9.b1.far (p := ⟨w.heap.size + 1 + 1 + 1, 0, none⟩) (by simp) _).cell]; rfl, by rw [(hbx9.b2.far (p := ⟨w.heap.size + 1 + 1 + 1, 0, none⟩) (by simp) _).cell]; rfl⟩ ?_
        clear hK K
        refine wpAnyS_ready (rs := [11]) (by kernel_rfl) (by simp) (AllS.cons rfl rfl (fun K hK => ?_) AllS.nil)
        go_simp
        have hbx := hbx9.set (.slice A9 n9 d9) 0
        refine hK _ _ ⟨hbx.facts.2.1, hbx.facts.2.2.1⟩ ?_
        clear hK K
        refine wpAnyS_done (by kernel_rfl) ?_ _
        clear k0 k1 k2 k3 k4 z3 z4 k5
        gi_wp2
        have hlt9 := hS9.size
        refine ⟨((Keeps.of_below hS9 (Nat.le_refl _)).trans (Keeps.setCell _ (by simp; omega))).trans (Keeps.setCell _ (by simp; omega)), rfl, A9, n9, d9, mp2, hbx, ?_, ?_, ?_⟩
        · rw [HP.out]
          exact own_to (own_mono (own_set (own_set HO9.out (by simp; omega) _) (by simp; omega) _) (by simp; omega)) HN9.out.symm rfl
        · rw [HP.out]
          exact ((HT2.out.below hS9).set (by omega) hbx9.b3).set (by omega) (hbx9.b4.far (p := ⟨w.heap.size + 1 + 1 + 1, 0, none⟩) (by simp) _)
        · exact (((HR2.out.more hS9 hbase).grown_new (set_grown _ _ _ _) (fun r e => by cases e; omega) hbase).grown_new (set_grown _ _ _ _) (fun r e => by cases e; omega) hbase)
    · rw [if_neg hf, decide_eq_false hf] at hlk
      have hrem := remember_any g base mp2 T ⟨(Nm.glue (ls.drop i)).toArray⟩ (l.length + (Nm.body (ls.take i)).length) W HT2.out (by omega) (by rw [mk_size]; omega) (by omega) (by omega)
      rw [Int.natCast_add] at hrem
      have HREM := Lib.hid hrem
      have HF := Lib.hid hf
      clear hrem hf
      dsimp only
      gi_wp2_with (refine ⟨trivial, ?_⟩; gi_at_call 51; refine (CallsIn.inRound l2 (callsIn_wide.2 HREM.out)).mono ?_; rintro e w5 ⟨rfl, mp5, hT5, hR5⟩)
      have hlen := Pr.rem_len T (Nm.glue (ls.drop i)) (l.length + (Nm.body (ls.take i)).length)
      exact ⟨hR5.keeps (by omega), ⟨mp5, _, hT5, HC2.out.step hi (fun h => absurd h.1 (Int.not_le.2 HF.out)), by omega, HA2.out.step hi, HR2.out.trans hR5⟩, HBX.out.rg hR5 hgw⟩
  case done =>
    rintro D W hD ⟨⟨mp2, T, hT2, hC2, hl2, hA2, hR2⟩, hBX⟩ hK
    obtain ⟨k0, k1, k2, k3, k4, z3, z4, k5⟩ := hBX.facts
    have hsz2 := hR2.below.size
    have hlt := hBX.b4.lt
    have hDl := (Array.getElem?_eq_some_iff.1 hK).1
    simp only [World.size_alloc] at hD
    have HK := Lib.hid hK
    have HT2 := Lib.hid hT2
    have HP := Lib.hid hC2.done
    have HR2 := Lib.hid hR2
    have HBX := Lib.hid hBX
    have HB := Lib.hid ((hR2.bs HT.out HR.out).more (Nat.le_refl _) hsz2)
    clear hK hT2 hC2 hA2 hR2 hBX k0 k3 k4 z3 z4 k5
    dsimp only
    gi_wp2_with (refine wpListIn_bytes rfl 48 52 (.tmp 51) rfl 5 Tryd.underlying48 Tryd.underlying52 Tryd.underlying5 s rfl ?_; intro cap w6 hb6 hcap6 hbl6 hsz6)
    have hF := Has.fresh w6 52 #[.slice A l.length c, .slice (some ⟨W.heap.size, 0, none⟩) s.size cap]
    rw [hsz6] at hF
    have hsl : s.size = s.data.toList.length := by simp
    have hbl7 : Below W.heap.size W (w6.alloc (.cells #[.slice A l.length c, .slice (some ⟨W.heap.size, 0, none⟩) s.size cap] 52)) := hbl6.alloc (by omega) _
    have hcat := concat2 (W.heap.size + 1) A (some ⟨W.heap.size, 0, none⟩) c cap l.length s.size l s.data.toList (w6.alloc (.cells #[.slice A l.length c, .slice (some ⟨W.heap.size, 0, none⟩) s.size cap] 52))
      (by simp; omega) (by rw [hF.cell]; rfl) (by rw [hF.cell]; rfl) rfl hsl ((HB.out.keep hbl7).more (Nat.le_refl _) (by simp; omega)) ((hb6.alloc (by omega) _).more (Nat.zero_le _) (by simp; omega)) HN.out (fun e => by cases e) (by rw [List.length_append, ← hsl]; omega)
    have HCAT := Lib.hid hcat
    have HB7 := Lib.hid hbl7
    clear hb6 hF hcat hsl hbl6 hbl7
    gi_wp2_with (refine ⟨trivial, ?_⟩; gi_at_call 26; refine (callsIn_wide.2 HCAT.out).mono ?_; rintro e w8 ⟨v8, rfl, hO8, hB8⟩; obtain ⟨n9, hn9⟩ : ∃ n9, (l ++ s.data.toList).length = n9 := ⟨_, rfl⟩; rw [hn9] at hO8; have HN9 := Lib.hid hn9; clear hn9; obtain ⟨A9, d9, rfl⟩ := own_form hO8; have HO8 := Lib.hid hO8; clear hO8; have HB8 := Lib.hid hB8; have hbx8 := Boxes.below HBX.out (HB7.out.trans (hB8.mono (by simp; omega))) (by omega); clear hB8; obtain ⟨k0, k1', k2', k3, k4, z3, z4, k5⟩ := hbx8.facts)
    have hsz8 := HB8.out.size
    simp only [World.size_alloc] at hsz8
    have hB08 : Below W.heap.size W w8 := HB7.out.trans (HB8.out.mono (by simp; omega))
    have hbx := hbx8.set (.slice A9 n9 d9) 0
    have hK8 : ((w8.setCell ⟨w.heap.size + 1 + 1 + 1, 0, none⟩ (.slice A9 n9 d9)).setCell ⟨w.heap.size + 1 + 1 + 1 + 1, 0, none⟩ (.int .i64 0)).heap[D]? = some (.deferred (some [])) := by
      rw [heap_setCell_other _ _ _ _ (by show D ≠ w.heap.size + 1 + 1 + 1 + 1; omega), heap_setCell_other _ _ _ _ (by show D ≠ w.heap.size + 1 + 1 + 1; omega)]
      exact (hB08.block D hDl).trans HK.out
    refine ⟨by simp, .inl ⟨_, _, rfl, run_takeDeferred hK8, ?_⟩⟩
    have hbxf := hbx.grown (grownBy_putObj' _ D (.deferred none)) (fun r e => by cases e; omega)
    refine ⟨_, put_results rfl rfl hbxf.facts.2.2.2.1 hbxf.facts.2.2.2.2.1, _, mp2, rfl, ?_, ?_, ?_⟩
    · rw [HP.out, ← HG.out]
      refine ownsRow_putObj ?_ _ hK8 rfl
      exact own_to (own_mono (own_set (own_set HO8.out (by simp; omega) _) (by simp; omega) _) (by simp; omega)) HN9.out.symm rfl
    · rw [HP.out]
      refine Tb.grown (((HT2.out.below hB08).set (by omega) hbx8.b3).set (by omega) (hbx8.b4.far (p := ⟨w.heap.size + 1 + 1 + 1, 0, none⟩) (by simp) _)) (grownBy_putObj' _ D _) (fun e => ?_) (fun r e o ho => ?_)
      · injection e with e; omega
      · cases e; rw [hK8] at ho; cases ho; rfl
    · exact ((((HR2.out.more hB08 hbase).grown_new (set_grown _ _ _ _) (fun r e => by cases e; omega) hbase).grown_new (set_grown _ _ _ _) (fun r e => by cases e; omega) hbase)).grown_new (grownBy_putObj' _ D _) (fun r e => by cases e; omega) hbase
  case stop =>
    rintro D k i W hD ⟨rfl, B, m, d, mp2, hBX, hO, hT2, hR2⟩ hK
    simp only [World.size_alloc] at hD
    gi_wp2
    refine ⟨by simp, .inl ⟨_, _, rfl, run_takeDeferred hK, ?_⟩⟩
    have hbxf := hBX.grown (grownBy_putObj' _ D (.deferred none)) (fun r e => by cases e; omega)
    refine ⟨_, put_results rfl rfl hbxf.facts.2.2.2.1 hbxf.facts.2.2.2.2.1, _, mp2, rfl, ownsRow_putObj hO _ hK rfl, ?_, hR2.grown_new (grownBy_putObj' _ D _) (fun r e => by cases e; omega) hbase⟩
    refine hT2.grown (grownBy_putObj' _ D _) (fun e => ?_) (fun r e o ho => ?_)
    · injection e with e; omega
    · cases e; rw [hK] at ho; cases ho; rfl
end Go.Proofs.YtpinhpnmnfcdoaaDoor
/- Put: the program's, any type. -/
namespace Go.Proofs.YtpinhpnmnfcdoaaDoor
open Go.RowKit

/-- a value that is a slice of these bytes. -/
def RdS (W : World) (v : Value) (l : List UInt8) : Prop := ∃ A c, v = .slice A l.length c ∧ l.length ≤ c ∧ (A = none → c = 0) ∧ Bs W 0 W.heap.size A l
theorem rds_own {W : World} {b : Nat} {v : Value} {l : List UInt8} (h : W.ownsRow b 5 1 v l.length (bv l)) : RdS W v l := by
  obtain ⟨A, c, rfl⟩ := own_form h
  refine ⟨A, c, rfl, ?_, fun hA => ?_, (Bs.of_own h).more (Nat.zero_le _) (Nat.le_refl _)⟩
  · rcases h.2 with ⟨hv, h0⟩ | ⟨g, cap, cur, hv, _, _, hc, _⟩
    · injection hv with _ _ h3; omega
    · injection hv with _ _ h3; omega
  · subst hA
    rcases h.2 with ⟨hv, _⟩ | ⟨g, cap, cur, hv, _⟩
    · injection hv
    · injection hv with h1; cases h1
theorem rds_tight {W : World} {b g cp : Nat} {l : List UInt8} (h : W.ownsRow b 5 1 (.slice (some ⟨g, 0, none⟩) l.length cp) l.length (bv l)) : RdS W (.slice (some ⟨g, 0, none⟩) l.length l.length) l :=
  ⟨_, _, rfl, Nat.le_refl _, (fun e => by cases e), (Bs.of_own h).more (Nat.zero_le _) (Nat.le_refl _)⟩
/-- a row of the call's own, perhaps cut at its end. -/
def RowO (W : World) (b : Nat) (v : Value) (l : List UInt8) : Prop :=
  W.ownsRow b 5 1 v l.length (bv l) ∨ ∃ g cp, v = .slice (some ⟨g, 0, none⟩) l.length l.length ∧ W.ownsRow b 5 1 (.slice (some ⟨g, 0, none⟩) l.length cp) l.length (bv l)
theorem RowO.rds {W : World} {b : Nat} {v : Value} {l : List UInt8} (h : RowO W b v l) : RdS W v l := by
  rcases h with h | ⟨g, cp, rfl, h⟩
  · exact rds_own h
  · exact rds_tight h
theorem RowO.mono {W : World} {b b' : Nat} {v : Value} {l : List UInt8} (h : RowO W b v l) (hb : b' ≤ b) : RowO W b' v l := by
  rcases h with h | ⟨g, cp, rfl, h⟩
  · exact .inl (own_mono h hb)
  · exact .inr ⟨g, cp, rfl, own_mono h hb⟩
theorem RowO.below {W W' : World} {b : Nat} {v : Value} {l : List UInt8} (h : RowO W b v l) (hb : Below W.heap.size W W') : RowO W' b v l := by
  rcases h with h | ⟨g, cp, rfl, h⟩
  · exact .inl (own_below h hb (Nat.le_refl _))
  · exact .inr ⟨g, cp, rfl, own_below h hb (Nat.le_refl _)⟩
/-- while the parts of data are being written. -/
def PuP (w1 : World) (g base gd : Nat) (T : Tab) (l : List UInt8) (d : Dv) (hl ml : List (List UInt8)) (ps : List Nat) (v : Value) (W : World) : Prop :=
  ∃ mp, RdS W v (Rd.wrs T l d.dt hl ml ps).2.1 ∧ Tb W g base mp (Rd.wrs T l d.dt hl ml ps).1 ∧ Rg g base w1 W ∧ Has W gd 51 d.cells ∧ w1.heap.size ≤ W.heap.size ∧
    (Rd.wrs T l d.dt hl ml ps).2.1.length ≤ l.length + 70000 * ps.length ∧ (Rd.wrs T l d.dt hl ml ps).1.length ≤ T.length + 200 * ps.length ∧ ((∃ p ∈ ps, p ≠ 0) → RowO W w1.heap.size v (Rd.wrs T l d.dt hl ml ps).2.1)
section
variable {w1 W W' : World} {g base gd : Nat} {T : Tab} {l : List UInt8} {d : Dv} {hl ml : List (List UInt8)} {ps : List Nat} {v v' : Value}
/-- bytes that were put behind, the table as it was. -/
theorem pup_low (h : PuP w1 g base gd T l d hl ml ps v W) (hb : base ≤ w1.heap.size) (k : Below W.heap.size W W') (p : Nat) (x : List UInt8) (hx : x.length ≤ 70000)
    (he : Rd.wr1 d.dt hl ml (Rd.nums ps) p (Rd.wrs T l d.dt hl ml ps).1 (Rd.wrs T l d.dt hl ml ps).2.1 = ((Rd.wrs T l d.dt hl ml ps).1, (Rd.wrs T l d.dt hl ml ps).2.1 ++ x))
    (hv : RowO W' W.heap.size v' ((Rd.wrs T l d.dt hl ml ps).2.1 ++ x)) : PuP w1 g base gd T l d hl ml (ps ++ [p]) v' W' := by
  obtain ⟨mp, _, h2, h3, h4, h5, h6, h7, _⟩ := h
  have hs := Rd.wrs_snoc T l d.dt hl ml ps p
  rw [he] at hs
  refine ⟨mp, by rw [hs.2]; exact hv.rds, by rw [hs.1]; exact h2.below k, h3.more k hb, h4.below k h4.lt, Nat.le_trans h5 k.size, ?_, ?_, fun _ => by rw [hs.2]; exact hv.mono h5⟩
  · rw [hs.2]; simp only [List.length_append, List.length_cons, List.length_nil]; omega
  · rw [hs.1]; simp only [List.length_append, List.length_cons, List.length_nil]; omega
theorem pup_same (h : PuP w1 g base gd T l d hl ml ps v W) (p : Nat) (hp : p = 0)
    (he : Rd.wr1 d.dt hl ml (Rd.nums ps) p (Rd.wrs T l d.dt hl ml ps).1 (Rd.wrs T l d.dt hl ml ps).2.1 = ((Rd.wrs T l d.dt hl ml ps).1, (Rd.wrs T l d.dt hl ml ps).2.1)) : PuP w1 g base gd T l d hl ml (ps ++ [p]) v W := by
  obtain ⟨mp, h1, h2, h3, h4, h5, h6, h7, h8⟩ := h
  have hs := Rd.wrs_snoc T l d.dt hl ml ps p
  rw [he] at hs
  refine ⟨mp, by rw [hs.2]; exact h1, by rw [hs.1]; exact h2, h3, h4, h5, ?_, ?_, fun ⟨q, hq, hq0⟩ => by rw [hs.2]; exact h8 ⟨q, (List.mem_append.1 hq).resolve_right (fun e => hq0 ((List.mem_singleton.1 e).trans hp)), hq0⟩⟩
  · rw [hs.2]; simp only [List.length_append, List.length_cons, List.length_nil]; omega
  · rw [hs.1]; simp only [List.length_append, List.length_cons, List.length_nil]; omega
/-- a name that was put behind. -/
theorem pup_name (h : PuP w1 g base gd T l d hl ml ps v W) (hne : gd ≠ g) (plain : Bool) (ls : List (List UInt8)) (hg : Nm.Good ls) (h255 : (Nm.glue ls).length ≤ 255) (p : Nat)
    (he : Rd.wr1 d.dt hl ml (Rd.nums ps) p (Rd.wrs T l d.dt hl ml ps).1 (Rd.wrs T l d.dt hl ml ps).2.1 = ((Pr.pw plain (Rd.wrs T l d.dt hl ml ps).1 (Rd.wrs T l d.dt hl ml ps).2.1.length ls).1, (Rd.wrs T l d.dt hl ml ps).2.1 ++ (Pr.pw plain (Rd.wrs T l d.dt hl ml ps).1 (Rd.wrs T l d.dt hl ml ps).2.1.length ls).2))
    {e : Ending} (hd : PutDone plain g base (Rd.wrs T l d.dt hl ml ps).1 (Rd.wrs T l d.dt hl ml ps).2.1 ls W e W') : ∃ v', e = .returned (.tuple #[v', .int .i64 0]) ∧ PuP w1 g base gd T l d hl ml (ps ++ [p]) v' W' := by
  obtain ⟨mp, _, h2, h3, h4, h5, h6, h7, _⟩ := h
  obtain ⟨v', mp', he2, k1, k2, k3⟩ := hd
  have hs := Rd.wrs_snoc T l d.dt hl ml ps p
  rw [he] at hs
  have p3 := (Pr.pw_len plain ls (Rd.wrs T l d.dt hl ml ps).1 (Rd.wrs T l d.dt hl ml ps).2.1.length).2.2.1 hg
  have p4 := Pr.pw_tab plain ls (Rd.wrs T l d.dt hl ml ps).1 (Rd.wrs T l d.dt hl ml ps).2.1.length
  have hc := Nm.good_count hg
  have hgl := Nm.glue_length ls
  refine ⟨v', he2, mp', by rw [hs.2]; exact rds_own k1, by rw [hs.1]; exact k2, h3.trans k3, k3.has h4 hne, Nat.le_trans h5 k3.below.size, ?_, ?_, fun _ => by rw [hs.2]; exact .inl (own_mono k1 h5)⟩
  · rw [hs.2]; simp only [List.length_append, List.length_cons, List.length_nil]; omega
  · rw [hs.1]; simp only [List.length_append, List.length_cons, List.length_nil]; omega
end
end Go.Proofs.YtpinhpnmnfcdoaaDoor
/- Put: the program's, any type: the walk. -/
namespace Go.Proofs.YtpinhpnmnfcdoaaDoor
open Go.RowKit

theorem rd_hasN2 (d : Dv) {n : Nat} (h : n < 5) : Rd.hasN d.dt n = d.n n := by
  rcases (by omega : n = 0 ∨ n = 1 ∨ n = 2 ∨ n = 3 ∨ n = 4) with rfl | rfl | rfl | rfl | rfl <;> rfl
theorem rds_tight2 {W : World} {b g cp m : Nat} {l : List UInt8} (h : W.ownsRow b 5 1 (.slice (some ⟨g, 0, none⟩) m cp) m (bv l)) (hm : m = l.length) : RowO W b (.slice (some ⟨g, 0, none⟩) m m) l := by
  subst hm
  exact .inr ⟨_, _, rfl, h⟩
theorem concat_raw {wr w3 : World} {A' : Option Addr} {c' c3 n3 : Nat} {l2 r : List UInt8} (h : Bs wr 0 wr.heap.size A' l2) (n0 : A' = none → c' = 0) (b3 : Bs w3 wr.heap.size (wr.heap.size + 1) (some ⟨wr.heap.size, 0, none⟩) r) (hr : n3 = r.length)
    (B3 : Below wr.heap.size wr w3) (z3 : w3.heap.size = wr.heap.size + 1) (hm : (l2 ++ r).length ≤ 140737488355328) (et : TypeId) :
    Calls Tryd.prog 26 #[.slice (some ⟨w3.heap.size, 0, none⟩) 2 2] (w3.alloc (.cells #[.slice A' l2.length c', .slice (some ⟨wr.heap.size, 0, none⟩) n3 c3] et)) fun e w' => ∃ v, e = .returned v ∧ RowO w' wr.heap.size v (l2 ++ r) ∧ Below wr.heap.size wr w' := by
  have hX := Has.fresh w3 et #[.slice A' l2.length c', .slice (some ⟨wr.heap.size, 0, none⟩) n3 c3]
  have hB : Below wr.heap.size wr (w3.alloc (.cells #[.slice A' l2.length c', .slice (some ⟨wr.heap.size, 0, none⟩) n3 c3] et)) := B3.alloc B3.size _
  have hs : (w3.alloc (.cells #[.slice A' l2.length c', .slice (some ⟨wr.heap.size, 0, none⟩) n3 c3] et)).heap.size = w3.heap.size + 1 := by simp
  refine (concat2 w3.heap.size A' (some ⟨wr.heap.size, 0, none⟩) c' c3 l2.length n3 l2 r _ (by rw [hs]; omega) (by rw [hX.cell]; rfl) (by rw [hX.cell]; rfl) rfl hr ((h.keep hB).more (Nat.le_refl _) (by rw [hs]; omega)) ((b3.alloc (by omega) _).more (Nat.zero_le _) (by rw [hs]; omega)) n0 (fun e => by cases e) hm).mono fun e w' ⟨v, he, ho, hb⟩ => ⟨v, he, .inl (own_mono ho (by rw [hs]; omega)), hB.trans (hb.mono (by rw [hs]; omega))⟩
set_option maxHeartbeats 4000000 in
set_option maxRecDepth 100000 in
theorem pdPut_loop (t : Nat) (d : Dv) (g base : Nat) (mp : Option Nat) (T : Tab) (A : Option Addr) (l : List UInt8) (c : Nat) (hl ml : List (List UInt8)) (w : World) (ht : t ≤ 65535) (hL : LayR w) (hT : Tb w g base mp T) (hb : base ≤ w.heap.size)
    (hr0 : RdS w (.slice A l.length c) l) (hll : l.length ≤ 140737487000000) (hTl : T.length ≤ 140737480000000)
    (hf : d.fits) (hck : ∀ W : World, LayR W → Calls Tryd.prog 20 #[.int .u16 t, .agg d.cells] W fun e w' => e = .returned (.int .i64 0) ∧ Below W.heap.size W w')
    (hraw : d.raw.size ≤ 65535) (hn16 : ∀ k (hk : k < (Rd.parts t).length), (Rd.parts t)[k] = 8 → d.n (Rd.nums ((Rd.parts t).take k)) ≤ 65535)
    (hh : ∀ k (hk : k < (Rd.parts t).length), ((Rd.parts t)[k] = 5 ∨ (Rd.parts t)[k] = 6) → Nm.split d.host.data.toList = some hl) (hm : ∀ k (hk : k < (Rd.parts t).length), (Rd.parts t)[k] = 7 → Nm.split d.mail.data.toList = some ml) :
    Calls Tryd.prog 17 #[.slice A l.length c, .pointer (some ⟨g, 0, none⟩), .int .u16 t, d.val] w fun e W' => ∃ v, e = .returned (.tuple #[v, .int .i64 0]) ∧ PuP w g base w.heap.size T l d hl ml (Rd.parts t) v W' := by
  have HL := Lib.hid hL
  have HT := Lib.hid hT
  have HR0 := Lib.hid hr0
  have HCK := Lib.hid hck
  have HF := Lib.hid hf
  have HN16 := Lib.hid hn16
  have HH := Lib.hid hh
  have HM := Lib.hid hm
  have hgw : g < w.heap.size := hT.2.1.lt
  have hX0 : Has (w.alloc (.cells d.cells 51)) w.heap.size 51 d.cells := Has.fresh w _ _
  have hB0 : Below w.heap.size w (w.alloc (.cells d.cells 51)) := (Below.refl _ _).alloc (Nat.le_refl _) _
  have HL0 := Lib.hid (hL.below hB0 (Nat.le_refl _))
  have hi8 : (Tryd.prog.info? 51).map (·.size) = some 8 := by kernel_rfl
  have HI := Lib.hid hi8
  have HX0 := Lib.hid hX0
  have HB0 := Lib.hid hB0
  have HPO : ∀ W : World, LayR W → Hid (Calls Tryd.prog 25 #[.int .u16 t] W fun e w' => e = .returned (.agg (partC t)) ∧ Below W.heap.size W w') := fun W h => partsOf_any t W ht h
  have hval : d.val = .agg d.cells := rfl
  clear hL hT hr0 hck hf hn16 hh hm hi8 hX0 hB0
  go_enter Tryd.func17, Tryd.ntmps17
  go_wp2_with (first
    | (refine wpList_load_row rfl 51 (.tmp 7) rfl w.heap.size rfl 51 d.cells (0, 0) _ HX0.out Tryd.underlying51 rfl HI.out ?_)
    | (go_at_call 20; refine (HCK.out _ HL0.out).mono ?_; rintro e w1 ⟨rfl, B1⟩; replace HX0 := Lib.hid (HX0.out.below B1 HX0.out.lt); replace HB0 := Lib.hid (HB0.out.trans (B1.mono HB0.out.size)); replace HL0 := Lib.hid (HL.out.below HB0.out (Nat.le_refl _)); clear B1)
    | (go_at_call 25; refine (HPO _ HL0.out).out.mono ?_; rintro e w2 ⟨rfl, B2⟩; replace HX0 := Lib.hid (HX0.out.below B2 HX0.out.lt); replace HB0 := Lib.hid (HB0.out.trans (B2.mono HB0.out.size)); clear B2 HL0))
  have hne : w.heap.size ≠ g := by omega
  have HR1 : Hid (RdS w2 (.slice A l.length c) l) := by
    obtain ⟨A', c', e, k1, k2, k3⟩ := HR0.out
    exact ⟨A', c', e, k1, k2, (k3.keep HB0.out).more (Nat.le_refl _) HB0.out.size⟩
  have HP0 : Hid (PuP w g base w.heap.size T l d hl ml [] (.slice A l.length c) w2) := ⟨mp, HR1.out, HT.out.below HB0.out, Rg.of_below HB0.out hb, HX0.out, HB0.out.size, by rw [Rd.wrs_nil]; simp, by rw [Rd.wrs_nil]; simp, fun ⟨_, hq, _⟩ => by cases hq⟩
  clear HR1 HX0 HB0 HT HR0
  go_loopw [11, 12, 26] (fun v nn i wr => ∃ k : Nat, i = .int .i64 k ∧ k ≤ 7 ∧ nn = .int .i64 (Rd.nums ((Rd.parts t).take k) : Nat) ∧ Hid (PuP w g base w.heap.size T l d hl ml ((Rd.parts t).take k) v wr)) (fun _ _ i _ => 7 - (intOf i).toNat)
  case atStart => exact ⟨0, rfl, by omega, by simp [Rd.nums], HP0⟩
  case round =>
    obtain ⟨k, rfl, hk, rfl, HP⟩ := hrel
    by_cases hlt : k < 7
    · have hkl : k < (Rd.parts t).length := by rw [Rd.parts_len]; exact hlt
      have hix := part_at hkl
      have hp9 : (Rd.parts t)[k] ≤ 9 := Rd.parts_lt t _ (List.getElem_mem hkl)
      have htk : (Rd.parts t).take (k + 1) = (Rd.parts t).take k ++ [(Rd.parts t)[k]] := List.take_succ_eq_append_getElem hkl
      have hn5 : Rd.nums ((Rd.parts t).take (k + 1)) ≤ 5 := Rd.nums_le
      have hlen : ((Rd.parts t).take k).length ≤ 7 := by rw [List.length_take]; omega
      have h16 := HN16.out k hkl
      have hhk := HH.out k hkl
      have hmk := HM.out k hkl
      rw [htk] at hn5
      have HTK := Lib.hid htk
      have H16 := Lib.hid h16
      have HHK := Lib.hid hhk
      have HMK := Lib.hid hmk
      clear htk h16 hhk hmk
      generalize (Rd.parts t)[k] = p at *
      generalize (Rd.parts t).take k = ps at *
      obtain ⟨q, hq⟩ : ∃ q : Int, ((p : Nat) : Int) = q := ⟨_, rfl⟩
      rw [hq] at hix
      have HQ := Lib.hid hq
      clear hq
      have hd7 : decide ((k : Int) < 7) = true := by simp; omega
      obtain ⟨mq, h1, h2, h3, h4, h5, h6, h7, _⟩ := HP.out
      obtain ⟨A', c', rfl, k1, k2, k3⟩ := h1
      have hlx : (Rd.wrs T l d.dt hl ml ps).2.1.length ≤ 140737488000000 := by omega
      have htx : (Rd.wrs T l d.dt hl ml ps).1.length ≤ 140737488350000 := by omega
      have H2 := Lib.hid h2
      have K2 := Lib.hid k2
      have K3 := Lib.hid k3
      have H4 := Lib.hid h4
      clear h2 h3 h6 h7 k2 k3 h4
      have cr := dv_raw H4.out
      have ch := dv_host H4.out
      have cm := dv_mail H4.out
      have H5 := Lib.hid h5
      by_cases p0 : p = 0
      · subst p0
        obtain rfl : q = 0 := HQ.out.symm
        go_wp2
        go_roundw
        case rel => exact ⟨k + 1, by go_num, by omega, by rw [HTK.out, Rd.nums_snoc]; rfl, by rw [HTK.out]; exact pup_same HP.out 0 rfl rfl⟩
        case measure => simp [intOf]; omega
      by_cases p4 : p ≤ 4
      · have HNU : Hid (Rd.nums (ps ++ [p]) = Rd.nums ps) := by rw [Hid, Rd.nums_snoc, if_neg (by omega)]; rfl
        have hq := HQ.out
        have HW := Lib.hid (Rd.wr1_raw (d := d.dt) (hl := hl) (ml := ml) (n := Rd.nums ps) (T := (Rd.wrs T l d.dt hl ml ps).1) (l := (Rd.wrs T l d.dt hl ml ps).2.1) (p := p) (by omega) p4)
        have hrl : d.raw.data.toList.length = d.raw.size := by simp
        rcases (by omega : (p = 1 ∧ q = 1) ∨ (p = 2 ∧ q = 2) ∨ (p = 3 ∧ q = 3) ∨ (p = 4 ∧ q = 4)) with ⟨rfl, rfl⟩ | ⟨rfl, rfl⟩ | ⟨rfl, rfl⟩ | ⟨rfl, rfl⟩
        all_goals
            (clear hq
             have HRL := Lib.hid hrl
             clear hrl
             go_wp2_with (first
               | (refine wpList_convert_text rfl 9 52 (.tmp 37) rfl 5 Tryd.underlying9 Tryd.underlying52 Tryd.underlying5 d.raw rfl ?_; intro c3 w3 hc3 b3 B3 z3; have HB3 := Lib.hid B3; have HS3 := Lib.hid b3; have HZ3 := Lib.hid z3; clear B3 b3 z3)
               | (go_at_call 26; refine (concat_raw K3.out K2.out HS3.out HRL.out.symm HB3.out HZ3.out (by rw [List.length_append, HRL.out]; omega) _).mono ?_; rintro e w4 ⟨v4, rfl, R4, B4⟩; have HP4 := Lib.hid (pup_low HP.out hb B4 _ d.raw.data.toList (by rw [HRL.out]; omega) HW.out R4); clear R4 B4))
             go_roundw
             case rel => exact ⟨k + 1, by go_num, by omega, by rw [HTK.out, HNU.out], by rw [HTK.out]; exact HP4⟩
             case measure => simp [intOf]; omega)
      by_cases p5 : p = 5
      · subst p5
        obtain rfl : q = 5 := HQ.out.symm
        have HNU : Hid (Rd.nums (ps ++ [5]) = Rd.nums ps) := by rw [Hid, Rd.nums_snoc, if_neg (by omega)]; rfl
        have hsp := HHK.out (Or.inl rfl)
        have hgd := (Nm.split_some.1 hsp).2
        have HSP := Lib.hid hsp
        have HGD := Lib.hid hgd
        have HGL := Lib.hid (Nm.split_some.1 hsp).1
        clear hsp hgd
        go_wp2_with (go_at_call 27; refine (put_in g base mq (Rd.wrs T l d.dt hl ml ps).1 A' (Rd.wrs T l d.dt hl ml ps).2.1 c' d.host hl _ H2.out (by omega) HSP.out k1 K2.out (by omega) K3.out (by omega)).mono ?_; intro e w4 PD; obtain ⟨v4, rfl, P4⟩ := pup_name HP.out hne false hl HGD.out.1 (by rw [← HGL.out]; exact HGD.out.2) 5 rfl PD; have HP4 := Lib.hid P4; clear P4 PD)
        go_roundw
        case rel => exact ⟨k + 1, by go_num, by omega, by rw [HTK.out, HNU.out], by rw [HTK.out]; exact HP4⟩
        case measure => simp [intOf]; omega
      by_cases p6 : p = 6
      · subst p6
        obtain rfl : q = 6 := HQ.out.symm
        have HNU : Hid (Rd.nums (ps ++ [6]) = Rd.nums ps) := by rw [Hid, Rd.nums_snoc, if_neg (by omega)]; rfl
        have hsp := HHK.out (Or.inr rfl)
        have hgd := (Nm.split_some.1 hsp).2
        have HSP := Lib.hid hsp
        have HGD := Lib.hid hgd
        have HGL := Lib.hid (Nm.split_some.1 hsp).1
        clear hsp hgd
        go_wp2_with (go_at_call 28; refine (plain_in g base mq (Rd.wrs T l d.dt hl ml ps).1 A' (Rd.wrs T l d.dt hl ml ps).2.1 c' d.host hl _ H2.out (by omega) HSP.out k1 K2.out (by omega) K3.out (by omega)).mono ?_; intro e w4 PD; obtain ⟨v4, rfl, P4⟩ := pup_name HP.out hne true hl HGD.out.1 (by rw [← HGL.out]; exact HGD.out.2) 6 rfl PD; have HP4 := Lib.hid P4; clear P4 PD)
        go_roundw
        case rel => exact ⟨k + 1, by go_num, by omega, by rw [HTK.out, HNU.out], by rw [HTK.out]; exact HP4⟩
        case measure => simp [intOf]; omega
      by_cases p7 : p = 7
      · subst p7
        obtain rfl : q = 7 := HQ.out.symm
        have HNU : Hid (Rd.nums (ps ++ [7]) = Rd.nums ps) := by rw [Hid, Rd.nums_snoc, if_neg (by omega)]; rfl
        have hsp := HMK.out rfl
        have hgd := (Nm.split_some.1 hsp).2
        have HSP := Lib.hid hsp
        have HGD := Lib.hid hgd
        have HGL := Lib.hid (Nm.split_some.1 hsp).1
        clear hsp hgd
        go_wp2_with (go_at_call 27; refine (put_in g base mq (Rd.wrs T l d.dt hl ml ps).1 A' (Rd.wrs T l d.dt hl ml ps).2.1 c' d.mail ml _ H2.out (by omega) HSP.out k1 K2.out (by omega) K3.out (by omega)).mono ?_; intro e w4 PD; obtain ⟨v4, rfl, P4⟩ := pup_name HP.out hne false ml HGD.out.1 (by rw [← HGL.out]; exact HGD.out.2) 7 rfl PD; have HP4 := Lib.hid P4; clear P4 PD)
        go_roundw
        case rel => exact ⟨k + 1, by go_num, by omega, by rw [HTK.out, HNU.out], by rw [HTK.out]; exact HP4⟩
        case measure => simp [intOf]; omega
      have hq := HQ.out
      have hn4 : Rd.nums ps < 5 := by rw [Rd.nums_snoc, if_pos (by omega)] at hn5; omega
      have HNU : Hid (Rd.nums (ps ++ [p]) = Rd.nums ps + 1) := by rw [Hid, Rd.nums_snoc, if_pos (by omega)]
      have cn := dv_n H4.out hn4
      have hx : d.n (Rd.nums ps) ≤ 4294967295 := HF.out _
      have HXN := Lib.hid (rd_hasN2 d hn4)
      have hni : ((Rd.nums ps : Nat) : Int) < 5 := by omega
      have hnj : (0 : Int) ≤ ((Rd.nums ps : Nat) : Int) := by omega
      rcases (by omega : (p = 8 ∧ q = 8) ∨ (p = 9 ∧ q = 9)) with ⟨rfl, rfl⟩ | ⟨rfl, rfl⟩
      · clear hq
        have h16 := H16.out rfl
        go_wp2_with (go_at_call 29; refine (put_u16 A' (Rd.wrs T l d.dt hl ml ps).2.1 c' (d.n (Rd.nums ps)) _ k1 (by omega) (by omega) 0 K3.out).mono ?_; rintro e w4 ⟨g4, cp, rfl, O4, B4⟩; have HP4 : Hid (PuP w g base w.heap.size T l d hl ml (ps ++ [8]) (.slice (some ⟨g4, 0, none⟩) ((Rd.wrs T l d.dt hl ml ps).2.1.length + 2) ((Rd.wrs T l d.dt hl ml ps).2.1.length + 2)) w4) := pup_low HP.out hb B4 8 (Oc.beb 2 (d.n (Rd.nums ps))) (by rw [Oc.beb_length]; omega) (by rw [← HXN.out]; rfl) (rds_tight2 O4 (by simp [Oc.beb_length])); clear O4 B4)
        go_roundw
        case rel => exact ⟨k + 1, by go_num, by omega, by rw [HTK.out, HNU.out]; go_num, by rw [HTK.out]; exact HP4⟩
        case measure => simp [intOf]; omega
      · clear hq
        go_wp2_with (go_at_call 30; refine (put_u32 A' (Rd.wrs T l d.dt hl ml ps).2.1 c' (d.n (Rd.nums ps)) _ k1 (by omega) (by omega) 0 K3.out).mono ?_; rintro e w4 ⟨g4, cp, rfl, O4, B4⟩; have HP4 : Hid (PuP w g base w.heap.size T l d hl ml (ps ++ [9]) (.slice (some ⟨g4, 0, none⟩) ((Rd.wrs T l d.dt hl ml ps).2.1.length + 4) ((Rd.wrs T l d.dt hl ml ps).2.1.length + 4)) w4) := pup_low HP.out hb B4 9 (Oc.beb 4 (d.n (Rd.nums ps))) (by rw [Oc.beb_length]; omega) (by rw [← HXN.out]; rfl) (rds_tight2 O4 (by simp [Oc.beb_length])); clear O4 B4)
        go_roundw
        case rel => exact ⟨k + 1, by go_num, by omega, by rw [HTK.out, HNU.out]; go_num, by rw [HTK.out]; exact HP4⟩
        case measure => simp [intOf]; omega
    · obtain rfl : k = 7 := by omega
      have hall : (Rd.parts t).take 7 = Rd.parts t := List.take_of_length_le (by rw [Rd.parts_len]; omega)
      rw [hall] at HP
      clear hall
      go_wp2
      go_ret2
      exact ⟨_, rfl, HP.out⟩
end Go.Proofs.YtpinhpnmnfcdoaaDoor
/- What the parts of data are told by: words. Nothing of the program. -/
namespace Go.Proofs.YtpinhpnmnfcdoaaDoor.Rd

/-- the words of one part; X: what bytes are told by. -/
def pcs (d : Dt) (X : Nat → List By) (n p : Nat) : List By :=
  if 1 ≤ p ∧ p ≤ 4 then X p
  else if p = 5 ∨ p = 6 then [Nm.text d.host] else if p = 7 then [Nm.text d.mail]
  else if p = 8 ∨ p = 9 then [dec (hasN d n)] else []
/-- the words of all parts of a list. -/
def wds (d : Dt) (X : Nat → List By) (ps : List Nat) : List By × Nat :=
  ps.foldl (fun s p => (s.1 ++ pcs d X s.2 p, s.2 + if p = 8 ∨ p = 9 then 1 else 0)) ([], 0)
theorem wds_n (d : Dt) (X : Nat → List By) (ps : List Nat) : (wds d X ps).2 = nums ps := by
  unfold wds
  suffices H : ∀ (ps : List Nat) (s : List By × Nat), (ps.foldl (fun s p => (s.1 ++ pcs d X s.2 p, s.2 + if p = 8 ∨ p = 9 then 1 else 0)) s).2 = s.2 + nums ps from by rw [H]; simp
  intro ps
  induction ps with
  | nil => intro s; rfl
  | cons p r ih =>
    intro s
    rw [List.foldl_cons, ih]
    have e : nums (p :: r) = (if p = 8 ∨ p = 9 then 1 else 0) + nums r := by
      unfold nums
      by_cases h : p = 8 ∨ p = 9
      · rw [if_pos h, List.filter_cons_of_pos (by simpa using h), List.length_cons]; omega
      · rw [if_neg h, List.filter_cons_of_neg (by simpa using h)]; omega
    rw [e]; simp only; omega
theorem wds_snoc (d : Dt) (X : Nat → List By) (ps : List Nat) (p : Nat) : (wds d X (ps ++ [p])).1 = (wds d X ps).1 ++ pcs d X (nums ps) p := by
  have e := wds_n d X ps
  unfold wds at e ⊢
  rw [List.foldl_append, List.foldl_cons, List.foldl_nil, e]
theorem pcs_raw {d : Dt} {X : Nat → List By} {n p : Nat} (h1 : 1 ≤ p) (h4 : p ≤ 4) : pcs d X n p = X p := by unfold pcs; rw [if_pos ⟨h1, h4⟩]
theorem pcs_len {d : Dt} {X : Nat → List By} {n p : Nat} {m : Nat} (hX : ∀ p, (X p).length ≤ m) : (pcs d X n p).length ≤ m + 1 := by
  unfold pcs
  have := hX p
  split
  · omega
  split
  · simp
  split
  · simp
  split
  · simp
  · simp
end Go.Proofs.YtpinhpnmnfcdoaaDoor.Rd
/- Numbers as digits: strconv.FormatUint, strconv.Itoa. -/
namespace Go.Proofs.YtpinhpnmnfcdoaaDoor
open Go.RowKit Go.Sort Go.Lib

/-- the table of the powers of ten is as its initialiser lays it. -/
def LayP (w : World) : Prop := ∃ t, Has w 3 t ((Lib.pow10Tab.map fun z => Value.int .u64 z).toArray)
theorem LayP.below {w w' : World} {B : Nat} (h : LayP w) (hb : Below B w w') (hB : w.heap.size ≤ B) : LayP w' := h.elim fun t h => ⟨t, h.below hb (Nat.lt_of_lt_of_le h.lt hB)⟩
theorem LayP.tab {w : World} (h : LayP w) : Lib.TabIs Tryd.prog w "internal/strconv.uint64pow10" .u64 Lib.pow10Tab := by
  obtain ⟨t, h⟩ := h
  have hg : Tryd.prog.globalNamed "internal/strconv.uint64pow10" = some 3 := by kernel_rfl
  unfold Lib.TabIs World.var?
  rw [hg]
  simp only [Option.bind_some]
  rw [show w.heap[(3 : Nat)]? = _ from h]
theorem decDigits_dec (u : Nat) : Lib.decDigits u = Rd.dec u := by
  induction u using Nat.strongRecOn with
  | ind u ih =>
    rw [Lib.decDigits, Rd.dec]
    by_cases h : u < 10
    · rw [dif_pos h, if_pos h]
    · rw [dif_neg h, if_neg h, ih _ (by omega)]
set_option maxHeartbeats 1000000 in
set_option maxRecDepth 100000 in
theorem fmtU10_any (u : Nat) (w : World) (hu64 : u < 18446744073709551616) (hL : LayP w) :
    Calls Tryd.prog 59 #[.int .u64 u, .int .i64 10] w fun e w' => e = .returned (sv (Rd.dec u)) ∧ Below w.heap.size w w' := by
  unfold sv
  rw [← decDigits_dec]
  by_cases hs : u < 100
  · go_enter Tryd.func59, Tryd.ntmps59
    go_wp2_with (go_at_call 70; refine (Tryd.internal_strconv_small u hs _).mono ?_; rintro e w' ⟨rfl, rfl⟩)
    go_ret
    exact ⟨rfl, Below.refl _ _⟩
  · have hu1 : 1 ≤ u := by omega
    have hnd20 : Lib.nDigits u ≤ 20 := by have := Lib.numDigits_eq u hu1 hu64; split at this <;> omega
    have hb3 : Lib.nDigits u ≤ 24 := by omega
    have htab := Lib.hid hL.tab
    have hal : Tryd.prog.arrayLen 119 = 24 := by kernel_rfl
    have hsl1 : ∀ W, (Instr.sliceAt 119 (.pointer (some ⟨w.heap.size, 0, none⟩)) none (some (.int .i64 (Lib.nDigits u : Int))) none).run Tryd.prog W = .ok (.slice (some ⟨w.heap.size, 0, none⟩) (Lib.nDigits u) 24) W := fun W => by
      rw [run_sliceAt_array_h W 119 ⟨w.heap.size, 0, none⟩ (by kernel_rfl) .i64 (Lib.nDigits u : Int) (by omega) (by rw [hal]; omega)]
      go_simp
    have hH0 := Lib.holds_zero0 w 119 (Lib.nDigits u) (by omega)
    have hfmt := Tryd.internal_strconv_formatBase10 w.heap.size 0 24 u (Array.replicate (Lib.nDigits u) 0) (w.alloc (.cells Lib.zeros24 119)) hH0 (by rw [Array.size_replicate]; exact Lib.lt_pow_nDigits u) hu64 (by rw [Array.size_replicate]; omega)
    rw [Array.size_replicate] at hfmt
    have HH0 := Lib.hid hH0
    have HFM := Lib.hid hfmt
    have iu : (100 : Int) ≤ (u : Int) := by omega
    clear hH0 hal hfmt hL
    go_enter Tryd.func59, Tryd.ntmps59
    go_wp2_with (first
      | (go_at_call 71; refine (Tryd.internal_strconv_numDigits u hu1 hu64 _ (Lib.tabIs_alloc htab.out _)).mono ?_; rintro e w' ⟨rfl, rfl⟩))
    go_at_call 72
    refine HFM.out.mono ?_
    rintro e w' ⟨rfl, k, v', dk, rfl, hF⟩
    have hcv : (convert 52 9 (.slice (some ⟨w.heap.size, 0, none⟩) (Lib.nDigits u) 24)).run Tryd.prog ((putRow (fun (b : UInt8) => Value.int .u8 (b.toNat : Int)) (w.alloc (.cells Lib.zeros24 119)) w.heap.size 0 dk).drewN k) = .ok (.string ⟨(Lib.decDigits u).toArray⟩) ((putRow (fun (b : UInt8) => Value.int .u8 (b.toNat : Int)) (w.alloc (.cells Lib.zeros24 119)) w.heap.size 0 dk).drewN k) := by
      have h := run_convert_bytes_back (P := Tryd.prog) ((putRow (fun (b : UInt8) => Value.int .u8 (b.toNat : Int)) (w.alloc (.cells Lib.zeros24 119)) w.heap.size 0 dk).drewN k) 52 9 5 ⟨w.heap.size, 0, none⟩ 24 (Lib.decDigits u) Tryd.underlying52 Tryd.underlying5 Tryd.underlying9 (fun j hj => by
        rw [Lib.row_is_numeral hF j hj, Lib.add_plain, World.cell?_drewN]
        exact cell?_putRow (fun (b : UInt8) => Value.int .u8 (b.toNat : Int)) _ w.heap.size 0 _ dk HH0.out (by rw [hF.size, Array.size_replicate]) j (by rw [hF.size]; rw [Lib.decDigits_length] at hj; exact hj))
      rw [Lib.decDigits_length] at h
      exact h
    obtain ⟨os, eo⟩ := Lib.fin_at w (.cells Lib.zeros24 119) dk k 0
    have HEO := Lib.hid eo
    clear eo
    go_wp2
    go_ret
    exact ⟨rfl, by rw [HEO.out]; exact Lib.below_grow _ w (Nat.le_refl _) k os⟩
set_option maxRecDepth 100000 in
theorem fmtU_any (u : Nat) (w : World) (hu64 : u < 18446744073709551616) (hL : LayP w) :
    Calls Tryd.prog 36 #[.int .u64 u, .int .i64 10] w fun e w' => e = .returned (sv (Rd.dec u)) ∧ Below w.heap.size w w' := by
  obtain ⟨v, hv⟩ : ∃ v, sv (Rd.dec u) = v := ⟨_, rfl⟩
  have HC := fmtU10_any u w hu64 hL
  rw [hv] at HC ⊢
  obtain ⟨U, hU⟩ : ∃ U : Int, ((u : Nat) : Int) = U := ⟨_, rfl⟩
  rw [hU] at HC ⊢
  have HH := Lib.hid HC
  clear HC hU hv hu64
  go_enter Tryd.func36, Tryd.ntmps36
  go_wp2_with (go_at_call 59; refine HH.out.mono ?_; rintro e w1 ⟨rfl, hb⟩)
  go_ret
  exact ⟨rfl, hb⟩
theorem itoa_any (u : Nat) (w : World) (hu : u ≤ 4294967295) (hL : LayP w) :
    Calls Tryd.prog 15 #[.int .i64 u] w fun e w' => e = .returned (sv (Rd.dec u)) ∧ Below w.heap.size w w' :=
  (Tryd.strconv_Itoa u (by omega) (by omega) w hL.tab).mono fun e w' ⟨he, k, os, hw⟩ => ⟨by rw [he, Lib.itoa_nonneg, decDigits_dec], by rw [hw]; exact Lib.below_grow _ w (Nat.le_refl _) k os⟩
end Go.Proofs.YtpinhpnmnfcdoaaDoor
