/- Texts of the proofs, merged. -/
import Derived.Test.YtpnfkgjcnofjnaaMgSd
import Derived.Test.YtpnfkgjcnofjnaaMgSc
import Derived.Test.YtpnfkgjcnofjnaaMgTe
import Derived.Deep.RegionHeld3
import Derived.Test.YtpnfkgjcnofjnaaMgG
/- A value is put into a tree, or taken out of it. -/
namespace Go.Proofs.Ytpnfkgjcnofjnaa.Ts
open Go.RowKit Go.Shelf Tr

/-- a tree's size is written. -/
theorem node_size {w : World} {z b : Nat} {n : No TV} {F : List Nat} (h : NodeM w (some z) b n F) (hd : F.Nodup) (z' : Nat) : NodeM (w.setCell ⟨b, 5, none⟩ (.int .i64 (z' : Nat))) (some z') b n F := by
  obtain ⟨kv, ks, F1, rfl, h3, h4, h5⟩ := h
  have hb := (List.nodup_cons.1 hd).1
  have hs : ∀ j, j ≠ b → (w.setCell ⟨b, 5, none⟩ (.int .i64 (z' : Nat))).heap[j]? = w.heap[j]? := fun j hj => heap_setCell_other _ ⟨b, 5, none⟩ j _ hj
  exact ⟨kv, ks, F1, rfl, h3.set 5 (.int .i64 (z' : Nat)), row_same h4 fun j hj => hs j (fun e => hb (by rw [← e]; simp [hj])), h5.same fun j hj => hs j (fun e => hb (by rw [← e]; simp [hj]))⟩
theorem NodeM.five {w : World} {z b : Nat} {n : No TV} {F : List Nat} (h : NodeM w (some z) b n F) : w.cell? ⟨b, 5, none⟩ = some (.int .i64 (z : Nat)) ∧ w.frozen? ⟨b, 5, none⟩ = false := by
  obtain ⟨kv, ks, F1, _, h3, _⟩ := h
  exact ⟨by rw [h3.cell]; rfl, h3.free 5⟩
def putN (s : By) (v : TV) (n : No TV) : No TV := upd (pth s) (setN (Nm.fold s) v) n
theorem put_len {s : By} {v : TV} {n : No TV} (h : ok n) : (nents (putN s v n)).length = if hasE (pth s) (nents n) then (nents n).length else (nents n).length + 1 := by
  unfold putN hasE
  rw [put_ents h, insE_length (asc_nents h)]
theorem PutNo_any {w : World} {b : Nat} {n : No TV} {F : List Nat} (h : TM w b n F) (s : ByteArray) (v : TV) (hs : s.size ≤ 140737488355328) (hn : isN s.data.toList = false) :
    Calls Try.prog 35 #[ptr b, .string s, tz v] w fun e w' => e = .returned (.tuple #[.bool false, .int .i64 11]) ∧ TM w' b n F ∧ Below w.heap.size w w' := by
  have HK := Lib.hid (keyOf_any s w hs)
  have H := Lib.hid h
  simp only [hn, Bool.false_eq_true, if_false] at HK
  clear hn h
  go_enter Try.func35, Try.ntmps35
  go_wp2_with (go_at_call 42; refine HK.out.mono ?_; rintro e w1 ⟨rfl, hb1⟩)
  go_ret2
  exact ⟨rfl, H.out.below hb1 (Nat.le_refl _), hb1⟩
set_option maxRecDepth 100000 in
set_option maxHeartbeats 1000000 in
theorem Put_any {w : World} {b : Nat} {n : No TV} {F : List Nat} (h : TM w b n F) (hfew : (nents n).length < 1000000) (s : ByteArray) (v : TV) (hs : s.size ≤ 140737488355328) (hn : isN s.data.toList = true) :
    Calls Try.prog 35 #[ptr b, .string s, tz v] w fun e w' => ∃ F', e = .returned (.tuple #[.bool !hasE (pth s.data.toList) (nents n), .int .i64 0]) ∧ TM w' b (putN s.data.toList v n) F' ∧ New w F F' ∧ Only F w w' := by
  have HK := Lib.hid (keyOf_any s w hs)
  have HL := Lib.hid (key_labels s hs)
  have H := Lib.hid h
  simp only [hn, if_true] at HK
  have hlen := put_len (s := s.data.toList) (v := v) h.ok
  have hheld := held_has (q := pth s.data.toList) h.ok
  have hok := put_ok (q := pth s.data.toList) (k := Nm.fold s.data.toList) (v := v) h.ok
  have hbF := h.node.blk
  have hq : (labelsOf (Nm.fold s.data.toList)).reverse = pth s.data.toList := rfl
  have hfew' := labs_few (Nm.fold s.data.toList)
  have HFEW := Lib.hid hfew
  generalize labelsOf (Nm.fold s.data.toList) = ls at *
  have HAT := Lib.hid (fun (w1 : World) (A : Option Addr) (c : Nat) (hr : Rd w1 w1.heap.size (.slice A ls.length c) ls) (hb : Below w.heap.size w w1) (hap : ∀ g o, A = some ⟨g, o, none⟩ → w.heap.size ≤ g) => at_any (h.node.below hb (Nat.le_refl _)) h.nd h.ok (Nat.le_trans h.few (by decide)) hr (fun g o hg hm => by have := hap g o hg; have := h.node.lt g hm; omega) (by omega))
  rw [hq] at HAT
  obtain ⟨z, hz⟩ : ∃ z, (nents n).length = z := ⟨_, rfl⟩
  obtain ⟨m, hm⟩ : ∃ m : No TV, m = putN s.data.toList v n := ⟨_, rfl⟩
  rw [← hm] at hlen ⊢
  rw [hz] at HAT hlen HFEW
  have HOK : Hid (ok m) := by rw [hm]; exact hok
  have hafter : ∀ (w1 w2 w3 : World) (t1 : Option Nat) (b1 : Nat) (A1 F1 B1 : List Nat), Below w.heap.size w w1 → Lens w2 (some z) b n (pth s.data.toList) t1 b1 A1 F1 B1 → (A1 ++ (F1 ++ B1)).Nodup → New w1 F (A1 ++ (F1 ++ B1)) → Only F w1 w2 →
      NodeM w3 t1 b1 (setN (Nm.fold s.data.toList) v (atq (pth s.data.toList) n)) F1 → Only [b1] w2 w3 → NodeM w3 (some z) b m (A1 ++ (F1 ++ B1)) ∧ New w F (A1 ++ (F1 ++ B1)) ∧ Only F w w3 := fun w1 w2 w3 t1 b1 A1 F1 B1 hb1 hL hnd hnew ho1 hnm ho2 => by
    have hb1F : b1 ∈ F1 := hL.node.blk
    have hd1 := List.nodup_append.1 hnd
    have hd2 := List.nodup_append.1 hd1.2.1
    have hsame : ∀ k, k ∈ A1 ∨ k ∈ B1 → w3.heap[k]? = w2.heap[k]? := fun k hk => by
      refine ho2.block k (hL.lt k (by rcases hk with hk | hk <;> simp [hk])) (fun hkb => ?_)
      simp at hkb
      subst hkb
      rcases hk with hk | hk
      · exact hd1.2.2 k hk k (by simp [hb1F]) rfl
      · exact hd2.2.2 k hb1F k hk rfl
    refine ⟨?_, fun k hk => ?_, ?_⟩
    · rw [hm]; exact hL.put _ hsame hnm
    · rcases hnew k hk with h1 | h1
      · exact .inl h1
      · exact .inr (Nat.le_trans hb1.size h1)
    · refine ((Only.of_below hb1 (Nat.le_refl _) F).trans ho1).trans' ho2 (fun i hi => ?_)
      simp at hi
      subst hi
      rcases hnew i (by simp [hb1F]) with h1 | h1
      · exact .inl h1
      · exact .inr (Nat.le_trans hb1.size h1)
  have HAF := Lib.hid hafter
  have hbM : b ∈ F := hbF
  clear hn h hz hm hok hq hfew' hafter hfew hbF
  generalize hhd : (atq (pth s.data.toList) n).1.held = hd at *
  rw [← hheld]
  rw [← hheld] at hlen
  have HHD := Lib.hid hhd
  clear hheld hhd
  go_enter Try.func35, Try.ntmps35
  go_wp2_with (go_at_call 42; refine HK.out.mono ?_; rintro e w1 ⟨rfl, hb1⟩)
  have hb1d := hb1.drew
  go_region_with (first
    | (go_at_call 44; refine (HL.out _).mono ?_; rintro e w2 ⟨A, c, rfl, hr2, hg2, hb2⟩; have HR2 := Lib.hid hr2; have hb12 := hb1d.trans (hb2.mono hb1.size); have HG2 := Lib.hid hg2; clear hr2 hg2)
    | (go_at_call 65; refine (HAT.out _ _ _ HR2.out hb12 (fun g o hg => Nat.le_trans hb1.size (HG2.out g o hg))).mono ?_; rintro e w3 ⟨t1, b1, A1, F1, B1, rfl, hL, hnd, hnew, ho3⟩; have HL3 := Lib.hid hL; have HND3 := Lib.hid hnd; have HNEW3 := Lib.hid hnew; have HO3 := Lib.hid ho3; clear hL hnd hnew ho3)
    | (go_at_call 66; have hsv := set_any HL3.out.node (List.nodup_append.1 (List.nodup_append.1 HND3.out).2.1).1 (Nm.fold s.data.toList) v; rw [HHD.out] at hsv; refine hsv.mono ?_; rintro e w4 ⟨rfl, hn4, ho4⟩; have HAF4 := Lib.hid (HAF.out _ _ _ _ _ _ _ _ hb12 HL3.out HND3.out HNEW3.out HO3.out hn4 ho4); clear hn4 ho4 hsv))
  have HNDF := HND3.out
  have HLEN := Lib.hid hlen
  clear hlen
  cases hd with
  | true =>
    go_wp2
    go_ret2
    have hl : (nents m).length = z := by have h0 := HLEN.out; simpa using h0
    exact ⟨rfl, _, ⟨by rw [hl]; exact HAF4.out.1, HNDF, HOK.out, by have := HFEW.out; omega⟩, HAF4.out.2.1, HAF4.out.2.2⟩
  | false =>
    obtain ⟨c5, f5⟩ := HAF4.out.1.five
    have hwr : IntKind.i64.wrap ((z : Int) + 1) = ((z + 1 : Nat) : Int) := by have := HFEW.out; rw [IntKind.wrap_i64]; omega
    go_wp2
    go_ret2
    have hl : (nents m).length = z + 1 := by have h0 := HLEN.out; simpa using h0
    exact ⟨_, rfl, ⟨by rw [hl]; exact node_size HAF4.out.1 HNDF _, HNDF, HOK.out, by have := HFEW.out; omega⟩, HAF4.out.2.1, HAF4.out.2.2.setCell (p := ⟨b, 5, none⟩) (.inl hbM) _⟩
end Go.Proofs.Ytpnfkgjcnofjnaa.Ts
/- A value is taken out of a tree. -/
namespace Go.Proofs.Ytpnfkgjcnofjnaa.Ts
open Go.RowKit Go.Shelf Tr

def delN (s : By) (n : No TV) : No TV := (drop (pth s) n).1
set_option maxRecDepth 100000 in
theorem DelNo_any {w : World} {b : Nat} {n : No TV} {F : List Nat} (h : TM w b n F) (s : ByteArray) (hs : s.size ≤ 140737488355328) (hn : isN s.data.toList = false) :
    Calls Try.prog 41 #[ptr b, .string s] w fun e w' => e = .returned (.bool false) ∧ TM w' b n F ∧ Below w.heap.size w w' := by
  have HK := Lib.hid (keyOf_any s w hs)
  have H := Lib.hid h
  simp only [hn, Bool.false_eq_true, if_false] at HK
  clear hn h
  go_enter Try.func41, Try.ntmps41
  go_wp2_with (go_at_call 42; refine HK.out.mono ?_; rintro e w1 ⟨rfl, hb1⟩)
  go_quiet (fail)
  go_wp2
  go_ret
  exact ⟨rfl, H.out.below (below_drewN hb1 _) (Nat.le_refl _), below_drewN hb1 _⟩
set_option maxRecDepth 100000 in
set_option maxHeartbeats 1000000 in
theorem Del_any {w : World} {b : Nat} {n : No TV} {F : List Nat} (h : TM w b n F) (s : ByteArray) (hs : s.size ≤ 140737488355328) (hn : isN s.data.toList = true) :
    Calls Try.prog 41 #[ptr b, .string s] w fun e w' => ∃ F', e = .returned (.bool (hasE (pth s.data.toList) (nents n))) ∧ TM w' b (delN s.data.toList n) F' ∧ New w F F' ∧ Only F w w' := by
  have HK := Lib.hid (keyOf_any s w hs)
  have HL := Lib.hid (key_labels s hs)
  simp only [hn, if_true] at HK
  obtain ⟨he, hr, hok⟩ := drop_ents (q := pth s.data.toList) h.ok
  have hlen := drop_length (q := pth s.data.toList) (asc_nents h.ok)
  rw [← he] at hlen
  have hbF := h.node.blk
  have hq : (labelsOf (Nm.fold s.data.toList)).reverse = pth s.data.toList := rfl
  have hfew' := labs_few (Nm.fold s.data.toList)
  have HFEW := Lib.hid h.few
  generalize labelsOf (Nm.fold s.data.toList) = ls at *
  have HDR := Lib.hid (fun (w1 : World) (A : Option Addr) (c : Nat) (hr : Rd w1 w1.heap.size (.slice A ls.length c) ls) (hb : Below w.heap.size w w1) (hap : ∀ g o, A = some ⟨g, o, none⟩ → w.heap.size ≤ g) => drop_any (pth s.data.toList) hq (h.node.below hb (Nat.le_refl _)) h.nd h.ok (Nat.le_trans h.few (by decide)) hr (fun g o hg hm => by have := hap g o hg; have := h.node.lt g hm; omega) (by omega))
  unfold hasE delN
  rw [hr] at HDR
  generalize drop (pth s.data.toList) n = dr at *
  obtain ⟨m, d0⟩ := dr
  simp only at hlen hok HDR ⊢
  generalize hzz : (nents n).length = z at *
  generalize hdd : (nents n).any (fun e => e.p == pth s.data.toList) = d at *
  have hz1 : d = true → 1 ≤ z := fun hd => by
    rw [← hzz]
    cases hl : nents n with
    | nil => rw [hl] at hdd; rw [hd] at hdd; simp at hdd
    | cons a l => simp
  have HLEN := Lib.hid hlen
  have HOK := Lib.hid hok
  have hbM : b ∈ F := hbF
  clear hn h hr he hok hlen hq hfew' hbF hzz hdd
  cases d with
  | true =>
    have hz1' := hz1 rfl
    clear hz1
    go_enter Try.func41, Try.ntmps41
    go_wp2_with (go_at_call 42; refine HK.out.mono ?_; rintro e w1 ⟨rfl, hb1⟩)
    have hb1d := hb1.drew
    have hwr : IntKind.i64.wrap ((z : Int) - 1) = ((z - 1 : Nat) : Int) := by have := HFEW.out; rw [IntKind.wrap_i64]; omega
    go_region_held3 (fun W => w.heap.size ≤ W.heap.size) (first | exact HSZ3.out | exact hb12.size | exact hb1d.size) (first
      | (go_at_call 44; refine (HL.out _).mono ?_; rintro e w2 ⟨A, c, rfl, hr2, hg2, hb2⟩; have HR2 := Lib.hid hr2; have hb12 := hb1d.trans (hb2.mono hb1.size); have HG2 := Lib.hid hg2; clear hr2 hg2)
      | (go_at_call 71; refine (HDR.out _ _ _ HR2.out hb12 (fun g o hg => Nat.le_trans hb1.size (HG2.out g o hg))).mono ?_; rintro e w3 ⟨F3, rfl, hn3, hnd3, hs3, ho3⟩; obtain ⟨c5, f5⟩ := hn3.five; have HN3 := Lib.hid hn3; have HND3 := Lib.hid hnd3; have HO3 := Lib.hid ho3; have HSZ3 : Hid (w.heap.size ≤ w3.heap.size) := Nat.le_trans hb12.size ho3.size; clear hn3 hnd3 ho3))
    go_wp2
    go_ret
    have hl : (nents m).length = z - 1 := by have h0 := HLEN.out; simpa using h0
    refine ⟨F3, rfl, ⟨by rw [hl]; exact node_size HN3.out HND3.out _, HND3.out, HOK.out, by have := HFEW.out; omega⟩, fun k hk => .inl (hs3 k hk), ?_⟩
    exact ((Only.of_below hb12 (Nat.le_refl _) F).trans HO3.out).setCell (p := ⟨b, 5, none⟩) (.inl hbM) _
  | false =>
    clear hz1
    go_enter Try.func41, Try.ntmps41
    go_wp2_with (go_at_call 42; refine HK.out.mono ?_; rintro e w1 ⟨rfl, hb1⟩)
    have hb1d := hb1.drew
    go_region_held3 (fun W => w.heap.size ≤ W.heap.size) (first | exact HSZ3.out | exact hb12.size | exact hb1d.size) (first
      | (go_at_call 44; refine (HL.out _).mono ?_; rintro e w2 ⟨A, c, rfl, hr2, hg2, hb2⟩; have HR2 := Lib.hid hr2; have hb12 := hb1d.trans (hb2.mono hb1.size); have HG2 := Lib.hid hg2; clear hr2 hg2)
      | (go_at_call 71; refine (HDR.out _ _ _ HR2.out hb12 (fun g o hg => Nat.le_trans hb1.size (HG2.out g o hg))).mono ?_; rintro e w3 ⟨F3, rfl, hn3, hnd3, hs3, ho3⟩; obtain ⟨c5, f5⟩ := hn3.five; have HN3 := Lib.hid hn3; have HND3 := Lib.hid hnd3; have HO3 := Lib.hid ho3; have HSZ3 : Hid (w.heap.size ≤ w3.heap.size) := Nat.le_trans hb12.size ho3.size; clear hn3 hnd3 ho3))
    go_wp2
    go_ret
    have hl : (nents m).length = z := by have h0 := HLEN.out; simpa using h0
    exact ⟨F3, rfl, ⟨by rw [hl]; exact HN3.out, HND3.out, HOK.out, by have := HFEW.out; omega⟩, fun k hk => .inl (hs3 k hk), (Only.of_below hb12 (Nat.le_refl _) F).trans HO3.out⟩
end Go.Proofs.Ytpnfkgjcnofjnaa.Ts
/- The first key behind labels: the program's after. -/
namespace Go.Proofs.Ytpnfkgjcnofjnaa.Ts
open Go.RowKit Go.Shelf Tr
attribute [local go_sem] Oper.semAt_some

/-- the first key of the kids from one on. -/
def fromK (n : No TV) (fr : Nat) : Option By := fstK (n.2.kids.drop fr)
theorem fromK_lt {n : No TV} (hok : ok n) {fr : Nat} {m : No TV} (hm : n.2.kids[fr]? = some m) : 0 < (nkv m).length ∧ fromK n fr = some ((nkv m).getD 0 ([], [])).1 := by
  have ⟨h1, h2⟩ := List.getElem?_eq_some_iff.1 hm
  have hk := ok_kid hok.1 m (List.mem_of_getElem? hm)
  have hne : nents m ≠ [] := fun e => by have := (nents_nil hk.1).1 e; rw [hk.2] at this; cases this
  unfold fromK fstK
  rw [List.drop_eq_getElem_cons h1, h2, List.findSome?_cons, nkv_ents]
  cases hl : nents m with
  | nil => exact absurd hl hne
  | cons e l => simp
theorem fromK_ge {n : No TV} {fr : Nat} (h : n.2.kids.length ≤ fr) : fromK n fr = none := by
  unfold fromK fstK; rw [List.drop_eq_nil_of_le h]; rfl
/-- after's results, in their boxes. -/
structure AfB (w W : World) (x : By) (y : Bool) : Prop where
  b0 : Has W w.heap.size 28 #[sv x]
  b1 : Has W (w.heap.size + 1) 4 #[.bool y]
  bel : Below w.heap.size w W
theorem AfB.chg {w A B : World} {x : By} {y : Bool} {m : Nat} {S : Bl} (h : AfB w A x y) (hc : Chg m S A B) (hm : w.heap.size + 1 < m) : AfB w B x y :=
  ⟨(hc.block _ h.b0.lt (.inl (by omega))).trans h.b0, (hc.block _ h.b1.lt (.inl (by omega))).trans h.b1, hc.os.trans h.bel.os, hc.tape.trans h.bel.tape, hc.output.trans h.bel.output, Nat.le_trans h.bel.size hc.size, fun k hk => (hc.block k (Nat.lt_of_lt_of_le hk h.bel.size) (.inl (by omega))).trans (h.bel.block k hk)⟩
theorem AfB.put {w A : World} {x : By} {y : Bool} (h : AfB w A x y) (x' : By) (y' : Bool) : AfB w ((A.setCell ⟨w.heap.size, 0, none⟩ (sv x')).setCell ⟨w.heap.size + 1, 0, none⟩ (.bool y')) x' y' :=
  ⟨(h.b0.set 0 _).far (by simp) _, (h.b1.far (by simp) _).set 0 _, (h.bel.setCell (p := ⟨w.heap.size, 0, none⟩) (Nat.le_refl _) _).setCell (p := ⟨w.heap.size + 1, 0, none⟩) (by simp) _⟩
theorem AfB.shut {w A : World} {x : By} {y : Bool} (h : AfB w A x y) {D : Nat} (hD : w.heap.size + 1 < D) (o : Obj) : AfB w (A.putObj D o) x y := h.chg (Chg.putObj (S := fun _ => False) (n := D) o (Nat.le_refl _) (fun h => h)) (by omega)
theorem AfB.c0 {w A : World} {x : By} {y : Bool} (h : AfB w A x y) : A.cell? ⟨w.heap.size, 0, none⟩ = some (sv x) := by rw [h.b0.cell]; rfl
theorem AfB.c1 {w A : World} {x : By} {y : Bool} (h : AfB w A x y) : A.cell? ⟨w.heap.size + 1, 0, none⟩ = some (.bool y) := by rw [h.b1.cell]; rfl
theorem AfB.drew {w A : World} {x : By} {y : Bool} (h : AfB w A x y) : AfB w A.drew x y := ⟨h.b0, h.b1, h.bel.drew⟩
theorem after_results {w : World} {tmps : Array Value} {b2 b3 : Nat} {x : ByteArray} {y : Bool} (h4 : tmps[4]? = some (.pointer (some ⟨b2, 0, none⟩))) (h5 : tmps[5]? = some (.pointer (some ⟨b3, 0, none⟩)))
    (c4 : w.cell? ⟨b2, 0, none⟩ = some (.string x)) (c5 : w.cell? ⟨b3, 0, none⟩ = some (.bool y)) : (results Try.f68 tmps).run Try.prog w = .ok (.tuple #[.string x, .bool y]) w := by
  simp [results, Try.results68, go_sem, h4, h5, c4, c5]
def AftP (q : List By) : Prop := ∀ {w : World} {top : Option Nat} {b : Nat} {n : No TV} {F : List Nat} {A : Option Addr} {c C : Nat} {ls : List By}, ls.reverse = q → NodeM w top b n F → ok n → (nents n).length ≤ 1099511627776 →
    Rd w C (.slice A ls.length c) ls → ls.length ≤ 1099511627776 →
    Calls Try.prog 68 #[ptr b, .slice A ls.length c] w fun e w' => e = .returned (optB (aft q n)) ∧ Below w.heap.size w w'
set_option maxRecDepth 100000 in
set_option maxHeartbeats 2000000 in
theorem after_step (q : List By) (IH : ∀ (x : By) (q' : List By), q = x :: q' → AftP q') : AftP q := by
  intro w top b n F A c C ls hq h hok hN hv hls
  refine (callsIn_wide (n := 9)).1 ?_
  obtain ⟨r, hr0⟩ : ∃ r, r = aft q n := ⟨_, rfl⟩
  rw [← hr0]
  obtain ⟨vv, hvv⟩ : ∃ vv, vv = Value.slice A ls.length c := ⟨_, rfl⟩
  rw [← hvv]
  refine callsIn_of_wp_marks Try.func68 rfl trivial ?_ rfl
  simp only [Try.ntmps68, List.size_toArray, List.length_cons, List.length_nil, Nat.reduceAdd, Nat.reduceSub, Array.replicate_succ, Array.replicate_zero, List.push_toArray, List.append_toArray, List.nil_append, List.cons_append]
  refine wpIn_seq_k (fun K hK => ?_)
  have HK := Lib.hid hK
  clear hK
  gi_wp2
  refine HK.out _ _ ?_
  clear HK K
  refine wpIn_seq_k (fun K hK => ?_)
  have HK := Lib.hid hK
  clear hK
  gi_wp2
  refine HK.out _ _ ?_
  clear HK K
  refine wpIn_seq_k (fun K hK => ?_)
  have HT : ∀ (fr : Nat) (u7 u8 u9 u10 u11 u12 u13 u14 u15 u16 u17 u18 u19 u20 u21 u22 u23 u24 u25 u26 u27 u28 u29 u30 u31 u32 u33 u34 u35 u36 u37 u38 u39 u40 u41 u42 u43 u44 u45 u46 u47 u48 : Value) (W : World), fr ≤ n.2.kids.length → fromK n fr = r → AfB w W [] false → K { tmps := #[ptr b, vv, undef, undef, .pointer (some ⟨w.heap.size, 0, none⟩), .pointer (some ⟨w.heap.size + 1, 0, none⟩), .int .i64 fr, u7, u8, u9, u10, u11, u12, u13, u14, u15, u16, u17, u18, u19, u20, u21, u22, u23, u24, u25, u26, u27, u28, u29, u30, u31, u32, u33, u34, u35, u36, u37, u38, u39, u40, u41, u42, u43, u44, u45, u46, u47, u48, undef, undef, undef, undef, undef, undef, undef, undef, undef, undef, undef, undef, undef, undef, undef, undef, undef], defers := [] } W := by
    intro fr u7 u8 u9 u10 u11 u12 u13 u14 u15 u16 u17 u18 u19 u20 u21 u22 u23 u24 u25 u26 u27 u28 u29 u30 u31 u32 u33 u34 u35 u36 u37 u38 u39 u40 u41 u42 u43 u44 u45 u46 u47 u48 W hfr hres hB
    refine hK _ _ ?_
    clear hK K
    dsimp only
    obtain ⟨kv, ks, F1, hF, hb, hr, hk⟩ := h.below hB.bel (Nat.le_refl _)
    have hkn := hk.len
    have hkle := kids_le hok.1
    have hkb : n.2.kids.length ≤ 1099511627776 := by unfold nents at hN; simp at hN; omega
    have c4 : W.cell? ⟨b, 4, none⟩ = some kv := by rw [hb.cell]; cases top <;> rfl
    have c0 : W.cell? ⟨w.heap.size, 0, none⟩ = some (sv []) := by rw [hB.b0.cell]; rfl
    have c1 : W.cell? ⟨w.heap.size + 1, 0, none⟩ = some (.bool false) := by rw [hB.b1.cell]; rfl
    have f0 := hB.b0.free 0
    have f1 := hB.b1.free 0
    rcases Nat.lt_or_ge fr n.2.kids.length with hlt | hge
    · obtain ⟨g, c, hkv, hcg, _⟩ := own_pos hr (by omega)
      subst hkv
      generalize hkl : ks.length = kn at *
      have hrX : W.ownsRow 0 100 1 (.slice (some ⟨g, 0, none⟩) kn c) kn (ptrs ks) := by
        have := hr
        unfold Row at this
        rwa [hkl] at this
      have i4 : ¬ c = fr := by omega
      have HKN := Lib.hid hkn
      have HKL := Lib.hid hkl
      have i1 : (0 : Int) ≤ (fr : Int) := by omega
      have i2 : (fr : Int) ≤ (kn : Int) := by omega
      have i3 : (kn : Int) ≤ (c : Int) := by omega
      clear hkn hkl
      obtain ⟨m, hm⟩ : ∃ m, n.2.kids[fr]? = some m := ⟨_, List.getElem?_eq_getElem hlt⟩
      obtain ⟨b1, FA, F2, FB, hF1, h6, h7, _⟩ := hk.kid hm
      have ci := own_cells hrX fr (ptr b1) (by simp [ptrs, h6])
      obtain ⟨hpos, hfk⟩ := fromK_lt hok hm
      gi_wp2
      generalize hkd : kn - fr = kd
      generalize c - fr = cd
      have hkd0 : (0 : Int) < (kd : Int) := by have := HKN.out; omega
      refine wpIn_loop_once ?_
      gi_wp2_with (refine ⟨trivial, ?_⟩; gi_at_call 86; refine (callsIn_wide.2 (all_any _ _)).mono ?_; rintro e w5 ⟨rfl, rfl⟩)
      have hmm : m ∈ n.2.kids := List.mem_of_getElem? hm
      have hNm : (nkv m).length ≤ 1099511627776 := Nat.le_trans (kid_le hmm) (by rw [kvs_ents]; unfold nents at hN; simp at hN ⊢; omega)
      have hseq := all_seq m 8 W (W.alloc (.cells #[ptr b1] 100)) none b1 W.heap.size F2 h7 (kid_ok hok.1 hmm) hNm
      have hF2 : ∀ j ∈ F2, j < w.heap.size := fun j hj => h.lt j (by rw [hF, hF1]; simp [hj])
      obtain ⟨X5, hX5⟩ : ∃ X5, X5 = W.alloc (.cells #[ptr b1] 100) := ⟨_, rfl⟩
      rw [← hX5] at hseq ⊢
      have hzW := hB.b1.lt
      have hB5 : AfB w X5 [] false := by rw [hX5]; exact ⟨hB.b0.alloc _, hB.b1.alloc _, hB.bel.alloc hB.bel.size _⟩
      have hb5 : Has X5 W.heap.size 100 #[ptr b1] := by rw [hX5]; exact Has.fresh _ _ _
      have hz5 : X5.heap.size = W.heap.size + 1 := by rw [hX5]; simp
      obtain ⟨bx, hbx⟩ : ∃ bx, bx = W.heap.size := ⟨_, rfl⟩
      have hW0 : ∀ j ∈ F2, W.heap[j]? = w.heap[j]? := fun j hj => hB.bel.block j (hF2 j hj)
      rw [← hbx] at hseq hb5 hz5 hzW ⊢
      have hkd : ∀ {Y : World}, Below w.heap.size w Y → Has Y bx 100 #[ptr b1] → AllD bx b1 F2 W Y := fun hY hb => ⟨hb, fun j hj => (hY.block j (hF2 j hj)).trans (hW0 j hj).symm⟩
      obtain ⟨key, hkey⟩ : ∃ key, key = ((nkv m).getD 0 ([], [])).1 := ⟨_, rfl⟩
      rw [← hkey] at hfk
      clear hX5 c4 c0 c1 f0 f1 hr hrX hb ci h6 h7 hk hF hF1 hW0 hbx hB
      refine wpIn_rangeFunc_S (D := AllD bx b1 F2 W) (N := (nkv m).length) rfl (by omega) (gf := 101) (lb := #[.pointer (some ⟨bx, 0, none⟩)]) rfl trivial (enters_of Try.func101 (by kernel_rfl) rfl)
        hseq (fun _ => rfl)
        (fun j T Y => j = 0 ∧ (∀ q, T q ↔ q = w.heap.size ∨ q = w.heap.size + 1) ∧ AfB w Y [] false ∧ Has Y bx 100 #[ptr b1])
        (fun cd j T Y => cd = .ret ∧ AfB w Y key true ∧ (∀ q, T q ↔ q = w.heap.size ∨ q = w.heap.size + 1) ∧ Has Y bx 100 #[ptr b1])
        (fun q => q = w.heap.size ∨ q = w.heap.size + 1) ?hI ?hIx ?hD ?hDx ?hB ?h0 ?a1 ?assign ?body ?done ?stop
      case hI =>
        rintro j T Y Z ⟨hj, hT, hA, hb⟩ hc
        exact ⟨hj, hT, hA.chg hc (by omega), (hc.block _ hb.lt (.inl (by omega))).trans hb⟩
      case hIx =>
        rintro cd j T Y Z ⟨hcd, hA, hT, hb⟩ hc
        exact ⟨hcd, hA.chg hc (by omega), hT, (hc.block _ hb.lt (.inl (by omega))).trans hb⟩
      case hD =>
        rintro j T Y ⟨_, _, hA, hb⟩
        exact hkd hA.bel hb
      case hDx =>
        rintro cd j T Y ⟨_, hA, _, hb⟩
        exact hkd hA.bel hb
      case hB =>
        rintro j T Y ⟨_, hT, hA, _⟩ q hq
        rcases (hT q).1 hq with h1 | h1
        · have := hA.b0.lt; omega
        · have := hA.b1.lt; omega
      case h0 => exact ⟨rfl, fun q => Iff.rfl, hB5, hb5⟩
      case assign =>
        intro l2 j Y K hK
        unfold encL
        gi_wp2
        exact hK
      case body =>
        rintro l2 j T Y ⟨rfl, hT, hA, hb⟩ hj hl2
        have hkey2 : ((nkv m)[0]?.getD ([], [])).1 = key := by rw [hkey]; simp [List.getD]
        simp only [hkey2]
        generalize ((nkv m)[0]?.getD ([], [])).2 = val
        have c0 := hA.c0
        have c1 := hA.c1
        have f0 := hA.b0.free 0
        have f1 := hA.b1.free 0
        have hp := hA.put key true
        have HP := Lib.hid hp
        have HA := Lib.hid hA
        have HT2 := Lib.hid hT
        have HB2 := Lib.hid hb
        clear hp hA hkey hkey2 hj hT hb
        gi_wp2
        refine ⟨T, ⟨rfl, HP.out, HT2.out, ?_⟩, ?_, fun q hq => .inl hq⟩
        · exact (HB2.out.far (p := ⟨w.heap.size, 0, none⟩) (by show bx ≠ w.heap.size; omega) _).far (p := ⟨w.heap.size + 1, 0, none⟩) (by show bx ≠ w.heap.size + 1; omega) _
        · exact ((FrS.refl T Y).setCell (p := ⟨w.heap.size, 0, none⟩) (.inl ((HT2.out _).2 (.inl rfl))) _).setCell (p := ⟨w.heap.size + 1, 0, none⟩) (.inl ((HT2.out _).2 (.inr rfl))) _
      case done =>
        rintro D T Y hD0 ⟨h0, _⟩ _ _ _ _
        omega
      case stop =>
        rintro D cd j T Y hD0 ⟨rfl, hA, hT, hb⟩ hfr' hsub hnD hKd
        have hA6 := hA.shut (D := D) (by omega) (.deferred none)
        clear hseq hA
        gi_wp2
        refine ⟨by simp, .inl ⟨_, _, rfl, run_takeDeferred hKd, ?_⟩⟩
        refine ⟨_, after_results rfl rfl hA6.c0 hA6.c1, ?_, hA6.bel⟩
        rw [← hres, hfk]; rfl
    · obtain ⟨A, c, hkv⟩ := own_form hr
      subst hkv
      have hk0 : fr = n.2.kids.length := by omega
      have hks : ks.length = fr := by omega
      have hcl : fr ≤ c := by rcases hr.2 with ⟨e, h0⟩ | ⟨g', cap, cur, e, _, _, hc, _⟩ <;> injection e with e1 e2 e3 <;> omega
      rw [hks] at c4
      have i1 : (0 : Int) ≤ (fr : Int) := by omega
      have i3 : (fr : Int) ≤ (c : Int) := by omega
      have hP := hB.put [] false
      have HP := Lib.hid hP
      have HN := Lib.hid (fromK_ge (n := n) (fr := fr) (by omega))
      clear hr hb hk hkn hP hB hks hk0 hge hfr hkle hkb
      gi_wp2
      all_goals
        refine wpIn_loop_once ?_
        gi_wp2
        exact ⟨_, after_results rfl rfl HP.out.c0 HP.out.c1, by rw [← hres, HN.out]; rfl, HP.out.bel⟩
  clear hK
  obtain ⟨W, hW⟩ : ∃ W, W = (w.alloc (.cells #[sv []] 28)).alloc (.cells #[.bool false] 4) := ⟨_, rfl⟩
  have hB : AfB w W [] false := by
    have f1 := Has.fresh (w.alloc (.cells #[sv []] 28)) 4 #[.bool false]
    simp only [World.size_alloc] at f1
    rw [hW]
    exact ⟨(Has.fresh w _ _).alloc _, f1, ((Below.refl _ w).alloc (Nat.le_refl _) _).alloc (by simp) _⟩
  rw [show (Value.string { data := #[] }) = sv [] from rfl, ← hW]
  clear hW
  subst hvv
  have HT' := Lib.hid HT
  have HB := Lib.hid hB
  cases q with
  | nil =>
    have e : ls = [] := by simpa using hq
    subst e
    have hres : fromK n 0 = r := by rw [hr0]; rfl
    clear HT hB IH hv hr0
    gi_wp2
    exact HT'.out 0 _ _ _ _ _ _ _ _ _ _ _ _ _ _ _ _ _ _ _ _ _ _ _ _ _ _ _ _ _ _ _ _ _ _ _ _ _ _ _ _ _ _ W (Nat.zero_le _) hres HB.out
  | cons x q' =>
    obtain ⟨l', hl'⟩ : ∃ l', ls = l' ++ [x] := ⟨q'.reverse, by rw [← List.reverse_reverse ls, hq]; simp⟩
    subst hl'
    have hq' : l'.reverse = q' := by simpa using hq
    obtain ⟨k, hk⟩ : ∃ k, l'.length = k := ⟨_, rfl⟩
    have hll : (l' ++ [x]).length = k + 1 := by simp [hk]
    have hv' := hv
    obtain ⟨A', c', e0, hc, hcell⟩ := hv'
    injection e0 with e1 _ e3
    subst e1 e3
    obtain ⟨gl, ol, rfl, hgC, hcs⟩ := hcell (by simp)
    have hcx : w.cell? ⟨gl, ol + k, none⟩ = some (sv x) := by
      rw [hcs k (by omega)]
      simp [← hk]
    have hgw : gl < w.heap.size := World.block_lt_of_cell? _ _ hcx
    have hcx' : W.cell? ⟨gl, ol + k, none⟩ = some (sv x) := (hB.bel.cell (p := ⟨gl, ol + k, none⟩) hgw).trans hcx
    have hnW := h.below hB.bel (Nat.le_refl _)
    have hpl := place_any hnW hok.1 (⟨x.toArray⟩ : ByteArray) (by have := kids_le hok.1; unfold nents at hN; simp at hN; omega)
    simp only at hpl
    rw [hll] at hc hls
    have HF : ∀ Q : Value → Prop, Q (.slice (some ⟨gl, ol, none⟩) (k + 1) c) → Q (.slice (some ⟨gl, ol, none⟩) (l' ++ [x]).length c) := fun Q hQ => by rw [hll]; exact hQ
    rw [hll] at HT' ⊢
    have hwr : IntKind.i64.wrap ((k : Int) + 1 - 1) = (k : Int) := by rw [IntKind.wrap_i64]; omega
    have hi0 : (0 : Int) ≤ (k : Int) := by omega
    have hi1 : (k : Int) < (k : Int) + 1 := by omega
    have hi2 : (k : Int) ≤ (c : Int) := by omega
    cases hs : n.2.sel x with
    | none =>
      rw [hs] at hpl
      simp only [Option.isSome_none] at hpl
      have HP := Lib.hid hpl
      have hres : fromK n (n.2.idx x) = r := by rw [hr0, aft, hs]; rfl
      have hidx := idx_le n.2 x
      clear HT hB IH hv hr0 hpl hs hcell hcs hll hq hq' hk HF h hnW
      gi_wp2_with (refine ⟨trivial, ?_⟩; gi_at_call 84; refine (callsIn_wide.2 HP.out).mono ?_; rintro e w5 ⟨rfl, hb5⟩)
      exact HT'.out (n.2.idx x) _ _ _ _ _ _ _ _ _ _ _ _ _ _ _ _ _ _ _ _ _ _ _ _ _ _ _ _ _ _ _ _ _ _ _ _ _ _ _ _ _ _ w5 hidx hres (HB.out.chg (Chg.of_below (n := W.heap.size) (S := fun _ => False) hb5 (Nat.le_refl _)) (by have := HB.out.b1.lt; omega))
    | some m =>
      rw [hs] at hpl
      simp only [Option.isSome_some] at hpl
      have HP := Lib.hid hpl
      have hidx : n.2.kids[n.2.idx x]? = some m := by
        rcases idx_sel hok.1 x with ⟨m', e1, e2⟩ | ⟨e1, _⟩
        · rw [hs] at e1; injection e1 with e1; rw [e1]; exact e2
        · rw [hs] at e1; cases e1
      have hilt := (List.getElem?_eq_some_iff.1 hidx).1
      obtain ⟨g, cap, ks, F1, b1, F2, hF1, hb, hr, hk2, c4, hil, ci, hnm⟩ := hnW.rowAt hidx
      have hokm := ok_sel hok.1 hs
      have hNm : (nents m).length ≤ 1099511627776 := by have := sel_ents_le hs; unfold nents at hN this ⊢; simp at hN this ⊢; omega
      have HI := Lib.hid (fun (Y : World) (hb : Below W.heap.size W Y) => IH x q' rfl (w := Y) (C := Y.heap.size) hq' (hnm.below hb (Nat.le_refl _)) hokm.1 hNm ((by
        refine ⟨_, _, rfl, by rw [hk]; omega, fun h0 => ⟨gl, ol, rfl, Nat.lt_of_lt_of_le hgw (Nat.le_trans hB.bel.size hb.size), fun j hj => ?_⟩⟩
        rw [hb.cell (p := ⟨gl, ol + j, none⟩) (Nat.lt_of_lt_of_le hgw hB.bel.size), hB.bel.cell (p := ⟨gl, ol + j, none⟩) hgw, hcs j (by simp; omega)]; simp [hj]) : Rd Y Y.heap.size (.slice (some ⟨gl, ol, none⟩) l'.length c) l') (by rw [hk]; omega))
      rw [hk] at HI
      have hr1 : r = (aft q' m).or (fromK n (n.2.idx x + 1)) := by rw [hr0, aft, hs]; rfl
      have hgW : g < W.heap.size := World.block_lt_of_cell? _ _ ci
      have hbW : b < W.heap.size := hnW.blk_lt
      have hklen : ks.length = n.2.kids.length := hk2.len
      have hkle := kids_le hok.1
      have hix : n.2.idx x < 1099511627776 := by unfold nents at hN; simp at hN; omega
      generalize aft q' m = r1 at *
      generalize n.2.idx x = ix at *
      have hx0 : (0 : Int) ≤ (ix : Int) := by omega
      have hx1 : (ix : Int) < (ks.length : Int) := by omega
      generalize ks.length = kn at *
      clear HT hB IH hv hr0 hpl hs hcell hcs hll hq hq' hk HF h hnW hidx hr hb hF1 hk2 hnm hokm hN hNm hklen hkle
      gi_wp2_with (refine ⟨trivial, ?_⟩; gi_at_call 84; refine (callsIn_wide.2 HP.out).mono ?_; rintro e w5 ⟨rfl, hb5⟩; have c4' := (hb5.cell (p := ⟨b, 4, none⟩) hbW).trans c4; have ci' := (hb5.cell (p := ⟨g, ix, none⟩) hgW).trans ci; have HB5 := Lib.hid hb5; clear c4 ci hb5)
      refine wpIn_mono (Q := fun e a' W' => e = .normal ∧ ∃ u7 u9 u12 u13 u14 u15 u16 u17 u18 u19 u20 u21 u22 u23 u24 u25 u26 u27 u28 u29 u30 u31 u32 u33 u34 u35 u36 u37 u38 u39 u40 u41 u42 u43 u44 u45 u46 u47 u48, a' = { tmps := #[ptr b, .slice (some ⟨gl, ol, none⟩) (k + 1) c, undef, undef, .pointer (some ⟨w.heap.size, 0, none⟩), .pointer (some ⟨w.heap.size + 1, 0, none⟩), .int .i64 0, u7, .int .i64 ix, u9, .string ⟨(r1.getD []).toArray⟩, .bool r1.isSome, u12, u13, u14, u15, u16, u17, u18, u19, u20, u21, u22, u23, u24, u25, u26, u27, u28, u29, u30, u31, u32, u33, u34, u35, u36, u37, u38, u39, u40, u41, u42, u43, u44, u45, u46, u47, u48, undef, undef, undef, undef, undef, undef, undef, undef, undef, undef, undef, undef, undef, undef, undef, undef, undef], defers := [] } ∧ AfB w W' [] false) ?_ ?_
      rotate_left
      · rintro e a' W' ⟨rfl, u7, u9, u12, u13, u14, u15, u16, u17, u18, u19, u20, u21, u22, u23, u24, u25, u26, u27, u28, u29, u30, u31, u32, u33, u34, u35, u36, u37, u38, u39, u40, u41, u42, u43, u44, u45, u46, u47, u48, rfl, hB6⟩
        have HB6 := Lib.hid hB6
        have c0 := hB6.c0
        have c1 := hB6.c1
        have f0 := hB6.b0.free 0
        have f1 := hB6.b1.free 0
        clear hB6
        dsimp only
        cases r1 with
        | none =>
          have hwr2 : IntKind.i64.wrap ((ix : Int) + 1) = ((ix + 1 : Nat) : Int) := by rw [IntKind.wrap_i64]; omega
          have hres : fromK n (ix + 1) = r := by rw [hr1]; rfl
          gi_wp2
          exact HT'.out (ix + 1) _ _ _ _ _ _ _ _ _ _ _ _ _ _ _ _ _ _ _ _ _ _ _ _ _ _ _ _ _ _ _ _ _ _ _ _ _ _ _ _ _ _ W' (by omega) hres HB6.out
        | some key =>
          have HP6 := Lib.hid (HB6.out.put key true)
          gi_wp2
          exact ⟨_, after_results rfl rfl HP6.out.c0 HP6.out.c1, by rw [hr1]; rfl, HP6.out.bel⟩
      have mixed : Try.prog.follows .mixedOrders = true := by kernel_rfl
      have hS0 : (fun X : World => X.cell? ⟨b, 4, none⟩ = some (.slice (some ⟨g, 0, none⟩) kn cap) ∧ X.cell? ⟨g, ix, none⟩ = some (ptr b1)) w5.drew := ⟨c4', ci'⟩
      refine wpIn_region_S2 (S := fun X : World => X.cell? ⟨b, 4, none⟩ = some (.slice (some ⟨g, 0, none⟩) kn cap) ∧ X.cell? ⟨g, ix, none⟩ = some (ptr b1)) mixed 16 #[false, false, false, false, false, false, false, false, false, false, false, false, false, false, false, false] rfl rfl ?_
      refine wpAnyS_take (i := 0) (v := ptr b) rfl (by kernel_rfl) (by kernel_rfl) (by kernel_rfl) (by kernel_rfl) (fun _ _ _ h => by cases h.1) ⟨Or.inl ⟨by rfl, fun W' hW' => (by go_simp)⟩, rfl, fun _ => rfl⟩ hS0 ?_
      simp only [Act.put, List.getElem_toArray, List.getElem_cons_zero, List.setIfInBounds_toArray, List.set_cons_zero, List.set_cons_succ]
      refine wpAnyS_take (i := 1) (v := ptr b) rfl (by kernel_rfl) (by kernel_rfl) (by kernel_rfl) (by kernel_rfl) (fun _ _ _ h => by cases h.1) ⟨Or.inl ⟨by rfl, fun W' hW' => (by go_simp)⟩, rfl, fun _ => rfl⟩ hS0 ?_
      simp only [Act.put, List.getElem_toArray, List.getElem_cons_zero, List.getElem_cons_succ, List.setIfInBounds_toArray, List.set_cons_zero, List.set_cons_succ]
      refine wpAnyS_take (i := 2) (v := .pointer (some ⟨b, 4, none⟩)) rfl (by kernel_rfl) (by kernel_rfl) (by kernel_rfl) (by kernel_rfl) (fun _ _ _ h => by cases h.1) ⟨Or.inl ⟨by rfl, fun W' hW' => (by go_simp)⟩, rfl, fun _ => rfl⟩ hS0 ?_
      simp only [Act.put, List.getElem_toArray, List.getElem_cons_zero, List.getElem_cons_succ, List.setIfInBounds_toArray, List.set_cons_zero, List.set_cons_succ]
      refine wpAnyS_take (i := 3) (v := .slice (some ⟨g, 0, none⟩) kn cap) rfl (by kernel_rfl) (by kernel_rfl) (by kernel_rfl) (by kernel_rfl) (fun _ _ _ h => by cases h.1) ⟨Or.inl ⟨by rfl, fun W' hW' => (by have := hW'.1; go_simp)⟩, rfl, fun _ => rfl⟩ hS0 ?_
      simp only [Act.put, List.getElem_toArray, List.getElem_cons_zero, List.getElem_cons_succ, List.setIfInBounds_toArray, List.set_cons_zero, List.set_cons_succ]
      refine wpAnyS_take (i := 4) (v := .int .i64 ix) rfl (by kernel_rfl) (by kernel_rfl) (by kernel_rfl) (by kernel_rfl) (fun _ _ _ h => by cases h.1) ⟨Or.inl ⟨by rfl, fun W' hW' => (by go_simp)⟩, rfl, fun _ => rfl⟩ hS0 ?_
      simp only [Act.put, List.getElem_toArray, List.getElem_cons_zero, List.getElem_cons_succ, List.setIfInBounds_toArray, List.set_cons_zero, List.set_cons_succ]
      refine wpAnyS_take (i := 5) (v := .pointer (some ⟨g, ix, none⟩)) rfl (by kernel_rfl) (by kernel_rfl) (by kernel_rfl) (by kernel_rfl) (fun _ _ _ h => by cases h.1) ⟨Or.inl ⟨by rfl, fun W' hW' => (by go_simp)⟩, rfl, fun _ => rfl⟩ hS0 ?_
      simp only [Act.put, List.getElem_toArray, List.getElem_cons_zero, List.getElem_cons_succ, List.setIfInBounds_toArray, List.set_cons_zero, List.set_cons_succ]
      refine wpAnyS_take (i := 6) (v := ptr b1) rfl (by kernel_rfl) (by kernel_rfl) (by kernel_rfl) (by kernel_rfl) (fun _ _ _ h => by cases h.1) ⟨Or.inl ⟨by rfl, fun W' hW' => (by have := hW'.2; go_simp)⟩, rfl, fun _ => rfl⟩ hS0 ?_
      simp only [Act.put, List.getElem_toArray, List.getElem_cons_zero, List.getElem_cons_succ, List.setIfInBounds_toArray, List.set_cons_zero, List.set_cons_succ]
      refine wpAnyS_take (i := 7) (v := .slice (some ⟨gl, ol, none⟩) (k + 1) c) rfl (by kernel_rfl) (by kernel_rfl) (by kernel_rfl) (by kernel_rfl) (fun _ _ _ h => by cases h.1) ⟨Or.inl ⟨by rfl, fun W' hW' => (by go_simp)⟩, rfl, fun _ => rfl⟩ hS0 ?_
      simp only [Act.put, List.getElem_toArray, List.getElem_cons_zero, List.getElem_cons_succ, List.setIfInBounds_toArray, List.set_cons_zero, List.set_cons_succ]
      refine wpAnyS_take (i := 8) (v := .int .i64 k) rfl (by kernel_rfl) (by kernel_rfl) (by kernel_rfl) (by kernel_rfl) (fun _ _ _ h => by cases h.1) ⟨Or.inl ⟨by rfl, fun W' hW' => (by go_simp)⟩, rfl, fun _ => rfl⟩ hS0 ?_
      simp only [Act.put, List.getElem_toArray, List.getElem_cons_zero, List.getElem_cons_succ, List.setIfInBounds_toArray, List.set_cons_zero, List.set_cons_succ]
      refine wpAnyS_take (i := 9) (v := .slice (some ⟨gl, ol, none⟩) k c) rfl (by kernel_rfl) (by kernel_rfl) (by kernel_rfl) (by kernel_rfl) (fun _ _ _ h => by cases h.1) ⟨Or.inl ⟨by rfl, fun W' hW' => (by go_simp)⟩, rfl, fun _ => rfl⟩ hS0 ?_
      simp only [Act.put, List.getElem_toArray, List.getElem_cons_zero, List.getElem_cons_succ, List.setIfInBounds_toArray, List.set_cons_zero, List.set_cons_succ]
      refine wpAnyS_ready (rs := [10]) (by kernel_rfl) (by simp) (AllS.cons rfl rfl (fun K2 hK2 => ?_) AllS.nil)
      go_simp
      refine ⟨trivial, ?_⟩
      refine (callsIn_wide.2 (HI.out w5.drew HB5.out.drew)).mono ?_
      rintro e w6 ⟨rfl, hb6⟩
      dsimp only
      have hS2 : (fun X : World => X.cell? ⟨b, 4, none⟩ = some (.slice (some ⟨g, 0, none⟩) kn cap) ∧ X.cell? ⟨g, ix, none⟩ = some (ptr b1)) w6 := ⟨(hb6.cell (p := ⟨b, 4, none⟩) (Nat.lt_of_lt_of_le hbW HB5.out.size)).trans c4', (hb6.cell (p := ⟨g, ix, none⟩) (Nat.lt_of_lt_of_le hgW HB5.out.size)).trans ci'⟩
      refine hK2 _ _ hS2 ?_
      clear hK2 K2 hS0
      have HB6 := Lib.hid ((HB.out.chg (Chg.of_below (n := W.heap.size) (S := fun _ => False) HB5.out.drew (Nat.le_refl _)) (by have := HB.out.b1.lt; omega)).chg (Chg.of_below (n := w5.drew.heap.size) (S := fun _ => False) hb6 (Nat.le_refl _)) (by have := HB.out.b1.lt; have := HB5.out.size; show _ < w5.heap.size; omega))
      clear hb6
      unfold optB
      refine wpAnyS_take (i := 11) (v := .tuple #[.string ⟨(r1.getD []).toArray⟩, .bool r1.isSome]) rfl (by kernel_rfl) (by kernel_rfl) (by kernel_rfl) (by kernel_rfl) (fun _ _ _ h => by cases h.1) ⟨Or.inl ⟨by rfl, fun W' hW' => (by go_simp)⟩, rfl, fun _ => rfl⟩ hS2 ?_
      simp only [Act.put, List.getElem_toArray, List.getElem_cons_zero, List.getElem_cons_succ, List.setIfInBounds_toArray, List.set_cons_zero, List.set_cons_succ]
      refine wpAnyS_take (i := 12) (v := .string ⟨(r1.getD []).toArray⟩) rfl (by kernel_rfl) (by kernel_rfl) (by kernel_rfl) (by kernel_rfl) (fun _ _ _ h => by cases h.1) ⟨Or.inl ⟨by rfl, fun W' hW' => (by go_simp)⟩, rfl, fun _ => rfl⟩ hS2 ?_
      simp only [Act.put, List.getElem_toArray, List.getElem_cons_zero, List.getElem_cons_succ, List.setIfInBounds_toArray, List.set_cons_zero, List.set_cons_succ]
      refine wpAnyS_take (i := 13) (v := .bool r1.isSome) rfl (by kernel_rfl) (by kernel_rfl) (by kernel_rfl) (by kernel_rfl) (fun _ _ _ h => by cases h.1) ⟨Or.inl ⟨by rfl, fun W' hW' => (by go_simp)⟩, rfl, fun _ => rfl⟩ hS2 ?_
      simp only [Act.put, List.getElem_toArray, List.getElem_cons_zero, List.getElem_cons_succ, List.setIfInBounds_toArray, List.set_cons_zero, List.set_cons_succ]
      refine wpAnyS_take (i := 14) (v := .string ⟨(r1.getD []).toArray⟩) rfl (by kernel_rfl) (by kernel_rfl) (by kernel_rfl) (by kernel_rfl) (fun _ _ _ h => by cases h.1) ⟨Or.inl ⟨by rfl, fun W' hW' => (by go_simp)⟩, rfl, fun _ => rfl⟩ hS2 ?_
      simp only [Act.put, List.getElem_toArray, List.getElem_cons_zero, List.getElem_cons_succ, List.setIfInBounds_toArray, List.set_cons_zero, List.set_cons_succ]
      refine wpAnyS_take (i := 15) (v := .bool r1.isSome) rfl (by kernel_rfl) (by kernel_rfl) (by kernel_rfl) (by kernel_rfl) (fun _ _ _ h => by cases h.1) ⟨Or.inl ⟨by rfl, fun W' hW' => (by go_simp)⟩, rfl, fun _ => rfl⟩ hS2 ?_
      simp only [Act.put, List.getElem_toArray, List.getElem_cons_zero, List.getElem_cons_succ, List.setIfInBounds_toArray, List.set_cons_zero, List.set_cons_succ]
      refine wpAnyS_done (by kernel_rfl) ?_ _
      exact ⟨rfl, _, _, _, _, _, _, _, _, _, _, _, _, _, _, _, _, _, _, _, _, _, _, _, _, _, _, _, _, _, _, _, _, _, _, _, _, _, _, _, rfl, HB6.out⟩
theorem after_any : ∀ (q : List By), AftP q
  | [] => after_step [] (fun x q' e => by cases e)
  | x :: q => after_step (x :: q) (fun y q' e => by injection e with _ e; exact e ▸ after_any q)
end Go.Proofs.Ytpnfkgjcnofjnaa.Ts
/- A tree is asked for the key behind a name. -/
namespace Go.Proofs.Ytpnfkgjcnofjnaa.Ts
open Go.RowKit Go.Shelf Tr

/-- what Next tells. -/
def nextR (n : No TV) (s : By) : Option By := if isN s then (gtE (pth s) (nents n)).map (·.k) else none
set_option maxRecDepth 100000 in
set_option maxHeartbeats 1000000 in
theorem Next_any {w : World} {b : Nat} {n : No TV} {F : List Nat} (h : TM w b n F) (s : ByteArray) (hs : s.size ≤ 140737488355328) :
    Calls Try.prog 38 #[ptr b, .string s] w fun e w' => e = .returned (optB (nextR n s.data.toList)) ∧ Below w.heap.size w w' := by
  have HK := Lib.hid (keyOf_any s w hs)
  have HL := Lib.hid (key_labels s hs)
  unfold nextR
  cases hn : isN s.data.toList with
  | false =>
    simp only [hn, Bool.false_eq_true, if_false] at HK ⊢
    clear hn h
    go_enter Try.func38, Try.ntmps38
    go_wp2_with (go_at_call 42; refine HK.out.mono ?_; rintro e w1 ⟨rfl, hb1⟩)
    go_ret2
    exact ⟨rfl, hb1⟩
  | true =>
    simp only [hn, if_true] at HK ⊢
    rw [← aft_ents h.ok]
    have hq : (labelsOf (Nm.fold s.data.toList)).reverse = pth s.data.toList := rfl
    have hfew := labs_few (Nm.fold s.data.toList)
    generalize labelsOf (Nm.fold s.data.toList) = ls at *
    have HAF := Lib.hid (fun (w1 : World) (A : Option Addr) (c : Nat) (hr : Rd w1 w1.heap.size (.slice A ls.length c) ls) (hb : Below w.heap.size w w1) => after_any _ hq (h.node.below hb (Nat.le_refl _)) h.ok (Nat.le_trans h.few (by decide)) hr (by omega))
    generalize aft (pth s.data.toList) n = r at *
    simp only [optB] at HAF ⊢
    clear hn h hq hfew
    go_enter Try.func38, Try.ntmps38
    go_wp2_with (go_at_call 42; refine HK.out.mono ?_; rintro e w1 ⟨rfl, hb1⟩)
    have hb1d := hb1.drew
    go_region_held3 (fun W => w.heap.size ≤ W.heap.size) (first | exact hb14.size | exact hb12.size | exact hb1d.size) (first
      | (go_at_call 44; refine (HL.out _).mono ?_; rintro e w2 ⟨A, c, rfl, hr2, hg2, hb2⟩; have HR2 := Lib.hid hr2; have hb12 := hb1d.trans (hb2.mono hb1.size); clear hr2 hg2)
      | (go_at_call 68; refine (HAF.out _ _ _ HR2.out hb12).mono ?_; rintro e w3 ⟨rfl, hb3⟩; have hb14 := hb12.trans (hb3.mono hb12.size)))
    go_wp2
    go_ret2
    exact ⟨rfl, hb14⟩
end Go.Proofs.Ytpnfkgjcnofjnaa.Ts
/- What a nil tree answers. -/
namespace Go.Proofs.Ytpnfkgjcnofjnaa.Ti
open Go.RowKit Go.Shelf Tr
attribute [local go_sem] Oper.semAt_some
theorem BelowN_any (s : ByteArray) (w : World) :
    Calls Try.prog 53 #[.pointer none, .string s] w fun e w' => e = .returned (.func (.func 81) #[] #[.pointer (some ⟨w.heap.size, 0, none⟩), .pointer (some ⟨w.heap.size + 1, 0, none⟩)]) ∧ w' = (w.alloc (.cells #[.pointer none] 24)).alloc (.cells #[.string s] 28) := by
  go_enter Try.func53, Try.ntmps53
  go_wp2
  go_ret
  exact ⟨rfl, rfl⟩
theorem AllN_any (w : World) :
    Calls Try.prog 33 #[.pointer none] w fun e w' => e = .returned (.func (.func 81) #[] #[.pointer (some ⟨w.heap.size, 0, none⟩), .pointer (some ⟨w.heap.size + 1, 0, none⟩)]) ∧ w' = (w.alloc (.cells #[.pointer none] 24)).alloc (.cells #[.string ⟨#[0]⟩] 28) := by
  go_enter Try.func33, Try.ntmps33
  go_wp2_with (go_at_call 53; refine (BelowN_any ⟨#[0]⟩ _).mono ?_; rintro e w1 ⟨rfl, rfl⟩)
  go_ret
  exact ⟨rfl, rfl⟩
theorem keyB_any (s : ByteArray) (w : World) (hs : s.size ≤ 140737488355328) : Calls Try.prog 42 #[.string s] w fun e w' => ∃ x y, e = .returned (.tuple #[.string x, .bool y]) ∧ Below w.heap.size w w' := by
  refine (keyOf_any s w hs).mono fun e w' h => ?_
  by_cases hn : isN s.data.toList = true
  · simp only [hn, if_true] at h
    exact ⟨_, _, h.1, h.2⟩
  · simp only [hn] at h
    exact ⟨_, _, h.1, h.2⟩
theorem findN_any (s : ByteArray) (w : World) (hs : s.size ≤ 140737488355328) : Calls Try.prog 58 #[.pointer none, .string s] w fun e w' => e = .returned (.pointer none) ∧ Below w.heap.size w w' := by
  have HK := Lib.hid (keyB_any s w hs)
  go_enter Try.func58, Try.ntmps58
  go_wp2_with (go_at_call 42; refine HK.out.mono ?_; rintro e w1 ⟨x, y, rfl, hb1⟩)
  go_ret
  exact ⟨rfl, hb1⟩
theorem pairsN_any (s : ByteArray) (w : World) (hs : s.size ≤ 140737488355328) : Calls Try.prog 82 #[.pointer none, .string s] w fun e w' => ∃ v, e = .returned v ∧ w'.ownsRow w.heap.size 122 2 v ([] : List (By × TV)).length (fl pc []) ∧ Below w.heap.size w w' := by
  have HF := Lib.hid (findN_any s w hs)
  go_enter Try.func82, Try.ntmps82
  go_wp2_with (go_at_call 58; refine HF.out.mono ?_; rintro e w1 ⟨rfl, hb1⟩)
  go_ret
  exact ⟨_, rfl, ⟨by simp [fl], .inl ⟨rfl, rfl⟩⟩, hb1⟩
theorem PutN_any (s : ByteArray) (v : Int) (w : World) : Calls Try.prog 12 #[.pointer none, .string s, .int .i64 v] w fun e w' => e = .returned (.tuple #[.bool false, .int .i64 8]) ∧ w' = w := by
  go_enter Try.func12, Try.ntmps12
  go_wp2
  go_ret2
  exact ⟨rfl, rfl⟩
theorem GetN_any (s : ByteArray) (w : World) (hs : s.size ≤ 140737488355328) : Calls Try.prog 26 #[.pointer none, .string s] w fun e w' => e = .returned (.tuple #[.int .i64 0, .bool false]) ∧ Below w.heap.size w w' := by
  have HF := Lib.hid (findN_any s w hs)
  go_enter Try.func26, Try.ntmps26
  go_wp2_with (go_at_call 58; refine HF.out.mono ?_; rintro e w1 ⟨rfl, hb1⟩)
  go_ret2
  exact ⟨rfl, hb1⟩
theorem NextN_any (s : ByteArray) (w : World) (hs : s.size ≤ 140737488355328) : Calls Try.prog 25 #[.pointer none, .string s] w fun e w' => e = .returned (.tuple #[.string ⟨#[]⟩, .bool false]) ∧ Below w.heap.size w w' := by
  have HK := Lib.hid (keyB_any s w hs)
  go_enter Try.func25, Try.ntmps25
  go_wp2_with (go_at_call 42; refine HK.out.mono ?_; rintro e w1 ⟨x, y, rfl, hb1⟩)
  go_ret2
  exact ⟨rfl, hb1⟩
theorem LenN_any (w : World) : Calls Try.prog 11 #[.pointer none] w fun e w' => e = .returned (.int .i64 0) ∧ w' = w := by
  go_enter Try.func11, Try.ntmps11
  go_wp2
  go_ret
  exact ⟨rfl, rfl⟩
theorem EnclN_any (s : ByteArray) (w : World) (hs : s.size ≤ 140737488355328) : Calls Try.prog 30 #[.pointer none, .string s] w fun e w' => e = .returned (.tuple #[.string ⟨#[]⟩, .bool false]) ∧ Below w.heap.size w w' := by
  have HK := Lib.hid (keyB_any s w hs)
  go_enter Try.func30, Try.ntmps30
  go_wp2_with (first
    | (go_at_call 42; refine HK.out.mono ?_; rintro e w1 ⟨x, y, rfl, hb1⟩)
    | (go_at_call 11; refine (LenN_any _).mono ?_; rintro e w2 ⟨rfl, rfl⟩))
  go_ret2
  exact ⟨rfl, hb1⟩
theorem ExisN_any (s : ByteArray) (w : World) (hs : s.size ≤ 140737488355328) : Calls Try.prog 31 #[.pointer none, .string s] w fun e w' => e = .returned (.bool false) ∧ Below w.heap.size w w' := by
  have HF := Lib.hid (findN_any s w hs)
  go_enter Try.func31, Try.ntmps31
  go_wp2_with (go_at_call 58; refine HF.out.mono ?_; rintro e w1 ⟨rfl, hb1⟩)
  go_ret
  exact ⟨rfl, hb1⟩
theorem DelN_any (s : ByteArray) (w : World) (hs : s.size ≤ 140737488355328) : Calls Try.prog 14 #[.pointer none, .string s] w fun e w' => e = .returned (.bool false) ∧ Below w.heap.size w w' := by
  have HK := Lib.hid (keyB_any s w hs)
  go_enter Try.func14, Try.ntmps14
  go_wp2_with (go_at_call 42; refine HK.out.mono ?_; rintro e w1 ⟨x, y, rfl, hb1⟩)
  all_goals (go_region; go_wp2; go_ret; exact ⟨rfl, hb1.drew⟩)
set_option maxRecDepth 100000 in
set_option maxHeartbeats 2000000 in
theorem belN_seq {w : World} (s : ByteArray) (hs : s.size ≤ 140737488355328) {bt bn : Nat} (hbt : Has w bt 24 #[.pointer none]) (hbn : Has w bn 28 #[.string s]) (m0 : Nat) (L : List (By × TV)) (hL : L = []) :
    SeqS Fence.wide m0 Try.prog 81 #[.pointer (some ⟨bt, 0, none⟩), .pointer (some ⟨bn, 0, none⟩)] (encL L) (fun _ => True) L.length w := by
  intro l J Jx W S hbel hl hJ hJx hD hDx hS hY h0
  refine callsIn_any (n := 9) ?_
  have HY := Lib.hid (fun i S W1 h hi => yieldAt_wide 8 (hY i S W1 h hi))
  have HS := Lib.hid hS
  have HJ := Lib.hid hJ
  have HJX := Lib.hid hJx
  have HB0 := Lib.hid h0
  have c0 : W.cell? ⟨bt, 0, none⟩ = some (.pointer none) := (hbel.cell (p := ⟨bt, 0, none⟩) hbt.lt).trans (by rw [hbt.cell]; rfl)
  have c1 : W.cell? ⟨bn, 0, none⟩ = some (.string s) := (hbel.cell (p := ⟨bn, 0, none⟩) hbn.lt).trans (by rw [hbn.cell]; rfl)
  have HP := Lib.hid (pairsN_any s W hs)
  rw [← hL] at HP
  have hlen : L.length ≤ 1000000 := by
    rw [hL]; simp
  clear hY hD hDx hJ hJx hS h0 hbel hbt hbn hL
  refine callsIn_of_wp Try.func81 rfl trivial ?_ rfl
  simp only [Try.ntmps81, List.size_toArray, List.length_cons, List.length_nil, Nat.reduceAdd, Nat.reduceSub, Array.replicate_succ, Array.replicate_zero, List.push_toArray, List.append_toArray, List.nil_append, List.cons_append]
  obtain ⟨N, hN⟩ : ∃ N, L.length = N := ⟨_, rfl⟩
  gi_wp2_with (refine ⟨trivial, ?_⟩; gi_at_call 82; refine (callsIn_wide.2 HP.out).mono ?_; rintro e w1 ⟨v, rfl, hr1, hb1⟩; have hB1 : BtS J S l W v L 0 S w1 := ⟨HJ.out _ _ _ _ HB0.out (Chg.of_below hb1 (Nat.le_refl _)), FrS.of_below hb1 (Nat.le_refl _) _, fun j hj => .inl hj, hr1, fun q hq hi => (by have := HS.out _ _ _ HB0.out q hi; have := (hr1.lt q hq).1; omega)⟩; obtain ⟨A, c, rfl, hlc⟩ := ownK_form hr1; rw [hN] at hB1 hlc ⊢; clear hr1 hb1)
  have HN := Lib.hid hN
  have HB1 := Lib.hid hB1
  rw [hN] at hlen
  clear hN hB1 HP HB0 c0 c1
  gi_loopw [10] (fun i wr => ∃ (k : Nat) (S' : Bl), k ≤ N ∧ i = .int .i64 k ∧ Hid (BtS J S l W (.slice A N c) L k S' wr)) (fun i _ => N - (intOf i).toNat)
  case atStart => exact ⟨0, S, Nat.zero_le _, rfl, HB1⟩
  case round =>
    obtain ⟨k, S', hk, rfl, HB⟩ := hrel
    rcases Nat.lt_or_ge k N with hlt | hge
    · have hkL : k < L.length := by have := HN.out; omega
      obtain ⟨g, cp, cur, hv, _, hbg, hgl, hg, ht⟩ := ownK_pos HB.out.row (by have := HN.out; omega)
      rw [HN.out] at hv
      injection hv with e1 _ e3
      subst e1 e3
      obtain ⟨kv, hkv⟩ : ∃ kv, L[k] = kv := ⟨_, rfl⟩
      have hra : wr.rangeAt g (k * 2) [sv kv.1, tz kv.2] := fun j u hu => by
        rw [cell_of_row wr g _ cur _ (0, 0) hg]
        exact take_at ht (by rw [fl_get pc_len L hkL (List.getElem?_eq_some_iff.1 hu).1, hkv]; exact hu)
      have i0 : (0 : Int) ≤ (k : Int) := by omega
      have i1 : (k : Int) < (N : Int) := by omega
      have hi2 : (Try.prog.info? 122).map (·.size) = some 2 := by kernel_rfl
      have HI2 := Lib.hid hi2
      have hwr : IntKind.i64.wrap ((k : Int) + 1) = ((k + 1 : Nat) : Int) := by rw [IntKind.wrap_i64]; omega
      have hbX : Below wr.heap.size wr (wr.alloc (.cells #[.string ⟨kv.1.toArray⟩, .int .i64 kv.2] 122)) := (Below.refl _ wr).alloc (Nat.le_refl _) _
      have hBX := HB.out.below HJ.out hbX (Nat.le_refl _)
      have hY := HY.out _ _ _ hBX.at_ hkL
      have he : encL L k = #[.string ⟨kv.1.toArray⟩, .int .i64 kv.2] := by simp [encL, hkL, hkv]
      rw [he] at hY
      obtain ⟨fn, tmps, assign, body, hy, hR⟩ := hY
      have HBX := Lib.hid hBX
      clear hg ht hi2 hBX hbX hkv he
      gi_wp2_with (refine wpListIn_load_mid rfl 122 (.tmp 12) rfl g (k * 2) rfl [sv kv.1, tz kv.2] _ hra Try.underlying122 rfl HI2.out ?_; clear hra)
      refine hR.mono ?_
      rintro e Y2 (⟨rfl, S5, hj5, hf5, hs5⟩ | ⟨rfl, S5, hj5, hf5, hs5⟩)
      · have HB5 := Lib.hid (HBX.out.step hl hj5 hf5 hs5)
        clear hj5 hf5 hs5
        gi_wp2
        go_roundw
        case rel => exact ⟨k + 1, S5, by omega, rfl, HB5⟩
        case measure => simp [intOf]; omega
      · have HB5 := Lib.hid (HBX.out.step hl hj5 hf5 hs5)
        clear hj5 hf5 hs5
        gi_wp2
        refine bodyPost_ret (results_none rfl _ _ _) rfl ?_
        exact ⟨⟨_, rfl⟩, .inr ⟨_, S5, HB5.out.at_, HB5.out.fr, HB5.out.sub⟩⟩
    · obtain rfl : k = N := by omega
      have hneg : ¬ ((k : Int) < (k : Int)) := by omega
      gi_wp2
      go_end0
      exact ⟨⟨_, rfl⟩, .inl ⟨S', by rw [HN.out]; exact HB.out.at_, HB.out.fr, HB.out.sub⟩⟩
set_option maxRecDepth 100000 in
set_option maxHeartbeats 2000000 in
theorem lawAllN_any {w : World} :
    Calls Try.prog 20 #[.pointer none] w fun e w' => ∃ v, e = .returned v ∧ PRow w' w.heap.size v ([] : List (By × TV)) ∧ Below w.heap.size w w' := by
  have hlen : ([] : List (By × TV)).length ≤ 1000000 := by simp
  obtain ⟨L, hL⟩ : ∃ L, L = ([] : List (By × TV)) := ⟨_, rfl⟩
  rw [← hL] at hlen ⊢
  have hw1 : Below w.heap.size w (w.alloc (.cells #[.slice none 0 0] 27)) := (Below.refl _ w).alloc (Nat.le_refl _) _
  have hw2 : Below w.heap.size w ((w.alloc (.cells #[.slice none 0 0] 27)).alloc (.cells #[.pointer none] 24)) := hw1.alloc (by simp) _
  have hw3 : Below w.heap.size w (((w.alloc (.cells #[.slice none 0 0] 27)).alloc (.cells #[.pointer none] 24)).alloc (.cells #[.string ⟨#[0]⟩] 28)) := hw2.alloc (by simp; omega) _
  refine (callsIn_wide (n := 9)).1 ?_
  refine callsIn_of_wp_marks Try.func20 rfl trivial ?_ rfl
  simp only [Try.ntmps20, List.size_toArray, List.length_cons, List.length_nil, Nat.reduceAdd, Nat.reduceSub, Array.replicate_succ, Array.replicate_zero, List.push_toArray, List.append_toArray, List.nil_append, List.cons_append]
  gi_wp2_with (refine ⟨trivial, ?_⟩; gi_at_call 33; refine (callsIn_wide.2 (AllN_any _)).mono ?_; rintro e w5 ⟨rfl, rfl⟩)
  have hb1 : Has (((w.alloc (.cells #[.slice none 0 0] 27)).alloc (.cells #[.pointer none] 24)).alloc (.cells #[.string ⟨#[0]⟩] 28)) (w.heap.size + 1) 24 #[.pointer none] := by
    have := (Has.fresh (w.alloc (.cells #[.slice none 0 0] 27)) 24 #[.pointer none]).alloc (.cells #[.string ⟨#[0]⟩] 28)
    simpa only [World.size_alloc] using this
  have hb2 : Has (((w.alloc (.cells #[.slice none 0 0] 27)).alloc (.cells #[.pointer none] 24)).alloc (.cells #[.string ⟨#[0]⟩] 28)) (w.heap.size + 1 + 1) 28 #[.string ⟨#[0]⟩] := by
    have := Has.fresh ((w.alloc (.cells #[.slice none 0 0] 27)).alloc (.cells #[.pointer none] 24)) 28 #[.string ⟨#[0]⟩]
    simpa only [World.size_alloc] using this
  have hseq := belN_seq ⟨#[0]⟩ (by decide) hb1 hb2 8 L hL
  have hB5 : ClB w (((w.alloc (.cells #[.slice none 0 0] 27)).alloc (.cells #[.pointer none] 24)).alloc (.cells #[.string ⟨#[0]⟩] 28)) w.heap.size (.slice none 0 0) [] := ⟨((Has.fresh w _ _).alloc _).alloc _, ⟨by simp [fl], .inl ⟨rfl, rfl⟩⟩, hw3⟩
  obtain ⟨X5, hX5⟩ : ∃ X5, X5 = (((w.alloc (.cells #[.slice none 0 0] 27)).alloc (.cells #[.pointer none] 24)).alloc (.cells #[.string ⟨#[0]⟩] 28)) := ⟨_, rfl⟩
  have hz5 : X5.heap.size = w.heap.size + 3 := by rw [hX5]; simp
  rw [← hX5] at hseq hB5 ⊢
  clear hX5 hw1 hw2 hw3 hb1 hb2 hL
  refine wpIn_rangeFunc_S (D := fun _ => True) (N := L.length) rfl (by omega) (gf := 81) (lb := #[.pointer (some ⟨w.heap.size + 1, 0, none⟩), .pointer (some ⟨w.heap.size + 1 + 1, 0, none⟩)]) rfl trivial (enters_of Try.func81 (by kernel_rfl) rfl)
    hseq (fun _ => rfl)
    (fun j T Y => ∃ v, (∀ q, T q ↔ ClT w.heap.size v q) ∧ ClB w Y w.heap.size v (L.take j))
    (fun _ _ _ _ => False)
    (ClT w.heap.size (.slice none 0 0)) ?hI ?hIx ?hD ?hDx ?hB ?h0 ?a1 ?assign ?body ?done ?stop
  case hI =>
    rintro j T Y Z ⟨v, hT, hB⟩ hc
    exact ⟨v, hT, hB.chg hc (by omega) (by omega) hT⟩
  case hIx => exact fun _ _ _ _ _ h _ => h
  case hD => exact fun _ _ _ _ => trivial
  case hDx => exact fun _ _ _ _ _ => trivial
  case hB =>
    rintro j T Y ⟨v, hT, hB⟩ q hq
    rcases (hT q).1 hq with h1 | h1
    · have := hB.box.lt; omega
    · exact (hB.row.lt q h1).2
  case h0 => exact ⟨_, fun q => Iff.rfl, hB5⟩
  case assign =>
    intro l2 j Y K hK
    unfold encL
    gi_wp2
    exact hK
  case body =>
    rintro l2 j T Y ⟨v, hT, hB⟩ hj hl2
    obtain ⟨kv, hkv⟩ : ∃ kv : By × TV, L[j]?.getD ([], 0) = kv := ⟨_, rfl⟩
    have hkv2 : L[j] = kv := by rw [← hkv]; simp [hj]
    have htk : L.take (j + 1) = L.take j ++ [kv] := by rw [List.take_succ_eq_append_getElem hj, hkv2]
    simp only [hkv]
    have hlj : (L.take j).length ≤ 1000000 := by rw [List.length_take]; omega
    have c0 : Y.cell? ⟨w.heap.size, 0, none⟩ = some v := by rw [hB.box.cell]; rfl
    obtain ⟨A2, c2, w2, hr, c2', f2, hB2, hfr, hsub⟩ := hB.more (Nat.le_refl _) hlj kv hT
    obtain ⟨n2, hn2⟩ : ∃ n2, n2 = (L.take j).length + 1 := ⟨_, rfl⟩
    rw [← hn2] at hr hB2 hfr hsub
    have HB2 := Lib.hid hB2
    have HTK := Lib.hid htk
    have HFR := Lib.hid hfr
    have HSUB := Lib.hid hsub
    clear hkv hkv2 hB htk hB2 hfr hn2 hlj hT hj hsub
    gi_wp2_with (gi_at_builtin; refine wpListIn_append_at rfl (.tmp 10) (.tmp 14) _ rfl _ _ rfl rfl hr ?_; clear hr c0)
    exact ⟨_, ⟨_, fun q => Iff.rfl, by rw [HTK.out]; exact HB2.out⟩, HFR.out, HSUB.out⟩
  case done =>
    rintro D T Y hD0 ⟨v, hT, hB⟩ hfr hsub hnD hKd
    have c0 : Y.cell? ⟨w.heap.size, 0, none⟩ = some v := by rw [hB.box.cell]; rfl
    have HB := Lib.hid (hB.chg (Chg.putObj (n := D) (S := ClT w.heap.size v) (.deferred none) (Nat.le_refl _) (fun h => hnD ((hT D).2 h))) (by omega) (by omega) (fun q => Iff.rfl))
    clear hB
    gi_wp2
    refine ⟨by simp, .inl ⟨_, _, rfl, run_takeDeferred hKd, ?_⟩⟩
    refine ⟨_, results_tmp rfl _ _ _, v, rfl, ?_, HB.out.bel⟩
    have := HB.out.row
    rw [List.take_of_length_le (Nat.le_refl _)] at this
    exact own_mono this (by omega)
  case stop => exact fun _ _ _ _ _ _ h => h.elim
set_option maxRecDepth 100000 in
set_option maxHeartbeats 2000000 in
theorem lawBelowN_any {w : World} (s : ByteArray) (hs : s.size ≤ 140737488355328) :
    Calls Try.prog 18 #[.pointer none, .string s] w fun e w' => ∃ v, e = .returned v ∧ PRow w' w.heap.size v ([] : List (By × TV)) ∧ Below w.heap.size w w' := by
  have hlen : ([] : List (By × TV)).length ≤ 1000000 := by simp
  obtain ⟨L, hL⟩ : ∃ L, L = ([] : List (By × TV)) := ⟨_, rfl⟩
  rw [← hL] at hlen ⊢
  have hw1 : Below w.heap.size w (w.alloc (.cells #[.slice none 0 0] 27)) := (Below.refl _ w).alloc (Nat.le_refl _) _
  have hw2 : Below w.heap.size w ((w.alloc (.cells #[.slice none 0 0] 27)).alloc (.cells #[.pointer none] 24)) := hw1.alloc (by simp) _
  have hw3 : Below w.heap.size w (((w.alloc (.cells #[.slice none 0 0] 27)).alloc (.cells #[.pointer none] 24)).alloc (.cells #[.string s] 28)) := hw2.alloc (by simp; omega) _
  refine (callsIn_wide (n := 9)).1 ?_
  refine callsIn_of_wp_marks Try.func18 rfl trivial ?_ rfl
  simp only [Try.ntmps18, List.size_toArray, List.length_cons, List.length_nil, Nat.reduceAdd, Nat.reduceSub, Array.replicate_succ, Array.replicate_zero, List.push_toArray, List.append_toArray, List.nil_append, List.cons_append]
  gi_wp2_with (refine ⟨trivial, ?_⟩; gi_at_call 53; refine (callsIn_wide.2 (BelowN_any s _)).mono ?_; rintro e w5 ⟨rfl, rfl⟩)
  have hb1 : Has (((w.alloc (.cells #[.slice none 0 0] 27)).alloc (.cells #[.pointer none] 24)).alloc (.cells #[.string s] 28)) (w.heap.size + 1) 24 #[.pointer none] := by
    have := (Has.fresh (w.alloc (.cells #[.slice none 0 0] 27)) 24 #[.pointer none]).alloc (.cells #[.string s] 28)
    simpa only [World.size_alloc] using this
  have hb2 : Has (((w.alloc (.cells #[.slice none 0 0] 27)).alloc (.cells #[.pointer none] 24)).alloc (.cells #[.string s] 28)) (w.heap.size + 1 + 1) 28 #[.string s] := by
    have := Has.fresh ((w.alloc (.cells #[.slice none 0 0] 27)).alloc (.cells #[.pointer none] 24)) 28 #[.string s]
    simpa only [World.size_alloc] using this
  have hseq := belN_seq s hs hb1 hb2 8 L hL
  have hB5 : ClB w (((w.alloc (.cells #[.slice none 0 0] 27)).alloc (.cells #[.pointer none] 24)).alloc (.cells #[.string s] 28)) w.heap.size (.slice none 0 0) [] := ⟨((Has.fresh w _ _).alloc _).alloc _, ⟨by simp [fl], .inl ⟨rfl, rfl⟩⟩, hw3⟩
  obtain ⟨X5, hX5⟩ : ∃ X5, X5 = (((w.alloc (.cells #[.slice none 0 0] 27)).alloc (.cells #[.pointer none] 24)).alloc (.cells #[.string s] 28)) := ⟨_, rfl⟩
  have hz5 : X5.heap.size = w.heap.size + 3 := by rw [hX5]; simp
  rw [← hX5] at hseq hB5 ⊢
  clear hX5 hw1 hw2 hw3 hb1 hb2 hL
  refine wpIn_rangeFunc_S (D := fun _ => True) (N := L.length) rfl (by omega) (gf := 81) (lb := #[.pointer (some ⟨w.heap.size + 1, 0, none⟩), .pointer (some ⟨w.heap.size + 1 + 1, 0, none⟩)]) rfl trivial (enters_of Try.func81 (by kernel_rfl) rfl)
    hseq (fun _ => rfl)
    (fun j T Y => ∃ v, (∀ q, T q ↔ ClT w.heap.size v q) ∧ ClB w Y w.heap.size v (L.take j))
    (fun _ _ _ _ => False)
    (ClT w.heap.size (.slice none 0 0)) ?hI ?hIx ?hD ?hDx ?hB ?h0 ?a1 ?assign ?body ?done ?stop
  case hI =>
    rintro j T Y Z ⟨v, hT, hB⟩ hc
    exact ⟨v, hT, hB.chg hc (by omega) (by omega) hT⟩
  case hIx => exact fun _ _ _ _ _ h _ => h
  case hD => exact fun _ _ _ _ => trivial
  case hDx => exact fun _ _ _ _ _ => trivial
  case hB =>
    rintro j T Y ⟨v, hT, hB⟩ q hq
    rcases (hT q).1 hq with h1 | h1
    · have := hB.box.lt; omega
    · exact (hB.row.lt q h1).2
  case h0 => exact ⟨_, fun q => Iff.rfl, hB5⟩
  case assign =>
    intro l2 j Y K hK
    unfold encL
    gi_wp2
    exact hK
  case body =>
    rintro l2 j T Y ⟨v, hT, hB⟩ hj hl2
    obtain ⟨kv, hkv⟩ : ∃ kv : By × TV, L[j]?.getD ([], 0) = kv := ⟨_, rfl⟩
    have hkv2 : L[j] = kv := by rw [← hkv]; simp [hj]
    have htk : L.take (j + 1) = L.take j ++ [kv] := by rw [List.take_succ_eq_append_getElem hj, hkv2]
    simp only [hkv]
    have hlj : (L.take j).length ≤ 1000000 := by rw [List.length_take]; omega
    have c0 : Y.cell? ⟨w.heap.size, 0, none⟩ = some v := by rw [hB.box.cell]; rfl
    obtain ⟨A2, c2, w2, hr, c2', f2, hB2, hfr, hsub⟩ := hB.more (Nat.le_refl _) hlj kv hT
    obtain ⟨n2, hn2⟩ : ∃ n2, n2 = (L.take j).length + 1 := ⟨_, rfl⟩
    rw [← hn2] at hr hB2 hfr hsub
    have HB2 := Lib.hid hB2
    have HTK := Lib.hid htk
    have HFR := Lib.hid hfr
    have HSUB := Lib.hid hsub
    clear hkv hkv2 hB htk hB2 hfr hn2 hlj hT hj hsub
    gi_wp2_with (gi_at_builtin; refine wpListIn_append_at rfl (.tmp 13) (.tmp 17) _ rfl _ _ rfl rfl hr ?_; clear hr c0)
    exact ⟨_, ⟨_, fun q => Iff.rfl, by rw [HTK.out]; exact HB2.out⟩, HFR.out, HSUB.out⟩
  case done =>
    rintro D T Y hD0 ⟨v, hT, hB⟩ hfr hsub hnD hKd
    have c0 : Y.cell? ⟨w.heap.size, 0, none⟩ = some v := by rw [hB.box.cell]; rfl
    have HB := Lib.hid (hB.chg (Chg.putObj (n := D) (S := ClT w.heap.size v) (.deferred none) (Nat.le_refl _) (fun h => hnD ((hT D).2 h))) (by omega) (by omega) (fun q => Iff.rfl))
    clear hB
    gi_wp2
    refine ⟨by simp, .inl ⟨_, _, rfl, run_takeDeferred hKd, ?_⟩⟩
    refine ⟨_, results_tmp rfl _ _ _, v, rfl, ?_, HB.out.bel⟩
    have := HB.out.row
    rw [List.take_of_length_le (Nat.le_refl _)] at this
    exact own_mono this (by omega)
  case stop => exact fun _ _ _ _ _ _ h => h.elim
end Go.Proofs.Ytpnfkgjcnofjnaa.Ti
/- What a tree of texts answers, step by step. -/
namespace Go.Proofs.Ytpnfkgjcnofjnaa.Ts
open Go.RowKit Go.Shelf Tr

structure KS (w X : World) (b : Nat) (n : No TV) (F : List Nat) : Prop where
  tm : TM X b n F
  low : ∀ q ∈ F, w.heap.size ≤ q
  bel : Below w.heap.size w X
section
variable {w X : World} {b : Nat} {n m : No TV} {F : List Nat} {k v r : By} {bt : Bool}
theorem KS.below {Y : World} {B : Nat} (h : KS w X b n F) (hb : Below B X Y) (hB : X.heap.size ≤ B) : KS w Y b n F :=
  ⟨h.tm.below hb hB, h.low, h.bel.trans (hb.mono (Nat.le_trans h.bel.size hB))⟩
theorem KS.only {Y : World} {F' : List Nat} (h : KS w X b n F) (ht : TM Y b m F') (hn : New X F F') (ho : Only F X Y) : KS w Y b m F' :=
  ⟨ht, fun q hq => by
    rcases hn q hq with h1 | h1
    · exact h.low q h1
    · exact Nat.le_trans h.bel.size h1, h.bel.trans (ho.below h.low h.bel.size)⟩
theorem ks_new (w : World) : Calls Try.prog 34 #[] w fun e w' => e = .returned (ptr w.heap.size) ∧ KS w w' w.heap.size rootN [w.heap.size] :=
  (New_any w).mono fun _ _ ⟨h1, h2, h3⟩ => ⟨h1, h2, by simp, h3⟩
theorem ks_put (hk : isN k = true) (hl : k.length ≤ 255) (hm : putN k v n = m) (hb : hasE (pth k) (nents n) = !bt) (hf : (nents n).length < 1000000) (h : KS w X b n F) :
    Calls Try.prog 35 #[ptr b, .string ⟨k.toArray⟩, .string ⟨v.toArray⟩] X fun e w' => ∃ F', e = .returned (.tuple #[.bool bt, .int .i64 0]) ∧ KS w w' b m F' := by
  refine (Put_any h.tm hf ⟨k.toArray⟩ v (by rw [arr_size]; omega) (by rw [arr_list]; exact hk)).mono fun e w' ⟨F', he, hT, hN, hO⟩ => ⟨F', ?_, ?_⟩
  · rw [he, arr_list, hb, Bool.not_not]
  · rw [arr_list, hm] at hT
    exact h.only hT hN hO
theorem ks_putNo (hk : isN k = false) (hl : k.length ≤ 255) (h : KS w X b n F) :
    Calls Try.prog 35 #[ptr b, .string ⟨k.toArray⟩, .string ⟨v.toArray⟩] X fun e w' => e = .returned (.tuple #[.bool false, .int .i64 11]) ∧ KS w w' b n F :=
  (PutNo_any h.tm ⟨k.toArray⟩ v (by rw [arr_size]; omega) (by rw [arr_list]; exact hk)).mono fun _ _ ⟨he, _, hB⟩ => ⟨he, h.below hB (Nat.le_refl _)⟩
theorem ks_get (hl : k.length ≤ 255) (hv : (getR n k).getD [] = v) (hb : (getR n k).isSome = bt) (h : KS w X b n F) :
    Calls Try.prog 37 #[ptr b, .string ⟨k.toArray⟩] X fun e w' => e = .returned (.tuple #[.string ⟨v.toArray⟩, .bool bt]) ∧ KS w w' b n F :=
  (Get_any h.tm ⟨k.toArray⟩ (by rw [arr_size]; omega)).mono fun _ _ ⟨he, hB⟩ => ⟨by rw [he, arr_list, hv, hb], h.below hB (Nat.le_refl _)⟩
theorem ks_next (hl : k.length ≤ 255) (hv : (nextR n k).getD [] = v) (hb : (nextR n k).isSome = bt) (h : KS w X b n F) :
    Calls Try.prog 38 #[ptr b, .string ⟨k.toArray⟩] X fun e w' => e = .returned (.tuple #[.string ⟨v.toArray⟩, .bool bt]) ∧ KS w w' b n F :=
  (Next_any h.tm ⟨k.toArray⟩ (by rw [arr_size]; omega)).mono fun _ _ ⟨he, hB⟩ => ⟨by rw [he, arr_list, optB, hv, hb], h.below hB (Nat.le_refl _)⟩
theorem ks_enc (hl : k.length ≤ 255) (hv : (encR n k).getD [] = v) (hb : (encR n k).isSome = bt) (h : KS w X b n F) :
    Calls Try.prog 40 #[ptr b, .string ⟨k.toArray⟩] X fun e w' => e = .returned (.tuple #[.string ⟨v.toArray⟩, .bool bt]) ∧ KS w w' b n F :=
  (Encloser_any h.tm ⟨k.toArray⟩ (by rw [arr_size]; omega)).mono fun _ _ ⟨he, hB⟩ => ⟨by rw [he, arr_list, optB, hv, hb], h.below hB (Nat.le_refl _)⟩
theorem ks_ex (hl : k.length ≤ 255) (hb : (isN k && exE (pth k) (nents n)) = bt) (h : KS w X b n F) :
    Calls Try.prog 39 #[ptr b, .string ⟨k.toArray⟩] X fun e w' => e = .returned (.bool bt) ∧ KS w w' b n F :=
  (Exists_any h.tm ⟨k.toArray⟩ (by rw [arr_size]; omega)).mono fun _ _ ⟨he, hB⟩ => ⟨by rw [he, arr_list, hb], h.below hB (Nat.le_refl _)⟩
theorem ks_len {z : Nat} (hz : (nents n).length = z) (h : KS w X b n F) :
    Calls Try.prog 36 #[ptr b] X fun e w' => e = .returned (.int .i64 (z : Nat)) ∧ KS w w' b n F :=
  (Len_any h.tm).mono fun _ _ ⟨he, hw⟩ => ⟨by rw [he, hz], by rw [hw]; exact h⟩
theorem ks_del (hk : isN k = true) (hl : k.length ≤ 255) (hm : delN k n = m) (hb : hasE (pth k) (nents n) = bt) (h : KS w X b n F) :
    Calls Try.prog 41 #[ptr b, .string ⟨k.toArray⟩] X fun e w' => ∃ F', e = .returned (.bool bt) ∧ KS w w' b m F' := by
  refine (Del_any h.tm ⟨k.toArray⟩ (by rw [arr_size]; omega) (by rw [arr_list]; exact hk)).mono fun e w' ⟨F', he, hT, hN, hO⟩ => ⟨F', ?_, ?_⟩
  · rw [he, arr_list, hb]
  · rw [arr_list, hm] at hT
    exact h.only hT hN hO
theorem ks_delNo (hk : isN k = false) (hl : k.length ≤ 255) (h : KS w X b n F) :
    Calls Try.prog 41 #[ptr b, .string ⟨k.toArray⟩] X fun e w' => e = .returned (.bool false) ∧ KS w w' b n F :=
  (DelNo_any h.tm ⟨k.toArray⟩ (by rw [arr_size]; omega) (by rw [arr_list]; exact hk)).mono fun _ _ ⟨he, _, hB⟩ => ⟨he, h.below hB (Nat.le_refl _)⟩
end
def T0 : No TV := rootN
def T1 : No TV := putN [1, 98, 1, 97, 0] [49] T0
def T2 : No TV := putN [1, 97, 0] [50] T1
def T3 : No TV := putN [1, 120, 1, 99, 1, 97, 0] [51] T2
def T4 : No TV := putN [1, 66, 1, 65, 0] [52] T3
def T5 : No TV := delN [1, 65, 0] T4
def T6 : No TV := delN [1, 97, 0] T5
def T7 : No TV := putN [0] [54] T6
theorem c0 {w X : World} {b : Nat} {F : List Nat} (h : KS w X b T0 F) : Calls Try.prog 35 #[ptr b, .string ⟨#[1, 98, 1, 97, 0]⟩, .string ⟨#[49]⟩] X fun e w' => ∃ F', e = .returned (.tuple #[.bool true, .int .i64 0]) ∧ KS w w' b T1 F' :=
  ks_put (k := [1, 98, 1, 97, 0]) (v := [49]) (by kernel_rfl) (by decide) rfl (by kernel_rfl) (by have : (nents T0).length = 0 := (by kernel_rfl); omega) h
theorem c1 {w X : World} {b : Nat} {F : List Nat} (h : KS w X b T1 F) : Calls Try.prog 35 #[ptr b, .string ⟨#[1, 97, 0]⟩, .string ⟨#[50]⟩] X fun e w' => ∃ F', e = .returned (.tuple #[.bool true, .int .i64 0]) ∧ KS w w' b T2 F' :=
  ks_put (k := [1, 97, 0]) (v := [50]) (by kernel_rfl) (by decide) rfl (by kernel_rfl) (by have : (nents T1).length = 1 := (by kernel_rfl); omega) h
theorem c2 {w X : World} {b : Nat} {F : List Nat} (h : KS w X b T2 F) : Calls Try.prog 35 #[ptr b, .string ⟨#[1, 120, 1, 99, 1, 97, 0]⟩, .string ⟨#[51]⟩] X fun e w' => ∃ F', e = .returned (.tuple #[.bool true, .int .i64 0]) ∧ KS w w' b T3 F' :=
  ks_put (k := [1, 120, 1, 99, 1, 97, 0]) (v := [51]) (by kernel_rfl) (by decide) rfl (by kernel_rfl) (by have : (nents T2).length = 2 := (by kernel_rfl); omega) h
theorem c3 {w X : World} {b : Nat} {F : List Nat} (h : KS w X b T3 F) : Calls Try.prog 35 #[ptr b, .string ⟨#[1, 66, 1, 65, 0]⟩, .string ⟨#[52]⟩] X fun e w' => ∃ F', e = .returned (.tuple #[.bool false, .int .i64 0]) ∧ KS w w' b T4 F' :=
  ks_put (k := [1, 66, 1, 65, 0]) (v := [52]) (by kernel_rfl) (by decide) rfl (by kernel_rfl) (by have : (nents T3).length = 3 := (by kernel_rfl); omega) h
theorem c4 {w X : World} {b : Nat} {F : List Nat} (h : KS w X b T4 F) : Calls Try.prog 36 #[ptr b] X fun e w' => e = .returned (.int .i64 3) ∧ KS w w' b T4 F :=
  ks_len (z := 3) (by kernel_rfl) h
theorem c5 {w X : World} {b : Nat} {F : List Nat} (h : KS w X b T4 F) : Calls Try.prog 37 #[ptr b, .string ⟨#[1, 98, 1, 65, 0]⟩] X fun e w' => e = .returned (.tuple #[.string ⟨#[52]⟩, .bool true]) ∧ KS w w' b T4 F :=
  ks_get (k := [1, 98, 1, 65, 0]) (v := [52]) (by decide) (by kernel_rfl) (by kernel_rfl) h
theorem c6 {w X : World} {b : Nat} {F : List Nat} (h : KS w X b T4 F) : Calls Try.prog 37 #[ptr b, .string ⟨#[1, 99, 1, 97, 0]⟩] X fun e w' => e = .returned (.tuple #[.string ⟨#[]⟩, .bool false]) ∧ KS w w' b T4 F :=
  ks_get (k := [1, 99, 1, 97, 0]) (v := []) (by decide) (by kernel_rfl) (by kernel_rfl) h
theorem c7 {w X : World} {b : Nat} {F : List Nat} (h : KS w X b T4 F) : Calls Try.prog 38 #[ptr b, .string ⟨#[1, 97, 0]⟩] X fun e w' => e = .returned (.tuple #[.string ⟨#[1, 98, 1, 97, 0]⟩, .bool true]) ∧ KS w w' b T4 F :=
  ks_next (k := [1, 97, 0]) (v := [1, 98, 1, 97, 0]) (by decide) (by kernel_rfl) (by kernel_rfl) h
theorem c8 {w X : World} {b : Nat} {F : List Nat} (h : KS w X b T4 F) : Calls Try.prog 38 #[ptr b, .string ⟨#[1, 99, 1, 97, 0]⟩] X fun e w' => e = .returned (.tuple #[.string ⟨#[1, 120, 1, 99, 1, 97, 0]⟩, .bool true]) ∧ KS w w' b T4 F :=
  ks_next (k := [1, 99, 1, 97, 0]) (v := [1, 120, 1, 99, 1, 97, 0]) (by decide) (by kernel_rfl) (by kernel_rfl) h
theorem c9 {w X : World} {b : Nat} {F : List Nat} (h : KS w X b T4 F) : Calls Try.prog 38 #[ptr b, .string ⟨#[1, 120, 1, 99, 1, 97, 0]⟩] X fun e w' => e = .returned (.tuple #[.string ⟨#[]⟩, .bool false]) ∧ KS w w' b T4 F :=
  ks_next (k := [1, 120, 1, 99, 1, 97, 0]) (v := []) (by decide) (by kernel_rfl) (by kernel_rfl) h
theorem c10 {w X : World} {b : Nat} {F : List Nat} (h : KS w X b T4 F) : Calls Try.prog 38 #[ptr b, .string ⟨#[0]⟩] X fun e w' => e = .returned (.tuple #[.string ⟨#[1, 97, 0]⟩, .bool true]) ∧ KS w w' b T4 F :=
  ks_next (k := [0]) (v := [1, 97, 0]) (by decide) (by kernel_rfl) (by kernel_rfl) h
theorem c11 {w X : World} {b : Nat} {F : List Nat} (h : KS w X b T4 F) : Calls Try.prog 39 #[ptr b, .string ⟨#[1, 99, 1, 97, 0]⟩] X fun e w' => e = .returned (.bool true) ∧ KS w w' b T4 F :=
  ks_ex (k := [1, 99, 1, 97, 0]) (by decide) (by kernel_rfl) h
theorem c12 {w X : World} {b : Nat} {F : List Nat} (h : KS w X b T4 F) : Calls Try.prog 39 #[ptr b, .string ⟨#[0]⟩] X fun e w' => e = .returned (.bool true) ∧ KS w w' b T4 F :=
  ks_ex (k := [0]) (by decide) (by kernel_rfl) h
theorem c13 {w X : World} {b : Nat} {F : List Nat} (h : KS w X b T4 F) : Calls Try.prog 39 #[ptr b, .string ⟨#[1, 100, 1, 97, 0]⟩] X fun e w' => e = .returned (.bool false) ∧ KS w w' b T4 F :=
  ks_ex (k := [1, 100, 1, 97, 0]) (by decide) (by kernel_rfl) h
theorem c14 {w X : World} {b : Nat} {F : List Nat} (h : KS w X b T4 F) : Calls Try.prog 40 #[ptr b, .string ⟨#[1, 121, 1, 88, 1, 99, 1, 97, 0]⟩] X fun e w' => e = .returned (.tuple #[.string ⟨#[1, 120, 1, 99, 1, 97, 0]⟩, .bool true]) ∧ KS w w' b T4 F :=
  ks_enc (k := [1, 121, 1, 88, 1, 99, 1, 97, 0]) (v := [1, 120, 1, 99, 1, 97, 0]) (by decide) (by kernel_rfl) (by kernel_rfl) h
theorem c15 {w X : World} {b : Nat} {F : List Nat} (h : KS w X b T4 F) : Calls Try.prog 40 #[ptr b, .string ⟨#[1, 113, 1, 67, 1, 97, 0]⟩] X fun e w' => e = .returned (.tuple #[.string ⟨#[1, 99, 1, 97, 0]⟩, .bool true]) ∧ KS w w' b T4 F :=
  ks_enc (k := [1, 113, 1, 67, 1, 97, 0]) (v := [1, 99, 1, 97, 0]) (by decide) (by kernel_rfl) (by kernel_rfl) h
theorem c16 {w X : World} {b : Nat} {F : List Nat} (h : KS w X b T4 F) : Calls Try.prog 40 #[ptr b, .string ⟨#[1, 122, 0]⟩] X fun e w' => e = .returned (.tuple #[.string ⟨#[0]⟩, .bool true]) ∧ KS w w' b T4 F :=
  ks_enc (k := [1, 122, 0]) (v := [0]) (by decide) (by kernel_rfl) (by kernel_rfl) h
theorem c17 {w X : World} {b : Nat} {F : List Nat} (h : KS w X b T4 F) : Calls Try.prog 41 #[ptr b, .string ⟨#[1, 65, 0]⟩] X fun e w' => ∃ F', e = .returned (.bool true) ∧ KS w w' b T5 F' :=
  ks_del (k := [1, 65, 0]) (by kernel_rfl) (by decide) rfl (by kernel_rfl) h
theorem c18 {w X : World} {b : Nat} {F : List Nat} (h : KS w X b T5 F) : Calls Try.prog 41 #[ptr b, .string ⟨#[1, 97, 0]⟩] X fun e w' => ∃ F', e = .returned (.bool false) ∧ KS w w' b T6 F' :=
  ks_del (k := [1, 97, 0]) (by kernel_rfl) (by decide) rfl (by kernel_rfl) h
theorem c19 {w X : World} {b : Nat} {F : List Nat} (h : KS w X b T6 F) : Calls Try.prog 39 #[ptr b, .string ⟨#[1, 97, 0]⟩] X fun e w' => e = .returned (.bool true) ∧ KS w w' b T6 F :=
  ks_ex (k := [1, 97, 0]) (by decide) (by kernel_rfl) h
theorem c20 {w X : World} {b : Nat} {F : List Nat} (h : KS w X b T6 F) : Calls Try.prog 36 #[ptr b] X fun e w' => e = .returned (.int .i64 2) ∧ KS w w' b T6 F :=
  ks_len (z := 2) (by kernel_rfl) h
theorem c21 {w X : World} {b : Nat} {F : List Nat} (h : KS w X b T6 F) : Calls Try.prog 35 #[ptr b, .string ⟨#[97, 46]⟩, .string ⟨#[53]⟩] X fun e w' => e = .returned (.tuple #[.bool false, .int .i64 11]) ∧ KS w w' b T6 F :=
  ks_putNo (k := [97, 46]) (v := [53]) (by kernel_rfl) (by decide) h
theorem c22 {w X : World} {b : Nat} {F : List Nat} (h : KS w X b T6 F) : Calls Try.prog 37 #[ptr b, .string ⟨#[97, 46]⟩] X fun e w' => e = .returned (.tuple #[.string ⟨#[]⟩, .bool false]) ∧ KS w w' b T6 F :=
  ks_get (k := [97, 46]) (v := []) (by decide) (by kernel_rfl) (by kernel_rfl) h
theorem c23 {w X : World} {b : Nat} {F : List Nat} (h : KS w X b T6 F) : Calls Try.prog 40 #[ptr b, .string ⟨#[]⟩] X fun e w' => e = .returned (.tuple #[.string ⟨#[]⟩, .bool false]) ∧ KS w w' b T6 F :=
  ks_enc (k := []) (v := []) (by decide) (by kernel_rfl) (by kernel_rfl) h
theorem c24 {w X : World} {b : Nat} {F : List Nat} (h : KS w X b T6 F) : Calls Try.prog 35 #[ptr b, .string ⟨#[0]⟩, .string ⟨#[54]⟩] X fun e w' => ∃ F', e = .returned (.tuple #[.bool true, .int .i64 0]) ∧ KS w w' b T7 F' :=
  ks_put (k := [0]) (v := [54]) (by kernel_rfl) (by decide) rfl (by kernel_rfl) (by have : (nents T6).length = 2 := (by kernel_rfl); omega) h
theorem c25 {w X : World} {b : Nat} {F : List Nat} (h : KS w X b T7 F) : Calls Try.prog 37 #[ptr b, .string ⟨#[0]⟩] X fun e w' => e = .returned (.tuple #[.string ⟨#[54]⟩, .bool true]) ∧ KS w w' b T7 F :=
  ks_get (k := [0]) (v := [54]) (by decide) (by kernel_rfl) (by kernel_rfl) h
theorem c26 {w X : World} {b : Nat} {F : List Nat} (h : KS w X b T7 F) : Calls Try.prog 41 #[ptr b, .string ⟨#[97, 46]⟩] X fun e w' => e = .returned (.bool false) ∧ KS w w' b T7 F :=
  ks_delNo (k := [97, 46]) (by kernel_rfl) (by decide) h
theorem c27 {w X : World} {b : Nat} {F : List Nat} (h : KS w X b T7 F) : Calls Try.prog 39 #[ptr b, .string ⟨#[97, 46]⟩] X fun e w' => e = .returned (.bool false) ∧ KS w w' b T7 F :=
  ks_ex (k := [97, 46]) (by decide) (by kernel_rfl) h
end Go.Proofs.Ytpnfkgjcnofjnaa.Ts
