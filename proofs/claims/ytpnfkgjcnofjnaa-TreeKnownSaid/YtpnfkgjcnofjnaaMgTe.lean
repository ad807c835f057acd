/- Texts of the proofs, merged. -/
import Derived.Test.YtpnfkgjcnofjnaaTrKey
import Derived.Test.YtpnfkgjcnofjnaaMgTb
import Derived.Test.YtpnfkgjcnofjnaaLasts
import Derived.StillTailTactics
import Derived.Test.YtpnfkgjcnofjnaaTrAt
import Derived.Test.YtpnfkgjcnofjnaaTrDropP
import Derived.Deep.RegionHeld3
/- A tree is asked: New, Len, Get, Exists, Encloser. -/
namespace Go.Proofs.Ytpnfkgjcnofjnaa.Ti
open Go.RowKit Go.Shelf Tr

/-- a tree at block b, its blocks F. -/
structure TM (w : World) (b : Nat) (n : No TV) (F : List Nat) : Prop where
  node : NodeM w (some (nents n).length) b n F
  nd : F.Nodup
  ok : ok n
  few : (nents n).length ≤ 1000000
theorem TM.below {w w' : World} {b : Nat} {n : No TV} {F : List Nat} {B : Nat} (h : TM w b n F) (hb : Below B w w') (hB : w.heap.size ≤ B) : TM w' b n F := ⟨h.node.below hb hB, h.nd, h.ok, h.few⟩
theorem TM.same {w w' : World} {b : Nat} {n : No TV} {F : List Nat} (h : TM w b n F) (hs : ∀ k ∈ F, w'.heap[k]? = w.heap[k]?) : TM w' b n F := ⟨h.node.same hs, h.nd, h.ok, h.few⟩
def rootN : No TV := (⟨[], [], 0, false⟩, .nl)
theorem New_any (w : World) : Calls Try.prog 10 #[] w fun e w' => e = .returned (ptr w.heap.size) ∧ TM w' w.heap.size rootN [w.heap.size] ∧ Below w.heap.size w w' := by
  go_enter Try.func10, Try.ntmps10
  go_wp2
  go_ret
  exact ⟨rfl, ⟨⟨.slice none 0 0, [], [], rfl, Has.fresh _ _ _, ⟨by simp [ptrs], .inl ⟨rfl, rfl⟩⟩, rfl, rfl⟩, by simp, ⟨trivial, fun _ => ⟨rfl, rfl⟩⟩, by decide⟩, (Below.refl _ w).alloc (Nat.le_refl _) _⟩
theorem Len_any {w : World} {b : Nat} {n : No TV} {F : List Nat} (h : TM w b n F) : Calls Try.prog 11 #[ptr b] w fun e w' => e = .returned (.int .i64 ((nents n).length : Nat)) ∧ w' = w := by
  obtain ⟨kv, ks, F1, _, hb, _⟩ := h.node
  have c5 : w.cell? ⟨b, 5, none⟩ = some (.int .i64 ((nents n).length : Nat)) := by rw [hb.cell]; rfl
  go_enter Try.func11, Try.ntmps11
  go_wp2
  go_ret
  exact ⟨rfl, rfl⟩
/-- what Get tells. -/
def getR (n : No TV) (s : By) : Option (TV) := if isN s then (getE (pth s) (nents n)).map (·.v) else none
theorem getR_eq {n : No TV} (h : ok n) (s : By) : getR n s = match (if isN s then getN (pth s) n else none) with
    | none => none
    | some m => if m.1.held then some m.1.val else none := by
  unfold getR
  cases isN s with
  | false => rfl
  | true =>
    simp only [if_true]
    rw [get_ents h]
    cases getN (pth s) n with
    | none => rfl
    | some m => dsimp only; split <;> rfl
theorem Get_any {w : World} {b : Nat} {n : No TV} {F : List Nat} (h : TM w b n F) (s : ByteArray) (hs : s.size ≤ 140737488355328) :
    Calls Try.prog 26 #[ptr b, .string s] w fun e w' => e = .returned (.tuple #[tz ((getR n s.data.toList).getD 0), .bool (getR n s.data.toList).isSome]) ∧ Below w.heap.size w w' := by
  have HF := Lib.hid (find_any h.node h.ok (Nat.le_trans h.few (by decide)) s hs)
  have hg := getR_eq h.ok s.data.toList
  unfold FindR at HF
  have hat : ∀ m, (if isN s.data.toList then getN (pth s.data.toList) n else none) = some m → atq (pth s.data.toList) n = m := fun m hm => by
    split at hm
    · exact atq_getN hm
    · cases hm
  generalize (if isN s.data.toList then getN (pth s.data.toList) n else none) = g at *
  rw [hg]
  cases g with
  | none =>
    simp only at HF hg ⊢
    clear hat hg
    go_enter Try.func26, Try.ntmps26
    go_wp2_with (go_at_call 58; refine HF.out.mono ?_; rintro e w1 ⟨p, rfl, rfl, hb1⟩)
    go_ret2
    exact ⟨rfl, hb1⟩
  | some m =>
    have hm := hat m rfl
    have hok := ok_atq (pth s.data.toList) h.ok
    rw [hm] at hok
    have e1 : ((if m.1.held then some m.1.val else none).getD 0 : Int) = m.1.val := by
      cases hh : m.1.held with
      | true => rfl
      | false => exact (hok.2 hh).2.symm
    have e2 : (if m.1.held then some m.1.val else none).isSome = m.1.held := by cases m.1.held <;> rfl
    simp only [e1, e2] at HF hg ⊢
    clear hat hg e1 e2 hok
    go_enter Try.func26, Try.ntmps26
    go_wp2_with (go_at_call 58; refine HF.out.mono ?_; rintro e w1 ⟨p, rfl, ⟨t1, b1, A1, F1, B1, rfl, hL, hF⟩, hb1⟩; obtain ⟨kv, ks, G, _, hbk, _⟩ := hL.node; rw [hm] at hbk; have c2 : w1.cell? ⟨b1, 2, none⟩ = some (tz m.1.val) := (by rw [hbk.cell]; cases t1 <;> rfl); have c3 : w1.cell? ⟨b1, 3, none⟩ = some (.bool m.1.held) := (by rw [hbk.cell]; cases t1 <;> rfl); clear hbk hL hF)
    go_region
    go_wp2
    go_ret2
    exact ⟨rfl, hb1.drew⟩
theorem Exists_any {w : World} {b : Nat} {n : No TV} {F : List Nat} (h : TM w b n F) (s : ByteArray) (hs : s.size ≤ 140737488355328) :
    Calls Try.prog 31 #[ptr b, .string s] w fun e w' => e = .returned (.bool (isN s.data.toList && exE (pth s.data.toList) (nents n))) ∧ Below w.heap.size w w' := by
  have HF := Lib.hid (find_any h.node h.ok (Nat.le_trans h.few (by decide)) s hs)
  have hg : (isN s.data.toList && exE (pth s.data.toList) (nents n)) = match (if isN s.data.toList then getN (pth s.data.toList) n else none) with
      | none => false
      | some m => !bare m := by
    rw [ex_ents h.ok]
    cases isN s.data.toList with
    | false => rfl
    | true => simp only [Bool.true_and, if_true]; cases getN (pth s.data.toList) n <;> rfl
  unfold FindR at HF
  have hat : ∀ m, (if isN s.data.toList then getN (pth s.data.toList) n else none) = some m → atq (pth s.data.toList) n = m := fun m hm => by
    split at hm
    · exact atq_getN hm
    · cases hm
  generalize (if isN s.data.toList then getN (pth s.data.toList) n else none) = g at *
  rw [hg]
  cases g with
  | none =>
    simp only at HF hg ⊢
    clear hat hg
    go_enter Try.func31, Try.ntmps31
    go_wp2_with (go_at_call 58; refine HF.out.mono ?_; rintro e w1 ⟨p, rfl, rfl, hb1⟩)
    go_ret
    exact ⟨rfl, hb1⟩
  | some m =>
    have hm := hat m rfl
    simp only at HF hg ⊢
    clear hat hg
    generalize hbm : (!bare m) = bm
    go_enter Try.func31, Try.ntmps31
    go_wp2_with (first
      | (go_at_call 58; refine HF.out.mono ?_; rintro e w1 ⟨p, rfl, ⟨t1, b1, A1, F1, B1, rfl, hL, hF⟩, hb1⟩; have HND := Lib.hid hL.node; rw [hm] at HND; clear hL hF)
      | (go_at_call 63; refine (bare_any HND.out).mono ?_; rintro e w3 ⟨rfl, rfl⟩))
    go_ret
    exact ⟨by rw [← hbm]; rfl, hb1⟩
end Go.Proofs.Ytpnfkgjcnofjnaa.Ti
/- A tree is asked for what encloses a name. -/
namespace Go.Proofs.Ytpnfkgjcnofjnaa.Ti
open Go.RowKit Go.Shelf Tr

/-- what Encloser tells. -/
def encR (n : No TV) (s : By) : Option By := if isN s && !(nents n).isEmpty then some (Nm.glue ((pth s).take (dep (pth s) n)).reverse) else none
def optB (o : Option By) : Value := .tuple #[.string ⟨(o.getD []).toArray⟩, .bool o.isSome]
theorem last_of_key {s : By} (h : isN s = true) {k : Nat} (hk : k ≤ (pth s).length) : lastR (Nm.fold s) (k : Int) = optB (some (Nm.glue ((pth s).take k).reverse)) := by
  obtain ⟨ls, hs⟩ := Option.isSome_iff_exists.1 h
  have hf := split_fold hs
  have hl : (pth s).length = (ls.map Nm.fold).length := by rw [pth_of hs]; simp
  rw [lastR]
  simp only [hf]
  rw [if_neg (by omega)]
  unfold yes_ optB
  rw [pth_of hs, List.take_reverse, List.reverse_reverse, hl.symm]
  simp [hl]
set_option maxRecDepth 100000 in
set_option maxHeartbeats 1000000 in
theorem Encloser_any {w : World} {b : Nat} {n : No TV} {F : List Nat} (h : TM w b n F) (s : ByteArray) (hs : s.size ≤ 140737488355328) :
    Calls Try.prog 30 #[ptr b, .string s] w fun e w' => e = .returned (optB (encR n s.data.toList)) ∧ Below w.heap.size w w' := by
  have HK := Lib.hid (keyOf_any s w hs)
  have HL := Lib.hid (key_labels s hs)
  have H := Lib.hid h
  obtain ⟨z, hz⟩ : ∃ z, (nents n).length = z := ⟨_, rfl⟩
  have HLN := Lib.hid (fun (w1 : World) (hb : Below w.heap.size w w1) => Len_any (h.below hb (Nat.le_refl _)))
  rw [hz] at HLN
  have hemp : (nents n).isEmpty = decide (z = 0) := by rw [← hz]; cases nents n <;> simp
  cases hn : isN s.data.toList with
  | false =>
    have he : encR n s.data.toList = none := by simp [encR, hn]
    rw [he]
    simp only [hn, Bool.false_eq_true, if_false] at HK
    clear hn h hz hemp
    by_cases h0 : z = 0
    · subst h0
      go_enter Try.func30, Try.ntmps30
      go_wp2_with (first
        | (go_at_call 42; refine HK.out.mono ?_; rintro e w1 ⟨rfl, hb1⟩)
        | (go_at_call 11; refine (HLN.out _ hb1).mono ?_; rintro e w2 ⟨rfl, rfl⟩))
      go_ret2
      exact ⟨rfl, hb1⟩
    · have h0' : ((z : Int) == 0) = false := beq_eq_false_iff_ne.2 (by omega)
      go_enter Try.func30, Try.ntmps30
      go_wp2_with (first
        | (go_at_call 42; refine HK.out.mono ?_; rintro e w1 ⟨rfl, hb1⟩)
        | (go_at_call 11; refine (HLN.out _ hb1).mono ?_; rintro e w2 ⟨rfl, rfl⟩))
      go_ret2
      exact ⟨rfl, hb1⟩
  | true =>
    simp only [hn, if_true] at HK
    by_cases h0 : z = 0
    · have he : encR n s.data.toList = none := by simp [encR, hemp, h0]
      rw [he]
      subst h0
      clear hn h hz hemp
      go_enter Try.func30, Try.ntmps30
      go_wp2_with (first
        | (go_at_call 42; refine HK.out.mono ?_; rintro e w1 ⟨rfl, hb1⟩)
        | (go_at_call 11; refine (HLN.out _ hb1).mono ?_; rintro e w2 ⟨rfl, rfl⟩))
      go_ret2
      exact ⟨rfl, hb1⟩
    · have he : encR n s.data.toList = some (Nm.glue ((pth s.data.toList).take (dep (pth s.data.toList) n)).reverse) := by simp [encR, hn, hemp, h0]
      rw [he]
      have h0' : ((z : Int) == 0) = false := beq_eq_false_iff_ne.2 (by omega)
      have hle := dep_le (pth s.data.toList) n
      have HLA := Lib.hid (fun w => Last_any ⟨(Nm.fold s.data.toList).toArray⟩ (dep (pth s.data.toList) n : Nat) w (by rw [fold_size]; exact hs))
      rw [arr_list, last_of_key hn hle] at HLA
      simp only [optB, Option.getD_some, Option.isSome_some] at HLA
      have hq : (labelsOf (Nm.fold s.data.toList)).reverse = pth s.data.toList := rfl
      have hfew := labs_few (Nm.fold s.data.toList)
      generalize labelsOf (Nm.fold s.data.toList) = ls at *
      have HDN := Lib.hid (fun (w1 : World) (A : Option Addr) (c : Nat) (hr : Rd w1 w1.heap.size (.slice A ls.length c) ls) (hb : Below w.heap.size w w1) => down_any (h.node.below hb (Nat.le_refl _)) h.ok (Nat.le_trans h.few (by decide)) hr (by omega))
      rw [hq] at HDN
      generalize Nm.glue ((pth s.data.toList).take (dep (pth s.data.toList) n)).reverse = r at *
      generalize pth s.data.toList = q at *
      generalize dep q n = d at *
      obtain ⟨z', hz'⟩ : ∃ z' : Option Nat, z' = some (nents n).length := ⟨_, rfl⟩
      rw [← hz'] at HDN
      clear hn h hz hemp he hz' hle hq hfew
      go_enter Try.func30, Try.ntmps30
      go_wp2_with (first
        | (go_at_call 42; refine HK.out.mono ?_; rintro e w1 ⟨rfl, hb1⟩)
        | (go_at_call 11; refine (HLN.out _ hb1).mono ?_; rintro e w2 ⟨rfl, rfl⟩))
      have hb1d := hb1.drew
      go_region_with (first
        | (go_at_call 44; refine (HL.out _).mono ?_; rintro e w3 ⟨A, c, rfl, hr2, _, hb2⟩; have HR2 := Lib.hid hr2; have hb12 := hb1d.trans (hb2.mono hb1.size); clear hr2)
        | (go_at_call 61; refine (HDN.out _ _ _ HR2.out hb12).mono ?_; rintro e w4 ⟨t1, b1, A1, F1, B1, rfl, _, _, hb3⟩; have hb14 := hb12.trans (hb3.mono hb12.size)))
      go_wp2_with (go_at_call 62; refine (HLA.out _).mono ?_; rintro e w5 ⟨rfl, hb5⟩)
      go_ret2
      exact ⟨rfl, hb14.trans (hb5.mono hb14.size)⟩
end Go.Proofs.Ytpnfkgjcnofjnaa.Ti
/- A value is put into a tree, or taken out of it. -/
namespace Go.Proofs.Ytpnfkgjcnofjnaa.Tr
theorem atq_fresh {V : Type} [Inhabited V] (q : List By) (x : By) : (atq q (fresh x : No V)).1.held = false := by
  induction q generalizing x with
  | nil => rfl
  | cons y q ih =>
    have : (fresh x : No V).2.kid y = fresh y := rfl
    rw [atq, this]; exact ih y
theorem atq_none {V : Type} [Inhabited V] {q : List By} {n : No V} (h : getN q n = none) : (atq q n).1.held = false := by
  induction q generalizing n with
  | nil => simp [getN] at h
  | cons x q ih =>
    rw [getN] at h
    rw [atq, Fo.kid]
    cases hs : n.2.sel x with
    | none => exact atq_fresh q x
    | some m => rw [hs] at h; exact ih h
/-- a key is there. -/
def hasE {V : Type} (q : List By) (l : List (En V)) : Bool := l.any fun e => e.p == q
theorem held_has {V : Type} [Inhabited V] {q : List By} {n : No V} (h : ok n) : (atq q n).1.held = hasE q (nents n) := by
  unfold hasE
  rw [← getE_any, get_ents h]
  cases hg : getN q n with
  | none => rw [atq_none hg]; rfl
  | some m => rw [atq_getN hg]; dsimp only; cases m.1.held <;> rfl
end Go.Proofs.Ytpnfkgjcnofjnaa.Tr
namespace Go.Proofs.Ytpnfkgjcnofjnaa.Ti
open Go.RowKit Go.Shelf Tr

/-- a tree's size is written. -/
theorem node_size {w : World} {z b : Nat} {n : No TV} {F : List Nat} (h : NodeM w (some z) b n F) (hd : F.Nodup) (z' : Nat) : NodeM (w.setCell ⟨b, 5, none⟩ (.int .i64 (z' : Nat))) (some z') b n F := by
  obtain ⟨kv, ks, F1, rfl, h3, h4, h5⟩ := h
  have hb := (List.nodup_cons.1 hd).1
  have hs : ∀ j, j ≠ b → (w.setCell ⟨b, 5, none⟩ (.int .i64 (z' : Nat))).heap[j]? = w.heap[j]? := fun j hj => heap_setCell_other _ ⟨b, 5, none⟩ j _ hj
  exact ⟨kv, ks, F1, rfl, h3.set 5 (.int .i64 (z' : Nat)), row_same h4 fun j hj => hs j (fun e => hb (by rw [← e]; simp [hj])), h5.same fun j hj => hs j (fun e => hb (by rw [← e]; simp [hj]))⟩
theorem NodeM.five {w : World} {z b : Nat} {n : No TV} {F : List Nat} (h : NodeM w (some z) b n F) : w.cell? ⟨b, 5, none⟩ = some (.int .i64 (z : Nat)) ∧ w.frozen? ⟨b, 5, none⟩ = false := by
  obtain ⟨kv, ks, F1, _, h3, _⟩ := h
  exact ⟨by rw [h3.cell]; rfl, h3.free 5⟩
def putN (s : By) (v : TV) (n : No TV) : No TV := upd (pth s) (setN (Nm.fold s) v) n
theorem put_len {s : By} {v : TV} {n : No TV} (h : ok n) : (nents (putN s v n)).length = if hasE (pth s) (nents n) then (nents n).length else (nents n).length + 1 := by
  unfold putN hasE
  rw [put_ents h, insE_length (asc_nents h)]
theorem PutNo_any {w : World} {b : Nat} {n : No TV} {F : List Nat} (h : TM w b n F) (s : ByteArray) (v : TV) (hs : s.size ≤ 140737488355328) (hn : isN s.data.toList = false) :
    Calls Try.prog 12 #[ptr b, .string s, tz v] w fun e w' => e = .returned (.tuple #[.bool false, .int .i64 11]) ∧ TM w' b n F ∧ Below w.heap.size w w' := by
  have HK := Lib.hid (keyOf_any s w hs)
  have H := Lib.hid h
  simp only [hn, Bool.false_eq_true, if_false] at HK
  clear hn h
  go_enter Try.func12, Try.ntmps12
  go_wp2_with (go_at_call 42; refine HK.out.mono ?_; rintro e w1 ⟨rfl, hb1⟩)
  go_ret2
  exact ⟨rfl, H.out.below hb1 (Nat.le_refl _), hb1⟩
set_option maxRecDepth 100000 in
set_option maxHeartbeats 1000000 in
theorem Put_any {w : World} {b : Nat} {n : No TV} {F : List Nat} (h : TM w b n F) (hfew : (nents n).length < 1000000) (s : ByteArray) (v : TV) (hs : s.size ≤ 140737488355328) (hn : isN s.data.toList = true) :
    Calls Try.prog 12 #[ptr b, .string s, tz v] w fun e w' => ∃ F', e = .returned (.tuple #[.bool !hasE (pth s.data.toList) (nents n), .int .i64 0]) ∧ TM w' b (putN s.data.toList v n) F' ∧ New w F F' ∧ Only F w w' := by
  have HK := Lib.hid (keyOf_any s w hs)
  have HL := Lib.hid (key_labels s hs)
  have H := Lib.hid h
  simp only [hn, if_true] at HK
  have hlen := put_len (s := s.data.toList) (v := v) h.ok
  have hheld := held_has (q := pth s.data.toList) h.ok
  have hok := put_ok (q := pth s.data.toList) (k := Nm.fold s.data.toList) (v := v) h.ok
  have hbF := h.node.blk
  have hq : (labelsOf (Nm.fold s.data.toList)).reverse = pth s.data.toList := rfl
  have hfew' := labs_few (Nm.fold s.data.toList)
  have HFEW := Lib.hid hfew
  generalize labelsOf (Nm.fold s.data.toList) = ls at *
  have HAT := Lib.hid (fun (w1 : World) (A : Option Addr) (c : Nat) (hr : Rd w1 w1.heap.size (.slice A ls.length c) ls) (hb : Below w.heap.size w w1) (hap : ∀ g o, A = some ⟨g, o, none⟩ → w.heap.size ≤ g) => at_any (h.node.below hb (Nat.le_refl _)) h.nd h.ok (Nat.le_trans h.few (by decide)) hr (fun g o hg hm => by have := hap g o hg; have := h.node.lt g hm; omega) (by omega))
  rw [hq] at HAT
  obtain ⟨z, hz⟩ : ∃ z, (nents n).length = z := ⟨_, rfl⟩
  obtain ⟨m, hm⟩ : ∃ m : No TV, m = putN s.data.toList v n := ⟨_, rfl⟩
  rw [← hm] at hlen ⊢
  rw [hz] at HAT hlen HFEW
  have HOK : Hid (ok m) := by rw [hm]; exact hok
  have hafter : ∀ (w1 w2 w3 : World) (t1 : Option Nat) (b1 : Nat) (A1 F1 B1 : List Nat), Below w.heap.size w w1 → Lens w2 (some z) b n (pth s.data.toList) t1 b1 A1 F1 B1 → (A1 ++ (F1 ++ B1)).Nodup → New w1 F (A1 ++ (F1 ++ B1)) → Only F w1 w2 →
      NodeM w3 t1 b1 (setN (Nm.fold s.data.toList) v (atq (pth s.data.toList) n)) F1 → Only [b1] w2 w3 → NodeM w3 (some z) b m (A1 ++ (F1 ++ B1)) ∧ New w F (A1 ++ (F1 ++ B1)) ∧ Only F w w3 := fun w1 w2 w3 t1 b1 A1 F1 B1 hb1 hL hnd hnew ho1 hnm ho2 => by
    have hb1F : b1 ∈ F1 := hL.node.blk
    have hd1 := List.nodup_append.1 hnd
    have hd2 := List.nodup_append.1 hd1.2.1
    have hsame : ∀ k, k ∈ A1 ∨ k ∈ B1 → w3.heap[k]? = w2.heap[k]? := fun k hk => by
      refine ho2.block k (hL.lt k (by rcases hk with hk | hk <;> simp [hk])) (fun hkb => ?_)
      simp at hkb
      subst hkb
      rcases hk with hk | hk
      · exact hd1.2.2 k hk k (by simp [hb1F]) rfl
      · exact hd2.2.2 k hb1F k hk rfl
    refine ⟨?_, fun k hk => ?_, ?_⟩
    · rw [hm]; exact hL.put _ hsame hnm
    · rcases hnew k hk with h1 | h1
      · exact .inl h1
      · exact .inr (Nat.le_trans hb1.size h1)
    · refine ((Only.of_below hb1 (Nat.le_refl _) F).trans ho1).trans' ho2 (fun i hi => ?_)
      simp at hi
      subst hi
      rcases hnew i (by simp [hb1F]) with h1 | h1
      · exact .inl h1
      · exact .inr (Nat.le_trans hb1.size h1)
  have HAF := Lib.hid hafter
  have hbM : b ∈ F := hbF
  clear hn h hz hm hok hq hfew' hafter hfew hbF
  generalize hhd : (atq (pth s.data.toList) n).1.held = hd at *
  rw [← hheld]
  rw [← hheld] at hlen
  have HHD := Lib.hid hhd
  clear hheld hhd
  go_enter Try.func12, Try.ntmps12
  go_wp2_with (go_at_call 42; refine HK.out.mono ?_; rintro e w1 ⟨rfl, hb1⟩)
  have hb1d := hb1.drew
  go_region_with (first
    | (go_at_call 44; refine (HL.out _).mono ?_; rintro e w2 ⟨A, c, rfl, hr2, hg2, hb2⟩; have HR2 := Lib.hid hr2; have hb12 := hb1d.trans (hb2.mono hb1.size); have HG2 := Lib.hid hg2; clear hr2 hg2)
    | (go_at_call 43; refine (HAT.out _ _ _ HR2.out hb12 (fun g o hg => Nat.le_trans hb1.size (HG2.out g o hg))).mono ?_; rintro e w3 ⟨t1, b1, A1, F1, B1, rfl, hL, hnd, hnew, ho3⟩; have HL3 := Lib.hid hL; have HND3 := Lib.hid hnd; have HNEW3 := Lib.hid hnew; have HO3 := Lib.hid ho3; clear hL hnd hnew ho3)
    | (go_at_call 45; have hsv := set_any HL3.out.node (List.nodup_append.1 (List.nodup_append.1 HND3.out).2.1).1 (Nm.fold s.data.toList) v; rw [HHD.out] at hsv; refine hsv.mono ?_; rintro e w4 ⟨rfl, hn4, ho4⟩; have HAF4 := Lib.hid (HAF.out _ _ _ _ _ _ _ _ hb12 HL3.out HND3.out HNEW3.out HO3.out hn4 ho4); clear hn4 ho4 hsv))
  have HNDF := HND3.out
  have HLEN := Lib.hid hlen
  clear hlen
  cases hd with
  | true =>
    go_wp2
    go_ret2
    have hl : (nents m).length = z := by have h0 := HLEN.out; simpa using h0
    exact ⟨rfl, _, ⟨by rw [hl]; exact HAF4.out.1, HNDF, HOK.out, by have := HFEW.out; omega⟩, HAF4.out.2.1, HAF4.out.2.2⟩
  | false =>
    obtain ⟨c5, f5⟩ := HAF4.out.1.five
    have hwr : IntKind.i64.wrap ((z : Int) + 1) = ((z + 1 : Nat) : Int) := by have := HFEW.out; rw [IntKind.wrap_i64]; omega
    go_wp2
    go_ret2
    have hl : (nents m).length = z + 1 := by have h0 := HLEN.out; simpa using h0
    exact ⟨_, rfl, ⟨by rw [hl]; exact node_size HAF4.out.1 HNDF _, HNDF, HOK.out, by have := HFEW.out; omega⟩, HAF4.out.2.1, HAF4.out.2.2.setCell (p := ⟨b, 5, none⟩) (.inl hbM) _⟩
end Go.Proofs.Ytpnfkgjcnofjnaa.Ti
/- A value is taken out of a tree. -/
namespace Go.Proofs.Ytpnfkgjcnofjnaa.Ti
open Go.RowKit Go.Shelf Tr

def delN (s : By) (n : No TV) : No TV := (drop (pth s) n).1
set_option maxRecDepth 100000 in
theorem DelNo_any {w : World} {b : Nat} {n : No TV} {F : List Nat} (h : TM w b n F) (s : ByteArray) (hs : s.size ≤ 140737488355328) (hn : isN s.data.toList = false) :
    Calls Try.prog 14 #[ptr b, .string s] w fun e w' => e = .returned (.bool false) ∧ TM w' b n F ∧ Below w.heap.size w w' := by
  have HK := Lib.hid (keyOf_any s w hs)
  have H := Lib.hid h
  simp only [hn, Bool.false_eq_true, if_false] at HK
  clear hn h
  go_enter Try.func14, Try.ntmps14
  go_wp2_with (go_at_call 42; refine HK.out.mono ?_; rintro e w1 ⟨rfl, hb1⟩)
  go_quiet (fail)
  go_wp2
  go_ret
  exact ⟨rfl, H.out.below (below_drewN hb1 _) (Nat.le_refl _), below_drewN hb1 _⟩
set_option maxRecDepth 100000 in
set_option maxHeartbeats 1000000 in
theorem Del_any {w : World} {b : Nat} {n : No TV} {F : List Nat} (h : TM w b n F) (s : ByteArray) (hs : s.size ≤ 140737488355328) (hn : isN s.data.toList = true) :
    Calls Try.prog 14 #[ptr b, .string s] w fun e w' => ∃ F', e = .returned (.bool (hasE (pth s.data.toList) (nents n))) ∧ TM w' b (delN s.data.toList n) F' ∧ New w F F' ∧ Only F w w' := by
  have HK := Lib.hid (keyOf_any s w hs)
  have HL := Lib.hid (key_labels s hs)
  simp only [hn, if_true] at HK
  obtain ⟨he, hr, hok⟩ := drop_ents (q := pth s.data.toList) h.ok
  have hlen := drop_length (q := pth s.data.toList) (asc_nents h.ok)
  rw [← he] at hlen
  have hbF := h.node.blk
  have hq : (labelsOf (Nm.fold s.data.toList)).reverse = pth s.data.toList := rfl
  have hfew' := labs_few (Nm.fold s.data.toList)
  have HFEW := Lib.hid h.few
  generalize labelsOf (Nm.fold s.data.toList) = ls at *
  have HDR := Lib.hid (fun (w1 : World) (A : Option Addr) (c : Nat) (hr : Rd w1 w1.heap.size (.slice A ls.length c) ls) (hb : Below w.heap.size w w1) (hap : ∀ g o, A = some ⟨g, o, none⟩ → w.heap.size ≤ g) => drop_any (pth s.data.toList) hq (h.node.below hb (Nat.le_refl _)) h.nd h.ok (Nat.le_trans h.few (by decide)) hr (fun g o hg hm => by have := hap g o hg; have := h.node.lt g hm; omega) (by omega))
  unfold hasE delN
  rw [hr] at HDR
  generalize drop (pth s.data.toList) n = dr at *
  obtain ⟨m, d0⟩ := dr
  simp only at hlen hok HDR ⊢
  generalize hzz : (nents n).length = z at *
  generalize hdd : (nents n).any (fun e => e.p == pth s.data.toList) = d at *
  have hz1 : d = true → 1 ≤ z := fun hd => by
    rw [← hzz]
    cases hl : nents n with
    | nil => rw [hl] at hdd; rw [hd] at hdd; simp at hdd
    | cons a l => simp
  have HLEN := Lib.hid hlen
  have HOK := Lib.hid hok
  have hbM : b ∈ F := hbF
  clear hn h hr he hok hlen hq hfew' hbF hzz hdd
  cases d with
  | true =>
    have hz1' := hz1 rfl
    clear hz1
    go_enter Try.func14, Try.ntmps14
    go_wp2_with (go_at_call 42; refine HK.out.mono ?_; rintro e w1 ⟨rfl, hb1⟩)
    have hb1d := hb1.drew
    have hwr : IntKind.i64.wrap ((z : Int) - 1) = ((z - 1 : Nat) : Int) := by have := HFEW.out; rw [IntKind.wrap_i64]; omega
    go_region_held3 (fun W => w.heap.size ≤ W.heap.size) (first | exact HSZ3.out | exact hb12.size | exact hb1d.size) (first
      | (go_at_call 44; refine (HL.out _).mono ?_; rintro e w2 ⟨A, c, rfl, hr2, hg2, hb2⟩; have HR2 := Lib.hid hr2; have hb12 := hb1d.trans (hb2.mono hb1.size); have HG2 := Lib.hid hg2; clear hr2 hg2)
      | (go_at_call 48; refine (HDR.out _ _ _ HR2.out hb12 (fun g o hg => Nat.le_trans hb1.size (HG2.out g o hg))).mono ?_; rintro e w3 ⟨F3, rfl, hn3, hnd3, hs3, ho3⟩; obtain ⟨c5, f5⟩ := hn3.five; have HN3 := Lib.hid hn3; have HND3 := Lib.hid hnd3; have HO3 := Lib.hid ho3; have HSZ3 : Hid (w.heap.size ≤ w3.heap.size) := Nat.le_trans hb12.size ho3.size; clear hn3 hnd3 ho3))
    go_wp2
    go_ret
    have hl : (nents m).length = z - 1 := by have h0 := HLEN.out; simpa using h0
    refine ⟨F3, rfl, ⟨by rw [hl]; exact node_size HN3.out HND3.out _, HND3.out, HOK.out, by have := HFEW.out; omega⟩, fun k hk => .inl (hs3 k hk), ?_⟩
    exact ((Only.of_below hb12 (Nat.le_refl _) F).trans HO3.out).setCell (p := ⟨b, 5, none⟩) (.inl hbM) _
  | false =>
    clear hz1
    go_enter Try.func14, Try.ntmps14
    go_wp2_with (go_at_call 42; refine HK.out.mono ?_; rintro e w1 ⟨rfl, hb1⟩)
    have hb1d := hb1.drew
    go_region_held3 (fun W => w.heap.size ≤ W.heap.size) (first | exact HSZ3.out | exact hb12.size | exact hb1d.size) (first
      | (go_at_call 44; refine (HL.out _).mono ?_; rintro e w2 ⟨A, c, rfl, hr2, hg2, hb2⟩; have HR2 := Lib.hid hr2; have hb12 := hb1d.trans (hb2.mono hb1.size); have HG2 := Lib.hid hg2; clear hr2 hg2)
      | (go_at_call 48; refine (HDR.out _ _ _ HR2.out hb12 (fun g o hg => Nat.le_trans hb1.size (HG2.out g o hg))).mono ?_; rintro e w3 ⟨F3, rfl, hn3, hnd3, hs3, ho3⟩; obtain ⟨c5, f5⟩ := hn3.five; have HN3 := Lib.hid hn3; have HND3 := Lib.hid hnd3; have HO3 := Lib.hid ho3; have HSZ3 : Hid (w.heap.size ≤ w3.heap.size) := Nat.le_trans hb12.size ho3.size; clear hn3 hnd3 ho3))
    go_wp2
    go_ret
    have hl : (nents m).length = z := by have h0 := HLEN.out; simpa using h0
    exact ⟨F3, rfl, ⟨by rw [hl]; exact HN3.out, HND3.out, HOK.out, by have := HFEW.out; omega⟩, fun k hk => .inl (hs3 k hk), (Only.of_below hb12 (Nat.le_refl _) F).trans HO3.out⟩
end Go.Proofs.Ytpnfkgjcnofjnaa.Ti
