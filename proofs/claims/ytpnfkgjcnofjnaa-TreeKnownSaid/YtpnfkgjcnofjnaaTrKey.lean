/- A tree's keys: names in small letters; the node of a name. -/
import Derived.Test.YtpnfkgjcnofjnaaTrAll
import Derived.Test.YtpnfkgjcnofjnaaTrDown
import Derived.Test.YtpnfkgjcnofjnaaFold
import Derived.Test.YtpnfkgjcnofjnaaLabels
namespace Go.Proofs.Ytpnfkgjcnofjnaa.Tr
open Nm
def isN (s : By) : Bool := (split s).isSome
theorem split_fold {s : By} {ls : List By} (h : split s = some ls) : split (fold s) = some (ls.map fold) := by
  obtain ⟨rfl, g, hl⟩ := split_some.1 h
  have e := fold_glue g
  rw [e]
  refine split_glue (good_fold g) ?_
  rw [← e, fold_length]; exact hl
theorem small_small (c : UInt8) : small (small c) = small c := by
  unfold small
  by_cases h : 65 ≤ c ∧ c ≤ 90
  · rw [if_pos h, if_neg]
    simp only [UInt8.le_iff_toNat_le, UInt8.toNat_add] at *
    simp at *
    omega
  · rw [if_neg h, if_neg h]
theorem fold_fold (s : By) : fold (fold s) = fold s := by simp [fold, small_small, Function.comp_def]
/-- a name's labels in small letters, from the last one on. -/
def pth (s : By) : List By := (labelsOf (fold s)).reverse
theorem pth_of {s : By} {ls : List By} (h : split s = some ls) : pth s = (ls.map fold).reverse := by
  unfold pth labelsOf; rw [split_fold h]; rfl
theorem labs_few (s : By) : (labelsOf s).length ≤ 255 := by
  unfold labelsOf
  rcases h : split s with _ | ls
  · simp
  · obtain ⟨rfl, g, hl⟩ := split_some.1 h
    have := good_count g
    rw [glue_length] at hl
    simp only [Option.getD_some]
    omega
theorem pth_few (s : By) : (pth s).length ≤ 255 := by unfold pth; rw [List.length_reverse]; exact labs_few _
end Go.Proofs.Ytpnfkgjcnofjnaa.Tr
namespace Go.Proofs.Ytpnfkgjcnofjnaa.Ti
open Go.RowKit Go.Shelf Tr

theorem keyOf_any (s : ByteArray) (w : World) (hs : s.size ≤ 140737488355328) :
    Calls Try.prog 42 #[.string s] w fun e w' => e = .returned (.tuple #[.string ⟨(if isN s.data.toList then Nm.fold s.data.toList else []).toArray⟩, .bool (isN s.data.toList)]) ∧ Below w.heap.size w w' := by
  have HC := Lib.hid (Check_any s w hs)
  have HF := Lib.hid (fun w => Fold_any s w hs)
  unfold isN
  cases hn : (Nm.split s.data.toList).isSome with
  | false =>
    rw [hn] at HC
    clear hn
    go_enter Try.func42, Try.ntmps42
    go_wp2_with (go_at_call 72; refine HC.out.mono ?_; rintro e w1 ⟨rfl, hb1⟩)
    go_ret2
    exact ⟨rfl, hb1⟩
  | true =>
    rw [hn] at HC
    clear hn
    go_enter Try.func42, Try.ntmps42
    go_wp2_with (first | (go_at_call 72; refine HC.out.mono ?_; rintro e w1 ⟨rfl, hb1⟩) | (go_at_call 73; refine (HF.out _).mono ?_; rintro e w2 ⟨rfl, hb2⟩))
    go_ret2
    exact ⟨rfl, hb1.trans (hb2.mono hb1.size)⟩
theorem arr_list (l : List UInt8) : (⟨l.toArray⟩ : ByteArray).data.toList = l := by simp
theorem arr_size (l : List UInt8) : (⟨l.toArray⟩ : ByteArray).size = l.length := rfl
theorem fold_size (s : ByteArray) : (⟨(Nm.fold s.data.toList).toArray⟩ : ByteArray).size = s.size := by rw [arr_size, Nm.fold_length, Array.length_toList]; rfl
/-- a name's key and its labels. -/
theorem key_labels (s : ByteArray) (hs : s.size ≤ 140737488355328) (w : World) :
    Calls Try.prog 44 #[.string ⟨(Nm.fold s.data.toList).toArray⟩] w fun e w' => ∃ A c, e = .returned (.slice A (labelsOf (Nm.fold s.data.toList)).length c) ∧ Rd w' w'.heap.size (.slice A (labelsOf (Nm.fold s.data.toList)).length c) (labelsOf (Nm.fold s.data.toList)) ∧ (∀ g o, A = some ⟨g, o, none⟩ → w.heap.size ≤ g) ∧ Below w.heap.size w w' := by
  have h := Labels_any ⟨(Nm.fold s.data.toList).toArray⟩ w (by rw [fold_size]; exact hs)
  rw [arr_list] at h
  refine h.mono ?_
  rintro e w' ⟨v, rfl, hr, hb⟩
  have hrd := Rd.of_own hr
  obtain ⟨A, c, rfl⟩ := own_form hr
  refine ⟨A, c, rfl, hrd, fun g o hg => ?_, hb⟩
  rcases hr.2 with ⟨e0, _⟩ | ⟨g', cap, cur, e0, hb', _⟩
  · injection e0 with e1; rw [hg] at e1; cases e1
  · injection e0 with e1; rw [hg] at e1; injection e1 with e1; injection e1 with e1; omega
theorem getN_dep {q : List By} {n : No TV} : getN q n = if dep q n < q.length then none else some (atq q n) := by
  split
  · rename_i h
    have := getN_none q n q.length (Nat.le_refl _) h
    rwa [List.take_of_length_le (Nat.le_refl _)] at this
  · rename_i h
    have := getN_take q n q.length (by omega)
    rwa [List.take_of_length_le (Nat.le_refl _)] at this
/-- what find tells. -/
def FindR (w' : World) (sz b : Nat) (n : No TV) (F : List Nat) (s : By) (p : Value) : Prop :=
  match if isN s then getN (pth s) n else none with
  | none => p = .pointer none
  | some _ => ∃ t1 b1 A1 F1 B1, p = ptr b1 ∧ Lens w' (some sz) b n (pth s) t1 b1 A1 F1 B1 ∧ A1 ++ (F1 ++ B1) = F
theorem find_any {w : World} {sz b : Nat} {n : No TV} {F : List Nat} (h : NodeM w (some sz) b n F) (hok : ok n) (hN : (nents n).length ≤ 1099511627776) (s : ByteArray) (hs : s.size ≤ 140737488355328) :
    Calls Try.prog 58 #[ptr b, .string s] w fun e w' => ∃ p, e = .returned p ∧ FindR w' sz b n F s.data.toList p ∧ Below w.heap.size w w' := by
  have HK := Lib.hid (keyOf_any s w hs)
  have HL := Lib.hid (key_labels s hs)
  have H := Lib.hid h
  have HOK := Lib.hid hok
  have HN := Lib.hid hN
  unfold FindR
  cases hn : isN s.data.toList with
  | false =>
    simp only [hn, Bool.false_eq_true, if_false] at HK ⊢
    clear hn h hok hN
    go_enter Try.func58, Try.ntmps58
    go_wp2_with (go_at_call 42; refine HK.out.mono ?_; rintro e w1 ⟨rfl, hb1⟩)
    go_ret
    exact ⟨_, rfl, rfl, hb1⟩
  | true =>
    simp only [hn, if_true] at HK ⊢
    have hq : (labelsOf (Nm.fold s.data.toList)).reverse = pth s.data.toList := rfl
    have hfew := labs_few (Nm.fold s.data.toList)
    have hd := getN_dep (q := pth s.data.toList) (n := n)
    have hqe : (pth s.data.toList).length = (labelsOf (Nm.fold s.data.toList)).length := by unfold pth; simp
    generalize labelsOf (Nm.fold s.data.toList) = ls at *
    generalize pth s.data.toList = q at *
    have HDN := Lib.hid (fun (w1 : World) (A : Option Addr) (c : Nat) (hr : Rd w1 w1.heap.size (.slice A ls.length c) ls) (hb : Below w.heap.size w w1) => down_any (H.out.below hb (Nat.le_refl _)) hok hN hr (by omega))
    have hle := dep_le q n
    rw [hq] at HDN
    generalize hdp : dep q n = d at *
    generalize hgn : getN q n = g at *
    subst hd
    rw [hqe]
    by_cases hlt : d < ls.length
    · have hlt' : (d : Int) < (ls.length : Int) := by omega
      simp only [hlt, if_true]
      clear hn h hok hN hq hgn hdp
      go_enter Try.func58, Try.ntmps58
      go_wp2_with (first
        | (go_at_call 42; refine HK.out.mono ?_; rintro e w1 ⟨rfl, hb1⟩)
        | (go_at_call 44; refine (HL.out _).mono ?_; rintro e w2 ⟨A, c, rfl, hr2, _, hb2⟩; have HR2 := Lib.hid hr2; have hb12 := hb1.trans (hb2.mono hb1.size); clear hr2)
        | (go_at_call 61; refine (HDN.out _ _ _ HR2.out hb12).mono ?_; rintro e w3 ⟨t1, b1, A1, F1, B1, rfl, hL, hF, hb3⟩; have HL3 := Lib.hid hL; clear hL))
      go_ret
      exact ⟨_, rfl, rfl, hb12.trans (hb3.mono hb12.size)⟩
    · have hlt' : ¬ (d : Int) < (ls.length : Int) := by omega
      have hdq : q.take d = q := List.take_of_length_le (by omega)
      rw [hdq] at HDN
      simp only [hlt, if_false]
      clear hn h hok hN hq hgn hdp hdq
      go_enter Try.func58, Try.ntmps58
      go_wp2_with (first
        | (go_at_call 42; refine HK.out.mono ?_; rintro e w1 ⟨rfl, hb1⟩)
        | (go_at_call 44; refine (HL.out _).mono ?_; rintro e w2 ⟨A, c, rfl, hr2, _, hb2⟩; have HR2 := Lib.hid hr2; have hb12 := hb1.trans (hb2.mono hb1.size); clear hr2)
        | (go_at_call 61; refine (HDN.out _ _ _ HR2.out hb12).mono ?_; rintro e w3 ⟨t1, b1, A1, F1, B1, rfl, hL, hF, hb3⟩; have HL3 := Lib.hid hL; clear hL))
      go_ret
      exact ⟨_, rfl, ⟨t1, b1, A1, F1, B1, rfl, HL3.out, hF⟩, hb12.trans (hb3.mono hb12.size)⟩
end Go.Proofs.Ytpnfkgjcnofjnaa.Ti
