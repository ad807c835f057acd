/- Texts of the proofs, merged. -/
import Derived.Test.YtpinhpnmnfcdoaaDoorG2
import Derived.Test.YtpinhpnmnfcdoaaDoorG1
import Derived.Lib.Hide
import Derived.WalkKit
import Derived.Laws.Bits64b
import Derived.Lib.ConvBytes
/- A name's labels, how many, whether it is one: the program's answers. -/
namespace Go.Proofs.YtpinhpnmnfcdoaaDoor
open Go.RowKit

set_option maxHeartbeats 400000 in
set_option maxRecDepth 100000 in
theorem label_any (s : ByteArray) (g i : Nat) (ls : List (List UInt8)) (w : World) (h : Has w g 111 (marksV ls)) (hn : Nm.split s.data.toList = some ls) (hi : i < ls.length) :
    Calls Tryd.prog 78 #[.pointer (some ⟨g, 0, none⟩), .string s, .int .i64 i] w fun e w' => e = .returned (sv ls[i]) ∧ ∃ n, w' = w.drewN n := by
  obtain ⟨hl, hg, h255⟩ := Nm.split_some.1 hn
  have hlen : (Nm.glue ls).length = s.size := by rw [← hl]; simp
  have hcut : sv ls[i] = .string (s.extract ((Nm.body (ls.take i)).length + 1) (Nm.body (ls.take (i + 1))).length) := by
    unfold sv
    rw [← string_eq (s := s.extract _ _)]
    rw [extract_list, hl, Nm.label_cut hi]
  have hcnt := Nm.good_count hg
  have hbl := Nm.glue_length ls
  have h255' : s.size ≤ 255 := by simpa using h255
  have c1 : w.cell? ⟨g, i, none⟩ = some (.int .u8 ((Nm.body (ls.take i)).length : Nat)) := by rw [h.cell]; exact mkc_at _ _ _ (Nm.offs_get ls i (by omega))
  have c2 : w.cell? ⟨g, i + 1, none⟩ = some (.int .u8 ((Nm.body (ls.take (i + 1))).length : Nat)) := by rw [h.cell]; exact mkc_at _ _ _ (Nm.offs_get ls (i + 1) (by omega))
  have hts := Nm.take_succ_body hi
  have hle := Nm.body_take_le (ls := ls) (i := i + 1)
  have hi' : i + 1 ≤ 127 := by omega
  have hb1 : (Nm.body (ls.take i)).length + 1 ≤ (Nm.body (ls.take (i + 1))).length := by omega
  have hb2 : (Nm.body (ls.take (i + 1))).length + 1 ≤ s.size := by omega
  rw [hcut]
  clear hcut hl hg h255 hn hlen hcnt hbl hts hle h
  generalize (Nm.body (ls.take (i + 1))).length = b at *
  generalize (Nm.body (ls.take i)).length = a at *
  go_enter Tryd.func78, Tryd.ntmps78
  go_wp2
  go_quiet (fail)
  go_wp2
  go_ret
  exact ⟨rfl, _, rfl⟩

theorem marks_none (s : ByteArray) (w : World) (hs : s.size ≤ 140737488355328) (h : Nm.split s.data.toList = none) :
    Calls Tryd.prog 63 #[.string s] w fun e w' => e = .returned (.tuple #[.agg (mkc [] 0), .bool false]) ∧ Below w.heap.size w w' :=
  (marksOf_any s w hs).mono fun _ _ ⟨he, hb⟩ => ⟨by rw [he, marksR_none h], hb⟩
theorem marks_some (s : ByteArray) (ls : List (List UInt8)) (w : World) (hs : s.size ≤ 140737488355328) (h : Nm.split s.data.toList = some ls) :
    Calls Tryd.prog 63 #[.string s] w fun e w' => e = .returned (.tuple #[.agg (marksV ls), .bool true]) ∧ Below w.heap.size w w' :=
  (marksOf_any s w hs).mono fun _ _ ⟨he, hb⟩ => ⟨by rw [he, marksR_some h], hb⟩
theorem few {l : List UInt8} {ls : List (List UInt8)} (h : Nm.split l = some ls) : ls.length ≤ 127 := by
  obtain ⟨hl, hg, h255⟩ := Nm.split_some.1 h
  have := Nm.good_count hg
  have := Nm.glue_length ls
  rw [hl] at h255
  omega

/-- what is in a new block of marks behind the store of these. -/
theorem marks_stored {w w1 : World} {os : List Nat} {c : Nat} (hb : Below w.heap.size w w1) :
    Has ((w1.alloc (.cells Tryd.zeroCells111 111)).setRow w1.heap.size (mkc os c)) w1.heap.size 111 (mkc os c) ∧ Below w.heap.size w ((w1.alloc (.cells Tryd.zeroCells111 111)).setRow w1.heap.size (mkc os c)) :=
  ⟨(Has.fresh w1 _ _).row _, below_setRow (hb.alloc hb.size _) hb.size _⟩

set_option maxRecDepth 100000 in
theorem Check_any (s : ByteArray) (w : World) (hs : s.size ≤ 140737488355328) :
    Calls Tryd.prog 39 #[.string s] w fun e w' => e = .returned (.int .i64 (if (Nm.split s.data.toList).isSome then 0 else 11)) ∧ Below w.heap.size w w' := by
  have HZ : ∀ w1 : World, Hid (Has (w1.alloc (.cells Tryd.zeroCells111 111)) w1.heap.size 111 Tryd.zeroCells111) := fun w1 => Has.fresh w1 _ _
  rcases hn : Nm.split s.data.toList with _ | ls
  · have hm := Lib.hid (marks_none s w hs hn)
    have HI := Lib.hid (markInfo (os := []) 0 (by simp))
    clear hn
    go_enter Tryd.func39, Tryd.ntmps39
    go_wp2_with (first | (go_at_call 63; refine hm.out.mono ?_; rintro e w1 ⟨rfl, hb1⟩) | (refine wpList_store_row rfl 111 (.tmp 3) (.tmp 8) rfl w1.heap.size (mkc [] 0) rfl rfl 111 Tryd.zeroCells111 (HZ w1).out HI.out zeroMarks_size.symm (mkc_one _ _) ?_))
    go_ret
    exact ⟨rfl, (marks_stored hb1).2⟩
  · have hm := Lib.hid (marks_some s ls w hs hn)
    have ho : (Nm.offs ls).length ≤ 128 := by rw [Nm.offs_length]; have := few hn; omega
    have HI : Hid ((Tryd.prog.info? 111).map (·.size) = some (marksV ls).size) := markInfo (os := Nm.offs ls) ls.length ho
    have HO : Hid (Tryd.zeroCells111.size = (marksV ls).size) := by rw [Hid, ← zeroMarks_size, mkc_size _ (by simp), marksV, mkc_size _ ho]
    clear hn
    go_enter Tryd.func39, Tryd.ntmps39
    go_wp2_with (first | (go_at_call 63; refine hm.out.mono ?_; rintro e w1 ⟨rfl, hb1⟩) | (refine wpList_store_row rfl 111 (.tmp 3) (.tmp 8) rfl w1.heap.size (marksV ls) rfl rfl 111 Tryd.zeroCells111 (HZ w1).out HI.out HO.out (mkc_one _ _) ?_))
    go_ret
    exact ⟨rfl, (marks_stored hb1).2⟩

/-- its labels; none of what is no name. -/
def labelsOf (l : List UInt8) : List (List UInt8) := (Nm.split l).getD []

set_option maxHeartbeats 400000 in
set_option maxRecDepth 100000 in
theorem Labels_any (s : ByteArray) (w : World) (hs : s.size ≤ 140737488355328) :
    Calls Tryd.prog 58 #[.string s] w fun e w' => ∃ v, e = .returned v ∧ w'.ownsRow w.heap.size 9 1 v (labelsOf s.data.toList).length (svs (labelsOf s.data.toList)) ∧ Below w.heap.size w w' := by
  have HZ : ∀ w1 : World, Hid (Has (w1.alloc (.cells Tryd.zeroCells111 111)) w1.heap.size 111 Tryd.zeroCells111) := fun w1 => Has.fresh w1 _ _
  obtain ⟨i0, hi, hz0, hz1, hz2⟩ := info_parts Tryd.infoString
  unfold labelsOf
  rcases hn : Nm.split s.data.toList with _ | ls
  · have hm := Lib.hid (marks_none s w hs hn)
    have HI := Lib.hid (markInfo (os := []) 0 (by simp))
    have hc : ∀ w1 : World, ((w1.alloc (.cells Tryd.zeroCells111 111)).setRow w1.heap.size (mkc [] 0)).cell? ⟨w1.heap.size, 128, none⟩ = some (.int .i64 0) := fun w1 => by
      rw [((Has.fresh w1 _ _).row _).cell]; exact mkc_count 0 (by simp)
    clear hn
    go_enter Tryd.func58, Tryd.ntmps58
    go_wp2_with (first | (go_at_call 63; refine hm.out.mono ?_; rintro e w1 ⟨rfl, hb1⟩) | (refine wpList_store_row rfl 111 (.tmp 3) (.tmp 10) rfl w1.heap.size (mkc [] 0) rfl rfl 111 Tryd.zeroCells111 (HZ w1).out HI.out zeroMarks_size.symm (mkc_one _ _) ?_))
    refine wp_loop_rounds 1 ?_
    rw [rounds_succ]
    go_wp2
    go_ret
    exact ⟨_, rfl, World.ownsRow_nil _ _ _ _, (marks_stored hb1).2⟩
  · have hm := Lib.hid (marks_some s ls w hs hn)
    have hfew := few hn
    have ho : (Nm.offs ls).length ≤ 128 := by rw [Nm.offs_length]; omega
    have HI : Hid ((Tryd.prog.info? 111).map (·.size) = some (marksV ls).size) := markInfo (os := Nm.offs ls) ls.length ho
    have HO : Hid (Tryd.zeroCells111.size = (marksV ls).size) := by rw [Hid, ← zeroMarks_size, mkc_size _ (by simp), marksV, mkc_size _ ho]
    have hc : ∀ w1 : World, ((w1.alloc (.cells Tryd.zeroCells111 111)).setRow w1.heap.size (marksV ls)).cell? ⟨w1.heap.size, 128, none⟩ = some (.int .i64 (ls.length : Nat)) := fun w1 => by
      rw [((Has.fresh w1 _ _).row _).cell]; exact mkc_count _ ho
    have HN := Lib.hid hn
    clear hn
    go_enter Tryd.func58, Tryd.ntmps58
    go_wp2_with (first | (go_at_call 63; refine hm.out.mono ?_; rintro e w1 ⟨rfl, hb1⟩) | (refine wpList_store_row rfl 111 (.tmp 3) (.tmp 10) rfl w1.heap.size (marksV ls) rfl rfl 111 Tryd.zeroCells111 (HZ w1).out HI.out HO.out (mkc_one _ _) ?_))
    have hst := marks_stored (os := Nm.offs ls) (c := ls.length) hb1
    have hbs := hb1.size
    change Has ((w1.alloc (.cells Tryd.zeroCells111 111)).setRow w1.heap.size (marksV ls)) w1.heap.size 111 (marksV ls) ∧ Below w.heap.size w ((w1.alloc (.cells Tryd.zeroCells111 111)).setRow w1.heap.size (marksV ls)) at hst
    have hsz2 : ((w1.alloc (.cells Tryd.zeroCells111 111)).setRow w1.heap.size (marksV ls)).heap.size = w1.heap.size + 1 := by simp
    generalize (w1.alloc (.cells Tryd.zeroCells111 111)).setRow w1.heap.size (marksV ls) = w2 at *
    go_loopw [5, 14] (fun v i wr => ∃ k : Nat, i = .int .i64 k ∧ k ≤ ls.length ∧ wr.ownsRow w2.heap.size 9 1 v k (svs (ls.take k)) ∧ Below w2.heap.size w2 wr) (fun _ i _ => ls.length - (intOf i).toNat)
    case atStart => exact ⟨0, rfl, Nat.zero_le _, World.ownsRow_nil _ _ _ _, Below.refl _ _⟩
    case round =>
      obtain ⟨k, rfl, hk, hown, hb⟩ := hrel
      have HW := Lib.hid hown
      have HB := Lib.hid hb
      have hbs2 := hb.size
      have hM : Has wr w1.heap.size 111 (marksV ls) := hst.1.below hb (by omega)
      have HM := Lib.hid hM
      clear hown hb hM hsz2
      by_cases hlt : k < ls.length
      · have hsn : svs (ls.take (k + 1)) = svs (ls.take k) ++ [sv ls[k]] := by rw [List.take_succ_eq_append_getElem hlt, svs_append]; rfl
        have HSN := Lib.hid hsn
        clear hsn
        go_wp2_with (first | (go_at_call 78; refine (label_any s _ k ls _ HM.out HN.out hlt).mono ?_; rintro e w3 ⟨rfl, nn, rfl⟩) | (at_builtin; refine wpList_append_own _ rfl (.tmp 17) (.tmp 21) _ rfl w2.heap.size 9 i0 _ 1 16 Tryd.underlying40 hi hz0 hz1 hz2 rfl (by decide) _ k (svs (ls.take k)) rfl (World.ownsRow.alloc (w := wr.drewN nn) HW.out _) ⟨wr.heap.size, 0, none⟩ 1 1 [sv ls[k]] rfl rfl ?c1 ?c2 ?c3 ?c4 ?c5 (fun v' w4 hown1 hg1 _ => ?_)))
        case c1 => exact cell_one_new _ _ _
        case c2 => simp [Value.oneCell']
        case c3 => unfold maxLen; omega
        case c4 => omega
        case c5 => simp; omega
        go_roundw
        case rel => exact ⟨k + 1, by go_num, by omega, by rw [HSN.out]; exact hown1, (((below_drewN HB.out nn).alloc (by simp; omega) _).grown hg1 (by simp; omega) (fun j hj => (HW.out.lt j hj).1))⟩
        case measure => simp [intOf]; omega
      · obtain rfl : k = ls.length := by omega
        have hw : wr.ownsRow w2.heap.size 9 1 u5 ls.length (svs ls) := by have := HW.out; rwa [List.take_length] at this
        have HW2 := Lib.hid hw
        clear hw HW
        go_wp2
        go_ret
        exact ⟨_, rfl, own_mono HW2.out hst.2.size, hst.2.trans (HB.out.mono hst.2.size)⟩
end Go.Proofs.YtpinhpnmnfcdoaaDoor
/- The document's answer: a name's labels (Split, Labels). -/
namespace Go.Proofs.YtpinhpnmnfcdoaaDoor
open Go.RowKit

theorem At.cut {l : List UInt8} {k : Nat} {ps : List (List UInt8)} {t : ByteArray} (h : t.data.toList = l.drop k) (hk : k < l.length) (_ : At l k ps) : ∃ h0 : 0 < t.size, t[0] = l[k] := by
  have hs : t.size = l.length - k := by have := congrArg List.length h; simpa using this
  refine ⟨by omega, ?_⟩
  have e : t.data.toList = l[k] :: l.drop (k + 1) := by rw [h]; exact Nm.drop_cons hk
  have h0 : 0 < t.data.toList.length := by rw [e, List.length_cons]; omega
  have h2 : t.data.toList[0]'h0 = l[k] := by simp only [e, List.getElem_cons_zero]
  rw [← h2]; rfl
theorem At.short {l : List UInt8} {k : Nat} {ps : List (List UInt8)} (h : At l k ps) (hk : k < l.length) (h0 : (l[k]).toNat ≠ 0) (h3 : l.length < k + 1 + (l[k]).toNat) : Nm.sp l = none := by
  rw [h.2.2.2.2, Nm.drop_cons hk, Nm.sp_bad h0 (Or.inr (by simp; omega))]; rfl
theorem At.piece {l : List UInt8} {k : Nat} {t : ByteArray} (h : t.data.toList = l.drop k) (c : Nat) : Value.string (t.extract 1 (c + 1)) = sv ((l.drop (k + 1)).take c) := by
  rw [string_eq (extract_list t 1 (c + 1)), h, List.drop_drop]
  show Value.string _ = Value.string _
  rw [show c + 1 - 1 = c from by omega]
theorem At.left {l : List UInt8} {k : Nat} {t : ByteArray} (h : t.data.toList = l.drop k) (c : Nat) : (t.extract (c + 1) t.size).data.toList = l.drop (k + 1 + c) := by
  have hs : t.size = t.data.toList.length := by simp
  rw [extract_list, List.take_of_length_le (by rw [List.length_drop]; omega), h, List.drop_drop]
  congr 1; omega

def SplitPost (w : World) (o : Option (List (List UInt8))) (e : Ending) (w' : World) : Prop :=
  ∃ v, Below w.heap.size w w' ∧ match o with
    | none => e = .returned (.tuple #[v, .bool false])
    | some ls => e = .returned (.tuple #[v, .bool true]) ∧ w'.ownsRow w.heap.size 9 1 v ls.length (svs ls)

theorem split_no {w w' : World} {l : List UInt8} {v x : Value} (hb : Below w.heap.size w w') (hl : Nm.split l = none) (hx : x = .bool false) : SplitPost w (Nm.split l) (.returned (.tuple #[v, x])) w' := by
  rw [hl]; exact ⟨v, hb, by rw [hx]⟩
theorem split_yes {w w' : World} {l : List UInt8} {v x : Value} {ls : List (List UInt8)} (hb : Below w.heap.size w w') (hl : Nm.split l = some ls) (hx : x = .bool true) (ho : w'.ownsRow w.heap.size 9 1 v ls.length (svs ls)) : SplitPost w (Nm.split l) (.returned (.tuple #[v, x])) w' := by
  rw [hl]; exact ⟨v, hb, by rw [hx], ho⟩
theorem eqb_no {a b : Int} (h : a ≠ b) : Value.bool (a == b) = .bool false := by rw [beq_eq_false_iff_ne.2 h]
theorem eqb_yes {a b : Int} (h : a = b) : Value.bool (a == b) = .bool true := by rw [beq_iff_eq.2 h]

end Go.Proofs.YtpinhpnmnfcdoaaDoor
/- Fold and the document's own answer to it: each byte in small letters. -/
namespace Go.Proofs.YtpinhpnmnfcdoaaDoor
open Go.RowKit

set_option maxHeartbeats 400000 in
set_option maxRecDepth 100000 in
theorem each_fold (s : ByteArray) (w : World) (hs : s.size ≤ 140737488355328) :
    Calls Tryd.prog 41 #[.string s, .func (.func 42) #[] #[]] w fun e w' => e = .returned (.string ⟨(Nm.fold s.data.toList).toArray⟩) ∧ Below w.heap.size w w' := by
  obtain ⟨i0, hi, hz0, hz1, hz2⟩ := info_parts Tryd.infoByte
  go_enter Tryd.func41, Tryd.ntmps41
  go_wp2_with (first | (at_make; refine wpList_make_own _ rfl _ _ 52 rfl w.heap.size 5 i0 _ 1 Tryd.underlying52 hi hz0 hz1 .i64 .i64 s.size s.size rfl rfl rfl (by rw [hz2]; omega) (by unfold maxLen; omega) (Nat.le_refl _) ?_; intro w1 hown1 hg1))
  go_loopw [5, 12] (fun v i wr => ∃ k : Nat, k ≤ s.size ∧ i = .int .i64 k ∧ wr.ownsRow w.heap.size 5 1 v k (bv ((s.data.toList.take k).map Nm.small)) ∧ Below w.heap.size w wr) (fun _ i _ => s.size - (intOf i).toNat)
  case atStart => exact ⟨0, Nat.zero_le _, rfl, by simpa [bv] using hown1, (Below.refl _ _).grown hg1 (Nat.le_refl _) (by simp)⟩
  case round =>
    obtain ⟨k, hk, rfl, hown, hb⟩ := hrel
    have HO := Lib.hid hown
    have HB := Lib.hid hb
    have hbs := hb.size
    clear hown hb
    by_cases hlt : k < s.size
    · go_wp2_with (first | (go_at_call 42; refine (fold1_any w.heap.size _ k _ s[k] _ hbs HO.out (by omega)).mono ?_; rintro e w2 ⟨v', rfl, hown', hb'⟩))
      go_roundw
      case rel => exact ⟨k + 1, by omega, by go_num, by rw [bv_take_succ s _ k hlt]; exact hown', HB.out.trans hb'⟩
      case measure => simp [intOf]; omega
    · obtain rfl : k = s.size := by omega
      have HO' : Hid (wr.ownsRow w.heap.size 5 1 u5 s.size (bv (Nm.fold s.data.toList))) := by
        have := HO.out
        rw [List.take_of_length_le (by simp)] at this
        exact this
      clear HO
      go_wp2_with (refine wpList_convert_own _ rfl 52 9 (.tmp 22) rfl 5 Tryd.underlying52 Tryd.underlying5 Tryd.underlying9 w.heap.size s.size _ (Nm.fold s.data.toList) rfl HO'.out ?_)
      go_ret
      exact ⟨rfl, HB.out⟩

theorem Fold_any (s : ByteArray) (w : World) (hs : s.size ≤ 140737488355328) :
    Calls Tryd.prog 21 #[.string s] w fun e w' => e = .returned (.string ⟨(Nm.fold s.data.toList).toArray⟩) ∧ Below w.heap.size w w' := by
  go_enter Tryd.func21, Tryd.ntmps21
  go_wp2_with (first | (go_at_call 41; refine (each_fold s _ hs).mono ?_; rintro e w1 ⟨rfl, hb1⟩))
  go_ret
  exact ⟨rfl, hb1⟩

-- the document's answer: []byte(s), each letter turned in place, and back.
def lowAt (l : List UInt8) (k j : Nat) : UInt8 := if j < k then Nm.small (l.getD j 0) else l.getD j 0
theorem lowAt_lt {l : List UInt8} {k j : Nat} (h : j < k) : lowAt l k j = Nm.small (l.getD j 0) := if_pos h
theorem lowAt_ge {l : List UInt8} {k j : Nat} (h : k ≤ j) : lowAt l k j = l.getD j 0 := if_neg (by omega)

set_option maxHeartbeats 400000 in
set_option maxRecDepth 100000 in
theorem Low_any (s : ByteArray) (w : World) (hs : s.size ≤ 140737488355328) :
    Calls Tryd.prog 12 #[.string s] w fun e w' => e = .returned (.string ⟨(Nm.fold s.data.toList).toArray⟩) ∧ Below w.heap.size w w' := by
  go_enter Tryd.func12, Tryd.ntmps12
  have kc := fun (w : World) => run_bytes_of_string (P := Tryd.prog) w 9 52 5 s Tryd.underlying9 Tryd.underlying52 Tryd.underlying5
  go_wp2
  have hcell : ∀ j, j < s.size → (w.alloc (.cells (bytesRow s (grownCap w s.size 0 5)) 5 ((bytesRow s (grownCap w s.size 0 5)).size, (bytesRow s (grownCap w s.size 0 5)).size + 1))).drew.cell? ⟨w.heap.size, j, none⟩ = some (.int .u8 ((lowAt s.data.toList 0 j).toNat : Int)) := by
    intro j hj
    show (w.alloc _).cell? _ = _
    rw [World.cell?_alloc_mark, bytesRow_at s _ j hj, lowAt_ge (Nat.zero_le _)]
    simp [List.getD, hj]
  have hsz : s.size ≤ (bytesRow s (grownCap w s.size 0 5)).size := by simp [bytesRow]
  have hfree : ∀ j, j < s.size → (w.alloc (.cells (bytesRow s (grownCap w s.size 0 5)) 5 ((bytesRow s (grownCap w s.size 0 5)).size, (bytesRow s (grownCap w s.size 0 5)).size + 1))).drew.frozen? ⟨w.heap.size, j, none⟩ = false := by
    intro j hj
    show (w.alloc _).frozen? _ = _
    rw [World.frozen?_alloc_mark, decide_eq_false (by omega)]; rfl
  have hb0 : Below w.heap.size w (w.alloc (.cells (bytesRow s (grownCap w s.size 0 5)) 5 ((bytesRow s (grownCap w s.size 0 5)).size, (bytesRow s (grownCap w s.size 0 5)).size + 1))).drew := ((Below.refl _ _).alloc (Nat.le_refl _) _).drew
  generalize (w.alloc (.cells (bytesRow s (grownCap w s.size 0 5)) 5 ((bytesRow s (grownCap w s.size 0 5)).size, (bytesRow s (grownCap w s.size 0 5)).size + 1))).drew = w1 at *
  generalize grownCap w s.size 0 5 = cap
  have HC := Lib.hid hcell
  have HF := Lib.hid hfree
  clear hcell hfree hsz
  go_loopw [4] (fun i wr => ∃ k : Nat, k ≤ s.size ∧ i = .int .i64 k ∧ (∀ j, j < s.size → wr.cell? ⟨w.heap.size, j, none⟩ = some (.int .u8 ((lowAt s.data.toList k j).toNat : Int))) ∧ (∀ j, j < s.size → wr.frozen? ⟨w.heap.size, j, none⟩ = false) ∧ Below w.heap.size w wr) (fun i _ => s.size - (intOf i).toNat)
  case atStart => exact ⟨0, Nat.zero_le _, rfl, HC.out, HF.out, hb0⟩
  case round =>
    obtain ⟨k, hk, rfl, hc, hf, hb⟩ := hrel
    have HC := Lib.hid hc
    have HF := Lib.hid hf
    have HB := Lib.hid hb
    clear hc hf hb
    by_cases hlt : k < s.size
    · have hck := HC.out k hlt
      rw [lowAt_ge (Nat.le_refl _)] at hck
      have hfk := HF.out k hlt
      have HV := Lib.hid (Nm.small_val (s.data.toList.getD k 0))
      have hc8 := (s.data.toList.getD k 0).toNat_lt
      have HL := Lib.hid (fun j => @lowAt_lt s.data.toList (k + 1) j)
      have hstep : ∀ (u : Int), u = ((Nm.small (s.data.toList.getD k 0)).toNat : Int) → ∀ j, j < s.size → (wr.setCell ⟨w.heap.size, k, none⟩ (.int .u8 u)).cell? ⟨w.heap.size, j, none⟩ = some (.int .u8 ((lowAt s.data.toList (k + 1) j).toNat : Int)) := by
        intro u hu j hj
        by_cases hjk : j = k
        · subst hjk
          rw [lowAt_lt (by omega), ← hu]
          exact cell_set_same _ hck
        · rw [cell_set_off _ (Ne.symm hjk), HC.out j hj]
          unfold lowAt
          by_cases h : j < k
          · rw [if_pos h, if_pos (by omega)]
          · rw [if_neg h, if_neg (by omega)]
      have HS := Lib.hid hstep
      clear hstep
      generalize s.data.toList.getD k 0 = c at *
      have hfin : ∀ u : Int, u = ((Nm.small c).toNat : Int) → u = (c.toNat : Int) → ∀ j, j < s.size → wr.cell? ⟨w.heap.size, j, none⟩ = some (.int .u8 ((lowAt s.data.toList (k + 1) j).toNat : Int)) := by
        intro u hu hu2 j hj
        have := HS.out u hu j hj
        by_cases hjk : j = k
        · subst hjk
          rw [cell_set_same _ hck] at this
          rw [hck, ← hu2]; exact this
        · rwa [cell_set_off _ (Ne.symm hjk)] at this
      have HFI := Lib.hid hfin
      clear hfin
      by_cases h1a : 65 ≤ c.toNat
      · by_cases h1b : c.toNat ≤ 90
        · go_wp2
          go_roundw
          case rel => exact ⟨k + 1, by omega, by go_num, HS.out _ (by rw [HV.out, if_pos ⟨h1a, h1b⟩]; omega), fun j hj => by rw [World.frozen?_setCell]; exact HF.out j hj, HB.out.setCell (Nat.le_refl _) _⟩
          case measure => simp [intOf]; omega
        · go_wp2
          go_roundw
          case rel => exact ⟨k + 1, by omega, by go_num, HFI.out _ (by rw [HV.out, if_neg (by omega)]) rfl, HF.out, HB.out⟩
          case measure => simp [intOf]; omega
      · go_wp2
        go_roundw
        case rel => exact ⟨k + 1, by omega, by go_num, HFI.out _ (by rw [HV.out, if_neg (by omega)]) rfl, HF.out, HB.out⟩
        case measure => simp [intOf]; omega
    · obtain rfl : k = s.size := by omega
      have HFO : Hid (∀ j (hj : j < (Nm.fold s.data.toList).length), wr.cell? ⟨w.heap.size, j, none⟩ = some (.int .u8 ((Nm.fold s.data.toList)[j].toNat : Int))) := fun j hj => by
        have hj' : j < s.size := by simpa [Nm.fold] using hj
        rw [HC.out j hj', lowAt_lt hj']
        rw [Nm.fold_get]
      have hln : s.size = (Nm.fold s.data.toList).length := by simp [Nm.fold]
      have HLN := Lib.hid hln
      clear hln
      go_wp2_with (refine wpList_convert_cells _ rfl 52 9 (.tmp 33) rfl 5 Tryd.underlying52 Tryd.underlying5 Tryd.underlying9 w.heap.size s.size _ (Nm.fold s.data.toList) HLN.out rfl HFO.out ?_)
      go_ret
      exact ⟨rfl, HB.out⟩

end Go.Proofs.YtpinhpnmnfcdoaaDoor
/- The document's answer on data: which fields a type has, and what data may be. -/
namespace Go.Proofs.YtpinhpnmnfcdoaaDoor
open Go.RowKit

theorem rd_cons_of (t : ByteArray) (h : 0 < t.size) : t.data.toList = t[0] :: t.data.toList.drop 1 := by
  have h0 : 0 < t.data.toList.length := by simpa using h
  have e := List.drop_eq_getElem_cons (i := 0) h0
  rw [List.drop_zero] at e
  exact e
/-- what texts answers. -/
def TextsPost (w : World) (o : Option (List (List UInt8))) (e : Ending) (w' : World) : Prop :=
  ∃ v, Below w.heap.size w w' ∧ match o with
    | none => e = .returned (.tuple #[v, .bool false])
    | some ls => e = .returned (.tuple #[v, .bool (decide (0 < ls.length))]) ∧ w'.ownsRow w.heap.size 9 1 v ls.length (svs ls)
theorem texts_no {w w' : World} {l : List UInt8} {v : Value} (hb : Below w.heap.size w w') (h : Rd.tx l = none) : TextsPost w (Rd.tx l) (.returned (.tuple #[v, .bool false])) w' := by
  rw [h]; exact ⟨v, hb, rfl⟩
theorem texts_yes {w w' : World} {l : List UInt8} {v x : Value} {ls : List (List UInt8)} (hb : Below w.heap.size w w') (h : Rd.tx l = some ls) (hx : x = .bool (decide (0 < ls.length))) (ho : w'.ownsRow w.heap.size 9 1 v ls.length (svs ls)) : TextsPost w (Rd.tx l) (.returned (.tuple #[v, x])) w' := by
  rw [h]; exact ⟨v, hb, by rw [hx], ho⟩
end Go.Proofs.YtpinhpnmnfcdoaaDoor
/- Numbers as bytes, the greatest first: plain lists. Nothing of the program. -/
namespace Go.Proofs.YtpinhpnmnfcdoaaDoor.Oc

abbrev By := List UInt8

/-- the bytes of a number, k of them. -/
def beb : Nat → Nat → By
  | 0, _ => []
  | k + 1, v => UInt8.ofNat (v / 256 ^ k) :: beb k v
/-- the number of some bytes. -/
def num (l : By) : Nat := l.foldl (fun a c => a * 256 + c.toNat) 0

theorem beb_length (k v : Nat) : (beb k v).length = k := by
  induction k with
  | zero => rfl
  | succ k ih => simp [beb, ih]
theorem num_snoc (l : By) (c : UInt8) : num (l ++ [c]) = num l * 256 + c.toNat := by simp [num]
theorem fold_lin (l : By) : ∀ a : Nat, l.foldl (fun a c => a * 256 + c.toNat) a = a * 256 ^ l.length + num l := by
  induction l with
  | nil => intro a; simp [num]
  | cons c t ih =>
    intro a
    have h0 := ih c.toNat
    have h1 : num (c :: t) = t.foldl (fun a c => a * 256 + c.toNat) c.toNat := by simp [num]
    rw [List.foldl_cons, ih, h1, h0, List.length_cons, Nat.pow_succ]
    rw [Nat.add_mul, Nat.mul_assoc, Nat.mul_comm 256 (256 ^ t.length)]
    omega
theorem num_cons (c : UInt8) (l : By) : num (c :: l) = c.toNat * 256 ^ l.length + num l := by
  have := fold_lin l c.toNat
  simpa [num] using this
theorem num_lt (l : By) : num l < 256 ^ l.length := by
  induction l with
  | nil => simp [num]
  | cons c t ih =>
    rw [num_cons, List.length_cons, Nat.pow_succ]
    have hc := c.toNat_lt
    have h1 : c.toNat * 256 ^ t.length ≤ 255 * 256 ^ t.length := Nat.mul_le_mul_right _ (by omega)
    omega
theorem num_beb (k v : Nat) : num (beb k v) = v % 256 ^ k := by
  induction k with
  | zero => simp [beb, num, Nat.mod_one]
  | succ k ih =>
    rw [beb, num_cons, beb_length, ih]
    have h1 : (UInt8.ofNat (v / 256 ^ k)).toNat = v / 256 ^ k % 256 := by simp
    rw [h1, Nat.pow_succ, Nat.mod_mul (x := v) (a := 256 ^ k) (b := 256), Nat.mul_comm]
    omega
theorem beb_mod (k v m : Nat) (h : k ≤ m) : beb k (v % 256 ^ m) = beb k v := by
  induction k with
  | zero => rfl
  | succ k ih =>
    rw [beb, beb, ih (by omega)]
    have : UInt8.ofNat (v % 256 ^ m / 256 ^ k) = UInt8.ofNat (v / 256 ^ k) := by
      apply UInt8.toNat_inj.1
      have e : (256 : Nat) ^ m = 256 ^ k * 256 ^ (m - k) := by rw [← Nat.pow_add]; congr 1; omega
      have h2 : v % 256 ^ m / 256 ^ k = v / 256 ^ k % 256 ^ (m - k) := by rw [e, Nat.mod_mul_right_div_self]
      rw [h2]
      have e2 : (256 : Nat) ^ (m - k) = 256 * 256 ^ (m - k - 1) := by rw [← Nat.pow_succ']; congr 1; omega
      simp only [UInt8.toNat_ofNat']
      rw [e2]
      exact Nat.mod_mul_right_mod _ _ _
    rw [this]
theorem num_take_succ (l : By) (k : Nat) (h : k < l.length) : num (l.take (k + 1)) = num (l.take k) * 256 + l[k].toNat := by
  rw [List.take_succ_eq_append_getElem h, num_snoc]
theorem num_take_lt (l : By) (k : Nat) : num (l.take k) < 256 ^ k := by
  have := num_lt (l.take k)
  have h2 : (l.take k).length ≤ k := List.length_take_le _ _
  exact Nat.lt_of_lt_of_le this (Nat.pow_le_pow_right (by omega) h2)
end Go.Proofs.YtpinhpnmnfcdoaaDoor.Oc
/- Bits of numbers of 32 bits: or, and, as sums and remainders. -/
namespace Go.Proofs.YtpinhpnmnfcdoaaDoor
open Go.RowKit

theorem ofInt_nat (n : Nat) : BitVec.ofInt 32 (n : Int) = BitVec.ofNat 32 n := by
  apply BitVec.eq_of_toNat_eq
  simp
theorem wrap_u32 (n : Nat) (h : n < 4294967296) : IntKind.u32.wrap (n : Int) = n := by
  have := IntWalk.u32_in (n : Int) (by omega)
  exact this
theorem or32 (a b : Nat) (ha : a < 16777216) (hb : b < 256) : bits .or .u32 ((a : Int) * 256) (b : Int) = ((a * 256 + b : Nat) : Int) := by
  have e : ((a : Int) * 256) = ((a * 256 : Nat) : Int) := by omega
  unfold bits
  rw [e]
  show IntKind.u32.wrap (((BitVec.ofInt 32 ((a * 256 : Nat) : Int)) ||| (BitVec.ofInt 32 (b : Int))).toNat : Int) = _
  rw [ofInt_nat, ofInt_nat, BitVec.toNat_or, BitVec.toNat_ofNat, BitVec.toNat_ofNat, Nat.mod_eq_of_lt (by omega), Nat.mod_eq_of_lt (by omega)]
  have h := Nat.shiftLeft_add_eq_or_of_lt (i := 8) (b := b) (by omega) a
  rw [Nat.shiftLeft_eq] at h
  have h2 : a * 256 ||| b = a * 256 + b := h.symm
  rw [h2]
  exact wrap_u32 _ (by omega)
theorem or32_0 (b : Nat) (hb : b < 256) : bits .or .u32 0 (b : Int) = (b : Int) := by
  have := or32 0 b (by omega) hb
  simpa using this
theorem and32 (v k : Nat) (hv : v < 4294967296) (hk : k ≤ 31) : bits .and .u32 (v : Int) ((2 ^ k - 1 : Nat) : Int) = ((v % 2 ^ k : Nat) : Int) := by
  have hk2 : 2 ^ k ≤ 2 ^ 31 := Nat.pow_le_pow_right (by omega) hk
  unfold bits
  show IntKind.u32.wrap (((BitVec.ofInt 32 (v : Int)) &&& (BitVec.ofInt 32 ((2 ^ k - 1 : Nat) : Int))).toNat : Int) = _
  rw [ofInt_nat, ofInt_nat, BitVec.toNat_and, BitVec.toNat_ofNat, BitVec.toNat_ofNat, Nat.mod_eq_of_lt hv, Nat.mod_eq_of_lt (by omega), Nat.and_two_pow_sub_one_eq_mod]
  have := Nat.mod_lt v (Nat.two_pow_pos k)
  exact wrap_u32 _ (by omega)
theorem and32_255 (v : Nat) (hv : v < 4294967296) : bits .and .u32 (v : Int) 255 = ((v % 256 : Nat) : Int) := and32 v 8 hv (by omega)
theorem and32_65535 (v : Nat) (hv : v < 4294967296) : bits .and .u32 (v : Int) 65535 = ((v % 65536 : Nat) : Int) := and32 v 16 hv (by omega)
end Go.Proofs.YtpinhpnmnfcdoaaDoor
/- Widths, cut ends, numbers' bytes: package octet, a function for each width. -/
namespace Go.Proofs.YtpinhpnmnfcdoaaDoor
open Go.RowKit

theorem tight_any (A : Option Addr) (n c : Nat) (w : World) (hc : n ≤ c) :
    Calls Tryd.prog 52 #[.slice A n c] w fun e w' => e = .returned (.slice A n n) ∧ w = w' := by
  go_enter Tryd.func52, Tryd.ntmps52
  go_wp2
  go_ret
  exact ⟨rfl, rfl⟩

theorem u8v {x : Int} {n : Nat} (h : x = ((n % 256 : Nat) : Int)) : Value.int .u8 x = .int .u8 ((UInt8.ofNat n).toNat : Int) := by rw [h]; simp
theorem bv_beb1 (v : Nat) {a : Int} (ha : a = ((v % 256 : Nat) : Int)) : [Value.int .u8 a] = bv (Oc.beb 1 v) := by
  rw [u8v ha]; simp [bv, Oc.beb]
theorem bv_beb2 (v : Nat) {a b : Int} (ha : a = ((v / 256 % 256 : Nat) : Int)) (hb : b = ((v % 256 : Nat) : Int)) : [Value.int .u8 a, Value.int .u8 b] = bv (Oc.beb 2 v) := by
  rw [u8v ha, u8v hb]; simp [bv, Oc.beb]
theorem bv_beb4 (v : Nat) {a b c d : Int} (ha : a = ((v / 16777216 % 256 : Nat) : Int)) (hb : b = ((v / 65536 % 256 : Nat) : Int)) (hc : c = ((v / 256 % 256 : Nat) : Int)) (hd : d = ((v % 256 : Nat) : Int)) :
    [Value.int .u8 a, Value.int .u8 b, Value.int .u8 c, Value.int .u8 d] = bv (Oc.beb 4 v) := by
  rw [u8v ha, u8v hb, u8v hc, u8v hd]; simp [bv, Oc.beb]

set_option maxHeartbeats 400000 in
set_option maxRecDepth 100000 in
theorem len_u8 (w : World) : Calls Tryd.prog 75 #[.int .u32 255] w fun e w' => e = .returned (.int .i64 8) ∧ w = w' := by
  go_enter Tryd.func75, Tryd.ntmps75
  go_wp2
  go_ret
  refine ⟨?_, rfl⟩
  kernel_rfl
theorem width_u8 (w : World) : Calls Tryd.prog 93 #[] w fun e w' => e = .returned (.int .i64 1) ∧ w = w' := by
  go_enter Tryd.func93, Tryd.ntmps93
  go_wp2_with (go_at_call 75; refine (len_u8 _).mono ?_; rintro e w' ⟨rfl, rfl⟩)
  go_ret
  exact ⟨rfl, rfl⟩

set_option maxHeartbeats 400000 in
set_option maxRecDepth 100000 in
theorem len_u16 (w : World) : Calls Tryd.prog 75 #[.int .u32 65535] w fun e w' => e = .returned (.int .i64 16) ∧ w = w' := by
  go_enter Tryd.func75, Tryd.ntmps75
  go_wp2
  go_ret
  refine ⟨?_, rfl⟩
  kernel_rfl
theorem width_u16 (w : World) : Calls Tryd.prog 53 #[] w fun e w' => e = .returned (.int .i64 2) ∧ w = w' := by
  go_enter Tryd.func53, Tryd.ntmps53
  go_wp2_with (go_at_call 75; refine (len_u16 _).mono ?_; rintro e w' ⟨rfl, rfl⟩)
  go_ret
  exact ⟨rfl, rfl⟩

set_option maxHeartbeats 400000 in
set_option maxRecDepth 100000 in
theorem len_u32 (w : World) : Calls Tryd.prog 75 #[.int .u32 4294967295] w fun e w' => e = .returned (.int .i64 32) ∧ w = w' := by
  go_enter Tryd.func75, Tryd.ntmps75
  go_wp2
  go_ret
  refine ⟨?_, rfl⟩
  kernel_rfl
theorem width_u32 (w : World) : Calls Tryd.prog 54 #[] w fun e w' => e = .returned (.int .i64 4) ∧ w = w' := by
  go_enter Tryd.func54, Tryd.ntmps54
  go_wp2_with (go_at_call 75; refine (len_u32 _).mono ?_; rintro e w' ⟨rfl, rfl⟩)
  go_ret
  exact ⟨rfl, rfl⟩

set_option maxHeartbeats 400000 in
set_option maxRecDepth 100000 in
theorem put_u16 (A : Option Addr) (l : List UInt8) (c v : Nat) (w : World) (hc : l.length ≤ c) (hm : l.length ≤ 140737488355300) (hv : v < 65536) (lo : Nat) (hr : Bs w lo w.heap.size A l) :
    Calls Tryd.prog 29 #[.slice A l.length c, .int .u16 v] w fun e w' => ∃ g cp, e = .returned (.slice (some ⟨g, 0, none⟩) (l.length + 2) (l.length + 2)) ∧ w'.ownsRow w.heap.size 5 1 (.slice (some ⟨g, 0, none⟩) (l.length + 2) cp) (l.length + 2) (bv (l ++ Oc.beb 2 v)) ∧ Below w.heap.size w w' := by
  obtain ⟨i0, hi, hz0, hz1, hz2⟩ := info_parts Tryd.infoByte
  have HR := Lib.hid hr
  clear hr
  go_enter Tryd.func29, Tryd.ntmps29
  go_wp2_with (first
    | (go_at_call 52; refine (tight_any _ _ _ _ hc).mono ?_; rintro e w' ⟨rfl, rfl⟩)
    | (go_at_call 53; refine (width_u16 _).mono ?_; rintro e w' ⟨rfl, rfl⟩))
  refine wp_loop_rounds 3 ?_
  rw [rounds_succ]
  go_wp2_with (at_builtin; refine wpList_append_full rfl (.tmp 15) (.tmp 22) _ rfl _ i0 _ Tryd.underlying52 hi hz0 hz1 hz2 rfl lo w.heap.size A l rfl HR.out (Nat.le_refl _) _ rfl _ rfl (by omega) ?_; intro v1 w1 O1 B1)
  rw [rounds_succ]
  go_wp2_with (at_builtin; refine wpList_append_one rfl (.tmp 15) (.tmp 22) _ rfl _ i0 _ Tryd.underlying52 hi hz0 hz1 hz2 rfl w.heap.size w v1 (l.length + 1) _ rfl O1 B1 (Nat.le_refl _) _ rfl _ rfl (by omega) ?_; intro v2 w2 O2 B2)
  obtain ⟨g, cp, rfl, hcp, hgl, hgs⟩ := own_pos O2 (by omega)
  rw [rounds_succ]
  go_wp2_with (go_at_call 52; refine (tight_any _ _ _ _ hcp).mono ?_; rintro e w' ⟨rfl, rfl⟩)
  go_ret
  refine ⟨g, cp, rfl, own_to O2 rfl ?_, B2⟩
  rw [bv_append]
  try simp only [List.append_assoc, List.cons_append, List.nil_append]
  congr 1
  exact bv_beb2 v (by omega) (by omega)

set_option maxHeartbeats 400000 in
set_option maxRecDepth 100000 in
theorem put_u32 (A : Option Addr) (l : List UInt8) (c v : Nat) (w : World) (hc : l.length ≤ c) (hm : l.length ≤ 140737488355300) (hv : v < 4294967296) (lo : Nat) (hr : Bs w lo w.heap.size A l) :
    Calls Tryd.prog 30 #[.slice A l.length c, .int .u32 v] w fun e w' => ∃ g cp, e = .returned (.slice (some ⟨g, 0, none⟩) (l.length + 4) (l.length + 4)) ∧ w'.ownsRow w.heap.size 5 1 (.slice (some ⟨g, 0, none⟩) (l.length + 4) cp) (l.length + 4) (bv (l ++ Oc.beb 4 v)) ∧ Below w.heap.size w w' := by
  obtain ⟨i0, hi, hz0, hz1, hz2⟩ := info_parts Tryd.infoByte
  have HR := Lib.hid hr
  clear hr
  go_enter Tryd.func30, Tryd.ntmps30
  go_wp2_with (first
    | (go_at_call 52; refine (tight_any _ _ _ _ hc).mono ?_; rintro e w' ⟨rfl, rfl⟩)
    | (go_at_call 54; refine (width_u32 _).mono ?_; rintro e w' ⟨rfl, rfl⟩))
  refine wp_loop_rounds 5 ?_
  rw [rounds_succ]
  go_wp2_with (at_builtin; refine wpList_append_full rfl (.tmp 15) (.tmp 21) _ rfl _ i0 _ Tryd.underlying52 hi hz0 hz1 hz2 rfl lo w.heap.size A l rfl HR.out (Nat.le_refl _) _ rfl _ rfl (by omega) ?_; intro v1 w1 O1 B1)
  rw [rounds_succ]
  go_wp2_with (at_builtin; refine wpList_append_one rfl (.tmp 15) (.tmp 21) _ rfl _ i0 _ Tryd.underlying52 hi hz0 hz1 hz2 rfl w.heap.size w v1 (l.length + 1) _ rfl O1 B1 (Nat.le_refl _) _ rfl _ rfl (by omega) ?_; intro v2 w2 O2 B2)
  rw [rounds_succ]
  go_wp2_with (at_builtin; refine wpList_append_one rfl (.tmp 15) (.tmp 21) _ rfl _ i0 _ Tryd.underlying52 hi hz0 hz1 hz2 rfl w.heap.size w v2 (l.length + 2) _ rfl O2 B2 (Nat.le_refl _) _ rfl _ rfl (by omega) ?_; intro v3 w3 O3 B3)
  rw [rounds_succ]
  go_wp2_with (at_builtin; refine wpList_append_one rfl (.tmp 15) (.tmp 21) _ rfl _ i0 _ Tryd.underlying52 hi hz0 hz1 hz2 rfl w.heap.size w v3 (l.length + 3) _ rfl O3 B3 (Nat.le_refl _) _ rfl _ rfl (by omega) ?_; intro v4 w4 O4 B4)
  obtain ⟨g, cp, rfl, hcp, hgl, hgs⟩ := own_pos O4 (by omega)
  rw [rounds_succ]
  go_wp2_with (go_at_call 52; refine (tight_any _ _ _ _ hcp).mono ?_; rintro e w' ⟨rfl, rfl⟩)
  go_ret
  refine ⟨g, cp, rfl, own_to O4 rfl ?_, B4⟩
  rw [bv_append]
  try simp only [List.append_assoc, List.cons_append, List.nil_append]
  congr 1
  exact bv_beb4 v (by omega) (by omega) (by omega) (by omega)

theorem num_step (l : List UInt8) (at_ j : Nat) (h : at_ + j < l.length) : Oc.num ((l.drop at_).take (j + 1)) = Oc.num ((l.drop at_).take j) * 256 + (l[at_ + j]'h).toNat := by
  rw [Oc.num_take_succ _ _ (by rw [List.length_drop]; omega), List.getElem_drop]
/-- what Take answers: the number of k bytes at a place, the place behind them, and an error. -/
def takeV (K : IntKind) (k : Nat) (l : List UInt8) (z : Int) : Value :=
  if z < 0 ∨ (l.length : Int) < z then .tuple #[.int K 0, .int .i64 0, .int .i64 1]
  else if (l.length : Int) < z + k then .tuple #[.int K 0, .int .i64 0, .int .i64 6]
  else .tuple #[.int K (Oc.num ((l.drop z.toNat).take k)), .int .i64 (z + k), .int .i64 0]

set_option maxHeartbeats 1000000 in
set_option maxRecDepth 100000 in
theorem take_u8_ok (A : Option Addr) (l : List UInt8) (c n : Nat) (w : World) (hc : l.length ≤ c) (hm : l.length ≤ 211106232532992) (lo hi : Nat) (hr : Bs w lo hi A l) (hk : n + 1 ≤ l.length) :
    Calls Tryd.prog 88 #[.slice A l.length c, .int .i64 n] w fun e w' => e = .returned (.tuple #[.int .u8 (Oc.num ((l.drop n).take 1)), .int .i64 (n + 1), .int .i64 0]) ∧ w = w' := by
  obtain ⟨g0, o0, rfl, _, _, hcell⟩ := hr (by omega)
  have h0 : w.cell? ⟨g0, o0 + n, none⟩ = _ := hcell n (by omega)
  have b0 := (l[n]'(by omega)).toNat_lt
  have s0 := num_step l n 0 (by omega)
  have q0 := Oc.num_take_lt (l.drop n) 1
  have z0 : Oc.num ((l.drop n).take 0) = 0 := by simp [Oc.num]
  rw [z0] at s0
  clear hcell hr z0
  simp only [Nat.add_zero] at s0 b0
  generalize (l[n]'(by omega)).toNat = x0 at *
  generalize Oc.num ((l.drop n).take 1) = p1 at *
  have r1 : (0 : Nat) < 256 := by omega
  have o0 : bits .or .u32 0 (x0 : Int) = (p1 : Int) := by rw [or32_0 x0 (by omega)]; omega
  clear s0
  go_enter Tryd.func88, Tryd.ntmps88
  go_wp2_with (go_at_call 93; refine (width_u8 _).mono ?_; rintro e w' ⟨rfl, rfl⟩)
  refine wp_loop_rounds 2 ?_
  rw [rounds_succ]
  go_wp2
  rw [rounds_succ]
  go_wp2
  go_ret3
  exact ⟨rfl, rfl⟩
set_option maxHeartbeats 1000000 in
theorem take_u8 (A : Option Addr) (l : List UInt8) (c : Nat) (z : Int) (w : World) (hc : l.length ≤ c) (hm : l.length ≤ 211106232532992) (lo hi : Nat) (hr : Bs w lo hi A l) :
    Calls Tryd.prog 88 #[.slice A l.length c, .int .i64 z] w fun e w' => e = .returned (takeV .u8 1 l z) ∧ w = w' := by
  unfold takeV
  by_cases h0 : z < 0
  · rw [if_pos (.inl h0)]
    go_enter Tryd.func88, Tryd.ntmps88
    go_wp2
    go_ret3
    exact ⟨rfl, rfl⟩
  · obtain ⟨n, rfl⟩ : ∃ n : Nat, z = n := ⟨z.toNat, by omega⟩
    by_cases h1 : l.length < n
    · rw [if_pos (.inr (by omega))]
      go_enter Tryd.func88, Tryd.ntmps88
      go_wp2
      go_ret3
      exact ⟨rfl, rfl⟩
    · rw [if_neg (by omega)]
      by_cases h2 : l.length < n + 1
      · rw [if_pos (by omega)]
        go_enter Tryd.func88, Tryd.ntmps88
        go_wp2_with (go_at_call 93; refine (width_u8 _).mono ?_; rintro e w' ⟨rfl, rfl⟩)
        go_ret3
        exact ⟨rfl, rfl⟩
      · rw [if_neg (by omega)]
        exact take_u8_ok A l c n w hc hm lo hi hr (by omega)

set_option maxHeartbeats 1000000 in
set_option maxRecDepth 100000 in
theorem take_u16_ok (A : Option Addr) (l : List UInt8) (c n : Nat) (w : World) (hc : l.length ≤ c) (hm : l.length ≤ 211106232532992) (lo hi : Nat) (hr : Bs w lo hi A l) (hk : n + 2 ≤ l.length) :
    Calls Tryd.prog 55 #[.slice A l.length c, .int .i64 n] w fun e w' => e = .returned (.tuple #[.int .u16 (Oc.num ((l.drop n).take 2)), .int .i64 (n + 2), .int .i64 0]) ∧ w = w' := by
  obtain ⟨g0, o0, rfl, _, _, hcell⟩ := hr (by omega)
  have h0 : w.cell? ⟨g0, o0 + n, none⟩ = _ := hcell n (by omega)
  have b0 := (l[n]'(by omega)).toNat_lt
  have s0 := num_step l n 0 (by omega)
  have q0 := Oc.num_take_lt (l.drop n) 1
  have h1 : w.cell? ⟨g0, o0 + n + 1, none⟩ = _ := hcell (n + 1) (by omega)
  have b1 := (l[n + 1]'(by omega)).toNat_lt
  have s1 := num_step l n 1 (by omega)
  have q1 := Oc.num_take_lt (l.drop n) 2
  have z0 : Oc.num ((l.drop n).take 0) = 0 := by simp [Oc.num]
  rw [z0] at s0
  clear hcell hr z0
  simp only [Nat.add_zero] at s0 b0
  generalize (l[n]'(by omega)).toNat = x0 at *
  generalize (l[n + 1]'(by omega)).toNat = x1 at *
  generalize Oc.num ((l.drop n).take 1) = p1 at *
  generalize Oc.num ((l.drop n).take 2) = p2 at *
  have r1 : (0 : Nat) < 256 := by omega
  have o0 : bits .or .u32 0 (x0 : Int) = (p1 : Int) := by rw [or32_0 x0 (by omega)]; omega
  have o1 : bits .or .u32 ((p1 : Int) * 256) (x1 : Int) = (p2 : Int) := by rw [or32 p1 x1 (by omega) (by omega)]; omega
  clear s0 s1
  go_enter Tryd.func55, Tryd.ntmps55
  go_wp2_with (go_at_call 53; refine (width_u16 _).mono ?_; rintro e w' ⟨rfl, rfl⟩)
  refine wp_loop_rounds 3 ?_
  rw [rounds_succ]
  go_wp2
  rw [rounds_succ]
  go_wp2
  rw [rounds_succ]
  go_wp2
  go_ret3
  exact ⟨rfl, rfl⟩
set_option maxHeartbeats 1000000 in
theorem take_u16 (A : Option Addr) (l : List UInt8) (c : Nat) (z : Int) (w : World) (hc : l.length ≤ c) (hm : l.length ≤ 211106232532992) (lo hi : Nat) (hr : Bs w lo hi A l) :
    Calls Tryd.prog 55 #[.slice A l.length c, .int .i64 z] w fun e w' => e = .returned (takeV .u16 2 l z) ∧ w = w' := by
  unfold takeV
  by_cases h0 : z < 0
  · rw [if_pos (.inl h0)]
    go_enter Tryd.func55, Tryd.ntmps55
    go_wp2
    go_ret3
    exact ⟨rfl, rfl⟩
  · obtain ⟨n, rfl⟩ : ∃ n : Nat, z = n := ⟨z.toNat, by omega⟩
    by_cases h1 : l.length < n
    · rw [if_pos (.inr (by omega))]
      go_enter Tryd.func55, Tryd.ntmps55
      go_wp2
      go_ret3
      exact ⟨rfl, rfl⟩
    · rw [if_neg (by omega)]
      by_cases h2 : l.length < n + 2
      · rw [if_pos (by omega)]
        go_enter Tryd.func55, Tryd.ntmps55
        go_wp2_with (go_at_call 53; refine (width_u16 _).mono ?_; rintro e w' ⟨rfl, rfl⟩)
        go_ret3
        exact ⟨rfl, rfl⟩
      · rw [if_neg (by omega)]
        exact take_u16_ok A l c n w hc hm lo hi hr (by omega)

end Go.Proofs.YtpinhpnmnfcdoaaDoor
/- The document's answers for numbers as bytes, and short texts. -/
namespace Go.Proofs.YtpinhpnmnfcdoaaDoor
open Go.RowKit

theorem ret3 {k : IntKind} {a b : Int} {x y : Value} (h : a = b) : Ending.returned (.tuple #[.int k a, x, y]) = .returned (.tuple #[.int k b, x, y]) := by rw [h]

end Go.Proofs.YtpinhpnmnfcdoaaDoor
/- Short texts, numbers that go round, and the numbers that are known: package octet and the document's answers. -/
namespace Go.Proofs.YtpinhpnmnfcdoaaDoor
open Go.RowKit

-- what PutText answers: an error, or the text behind what there is.
def tup3 (a b c : Value) : Value := .tuple #[a, b, c]
/-- what TakeText answers. -/
def takeTextV (l : List UInt8) (z : Int) : Value :=
  if z < 0 ∨ (l.length : Int) < z then .tuple #[.string ⟨#[]⟩, .int .i64 0, .int .i64 1]
  else if (l.length : Int) < z + 1 + Oc.num ((l.drop z.toNat).take 1) ∨ (l.length : Int) < z + 1 then .tuple #[.string ⟨#[]⟩, .int .i64 0, .int .i64 6]
  else .tuple #[sv ((l.drop (z.toNat + 1)).take (Oc.num ((l.drop z.toNat).take 1))), .int .i64 (z + 1 + Oc.num ((l.drop z.toNat).take 1)), .int .i64 0]
theorem takeV_arg {K : IntKind} {k : Nat} {l : List UInt8} {z : Int} (h : z < 0 ∨ (l.length : Int) < z) : takeV K k l z = .tuple #[.int K 0, .int .i64 0, .int .i64 1] := by unfold takeV; rw [if_pos h]
theorem takeV_short {K : IntKind} {k : Nat} {l : List UInt8} {z : Int} (h : ¬ (z < 0 ∨ (l.length : Int) < z)) (h2 : (l.length : Int) < z + k) : takeV K k l z = .tuple #[.int K 0, .int .i64 0, .int .i64 6] := by unfold takeV; rw [if_neg h, if_pos h2]
theorem takeV_ok {K : IntKind} {k : Nat} {l : List UInt8} {n : Nat} (h2 : n + k ≤ l.length) : takeV K k l n = .tuple #[.int K (Oc.num ((l.drop n).take k)), .int .i64 (n + k), .int .i64 0] := by
  unfold takeV; rw [if_neg (by omega), if_neg (by omega)]; simp


set_option maxHeartbeats 1000000 in
set_option maxRecDepth 100000 in
theorem takeText_ok (g0 o0 : Nat) (l : List UInt8) (c n m : Nat) (w : World) (hc : l.length ≤ c) (hm : l.length ≤ 211106232532992) (lo hi : Nat) (hr : Bs w lo hi (some ⟨g0, o0, none⟩) l) (hk : n + 1 + m ≤ l.length)
    (ht : Calls Tryd.prog 88 #[.slice (some ⟨g0, o0, none⟩) l.length c, .int .i64 n] w fun e w' => e = .returned (.tuple #[.int .u8 m, .int .i64 (n + 1), .int .i64 0]) ∧ w = w') (hm2 : m < 256) :
    Calls Tryd.prog 76 #[.slice (some ⟨g0, o0, none⟩) l.length c, .int .i64 n] w fun e w' => e = .returned (.tuple #[sv ((l.drop (n + 1)).take m), .int .i64 (n + 1 + m), .int .i64 0]) ∧ w = w' := by
  have HT := Lib.hid ht
  clear ht
  have HR := Lib.hid (hr.sub (n + 1) m hk)
  clear hr
  by_cases hcn : c = n + 1
  · obtain rfl : m = 0 := by omega
    subst hcn
    go_enter Tryd.func76, Tryd.ntmps76
    go_wp2_with (first
      | (go_at_call 88; refine HT.out.mono ?_; rintro e w1 ⟨rfl, rfl⟩)
      | (refine wpList_convert_bs rfl 52 9 (.tmp 32) rfl 5 Tryd.underlying52 Tryd.underlying5 Tryd.underlying9 lo hi _ _ _ [] (by simp) rfl Bs.nil ?_))
    go_ret3
    exact ⟨by simp, rfl⟩
  · have hcn2 : n + 1 < c := by omega
    go_enter Tryd.func76, Tryd.ntmps76
    go_wp2_with (first
      | (go_at_call 88; refine HT.out.mono ?_; rintro e w1 ⟨rfl, rfl⟩)
      | (refine wpList_convert_bs rfl 52 9 (.tmp 32) rfl 5 Tryd.underlying52 Tryd.underlying5 Tryd.underlying9 lo hi _ _ _ ((l.drop (n + 1)).take m) (by rw [List.length_take, List.length_drop]; omega) rfl HR.out ?_))
    go_ret3
    exact ⟨rfl, rfl⟩
set_option maxHeartbeats 1000000 in
set_option maxRecDepth 100000 in
theorem takeText (A : Option Addr) (l : List UInt8) (c : Nat) (z : Int) (w : World) (hc : l.length ≤ c) (hm : l.length ≤ 211106232532992) (lo hi : Nat) (hr : Bs w lo hi A l) :
    Calls Tryd.prog 76 #[.slice A l.length c, .int .i64 z] w fun e w' => e = .returned (takeTextV l z) ∧ w = w' := by
  have HT := fun w => take_u8 A l c z w hc (by omega) lo hi
  unfold takeTextV
  by_cases h0 : z < 0 ∨ (l.length : Int) < z
  · rw [if_pos h0]
    have HT1 := Lib.hid (fun (w : World) (hr : Bs w lo hi A l) => HT w hr)
    rw [takeV_arg h0] at HT1
    clear HT h0
    have HR := Lib.hid hr
    clear hr
    go_enter Tryd.func76, Tryd.ntmps76
    go_wp2_with (first
      | (go_at_call 88; refine (HT1.out _ HR.out).mono ?_; rintro e w1 ⟨rfl, rfl⟩))
    go_ret3
    exact ⟨rfl, rfl⟩
  · rw [if_neg h0]
    by_cases h1 : (l.length : Int) < z + 1
    · rw [if_pos (.inr h1)]
      have HT1 := Lib.hid (fun (w : World) (hr : Bs w lo hi A l) => HT w hr)
      rw [takeV_short h0 h1] at HT1
      clear HT h0 h1
      have HR := Lib.hid hr
      clear hr
      go_enter Tryd.func76, Tryd.ntmps76
      go_wp2_with (first
        | (go_at_call 88; refine (HT1.out _ HR.out).mono ?_; rintro e w1 ⟨rfl, rfl⟩))
      go_ret3
      exact ⟨rfl, rfl⟩
    · obtain ⟨n, rfl⟩ : ∃ n : Nat, z = n := ⟨z.toNat, by omega⟩
      obtain ⟨g0, o0, rfl, _, _, _⟩ := hr (by omega)
      have HT1 := Lib.hid (fun (w : World) (hr : Bs w lo hi (some ⟨g0, o0, none⟩) l) => HT w hr)
      rw [takeV_ok (k := 1) (by omega)] at HT1
      clear HT
      have hx := Oc.num_take_lt (l.drop n) 1
      rw [show (n : Int).toNat = n from rfl]
      generalize Oc.num ((l.drop n).take 1) = m at *
      by_cases h2 : (l.length : Int) < n + 1 + m
      · rw [if_pos (.inl h2)]
        have h3 : (l.length : Int) - (n + 1) < m := by omega
        have HR := Lib.hid hr
        clear hr
        go_enter Tryd.func76, Tryd.ntmps76
        go_wp2_with (first
          | (go_at_call 88; refine (HT1.out _ HR.out).mono ?_; rintro e w1 ⟨rfl, rfl⟩))
        go_ret3
        exact ⟨rfl, rfl⟩
      · rw [if_neg (by omega)]
        exact takeText_ok g0 o0 l c n m w hc hm lo hi hr (by omega) (HT1.out w hr) (by omega)

/-- is a number that is so far ahead later? -/
def laterI (d : Int) : Bool := decide (0 < d) && decide (d < 2147483648)
theorem laterI_no {d : Int} (h : d ≤ 0) : laterI d = false := by unfold laterI; rw [decide_eq_false (by omega)]; rfl
theorem laterI_yes {d : Int} (h : 0 < d) : laterI d = decide (d < 2147483648) := by unfold laterI; rw [decide_eq_true h]; rfl
/-- is b later than a? -/
def laterB (a b : Nat) : Bool := laterI (((b : Int) - a) % 4294967296)
theorem ret_u32 {a b : Int} (h : a = b) : Ending.returned (.int .u32 a) = .returned (.int .u32 b) := by rw [h]
/-- a number some steps on. -/
def stepN (a : Nat) (n : Int) : Int := ((a : Int) + n) % 4294967296
theorem tmod_neg (n : Int) (h : n < 0) : n.tmod 4294967296 = -((-n) % 4294967296) := by
  have h1 : (-n).tmod 4294967296 = (-n) % 4294967296 := Int.tmod_eq_emod_of_nonneg (by omega)
  rw [Int.neg_tmod] at h1
  omega
end Go.Proofs.YtpinhpnmnfcdoaaDoor
/- textsOf: the program's short texts. -/
namespace Go.Proofs.YtpinhpnmnfcdoaaDoor
open Go.RowKit

/-- a string's bytes as a new slice. -/
theorem wpList_convert_text {P : Program} {w : World} {ops : Array Oper} {rest : List Oper} {o : Oper} {a : Act} {Q : Exit → Act → World → Prop} (hgd : o.guard = none) (src dst : TypeId) (x : Operand) (ho : o.op = .convert src dst x)
    (e : TypeId) {u : TypeDesc} (hs : P.underlying src = some u) (hd : P.underlying dst = some (.slice e)) (he : P.underlying e = some (.int .u8)) (s : ByteArray) (hx : a.eval x = .string s)
    (h : ∀ (c : Nat) (w1 : World), s.size ≤ c → Bs w1 w.heap.size (w.heap.size + 1) (some ⟨w.heap.size, 0, none⟩) s.data.toList → Below w.heap.size w w1 → w1.heap.size = w.heap.size + 1 →
      wpList P ops Q rest (a.put o.dst (.slice (some ⟨w.heap.size, 0, none⟩) s.size c)) w1) : wpList P ops Q (o :: rest) a w := by
  refine wpList_plain hgd fun _ hK => ?_
  unfold Oper.wp execOp
  simp only [ho, hx, Sem.run_bind, Sem.run_pure, Result.andThen_ok, Lib.run_convert_string_bytes w src dst e s hs hd he]
  refine hK _ _ (h _ _ (grownCap_ge w s.size 0 e) (fun _ => ⟨w.heap.size, 0, rfl, Nat.le_refl _, by omega, fun j hj => ?_⟩) ⟨rfl, rfl, rfl, by rw [Lib.bytesWorld_size]; omega, fun j hj => Lib.bytesWorld_at_old w e s j hj⟩ (Lib.bytesWorld_size w e s))
  rw [Nat.zero_add, Lib.bytesWorld_cell w e s j (by simpa using hj)]
  have : (s.data.toList.getD j 0) = s.data.toList[j] := by rw [List.getD_eq_getElem?_getD, List.getElem?_eq_getElem hj]; rfl
  rw [this]
theorem tx_at {l : List UInt8} {k : Nat} (hk : k < l.length) : l.drop k = l[k] :: l.drop (k + 1) := List.drop_eq_getElem_cons hk
theorem takeTextV_no {l : List UInt8} {k : Nat} (hk : k < l.length) (h : l.length < k + 1 + (l[k]).toNat) : takeTextV l k = .tuple #[.string ⟨#[]⟩, .int .i64 0, .int .i64 6] := by
  have e : Oc.num ((l.drop k).take 1) = (l[k]).toNat := by rw [tx_at hk, List.take_succ_cons, List.take_zero]; simp [Oc.num]
  unfold takeTextV
  rw [if_neg (by omega), if_pos (by left; simp only [Int.toNat_natCast]; rw [e]; omega)]
theorem takeTextV_yes {l : List UInt8} {k : Nat} (hk : k < l.length) (h : ¬ l.length < k + 1 + (l[k]).toNat) : takeTextV l k = .tuple #[sv ((l.drop (k + 1)).take (l[k]).toNat), .int .i64 ((k + 1 + (l[k]).toNat : Nat) : Int), .int .i64 0] := by
  have e : Oc.num ((l.drop k).take 1) = (l[k]).toNat := by rw [tx_at hk, List.take_succ_cons, List.take_zero]; simp [Oc.num]
  unfold takeTextV
  rw [if_neg (by omega), if_neg (by simp only [Int.toNat_natCast]; rw [e]; omega)]
  simp only [Int.toNat_natCast, e]
  congr 3
set_option maxHeartbeats 1000000 in
set_option maxRecDepth 100000 in
theorem textsOf_any (s : ByteArray) (w : World) (hs : s.size ≤ 8796093022208) :
    Calls Tryd.prog 56 #[.string s] w (TextsPost w (Rd.tx s.data.toList)) := by
  obtain ⟨i0, hi, hz0, hz1, hz2⟩ := info_parts Tryd.infoString
  obtain ⟨l, hl⟩ : ∃ l, s.data.toList = l := ⟨_, rfl⟩
  have hlen : s.size = l.length := by rw [← hl]; simp
  rw [hl]
  have HL := Lib.hid hl
  clear hl
  go_enter Tryd.func56, Tryd.ntmps56
  go_wp2_with (refine wpList_convert_text rfl 9 52 (.tmp 10) rfl 5 Tryd.underlying9 Tryd.underlying52 Tryd.underlying5 s rfl ?_; intro c w1 hc hb1 hB1 hz; rw [HL.out] at hb1; have HBS := Lib.hid hb1; have HB1 := Lib.hid hB1; have HZ := Lib.hid hz; clear hb1 hB1 hz)
  have hw : w.heap.size + 1 = w1.heap.size := HZ.out.symm
  have HW := Lib.hid hw
  have hwl : w.heap.size < w1.heap.size := by omega
  clear hw
  have HT : ∀ (k : Nat) (W : World), Below w1.heap.size w1 W → Hid (Calls Tryd.prog 76 #[.slice (some ⟨w.heap.size, 0, none⟩) l.length c, .int .i64 k] W fun e w' => e = .returned (takeTextV l k) ∧ W = w') := fun k W hb => takeText _ l c k W (by omega) (by omega) w.heap.size (w.heap.size + 1) (HBS.out.keep (hb.mono (by rw [HW.out]; exact Nat.le_refl _)))
  go_loopw [4, 6] (fun v i wr => ∃ (k : Nat) (acc : List (List UInt8)), i = .int .i64 k ∧ k ≤ l.length ∧ acc.length ≤ k ∧ Hid (Rd.tx l = (Rd.tx (l.drop k)).map (acc ++ ·)) ∧ Hid (wr.ownsRow w1.heap.size 9 1 v acc.length (svs acc)) ∧ Hid (Below w1.heap.size w1 wr)) (fun _ i _ => l.length - (intOf i).toNat)
  case atStart => exact ⟨0, [], rfl, Nat.zero_le _, Nat.le_refl _, by simp [Hid], World.ownsRow_nil _ _ _ _, Below.refl _ _⟩
  case round =>
    obtain ⟨k, acc, rfl, hk, hka, HX, HO, HB⟩ := hrel
    have hbs := HB.out.size
    have HTK := HT k wr HB.out
    by_cases hlt : k < l.length
    · have hm8 : (l[k]).toNat < 256 := (l[k]).toNat_lt
      by_cases hsh : l.length < k + 1 + (l[k]).toNat
      · have HN : Hid (Rd.tx l = none) := by
          have := HX.out
          rw [tx_at hlt, Rd.tx_bad (by simp; omega)] at this
          exact this
        rw [takeTextV_no hlt hsh] at HTK
        go_wp2_with (go_at_call 76; refine HTK.out.mono ?_; rintro e w2 ⟨rfl, rfl⟩)
        go_ret2
        exact texts_no (HB1.out.trans (HB.out.mono (by omega))) HN.out
      · have HN : Hid (Rd.tx l = (Rd.tx (l.drop (k + 1 + (l[k]).toNat))).map ((acc ++ [(l.drop (k + 1)).take (l[k]).toNat]) ++ ·)) := by
          have := HX.out
          rw [tx_at hlt, Rd.tx_cons (by simp; omega), Option.map_map, List.drop_drop] at this
          refine this.trans ?_
          congr 1
          funext x
          simp
        rw [takeTextV_yes hlt hsh] at HTK
        obtain ⟨ad, cp, hv⟩ := own_form HO.out
        subst hv
        generalize (l.drop (k + 1)).take (l[k]).toNat = x at *
        generalize hm : (l[k]).toNat = m at *
        clear hm
        go_wp2_with (first
          | (go_at_call 76; refine HTK.out.mono ?_; rintro e w2 ⟨rfl, rfl⟩)
          | (at_builtin; refine wpList_append_own _ rfl (.tmp 25) (.tmp 27) _ rfl w1.heap.size 9 i0 _ 1 16 Tryd.underlying40 hi hz0 hz1 hz2 rfl (by decide) _ acc.length (svs acc) rfl (HO.out.alloc _) ⟨wr.heap.size, 0, none⟩ 1 1 [sv x] rfl rfl ?c1 ?c2 ?c3 ?c4 ?c5 (fun v' w4 hown1 hg1 _ => ?_)))
        case c1 => exact cell_one_new _ _ _
        case c2 => simp [Value.oneCell']
        case c3 => unfold maxLen; omega
        case c4 => omega
        case c5 => simp; omega
        go_roundw
        case rel => exact ⟨k + 1 + m, acc ++ [x], rfl, by omega, by simp; omega, HN.out, by rw [List.length_append, svs_append]; exact hown1, (HB.out.alloc hbs _).grown hg1 (by simp; omega) (fun j hj => (HO.out.lt j hj).1)⟩
        case measure => simp [intOf]; omega
    · obtain rfl : k = l.length := by omega
      have HN : Hid (Rd.tx l = some acc) := by
        have := HX.out
        rw [List.drop_length, Rd.tx_nil] at this
        rw [this]
        simp [Hid]
      obtain ⟨ad, cp, hv⟩ := own_form HO.out
      subst hv
      go_wp2
      go_ret2
      exact texts_yes (HB1.out.trans (HB.out.mono (by omega))) HN.out (by simp) (own_mono HO.out (by omega))
end Go.Proofs.YtpinhpnmnfcdoaaDoor
