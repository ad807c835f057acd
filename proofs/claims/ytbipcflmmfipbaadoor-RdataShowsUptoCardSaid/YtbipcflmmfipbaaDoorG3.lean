/- Texts of the proofs, merged. -/
import Derived.Test.YtbipcflmmfipbaaDoorG2
import Derived.Test.YtbipcflmmfipbaaDoorG1
import Derived.Lib.Hide
import Derived.WalkKit
import Derived.Laws.Bits64b
/- A name's labels, how many, whether it is one: the program's answers. -/
namespace Go.Proofs.YtbipcflmmfipbaaDoor
open Go.RowKit

set_option maxHeartbeats 400000 in
set_option maxRecDepth 100000 in
theorem label_any (s : ByteArray) (g i : Nat) (ls : List (List UInt8)) (w : World) (h : Has w g 152 (marksV ls)) (hn : Nm.split s.data.toList = some ls) (hi : i < ls.length) :
    Calls Tryd.prog 135 #[.pointer (some ⟨g, 0, none⟩), .string s, .int .i64 i] w fun e w' => e = .returned (sv ls[i]) ∧ ∃ n, w' = w.drewN n := by
  obtain ⟨hl, hg, h255⟩ := Nm.split_some.1 hn
  have hlen : (Nm.glue ls).length = s.size := by rw [← hl]; simp
  have hcut : sv ls[i] = .string (s.extract ((Nm.body (ls.take i)).length + 1) (Nm.body (ls.take (i + 1))).length) := by
    unfold sv
    rw [← string_eq (s := s.extract _ _)]
    rw [extract_list, hl, Nm.label_cut hi]
  have hcnt := Nm.good_count hg
  have hbl := Nm.glue_length ls
  have h255' : s.size ≤ 255 := by simpa using h255
  have c1 : w.cell? ⟨g, i, none⟩ = some (.int .u8 ((Nm.body (ls.take i)).length : Nat)) := by rw [h.cell]; exact mkc_at _ _ _ (Nm.offs_get ls i (by omega))
  have c2 : w.cell? ⟨g, i + 1, none⟩ = some (.int .u8 ((Nm.body (ls.take (i + 1))).length : Nat)) := by rw [h.cell]; exact mkc_at _ _ _ (Nm.offs_get ls (i + 1) (by omega))
  have hts := Nm.take_succ_body hi
  have hle := Nm.body_take_le (ls := ls) (i := i + 1)
  have hi' : i + 1 ≤ 127 := by omega
  have hb1 : (Nm.body (ls.take i)).length + 1 ≤ (Nm.body (ls.take (i + 1))).length := by omega
  have hb2 : (Nm.body (ls.take (i + 1))).length + 1 ≤ s.size := by omega
  rw [hcut]
  clear hcut hl hg h255 hn hlen hcnt hbl hts hle h
  generalize (Nm.body (ls.take (i + 1))).length = b at *
  generalize (Nm.body (ls.take i)).length = a at *
  go_enter Tryd.func135, Tryd.ntmps135
  go_wp2
  go_quiet (fail)
  go_wp2
  go_ret
  exact ⟨rfl, _, rfl⟩

theorem marks_none (s : ByteArray) (w : World) (hs : s.size ≤ 140737488355328) (h : Nm.split s.data.toList = none) :
    Calls Tryd.prog 110 #[.string s] w fun e w' => e = .returned (.tuple #[.agg (mkc [] 0), .bool false]) ∧ Below w.heap.size w w' :=
  (marksOf_any s w hs).mono fun _ _ ⟨he, hb⟩ => ⟨by rw [he, marksR_none h], hb⟩
theorem marks_some (s : ByteArray) (ls : List (List UInt8)) (w : World) (hs : s.size ≤ 140737488355328) (h : Nm.split s.data.toList = some ls) :
    Calls Tryd.prog 110 #[.string s] w fun e w' => e = .returned (.tuple #[.agg (marksV ls), .bool true]) ∧ Below w.heap.size w w' :=
  (marksOf_any s w hs).mono fun _ _ ⟨he, hb⟩ => ⟨by rw [he, marksR_some h], hb⟩
theorem few {l : List UInt8} {ls : List (List UInt8)} (h : Nm.split l = some ls) : ls.length ≤ 127 := by
  obtain ⟨hl, hg, h255⟩ := Nm.split_some.1 h
  have := Nm.good_count hg
  have := Nm.glue_length ls
  rw [hl] at h255
  omega

/-- what is in a new block of marks behind the store of these. -/
theorem marks_stored {w w1 : World} {os : List Nat} {c : Nat} (hb : Below w.heap.size w w1) :
    Has ((w1.alloc (.cells Tryd.zeroCells152 152)).setRow w1.heap.size (mkc os c)) w1.heap.size 152 (mkc os c) ∧ Below w.heap.size w ((w1.alloc (.cells Tryd.zeroCells152 152)).setRow w1.heap.size (mkc os c)) :=
  ⟨(Has.fresh w1 _ _).row _, below_setRow (hb.alloc hb.size _) hb.size _⟩

set_option maxRecDepth 100000 in
theorem Check_any (s : ByteArray) (w : World) (hs : s.size ≤ 140737488355328) :
    Calls Tryd.prog 63 #[.string s] w fun e w' => e = .returned (.int .i64 (if (Nm.split s.data.toList).isSome then 0 else 11)) ∧ Below w.heap.size w w' := by
  have HZ : ∀ w1 : World, Hid (Has (w1.alloc (.cells Tryd.zeroCells152 152)) w1.heap.size 152 Tryd.zeroCells152) := fun w1 => Has.fresh w1 _ _
  rcases hn : Nm.split s.data.toList with _ | ls
  · have hm := Lib.hid (marks_none s w hs hn)
    have HI := Lib.hid (markInfo (os := []) 0 (by simp))
    clear hn
    go_enter Tryd.func63, Tryd.ntmps63
    go_wp2_with (first | (go_at_call 110; refine hm.out.mono ?_; rintro e w1 ⟨rfl, hb1⟩) | (refine wpList_store_row rfl 152 (.tmp 3) (.tmp 8) rfl w1.heap.size (mkc [] 0) rfl rfl 152 Tryd.zeroCells152 (HZ w1).out HI.out zeroMarks_size.symm (mkc_one _ _) ?_))
    go_ret
    exact ⟨rfl, (marks_stored hb1).2⟩
  · have hm := Lib.hid (marks_some s ls w hs hn)
    have ho : (Nm.offs ls).length ≤ 128 := by rw [Nm.offs_length]; have := few hn; omega
    have HI : Hid ((Tryd.prog.info? 152).map (·.size) = some (marksV ls).size) := markInfo (os := Nm.offs ls) ls.length ho
    have HO : Hid (Tryd.zeroCells152.size = (marksV ls).size) := by rw [Hid, ← zeroMarks_size, mkc_size _ (by simp), marksV, mkc_size _ ho]
    clear hn
    go_enter Tryd.func63, Tryd.ntmps63
    go_wp2_with (first | (go_at_call 110; refine hm.out.mono ?_; rintro e w1 ⟨rfl, hb1⟩) | (refine wpList_store_row rfl 152 (.tmp 3) (.tmp 8) rfl w1.heap.size (marksV ls) rfl rfl 152 Tryd.zeroCells152 (HZ w1).out HI.out HO.out (mkc_one _ _) ?_))
    go_ret
    exact ⟨rfl, (marks_stored hb1).2⟩

/-- its labels; none of what is no name. -/
def labelsOf (l : List UInt8) : List (List UInt8) := (Nm.split l).getD []

set_option maxHeartbeats 400000 in
set_option maxRecDepth 100000 in
theorem Labels_any (s : ByteArray) (w : World) (hs : s.size ≤ 140737488355328) :
    Calls Tryd.prog 94 #[.string s] w fun e w' => ∃ v, e = .returned v ∧ w'.ownsRow w.heap.size 9 1 v (labelsOf s.data.toList).length (svs (labelsOf s.data.toList)) ∧ Below w.heap.size w w' := by
  have HZ : ∀ w1 : World, Hid (Has (w1.alloc (.cells Tryd.zeroCells152 152)) w1.heap.size 152 Tryd.zeroCells152) := fun w1 => Has.fresh w1 _ _
  obtain ⟨i0, hi, hz0, hz1, hz2⟩ := info_parts Tryd.infoString
  unfold labelsOf
  rcases hn : Nm.split s.data.toList with _ | ls
  · have hm := Lib.hid (marks_none s w hs hn)
    have HI := Lib.hid (markInfo (os := []) 0 (by simp))
    have hc : ∀ w1 : World, ((w1.alloc (.cells Tryd.zeroCells152 152)).setRow w1.heap.size (mkc [] 0)).cell? ⟨w1.heap.size, 128, none⟩ = some (.int .i64 0) := fun w1 => by
      rw [((Has.fresh w1 _ _).row _).cell]; exact mkc_count 0 (by simp)
    clear hn
    go_enter Tryd.func94, Tryd.ntmps94
    go_wp2_with (first | (go_at_call 110; refine hm.out.mono ?_; rintro e w1 ⟨rfl, hb1⟩) | (refine wpList_store_row rfl 152 (.tmp 3) (.tmp 10) rfl w1.heap.size (mkc [] 0) rfl rfl 152 Tryd.zeroCells152 (HZ w1).out HI.out zeroMarks_size.symm (mkc_one _ _) ?_))
    refine wp_loop_rounds 1 ?_
    rw [rounds_succ]
    go_wp2
    go_ret
    exact ⟨_, rfl, World.ownsRow_nil _ _ _ _, (marks_stored hb1).2⟩
  · have hm := Lib.hid (marks_some s ls w hs hn)
    have hfew := few hn
    have ho : (Nm.offs ls).length ≤ 128 := by rw [Nm.offs_length]; omega
    have HI : Hid ((Tryd.prog.info? 152).map (·.size) = some (marksV ls).size) := markInfo (os := Nm.offs ls) ls.length ho
    have HO : Hid (Tryd.zeroCells152.size = (marksV ls).size) := by rw [Hid, ← zeroMarks_size, mkc_size _ (by simp), marksV, mkc_size _ ho]
    have hc : ∀ w1 : World, ((w1.alloc (.cells Tryd.zeroCells152 152)).setRow w1.heap.size (marksV ls)).cell? ⟨w1.heap.size, 128, none⟩ = some (.int .i64 (ls.length : Nat)) := fun w1 => by
      rw [((Has.fresh w1 _ _).row _).cell]; exact mkc_count _ ho
    have HN := Lib.hid hn
    clear hn
    go_enter Tryd.func94, Tryd.ntmps94
    go_wp2_with (first | (go_at_call 110; refine hm.out.mono ?_; rintro e w1 ⟨rfl, hb1⟩) | (refine wpList_store_row rfl 152 (.tmp 3) (.tmp 10) rfl w1.heap.size (marksV ls) rfl rfl 152 Tryd.zeroCells152 (HZ w1).out HI.out HO.out (mkc_one _ _) ?_))
    have hst := marks_stored (os := Nm.offs ls) (c := ls.length) hb1
    have hbs := hb1.size
    change Has ((w1.alloc (.cells Tryd.zeroCells152 152)).setRow w1.heap.size (marksV ls)) w1.heap.size 152 (marksV ls) ∧ Below w.heap.size w ((w1.alloc (.cells Tryd.zeroCells152 152)).setRow w1.heap.size (marksV ls)) at hst
    have hsz2 : ((w1.alloc (.cells Tryd.zeroCells152 152)).setRow w1.heap.size (marksV ls)).heap.size = w1.heap.size + 1 := by simp
    generalize (w1.alloc (.cells Tryd.zeroCells152 152)).setRow w1.heap.size (marksV ls) = w2 at *
    go_loopw [5, 14] (fun v i wr => ∃ k : Nat, i = .int .i64 k ∧ k ≤ ls.length ∧ wr.ownsRow w2.heap.size 9 1 v k (svs (ls.take k)) ∧ Below w2.heap.size w2 wr) (fun _ i _ => ls.length - (intOf i).toNat)
    case atStart => exact ⟨0, rfl, Nat.zero_le _, World.ownsRow_nil _ _ _ _, Below.refl _ _⟩
    case round =>
      obtain ⟨k, rfl, hk, hown, hb⟩ := hrel
      have HW := Lib.hid hown
      have HB := Lib.hid hb
      have hbs2 := hb.size
      have hM : Has wr w1.heap.size 152 (marksV ls) := hst.1.below hb (by omega)
      have HM := Lib.hid hM
      clear hown hb hM hsz2
      by_cases hlt : k < ls.length
      · have hsn : svs (ls.take (k + 1)) = svs (ls.take k) ++ [sv ls[k]] := by rw [List.take_succ_eq_append_getElem hlt, svs_append]; rfl
        have HSN := Lib.hid hsn
        clear hsn
        go_wp2_with (first | (go_at_call 135; refine (label_any s _ k ls _ HM.out HN.out hlt).mono ?_; rintro e w3 ⟨rfl, nn, rfl⟩) | (at_builtin; refine wpList_append_own _ rfl (.tmp 17) (.tmp 21) _ rfl w2.heap.size 9 i0 _ 1 16 Tryd.underlying71 hi hz0 hz1 hz2 rfl (by decide) _ k (svs (ls.take k)) rfl (World.ownsRow.alloc (w := wr.drewN nn) HW.out _) ⟨wr.heap.size, 0, none⟩ 1 1 [sv ls[k]] rfl rfl ?c1 ?c2 ?c3 ?c4 ?c5 (fun v' w4 hown1 hg1 _ => ?_)))
        case c1 => exact cell_one_new _ _ _
        case c2 => simp [Value.oneCell']
        case c3 => unfold maxLen; omega
        case c4 => omega
        case c5 => simp; omega
        go_roundw
        case rel => exact ⟨k + 1, by go_num, by omega, by rw [HSN.out]; exact hown1, (((below_drewN HB.out nn).alloc (by simp; omega) _).grown hg1 (by simp; omega) (fun j hj => (HW.out.lt j hj).1))⟩
        case measure => simp [intOf]; omega
      · obtain rfl : k = ls.length := by omega
        have hw : wr.ownsRow w2.heap.size 9 1 u5 ls.length (svs ls) := by have := HW.out; rwa [List.take_length] at this
        have HW2 := Lib.hid hw
        clear hw HW
        go_wp2
        go_ret
        exact ⟨_, rfl, own_mono HW2.out hst.2.size, hst.2.trans (HB.out.mono hst.2.size)⟩
end Go.Proofs.YtbipcflmmfipbaaDoor
/- The document's answer: a name's labels (Split, Labels). -/
namespace Go.Proofs.YtbipcflmmfipbaaDoor
open Go.RowKit

theorem At.cut {l : List UInt8} {k : Nat} {ps : List (List UInt8)} {t : ByteArray} (h : t.data.toList = l.drop k) (hk : k < l.length) (_ : At l k ps) : ∃ h0 : 0 < t.size, t[0] = l[k] := by
  have hs : t.size = l.length - k := by have := congrArg List.length h; simpa using this
  refine ⟨by omega, ?_⟩
  have e : t.data.toList = l[k] :: l.drop (k + 1) := by rw [h]; exact Nm.drop_cons hk
  have h0 : 0 < t.data.toList.length := by rw [e, List.length_cons]; omega
  have h2 : t.data.toList[0]'h0 = l[k] := by simp only [e, List.getElem_cons_zero]
  rw [← h2]; rfl
theorem At.short {l : List UInt8} {k : Nat} {ps : List (List UInt8)} (h : At l k ps) (hk : k < l.length) (h0 : (l[k]).toNat ≠ 0) (h3 : l.length < k + 1 + (l[k]).toNat) : Nm.sp l = none := by
  rw [h.2.2.2.2, Nm.drop_cons hk, Nm.sp_bad h0 (Or.inr (by simp; omega))]; rfl
theorem At.piece {l : List UInt8} {k : Nat} {t : ByteArray} (h : t.data.toList = l.drop k) (c : Nat) : Value.string (t.extract 1 (c + 1)) = sv ((l.drop (k + 1)).take c) := by
  rw [string_eq (extract_list t 1 (c + 1)), h, List.drop_drop]
  show Value.string _ = Value.string _
  rw [show c + 1 - 1 = c from by omega]
theorem At.left {l : List UInt8} {k : Nat} {t : ByteArray} (h : t.data.toList = l.drop k) (c : Nat) : (t.extract (c + 1) t.size).data.toList = l.drop (k + 1 + c) := by
  have hs : t.size = t.data.toList.length := by simp
  rw [extract_list, List.take_of_length_le (by rw [List.length_drop]; omega), h, List.drop_drop]
  congr 1; omega

def SplitPost (w : World) (o : Option (List (List UInt8))) (e : Ending) (w' : World) : Prop :=
  ∃ v, Below w.heap.size w w' ∧ match o with
    | none => e = .returned (.tuple #[v, .bool false])
    | some ls => e = .returned (.tuple #[v, .bool true]) ∧ w'.ownsRow w.heap.size 9 1 v ls.length (svs ls)

theorem split_no {w w' : World} {l : List UInt8} {v x : Value} (hb : Below w.heap.size w w') (hl : Nm.split l = none) (hx : x = .bool false) : SplitPost w (Nm.split l) (.returned (.tuple #[v, x])) w' := by
  rw [hl]; exact ⟨v, hb, by rw [hx]⟩
theorem split_yes {w w' : World} {l : List UInt8} {v x : Value} {ls : List (List UInt8)} (hb : Below w.heap.size w w') (hl : Nm.split l = some ls) (hx : x = .bool true) (ho : w'.ownsRow w.heap.size 9 1 v ls.length (svs ls)) : SplitPost w (Nm.split l) (.returned (.tuple #[v, x])) w' := by
  rw [hl]; exact ⟨v, hb, by rw [hx], ho⟩
theorem eqb_no {a b : Int} (h : a ≠ b) : Value.bool (a == b) = .bool false := by rw [beq_eq_false_iff_ne.2 h]
theorem eqb_yes {a b : Int} (h : a = b) : Value.bool (a == b) = .bool true := by rw [beq_iff_eq.2 h]

set_option maxHeartbeats 1000000 in
set_option maxRecDepth 100000 in
theorem Split_any (s : ByteArray) (w : World) (_ : s.size ≤ 140737488355328) :
    Calls Tryd.prog 102 #[.string s] w (SplitPost w (Nm.split s.data.toList)) := by
  obtain ⟨i0, hi, hz0, hz1, hz2⟩ := info_parts Tryd.infoString
  by_cases hbig : s.size ≤ 255
  · have hsz : s.data.toList.length = s.size := by simp
    have hsp : Nm.split s.data.toList = Nm.sp s.data.toList := Nm.split_of_sp (by rw [hsz]; exact hbig)
    have HSZ := Lib.hid hsz
    have HSP := Lib.hid hsp
    clear hsz hsp
    go_enter Tryd.func102, Tryd.ntmps102
    go_wp2
    go_loopw [4, 5] (fun v t wr => ∃ k ps, ∃ t' : ByteArray, t = .string t' ∧ t'.data.toList = s.data.toList.drop k ∧ At s.data.toList k ps ∧ wr.ownsRow w.heap.size 9 1 v ps.length (svs ps) ∧ Below w.heap.size w wr) (fun _ t _ => match t with | .string t' => t'.size | _ => 0)
    case atStart => exact ⟨0, [], s, rfl, rfl, At.zero _, World.ownsRow_nil _ _ _ _, Below.refl _ _⟩
    case round =>
      obtain ⟨k, ps, t, rfl, ht, hat, hown, hbel⟩ := hrel
      have hk := hat.1
      rw [HSZ.out] at hk
      have hfew := (hat.few (by rw [HSZ.out]; exact hbig)).2
      have hts : t.size + k = s.size := by have h := congrArg List.length ht; simp at h; omega
      have hts1 : t.size + k ≤ s.size := by omega
      have hts2 : s.size ≤ t.size + k := by omega
      have HT := Lib.hid ht
      have AT := Lib.hid hat
      have HW := Lib.hid hown
      have HB := Lib.hid hbel
      have hbs := hbel.size
      clear ht hat hown hbel hts
      by_cases hlt : k < s.size
      · obtain ⟨hpos, hc0⟩ := AT.out.cut HT.out (by rw [HSZ.out]; exact hlt)
        have HC0 := Lib.hid hc0
        clear hc0
        have h8 : t[0].toNat < 256 := t[0].toNat_lt
        by_cases h0 : t[0].toNat = 0
        · go_wp2
          go_ret2
          by_cases h1 : k + 1 < s.size
          · exact split_no HB.out (by rw [HSP.out]; exact AT.out.early (by rw [HSZ.out]; exact h1) (by rw [← HC0.out]; exact h0)) (eqb_no (by omega))
          · exact split_yes HB.out (by rw [HSP.out]; exact AT.out.done (by rw [HSZ.out]; omega) (by rw [← HC0.out]; exact h0)) (eqb_yes (by omega)) HW.out
        · have hne : ((t[0].toNat : Int) == 0) = false := beq_eq_false_iff_ne.2 (by omega)
          by_cases h63 : 63 < t[0].toNat
          · go_wp2
            go_ret2
            exact split_no HB.out (by rw [HSP.out]; exact AT.out.bad (by rw [HSZ.out]; exact hlt) (by rw [← HC0.out]; exact h63)) rfl
          · by_cases hsh : t.size < 1 + t[0].toNat
            · go_wp2
              go_ret2
              exact split_no HB.out (by rw [HSP.out]; exact AT.out.short (by rw [HSZ.out]; exact hlt) (by rw [← HC0.out]; exact h0) (by rw [← HC0.out, HSZ.out]; omega)) rfl
            · have HST := Lib.hid ((AT.out.step (c := t[0]) (by rw [HSZ.out]; exact hlt) HC0.out.symm h0 (by omega) (by rw [HSZ.out]; exact hbig)).resolve_right (fun h => by have := h.1; rw [HSZ.out] at this; omega))
              have HP := Lib.hid (At.piece HT.out t[0].toNat)
              have HL := Lib.hid (At.left HT.out t[0].toNat)
              go_wp2_with (at_builtin; refine wpList_append_own _ rfl (.tmp 32) (.tmp 37) _ rfl w.heap.size 9 i0 _ 1 16 Tryd.underlying71 hi hz0 hz1 hz2 rfl (by decide) _ ps.length (svs ps) rfl (HW.out.alloc _) ⟨wr.heap.size, 0, none⟩ 1 1 [sv ((s.data.toList.drop (k + 1)).take t[0].toNat)] rfl rfl ?c1 ?c2 ?c3 ?c4 ?c5 (fun v' w4 hown1 hg1 _ => ?_))
              case c1 => rw [← HP.out]; exact cell_one_new _ _ _
              case c2 => simp [Value.oneCell']
              case c3 => unfold maxLen; omega
              case c4 => omega
              case c5 => simp; omega
              go_roundw
              case rel =>
                refine ⟨k + 1 + t[0].toNat, ps ++ [(s.data.toList.drop (k + 1)).take t[0].toNat], _, rfl, HL.out, HST.out, ?_, (HB.out.alloc hbs _).grown hg1 (by simp; omega) (fun j hj => (HW.out.lt j hj).1)⟩
                rw [List.length_append, svs_append]; exact hown1
              case measure => simp; omega
      · obtain rfl : k = s.size := by omega
        go_wp2
        go_ret2
        exact split_no HB.out (by rw [HSP.out]; have := AT.out; rw [← HSZ.out] at this; exact this.endless) rfl
  · go_enter Tryd.func102, Tryd.ntmps102
    go_wp2
    go_ret2
    exact split_no (Below.refl _ _) (Nm.split_long (by simpa using hbig)) rfl
end Go.Proofs.YtbipcflmmfipbaaDoor
/- Fold and the document's own answer to it: each byte in small letters. -/
namespace Go.Proofs.YtbipcflmmfipbaaDoor
open Go.RowKit

set_option maxHeartbeats 400000 in
set_option maxRecDepth 100000 in
theorem each_fold (s : ByteArray) (w : World) (hs : s.size ≤ 140737488355328) :
    Calls Tryd.prog 115 #[.string s, .func (.func 116) #[] #[]] w fun e w' => e = .returned (.string ⟨(Nm.fold s.data.toList).toArray⟩) ∧ Below w.heap.size w w' := by
  obtain ⟨i0, hi, hz0, hz1, hz2⟩ := info_parts Tryd.infoByte
  go_enter Tryd.func115, Tryd.ntmps115
  go_wp2_with (first | (at_make; refine wpList_make_own _ rfl _ _ 34 rfl w.heap.size 5 i0 _ 1 Tryd.underlying34 hi hz0 hz1 .i64 .i64 s.size s.size rfl rfl rfl (by rw [hz2]; omega) (by unfold maxLen; omega) (Nat.le_refl _) ?_; intro w1 hown1 hg1))
  go_loopw [5, 12] (fun v i wr => ∃ k : Nat, k ≤ s.size ∧ i = .int .i64 k ∧ wr.ownsRow w.heap.size 5 1 v k (bv ((s.data.toList.take k).map Nm.small)) ∧ Below w.heap.size w wr) (fun _ i _ => s.size - (intOf i).toNat)
  case atStart => exact ⟨0, Nat.zero_le _, rfl, by simpa [bv] using hown1, (Below.refl _ _).grown hg1 (Nat.le_refl _) (by simp)⟩
  case round =>
    obtain ⟨k, hk, rfl, hown, hb⟩ := hrel
    have HO := Lib.hid hown
    have HB := Lib.hid hb
    have hbs := hb.size
    clear hown hb
    by_cases hlt : k < s.size
    · go_wp2_with (first | (go_at_call 116; refine (fold1_any w.heap.size _ k _ s[k] _ hbs HO.out (by omega)).mono ?_; rintro e w2 ⟨v', rfl, hown', hb'⟩))
      go_roundw
      case rel => exact ⟨k + 1, by omega, by go_num, by rw [bv_take_succ s _ k hlt]; exact hown', HB.out.trans hb'⟩
      case measure => simp [intOf]; omega
    · obtain rfl : k = s.size := by omega
      have HO' : Hid (wr.ownsRow w.heap.size 5 1 u5 s.size (bv (Nm.fold s.data.toList))) := by
        have := HO.out
        rw [List.take_of_length_le (by simp)] at this
        exact this
      clear HO
      go_wp2_with (refine wpList_convert_own _ rfl 34 9 (.tmp 22) rfl 5 Tryd.underlying34 Tryd.underlying5 Tryd.underlying9 w.heap.size s.size _ (Nm.fold s.data.toList) rfl HO'.out ?_)
      go_ret
      exact ⟨rfl, HB.out⟩

theorem Fold_any (s : ByteArray) (w : World) (hs : s.size ≤ 140737488355328) :
    Calls Tryd.prog 67 #[.string s] w fun e w' => e = .returned (.string ⟨(Nm.fold s.data.toList).toArray⟩) ∧ Below w.heap.size w w' := by
  go_enter Tryd.func67, Tryd.ntmps67
  go_wp2_with (first | (go_at_call 115; refine (each_fold s _ hs).mono ?_; rintro e w1 ⟨rfl, hb1⟩))
  go_ret
  exact ⟨rfl, hb1⟩

-- the document's answer: []byte(s), each letter turned in place, and back.
def lowAt (l : List UInt8) (k j : Nat) : UInt8 := if j < k then Nm.small (l.getD j 0) else l.getD j 0
theorem lowAt_lt {l : List UInt8} {k j : Nat} (h : j < k) : lowAt l k j = Nm.small (l.getD j 0) := if_pos h
theorem lowAt_ge {l : List UInt8} {k j : Nat} (h : k ≤ j) : lowAt l k j = l.getD j 0 := if_neg (by omega)

set_option maxHeartbeats 400000 in
set_option maxRecDepth 100000 in
theorem Low_any (s : ByteArray) (w : World) (hs : s.size ≤ 140737488355328) :
    Calls Tryd.prog 118 #[.string s] w fun e w' => e = .returned (.string ⟨(Nm.fold s.data.toList).toArray⟩) ∧ Below w.heap.size w w' := by
  go_enter Tryd.func118, Tryd.ntmps118
  have kc := fun (w : World) => run_bytes_of_string (P := Tryd.prog) w 9 34 5 s Tryd.underlying9 Tryd.underlying34 Tryd.underlying5
  go_wp2
  have hcell : ∀ j, j < s.size → (w.alloc (.cells (bytesRow s (grownCap w s.size 0 5)) 5 ((bytesRow s (grownCap w s.size 0 5)).size, (bytesRow s (grownCap w s.size 0 5)).size + 1))).drew.cell? ⟨w.heap.size, j, none⟩ = some (.int .u8 ((lowAt s.data.toList 0 j).toNat : Int)) := by
    intro j hj
    show (w.alloc _).cell? _ = _
    rw [World.cell?_alloc_mark, bytesRow_at s _ j hj, lowAt_ge (Nat.zero_le _)]
    simp [List.getD, hj]
  have hsz : s.size ≤ (bytesRow s (grownCap w s.size 0 5)).size := by simp [bytesRow]
  have hfree : ∀ j, j < s.size → (w.alloc (.cells (bytesRow s (grownCap w s.size 0 5)) 5 ((bytesRow s (grownCap w s.size 0 5)).size, (bytesRow s (grownCap w s.size 0 5)).size + 1))).drew.frozen? ⟨w.heap.size, j, none⟩ = false := by
    intro j hj
    show (w.alloc _).frozen? _ = _
    rw [World.frozen?_alloc_mark, decide_eq_false (by omega)]; rfl
  have hb0 : Below w.heap.size w (w.alloc (.cells (bytesRow s (grownCap w s.size 0 5)) 5 ((bytesRow s (grownCap w s.size 0 5)).size, (bytesRow s (grownCap w s.size 0 5)).size + 1))).drew := ((Below.refl _ _).alloc (Nat.le_refl _) _).drew
  generalize (w.alloc (.cells (bytesRow s (grownCap w s.size 0 5)) 5 ((bytesRow s (grownCap w s.size 0 5)).size, (bytesRow s (grownCap w s.size 0 5)).size + 1))).drew = w1 at *
  generalize grownCap w s.size 0 5 = cap
  have HC := Lib.hid hcell
  have HF := Lib.hid hfree
  clear hcell hfree hsz
  go_loopw [4] (fun i wr => ∃ k : Nat, k ≤ s.size ∧ i = .int .i64 k ∧ (∀ j, j < s.size → wr.cell? ⟨w.heap.size, j, none⟩ = some (.int .u8 ((lowAt s.data.toList k j).toNat : Int))) ∧ (∀ j, j < s.size → wr.frozen? ⟨w.heap.size, j, none⟩ = false) ∧ Below w.heap.size w wr) (fun i _ => s.size - (intOf i).toNat)
  case atStart => exact ⟨0, Nat.zero_le _, rfl, HC.out, HF.out, hb0⟩
  case round =>
    obtain ⟨k, hk, rfl, hc, hf, hb⟩ := hrel
    have HC := Lib.hid hc
    have HF := Lib.hid hf
    have HB := Lib.hid hb
    clear hc hf hb
    by_cases hlt : k < s.size
    · have hck := HC.out k hlt
      rw [lowAt_ge (Nat.le_refl _)] at hck
      have hfk := HF.out k hlt
      have HV := Lib.hid (Nm.small_val (s.data.toList.getD k 0))
      have hc8 := (s.data.toList.getD k 0).toNat_lt
      have HL := Lib.hid (fun j => @lowAt_lt s.data.toList (k + 1) j)
      have hstep : ∀ (u : Int), u = ((Nm.small (s.data.toList.getD k 0)).toNat : Int) → ∀ j, j < s.size → (wr.setCell ⟨w.heap.size, k, none⟩ (.int .u8 u)).cell? ⟨w.heap.size, j, none⟩ = some (.int .u8 ((lowAt s.data.toList (k + 1) j).toNat : Int)) := by
        intro u hu j hj
        by_cases hjk : j = k
        · subst hjk
          rw [lowAt_lt (by omega), ← hu]
          exact cell_set_same _ hck
        · rw [cell_set_off _ (Ne.symm hjk), HC.out j hj]
          unfold lowAt
          by_cases h : j < k
          · rw [if_pos h, if_pos (by omega)]
          · rw [if_neg h, if_neg (by omega)]
      have HS := Lib.hid hstep
      clear hstep
      generalize s.data.toList.getD k 0 = c at *
      have hfin : ∀ u : Int, u = ((Nm.small c).toNat : Int) → u = (c.toNat : Int) → ∀ j, j < s.size → wr.cell? ⟨w.heap.size, j, none⟩ = some (.int .u8 ((lowAt s.data.toList (k + 1) j).toNat : Int)) := by
        intro u hu hu2 j hj
        have := HS.out u hu j hj
        by_cases hjk : j = k
        · subst hjk
          rw [cell_set_same _ hck] at this
          rw [hck, ← hu2]; exact this
        · rwa [cell_set_off _ (Ne.symm hjk)] at this
      have HFI := Lib.hid hfin
      clear hfin
      by_cases h1a : 65 ≤ c.toNat
      · by_cases h1b : c.toNat ≤ 90
        · go_wp2
          go_roundw
          case rel => exact ⟨k + 1, by omega, by go_num, HS.out _ (by rw [HV.out, if_pos ⟨h1a, h1b⟩]; omega), fun j hj => by rw [World.frozen?_setCell]; exact HF.out j hj, HB.out.setCell (Nat.le_refl _) _⟩
          case measure => simp [intOf]; omega
        · go_wp2
          go_roundw
          case rel => exact ⟨k + 1, by omega, by go_num, HFI.out _ (by rw [HV.out, if_neg (by omega)]) rfl, HF.out, HB.out⟩
          case measure => simp [intOf]; omega
      · go_wp2
        go_roundw
        case rel => exact ⟨k + 1, by omega, by go_num, HFI.out _ (by rw [HV.out, if_neg (by omega)]) rfl, HF.out, HB.out⟩
        case measure => simp [intOf]; omega
    · obtain rfl : k = s.size := by omega
      have HFO : Hid (∀ j (hj : j < (Nm.fold s.data.toList).length), wr.cell? ⟨w.heap.size, j, none⟩ = some (.int .u8 ((Nm.fold s.data.toList)[j].toNat : Int))) := fun j hj => by
        have hj' : j < s.size := by simpa [Nm.fold] using hj
        rw [HC.out j hj', lowAt_lt hj']
        rw [Nm.fold_get]
      have hln : s.size = (Nm.fold s.data.toList).length := by simp [Nm.fold]
      have HLN := Lib.hid hln
      clear hln
      go_wp2_with (refine wpList_convert_cells _ rfl 34 9 (.tmp 33) rfl 5 Tryd.underlying34 Tryd.underlying5 Tryd.underlying9 w.heap.size s.size _ (Nm.fold s.data.toList) HLN.out rfl HFO.out ?_)
      go_ret
      exact ⟨rfl, HB.out⟩

theorem refFold_any (s : ByteArray) (w : World) (hs : s.size ≤ 140737488355328) :
    Calls Tryd.prog 68 #[.string s] w fun e w' => e = .returned (.string ⟨(Nm.fold s.data.toList).toArray⟩) ∧ Below w.heap.size w w' := by
  go_enter Tryd.func68, Tryd.ntmps68
  go_wp2_with (first | (go_at_call 118; refine (Low_any s _ hs).mono ?_; rintro e w1 ⟨rfl, hb1⟩))
  go_ret
  exact ⟨rfl, hb1⟩
end Go.Proofs.YtbipcflmmfipbaaDoor
/- The document's answer on data: which fields a type has, and what data may be. -/
namespace Go.Proofs.YtbipcflmmfipbaaDoor
open Go.RowKit

set_option maxHeartbeats 1000000 in
theorem rdNames_any (t : Nat) (w : World) (_ht : t ≤ 65535) :
    Calls Tryd.prog 50 #[.int .u16 t] w fun e w' => e = .returned (.tuple #[.bool (Rd.isHost t), .bool (Rd.isMail t)]) ∧ w = w' := by
  unfold Rd.isHost Rd.isMail
  by_cases h6 : t = 6
  · subst h6
    go_enter Tryd.func50, Tryd.ntmps50
    go_wp2
    go_ret2
    exact ⟨rfl, rfl⟩
  have k6 : ((t : Int) == 6) = false := by simp; omega
  have q6 : (t == 6) = false := by simp [h6]
  by_cases h2 : t = 2
  · subst h2
    go_enter Tryd.func50, Tryd.ntmps50
    go_wp2
    go_ret2
    exact ⟨rfl, rfl⟩
  by_cases h5 : t = 5
  · subst h5
    go_enter Tryd.func50, Tryd.ntmps50
    go_wp2
    go_ret2
    exact ⟨rfl, rfl⟩
  by_cases h12 : t = 12
  · subst h12
    go_enter Tryd.func50, Tryd.ntmps50
    go_wp2
    go_ret2
    exact ⟨rfl, rfl⟩
  by_cases h15 : t = 15
  · subst h15
    go_enter Tryd.func50, Tryd.ntmps50
    go_wp2
    go_ret2
    exact ⟨rfl, rfl⟩
  by_cases h33 : t = 33
  · subst h33
    go_enter Tryd.func50, Tryd.ntmps50
    go_wp2
    go_ret2
    exact ⟨rfl, rfl⟩
  have k2 : ((t : Int) == 2) = false := by simp; omega
  have k5 : ((t : Int) == 5) = false := by simp; omega
  have k12 : ((t : Int) == 12) = false := by simp; omega
  have k15 : ((t : Int) == 15) = false := by simp; omega
  have k33 : ((t : Int) == 33) = false := by simp; omega
  have q : (t == 2 || t == 5 || t == 12 || t == 6 || t == 15 || t == 33) = false := by simp [h2, h5, h12, h6, h15, h33]
  rw [q, q6]
  clear q q6 h2 h5 h6 h12 h15 h33
  go_enter Tryd.func50, Tryd.ntmps50
  go_wp2
  go_ret2
  exact ⟨rfl, rfl⟩
theorem rdNumbers_any (t : Nat) (w : World) (_ht : t ≤ 65535) :
    Calls Tryd.prog 51 #[.int .u16 t] w fun e w' => e = .returned (.tuple #[.int .i64 (Rd.cnt t : Nat), .int .i64 (Rd.bits t : Nat)]) ∧ w = w' := by
  unfold Rd.cnt Rd.bits
  by_cases h6 : t = 6
  · subst h6
    go_enter Tryd.func51, Tryd.ntmps51
    go_wp2
    go_ret2
    exact ⟨rfl, rfl⟩
  by_cases h15 : t = 15
  · subst h15
    go_enter Tryd.func51, Tryd.ntmps51
    go_wp2
    go_ret2
    exact ⟨rfl, rfl⟩
  by_cases h33 : t = 33
  · subst h33
    go_enter Tryd.func51, Tryd.ntmps51
    go_wp2
    go_ret2
    exact ⟨rfl, rfl⟩
  have k6 : ((t : Int) == 6) = false := by simp; omega
  have k15 : ((t : Int) == 15) = false := by simp; omega
  have k33 : ((t : Int) == 33) = false := by simp; omega
  rw [if_neg h6, if_neg h15, if_neg h33, if_neg h6, if_neg h15, if_neg h33]
  clear h6 h15 h33
  go_enter Tryd.func51, Tryd.ntmps51
  go_wp2
  go_ret2
  exact ⟨rfl, rfl⟩

theorem cons_of (t : ByteArray) (h : 0 < t.size) : t.data.toList = t[0] :: t.data.toList.drop 1 := by
  have h0 : 0 < t.data.toList.length := by simpa using h
  have e := List.drop_eq_getElem_cons (i := 0) h0
  rw [List.drop_zero] at e
  exact e
/-- what texts answers. -/
def TextsPost (w : World) (o : Option (List (List UInt8))) (e : Ending) (w' : World) : Prop :=
  ∃ v, Below w.heap.size w w' ∧ match o with
    | none => e = .returned (.tuple #[v, .bool false])
    | some ls => e = .returned (.tuple #[v, .bool (decide (0 < ls.length))]) ∧ w'.ownsRow w.heap.size 9 1 v ls.length (svs ls)
theorem texts_no {w w' : World} {l : List UInt8} {v : Value} (hb : Below w.heap.size w w') (h : Rd.tx l = none) : TextsPost w (Rd.tx l) (.returned (.tuple #[v, .bool false])) w' := by
  rw [h]; exact ⟨v, hb, rfl⟩
theorem texts_yes {w w' : World} {l : List UInt8} {v x : Value} {ls : List (List UInt8)} (hb : Below w.heap.size w w') (h : Rd.tx l = some ls) (hx : x = .bool (decide (0 < ls.length))) (ho : w'.ownsRow w.heap.size 9 1 v ls.length (svs ls)) : TextsPost w (Rd.tx l) (.returned (.tuple #[v, x])) w' := by
  rw [h]; exact ⟨v, hb, by rw [hx], ho⟩
set_option maxHeartbeats 1000000 in
set_option maxRecDepth 100000 in
theorem rdTexts_any (s : ByteArray) (w : World) (hs : s.size ≤ 8796093022208) :
    Calls Tryd.prog 54 #[.string s] w (TextsPost w (Rd.tx s.data.toList)) := by
  obtain ⟨i0, hi, hz0, hz1, hz2⟩ := info_parts Tryd.infoString
  go_enter Tryd.func54, Tryd.ntmps54
  go_wp2
  go_loopw [0, 4] (fun t v wr => ∃ (t' : ByteArray) (acc : List (List UInt8)), t = .string t' ∧ Hid (Rd.tx s.data.toList = (Rd.tx t'.data.toList).map (acc ++ ·)) ∧ acc.length + t'.size ≤ s.size ∧ Hid (wr.ownsRow w.heap.size 9 1 v acc.length (svs acc)) ∧ Hid (Below w.heap.size w wr)) (fun t _ _ => match t with | .string t' => t'.size | _ => 0)
  case atStart => exact ⟨s, [], rfl, by simp [Hid], by simp, World.ownsRow_nil _ _ _ _, Below.refl _ _⟩
  case round =>
    obtain ⟨t, acc, rfl, HX, hsz, HO, HB⟩ := hrel
    have hbs := HB.out.size
    by_cases h0 : 0 < t.size
    · have hcons := cons_of t h0
      have hr : (t.data.toList.drop 1).length = t.size - 1 := by simp
      have HR := Lib.hid hr
      have HC := Lib.hid hcons
      clear hcons hr
      have h8 : t[0].toNat < 256 := t[0].toNat_lt
      by_cases hsh : t.size < t[0].toNat + 1
      · have HN : Hid (Rd.tx s.data.toList = none) := by
          have := HX.out
          rw [HC.out, Rd.tx_bad (by rw [HR.out]; omega)] at this
          exact this
        go_wp2
        go_ret2
        exact texts_no HB.out HN.out
      · have HN : Hid (Rd.tx s.data.toList = (Rd.tx ((t.data.toList.drop 1).drop t[0].toNat)).map ((acc ++ [(t.data.toList.drop 1).take t[0].toNat]) ++ ·)) := by
          have := HX.out
          rw [HC.out, Rd.tx_cons (by rw [HR.out]; omega), Option.map_map] at this
          refine this.trans ?_
          congr 1
          funext x
          simp
        have HP := Lib.hid (At.piece (l := t.data.toList) (k := 0) rfl t[0].toNat)
        have HL := Lib.hid (At.left (l := t.data.toList) (k := 0) rfl t[0].toNat)
        go_wp2_with (at_builtin; refine wpList_append_own _ rfl (.tmp 17) (.tmp 22) _ rfl w.heap.size 9 i0 _ 1 16 Tryd.underlying71 hi hz0 hz1 hz2 rfl (by decide) _ acc.length (svs acc) rfl (HO.out.alloc _) ⟨wr.heap.size, 0, none⟩ 1 1 [sv ((t.data.toList.drop (0 + 1)).take t[0].toNat)] rfl rfl ?c1 ?c2 ?c3 ?c4 ?c5 (fun v' w4 hown1 hg1 _ => ?_))
        case c1 => rw [← HP.out]; exact cell_one_new _ _ _
        case c2 => simp [Value.oneCell']
        case c3 => unfold maxLen; omega
        case c4 => omega
        case c5 => simp; omega
        go_roundw
        case rel =>
          refine ⟨_, acc ++ [(t.data.toList.drop 1).take t[0].toNat], rfl, ?_, ?_, ?_, (HB.out.alloc hbs _).grown hg1 (by simp; omega) (fun j hj => (HO.out.lt j hj).1)⟩
          · rw [HL.out, show 0 + 1 + t[0].toNat = 1 + t[0].toNat from by omega, ← List.drop_drop]; exact HN.out
          · simp; omega
          · rw [List.length_append, svs_append]; exact hown1
        case measure => simp; omega
    · have h9 : t.data.toList.length = t.size := by simp
      have hN : t.data.toList = [] := List.eq_nil_of_length_eq_zero (by omega)
      clear h9
      have HN : Hid (Rd.tx s.data.toList = some acc) := by
        have := HX.out
        rw [hN, Rd.tx_nil] at this
        rw [this]
        simp [Hid]
      obtain ⟨ad, cp, hv⟩ := own_form HO.out
      subst hv
      clear hN
      go_wp2
      go_ret2
      exact texts_yes HB.out HN.out (by simp) HO.out
end Go.Proofs.YtbipcflmmfipbaaDoor
/- Numbers as bytes, the greatest first: plain lists. Nothing of the program. -/
namespace Go.Proofs.YtbipcflmmfipbaaDoor.Oc

abbrev By := List UInt8

/-- the bytes of a number, k of them. -/
def beb : Nat → Nat → By
  | 0, _ => []
  | k + 1, v => UInt8.ofNat (v / 256 ^ k) :: beb k v
/-- the number of some bytes. -/
def num (l : By) : Nat := l.foldl (fun a c => a * 256 + c.toNat) 0

theorem beb_length (k v : Nat) : (beb k v).length = k := by
  induction k with
  | zero => rfl
  | succ k ih => simp [beb, ih]
theorem num_snoc (l : By) (c : UInt8) : num (l ++ [c]) = num l * 256 + c.toNat := by simp [num]
theorem fold_lin (l : By) : ∀ a : Nat, l.foldl (fun a c => a * 256 + c.toNat) a = a * 256 ^ l.length + num l := by
  induction l with
  | nil => intro a; simp [num]
  | cons c t ih =>
    intro a
    have h0 := ih c.toNat
    have h1 : num (c :: t) = t.foldl (fun a c => a * 256 + c.toNat) c.toNat := by simp [num]
    rw [List.foldl_cons, ih, h1, h0, List.length_cons, Nat.pow_succ]
    rw [Nat.add_mul, Nat.mul_assoc, Nat.mul_comm 256 (256 ^ t.length)]
    omega
theorem num_cons (c : UInt8) (l : By) : num (c :: l) = c.toNat * 256 ^ l.length + num l := by
  have := fold_lin l c.toNat
  simpa [num] using this
theorem num_lt (l : By) : num l < 256 ^ l.length := by
  induction l with
  | nil => simp [num]
  | cons c t ih =>
    rw [num_cons, List.length_cons, Nat.pow_succ]
    have hc := c.toNat_lt
    have h1 : c.toNat * 256 ^ t.length ≤ 255 * 256 ^ t.length := Nat.mul_le_mul_right _ (by omega)
    omega
theorem num_beb (k v : Nat) : num (beb k v) = v % 256 ^ k := by
  induction k with
  | zero => simp [beb, num, Nat.mod_one]
  | succ k ih =>
    rw [beb, num_cons, beb_length, ih]
    have h1 : (UInt8.ofNat (v / 256 ^ k)).toNat = v / 256 ^ k % 256 := by simp
    rw [h1, Nat.pow_succ, Nat.mod_mul (x := v) (a := 256 ^ k) (b := 256), Nat.mul_comm]
    omega
theorem beb_mod (k v m : Nat) (h : k ≤ m) : beb k (v % 256 ^ m) = beb k v := by
  induction k with
  | zero => rfl
  | succ k ih =>
    rw [beb, beb, ih (by omega)]
    have : UInt8.ofNat (v % 256 ^ m / 256 ^ k) = UInt8.ofNat (v / 256 ^ k) := by
      apply UInt8.toNat_inj.1
      have e : (256 : Nat) ^ m = 256 ^ k * 256 ^ (m - k) := by rw [← Nat.pow_add]; congr 1; omega
      have h2 : v % 256 ^ m / 256 ^ k = v / 256 ^ k % 256 ^ (m - k) := by rw [e, Nat.mod_mul_right_div_self]
      rw [h2]
      have e2 : (256 : Nat) ^ (m - k) = 256 * 256 ^ (m - k - 1) := by rw [← Nat.pow_succ']; congr 1; omega
      simp only [UInt8.toNat_ofNat']
      rw [e2]
      exact Nat.mod_mul_right_mod _ _ _
    rw [this]
theorem num_take_succ (l : By) (k : Nat) (h : k < l.length) : num (l.take (k + 1)) = num (l.take k) * 256 + l[k].toNat := by
  rw [List.take_succ_eq_append_getElem h, num_snoc]
theorem num_take_lt (l : By) (k : Nat) : num (l.take k) < 256 ^ k := by
  have := num_lt (l.take k)
  have h2 : (l.take k).length ≤ k := List.length_take_le _ _
  exact Nat.lt_of_lt_of_le this (Nat.pow_le_pow_right (by omega) h2)
end Go.Proofs.YtbipcflmmfipbaaDoor.Oc
/- Bits of numbers of 32 bits: or, and, as sums and remainders. -/
namespace Go.Proofs.YtbipcflmmfipbaaDoor
open Go.RowKit

theorem ofInt_nat (n : Nat) : BitVec.ofInt 32 (n : Int) = BitVec.ofNat 32 n := by
  apply BitVec.eq_of_toNat_eq
  simp
theorem wrap_u32 (n : Nat) (h : n < 4294967296) : IntKind.u32.wrap (n : Int) = n := by
  have := IntWalk.u32_in (n : Int) (by omega)
  exact this
theorem or32 (a b : Nat) (ha : a < 16777216) (hb : b < 256) : bits .or .u32 ((a : Int) * 256) (b : Int) = ((a * 256 + b : Nat) : Int) := by
  have e : ((a : Int) * 256) = ((a * 256 : Nat) : Int) := by omega
  unfold bits
  rw [e]
  show IntKind.u32.wrap (((BitVec.ofInt 32 ((a * 256 : Nat) : Int)) ||| (BitVec.ofInt 32 (b : Int))).toNat : Int) = _
  rw [ofInt_nat, ofInt_nat, BitVec.toNat_or, BitVec.toNat_ofNat, BitVec.toNat_ofNat, Nat.mod_eq_of_lt (by omega), Nat.mod_eq_of_lt (by omega)]
  have h := Nat.shiftLeft_add_eq_or_of_lt (i := 8) (b := b) (by omega) a
  rw [Nat.shiftLeft_eq] at h
  have h2 : a * 256 ||| b = a * 256 + b := h.symm
  rw [h2]
  exact wrap_u32 _ (by omega)
theorem or32_0 (b : Nat) (hb : b < 256) : bits .or .u32 0 (b : Int) = (b : Int) := by
  have := or32 0 b (by omega) hb
  simpa using this
theorem and32 (v k : Nat) (hv : v < 4294967296) (hk : k ≤ 31) : bits .and .u32 (v : Int) ((2 ^ k - 1 : Nat) : Int) = ((v % 2 ^ k : Nat) : Int) := by
  have hk2 : 2 ^ k ≤ 2 ^ 31 := Nat.pow_le_pow_right (by omega) hk
  unfold bits
  show IntKind.u32.wrap (((BitVec.ofInt 32 (v : Int)) &&& (BitVec.ofInt 32 ((2 ^ k - 1 : Nat) : Int))).toNat : Int) = _
  rw [ofInt_nat, ofInt_nat, BitVec.toNat_and, BitVec.toNat_ofNat, BitVec.toNat_ofNat, Nat.mod_eq_of_lt hv, Nat.mod_eq_of_lt (by omega), Nat.and_two_pow_sub_one_eq_mod]
  have := Nat.mod_lt v (Nat.two_pow_pos k)
  exact wrap_u32 _ (by omega)
theorem and32_255 (v : Nat) (hv : v < 4294967296) : bits .and .u32 (v : Int) 255 = ((v % 256 : Nat) : Int) := and32 v 8 hv (by omega)
theorem and32_65535 (v : Nat) (hv : v < 4294967296) : bits .and .u32 (v : Int) 65535 = ((v % 65536 : Nat) : Int) := and32 v 16 hv (by omega)
end Go.Proofs.YtbipcflmmfipbaaDoor
/- Widths, cut ends, numbers' bytes: package octet, a function for each width. -/
namespace Go.Proofs.YtbipcflmmfipbaaDoor
open Go.RowKit

theorem tight_any (A : Option Addr) (n c : Nat) (w : World) (hc : n ≤ c) :
    Calls Tryd.prog 107 #[.slice A n c] w fun e w' => e = .returned (.slice A n n) ∧ w = w' := by
  go_enter Tryd.func107, Tryd.ntmps107
  go_wp2
  go_ret
  exact ⟨rfl, rfl⟩

theorem u8v {x : Int} {n : Nat} (h : x = ((n % 256 : Nat) : Int)) : Value.int .u8 x = .int .u8 ((UInt8.ofNat n).toNat : Int) := by rw [h]; simp
theorem bv_beb1 (v : Nat) {a : Int} (ha : a = ((v % 256 : Nat) : Int)) : [Value.int .u8 a] = bv (Oc.beb 1 v) := by
  rw [u8v ha]; simp [bv, Oc.beb]
theorem bv_beb2 (v : Nat) {a b : Int} (ha : a = ((v / 256 % 256 : Nat) : Int)) (hb : b = ((v % 256 : Nat) : Int)) : [Value.int .u8 a, Value.int .u8 b] = bv (Oc.beb 2 v) := by
  rw [u8v ha, u8v hb]; simp [bv, Oc.beb]
theorem bv_beb4 (v : Nat) {a b c d : Int} (ha : a = ((v / 16777216 % 256 : Nat) : Int)) (hb : b = ((v / 65536 % 256 : Nat) : Int)) (hc : c = ((v / 256 % 256 : Nat) : Int)) (hd : d = ((v % 256 : Nat) : Int)) :
    [Value.int .u8 a, Value.int .u8 b, Value.int .u8 c, Value.int .u8 d] = bv (Oc.beb 4 v) := by
  rw [u8v ha, u8v hb, u8v hc, u8v hd]; simp [bv, Oc.beb]

set_option maxHeartbeats 400000 in
set_option maxRecDepth 100000 in
theorem len_u8 (w : World) : Calls Tryd.prog 143 #[.int .u32 255] w fun e w' => e = .returned (.int .i64 8) ∧ w = w' := by
  go_enter Tryd.func143, Tryd.ntmps143
  go_wp2
  go_ret
  refine ⟨?_, rfl⟩
  kernel_rfl
theorem width_u8 (w : World) : Calls Tryd.prog 196 #[] w fun e w' => e = .returned (.int .i64 1) ∧ w = w' := by
  go_enter Tryd.func196, Tryd.ntmps196
  go_wp2_with (go_at_call 143; refine (len_u8 _).mono ?_; rintro e w' ⟨rfl, rfl⟩)
  go_ret
  exact ⟨rfl, rfl⟩

set_option maxHeartbeats 400000 in
set_option maxRecDepth 100000 in
theorem len_u16 (w : World) : Calls Tryd.prog 143 #[.int .u32 65535] w fun e w' => e = .returned (.int .i64 16) ∧ w = w' := by
  go_enter Tryd.func143, Tryd.ntmps143
  go_wp2
  go_ret
  refine ⟨?_, rfl⟩
  kernel_rfl
theorem width_u16 (w : World) : Calls Tryd.prog 108 #[] w fun e w' => e = .returned (.int .i64 2) ∧ w = w' := by
  go_enter Tryd.func108, Tryd.ntmps108
  go_wp2_with (go_at_call 143; refine (len_u16 _).mono ?_; rintro e w' ⟨rfl, rfl⟩)
  go_ret
  exact ⟨rfl, rfl⟩

set_option maxHeartbeats 400000 in
set_option maxRecDepth 100000 in
theorem len_u32 (w : World) : Calls Tryd.prog 143 #[.int .u32 4294967295] w fun e w' => e = .returned (.int .i64 32) ∧ w = w' := by
  go_enter Tryd.func143, Tryd.ntmps143
  go_wp2
  go_ret
  refine ⟨?_, rfl⟩
  kernel_rfl
theorem width_u32 (w : World) : Calls Tryd.prog 109 #[] w fun e w' => e = .returned (.int .i64 4) ∧ w = w' := by
  go_enter Tryd.func109, Tryd.ntmps109
  go_wp2_with (go_at_call 143; refine (len_u32 _).mono ?_; rintro e w' ⟨rfl, rfl⟩)
  go_ret
  exact ⟨rfl, rfl⟩

set_option maxHeartbeats 400000 in
set_option maxRecDepth 100000 in
theorem put_u16 (A : Option Addr) (l : List UInt8) (c v : Nat) (w : World) (hc : l.length ≤ c) (hm : l.length ≤ 140737488355300) (hv : v < 65536) (lo : Nat) (hr : Bs w lo w.heap.size A l) :
    Calls Tryd.prog 60 #[.slice A l.length c, .int .u16 v] w fun e w' => ∃ g cp, e = .returned (.slice (some ⟨g, 0, none⟩) (l.length + 2) (l.length + 2)) ∧ w'.ownsRow w.heap.size 5 1 (.slice (some ⟨g, 0, none⟩) (l.length + 2) cp) (l.length + 2) (bv (l ++ Oc.beb 2 v)) ∧ Below w.heap.size w w' := by
  obtain ⟨i0, hi, hz0, hz1, hz2⟩ := info_parts Tryd.infoByte
  have HR := Lib.hid hr
  clear hr
  go_enter Tryd.func60, Tryd.ntmps60
  go_wp2_with (first
    | (go_at_call 107; refine (tight_any _ _ _ _ hc).mono ?_; rintro e w' ⟨rfl, rfl⟩)
    | (go_at_call 108; refine (width_u16 _).mono ?_; rintro e w' ⟨rfl, rfl⟩))
  refine wp_loop_rounds 3 ?_
  rw [rounds_succ]
  go_wp2_with (at_builtin; refine wpList_append_full rfl (.tmp 15) (.tmp 22) _ rfl _ i0 _ Tryd.underlying34 hi hz0 hz1 hz2 rfl lo w.heap.size A l rfl HR.out (Nat.le_refl _) _ rfl _ rfl (by omega) ?_; intro v1 w1 O1 B1)
  rw [rounds_succ]
  go_wp2_with (at_builtin; refine wpList_append_one rfl (.tmp 15) (.tmp 22) _ rfl _ i0 _ Tryd.underlying34 hi hz0 hz1 hz2 rfl w.heap.size w v1 (l.length + 1) _ rfl O1 B1 (Nat.le_refl _) _ rfl _ rfl (by omega) ?_; intro v2 w2 O2 B2)
  obtain ⟨g, cp, rfl, hcp, hgl, hgs⟩ := own_pos O2 (by omega)
  rw [rounds_succ]
  go_wp2_with (go_at_call 107; refine (tight_any _ _ _ _ hcp).mono ?_; rintro e w' ⟨rfl, rfl⟩)
  go_ret
  refine ⟨g, cp, rfl, own_to O2 rfl ?_, B2⟩
  rw [bv_append]
  try simp only [List.append_assoc, List.cons_append, List.nil_append]
  congr 1
  exact bv_beb2 v (by omega) (by omega)

set_option maxHeartbeats 400000 in
set_option maxRecDepth 100000 in
theorem put_u32 (A : Option Addr) (l : List UInt8) (c v : Nat) (w : World) (hc : l.length ≤ c) (hm : l.length ≤ 140737488355300) (hv : v < 4294967296) (lo : Nat) (hr : Bs w lo w.heap.size A l) :
    Calls Tryd.prog 61 #[.slice A l.length c, .int .u32 v] w fun e w' => ∃ g cp, e = .returned (.slice (some ⟨g, 0, none⟩) (l.length + 4) (l.length + 4)) ∧ w'.ownsRow w.heap.size 5 1 (.slice (some ⟨g, 0, none⟩) (l.length + 4) cp) (l.length + 4) (bv (l ++ Oc.beb 4 v)) ∧ Below w.heap.size w w' := by
  obtain ⟨i0, hi, hz0, hz1, hz2⟩ := info_parts Tryd.infoByte
  have HR := Lib.hid hr
  clear hr
  go_enter Tryd.func61, Tryd.ntmps61
  go_wp2_with (first
    | (go_at_call 107; refine (tight_any _ _ _ _ hc).mono ?_; rintro e w' ⟨rfl, rfl⟩)
    | (go_at_call 109; refine (width_u32 _).mono ?_; rintro e w' ⟨rfl, rfl⟩))
  refine wp_loop_rounds 5 ?_
  rw [rounds_succ]
  go_wp2_with (at_builtin; refine wpList_append_full rfl (.tmp 15) (.tmp 21) _ rfl _ i0 _ Tryd.underlying34 hi hz0 hz1 hz2 rfl lo w.heap.size A l rfl HR.out (Nat.le_refl _) _ rfl _ rfl (by omega) ?_; intro v1 w1 O1 B1)
  rw [rounds_succ]
  go_wp2_with (at_builtin; refine wpList_append_one rfl (.tmp 15) (.tmp 21) _ rfl _ i0 _ Tryd.underlying34 hi hz0 hz1 hz2 rfl w.heap.size w v1 (l.length + 1) _ rfl O1 B1 (Nat.le_refl _) _ rfl _ rfl (by omega) ?_; intro v2 w2 O2 B2)
  rw [rounds_succ]
  go_wp2_with (at_builtin; refine wpList_append_one rfl (.tmp 15) (.tmp 21) _ rfl _ i0 _ Tryd.underlying34 hi hz0 hz1 hz2 rfl w.heap.size w v2 (l.length + 2) _ rfl O2 B2 (Nat.le_refl _) _ rfl _ rfl (by omega) ?_; intro v3 w3 O3 B3)
  rw [rounds_succ]
  go_wp2_with (at_builtin; refine wpList_append_one rfl (.tmp 15) (.tmp 21) _ rfl _ i0 _ Tryd.underlying34 hi hz0 hz1 hz2 rfl w.heap.size w v3 (l.length + 3) _ rfl O3 B3 (Nat.le_refl _) _ rfl _ rfl (by omega) ?_; intro v4 w4 O4 B4)
  obtain ⟨g, cp, rfl, hcp, hgl, hgs⟩ := own_pos O4 (by omega)
  rw [rounds_succ]
  go_wp2_with (go_at_call 107; refine (tight_any _ _ _ _ hcp).mono ?_; rintro e w' ⟨rfl, rfl⟩)
  go_ret
  refine ⟨g, cp, rfl, own_to O4 rfl ?_, B4⟩
  rw [bv_append]
  try simp only [List.append_assoc, List.cons_append, List.nil_append]
  congr 1
  exact bv_beb4 v (by omega) (by omega) (by omega) (by omega)

theorem num_step (l : List UInt8) (at_ j : Nat) (h : at_ + j < l.length) : Oc.num ((l.drop at_).take (j + 1)) = Oc.num ((l.drop at_).take j) * 256 + (l[at_ + j]'h).toNat := by
  rw [Oc.num_take_succ _ _ (by rw [List.length_drop]; omega), List.getElem_drop]
/-- what Take answers: the number of k bytes at a place, the place behind them, and an error. -/
def takeV (K : IntKind) (k : Nat) (l : List UInt8) (z : Int) : Value :=
  if z < 0 ∨ (l.length : Int) < z then .tuple #[.int K 0, .int .i64 0, .int .i64 1]
  else if (l.length : Int) < z + k then .tuple #[.int K 0, .int .i64 0, .int .i64 6]
  else .tuple #[.int K (Oc.num ((l.drop z.toNat).take k)), .int .i64 (z + k), .int .i64 0]

set_option maxHeartbeats 1000000 in
set_option maxRecDepth 100000 in
theorem take_u8_ok (A : Option Addr) (l : List UInt8) (c n : Nat) (w : World) (hc : l.length ≤ c) (hm : l.length ≤ 211106232532992) (lo hi : Nat) (hr : Bs w lo hi A l) (hk : n + 1 ≤ l.length) :
    Calls Tryd.prog 170 #[.slice A l.length c, .int .i64 n] w fun e w' => e = .returned (.tuple #[.int .u8 (Oc.num ((l.drop n).take 1)), .int .i64 (n + 1), .int .i64 0]) ∧ w = w' := by
  obtain ⟨g0, o0, rfl, _, _, hcell⟩ := hr (by omega)
  have h0 : w.cell? ⟨g0, o0 + n, none⟩ = _ := hcell n (by omega)
  have b0 := (l[n]'(by omega)).toNat_lt
  have s0 := num_step l n 0 (by omega)
  have q0 := Oc.num_take_lt (l.drop n) 1
  have z0 : Oc.num ((l.drop n).take 0) = 0 := by simp [Oc.num]
  rw [z0] at s0
  clear hcell hr z0
  simp only [Nat.add_zero] at s0 b0
  generalize (l[n]'(by omega)).toNat = x0 at *
  generalize Oc.num ((l.drop n).take 1) = p1 at *
  have r1 : (0 : Nat) < 256 := by omega
  have o0 : bits .or .u32 0 (x0 : Int) = (p1 : Int) := by rw [or32_0 x0 (by omega)]; omega
  clear s0
  go_enter Tryd.func170, Tryd.ntmps170
  go_wp2_with (go_at_call 196; refine (width_u8 _).mono ?_; rintro e w' ⟨rfl, rfl⟩)
  refine wp_loop_rounds 2 ?_
  rw [rounds_succ]
  go_wp2
  rw [rounds_succ]
  go_wp2
  go_ret3
  exact ⟨rfl, rfl⟩
set_option maxHeartbeats 1000000 in
theorem take_u8 (A : Option Addr) (l : List UInt8) (c : Nat) (z : Int) (w : World) (hc : l.length ≤ c) (hm : l.length ≤ 211106232532992) (lo hi : Nat) (hr : Bs w lo hi A l) :
    Calls Tryd.prog 170 #[.slice A l.length c, .int .i64 z] w fun e w' => e = .returned (takeV .u8 1 l z) ∧ w = w' := by
  unfold takeV
  by_cases h0 : z < 0
  · rw [if_pos (.inl h0)]
    go_enter Tryd.func170, Tryd.ntmps170
    go_wp2
    go_ret3
    exact ⟨rfl, rfl⟩
  · obtain ⟨n, rfl⟩ : ∃ n : Nat, z = n := ⟨z.toNat, by omega⟩
    by_cases h1 : l.length < n
    · rw [if_pos (.inr (by omega))]
      go_enter Tryd.func170, Tryd.ntmps170
      go_wp2
      go_ret3
      exact ⟨rfl, rfl⟩
    · rw [if_neg (by omega)]
      by_cases h2 : l.length < n + 1
      · rw [if_pos (by omega)]
        go_enter Tryd.func170, Tryd.ntmps170
        go_wp2_with (go_at_call 196; refine (width_u8 _).mono ?_; rintro e w' ⟨rfl, rfl⟩)
        go_ret3
        exact ⟨rfl, rfl⟩
      · rw [if_neg (by omega)]
        exact take_u8_ok A l c n w hc hm lo hi hr (by omega)

set_option maxHeartbeats 1000000 in
set_option maxRecDepth 100000 in
theorem take_u16_ok (A : Option Addr) (l : List UInt8) (c n : Nat) (w : World) (hc : l.length ≤ c) (hm : l.length ≤ 211106232532992) (lo hi : Nat) (hr : Bs w lo hi A l) (hk : n + 2 ≤ l.length) :
    Calls Tryd.prog 91 #[.slice A l.length c, .int .i64 n] w fun e w' => e = .returned (.tuple #[.int .u16 (Oc.num ((l.drop n).take 2)), .int .i64 (n + 2), .int .i64 0]) ∧ w = w' := by
  obtain ⟨g0, o0, rfl, _, _, hcell⟩ := hr (by omega)
  have h0 : w.cell? ⟨g0, o0 + n, none⟩ = _ := hcell n (by omega)
  have b0 := (l[n]'(by omega)).toNat_lt
  have s0 := num_step l n 0 (by omega)
  have q0 := Oc.num_take_lt (l.drop n) 1
  have h1 : w.cell? ⟨g0, o0 + n + 1, none⟩ = _ := hcell (n + 1) (by omega)
  have b1 := (l[n + 1]'(by omega)).toNat_lt
  have s1 := num_step l n 1 (by omega)
  have q1 := Oc.num_take_lt (l.drop n) 2
  have z0 : Oc.num ((l.drop n).take 0) = 0 := by simp [Oc.num]
  rw [z0] at s0
  clear hcell hr z0
  simp only [Nat.add_zero] at s0 b0
  generalize (l[n]'(by omega)).toNat = x0 at *
  generalize (l[n + 1]'(by omega)).toNat = x1 at *
  generalize Oc.num ((l.drop n).take 1) = p1 at *
  generalize Oc.num ((l.drop n).take 2) = p2 at *
  have r1 : (0 : Nat) < 256 := by omega
  have o0 : bits .or .u32 0 (x0 : Int) = (p1 : Int) := by rw [or32_0 x0 (by omega)]; omega
  have o1 : bits .or .u32 ((p1 : Int) * 256) (x1 : Int) = (p2 : Int) := by rw [or32 p1 x1 (by omega) (by omega)]; omega
  clear s0 s1
  go_enter Tryd.func91, Tryd.ntmps91
  go_wp2_with (go_at_call 108; refine (width_u16 _).mono ?_; rintro e w' ⟨rfl, rfl⟩)
  refine wp_loop_rounds 3 ?_
  rw [rounds_succ]
  go_wp2
  rw [rounds_succ]
  go_wp2
  rw [rounds_succ]
  go_wp2
  go_ret3
  exact ⟨rfl, rfl⟩
set_option maxHeartbeats 1000000 in
theorem take_u16 (A : Option Addr) (l : List UInt8) (c : Nat) (z : Int) (w : World) (hc : l.length ≤ c) (hm : l.length ≤ 211106232532992) (lo hi : Nat) (hr : Bs w lo hi A l) :
    Calls Tryd.prog 91 #[.slice A l.length c, .int .i64 z] w fun e w' => e = .returned (takeV .u16 2 l z) ∧ w = w' := by
  unfold takeV
  by_cases h0 : z < 0
  · rw [if_pos (.inl h0)]
    go_enter Tryd.func91, Tryd.ntmps91
    go_wp2
    go_ret3
    exact ⟨rfl, rfl⟩
  · obtain ⟨n, rfl⟩ : ∃ n : Nat, z = n := ⟨z.toNat, by omega⟩
    by_cases h1 : l.length < n
    · rw [if_pos (.inr (by omega))]
      go_enter Tryd.func91, Tryd.ntmps91
      go_wp2
      go_ret3
      exact ⟨rfl, rfl⟩
    · rw [if_neg (by omega)]
      by_cases h2 : l.length < n + 2
      · rw [if_pos (by omega)]
        go_enter Tryd.func91, Tryd.ntmps91
        go_wp2_with (go_at_call 108; refine (width_u16 _).mono ?_; rintro e w' ⟨rfl, rfl⟩)
        go_ret3
        exact ⟨rfl, rfl⟩
      · rw [if_neg (by omega)]
        exact take_u16_ok A l c n w hc hm lo hi hr (by omega)

set_option maxHeartbeats 1000000 in
set_option maxRecDepth 100000 in
theorem take_u32_ok (A : Option Addr) (l : List UInt8) (c n : Nat) (w : World) (hc : l.length ≤ c) (hm : l.length ≤ 140737488355328) (lo hi : Nat) (hr : Bs w lo hi A l) (hk : n + 4 ≤ l.length) :
    Calls Tryd.prog 114 #[.slice A l.length c, .int .i64 n] w fun e w' => e = .returned (.tuple #[.int .u32 (Oc.num ((l.drop n).take 4)), .int .i64 (n + 4), .int .i64 0]) ∧ w = w' := by
  obtain ⟨g0, o0, rfl, _, _, hcell⟩ := hr (by omega)
  have h0 : w.cell? ⟨g0, o0 + n, none⟩ = _ := hcell n (by omega)
  have b0 := (l[n]'(by omega)).toNat_lt
  have s0 := num_step l n 0 (by omega)
  have q0 := Oc.num_take_lt (l.drop n) 1
  have h1 : w.cell? ⟨g0, o0 + n + 1, none⟩ = _ := hcell (n + 1) (by omega)
  have b1 := (l[n + 1]'(by omega)).toNat_lt
  have s1 := num_step l n 1 (by omega)
  have q1 := Oc.num_take_lt (l.drop n) 2
  have h2 : w.cell? ⟨g0, o0 + n + 2, none⟩ = _ := hcell (n + 2) (by omega)
  have b2 := (l[n + 2]'(by omega)).toNat_lt
  have s2 := num_step l n 2 (by omega)
  have q2 := Oc.num_take_lt (l.drop n) 3
  have h3 : w.cell? ⟨g0, o0 + n + 3, none⟩ = _ := hcell (n + 3) (by omega)
  have b3 := (l[n + 3]'(by omega)).toNat_lt
  have s3 := num_step l n 3 (by omega)
  have q3 := Oc.num_take_lt (l.drop n) 4
  have z0 : Oc.num ((l.drop n).take 0) = 0 := by simp [Oc.num]
  rw [z0] at s0
  clear hcell hr z0
  simp only [Nat.add_zero] at s0 b0
  generalize (l[n]'(by omega)).toNat = x0 at *
  generalize (l[n + 1]'(by omega)).toNat = x1 at *
  generalize (l[n + 2]'(by omega)).toNat = x2 at *
  generalize (l[n + 3]'(by omega)).toNat = x3 at *
  generalize Oc.num ((l.drop n).take 1) = p1 at *
  generalize Oc.num ((l.drop n).take 2) = p2 at *
  generalize Oc.num ((l.drop n).take 3) = p3 at *
  generalize Oc.num ((l.drop n).take 4) = p4 at *
  have r1 : (0 : Nat) < 256 := by omega
  have o0 : bits .or .u32 0 (x0 : Int) = (p1 : Int) := by rw [or32_0 x0 (by omega)]; omega
  have o1 : bits .or .u32 ((p1 : Int) * 256) (x1 : Int) = (p2 : Int) := by rw [or32 p1 x1 (by omega) (by omega)]; omega
  have o2 : bits .or .u32 ((p2 : Int) * 256) (x2 : Int) = (p3 : Int) := by rw [or32 p2 x2 (by omega) (by omega)]; omega
  have o3 : bits .or .u32 ((p3 : Int) * 256) (x3 : Int) = (p4 : Int) := by rw [or32 p3 x3 (by omega) (by omega)]; omega
  clear s0 s1 s2 s3
  go_enter Tryd.func114, Tryd.ntmps114
  go_wp2_with (go_at_call 109; refine (width_u32 _).mono ?_; rintro e w' ⟨rfl, rfl⟩)
  refine wp_loop_rounds 5 ?_
  rw [rounds_succ]
  go_wp2
  rw [rounds_succ]
  go_wp2
  rw [rounds_succ]
  go_wp2
  rw [rounds_succ]
  go_wp2
  rw [rounds_succ]
  go_wp2
  go_ret3
  exact ⟨rfl, rfl⟩
set_option maxHeartbeats 1000000 in
theorem take_u32 (A : Option Addr) (l : List UInt8) (c : Nat) (z : Int) (w : World) (hc : l.length ≤ c) (hm : l.length ≤ 140737488355328) (lo hi : Nat) (hr : Bs w lo hi A l) :
    Calls Tryd.prog 114 #[.slice A l.length c, .int .i64 z] w fun e w' => e = .returned (takeV .u32 4 l z) ∧ w = w' := by
  unfold takeV
  by_cases h0 : z < 0
  · rw [if_pos (.inl h0)]
    go_enter Tryd.func114, Tryd.ntmps114
    go_wp2
    go_ret3
    exact ⟨rfl, rfl⟩
  · obtain ⟨n, rfl⟩ : ∃ n : Nat, z = n := ⟨z.toNat, by omega⟩
    by_cases h1 : l.length < n
    · rw [if_pos (.inr (by omega))]
      go_enter Tryd.func114, Tryd.ntmps114
      go_wp2
      go_ret3
      exact ⟨rfl, rfl⟩
    · rw [if_neg (by omega)]
      by_cases h2 : l.length < n + 4
      · rw [if_pos (by omega)]
        go_enter Tryd.func114, Tryd.ntmps114
        go_wp2_with (go_at_call 109; refine (width_u32 _).mono ?_; rintro e w' ⟨rfl, rfl⟩)
        go_ret3
        exact ⟨rfl, rfl⟩
      · rw [if_neg (by omega)]
        exact take_u32_ok A l c n w hc hm lo hi hr (by omega)
end Go.Proofs.YtbipcflmmfipbaaDoor
