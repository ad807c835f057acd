/- Texts of the proofs, merged. -/
import Derived.Test.YtopcklpmeaghmaaGreatDoorG4
import Derived.Test.YtopcklpmeaghmaaGreatDoorG3
import Derived.Laws.StructEq
import Derived.MapKept
/- A name's labels, how many, whether it is one: the program's answers. -/
namespace Go.Proofs.YtopcklpmeaghmaaGreatDoor
open Go.RowKit

set_option maxHeartbeats 400000 in
set_option maxRecDepth 100000 in
theorem label_any (s : ByteArray) (g i : Nat) (ls : List (List UInt8)) (w : World) (h : Has w g 90 (marksV ls)) (hn : Nm.split s.data.toList = some ls) (hi : i < ls.length) :
    Calls Tryz.prog 59 #[.pointer (some ⟨g, 0, none⟩), .string s, .int .i64 i] w fun e w' => e = .returned (sv ls[i]) ∧ ∃ n, w' = w.drewN n := by
  obtain ⟨hl, hg, h255⟩ := Nm.split_some.1 hn
  have hlen : (Nm.glue ls).length = s.size := by rw [← hl]; simp
  have hcut : sv ls[i] = .string (s.extract ((Nm.body (ls.take i)).length + 1) (Nm.body (ls.take (i + 1))).length) := by
    unfold sv
    rw [← string_eq (s := s.extract _ _)]
    rw [extract_list, hl, Nm.label_cut hi]
  have hcnt := Nm.good_count hg
  have hbl := Nm.glue_length ls
  have h255' : s.size ≤ 255 := by simpa using h255
  have c1 : w.cell? ⟨g, i, none⟩ = some (.int .u8 ((Nm.body (ls.take i)).length : Nat)) := by rw [h.cell]; exact mkc_at _ _ _ (Nm.offs_get ls i (by omega))
  have c2 : w.cell? ⟨g, i + 1, none⟩ = some (.int .u8 ((Nm.body (ls.take (i + 1))).length : Nat)) := by rw [h.cell]; exact mkc_at _ _ _ (Nm.offs_get ls (i + 1) (by omega))
  have hts := Nm.take_succ_body hi
  have hle := Nm.body_take_le (ls := ls) (i := i + 1)
  have hi' : i + 1 ≤ 127 := by omega
  have hb1 : (Nm.body (ls.take i)).length + 1 ≤ (Nm.body (ls.take (i + 1))).length := by omega
  have hb2 : (Nm.body (ls.take (i + 1))).length + 1 ≤ s.size := by omega
  rw [hcut]
  clear hcut hl hg h255 hn hlen hcnt hbl hts hle h
  generalize (Nm.body (ls.take (i + 1))).length = b at *
  generalize (Nm.body (ls.take i)).length = a at *
  go_enter Tryz.func59, Tryz.ntmps59
  go_wp2
  go_quiet (fail)
  go_wp2
  go_ret
  exact ⟨rfl, _, rfl⟩

theorem marks_none (s : ByteArray) (w : World) (hs : s.size ≤ 140737488355328) (h : Nm.split s.data.toList = none) :
    Calls Tryz.prog 39 #[.string s] w fun e w' => e = .returned (.tuple #[.agg (mkc [] 0), .bool false]) ∧ Below w.heap.size w w' :=
  (marksOf_any s w hs).mono fun _ _ ⟨he, hb⟩ => ⟨by rw [he, marksR_none h], hb⟩
theorem marks_some (s : ByteArray) (ls : List (List UInt8)) (w : World) (hs : s.size ≤ 140737488355328) (h : Nm.split s.data.toList = some ls) :
    Calls Tryz.prog 39 #[.string s] w fun e w' => e = .returned (.tuple #[.agg (marksV ls), .bool true]) ∧ Below w.heap.size w w' :=
  (marksOf_any s w hs).mono fun _ _ ⟨he, hb⟩ => ⟨by rw [he, marksR_some h], hb⟩
theorem few {l : List UInt8} {ls : List (List UInt8)} (h : Nm.split l = some ls) : ls.length ≤ 127 := by
  obtain ⟨hl, hg, h255⟩ := Nm.split_some.1 h
  have := Nm.good_count hg
  have := Nm.glue_length ls
  rw [hl] at h255
  omega

/-- what is in a new block of marks behind the store of these. -/
theorem marks_stored {w w1 : World} {os : List Nat} {c : Nat} (hb : Below w.heap.size w w1) :
    Has ((w1.alloc (.cells Tryz.zeroCells90 90)).setRow w1.heap.size (mkc os c)) w1.heap.size 90 (mkc os c) ∧ Below w.heap.size w ((w1.alloc (.cells Tryz.zeroCells90 90)).setRow w1.heap.size (mkc os c)) :=
  ⟨(Has.fresh w1 _ _).row _, below_setRow (hb.alloc hb.size _) hb.size _⟩

set_option maxRecDepth 100000 in
theorem Check_any (s : ByteArray) (w : World) (hs : s.size ≤ 140737488355328) :
    Calls Tryz.prog 19 #[.string s] w fun e w' => e = .returned (.int .i64 (if (Nm.split s.data.toList).isSome then 0 else 11)) ∧ Below w.heap.size w w' := by
  have HZ : ∀ w1 : World, Hid (Has (w1.alloc (.cells Tryz.zeroCells90 90)) w1.heap.size 90 Tryz.zeroCells90) := fun w1 => Has.fresh w1 _ _
  rcases hn : Nm.split s.data.toList with _ | ls
  · have hm := Lib.hid (marks_none s w hs hn)
    have HI := Lib.hid (markInfo (os := []) 0 (by simp))
    clear hn
    go_enter Tryz.func19, Tryz.ntmps19
    go_wp2_with (first | (go_at_call 39; refine hm.out.mono ?_; rintro e w1 ⟨rfl, hb1⟩) | (refine wpList_store_row rfl 90 (.tmp 3) (.tmp 8) rfl w1.heap.size (mkc [] 0) rfl rfl 90 Tryz.zeroCells90 (HZ w1).out HI.out zeroMarks_size.symm (mkc_one _ _) ?_))
    go_ret
    exact ⟨rfl, (marks_stored hb1).2⟩
  · have hm := Lib.hid (marks_some s ls w hs hn)
    have ho : (Nm.offs ls).length ≤ 128 := by rw [Nm.offs_length]; have := few hn; omega
    have HI : Hid ((Tryz.prog.info? 90).map (·.size) = some (marksV ls).size) := markInfo (os := Nm.offs ls) ls.length ho
    have HO : Hid (Tryz.zeroCells90.size = (marksV ls).size) := by rw [Hid, ← zeroMarks_size, mkc_size _ (by simp), marksV, mkc_size _ ho]
    clear hn
    go_enter Tryz.func19, Tryz.ntmps19
    go_wp2_with (first | (go_at_call 39; refine hm.out.mono ?_; rintro e w1 ⟨rfl, hb1⟩) | (refine wpList_store_row rfl 90 (.tmp 3) (.tmp 8) rfl w1.heap.size (marksV ls) rfl rfl 90 Tryz.zeroCells90 (HZ w1).out HI.out HO.out (mkc_one _ _) ?_))
    go_ret
    exact ⟨rfl, (marks_stored hb1).2⟩

/-- its labels; none of what is no name. -/
def labelsOf (l : List UInt8) : List (List UInt8) := (Nm.split l).getD []

set_option maxHeartbeats 400000 in
set_option maxRecDepth 100000 in
theorem Labels_any (s : ByteArray) (w : World) (hs : s.size ≤ 140737488355328) :
    Calls Tryz.prog 29 #[.string s] w fun e w' => ∃ v, e = .returned v ∧ w'.ownsRow w.heap.size 9 1 v (labelsOf s.data.toList).length (svs (labelsOf s.data.toList)) ∧ Below w.heap.size w w' := by
  have HZ : ∀ w1 : World, Hid (Has (w1.alloc (.cells Tryz.zeroCells90 90)) w1.heap.size 90 Tryz.zeroCells90) := fun w1 => Has.fresh w1 _ _
  obtain ⟨i0, hi, hz0, hz1, hz2⟩ := info_parts Tryz.infoString
  unfold labelsOf
  rcases hn : Nm.split s.data.toList with _ | ls
  · have hm := Lib.hid (marks_none s w hs hn)
    have HI := Lib.hid (markInfo (os := []) 0 (by simp))
    have hc : ∀ w1 : World, ((w1.alloc (.cells Tryz.zeroCells90 90)).setRow w1.heap.size (mkc [] 0)).cell? ⟨w1.heap.size, 128, none⟩ = some (.int .i64 0) := fun w1 => by
      rw [((Has.fresh w1 _ _).row _).cell]; exact mkc_count 0 (by simp)
    clear hn
    go_enter Tryz.func29, Tryz.ntmps29
    go_wp2_with (first | (go_at_call 39; refine hm.out.mono ?_; rintro e w1 ⟨rfl, hb1⟩) | (refine wpList_store_row rfl 90 (.tmp 3) (.tmp 10) rfl w1.heap.size (mkc [] 0) rfl rfl 90 Tryz.zeroCells90 (HZ w1).out HI.out zeroMarks_size.symm (mkc_one _ _) ?_))
    refine wp_loop_rounds 1 ?_
    rw [rounds_succ]
    go_wp2
    go_ret
    exact ⟨_, rfl, World.ownsRow_nil _ _ _ _, (marks_stored hb1).2⟩
  · have hm := Lib.hid (marks_some s ls w hs hn)
    have hfew := few hn
    have ho : (Nm.offs ls).length ≤ 128 := by rw [Nm.offs_length]; omega
    have HI : Hid ((Tryz.prog.info? 90).map (·.size) = some (marksV ls).size) := markInfo (os := Nm.offs ls) ls.length ho
    have HO : Hid (Tryz.zeroCells90.size = (marksV ls).size) := by rw [Hid, ← zeroMarks_size, mkc_size _ (by simp), marksV, mkc_size _ ho]
    have hc : ∀ w1 : World, ((w1.alloc (.cells Tryz.zeroCells90 90)).setRow w1.heap.size (marksV ls)).cell? ⟨w1.heap.size, 128, none⟩ = some (.int .i64 (ls.length : Nat)) := fun w1 => by
      rw [((Has.fresh w1 _ _).row _).cell]; exact mkc_count _ ho
    have HN := Lib.hid hn
    clear hn
    go_enter Tryz.func29, Tryz.ntmps29
    go_wp2_with (first | (go_at_call 39; refine hm.out.mono ?_; rintro e w1 ⟨rfl, hb1⟩) | (refine wpList_store_row rfl 90 (.tmp 3) (.tmp 10) rfl w1.heap.size (marksV ls) rfl rfl 90 Tryz.zeroCells90 (HZ w1).out HI.out HO.out (mkc_one _ _) ?_))
    have hst := marks_stored (os := Nm.offs ls) (c := ls.length) hb1
    have hbs := hb1.size
    change Has ((w1.alloc (.cells Tryz.zeroCells90 90)).setRow w1.heap.size (marksV ls)) w1.heap.size 90 (marksV ls) ∧ Below w.heap.size w ((w1.alloc (.cells Tryz.zeroCells90 90)).setRow w1.heap.size (marksV ls)) at hst
    have hsz2 : ((w1.alloc (.cells Tryz.zeroCells90 90)).setRow w1.heap.size (marksV ls)).heap.size = w1.heap.size + 1 := by simp
    generalize (w1.alloc (.cells Tryz.zeroCells90 90)).setRow w1.heap.size (marksV ls) = w2 at *
    go_loopw [5, 14] (fun v i wr => ∃ k : Nat, i = .int .i64 k ∧ k ≤ ls.length ∧ wr.ownsRow w2.heap.size 9 1 v k (svs (ls.take k)) ∧ Below w2.heap.size w2 wr) (fun _ i _ => ls.length - (intOf i).toNat)
    case atStart => exact ⟨0, rfl, Nat.zero_le _, World.ownsRow_nil _ _ _ _, Below.refl _ _⟩
    case round =>
      obtain ⟨k, rfl, hk, hown, hb⟩ := hrel
      have HW := Lib.hid hown
      have HB := Lib.hid hb
      have hbs2 := hb.size
      have hM : Has wr w1.heap.size 90 (marksV ls) := hst.1.below hb (by omega)
      have HM := Lib.hid hM
      clear hown hb hM hsz2
      by_cases hlt : k < ls.length
      · have hsn : svs (ls.take (k + 1)) = svs (ls.take k) ++ [sv ls[k]] := by rw [List.take_succ_eq_append_getElem hlt, svs_append]; rfl
        have HSN := Lib.hid hsn
        clear hsn
        go_wp2_with (first | (go_at_call 59; refine (label_any s _ k ls _ HM.out HN.out hlt).mono ?_; rintro e w3 ⟨rfl, nn, rfl⟩) | (at_builtin; refine wpList_append_own _ rfl (.tmp 17) (.tmp 21) _ rfl w2.heap.size 9 i0 _ 1 16 Tryz.underlying38 hi hz0 hz1 hz2 rfl (by decide) _ k (svs (ls.take k)) rfl (World.ownsRow.alloc (w := wr.drewN nn) HW.out _) ⟨wr.heap.size, 0, none⟩ 1 1 [sv ls[k]] rfl rfl ?c1 ?c2 ?c3 ?c4 ?c5 (fun v' w4 hown1 hg1 _ => ?_)))
        case c1 => exact cell_one_new _ _ _
        case c2 => simp [Value.oneCell']
        case c3 => unfold maxLen; omega
        case c4 => omega
        case c5 => simp; omega
        go_roundw
        case rel => exact ⟨k + 1, by go_num, by omega, by rw [HSN.out]; exact hown1, (((below_drewN HB.out nn).alloc (by simp; omega) _).grown hg1 (by simp; omega) (fun j hj => (HW.out.lt j hj).1))⟩
        case measure => simp [intOf]; omega
      · obtain rfl : k = ls.length := by omega
        have hw : wr.ownsRow w2.heap.size 9 1 u5 ls.length (svs ls) := by have := HW.out; rwa [List.take_length] at this
        have HW2 := Lib.hid hw
        clear hw HW
        go_wp2
        go_ret
        exact ⟨_, rfl, own_mono HW2.out hst.2.size, hst.2.trans (HB.out.mono hst.2.size)⟩
end Go.Proofs.YtopcklpmeaghmaaGreatDoor
/- The document's answer: a name's labels (Split, Labels). -/
namespace Go.Proofs.YtopcklpmeaghmaaGreatDoor
open Go.RowKit

theorem At.cut {l : List UInt8} {k : Nat} {ps : List (List UInt8)} {t : ByteArray} (h : t.data.toList = l.drop k) (hk : k < l.length) (_ : At l k ps) : ∃ h0 : 0 < t.size, t[0] = l[k] := by
  have hs : t.size = l.length - k := by have := congrArg List.length h; simpa using this
  refine ⟨by omega, ?_⟩
  have e : t.data.toList = l[k] :: l.drop (k + 1) := by rw [h]; exact Nm.drop_cons hk
  have h0 : 0 < t.data.toList.length := by rw [e, List.length_cons]; omega
  have h2 : t.data.toList[0]'h0 = l[k] := by simp only [e, List.getElem_cons_zero]
  rw [← h2]; rfl
theorem At.short {l : List UInt8} {k : Nat} {ps : List (List UInt8)} (h : At l k ps) (hk : k < l.length) (h0 : (l[k]).toNat ≠ 0) (h3 : l.length < k + 1 + (l[k]).toNat) : Nm.sp l = none := by
  rw [h.2.2.2.2, Nm.drop_cons hk, Nm.sp_bad h0 (Or.inr (by simp; omega))]; rfl
theorem At.piece {l : List UInt8} {k : Nat} {t : ByteArray} (h : t.data.toList = l.drop k) (c : Nat) : Value.string (t.extract 1 (c + 1)) = sv ((l.drop (k + 1)).take c) := by
  rw [string_eq (extract_list t 1 (c + 1)), h, List.drop_drop]
  show Value.string _ = Value.string _
  rw [show c + 1 - 1 = c from by omega]
theorem At.left {l : List UInt8} {k : Nat} {t : ByteArray} (h : t.data.toList = l.drop k) (c : Nat) : (t.extract (c + 1) t.size).data.toList = l.drop (k + 1 + c) := by
  have hs : t.size = t.data.toList.length := by simp
  rw [extract_list, List.take_of_length_le (by rw [List.length_drop]; omega), h, List.drop_drop]
  congr 1; omega

def SplitPost (w : World) (o : Option (List (List UInt8))) (e : Ending) (w' : World) : Prop :=
  ∃ v, Below w.heap.size w w' ∧ match o with
    | none => e = .returned (.tuple #[v, .bool false])
    | some ls => e = .returned (.tuple #[v, .bool true]) ∧ w'.ownsRow w.heap.size 9 1 v ls.length (svs ls)

theorem split_no {w w' : World} {l : List UInt8} {v x : Value} (hb : Below w.heap.size w w') (hl : Nm.split l = none) (hx : x = .bool false) : SplitPost w (Nm.split l) (.returned (.tuple #[v, x])) w' := by
  rw [hl]; exact ⟨v, hb, by rw [hx]⟩
theorem split_yes {w w' : World} {l : List UInt8} {v x : Value} {ls : List (List UInt8)} (hb : Below w.heap.size w w') (hl : Nm.split l = some ls) (hx : x = .bool true) (ho : w'.ownsRow w.heap.size 9 1 v ls.length (svs ls)) : SplitPost w (Nm.split l) (.returned (.tuple #[v, x])) w' := by
  rw [hl]; exact ⟨v, hb, by rw [hx], ho⟩
theorem eqb_no {a b : Int} (h : a ≠ b) : Value.bool (a == b) = .bool false := by rw [beq_eq_false_iff_ne.2 h]
theorem eqb_yes {a b : Int} (h : a = b) : Value.bool (a == b) = .bool true := by rw [beq_iff_eq.2 h]

end Go.Proofs.YtopcklpmeaghmaaGreatDoor
/- Fold and the document's own answer to it: each byte in small letters. -/
namespace Go.Proofs.YtopcklpmeaghmaaGreatDoor
open Go.RowKit

-- the document's answer: []byte(s), each letter turned in place, and back.
def lowAt (l : List UInt8) (k j : Nat) : UInt8 := if j < k then Nm.small (l.getD j 0) else l.getD j 0
theorem lowAt_lt {l : List UInt8} {k j : Nat} (h : j < k) : lowAt l k j = Nm.small (l.getD j 0) := if_pos h
theorem lowAt_ge {l : List UInt8} {k j : Nat} (h : k ≤ j) : lowAt l k j = l.getD j 0 := if_neg (by omega)

end Go.Proofs.YtopcklpmeaghmaaGreatDoor
/- The document's answer on data: which fields a type has, and what data may be. -/
namespace Go.Proofs.YtopcklpmeaghmaaGreatDoor
open Go.RowKit

theorem rd_cons_of (t : ByteArray) (h : 0 < t.size) : t.data.toList = t[0] :: t.data.toList.drop 1 := by
  have h0 : 0 < t.data.toList.length := by simpa using h
  have e := List.drop_eq_getElem_cons (i := 0) h0
  rw [List.drop_zero] at e
  exact e
/-- what texts answers. -/
def TextsPost (w : World) (o : Option (List (List UInt8))) (e : Ending) (w' : World) : Prop :=
  ∃ v, Below w.heap.size w w' ∧ match o with
    | none => e = .returned (.tuple #[v, .bool false])
    | some ls => e = .returned (.tuple #[v, .bool (decide (0 < ls.length))]) ∧ w'.ownsRow w.heap.size 9 1 v ls.length (svs ls)
theorem texts_no {w w' : World} {l : List UInt8} {v : Value} (hb : Below w.heap.size w w') (h : Rd.tx l = none) : TextsPost w (Rd.tx l) (.returned (.tuple #[v, .bool false])) w' := by
  rw [h]; exact ⟨v, hb, rfl⟩
theorem texts_yes {w w' : World} {l : List UInt8} {v x : Value} {ls : List (List UInt8)} (hb : Below w.heap.size w w') (h : Rd.tx l = some ls) (hx : x = .bool (decide (0 < ls.length))) (ho : w'.ownsRow w.heap.size 9 1 v ls.length (svs ls)) : TextsPost w (Rd.tx l) (.returned (.tuple #[v, x])) w' := by
  rw [h]; exact ⟨v, hb, by rw [hx], ho⟩
end Go.Proofs.YtopcklpmeaghmaaGreatDoor
/- The document's answer on data: may they be? -/
namespace Go.Proofs.YtopcklpmeaghmaaGreatDoor
open Go.RowKit

theorem rd_strEmpty (s : ByteArray) : (s.toList == []) = (s.data.toList == []) := by
  have e0 : (⟨#[]⟩ : ByteArray).toList = [] := by kernel_rfl
  by_cases h : s.data.toList = []
  · obtain rfl : s = ⟨#[]⟩ := string_eq h
    rw [e0]
  · have h1 : (s.toList == (⟨#[]⟩ : ByteArray).toList) = false := by
      rw [← beq_toListBytes, Bool.eq_false_iff]
      intro hb
      have := (MapKept.bytes_beq _ _).1 hb
      subst this
      exact h rfl
    rw [e0] at h1
    rw [h1]
    cases hb : (s.data.toList == []) with
    | false => rfl
    | true => exact absurd (beq_iff_eq.1 hb) h

theorem raw16 (l : List UInt8) : Rd.rawOk 16 l = match Rd.tx l with | some (_ :: _) => decide (l.length ≤ 65535) | _ => false := rfl
end Go.Proofs.YtopcklpmeaghmaaGreatDoor
/- The document's answer on data: Check and Fold. -/
namespace Go.Proofs.YtopcklpmeaghmaaGreatDoor
open Go.RowKit

/-- data, as they come. -/
structure Dv where
  raw : ByteArray
  host : ByteArray
  mail : ByteArray
  n0 : Nat
  n1 : Nat
  n2 : Nat
  n3 : Nat
  n4 : Nat
namespace Dv
def val (d : Dv) : Value := .agg #[.string d.raw, .string d.host, .string d.mail, .int .u32 d.n0, .int .u32 d.n1, .int .u32 d.n2, .int .u32 d.n3, .int .u32 d.n4]
def cells (d : Dv) : Array Value := #[.string d.raw, .string d.host, .string d.mail, .int .u32 d.n0, .int .u32 d.n1, .int .u32 d.n2, .int .u32 d.n3, .int .u32 d.n4]
def dt (d : Dv) : Rd.Dt := ⟨d.raw.data.toList, d.host.data.toList, d.mail.data.toList, d.n0, d.n1, d.n2, d.n3, d.n4⟩
def n (d : Dv) : Nat → Nat
  | 0 => d.n0
  | 1 => d.n1
  | 2 => d.n2
  | 3 => d.n3
  | _ => d.n4
/-- its numbers are numbers. -/
def fits (d : Dv) : Prop := ∀ k, d.n k ≤ 4294967295
theorem cell_n (d : Dv) {k : Nat} (hk : k < 5) : d.cells[3 + k]? = some (.int .u32 (d.n k)) := by
  match k, hk with
  | 0, _ => rfl
  | 1, _ => rfl
  | 2, _ => rfl
  | 3, _ => rfl
  | 4, _ => rfl
end Dv
theorem dv_raw {W : World} {g : Nat} {d : Dv} {t : TypeId} (h : Has W g t d.cells) : W.cell? ⟨g, 0, none⟩ = some (.string d.raw) := by rw [h.cell]; rfl
theorem dv_host {W : World} {g : Nat} {d : Dv} {t : TypeId} (h : Has W g t d.cells) : W.cell? ⟨g, 1, none⟩ = some (.string d.host) := by rw [h.cell]; rfl
theorem dv_mail {W : World} {g : Nat} {d : Dv} {t : TypeId} (h : Has W g t d.cells) : W.cell? ⟨g, 2, none⟩ = some (.string d.mail) := by rw [h.cell]; rfl
theorem dv_n {W : World} {g k : Nat} {d : Dv} {t : TypeId} (h : Has W g t d.cells) (hk : k < 5) : W.cell? ⟨g, 3 + k, none⟩ = some (.int .u32 (d.n k : Nat)) := by rw [h.cell]; exact d.cell_n hk
namespace Rd
def head (t : Nat) (d : Dt) : Bool := rawOk t d.raw && (isHost t == nm d.host) && (isHost t || d.host == []) && (isMail t == nm d.mail) && (isMail t || d.mail == [])
theorem ok_eq (t : Nat) (d : Dt) : ok t d = (head t d && numOk t 0 d.n0 && numOk t 1 d.n1 && numOk t 2 d.n2 && numOk t 3 d.n3 && numOk t 4 d.n4) := rfl
theorem ok_head {t : Nat} {d : Dt} (h : head t d = false) : ok t d = false := by rw [ok_eq, h]; rfl
theorem ok_num {t : Nat} {d : Dv} {k : Nat} (hk : k < 5) (h : numOk t k (d.n k) = false) : ok t d.dt = false := by
  rw [ok_eq]
  match k, hk with
  | 0, _ => have h' : numOk t 0 d.n0 = false := h
            simp [Dv.dt, h']
  | 1, _ => have h' : numOk t 1 d.n1 = false := h
            simp [Dv.dt, h']
  | 2, _ => have h' : numOk t 2 d.n2 = false := h
            simp [Dv.dt, h']
  | 3, _ => have h' : numOk t 3 d.n3 = false := h
            simp [Dv.dt, h']
  | 4, _ => have h' : numOk t 4 d.n4 = false := h
            simp [Dv.dt, h']
theorem ok_all {t : Nat} {d : Dv} (h : head t d.dt = true) (hn : ∀ k, k < 5 → numOk t k (d.n k) = true) : ok t d.dt = true := by
  have h0 : numOk t 0 d.n0 = true := hn 0 (by omega)
  have h1 : numOk t 1 d.n1 = true := hn 1 (by omega)
  have h2 : numOk t 2 d.n2 = true := hn 2 (by omega)
  have h3 : numOk t 3 d.n3 = true := hn 3 (by omega)
  have h4 : numOk t 4 d.n4 = true := hn 4 (by omega)
  rw [ok_eq, h]
  simp [Dv.dt, h0, h1, h2, h3, h4]
theorem cnt_le (t : Nat) : cnt t ≤ 5 := by unfold cnt; split <;> (try split) <;> (try split) <;> omega
theorem bits_le (t : Nat) : bits t ≤ 32 := by unfold bits; split <;> (try split) <;> (try split) <;> omega
theorem num_in {t i x : Nat} (h : i < cnt t) : numOk t i x = !(bits t == 16 && decide (65535 < x)) := by unfold numOk; rw [if_pos h]
theorem num_out {t i x : Nat} (h : ¬ i < cnt t) : numOk t i x = (x == 0) := by unfold numOk; rw [if_neg h]
end Rd
end Go.Proofs.YtopcklpmeaghmaaGreatDoor
/- A text of bytes tells the bytes, a name's text the name: over plain lists. -/
namespace Go.Proofs.YtopcklpmeaghmaaGreatDoor.Nm

theorem dig_of {n : Nat} (h : n ≤ 9) : (UInt8.ofNat (48 + n)).toNat = 48 + n := by simp; omega
theorem esc1_split (q : Bool) (c : UInt8) (P : By → Prop) (h1 : ¬ dg c → P [92, c]) (h2 : c.toNat ≠ 92 → (q = false → c.toNat ≠ 46) → P [c])
    (h3 : ∀ d0 d1 d2, dg d0 → dg d1 → dg d2 → val3 d0 d1 d2 = c.toNat → P [92, d0, d1, d2]) : P (esc1 q c) := by
  have h8 := c.toNat_lt
  unfold esc1
  by_cases hm : mark q c = true
  · rw [if_pos hm]
    apply h1
    unfold dg
    simp [mark] at hm
    omega
  · rw [if_neg hm]
    by_cases hc : clear q c = true
    · rw [if_pos hc]
      simp [mark] at hm
      exact h2 (by omega) (fun hq => by subst hq; simp at hm; omega)
    · rw [if_neg hc]
      have a0 : (UInt8.ofNat (48 + c.toNat / 100)).toNat = 48 + c.toNat / 100 := dig_of (by omega)
      have a1 : (UInt8.ofNat (48 + c.toNat / 10 % 10)).toNat = 48 + c.toNat / 10 % 10 := dig_of (by omega)
      have a2 : (UInt8.ofNat (48 + c.toNat % 10)).toNat = 48 + c.toNat % 10 := dig_of (by omega)
      refine h3 _ _ _ ?_ ?_ ?_ ?_
      · unfold dg; omega
      · unfold dg; omega
      · unfold dg; omega
      · unfold val3; rw [a0, a1, a2]; omega
theorem unesc_esc1 (q : Bool) (c : UInt8) (r : By) : unesc (esc1 q c ++ r) = (unesc r).map (c :: ·) := by
  apply esc1_split q c (fun l => unesc (l ++ r) = (unesc r).map (c :: ·))
  · intro h
    show unesc (92 :: c :: r) = _
    rw [unesc_yes rfl (escd_plain h)]; rfl
  · intro h _
    show unesc (c :: r) = _
    rw [unesc_plain h]
  · intro d0 d1 d2 h0 h1 h2 hv
    have h8 := c.toNat_lt
    show unesc (92 :: d0 :: d1 :: d2 :: r) = _
    have he : escd (d0 :: d1 :: d2 :: r) = some (c, 3) := by
      rw [escd_three h0, if_pos ⟨h1, h2, by omega⟩, hv]
      simp
    rw [unesc_yes rfl he]; rfl
theorem unesc_esc_append (q : Bool) (l r : By) : unesc (esc q l ++ r) = (unesc r).map (l ++ ·) := by
  induction l with
  | nil => show unesc r = _; rcases unesc r <;> rfl
  | cons c l ih =>
    have e : esc q (c :: l) = esc1 q c ++ esc q l := rfl
    rw [e, List.append_assoc, unesc_esc1, ih]
    rcases unesc r <;> rfl
theorem unesc_esc (q : Bool) (l : By) : unesc (esc q l) = some l := by
  have := unesc_esc_append q l []
  rw [List.append_nil, unesc_nil] at this
  simpa using this
theorem dg_ne {d : UInt8} (h : dg d) : d.toNat ≠ 46 ∧ d.toNat ≠ 92 := by unfold dg at h; omega
theorem cutP_esc1 (c : UInt8) (t : By) : cutP (esc1 false c ++ t) = (esc1 false c ++ (cutP t).1, (cutP t).2) := by
  apply esc1_split false c (fun l => cutP (l ++ t) = (l ++ (cutP t).1, (cutP t).2))
  · intro _
    show cutP (92 :: c :: t) = _
    rw [cutP_back rfl]; rfl
  · intro h h2
    show cutP (c :: t) = _
    rw [cutP_plain (h2 rfl) h]; rfl
  · intro d0 d1 d2 h0 h1 h2 _
    show cutP (92 :: d0 :: d1 :: d2 :: t) = _
    rw [cutP_back rfl, cutP_plain (dg_ne h1).1 (dg_ne h1).2, cutP_plain (dg_ne h2).1 (dg_ne h2).2]; rfl
theorem cutP_esc (l t : By) : cutP (esc false l ++ 46 :: t) = (esc false l, t, true) := by
  induction l with
  | nil => show cutP (46 :: t) = _; rw [cutP_dot rfl]; rfl
  | cons c l ih =>
    have e : esc false (c :: l) = esc1 false c ++ esc false l := rfl
    rw [e, List.append_assoc, cutP_esc1, ih]
theorem textL_cons (l : By) (ls : List By) : textL (l :: ls) = esc false l ++ 46 :: textL ls := by simp [textL]
theorem textL_len0 {ls : List By} : (textL ls).length = 0 ↔ ls = [] := by
  cases ls with
  | nil => simp [textL]
  | cons l ls => rw [textL_cons]; simp
theorem pieces_text : ∀ ls : List By, ls ≠ [] → pieces (textL ls) = (ls.map (esc false), true)
  | [], h => absurd rfl h
  | [l], _ => by
    have hc : cutP (textL [l]) = (esc false l, [], true) := by rw [textL_cons]; exact cutP_esc l _
    rw [pieces_whole (by rw [hc]) (by rw [hc]; rfl), hc]; rfl
  | l :: m :: ls, _ => by
    have hc : cutP (textL (l :: m :: ls)) = (esc false l, textL (m :: ls), true) := by rw [textL_cons]; exact cutP_esc l _
    rw [pieces_more (by rw [hc]) (by rw [hc]; exact fun h => by have := textL_len0.1 h; cases this), hc]
    simp only [pieces_text (m :: ls) (by simp)]; rfl
theorem labelsP_esc_ok {ls : List By} (h : Good ls) : labelsP (ls.map (esc false)) = .ok ls := by
  induction ls with
  | nil => rfl
  | cons l ls ih =>
    have hl := h l (by simp)
    rw [List.map_cons]
    unfold labelsP
    rw [unesc_esc]
    simp only [if_pos hl, ih (fun x hx => h x (by simp [hx]))]
/-- a name's text tells the name. -/
theorem parse_text {n o : By} {ls os : List By} (hn : split n = some ls) (ho : split o = some os) : parse (text n) o = (n, 0) := by
  obtain ⟨hg, gl, hl⟩ := split_some.1 hn
  unfold parse text
  rw [hn, ho]
  cases ls with
  | nil => simp only []; rw [if_pos trivial, hg]; rfl
  | cons l ls =>
    have hne : textL (l :: ls) ≠ [46] := fun h => by
      have h1 := congrArg List.length h
      rw [textL_cons] at h1
      have hl1 := (gl l (by simp)).1
      cases l with
      | nil => simp at hl1
      | cons c l =>
        have e : esc false (c :: l) = esc1 false c ++ esc false l := rfl
        have := (esc1_len false c).1
        rw [e] at h1; simp at h1; omega
    simp only []
    rw [if_neg hne, pieces_text _ (by simp)]
    simp only [labelsP_esc_ok gl, if_true]
    rw [glueR, if_neg (by rw [hg, glue_length] at hl; omega), hg]
end Go.Proofs.YtopcklpmeaghmaaGreatDoor.Nm
/- Numbers and addresses as texts, there and back. Nothing of the program. -/
namespace Go.Proofs.YtopcklpmeaghmaaGreatDoor.Rd

/-- a digit to the base 10. -/
def isDig (c : UInt8) : Bool := decide (48 ≤ c.toNat) && decide (c.toNat ≤ 57)
def decV (s : By) : Nat := s.foldl (fun v c => 10 * v + (c.toNat - 48)) 0
theorem dig_dec {k : Nat} (h : k < 10) : (UInt8.ofNat (48 + k)).toNat = 48 + k := by simp; omega
theorem dec_digs (n : Nat) : (dec n).all isDig = true := by
  induction n using Nat.strongRecOn with
  | ind n ih =>
    by_cases h : n < 10
    · rw [dec_small h]
      simp only [List.all_cons, List.all_nil, Bool.and_true, isDig, dig_dec h, Bool.and_eq_true, decide_eq_true_eq]
      omega
    · rw [dec_more h, List.all_append, ih (n / 10) (by omega)]
      simp only [List.all_cons, List.all_nil, Bool.and_true, Bool.true_and, isDig, dig_dec (Nat.mod_lt n (by decide : 0 < 10)), Bool.and_eq_true, decide_eq_true_eq]
      omega
theorem dec_val (n : Nat) : decV (dec n) = n := by
  induction n using Nat.strongRecOn with
  | ind n ih =>
    by_cases h : n < 10
    · rw [dec_small h]
      simp only [decV, List.foldl_cons, List.foldl_nil, dig_dec h]
      omega
    · have := ih (n / 10) (by omega)
      rw [dec_more h]
      unfold decV at this ⊢
      rw [List.foldl_append, this]
      simp only [List.foldl_cons, List.foldl_nil, dig_dec (Nat.mod_lt n (by decide : 0 < 10))]
      omega
theorem dec_pos (n : Nat) : 0 < (dec n).length := by
  by_cases h : n < 10
  · rw [dec_small h]; simp
  · rw [dec_more h]; simp
theorem dec_head (n : Nat) (h : 1 < (dec n).length) : (dec n).head? ≠ some 48 := by
  induction n using Nat.strongRecOn with
  | ind n ih =>
    by_cases hn : n < 10
    · rw [dec_small hn] at h
      simp at h
    · rw [dec_more hn]
      have hp := dec_pos (n / 10)
      have hh : (dec (n / 10) ++ [UInt8.ofNat (48 + n % 10)]).head? = (dec (n / 10)).head? := by
        cases hd : dec (n / 10) with
        | nil => rw [hd] at hp; simp at hp
        | cons a r => rfl
      rw [hh]
      by_cases h2 : n / 10 < 10
      · rw [dec_small h2]
        intro e
        have e2 := congrArg UInt8.toNat (Option.some.inj e)
        rw [dig_dec h2] at e2
        have : (48 : UInt8).toNat = 48 := rfl
        omega
      · refine ih (n / 10) (by omega) ?_
        rw [dec_more h2]
        have := dec_pos (n / 10 / 10)
        simp
        omega
theorem dec_few (k : Nat) : ∀ n, n < 10 ^ (k + 1) → (dec n).length ≤ k + 1 := by
  induction k with
  | zero =>
    intro n h
    rw [dec_small (by simpa using h)]
    simp
  | succ k ih =>
    intro n h
    by_cases hn : n < 10
    · rw [dec_small hn]; simp
    · rw [dec_more hn]
      have := ih (n / 10) (by rw [Nat.pow_succ] at h; omega)
      simp
      omega
/-- a number's digits tell it. -/
theorem num_dec {n most : Nat} (h : n ≤ most) (h2 : most ≤ 4294967295) : num (dec n) most = some n := by
  have hl := dec_few 9 n (by omega)
  have hp := dec_pos n
  unfold num
  have hdg : (dec n).all (fun c => decide (48 ≤ c.toNat) && decide (c.toNat ≤ 57)) = true := dec_digs n
  rw [if_neg, if_pos hdg]
  · show (if most < decV (dec n) then none else some (decV (dec n))) = _
    rw [dec_val, if_neg (by omega)]
  · rintro (h3 | ⟨h3, h4⟩ | h3)
    · omega
    · exact dec_head n h3 h4
    · omega

/-- a digit to the base 16, and what it is worth. -/
def hexD (c : UInt8) : Option Nat := if 48 ≤ c.toNat ∧ c.toNat ≤ 57 then some (c.toNat - 48) else if 97 ≤ c.toNat ∧ c.toNat ≤ 102 then some (c.toNat - 87) else if 65 ≤ c.toNat ∧ c.toNat ≤ 70 then some (c.toNat - 55) else none
theorem hx_nat {k : Nat} (h : k < 16) : (hx k).toNat = if k < 10 then 48 + k else 87 + k := by
  unfold hx
  split <;> simp <;> omega
theorem hexD_hx {k : Nat} (h : k < 16) : hexD (hx k) = some k := by
  unfold hexD
  rw [hx_nat h]
  by_cases h2 : k < 10
  · rw [if_pos h2, if_pos (by omega)]
    congr 1
    omega
  · rw [if_neg h2, if_neg (by omega), if_pos (by omega)]
    congr 1
    omega
/-- a row of digits to the base 16. -/
def hexV (s : By) : Option Nat := s.foldl (fun v c => match v, hexD c with
  | some v, some d => some (16 * v + d)
  | _, _ => none) (some 0)
theorem hex_val (n : Nat) : hexV (hex n) = some n := by
  induction n using Nat.strongRecOn with
  | ind n ih =>
    by_cases h : n < 16
    · rw [hex_small h]
      simp only [hexV, List.foldl_cons, List.foldl_nil, hexD_hx h]
      simp
    · have := ih (n / 16) (by omega)
      rw [hex_more h]
      unfold hexV at this ⊢
      rw [List.foldl_append, this]
      simp only [List.foldl_cons, List.foldl_nil, hexD_hx (Nat.mod_lt n (by decide : 0 < 16))]
      congr 1
      omega
theorem hex_pos (n : Nat) : 0 < (hex n).length := by
  by_cases h : n < 16
  · rw [hex_small h]; simp
  · rw [hex_more h]; simp
theorem hex_few (k : Nat) : ∀ n, n < 16 ^ (k + 1) → (hex n).length ≤ k + 1 := by
  induction k with
  | zero =>
    intro n h
    rw [hex_small (by simpa using h)]
    simp
  | succ k ih =>
    intro n h
    by_cases hn : n < 16
    · rw [hex_small hn]; simp
    · rw [hex_more hn]
      have := ih (n / 16) (by rw [Nat.pow_succ] at h; omega)
      simp
      omega

/-- a text, cut at each byte that is this one. -/
def splitB (b : UInt8) : By → List By
  | [] => [[]]
  | c :: r => if c = b then [] :: splitB b r else match splitB b r with
    | [] => [[c]]
    | p :: ps => (c :: p) :: ps
theorem splitB_no {b : UInt8} : ∀ {s : By}, (∀ c ∈ s, c ≠ b) → splitB b s = [s]
  | [], _ => rfl
  | c :: r, h => by rw [splitB, if_neg (h c (by simp)), splitB_no (fun x hx => h x (by simp [hx]))]
theorem splitB_cons {b : UInt8} (t : By) : ∀ {s : By}, (∀ c ∈ s, c ≠ b) → splitB b (s ++ b :: t) = s :: splitB b t
  | [], _ => by rw [List.nil_append, splitB, if_pos rfl]
  | c :: r, h => by rw [List.cons_append, splitB, if_neg (h c (by simp)), splitB_cons t (fun x hx => h x (by simp [hx]))]
/-- pieces with a byte between. -/
def joinB (b : UInt8) : List By → By
  | [] => []
  | [p] => p
  | p :: q :: r => p ++ b :: joinB b (q :: r)
theorem split_join {b : UInt8} : ∀ {ps : List By}, ps ≠ [] → (∀ p ∈ ps, ∀ c ∈ p, c ≠ b) → splitB b (joinB b ps) = ps
  | [], h, _ => absurd rfl h
  | [p], _, h => by rw [joinB, splitB_no (h p (by simp))]
  | p :: q :: r, _, h => by rw [joinB, splitB_cons _ (h p (by simp)), split_join (by simp) (fun x hx => h x (by simp [hx]))]
end Go.Proofs.YtopcklpmeaghmaaGreatDoor.Rd
/- A text of words, cut at the blanks that are not in quotes. Nothing of the program. -/
namespace Go.Proofs.YtopcklpmeaghmaaGreatDoor.Rd

/-- how many bytes a word takes, up to a byte that ends it: a backslash takes the byte behind it along. -/
def scan (e : UInt8) : By → Nat
  | [] => 0
  | [c] => if c = e then 0 else 1
  | c :: d :: r => if c = e then 0 else if c = 92 then 2 + scan e r else 1 + scan e (d :: r)
theorem scan_plain {e c : UInt8} {r : By} (h : c ≠ e) (h2 : c ≠ 92) : scan e (c :: r) = 1 + scan e r := by
  cases r with
  | nil => simp [scan, h]
  | cons d r => rw [scan, if_neg h, if_neg h2]
theorem scan_back {e d : UInt8} {r : By} (h : e ≠ 92) : scan e (92 :: d :: r) = 2 + scan e r := by
  rw [scan, if_neg (fun x => h x.symm), if_pos rfl]
theorem scan_end {e : UInt8} {r : By} : scan e (e :: r) = 0 := by
  cases r with
  | nil => rw [scan, if_pos rfl]
  | cons d r => rw [scan, if_pos rfl]
/-- a word without its end in it. -/
def Whole (e : UInt8) (p : By) : Prop := ∀ t, scan e (p ++ t) = p.length + scan e t
theorem Whole.nil (e : UInt8) : Whole e [] := fun t => by simp
theorem Whole.app {e : UInt8} {p q : By} (h : Whole e p) (h2 : Whole e q) : Whole e (p ++ q) := fun t => by
  rw [List.append_assoc, h, h2, List.length_append]
  omega
theorem Whole.one {e c : UInt8} (h : c ≠ e) (h2 : c ≠ 92) : Whole e [c] := fun t => by
  rw [List.cons_append, List.nil_append, scan_plain h h2]
  rfl
theorem Whole.back {e d : UInt8} (h : e ≠ 92) : Whole e [92, d] := fun t => by
  rw [List.cons_append, List.cons_append, List.nil_append, scan_back h]
  rfl
theorem Whole.all {e : UInt8} : ∀ {p : By}, (∀ c ∈ p, c ≠ e ∧ c ≠ 92) → Whole e p
  | [], _ => Whole.nil e
  | c :: r, h => (Whole.one (h c (by simp)).1 (h c (by simp)).2).app (Whole.all (p := r) (fun x hx => h x (by simp [hx])))
theorem Whole.flat {α : Type} {e : UInt8} {f : α → By} : ∀ {l : List α}, (∀ x ∈ l, Whole e (f x)) → Whole e (l.flatMap f)
  | [], _ => Whole.nil e
  | a :: r, h => by
    rw [List.flatMap_cons]
    exact (h a (by simp)).app (Whole.flat (fun x hx => h x (by simp [hx])))
theorem esc1_whole (q : Bool) (c : UInt8) : Whole (if q then 34 else 32) (Nm.esc1 q c) := by
  have h8 := c.toNat_lt
  unfold Nm.esc1
  by_cases hm : Nm.mark q c = true
  · rw [if_pos hm]
    exact Whole.back (by cases q <;> decide)
  · rw [if_neg hm]
    by_cases hc : Nm.clear q c = true
    · rw [if_pos hc]
      refine Whole.one (fun e => ?_) (fun e => ?_)
      · subst e
        cases q
        · exact absurd hc (by decide)
        · exact absurd (by decide) hm
      · subst e
        exact absurd (by cases q <;> decide) hm
    · rw [if_neg hc]
      have a0 : (UInt8.ofNat (48 + c.toNat / 100)).toNat = 48 + c.toNat / 100 := Nm.dig_of (by omega)
      have a1 : (UInt8.ofNat (48 + c.toNat / 10 % 10)).toNat = 48 + c.toNat / 10 % 10 := Nm.dig_of (by omega)
      have a2 : (UInt8.ofNat (48 + c.toNat % 10)).toNat = 48 + c.toNat % 10 := Nm.dig_of (by omega)
      have hne : ∀ x : UInt8, 48 ≤ x.toNat → x.toNat ≤ 57 → x ≠ (if q then 34 else 32) ∧ x ≠ 92 := fun x h1 h2 => by
        refine ⟨fun e => ?_, fun e => ?_⟩
        · rw [e] at h1
          cases q
          · exact absurd h1 (by decide)
          · exact absurd h1 (by decide)
        · rw [e] at h2
          exact absurd h2 (by decide)
      have e : (92 :: Nm.dig3 c) = [92, UInt8.ofNat (48 + c.toNat / 100)] ++ [UInt8.ofNat (48 + c.toNat / 10 % 10), UInt8.ofNat (48 + c.toNat % 10)] := rfl
      rw [e]
      refine (Whole.back (by cases q <;> decide)).app (Whole.all fun x hx => ?_)
      simp only [List.mem_cons, List.not_mem_nil, or_false] at hx
      rcases hx with rfl | rfl
      · exact hne _ (by omega) (by omega)
      · exact hne _ (by omega) (by omega)
theorem esc_whole (q : Bool) (l : By) : Whole (if q then 34 else 32) (Nm.esc q l) := Whole.flat fun c _ => esc1_whole q c

/-- the words. -/
def cutF : Nat → By → List (By × Bool)
  | 0, _ => []
  | _ + 1, [] => []
  | n + 1, c :: r => if c = 32 then cutF n r
    else if c = 34 then (r.take (scan 34 r), true) :: cutF n (r.drop (scan 34 r + 1))
    else ((c :: r).take (scan 32 (c :: r)), false) :: cutF n ((c :: r).drop (scan 32 (c :: r) + 1))
theorem cutF_fuel : ∀ (n m : Nat) (l : By), l.length ≤ n → l.length ≤ m → cutF n l = cutF m l := by
  intro n
  induction n with
  | zero =>
    intro m l h _
    obtain rfl : l = [] := List.eq_nil_of_length_eq_zero (by omega)
    cases m <;> rfl
  | succ n ih =>
    intro m l h1 h2
    cases l with
    | nil => cases m <;> rfl
    | cons c r =>
      obtain ⟨m, rfl⟩ : ∃ k, m = k + 1 := ⟨m - 1, by simp at h2; omega⟩
      simp only [List.length_cons] at h1 h2
      rw [cutF, cutF]
      split
      · exact ih m _ (by omega) (by omega)
      split
      · rw [ih m _ (by simp; omega) (by simp; omega)]
      · rw [ih m _ (by simp; omega) (by simp; omega)]
def cutW (l : By) : List (By × Bool) := cutF l.length l
theorem cutF_cutW {n : Nat} {l : By} (h : l.length ≤ n) : cutF n l = cutW l := cutF_fuel _ _ _ h (Nat.le_refl _)
theorem cutW_nil : cutW [] = [] := rfl
theorem cutW_blank (r : By) : cutW (32 :: r) = cutW r := by
  conv => lhs; unfold cutW
  rw [List.length_cons, cutF, if_pos rfl, cutF_cutW (Nat.le_refl _)]
/-- a word as it stands in a text: with quotes, or without. -/
def wdB (x : By × Bool) : By := if x.2 then 34 :: x.1 ++ [34] else x.1
/-- a word that is told as it is. -/
def Good (x : By × Bool) : Prop := if x.2 then Whole 34 x.1 else Whole 32 x.1 ∧ ∃ c r, x.1 = c :: r ∧ c ≠ 32 ∧ c ≠ 34
theorem cutW_word {x : By × Bool} (h : Good x) (t : By) (ht : t = [] ∨ ∃ r, t = 32 :: r) : cutW (wdB x ++ t) = x :: cutW t := by
  obtain ⟨p, q⟩ := x
  cases q with
  | true =>
    have hw : Whole 34 p := h
    have e : wdB (p, true) ++ t = 34 :: (p ++ 34 :: t) := by simp [wdB]
    have hs : scan 34 (p ++ 34 :: t) = p.length := by rw [hw, scan_end]; rfl
    rw [e]
    conv => lhs; unfold cutW
    rw [List.length_cons, cutF, if_neg (by decide), if_pos rfl, hs, List.take_left, cutF_cutW (by simp; omega)]
    congr 2
    rw [← List.drop_drop, List.drop_left]
    rfl
  | false =>
    obtain ⟨hw, c, r, hp, h1, h2⟩ : Whole 32 p ∧ ∃ c r, p = c :: r ∧ c ≠ 32 ∧ c ≠ 34 := h
    have hs : scan 32 (p ++ t) = p.length := by
      rw [hw]
      rcases ht with rfl | ⟨r, rfl⟩
      · rfl
      · rw [scan_end]; rfl
    have e : wdB (p, false) ++ t = p ++ t := rfl
    rw [e]
    have hd : cutW ((p ++ t).drop (p.length + 1)) = cutW t := by
      rw [← List.drop_drop, List.drop_left]
      rcases ht with rfl | ⟨r, rfl⟩
      · rfl
      · rw [cutW_blank]; rfl
    conv => lhs; unfold cutW
    have hl : (p ++ t).length = (r ++ t).length + 1 := by rw [hp]; rfl
    have hpt : p ++ t = c :: (r ++ t) := by rw [hp]; rfl
    rw [hl]
    have step : cutF ((r ++ t).length + 1) (p ++ t) = ((p ++ t).take (scan 32 (p ++ t)), false) :: cutF (r ++ t).length ((p ++ t).drop (scan 32 (p ++ t) + 1)) := by
      rw [hpt, cutF, if_neg h1, if_neg h2]
    rw [step, hs, List.take_left, cutF_cutW (by rw [List.length_drop]; omega), hd]
/-- words with a blank between are cut as they were. -/
theorem cutW_words : ∀ {xs : List (By × Bool)}, (∀ x ∈ xs, Good x) → cutW (joinB 32 (xs.map wdB)) = xs
  | [], _ => rfl
  | [x], h => by
    have := cutW_word (h x (by simp)) [] (.inl rfl)
    rw [List.append_nil] at this
    exact this
  | x :: y :: r, h => by
    rw [List.map_cons, List.map_cons, joinB, cutW_word (h x (by simp)) _ (.inr ⟨_, rfl⟩), cutW_blank, ← List.map_cons, cutW_words (xs := y :: r) (fun z hz => h z (by simp [hz]))]
end Go.Proofs.YtopcklpmeaghmaaGreatDoor.Rd
