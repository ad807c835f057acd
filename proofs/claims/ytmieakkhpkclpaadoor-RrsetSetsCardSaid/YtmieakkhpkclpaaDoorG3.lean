/- Texts of the proofs, merged. -/
import Derived.Test.YtmieakkhpkclpaaDoorG2
import Derived.Test.YtmieakkhpkclpaaDoorG1
/- A name's labels, how many, whether it is one: the program's answers. -/
namespace Go.Proofs.YtmieakkhpkclpaaDoor
open Go.RowKit

set_option maxHeartbeats 400000 in
set_option maxRecDepth 100000 in
theorem label_any (s : ByteArray) (g i : Nat) (ls : List (List UInt8)) (w : World) (h : Has w g 108 (marksV ls)) (hn : Nm.split s.data.toList = some ls) (hi : i < ls.length) :
    Calls Tryd.prog 84 #[.pointer (some ⟨g, 0, none⟩), .string s, .int .i64 i] w fun e w' => e = .returned (sv ls[i]) ∧ ∃ n, w' = w.drewN n := by
  obtain ⟨hl, hg, h255⟩ := Nm.split_some.1 hn
  have hlen : (Nm.glue ls).length = s.size := by rw [← hl]; simp
  have hcut : sv ls[i] = .string (s.extract ((Nm.body (ls.take i)).length + 1) (Nm.body (ls.take (i + 1))).length) := by
    unfold sv
    rw [← string_eq (s := s.extract _ _)]
    rw [extract_list, hl, Nm.label_cut hi]
  have hcnt := Nm.good_count hg
  have hbl := Nm.glue_length ls
  have h255' : s.size ≤ 255 := by simpa using h255
  have c1 : w.cell? ⟨g, i, none⟩ = some (.int .u8 ((Nm.body (ls.take i)).length : Nat)) := by rw [h.cell]; exact mkc_at _ _ _ (Nm.offs_get ls i (by omega))
  have c2 : w.cell? ⟨g, i + 1, none⟩ = some (.int .u8 ((Nm.body (ls.take (i + 1))).length : Nat)) := by rw [h.cell]; exact mkc_at _ _ _ (Nm.offs_get ls (i + 1) (by omega))
  have hts := Nm.take_succ_body hi
  have hle := Nm.body_take_le (ls := ls) (i := i + 1)
  have hi' : i + 1 ≤ 127 := by omega
  have hb1 : (Nm.body (ls.take i)).length + 1 ≤ (Nm.body (ls.take (i + 1))).length := by omega
  have hb2 : (Nm.body (ls.take (i + 1))).length + 1 ≤ s.size := by omega
  rw [hcut]
  clear hcut hl hg h255 hn hlen hcnt hbl hts hle h
  generalize (Nm.body (ls.take (i + 1))).length = b at *
  generalize (Nm.body (ls.take i)).length = a at *
  go_enter Tryd.func84, Tryd.ntmps84
  go_wp2
  go_quiet (fail)
  go_wp2
  go_ret
  exact ⟨rfl, _, rfl⟩

theorem marks_none (s : ByteArray) (w : World) (hs : s.size ≤ 140737488355328) (h : Nm.split s.data.toList = none) :
    Calls Tryd.prog 82 #[.string s] w fun e w' => e = .returned (.tuple #[.agg (mkc [] 0), .bool false]) ∧ Below w.heap.size w w' :=
  (marksOf_any s w hs).mono fun _ _ ⟨he, hb⟩ => ⟨by rw [he, marksR_none h], hb⟩
theorem marks_some (s : ByteArray) (ls : List (List UInt8)) (w : World) (hs : s.size ≤ 140737488355328) (h : Nm.split s.data.toList = some ls) :
    Calls Tryd.prog 82 #[.string s] w fun e w' => e = .returned (.tuple #[.agg (marksV ls), .bool true]) ∧ Below w.heap.size w w' :=
  (marksOf_any s w hs).mono fun _ _ ⟨he, hb⟩ => ⟨by rw [he, marksR_some h], hb⟩
theorem few {l : List UInt8} {ls : List (List UInt8)} (h : Nm.split l = some ls) : ls.length ≤ 127 := by
  obtain ⟨hl, hg, h255⟩ := Nm.split_some.1 h
  have := Nm.good_count hg
  have := Nm.glue_length ls
  rw [hl] at h255
  omega

/-- what is in a new block of marks behind the store of these. -/
theorem marks_stored {w w1 : World} {os : List Nat} {c : Nat} (hb : Below w.heap.size w w1) :
    Has ((w1.alloc (.cells Tryd.zeroCells108 108)).setRow w1.heap.size (mkc os c)) w1.heap.size 108 (mkc os c) ∧ Below w.heap.size w ((w1.alloc (.cells Tryd.zeroCells108 108)).setRow w1.heap.size (mkc os c)) :=
  ⟨(Has.fresh w1 _ _).row _, below_setRow (hb.alloc hb.size _) hb.size _⟩

/-- its labels; none of what is no name. -/
def labelsOf (l : List UInt8) : List (List UInt8) := (Nm.split l).getD []

end Go.Proofs.YtmieakkhpkclpaaDoor
/- The document's answer: a name's labels (Split, Labels). -/
namespace Go.Proofs.YtmieakkhpkclpaaDoor
open Go.RowKit

theorem At.cut {l : List UInt8} {k : Nat} {ps : List (List UInt8)} {t : ByteArray} (h : t.data.toList = l.drop k) (hk : k < l.length) (_ : At l k ps) : ∃ h0 : 0 < t.size, t[0] = l[k] := by
  have hs : t.size = l.length - k := by have := congrArg List.length h; simpa using this
  refine ⟨by omega, ?_⟩
  have e : t.data.toList = l[k] :: l.drop (k + 1) := by rw [h]; exact Nm.drop_cons hk
  have h0 : 0 < t.data.toList.length := by rw [e, List.length_cons]; omega
  have h2 : t.data.toList[0]'h0 = l[k] := by simp only [e, List.getElem_cons_zero]
  rw [← h2]; rfl
theorem At.short {l : List UInt8} {k : Nat} {ps : List (List UInt8)} (h : At l k ps) (hk : k < l.length) (h0 : (l[k]).toNat ≠ 0) (h3 : l.length < k + 1 + (l[k]).toNat) : Nm.sp l = none := by
  rw [h.2.2.2.2, Nm.drop_cons hk, Nm.sp_bad h0 (Or.inr (by simp; omega))]; rfl
theorem At.piece {l : List UInt8} {k : Nat} {t : ByteArray} (h : t.data.toList = l.drop k) (c : Nat) : Value.string (t.extract 1 (c + 1)) = sv ((l.drop (k + 1)).take c) := by
  rw [string_eq (extract_list t 1 (c + 1)), h, List.drop_drop]
  show Value.string _ = Value.string _
  rw [show c + 1 - 1 = c from by omega]
theorem At.left {l : List UInt8} {k : Nat} {t : ByteArray} (h : t.data.toList = l.drop k) (c : Nat) : (t.extract (c + 1) t.size).data.toList = l.drop (k + 1 + c) := by
  have hs : t.size = t.data.toList.length := by simp
  rw [extract_list, List.take_of_length_le (by rw [List.length_drop]; omega), h, List.drop_drop]
  congr 1; omega

def SplitPost (w : World) (o : Option (List (List UInt8))) (e : Ending) (w' : World) : Prop :=
  ∃ v, Below w.heap.size w w' ∧ match o with
    | none => e = .returned (.tuple #[v, .bool false])
    | some ls => e = .returned (.tuple #[v, .bool true]) ∧ w'.ownsRow w.heap.size 9 1 v ls.length (svs ls)

theorem split_no {w w' : World} {l : List UInt8} {v x : Value} (hb : Below w.heap.size w w') (hl : Nm.split l = none) (hx : x = .bool false) : SplitPost w (Nm.split l) (.returned (.tuple #[v, x])) w' := by
  rw [hl]; exact ⟨v, hb, by rw [hx]⟩
theorem split_yes {w w' : World} {l : List UInt8} {v x : Value} {ls : List (List UInt8)} (hb : Below w.heap.size w w') (hl : Nm.split l = some ls) (hx : x = .bool true) (ho : w'.ownsRow w.heap.size 9 1 v ls.length (svs ls)) : SplitPost w (Nm.split l) (.returned (.tuple #[v, x])) w' := by
  rw [hl]; exact ⟨v, hb, by rw [hx], ho⟩
theorem eqb_no {a b : Int} (h : a ≠ b) : Value.bool (a == b) = .bool false := by rw [beq_eq_false_iff_ne.2 h]
theorem eqb_yes {a b : Int} (h : a = b) : Value.bool (a == b) = .bool true := by rw [beq_iff_eq.2 h]

set_option maxHeartbeats 1000000 in
set_option maxRecDepth 100000 in
theorem Split_any (s : ByteArray) (w : World) (_ : s.size ≤ 140737488355328) :
    Calls Tryd.prog 99 #[.string s] w (SplitPost w (Nm.split s.data.toList)) := by
  obtain ⟨i0, hi, hz0, hz1, hz2⟩ := info_parts Tryd.infoString
  by_cases hbig : s.size ≤ 255
  · have hsz : s.data.toList.length = s.size := by simp
    have hsp : Nm.split s.data.toList = Nm.sp s.data.toList := Nm.split_of_sp (by rw [hsz]; exact hbig)
    have HSZ := Lib.hid hsz
    have HSP := Lib.hid hsp
    clear hsz hsp
    go_enter Tryd.func99, Tryd.ntmps99
    go_wp2
    go_loopw [4, 5] (fun v t wr => ∃ k ps, ∃ t' : ByteArray, t = .string t' ∧ t'.data.toList = s.data.toList.drop k ∧ At s.data.toList k ps ∧ wr.ownsRow w.heap.size 9 1 v ps.length (svs ps) ∧ Below w.heap.size w wr) (fun _ t _ => match t with | .string t' => t'.size | _ => 0)
    case atStart => exact ⟨0, [], s, rfl, rfl, At.zero _, World.ownsRow_nil _ _ _ _, Below.refl _ _⟩
    case round =>
      obtain ⟨k, ps, t, rfl, ht, hat, hown, hbel⟩ := hrel
      have hk := hat.1
      rw [HSZ.out] at hk
      have hfew := (hat.few (by rw [HSZ.out]; exact hbig)).2
      have hts : t.size + k = s.size := by have h := congrArg List.length ht; simp at h; omega
      have hts1 : t.size + k ≤ s.size := by omega
      have hts2 : s.size ≤ t.size + k := by omega
      have HT := Lib.hid ht
      have AT := Lib.hid hat
      have HW := Lib.hid hown
      have HB := Lib.hid hbel
      have hbs := hbel.size
      clear ht hat hown hbel hts
      by_cases hlt : k < s.size
      · obtain ⟨hpos, hc0⟩ := AT.out.cut HT.out (by rw [HSZ.out]; exact hlt)
        have HC0 := Lib.hid hc0
        clear hc0
        have h8 : t[0].toNat < 256 := t[0].toNat_lt
        by_cases h0 : t[0].toNat = 0
        · go_wp2
          go_ret2
          by_cases h1 : k + 1 < s.size
          · exact split_no HB.out (by rw [HSP.out]; exact AT.out.early (by rw [HSZ.out]; exact h1) (by rw [← HC0.out]; exact h0)) (eqb_no (by omega))
          · exact split_yes HB.out (by rw [HSP.out]; exact AT.out.done (by rw [HSZ.out]; omega) (by rw [← HC0.out]; exact h0)) (eqb_yes (by omega)) HW.out
        · have hne : ((t[0].toNat : Int) == 0) = false := beq_eq_false_iff_ne.2 (by omega)
          by_cases h63 : 63 < t[0].toNat
          · go_wp2
            go_ret2
            exact split_no HB.out (by rw [HSP.out]; exact AT.out.bad (by rw [HSZ.out]; exact hlt) (by rw [← HC0.out]; exact h63)) rfl
          · by_cases hsh : t.size < 1 + t[0].toNat
            · go_wp2
              go_ret2
              exact split_no HB.out (by rw [HSP.out]; exact AT.out.short (by rw [HSZ.out]; exact hlt) (by rw [← HC0.out]; exact h0) (by rw [← HC0.out, HSZ.out]; omega)) rfl
            · have HST := Lib.hid ((AT.out.step (c := t[0]) (by rw [HSZ.out]; exact hlt) HC0.out.symm h0 (by omega) (by rw [HSZ.out]; exact hbig)).resolve_right (fun h => by have := h.1; rw [HSZ.out] at this; omega))
              have HP := Lib.hid (At.piece HT.out t[0].toNat)
              have HL := Lib.hid (At.left HT.out t[0].toNat)
              go_wp2_with (at_builtin; refine wpList_append_own _ rfl (.tmp 32) (.tmp 37) _ rfl w.heap.size 9 i0 _ 1 16 Tryd.underlying129 hi hz0 hz1 hz2 rfl (by decide) _ ps.length (svs ps) rfl (HW.out.alloc _) ⟨wr.heap.size, 0, none⟩ 1 1 [sv ((s.data.toList.drop (k + 1)).take t[0].toNat)] rfl rfl ?c1 ?c2 ?c3 ?c4 ?c5 (fun v' w4 hown1 hg1 _ => ?_))
              case c1 => rw [← HP.out]; exact cell_one_new _ _ _
              case c2 => simp [Value.oneCell']
              case c3 => unfold maxLen; omega
              case c4 => omega
              case c5 => simp; omega
              go_roundw
              case rel =>
                refine ⟨k + 1 + t[0].toNat, ps ++ [(s.data.toList.drop (k + 1)).take t[0].toNat], _, rfl, HL.out, HST.out, ?_, (HB.out.alloc hbs _).grown hg1 (by simp; omega) (fun j hj => (HW.out.lt j hj).1)⟩
                rw [List.length_append, svs_append]; exact hown1
              case measure => simp; omega
      · obtain rfl : k = s.size := by omega
        go_wp2
        go_ret2
        exact split_no HB.out (by rw [HSP.out]; have := AT.out; rw [← HSZ.out] at this; exact this.endless) rfl
  · go_enter Tryd.func99, Tryd.ntmps99
    go_wp2
    go_ret2
    exact split_no (Below.refl _ _) (Nm.split_long (by simpa using hbig)) rfl
end Go.Proofs.YtmieakkhpkclpaaDoor
/- Fold and the document's own answer to it: each byte in small letters. -/
namespace Go.Proofs.YtmieakkhpkclpaaDoor
open Go.RowKit

set_option maxHeartbeats 400000 in
set_option maxRecDepth 100000 in
theorem each_fold (s : ByteArray) (w : World) (hs : s.size ≤ 140737488355328) :
    Calls Tryd.prog 64 #[.string s, .func (.func 65) #[] #[]] w fun e w' => e = .returned (.string ⟨(Nm.fold s.data.toList).toArray⟩) ∧ Below w.heap.size w w' := by
  obtain ⟨i0, hi, hz0, hz1, hz2⟩ := info_parts Tryd.infoByte
  go_enter Tryd.func64, Tryd.ntmps64
  go_wp2_with (first | (at_make; refine wpList_make_own _ rfl _ _ 89 rfl w.heap.size 5 i0 _ 1 Tryd.underlying89 hi hz0 hz1 .i64 .i64 s.size s.size rfl rfl rfl (by rw [hz2]; omega) (by unfold maxLen; omega) (Nat.le_refl _) ?_; intro w1 hown1 hg1))
  go_loopw [5, 12] (fun v i wr => ∃ k : Nat, k ≤ s.size ∧ i = .int .i64 k ∧ wr.ownsRow w.heap.size 5 1 v k (bv ((s.data.toList.take k).map Nm.small)) ∧ Below w.heap.size w wr) (fun _ i _ => s.size - (intOf i).toNat)
  case atStart => exact ⟨0, Nat.zero_le _, rfl, by simpa [bv] using hown1, (Below.refl _ _).grown hg1 (Nat.le_refl _) (by simp)⟩
  case round =>
    obtain ⟨k, hk, rfl, hown, hb⟩ := hrel
    have HO := Lib.hid hown
    have HB := Lib.hid hb
    have hbs := hb.size
    clear hown hb
    by_cases hlt : k < s.size
    · go_wp2_with (first | (go_at_call 65; refine (fold1_any w.heap.size _ k _ s[k] _ hbs HO.out (by omega)).mono ?_; rintro e w2 ⟨v', rfl, hown', hb'⟩))
      go_roundw
      case rel => exact ⟨k + 1, by omega, by go_num, by rw [bv_take_succ s _ k hlt]; exact hown', HB.out.trans hb'⟩
      case measure => simp [intOf]; omega
    · obtain rfl : k = s.size := by omega
      have HO' : Hid (wr.ownsRow w.heap.size 5 1 u5 s.size (bv (Nm.fold s.data.toList))) := by
        have := HO.out
        rw [List.take_of_length_le (by simp)] at this
        exact this
      clear HO
      go_wp2_with (refine wpList_convert_own _ rfl 89 9 (.tmp 22) rfl 5 Tryd.underlying89 Tryd.underlying5 Tryd.underlying9 w.heap.size s.size _ (Nm.fold s.data.toList) rfl HO'.out ?_)
      go_ret
      exact ⟨rfl, HB.out⟩

theorem Fold_any (s : ByteArray) (w : World) (hs : s.size ≤ 140737488355328) :
    Calls Tryd.prog 40 #[.string s] w fun e w' => e = .returned (.string ⟨(Nm.fold s.data.toList).toArray⟩) ∧ Below w.heap.size w w' := by
  go_enter Tryd.func40, Tryd.ntmps40
  go_wp2_with (first | (go_at_call 64; refine (each_fold s _ hs).mono ?_; rintro e w1 ⟨rfl, hb1⟩))
  go_ret
  exact ⟨rfl, hb1⟩

-- the document's answer: []byte(s), each letter turned in place, and back.
def lowAt (l : List UInt8) (k j : Nat) : UInt8 := if j < k then Nm.small (l.getD j 0) else l.getD j 0
theorem lowAt_lt {l : List UInt8} {k j : Nat} (h : j < k) : lowAt l k j = Nm.small (l.getD j 0) := if_pos h
theorem lowAt_ge {l : List UInt8} {k j : Nat} (h : k ≤ j) : lowAt l k j = l.getD j 0 := if_neg (by omega)

set_option maxHeartbeats 400000 in
set_option maxRecDepth 100000 in
theorem Low_any (s : ByteArray) (w : World) (hs : s.size ≤ 140737488355328) :
    Calls Tryd.prog 62 #[.string s] w fun e w' => e = .returned (.string ⟨(Nm.fold s.data.toList).toArray⟩) ∧ Below w.heap.size w w' := by
  go_enter Tryd.func62, Tryd.ntmps62
  have kc := fun (w : World) => run_bytes_of_string (P := Tryd.prog) w 9 89 5 s Tryd.underlying9 Tryd.underlying89 Tryd.underlying5
  go_wp2
  have hcell : ∀ j, j < s.size → (w.alloc (.cells (bytesRow s (grownCap w s.size 0 5)) 5 ((bytesRow s (grownCap w s.size 0 5)).size, (bytesRow s (grownCap w s.size 0 5)).size + 1))).drew.cell? ⟨w.heap.size, j, none⟩ = some (.int .u8 ((lowAt s.data.toList 0 j).toNat : Int)) := by
    intro j hj
    show (w.alloc _).cell? _ = _
    rw [World.cell?_alloc_mark, bytesRow_at s _ j hj, lowAt_ge (Nat.zero_le _)]
    simp [List.getD, hj]
  have hsz : s.size ≤ (bytesRow s (grownCap w s.size 0 5)).size := by simp [bytesRow]
  have hfree : ∀ j, j < s.size → (w.alloc (.cells (bytesRow s (grownCap w s.size 0 5)) 5 ((bytesRow s (grownCap w s.size 0 5)).size, (bytesRow s (grownCap w s.size 0 5)).size + 1))).drew.frozen? ⟨w.heap.size, j, none⟩ = false := by
    intro j hj
    show (w.alloc _).frozen? _ = _
    rw [World.frozen?_alloc_mark, decide_eq_false (by omega)]; rfl
  have hb0 : Below w.heap.size w (w.alloc (.cells (bytesRow s (grownCap w s.size 0 5)) 5 ((bytesRow s (grownCap w s.size 0 5)).size, (bytesRow s (grownCap w s.size 0 5)).size + 1))).drew := ((Below.refl _ _).alloc (Nat.le_refl _) _).drew
  generalize (w.alloc (.cells (bytesRow s (grownCap w s.size 0 5)) 5 ((bytesRow s (grownCap w s.size 0 5)).size, (bytesRow s (grownCap w s.size 0 5)).size + 1))).drew = w1 at *
  generalize grownCap w s.size 0 5 = cap
  have HC := Lib.hid hcell
  have HF := Lib.hid hfree
  clear hcell hfree hsz
  go_loopw [4] (fun i wr => ∃ k : Nat, k ≤ s.size ∧ i = .int .i64 k ∧ (∀ j, j < s.size → wr.cell? ⟨w.heap.size, j, none⟩ = some (.int .u8 ((lowAt s.data.toList k j).toNat : Int))) ∧ (∀ j, j < s.size → wr.frozen? ⟨w.heap.size, j, none⟩ = false) ∧ Below w.heap.size w wr) (fun i _ => s.size - (intOf i).toNat)
  case atStart => exact ⟨0, Nat.zero_le _, rfl, HC.out, HF.out, hb0⟩
  case round =>
    obtain ⟨k, hk, rfl, hc, hf, hb⟩ := hrel
    have HC := Lib.hid hc
    have HF := Lib.hid hf
    have HB := Lib.hid hb
    clear hc hf hb
    by_cases hlt : k < s.size
    · have hck := HC.out k hlt
      rw [lowAt_ge (Nat.le_refl _)] at hck
      have hfk := HF.out k hlt
      have HV := Lib.hid (Nm.small_val (s.data.toList.getD k 0))
      have hc8 := (s.data.toList.getD k 0).toNat_lt
      have HL := Lib.hid (fun j => @lowAt_lt s.data.toList (k + 1) j)
      have hstep : ∀ (u : Int), u = ((Nm.small (s.data.toList.getD k 0)).toNat : Int) → ∀ j, j < s.size → (wr.setCell ⟨w.heap.size, k, none⟩ (.int .u8 u)).cell? ⟨w.heap.size, j, none⟩ = some (.int .u8 ((lowAt s.data.toList (k + 1) j).toNat : Int)) := by
        intro u hu j hj
        by_cases hjk : j = k
        · subst hjk
          rw [lowAt_lt (by omega), ← hu]
          exact cell_set_same _ hck
        · rw [cell_set_off _ (Ne.symm hjk), HC.out j hj]
          unfold lowAt
          by_cases h : j < k
          · rw [if_pos h, if_pos (by omega)]
          · rw [if_neg h, if_neg (by omega)]
      have HS := Lib.hid hstep
      clear hstep
      generalize s.data.toList.getD k 0 = c at *
      have hfin : ∀ u : Int, u = ((Nm.small c).toNat : Int) → u = (c.toNat : Int) → ∀ j, j < s.size → wr.cell? ⟨w.heap.size, j, none⟩ = some (.int .u8 ((lowAt s.data.toList (k + 1) j).toNat : Int)) := by
        intro u hu hu2 j hj
        have := HS.out u hu j hj
        by_cases hjk : j = k
        · subst hjk
          rw [cell_set_same _ hck] at this
          rw [hck, ← hu2]; exact this
        · rwa [cell_set_off _ (Ne.symm hjk)] at this
      have HFI := Lib.hid hfin
      clear hfin
      by_cases h1a : 65 ≤ c.toNat
      · by_cases h1b : c.toNat ≤ 90
        · go_wp2
          go_roundw
          case rel => exact ⟨k + 1, by omega, by go_num, HS.out _ (by rw [HV.out, if_pos ⟨h1a, h1b⟩]; omega), fun j hj => by rw [World.frozen?_setCell]; exact HF.out j hj, HB.out.setCell (Nat.le_refl _) _⟩
          case measure => simp [intOf]; omega
        · go_wp2
          go_roundw
          case rel => exact ⟨k + 1, by omega, by go_num, HFI.out _ (by rw [HV.out, if_neg (by omega)]) rfl, HF.out, HB.out⟩
          case measure => simp [intOf]; omega
      · go_wp2
        go_roundw
        case rel => exact ⟨k + 1, by omega, by go_num, HFI.out _ (by rw [HV.out, if_neg (by omega)]) rfl, HF.out, HB.out⟩
        case measure => simp [intOf]; omega
    · obtain rfl : k = s.size := by omega
      have HFO : Hid (∀ j (hj : j < (Nm.fold s.data.toList).length), wr.cell? ⟨w.heap.size, j, none⟩ = some (.int .u8 ((Nm.fold s.data.toList)[j].toNat : Int))) := fun j hj => by
        have hj' : j < s.size := by simpa [Nm.fold] using hj
        rw [HC.out j hj', lowAt_lt hj']
        rw [Nm.fold_get]
      have hln : s.size = (Nm.fold s.data.toList).length := by simp [Nm.fold]
      have HLN := Lib.hid hln
      clear hln
      go_wp2_with (refine wpList_convert_cells _ rfl 89 9 (.tmp 33) rfl 5 Tryd.underlying89 Tryd.underlying5 Tryd.underlying9 w.heap.size s.size _ (Nm.fold s.data.toList) HLN.out rfl HFO.out ?_)
      go_ret
      exact ⟨rfl, HB.out⟩

theorem refFold_any (s : ByteArray) (w : World) (hs : s.size ≤ 140737488355328) :
    Calls Tryd.prog 38 #[.string s] w fun e w' => e = .returned (.string ⟨(Nm.fold s.data.toList).toArray⟩) ∧ Below w.heap.size w w' := by
  go_enter Tryd.func38, Tryd.ntmps38
  go_wp2_with (first | (go_at_call 62; refine (Low_any s _ hs).mono ?_; rintro e w1 ⟨rfl, hb1⟩))
  go_ret
  exact ⟨rfl, hb1⟩
end Go.Proofs.YtmieakkhpkclpaaDoor
/- The document's answer on data: which fields a type has, and what data may be. -/
namespace Go.Proofs.YtmieakkhpkclpaaDoor
open Go.RowKit

set_option maxHeartbeats 1000000 in
theorem rdNames_any (t : Nat) (w : World) (_ht : t ≤ 65535) :
    Calls Tryd.prog 87 #[.int .u16 t] w fun e w' => e = .returned (.tuple #[.bool (Rd.isHost t), .bool (Rd.isMail t)]) ∧ w = w' := by
  unfold Rd.isHost Rd.isMail
  by_cases h6 : t = 6
  · subst h6
    go_enter Tryd.func87, Tryd.ntmps87
    go_wp2
    go_ret2
    exact ⟨rfl, rfl⟩
  have k6 : ((t : Int) == 6) = false := by simp; omega
  have q6 : (t == 6) = false := by simp [h6]
  by_cases h2 : t = 2
  · subst h2
    go_enter Tryd.func87, Tryd.ntmps87
    go_wp2
    go_ret2
    exact ⟨rfl, rfl⟩
  by_cases h5 : t = 5
  · subst h5
    go_enter Tryd.func87, Tryd.ntmps87
    go_wp2
    go_ret2
    exact ⟨rfl, rfl⟩
  by_cases h12 : t = 12
  · subst h12
    go_enter Tryd.func87, Tryd.ntmps87
    go_wp2
    go_ret2
    exact ⟨rfl, rfl⟩
  by_cases h15 : t = 15
  · subst h15
    go_enter Tryd.func87, Tryd.ntmps87
    go_wp2
    go_ret2
    exact ⟨rfl, rfl⟩
  by_cases h33 : t = 33
  · subst h33
    go_enter Tryd.func87, Tryd.ntmps87
    go_wp2
    go_ret2
    exact ⟨rfl, rfl⟩
  have k2 : ((t : Int) == 2) = false := by simp; omega
  have k5 : ((t : Int) == 5) = false := by simp; omega
  have k12 : ((t : Int) == 12) = false := by simp; omega
  have k15 : ((t : Int) == 15) = false := by simp; omega
  have k33 : ((t : Int) == 33) = false := by simp; omega
  have q : (t == 2 || t == 5 || t == 12 || t == 6 || t == 15 || t == 33) = false := by simp [h2, h5, h12, h6, h15, h33]
  rw [q, q6]
  clear q q6 h2 h5 h6 h12 h15 h33
  go_enter Tryd.func87, Tryd.ntmps87
  go_wp2
  go_ret2
  exact ⟨rfl, rfl⟩
theorem rd_cons_of (t : ByteArray) (h : 0 < t.size) : t.data.toList = t[0] :: t.data.toList.drop 1 := by
  have h0 : 0 < t.data.toList.length := by simpa using h
  have e := List.drop_eq_getElem_cons (i := 0) h0
  rw [List.drop_zero] at e
  exact e
/-- what texts answers. -/
def TextsPost (w : World) (o : Option (List (List UInt8))) (e : Ending) (w' : World) : Prop :=
  ∃ v, Below w.heap.size w w' ∧ match o with
    | none => e = .returned (.tuple #[v, .bool false])
    | some ls => e = .returned (.tuple #[v, .bool (decide (0 < ls.length))]) ∧ w'.ownsRow w.heap.size 9 1 v ls.length (svs ls)
theorem texts_no {w w' : World} {l : List UInt8} {v : Value} (hb : Below w.heap.size w w') (h : Rd.tx l = none) : TextsPost w (Rd.tx l) (.returned (.tuple #[v, .bool false])) w' := by
  rw [h]; exact ⟨v, hb, rfl⟩
theorem texts_yes {w w' : World} {l : List UInt8} {v x : Value} {ls : List (List UInt8)} (hb : Below w.heap.size w w') (h : Rd.tx l = some ls) (hx : x = .bool (decide (0 < ls.length))) (ho : w'.ownsRow w.heap.size 9 1 v ls.length (svs ls)) : TextsPost w (Rd.tx l) (.returned (.tuple #[v, x])) w' := by
  rw [h]; exact ⟨v, hb, by rw [hx], ho⟩
end Go.Proofs.YtmieakkhpkclpaaDoor
