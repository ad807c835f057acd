/- Texts of the proofs, merged. -/
import Derived.Test.YtgcaephfhfkjcaaGreatDoorZm2
import Derived.Test.YtgcaephfhfkjcaaGreatDoorZm1
import Derived.Test.YtgcaephfhfkjcaaGreatDoorZm3
import Derived.Laws.StructEq
import Derived.MapKept
namespace Go.Proofs.YtgcaephfhfkjcaaGreatDoor
open Go.RowKit

set_option maxHeartbeats 400000 in
set_option maxRecDepth 100000 in
theorem each_fold (s : ByteArray) (w : World) (hs : s.size ≤ 140737488355328) :
    Calls Tryz.prog 64 #[.string s, .func (.func 65) #[] #[]] w fun e w' => e = .returned (.string ⟨(Nm.fold s.data.toList).toArray⟩) ∧ Below w.heap.size w w' := by
  obtain ⟨i0, hi, hz0, hz1, hz2⟩ := info_parts Tryz.infoByte
  go_enter Tryz.func64, Tryz.ntmps64
  go_wp2_with (first | (at_make; refine wpList_make_own _ rfl _ _ 56 rfl w.heap.size 5 i0 _ 1 Tryz.underlying56 hi hz0 hz1 .i64 .i64 s.size s.size rfl rfl rfl (by rw [hz2]; omega) (by unfold maxLen; omega) (Nat.le_refl _) ?_; intro w1 hown1 hg1))
  go_loopw [5, 12] (fun v i wr => ∃ k : Nat, k ≤ s.size ∧ i = .int .i64 k ∧ wr.ownsRow w.heap.size 5 1 v k (bv ((s.data.toList.take k).map Nm.small)) ∧ Below w.heap.size w wr) (fun _ i _ => s.size - (intOf i).toNat)
  case atStart => exact ⟨0, Nat.zero_le _, rfl, by simpa [bv] using hown1, (Below.refl _ _).grown hg1 (Nat.le_refl _) (by simp)⟩
  case round =>
    obtain ⟨k, hk, rfl, hown, hb⟩ := hrel
    have HO := Lib.hid hown
    have HB := Lib.hid hb
    have hbs := hb.size
    clear hown hb
    by_cases hlt : k < s.size
    · go_wp2_with (first | (go_at_call 65; refine (fold1_any w.heap.size _ k _ s[k] _ hbs HO.out (by omega)).mono ?_; rintro e w2 ⟨v', rfl, hown', hb'⟩))
      go_roundw
      case rel => exact ⟨k + 1, by omega, by go_num, by rw [bv_take_succ s _ k hlt]; exact hown', HB.out.trans hb'⟩
      case measure => simp [intOf]; omega
    · obtain rfl : k = s.size := by omega
      have HO' : Hid (wr.ownsRow w.heap.size 5 1 u5 s.size (bv (Nm.fold s.data.toList))) := by
        have := HO.out
        rw [List.take_of_length_le (by simp)] at this
        exact this
      clear HO
      go_wp2_with (refine wpList_convert_own _ rfl 56 9 (.tmp 22) rfl 5 Tryz.underlying56 Tryz.underlying5 Tryz.underlying9 w.heap.size s.size _ (Nm.fold s.data.toList) rfl HO'.out ?_)
      go_ret
      exact ⟨rfl, HB.out⟩

theorem Fold_any (s : ByteArray) (w : World) (hs : s.size ≤ 140737488355328) :
    Calls Tryz.prog 40 #[.string s] w fun e w' => e = .returned (.string ⟨(Nm.fold s.data.toList).toArray⟩) ∧ Below w.heap.size w w' := by
  go_enter Tryz.func40, Tryz.ntmps40
  go_wp2_with (first | (go_at_call 64; refine (each_fold s _ hs).mono ?_; rintro e w1 ⟨rfl, hb1⟩))
  go_ret
  exact ⟨rfl, hb1⟩

-- the document's answer: []byte(s), each letter turned in place, and back.
def lowAt (l : List UInt8) (k j : Nat) : UInt8 := if j < k then Nm.small (l.getD j 0) else l.getD j 0
theorem lowAt_lt {l : List UInt8} {k j : Nat} (h : j < k) : lowAt l k j = Nm.small (l.getD j 0) := if_pos h
theorem lowAt_ge {l : List UInt8} {k j : Nat} (h : k ≤ j) : lowAt l k j = l.getD j 0 := if_neg (by omega)

set_option maxHeartbeats 400000 in
set_option maxRecDepth 100000 in
theorem Low_any (s : ByteArray) (w : World) (hs : s.size ≤ 140737488355328) :
    Calls Tryz.prog 46 #[.string s] w fun e w' => e = .returned (.string ⟨(Nm.fold s.data.toList).toArray⟩) ∧ Below w.heap.size w w' := by
  go_enter Tryz.func46, Tryz.ntmps46
  have kc := fun (w : World) => run_bytes_of_string (P := Tryz.prog) w 9 56 5 s Tryz.underlying9 Tryz.underlying56 Tryz.underlying5
  go_wp2
  have hcell : ∀ j, j < s.size → (w.alloc (.cells (bytesRow s (grownCap w s.size 0 5)) 5 ((bytesRow s (grownCap w s.size 0 5)).size, (bytesRow s (grownCap w s.size 0 5)).size + 1))).drew.cell? ⟨w.heap.size, j, none⟩ = some (.int .u8 ((lowAt s.data.toList 0 j).toNat : Int)) := by
    intro j hj
    show (w.alloc _).cell? _ = _
    rw [World.cell?_alloc_mark, bytesRow_at s _ j hj, lowAt_ge (Nat.zero_le _)]
    simp [List.getD, hj]
  have hsz : s.size ≤ (bytesRow s (grownCap w s.size 0 5)).size := by simp [bytesRow]
  have hfree : ∀ j, j < s.size → (w.alloc (.cells (bytesRow s (grownCap w s.size 0 5)) 5 ((bytesRow s (grownCap w s.size 0 5)).size, (bytesRow s (grownCap w s.size 0 5)).size + 1))).drew.frozen? ⟨w.heap.size, j, none⟩ = false := by
    intro j hj
    show (w.alloc _).frozen? _ = _
    rw [World.frozen?_alloc_mark, decide_eq_false (by omega)]; rfl
  have hb0 : Below w.heap.size w (w.alloc (.cells (bytesRow s (grownCap w s.size 0 5)) 5 ((bytesRow s (grownCap w s.size 0 5)).size, (bytesRow s (grownCap w s.size 0 5)).size + 1))).drew := ((Below.refl _ _).alloc (Nat.le_refl _) _).drew
  generalize (w.alloc (.cells (bytesRow s (grownCap w s.size 0 5)) 5 ((bytesRow s (grownCap w s.size 0 5)).size, (bytesRow s (grownCap w s.size 0 5)).size + 1))).drew = w1 at *
  generalize grownCap w s.size 0 5 = cap
  have HC := Lib.hid hcell
  have HF := Lib.hid hfree
  clear hcell hfree hsz
  go_loopw [4] (fun i wr => ∃ k : Nat, k ≤ s.size ∧ i = .int .i64 k ∧ (∀ j, j < s.size → wr.cell? ⟨w.heap.size, j, none⟩ = some (.int .u8 ((lowAt s.data.toList k j).toNat : Int))) ∧ (∀ j, j < s.size → wr.frozen? ⟨w.heap.size, j, none⟩ = false) ∧ Below w.heap.size w wr) (fun i _ => s.size - (intOf i).toNat)
  case atStart => exact ⟨0, Nat.zero_le _, rfl, HC.out, HF.out, hb0⟩
  case round =>
    obtain ⟨k, hk, rfl, hc, hf, hb⟩ := hrel
    have HC := Lib.hid hc
    have HF := Lib.hid hf
    have HB := Lib.hid hb
    clear hc hf hb
    by_cases hlt : k < s.size
    · have hck := HC.out k hlt
      rw [lowAt_ge (Nat.le_refl _)] at hck
      have hfk := HF.out k hlt
      have HV := Lib.hid (Nm.small_val (s.data.toList.getD k 0))
      have hc8 := (s.data.toList.getD k 0).toNat_lt
      have HL := Lib.hid (fun j => @lowAt_lt s.data.toList (k + 1) j)
      have hstep : ∀ (u : Int), u = ((Nm.small (s.data.toList.getD k 0)).toNat : Int) → ∀ j, j < s.size → (wr.setCell ⟨w.heap.size, k, none⟩ (.int .u8 u)).cell? ⟨w.heap.size, j, none⟩ = some (.int .u8 ((lowAt s.data.toList (k + 1) j).toNat : Int)) := by
        intro u hu j hj
        by_cases hjk : j = k
        · subst hjk
          rw [lowAt_lt (by omega), ← hu]
          exact cell_set_same _ hck
        · rw [cell_set_off _ (Ne.symm hjk), HC.out j hj]
          unfold lowAt
          by_cases h : j < k
          · rw [if_pos h, if_pos (by omega)]
          · rw [if_neg h, if_neg (by omega)]
      have HS := Lib.hid hstep
      clear hstep
      generalize s.data.toList.getD k 0 = c at *
      have hfin : ∀ u : Int, u = ((Nm.small c).toNat : Int) → u = (c.toNat : Int) → ∀ j, j < s.size → wr.cell? ⟨w.heap.size, j, none⟩ = some (.int .u8 ((lowAt s.data.toList (k + 1) j).toNat : Int)) := by
        intro u hu hu2 j hj
        have := HS.out u hu j hj
        by_cases hjk : j = k
        · subst hjk
          rw [cell_set_same _ hck] at this
          rw [hck, ← hu2]; exact this
        · rwa [cell_set_off _ (Ne.symm hjk)] at this
      have HFI := Lib.hid hfin
      clear hfin
      by_cases h1a : 65 ≤ c.toNat
      · by_cases h1b : c.toNat ≤ 90
        · go_wp2
          go_roundw
          case rel => exact ⟨k + 1, by omega, by go_num, HS.out _ (by rw [HV.out, if_pos ⟨h1a, h1b⟩]; omega), fun j hj => by rw [World.frozen?_setCell]; exact HF.out j hj, HB.out.setCell (Nat.le_refl _) _⟩
          case measure => simp [intOf]; omega
        · go_wp2
          go_roundw
          case rel => exact ⟨k + 1, by omega, by go_num, HFI.out _ (by rw [HV.out, if_neg (by omega)]) rfl, HF.out, HB.out⟩
          case measure => simp [intOf]; omega
      · go_wp2
        go_roundw
        case rel => exact ⟨k + 1, by omega, by go_num, HFI.out _ (by rw [HV.out, if_neg (by omega)]) rfl, HF.out, HB.out⟩
        case measure => simp [intOf]; omega
    · obtain rfl : k = s.size := by omega
      have HFO : Hid (∀ j (hj : j < (Nm.fold s.data.toList).length), wr.cell? ⟨w.heap.size, j, none⟩ = some (.int .u8 ((Nm.fold s.data.toList)[j].toNat : Int))) := fun j hj => by
        have hj' : j < s.size := by simpa [Nm.fold] using hj
        rw [HC.out j hj', lowAt_lt hj']
        rw [Nm.fold_get]
      have hln : s.size = (Nm.fold s.data.toList).length := by simp [Nm.fold]
      have HLN := Lib.hid hln
      clear hln
      go_wp2_with (refine wpList_convert_cells _ rfl 56 9 (.tmp 33) rfl 5 Tryz.underlying56 Tryz.underlying5 Tryz.underlying9 w.heap.size s.size _ (Nm.fold s.data.toList) HLN.out rfl HFO.out ?_)
      go_ret
      exact ⟨rfl, HB.out⟩

theorem refFold_any (s : ByteArray) (w : World) (hs : s.size ≤ 140737488355328) :
    Calls Tryz.prog 28 #[.string s] w fun e w' => e = .returned (.string ⟨(Nm.fold s.data.toList).toArray⟩) ∧ Below w.heap.size w w' := by
  go_enter Tryz.func28, Tryz.ntmps28
  go_wp2_with (first | (go_at_call 46; refine (Low_any s _ hs).mono ?_; rintro e w1 ⟨rfl, hb1⟩))
  go_ret
  exact ⟨rfl, hb1⟩
end Go.Proofs.YtgcaephfhfkjcaaGreatDoor
namespace Go.Proofs.YtgcaephfhfkjcaaGreatDoor
open Go.RowKit

set_option maxHeartbeats 1000000 in
theorem rdNames_any (t : Nat) (w : World) (_ht : t ≤ 65535) :
    Calls Tryz.prog 56 #[.int .u16 t] w fun e w' => e = .returned (.tuple #[.bool (Rd.isHost t), .bool (Rd.isMail t)]) ∧ w = w' := by
  unfold Rd.isHost Rd.isMail
  by_cases h6 : t = 6
  · subst h6
    go_enter Tryz.func56, Tryz.ntmps56
    go_wp2
    go_ret2
    exact ⟨rfl, rfl⟩
  have k6 : ((t : Int) == 6) = false := by simp; omega
  have q6 : (t == 6) = false := by simp [h6]
  by_cases h2 : t = 2
  · subst h2
    go_enter Tryz.func56, Tryz.ntmps56
    go_wp2
    go_ret2
    exact ⟨rfl, rfl⟩
  by_cases h5 : t = 5
  · subst h5
    go_enter Tryz.func56, Tryz.ntmps56
    go_wp2
    go_ret2
    exact ⟨rfl, rfl⟩
  by_cases h12 : t = 12
  · subst h12
    go_enter Tryz.func56, Tryz.ntmps56
    go_wp2
    go_ret2
    exact ⟨rfl, rfl⟩
  by_cases h15 : t = 15
  · subst h15
    go_enter Tryz.func56, Tryz.ntmps56
    go_wp2
    go_ret2
    exact ⟨rfl, rfl⟩
  by_cases h33 : t = 33
  · subst h33
    go_enter Tryz.func56, Tryz.ntmps56
    go_wp2
    go_ret2
    exact ⟨rfl, rfl⟩
  have k2 : ((t : Int) == 2) = false := by simp; omega
  have k5 : ((t : Int) == 5) = false := by simp; omega
  have k12 : ((t : Int) == 12) = false := by simp; omega
  have k15 : ((t : Int) == 15) = false := by simp; omega
  have k33 : ((t : Int) == 33) = false := by simp; omega
  have q : (t == 2 || t == 5 || t == 12 || t == 6 || t == 15 || t == 33) = false := by simp [h2, h5, h12, h6, h15, h33]
  rw [q, q6]
  clear q q6 h2 h5 h6 h12 h15 h33
  go_enter Tryz.func56, Tryz.ntmps56
  go_wp2
  go_ret2
  exact ⟨rfl, rfl⟩
theorem rdNumbers_any (t : Nat) (w : World) (_ht : t ≤ 65535) :
    Calls Tryz.prog 75 #[.int .u16 t] w fun e w' => e = .returned (.tuple #[.int .i64 (Rd.cnt t : Nat), .int .i64 (Rd.bits t : Nat)]) ∧ w = w' := by
  unfold Rd.cnt Rd.bits
  by_cases h6 : t = 6
  · subst h6
    go_enter Tryz.func75, Tryz.ntmps75
    go_wp2
    go_ret2
    exact ⟨rfl, rfl⟩
  by_cases h15 : t = 15
  · subst h15
    go_enter Tryz.func75, Tryz.ntmps75
    go_wp2
    go_ret2
    exact ⟨rfl, rfl⟩
  by_cases h33 : t = 33
  · subst h33
    go_enter Tryz.func75, Tryz.ntmps75
    go_wp2
    go_ret2
    exact ⟨rfl, rfl⟩
  have k6 : ((t : Int) == 6) = false := by simp; omega
  have k15 : ((t : Int) == 15) = false := by simp; omega
  have k33 : ((t : Int) == 33) = false := by simp; omega
  rw [if_neg h6, if_neg h15, if_neg h33, if_neg h6, if_neg h15, if_neg h33]
  clear h6 h15 h33
  go_enter Tryz.func75, Tryz.ntmps75
  go_wp2
  go_ret2
  exact ⟨rfl, rfl⟩

theorem rd_cons_of (t : ByteArray) (h : 0 < t.size) : t.data.toList = t[0] :: t.data.toList.drop 1 := by
  have h0 : 0 < t.data.toList.length := by simpa using h
  have e := List.drop_eq_getElem_cons (i := 0) h0
  rw [List.drop_zero] at e
  exact e
/-- what texts answers. -/
def TextsPost (w : World) (o : Option (List (List UInt8))) (e : Ending) (w' : World) : Prop :=
  ∃ v, Below w.heap.size w w' ∧ match o with
    | none => e = .returned (.tuple #[v, .bool false])
    | some ls => e = .returned (.tuple #[v, .bool (decide (0 < ls.length))]) ∧ w'.ownsRow w.heap.size 9 1 v ls.length (svs ls)
theorem texts_no {w w' : World} {l : List UInt8} {v : Value} (hb : Below w.heap.size w w') (h : Rd.tx l = none) : TextsPost w (Rd.tx l) (.returned (.tuple #[v, .bool false])) w' := by
  rw [h]; exact ⟨v, hb, rfl⟩
theorem texts_yes {w w' : World} {l : List UInt8} {v x : Value} {ls : List (List UInt8)} (hb : Below w.heap.size w w') (h : Rd.tx l = some ls) (hx : x = .bool (decide (0 < ls.length))) (ho : w'.ownsRow w.heap.size 9 1 v ls.length (svs ls)) : TextsPost w (Rd.tx l) (.returned (.tuple #[v, x])) w' := by
  rw [h]; exact ⟨v, hb, by rw [hx], ho⟩
set_option maxHeartbeats 1000000 in
set_option maxRecDepth 100000 in
theorem rdTexts_any (s : ByteArray) (w : World) (hs : s.size ≤ 8796093022208) :
    Calls Tryz.prog 78 #[.string s] w (TextsPost w (Rd.tx s.data.toList)) := by
  obtain ⟨i0, hi, hz0, hz1, hz2⟩ := info_parts Tryz.infoString
  go_enter Tryz.func78, Tryz.ntmps78
  go_wp2
  go_loopw [0, 4] (fun t v wr => ∃ (t' : ByteArray) (acc : List (List UInt8)), t = .string t' ∧ Hid (Rd.tx s.data.toList = (Rd.tx t'.data.toList).map (acc ++ ·)) ∧ acc.length + t'.size ≤ s.size ∧ Hid (wr.ownsRow w.heap.size 9 1 v acc.length (svs acc)) ∧ Hid (Below w.heap.size w wr)) (fun t _ _ => match t with | .string t' => t'.size | _ => 0)
  case atStart => exact ⟨s, [], rfl, by simp [Hid], by simp, World.ownsRow_nil _ _ _ _, Below.refl _ _⟩
  case round =>
    obtain ⟨t, acc, rfl, HX, hsz, HO, HB⟩ := hrel
    have hbs := HB.out.size
    by_cases h0 : 0 < t.size
    · have hcons := rd_cons_of t h0
      have hr : (t.data.toList.drop 1).length = t.size - 1 := by simp
      have HR := Lib.hid hr
      have HC := Lib.hid hcons
      clear hcons hr
      have h8 : t[0].toNat < 256 := t[0].toNat_lt
      by_cases hsh : t.size < t[0].toNat + 1
      · have HN : Hid (Rd.tx s.data.toList = none) := by
          have := HX.out
          rw [HC.out, Rd.tx_bad (by rw [HR.out]; omega)] at this
          exact this
        go_wp2
        go_ret2
        exact texts_no HB.out HN.out
      · have HN : Hid (Rd.tx s.data.toList = (Rd.tx ((t.data.toList.drop 1).drop t[0].toNat)).map ((acc ++ [(t.data.toList.drop 1).take t[0].toNat]) ++ ·)) := by
          have := HX.out
          rw [HC.out, Rd.tx_cons (by rw [HR.out]; omega), Option.map_map] at this
          refine this.trans ?_
          congr 1
          funext x
          simp
        have HP := Lib.hid (At.piece (l := t.data.toList) (k := 0) rfl t[0].toNat)
        have HL := Lib.hid (At.left (l := t.data.toList) (k := 0) rfl t[0].toNat)
        go_wp2_with (at_builtin; refine wpList_append_own _ rfl (.tmp 17) (.tmp 22) _ rfl w.heap.size 9 i0 _ 1 16 Tryz.underlying70 hi hz0 hz1 hz2 rfl (by decide) _ acc.length (svs acc) rfl (HO.out.alloc _) ⟨wr.heap.size, 0, none⟩ 1 1 [sv ((t.data.toList.drop (0 + 1)).take t[0].toNat)] rfl rfl ?c1 ?c2 ?c3 ?c4 ?c5 (fun v' w4 hown1 hg1 _ => ?_))
        case c1 => rw [← HP.out]; exact cell_one_new _ _ _
        case c2 => simp [Value.oneCell']
        case c3 => unfold maxLen; omega
        case c4 => omega
        case c5 => simp; omega
        go_roundw
        case rel =>
          refine ⟨_, acc ++ [(t.data.toList.drop 1).take t[0].toNat], rfl, ?_, ?_, ?_, (HB.out.alloc hbs _).grown hg1 (by simp; omega) (fun j hj => (HO.out.lt j hj).1)⟩
          · rw [HL.out, show 0 + 1 + t[0].toNat = 1 + t[0].toNat from by omega, ← List.drop_drop]; exact HN.out
          · simp; omega
          · rw [List.length_append, svs_append]; exact hown1
        case measure => simp; omega
    · have h9 : t.data.toList.length = t.size := by simp
      have hN : t.data.toList = [] := List.eq_nil_of_length_eq_zero (by omega)
      clear h9
      have HN : Hid (Rd.tx s.data.toList = some acc) := by
        have := HX.out
        rw [hN, Rd.tx_nil] at this
        rw [this]
        simp [Hid]
      obtain ⟨ad, cp, hv⟩ := own_form HO.out
      subst hv
      clear hN
      go_wp2
      go_ret2
      exact texts_yes HB.out HN.out (by simp) HO.out
end Go.Proofs.YtgcaephfhfkjcaaGreatDoor
namespace Go.Proofs.YtgcaephfhfkjcaaGreatDoor
open Go.RowKit

theorem rdIs_any (s : ByteArray) (w : World) (hs : s.size ≤ 140737488355328) :
    Calls Tryz.prog 13 #[.string s] w fun e w' => e = .returned (.bool (Rd.nm s.data.toList)) ∧ Below w.heap.size w w' := by
  unfold Rd.nm
  have HC := Lib.hid (Split_any s w hs)
  cases h : Nm.split s.data.toList with
  | none =>
    rw [h] at HC
    clear h
    go_enter Tryz.func13, Tryz.ntmps13
    go_wp2_with (go_at_call 30; refine HC.out.mono ?_; rintro e w1 ⟨v, hb1, rfl⟩)
    go_ret
    exact ⟨rfl, hb1⟩
  | some ls =>
    rw [h] at HC
    clear h
    go_enter Tryz.func13, Tryz.ntmps13
    go_wp2_with (go_at_call 30; refine HC.out.mono ?_; rintro e w1 ⟨v, hb1, rfl, _⟩)
    go_ret
    exact ⟨rfl, hb1⟩
theorem rd_strEmpty (s : ByteArray) : (s.toList == []) = (s.data.toList == []) := by
  have e0 : (⟨#[]⟩ : ByteArray).toList = [] := by kernel_rfl
  by_cases h : s.data.toList = []
  · obtain rfl : s = ⟨#[]⟩ := string_eq h
    rw [e0]
  · have h1 : (s.toList == (⟨#[]⟩ : ByteArray).toList) = false := by
      rw [← beq_toListBytes, Bool.eq_false_iff]
      intro hb
      have := (MapKept.bytes_beq _ _).1 hb
      subst this
      exact h rfl
    rw [e0] at h1
    rw [h1]
    cases hb : (s.data.toList == []) with
    | false => rfl
    | true => exact absurd (beq_iff_eq.1 hb) h

theorem raw16 (l : List UInt8) : Rd.rawOk 16 l = match Rd.tx l with | some (_ :: _) => decide (l.length ≤ 65535) | _ => false := rfl
set_option maxHeartbeats 1000000 in
set_option maxRecDepth 100000 in
theorem rdRaw_16 (s : ByteArray) (w : World) (hs : s.size ≤ 8796093022208) :
    Calls Tryz.prog 108 #[.int .u16 16, .string s] w fun e w' => e = .returned (.bool (Rd.rawOk 16 s.data.toList)) ∧ Below w.heap.size w w' := by
  have hl : s.data.toList.length = s.size := by simp
  have hres := raw16 s.data.toList
  rw [hl] at hres
  have HNM : Hid (∀ W : World, Calls Tryz.prog 56 #[.int .u16 16] W fun e w' => e = .returned (.tuple #[.bool false, .bool false]) ∧ W = w') := fun W => rdNames_any 16 W (by omega)
  obtain ⟨R, hR⟩ : ∃ R, Rd.rawOk 16 s.data.toList = R := ⟨_, rfl⟩
  rw [hR] at hres ⊢
  have key : ∃ d : Bool, (∀ W : World, Calls Tryz.prog 78 #[.string s] W fun e w' => ∃ v, e = .returned (.tuple #[v, .bool d]) ∧ Below W.heap.size W w') ∧ R = (d && decide (s.size ≤ 65535)) := by
    have HT := fun W : World => rdTexts_any s W hs
    rcases htx : Rd.tx s.data.toList with _ | ls
    · rw [htx] at HT hres
      exact ⟨false, fun W => (HT W).mono fun e w' ⟨v, hb, he⟩ => ⟨v, he, hb⟩, by rw [hres]; rfl⟩
    · rw [htx] at HT hres
      cases ls with
      | nil => exact ⟨false, fun W => (HT W).mono fun e w' ⟨v, hb, he, _⟩ => ⟨v, he, hb⟩, by rw [hres]; rfl⟩
      | cons x r => exact ⟨true, fun W => (HT W).mono fun e w' ⟨v, hb, he, _⟩ => ⟨v, by rw [he]; simp, hb⟩, by rw [hres]; rfl⟩
  obtain ⟨d, hT, hd⟩ := key
  have HT := Lib.hid hT
  have HD := Lib.hid hd
  clear hT hd hres hR hl
  cases d with
  | true =>
    go_enter Tryz.func108, Tryz.ntmps108
    go_wp2_with (first
      | (go_at_call 56; refine (HNM.out _).mono ?_; rintro e' w1 ⟨rfl, rfl⟩)
      | (go_at_call 78; refine (HT.out _).mono ?_; rintro e' w2 ⟨v, rfl, hb⟩))
    go_ret
    refine ⟨ret_bool ?_, hb⟩
    rw [HD.out, Bool.eq_iff_iff]; simp; omega
  | false =>
    go_enter Tryz.func108, Tryz.ntmps108
    go_wp2_with (first
      | (go_at_call 56; refine (HNM.out _).mono ?_; rintro e' w1 ⟨rfl, rfl⟩)
      | (go_at_call 78; refine (HT.out _).mono ?_; rintro e' w2 ⟨v, rfl, hb⟩))
    go_ret
    refine ⟨ret_bool ?_, hb⟩
    rw [HD.out]; rfl
set_option maxHeartbeats 1000000 in
set_option maxRecDepth 100000 in
theorem rdRaw_any (t : Nat) (s : ByteArray) (w : World) (ht : t ≤ 65535) (hs : s.size ≤ 8796093022208) :
    Calls Tryz.prog 108 #[.int .u16 t, .string s] w fun e w' => e = .returned (.bool (Rd.rawOk t s.data.toList)) ∧ Below w.heap.size w w' := by
  by_cases hn16 : t = 16
  · subst hn16
    exact rdRaw_16 s w hs
  have hl : s.data.toList.length = s.size := by simp
  unfold Rd.rawOk
  rw [hl, ← rd_strEmpty]
  have HNM := Lib.hid (fun W : World => rdNames_any t W ht)
  rcases hh : Rd.isHost t with _ | _
  · rw [hh] at HNM
    by_cases h1 : t = 1
    · subst h1
      clear hl hh hn16
      go_enter Tryz.func108, Tryz.ntmps108
      go_wp2_with (go_at_call 56; refine (HNM.out _).mono ?_; rintro e' w1 ⟨rfl, rfl⟩)
      go_ret
      refine ⟨ret_bool ?_, Below.refl _ _⟩
      rw [Bool.eq_iff_iff, beq_iff_eq, beq_iff_eq]; omega
    · have k1 : ((t : Int) == 1) = false := by simp; omega
      by_cases h28 : t = 28
      · subst h28
        clear hl hh hn16
        go_enter Tryz.func108, Tryz.ntmps108
        go_wp2_with (go_at_call 56; refine (HNM.out _).mono ?_; rintro e' w1 ⟨rfl, rfl⟩)
        go_ret
        refine ⟨ret_bool ?_, Below.refl _ _⟩
        rw [Bool.eq_iff_iff, beq_iff_eq, beq_iff_eq]; omega
      · have k28 : ((t : Int) == 28) = false := by simp; omega
        by_cases h16 : t = 16
        · exact absurd h16 hn16
        · have k16 : ((t : Int) == 16) = false := by simp; omega
          rw [if_neg (by simp), if_neg h1, if_neg h28, if_neg h16]
          clear hl hh h1 h28 h16 hn16
          go_enter Tryz.func108, Tryz.ntmps108
          go_wp2_with (go_at_call 56; refine (HNM.out _).mono ?_; rintro e' w1 ⟨rfl, rfl⟩)
          go_ret
          refine ⟨ret_bool ?_, Below.refl _ _⟩
          rw [Bool.eq_iff_iff]; simp; omega
  · rw [hh] at HNM
    rw [if_pos rfl]
    clear hl hh hn16
    go_enter Tryz.func108, Tryz.ntmps108
    go_wp2_with (go_at_call 56; refine (HNM.out _).mono ?_; rintro e' w1 ⟨rfl, rfl⟩)
    go_ret
    refine ⟨ret_bool ?_, Below.refl _ _⟩
    cases s.toList <;> rfl
end Go.Proofs.YtgcaephfhfkjcaaGreatDoor
namespace Go.Proofs.YtgcaephfhfkjcaaGreatDoor
open Go.RowKit

/-- data, as they come. -/
structure Dv where
  raw : ByteArray
  host : ByteArray
  mail : ByteArray
  n0 : Nat
  n1 : Nat
  n2 : Nat
  n3 : Nat
  n4 : Nat
namespace Dv
def val (d : Dv) : Value := .agg #[.string d.raw, .string d.host, .string d.mail, .int .u32 d.n0, .int .u32 d.n1, .int .u32 d.n2, .int .u32 d.n3, .int .u32 d.n4]
def cells (d : Dv) : Array Value := #[.string d.raw, .string d.host, .string d.mail, .int .u32 d.n0, .int .u32 d.n1, .int .u32 d.n2, .int .u32 d.n3, .int .u32 d.n4]
def dt (d : Dv) : Rd.Dt := ⟨d.raw.data.toList, d.host.data.toList, d.mail.data.toList, d.n0, d.n1, d.n2, d.n3, d.n4⟩
def n (d : Dv) : Nat → Nat
  | 0 => d.n0
  | 1 => d.n1
  | 2 => d.n2
  | 3 => d.n3
  | _ => d.n4
/-- its numbers are numbers. -/
def fits (d : Dv) : Prop := ∀ k, d.n k ≤ 4294967295
theorem cell_n (d : Dv) {k : Nat} (hk : k < 5) : d.cells[3 + k]? = some (.int .u32 (d.n k)) := by
  match k, hk with
  | 0, _ => rfl
  | 1, _ => rfl
  | 2, _ => rfl
  | 3, _ => rfl
  | 4, _ => rfl
end Dv
theorem dv_raw {W : World} {g : Nat} {d : Dv} {t : TypeId} (h : Has W g t d.cells) : W.cell? ⟨g, 0, none⟩ = some (.string d.raw) := by rw [h.cell]; rfl
theorem dv_host {W : World} {g : Nat} {d : Dv} {t : TypeId} (h : Has W g t d.cells) : W.cell? ⟨g, 1, none⟩ = some (.string d.host) := by rw [h.cell]; rfl
theorem dv_mail {W : World} {g : Nat} {d : Dv} {t : TypeId} (h : Has W g t d.cells) : W.cell? ⟨g, 2, none⟩ = some (.string d.mail) := by rw [h.cell]; rfl
theorem dv_n {W : World} {g k : Nat} {d : Dv} {t : TypeId} (h : Has W g t d.cells) (hk : k < 5) : W.cell? ⟨g, 3 + k, none⟩ = some (.int .u32 (d.n k : Nat)) := by rw [h.cell]; exact d.cell_n hk
namespace Rd
def head (t : Nat) (d : Dt) : Bool := rawOk t d.raw && (isHost t == nm d.host) && (isHost t || d.host == []) && (isMail t == nm d.mail) && (isMail t || d.mail == [])
theorem ok_eq (t : Nat) (d : Dt) : ok t d = (head t d && numOk t 0 d.n0 && numOk t 1 d.n1 && numOk t 2 d.n2 && numOk t 3 d.n3 && numOk t 4 d.n4) := rfl
theorem ok_head {t : Nat} {d : Dt} (h : head t d = false) : ok t d = false := by rw [ok_eq, h]; rfl
theorem ok_num {t : Nat} {d : Dv} {k : Nat} (hk : k < 5) (h : numOk t k (d.n k) = false) : ok t d.dt = false := by
  rw [ok_eq]
  match k, hk with
  | 0, _ => have h' : numOk t 0 d.n0 = false := h
            simp [Dv.dt, h']
  | 1, _ => have h' : numOk t 1 d.n1 = false := h
            simp [Dv.dt, h']
  | 2, _ => have h' : numOk t 2 d.n2 = false := h
            simp [Dv.dt, h']
  | 3, _ => have h' : numOk t 3 d.n3 = false := h
            simp [Dv.dt, h']
  | 4, _ => have h' : numOk t 4 d.n4 = false := h
            simp [Dv.dt, h']
theorem ok_all {t : Nat} {d : Dv} (h : head t d.dt = true) (hn : ∀ k, k < 5 → numOk t k (d.n k) = true) : ok t d.dt = true := by
  have h0 : numOk t 0 d.n0 = true := hn 0 (by omega)
  have h1 : numOk t 1 d.n1 = true := hn 1 (by omega)
  have h2 : numOk t 2 d.n2 = true := hn 2 (by omega)
  have h3 : numOk t 3 d.n3 = true := hn 3 (by omega)
  have h4 : numOk t 4 d.n4 = true := hn 4 (by omega)
  rw [ok_eq, h]
  simp [Dv.dt, h0, h1, h2, h3, h4]
theorem cnt_le (t : Nat) : cnt t ≤ 5 := by unfold cnt; split <;> (try split) <;> (try split) <;> omega
theorem bits_le (t : Nat) : bits t ≤ 32 := by unfold bits; split <;> (try split) <;> (try split) <;> omega
theorem num_in {t i x : Nat} (h : i < cnt t) : numOk t i x = !(bits t == 16 && decide (65535 < x)) := by unfold numOk; rw [if_pos h]
theorem num_out {t i x : Nat} (h : ¬ i < cnt t) : numOk t i x = (x == 0) := by unfold numOk; rw [if_neg h]
end Rd
end Go.Proofs.YtgcaephfhfkjcaaGreatDoor
namespace Go.Proofs.YtgcaephfhfkjcaaGreatDoor
open Go.RowKit

/-- data with names in small letters. -/
def Dv.fold (t : Nat) (d : Dv) : Dv :=
  { d with host := if Rd.isHost t then ⟨(Nm.fold d.host.data.toList).toArray⟩ else d.host, mail := if Rd.isMail t then ⟨(Nm.fold d.mail.data.toList).toArray⟩ else d.mail }
theorem eight {W : World} {g : Nat} {t : TypeId} {a b c d e f g2 h : Value} (k : Has W g t #[a, b, c, d, e, f, g2, h]) :
    W.cell? ⟨g, 0, none⟩ = some a ∧ W.cell? ⟨g, 1, none⟩ = some b ∧ W.cell? ⟨g, 2, none⟩ = some c ∧ W.cell? ⟨g, 3, none⟩ = some d ∧ W.cell? ⟨g, 4, none⟩ = some e ∧ W.cell? ⟨g, 5, none⟩ = some f ∧ W.cell? ⟨g, 6, none⟩ = some g2 ∧ W.cell? ⟨g, 7, none⟩ = some h ∧ (∀ j, W.frozen? ⟨g, j, none⟩ = false) := by
  refine ⟨?_, ?_, ?_, ?_, ?_, ?_, ?_, ?_, fun j => k.free j⟩ <;> (rw [k.cell]; rfl)
theorem eight_set {W : World} {g : Nat} {t : TypeId} {a b c d e f g2 h a' b' c' d' e' f' g' h' : Value} (k : Has W g t #[a', b', c', d', e', f', g', h']) :
    Has ((((((((W.setCell ⟨g, 0, none⟩ a).setCell ⟨g, 1, none⟩ b).setCell ⟨g, 2, none⟩ c).setCell ⟨g, 3, none⟩ d).setCell ⟨g, 4, none⟩ e).setCell ⟨g, 5, none⟩ f).setCell ⟨g, 6, none⟩ g2).setCell ⟨g, 7, none⟩ h) g t #[a, b, c, d, e, f, g2, h] := by
  have k8 := (((((((k.set 0 a).set 1 b).set 2 c).set 3 d).set 4 e).set 5 f).set 6 g2).set 7 h
  simp only [List.setIfInBounds_toArray, List.set_cons_zero, List.set_cons_succ] at k8
  exact k8
theorem eight_below {w W : World} {g B : Nat} {a b c d e f g2 h : Value} (k : Below B w W) (hg : B ≤ g) :
    Below B w ((((((((W.setCell ⟨g, 0, none⟩ a).setCell ⟨g, 1, none⟩ b).setCell ⟨g, 2, none⟩ c).setCell ⟨g, 3, none⟩ d).setCell ⟨g, 4, none⟩ e).setCell ⟨g, 5, none⟩ f).setCell ⟨g, 6, none⟩ g2).setCell ⟨g, 7, none⟩ h) :=
  (((((((k.setCell (p := ⟨g, 0, none⟩) hg a).setCell (p := ⟨g, 1, none⟩) hg b).setCell (p := ⟨g, 2, none⟩) hg c).setCell (p := ⟨g, 3, none⟩) hg d).setCell (p := ⟨g, 4, none⟩) hg e).setCell (p := ⟨g, 5, none⟩) hg f).setCell (p := ⟨g, 6, none⟩) hg g2).setCell (p := ⟨g, 7, none⟩) hg h
set_option maxHeartbeats 2000000 in
set_option maxRecDepth 100000 in
theorem rdFold_any (t : Nat) (d : Dv) (w : World) (ht : t ≤ 65535) (hh : d.host.size ≤ 140737488355328) (hm : d.mail.size ≤ 140737488355328) :
    Calls Tryz.prog 34 #[.int .u16 t, d.val] w fun e w' => e = .returned (d.fold t).val ∧ Below w.heap.size w w' := by
  have HNM := Lib.hid (fun W : World => rdNames_any t W ht)
  unfold Dv.fold
  have HF1 := Lib.hid (fun W : World => refFold_any d.host W hh)
  have HF2 := Lib.hid (fun W : World => refFold_any d.mail W hm)
  generalize Nm.fold d.host.data.toList = fh at *
  generalize Nm.fold d.mail.data.toList = fm at *
  obtain ⟨h, hih⟩ : ∃ h, Rd.isHost t = h := ⟨_, rfl⟩
  obtain ⟨m, him⟩ : ∃ m, Rd.isMail t = m := ⟨_, rfl⟩
  rw [hih, him] at HNM ⊢
  clear hih him
  unfold Dv.val
  have hX0 := (Has.fresh w 34 #[.string d.raw, .string d.host, .string d.mail, .int .u32 d.n0, .int .u32 d.n1, .int .u32 d.n2, .int .u32 d.n3, .int .u32 d.n4]).alloc (.cells #[.string ⟨#[]⟩, .string ⟨#[]⟩, .string ⟨#[]⟩, .int .u32 0, .int .u32 0, .int .u32 0, .int .u32 0, .int .u32 0] 34)
  have hZ0 := Has.fresh (w.alloc (.cells #[.string d.raw, .string d.host, .string d.mail, .int .u32 d.n0, .int .u32 d.n1, .int .u32 d.n2, .int .u32 d.n3, .int .u32 d.n4] 34)) 34 #[.string ⟨#[]⟩, .string ⟨#[]⟩, .string ⟨#[]⟩, .int .u32 0, .int .u32 0, .int .u32 0, .int .u32 0, .int .u32 0]
  rw [World.size_alloc] at hZ0
  have HX := Lib.hid hX0
  have HZ := Lib.hid hZ0
  have HB0 : Hid (Below w.heap.size w ((w.alloc (.cells #[.string d.raw, .string d.host, .string d.mail, .int .u32 d.n0, .int .u32 d.n1, .int .u32 d.n2, .int .u32 d.n3, .int .u32 d.n4] 34)).alloc (.cells #[.string ⟨#[]⟩, .string ⟨#[]⟩, .string ⟨#[]⟩, .int .u32 0, .int .u32 0, .int .u32 0, .int .u32 0, .int .u32 0] 34))) := ((Below.refl _ w).alloc (Nat.le_refl _) _).alloc (by simp) _
  clear hX0 hZ0
  cases h with
  | false =>
    cases m with
    | false =>
      simp only [Bool.false_eq_true, if_false]
      go_enter Tryz.func34, Tryz.ntmps34
      go_wp2_with (go_at_call 56; refine (HNM.out _).mono ?_; rintro e' w1 ⟨rfl, rfl⟩)
      have hZ := (Has.fresh (w.alloc (.cells #[.string d.raw, .string d.host, .string d.mail, .int .u32 d.n0, .int .u32 d.n1, .int .u32 d.n2, .int .u32 d.n3, .int .u32 d.n4] 34)) 34 #[.string d.raw, .string d.host, .string d.mail, .int .u32 d.n0, .int .u32 d.n1, .int .u32 d.n2, .int .u32 d.n3, .int .u32 d.n4])
      rw [World.size_alloc] at hZ
      refine bodyPost_ret (results_cell_row rfl _ _ (w.heap.size + 1) 34 _ _ _ rfl hZ Tryz.underlying34 rfl (by kernel_rfl)) rfl ?_
      exact ⟨rfl, ((Below.refl _ w).alloc (Nat.le_refl _) _).alloc (by simp) _⟩
    | true =>
      simp only [Bool.false_eq_true, if_false, if_true]
      go_enter Tryz.func34, Tryz.ntmps34
      go_wp2_with (first
        | (go_at_call 56; refine (HNM.out _).mono ?_; rintro e' w1 ⟨rfl, rfl⟩)
        | (go_at_call 28; (with_reducible refine (HF2.out _).mono ?_); rintro e' w3 ⟨rfl, B3⟩; have HX3 := Lib.hid (HX.out.below B3 (by simp; omega)); have HZ3 := Lib.hid (HZ.out.below B3 (by simp)); have HB3 := Lib.hid (HB0.out.trans (B3.mono (by simp; omega))); have x3 := eight HX3.out; have z3 := eight HZ3.out; have hs3 := B3.size; simp only [World.size_alloc] at hs3; obtain ⟨xa3, xb3, xc3, xd3, xe3, xf3, xg3, xh3, xy3⟩ := x3; obtain ⟨_, _, _, _, _, _, _, _, zy3⟩ := z3; have fx3 := xy3 1; have fx23 := xy3 2; clear B3))
      have hZ := eight_set (a := .string d.raw) (b := .string d.host) (c := .string ⟨fm.toArray⟩) (d := .int .u32 d.n0) (e := .int .u32 d.n1) (f := .int .u32 d.n2) (g2 := .int .u32 d.n3) (h := .int .u32 d.n4) (HZ3.out.far (p := ⟨w.heap.size, 2, none⟩) (by simp) (.string ⟨fm.toArray⟩))
      refine bodyPost_ret (results_cell_row rfl _ _ (w.heap.size + 1) 34 _ _ _ rfl hZ Tryz.underlying34 rfl (by kernel_rfl)) rfl ?_
      exact ⟨rfl, eight_below (HB3.out.setCell (p := ⟨w.heap.size, 2, none⟩) (Nat.le_refl _) _) (Nat.le_succ _)⟩
  | true =>
    cases m with
    | false =>
      simp only [Bool.false_eq_true, if_false, if_true]
      go_enter Tryz.func34, Tryz.ntmps34
      go_wp2_with (first
        | (go_at_call 56; refine (HNM.out _).mono ?_; rintro e' w1 ⟨rfl, rfl⟩)
        | (go_at_call 28; (with_reducible refine (HF1.out _).mono ?_); rintro e' w2 ⟨rfl, B2⟩; have HX2 := Lib.hid (HX.out.below B2 (by simp; omega)); have HZ2 := Lib.hid (HZ.out.below B2 (by simp)); have HB2 := Lib.hid (HB0.out.trans (B2.mono (by simp; omega))); have x2 := eight HX2.out; have z2 := eight HZ2.out; have hs2 := B2.size; simp only [World.size_alloc] at hs2; obtain ⟨xa2, xb2, xc2, xd2, xe2, xf2, xg2, xh2, xy2⟩ := x2; obtain ⟨_, _, _, _, _, _, _, _, zy2⟩ := z2; have fx2 := xy2 1; have fx22 := xy2 2; clear B2))
      have hZ := eight_set (a := .string d.raw) (b := .string ⟨fh.toArray⟩) (c := .string d.mail) (d := .int .u32 d.n0) (e := .int .u32 d.n1) (f := .int .u32 d.n2) (g2 := .int .u32 d.n3) (h := .int .u32 d.n4) (HZ2.out.far (p := ⟨w.heap.size, 1, none⟩) (by simp) (.string ⟨fh.toArray⟩))
      refine bodyPost_ret (results_cell_row rfl _ _ (w.heap.size + 1) 34 _ _ _ rfl hZ Tryz.underlying34 rfl (by kernel_rfl)) rfl ?_
      exact ⟨rfl, eight_below (HB2.out.setCell (p := ⟨w.heap.size, 1, none⟩) (Nat.le_refl _) _) (Nat.le_succ _)⟩
    | true =>
      simp only [if_true]
      go_enter Tryz.func34, Tryz.ntmps34
      go_wp2_with (first
        | (go_at_call 56; refine (HNM.out _).mono ?_; rintro e' w1 ⟨rfl, rfl⟩)
        | (go_at_call 28; (with_reducible refine (HF1.out _).mono ?_); rintro e' w2 ⟨rfl, B2⟩; have HX2 := Lib.hid (HX.out.below B2 (by simp; omega)); have HZ2 := Lib.hid (HZ.out.below B2 (by simp)); have HB2 := Lib.hid (HB0.out.trans (B2.mono (by simp; omega))); have x2 := eight HX2.out; have z2 := eight HZ2.out; have hs2 := B2.size; simp only [World.size_alloc] at hs2; obtain ⟨xa2, xb2, xc2, xd2, xe2, xf2, xg2, xh2, xy2⟩ := x2; obtain ⟨_, _, _, _, _, _, _, _, zy2⟩ := z2; have fx2 := xy2 1; have fx22 := xy2 2; clear B2)
        | (go_at_call 28; (with_reducible refine (HF2.out _).mono ?_); rintro e' w3 ⟨rfl, B3⟩; have HX3 := Lib.hid ((HX2.out.set 1 (.string ⟨fh.toArray⟩)).below B3 (by simp; omega)); have HZ3 := Lib.hid ((HZ2.out.far (p := ⟨w.heap.size, 1, none⟩) (by simp) (.string ⟨fh.toArray⟩)).below B3 (by simp; omega)); have HB3 := Lib.hid ((HB2.out.setCell (p := ⟨w.heap.size, 1, none⟩) (Nat.le_refl _) (.string ⟨fh.toArray⟩)).trans (B3.mono (by simp; omega))); have x3 := eight HX3.out; have z3 := eight HZ3.out; have hs3 := B3.size; simp only [World.size_setCell] at hs3; obtain ⟨xa3, xb3, xc3, xd3, xe3, xf3, xg3, xh3, xy3⟩ := x3; obtain ⟨_, _, _, _, _, _, _, _, zy3⟩ := z3; have fx3 := xy3 1; have fx23 := xy3 2; clear B3))
      have hZ := eight_set (a := .string d.raw) (b := .string ⟨fh.toArray⟩) (c := .string ⟨fm.toArray⟩) (d := .int .u32 d.n0) (e := .int .u32 d.n1) (f := .int .u32 d.n2) (g2 := .int .u32 d.n3) (h := .int .u32 d.n4) (HZ3.out.far (p := ⟨w.heap.size, 2, none⟩) (by simp) (.string ⟨fm.toArray⟩))
      refine bodyPost_ret (results_cell_row rfl _ _ (w.heap.size + 1) 34 _ _ _ rfl hZ Tryz.underlying34 rfl (by kernel_rfl)) rfl ?_
      exact ⟨rfl, eight_below (HB3.out.setCell (p := ⟨w.heap.size, 2, none⟩) (Nat.le_refl _) _) (Nat.le_succ _)⟩
end Go.Proofs.YtgcaephfhfkjcaaGreatDoor
