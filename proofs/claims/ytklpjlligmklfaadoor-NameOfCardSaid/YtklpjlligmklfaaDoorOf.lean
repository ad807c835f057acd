/- Of, and the labels of a name put into a row. -/
import Derived.Test.YtklpjlligmklfaaDoorRow
namespace Go.Proofs.YtklpjlligmklfaaDoor
open Go.RowKit Go.Lib

/-- the first label that may not be. -/
def badL (l : List UInt8) : Bool := !Nm.good l
def ofR (ls : List (List UInt8)) : Value := if ls.any badL then .tuple #[.string ⟨#[]⟩, .int .i64 10] else nameR ls

set_option maxHeartbeats 1000000 in
set_option maxRecDepth 100000 in
theorem Of_any (w : World) (v : Value) (ls : List (List UInt8)) (hr : Rd w w.heap.size v ls) (hl : ls.length ≤ 140737488355328) (hm : ∀ l ∈ ls, l.length ≤ 140737488355328) :
    Calls Tryd.prog 4 #[v] w fun e w' => e = .returned (ofR ls) ∧ Below w.heap.size w w' := by
  obtain ⟨A, c, rfl, _, ra⟩ := hr
  have RA := Lib.hid ra
  have HM := Lib.hid hm
  clear ra hm
  go_enter Tryd.func4, Tryd.ntmps4
  go_wp2
  have hst : RowIs _ w.heap.size w.heap.size [] := RowIs.start w w.heap.size
  have hb0 : Below w.heap.size w (w.alloc (.cells #[.slice none 0 0, .bool false] 35)) := (Below.refl _ _).alloc (Nat.le_refl _) _
  generalize w.alloc (.cells #[.slice none 0 0, .bool false] 35) = w1 at *
  have HS := Lib.hid hst
  clear hst
  go_loopw [10] (fun i wr => ∃ k : Nat, i = .int .i64 k ∧ k ≤ ls.length ∧ RowIs wr w.heap.size w.heap.size (ls.take k) ∧ (ls.take k).any badL = false ∧ Below w.heap.size w wr) (fun i _ => ls.length - (RowKit.intOf i).toNat)
  case atStart => exact ⟨0, rfl, Nat.zero_le _, HS.out, rfl, hb0⟩
  case round =>
    obtain ⟨k, rfl, hk, hrow, hgood, hb⟩ := hrel
    have HW := Lib.hid hrow
    have HG := Lib.hid hgood
    have HB := Lib.hid hb
    clear hrow hgood hb hb0 HS
    by_cases hlt : k < ls.length
    · obtain ⟨g', o', rfl, hg', ca⟩ := RA.out (by omega)
      have hc : wr.cell? ⟨g', o' + k, none⟩ = some (sv ls[k]) := (HB.out.cell (p := ⟨g', o' + k, none⟩) hg').trans (ca k hlt)
      have hml := HM.out ls[k] (List.getElem_mem hlt)
      have hts : ls.take (k + 1) = ls.take k ++ [ls[k]] := List.take_succ_eq_append_getElem hlt
      have hmem : ls[k] ∈ ls := List.getElem_mem hlt
      have HTS := Lib.hid hts
      have HMEM := Lib.hid hmem
      have HGS : Hid (Nm.good ls[k] = true → (ls.take (k + 1)).any badL = false) := fun h => by rw [hts, List.any_append, HG.out]; simp [badL, h]
      have HGN : Hid (Nm.good ls[k] = false → ls.any badL = true) := fun h => List.any_eq_true.2 ⟨_, hmem, by simp [badL, h]⟩
      clear ca hts hmem
      generalize ls[k] = l at *
      by_cases hg : 1 ≤ l.length ∧ l.length ≤ 63
      · go_wp2_with (first | (go_at_call 10; refine (add_ok _ w.heap.size w.heap.size _ l HW.out (Nat.le_refl _) hg).mono ?_; rintro e w2 ⟨rfl, hb2, ht2, hr2⟩))
        go_roundw
        case rel => exact ⟨k + 1, by go_num, by omega, by rw [HTS.out]; exact hr2, HGS.out (good_true hg), HB.out.trans hb2⟩
        case measure => simp [RowKit.intOf]; omega
      · have HG2 := Lib.hid hg
        clear hg
        go_wp2_with (first | (go_at_call 10; refine (add_no _ w.heap.size w.heap.size _ l HW.out (Nat.le_refl _) hml HG2.out).mono ?_; rintro e w2 ⟨rfl, hb2, ht2, hr2⟩))
        go_ret2
        refine ⟨?_, HB.out.trans hb2⟩
        unfold ofR
        rw [if_pos (HGN.out (good_false HG2.out))]; rfl
    · obtain rfl : k = ls.length := by omega
      have hw : RowIs wr w.heap.size w.heap.size ls := by have := HW.out; rwa [List.take_length] at this
      have hgo : ls.any badL = false := by have := HG.out; rwa [List.take_length] at this
      have HW' := Lib.hid hw
      have HGO := Lib.hid hgo
      clear hw hgo HW HG
      by_cases hl : 255 < (Nm.body ls).length + 1
      · have HN := Lib.hid (rowName_long _ _ _ _ HW'.out hl)
        have HE : Hid (ofR ls = .tuple #[.string ⟨#[]⟩, .int .i64 2]) := by rw [Hid, ofR, HGO.out, nameR, if_pos hl]; rfl
        clear hl
        go_wp2_with (first | (go_at_call 11; refine HN.out.mono ?_; rintro e w2 ⟨rfl, rfl⟩))
        go_ret2
        exact ⟨by rw [HE.out]; rfl, HB.out⟩
      · have HN := Lib.hid (rowName_ok _ _ _ _ HW'.out hl)
        have HE : Hid (ofR ls = .tuple #[sv (Nm.glue ls), .int .i64 0]) := by rw [Hid, ofR, HGO.out, nameR, if_neg hl]; rfl
        clear hl
        go_wp2_with (first | (go_at_call 11; refine HN.out.mono ?_; rintro e w2 ⟨rfl, rfl⟩))
        go_ret2
        exact ⟨by rw [HE.out]; rfl, HB.out⟩

set_option maxHeartbeats 1000000 in
set_option maxRecDepth 100000 in
theorem addName_any (w : World) (g B : Nat) (ls ps : List (List UInt8)) (s : ByteArray) (h : RowIs w g B ls) (hB : B ≤ g) (hs : s.size ≤ 140737488355328) (hn : Nm.split s.data.toList = some ps) :
    Calls Tryd.prog 20 #[.pointer (some ⟨g, 0, none⟩), .string s] w fun e w' => e = .returned (.tuple #[]) ∧ Below B w w' ∧ RowIs w' g B (ls ++ ps) := by
  have hlo : labelsOf s.data.toList = ps := by unfold labelsOf; rw [hn]; rfl
  have HL := Lib.hid (Labels_any s w hs)
  rw [hlo] at HL
  have HR := Lib.hid h
  have HN := Lib.hid hn
  clear h hn hlo
  go_enter Tryd.func20, Tryd.ntmps20
  go_wp2_with (first | (go_at_call 8; refine HL.out.mono ?_; rintro e w1 ⟨v, rfl, hown, hb⟩; obtain ⟨ad, cp, rfl⟩ := own_form hown))
  have hr1 : RowIs w1 g B ls := HR.out.below hb (Nat.le_refl _)
  have hbB : B ≤ w.heap.size := Nat.le_trans hB (Nat.le_of_lt HR.out.lt)
  have hB1 : Below B w w1 := hb.mono hbB
  have HR1 := Lib.hid hr1
  have HO1 := Lib.hid hown
  have hpl := few HN.out
  have HGP := Lib.hid (Nm.split_some.1 HN.out).2.1
  clear hr1 hown hb
  go_loopw [9] (fun i wr => ∃ k : Nat, i = .int .i64 k ∧ k ≤ ps.length ∧ RowIs wr g B (ls ++ ps.take k) ∧ wr.ownsRow w.heap.size 9 1 (.slice ad ps.length cp) ps.length (svs ps) ∧ Below B w wr) (fun i _ => ps.length - (RowKit.intOf i).toNat)
  case atStart => exact ⟨0, rfl, Nat.zero_le _, by simpa using HR1.out, HO1.out, hB1⟩
  case round =>
    obtain ⟨k, rfl, hk, hrow, hown, hbw⟩ := hrel
    have HW := Lib.hid hrow
    have HO := Lib.hid hown
    have HB := Lib.hid hbw
    clear hrow hown hbw hB1 HR1 HO1
    by_cases hlt : k < ps.length
    · obtain ⟨g', rfl, hcap, ca⟩ := own_at HO.out hlt
      have hc : wr.cell? ⟨g', k, none⟩ = some (sv ps[k]) := ca k _ (by simp [svs, hlt])
      have hgl := HGP.out ps[k] (List.getElem_mem hlt)
      have hts : ps.take (k + 1) = ps.take k ++ [ps[k]] := List.take_succ_eq_append_getElem hlt
      have HTS := Lib.hid hts
      clear ca hts
      generalize ps[k] = l at *
      go_wp2_with (first | (go_at_call 10; refine (add_ok _ g B _ l HW.out hB hgl).mono ?_; rintro e w2 ⟨rfl, hb2, ht2, hr2⟩))
      go_roundw
      case rel =>
        refine ⟨k + 1, by go_num, by omega, by rw [HTS.out, ← List.append_assoc]; exact hr2, ?_, HB.out.trans hb2⟩
        obtain ⟨v, bs, hH, _⟩ := HW.out
        exact own_typed HO.out ht2 hH
      case measure => simp [RowKit.intOf]; omega
    · obtain rfl : k = ps.length := by omega
      go_wp2
      go_end0
      exact ⟨rfl, HB.out, by have := HW.out; rwa [List.take_length] at this⟩
end Go.Proofs.YtklpjlligmklfaaDoor
