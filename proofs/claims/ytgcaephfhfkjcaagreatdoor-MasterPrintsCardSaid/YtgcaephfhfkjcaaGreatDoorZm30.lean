/- Texts of the proofs, merged. -/
import Derived.Test.YtgcaephfhfkjcaaGreatDoorZm28
import Derived.Test.YtgcaephfhfkjcaaGreatDoorZm29
import Derived.Test.YtgcaephfhfkjcaaGreatDoorZm2
import Derived.Shelf.Strings.Builder1
namespace Go.Proofs.YtgcaephfhfkjcaaGreatDoor
open Go.RowKit

namespace Mp
/-- what a record may be. -/
def Fine (r : Rv) : Prop := r.ty ≤ 65535 ∧ r.ttl ≤ 4294967295 ∧ r.d.fits ∧ r.short ∧ r.d.raw.size ≤ 8796093022208
def headL (o : Nm.By) : Nm.By := [36, 79, 82, 73, 71, 73, 78, 32] ++ Nm.text (Nm.fold o) ++ [10]
def textL (o : Nm.By) (l : List Rv) : Nm.By := headL o ++ l.flatMap lineL
/-- what Print answers. -/
def printV (o : Nm.By) (l : List Rv) : Value :=
  if Rd.nm o then (if bad l = 0 then (if (textL o l).length ≤ 262144 then .tuple #[sv (textL o l), .int .i64 0] else .tuple #[.string ⟨#[]⟩, .int .i64 2]) else .tuple #[.string ⟨#[]⟩, .int .i64 (bad l : Nat)])
  else .tuple #[.string ⟨#[]⟩, .int .i64 11]
theorem lineL_len {r : Rv} (h : Fine r) (hk : okL r = 0) : (lineL r).length ≤ 16000000000001 := by
  have := words_len r h.1 h.2.2.1 h.2.1 (okL_zero hk).2.2.2
  unfold lineL
  rw [List.length_append]
  simp
  omega
theorem headL_len (o : Nm.By) : (headL o).length ≤ 40009 := by
  have := text_few (Nm.fold o)
  unfold headL
  simp
  omega
theorem bad_mem : ∀ {l : List Rv}, bad l = 0 → ∀ r ∈ l, okL r = 0
  | [], _, r, h => by cases h
  | x :: l, hb, r, h => by
    rw [bad] at hb
    by_cases e : okL x = 0
    · rw [if_pos e] at hb
      rcases List.mem_cons.1 h with rfl | h
      · exact e
      · exact bad_mem hb r h
    · rw [if_neg e] at hb
      exact absurd hb e
theorem flat_le : ∀ {l : List Rv}, (∀ r ∈ l, Fine r) → bad l = 0 → (l.flatMap lineL).length ≤ l.length * 16000000000001
  | [], _, _ => by simp
  | x :: l, hf, hb => by
    have hx := bad_mem hb x (List.mem_cons_self ..)
    have h1 := lineL_len (hf x (List.mem_cons_self ..)) hx
    have hb2 : bad l = 0 := by
      rw [bad, if_pos hx] at hb
      exact hb
    have h2 := flat_le (fun r h => hf r (List.mem_cons_of_mem _ h)) hb2
    rw [List.flatMap_cons, List.length_append, List.length_cons]
    omega
theorem textL_snoc (o : Nm.By) (l : List Rv) (r : Rv) : textL o (l ++ [r]) = textL o l ++ lineL r := by
  unfold textL
  simp
theorem textL_len {o : Nm.By} {l : List Rv} (hf : ∀ r ∈ l, Fine r) (hb : bad l = 0) : (textL o l).length ≤ 40009 + l.length * 16000000000001 := by
  have h1 := headL_len o
  have h2 := flat_le hf hb
  unfold textL
  rw [List.length_append]
  omega
end Mp
set_option maxHeartbeats 1000000 in
set_option maxRecDepth 100000 in
theorem refPrint_any (o : ByteArray) (rs : List Rv) (A : Option Addr) (c : Nat) (w : World) (ho : o.size ≤ 140737488355328) (hA : Srow rcl 12 w 0 w.heap.size A rs) (hn : rs.length ≤ 40) (hF : ∀ r ∈ rs, Mp.Fine r) :
    Calls Tryz.prog 10 #[.string o, .slice A rs.length c] w fun e w' => e = .returned (Mp.printV o.data.toList rs) ∧ Below w.heap.size w w' := by
  have HN := Lib.hid (fun W : World => rdIs_any o W ho)
  have HFO := Lib.hid (fun W : World => refFold_any o W ho)
  have HTX := Lib.hid (fun W : World => (show Calls Tryz.prog 27 #[.string ⟨(Nm.fold o.data.toList).toArray⟩] W fun e w' => e = .returned (sv (Nm.text (Nm.fold o.data.toList))) ∧ Below W.heap.size W w' from by
    have h := refText_any ⟨(Nm.fold o.data.toList).toArray⟩ W (by rw [folded_size]; exact ho)
    rw [show (⟨(Nm.fold o.data.toList).toArray⟩ : ByteArray).data.toList = Nm.fold o.data.toList from by simp] at h
    exact h))
  have HA := Lib.hid hA
  have HLIN := Lib.hid (fun (r : Rv) (h : Mp.Fine r) (W : World) => (show Calls Tryz.prog 29 #[.agg r.cells] W (fun e w' => e = .returned (Mp.lineV r) ∧ Below W.heap.size W w') from refLine_any r W h.1 h.2.2.1 h.2.2.2.1 h.2.2.2.2))
  have hi12 : (Tryz.prog.info? 36).map (·.size) = some 12 := by kernel_rfl
  have HI := Lib.hid hi12
  have iN : ¬ (4096 : Int) < (rs.length : Int) := by omega
  have HD : Hid (Mp.textL o.data.toList [] = [36, 79, 82, 73, 71, 73, 78, 32] ++ Nm.text (Nm.fold o.data.toList) ++ [10] ∧ (Nm.text (Nm.fold o.data.toList)).length ≤ 40000) := ⟨by unfold Mp.textL Mp.headL; simp, text_few _⟩
  unfold Mp.printV
  clear hi12 ho hA
  cases hno : Rd.nm o.data.toList with
  | false =>
    rw [hno] at HN
    simp only [Bool.false_eq_true, if_false]
    go_enter Tryz.func10, Tryz.ntmps10
    go_wp2_with (go_at_call 13; refine (HN.out _).mono ?_; rintro e w1 ⟨rfl, B1⟩)
    go_ret2
    exact ⟨rfl, B1⟩
  | true =>
    rw [hno] at HN
    simp only [if_true]
    generalize (⟨(Nm.fold o.data.toList).toArray⟩ : ByteArray) = N at *
    obtain ⟨V, hV⟩ : ∃ V, (if Mp.bad rs = 0 then (if (Mp.textL o.data.toList rs).length ≤ 262144 then Value.tuple #[sv (Mp.textL o.data.toList rs), .int .i64 0] else .tuple #[.string ⟨#[]⟩, .int .i64 2]) else .tuple #[.string ⟨#[]⟩, .int .i64 (Mp.bad rs : Nat)]) = V := ⟨_, rfl⟩
    rw [hV]
    have HV := Lib.hid hV
    clear hV
    generalize Nm.text (Nm.fold o.data.toList) = T1 at *
    generalize hO : o.data.toList = O at *
    have k1 : ¬ 9223372036854775807 < 8 + T1.length := by have := HD.out.2; omega
    have k2 : ¬ 9223372036854775807 < 8 + T1.length + 1 := by have := HD.out.2; omega
    clear hno hO
    go_enter Tryz.func10, Tryz.ntmps10
    go_wp2_with (first
      | (go_at_call 13; refine (HN.out _).mono ?_; rintro e w1 ⟨rfl, B1⟩; have HB1 := Lib.hid B1; clear B1)
      | (go_at_call 28; refine (HFO.out _).mono ?_; rintro e w2 ⟨rfl, B2⟩; have HB2 := Lib.hid (HB1.out.trans (B2.mono HB1.out.size)); clear B2)
      | (go_at_call 27; refine (HTX.out _).mono ?_; rintro e w3 ⟨rfl, B3⟩; have HB3 := Lib.hid (HB2.out.trans (B3.mono HB2.out.size)); clear B3))
    go_loopw [6, 7] (fun s6 s7 wr => ∃ i : Nat, s7 = .int .i64 i ∧ i ≤ rs.length ∧ s6 = sv (Mp.textL O (rs.take i)) ∧ Mp.bad (rs.take i) = 0 ∧ Hid (Below w.heap.size w wr)) (fun _ s7 _ => rs.length - (intOf s7).toNat)
    case atStart =>
      refine ⟨0, rfl, Nat.zero_le _, ?_, rfl, HB3⟩
      rw [List.take_zero, HD.out.1]
      simp
      try (apply ByteArray.ext; simp)
    case round =>
      obtain ⟨i, rfl, hi, rfl, hb, HBr⟩ := hrel
      have hls := Mp.textL_len (o := O) (fun r h => hF r (List.mem_of_mem_take h)) hb
      rw [List.length_take, Nat.min_eq_left hi] at hls
      by_cases hlt : i < rs.length
      · obtain ⟨g, o1, rfl, _, _, hc⟩ := (HA.out.keep HBr.out).at_ hlt
        have HC : Hid (wr.rangeAt g (o1 + i * 12) (rcl rs[i])) := hc
        have hfi := hF rs[i] (List.getElem_mem hlt)
        have HL1 := Lib.hid (HLIN.out rs[i] hfi)
        have htk : rs.take (i + 1) = rs.take i ++ [rs[i]] := List.take_succ_eq_append_getElem hlt
        have HS := Lib.hid (Mp.textL_snoc O (rs.take i) rs[i])
        have hbs := Mp.bad_snoc (rs.take i) rs[i] hb
        rw [← htk] at HS hbs
        have hsp : Mp.okL rs[i] ≠ 0 → Mp.bad rs = Mp.okL rs[i] := fun h => by
          have h2 := Mp.bad_app (rs.take (i + 1)) (rs.drop (i + 1)) (by rw [hbs]; exact h)
          rw [List.take_append_drop] at h2
          rw [h2, hbs]
        have hll : Mp.okL rs[i] = 0 → (Mp.lineL rs[i]).length ≤ 16000000000001 := Mp.lineL_len hfi
        have i1 : (i : Int) < (rs.length : Int) := by omega
        have i0 : (0 : Int) ≤ (i : Int) := by omega
        unfold Mp.lineV at HL1
        have HRS := Lib.hid hbs
        have HSP := Lib.hid hsp
        clear hc htk hbs hsp hfi
        by_cases hk : Mp.okL rs[i] = 0
        · rw [if_pos hk] at HL1
          have hl9 := hll hk
          rw [hk] at HRS
          generalize rs[i] = r at *
          generalize Mp.textL O (rs.take i) = X at *
          generalize Mp.lineL r = L at *
          have k3 : ¬ 9223372036854775807 < X.length + L.length := by omega
          clear hll hls hl9 hb hk
          go_wp2_with (first
            | (refine wpList_load_mid rfl 36 (.tmp 30) rfl g _ rfl (rcl r) _ HC.out Tryz.underlying36 rfl HI.out ?_)
            | (go_at_call 29; refine (HL1.out _).mono ?_; rintro e w4 ⟨rfl, B4⟩; have HB4 := Lib.hid (HBr.out.trans (B4.mono HBr.out.size)); clear B4))
          go_roundw
          case rel =>
            refine ⟨i + 1, by go_num, by omega, ?_, HRS.out, HB4⟩
            rw [HS.out]
            first | rfl | (simp; done) | (simp; apply ByteArray.ext; simp)
          case measure => simp [intOf]; omega
        · rw [if_neg hk] at HL1
          have i9 : ¬ ((Mp.okL rs[i] : Nat) : Int) = 0 := by omega
          generalize rs[i] = r at *
          generalize Mp.textL O (rs.take i) = X at *
          generalize Mp.okL r = K9 at *
          clear hll hls hb
          go_wp2_with (first
            | (refine wpList_load_mid rfl 36 (.tmp 30) rfl g _ rfl (rcl r) _ HC.out Tryz.underlying36 rfl HI.out ?_)
            | (go_at_call 29; refine (HL1.out _).mono ?_; rintro e w4 ⟨rfl, B4⟩; have HB4 := Lib.hid (HBr.out.trans (B4.mono HBr.out.size)); clear B4))
          go_ret2
          refine ⟨?_, HB4.out⟩
          rw [← HV.out, HSP.out hk, if_neg hk]
          rfl
      · have hie : i = rs.length := by omega
        subst hie
        rw [List.take_length] at hb hls ⊢
        have i1 : ¬ (rs.length : Int) < (rs.length : Int) := by omega
        have HV2 := HV.out
        rw [if_pos hb] at HV2
        have HV3 := Lib.hid HV2
        clear HV2
        generalize Mp.textL O rs = X at *
        by_cases hx : X.length ≤ 262144
        · have ix : ¬ (262144 : Int) < (X.length : Int) := by omega
          go_wp2
          go_ret2
          refine ⟨?_, HBr.out⟩
          rw [← HV3.out, if_pos hx]
          rfl
        · have ix : (262144 : Int) < (X.length : Int) := by omega
          go_wp2
          go_ret2
          refine ⟨?_, HBr.out⟩
          rw [← HV3.out, if_neg hx]
          rfl
end Go.Proofs.YtgcaephfhfkjcaaGreatDoor
namespace Go.Proofs.YtgcaephfhfkjcaaGreatDoor
open Go.RowKit

set_option maxHeartbeats 1000000 in
set_option maxRecDepth 100000 in
theorem copyCheck_any (B b : Nat) (bs : List Value) (w : World) (h : Lib.IsBuilder 58 5 B b bs w) :
    Calls Tryz.prog 37 #[.pointer (some ⟨b, 0, none⟩)] w fun e w' => e = .returned (.tuple #[]) ∧ Lib.BuilderAt 58 5 B b (.pointer (some ⟨b, 0, none⟩)) bs w' ∧ Below B w w' := by
  have hsz : (Tryz.prog.info? 58).map (·.size) = some 2 := by kernel_rfl
  obtain ⟨j, hj, hjs⟩ := Option.map_eq_some_iff.1 hsz
  rcases h with h | h
  · have hsh := h.shape
    have hfz := h.frozen0
    have h0 := h.cell0
    have HF := Lib.hid (⟨h.used _, (Below.refl B w).setCell (p := ⟨b, 0, none⟩) h.1 (.pointer (some ⟨b, 0, none⟩))⟩ : Lib.BuilderAt 58 5 B b (.pointer (some ⟨b, 0, none⟩)) bs (w.setCell ⟨b, 0, none⟩ (.pointer (some ⟨b, 0, none⟩))) ∧ Below B w (w.setCell ⟨b, 0, none⟩ (.pointer (some ⟨b, 0, none⟩))))
    clear h
    go_enter Tryz.func37, Tryz.ntmps37
    go_wp2
    rw [Lib.run_to_unsafe w ⟨b, 0, none⟩ Tryz.underlying55 Tryz.underlying117 hj (by rw [hjs]; decide) hsh (Nat.zero_lt_succ 1)]
    simp only [Result.andThen]
    rw [Oper.upon_value]
    go_wp2
    rw [run_callFunc_extern Tryz.func60 (by kernel_rfl) (by kernel_rfl) (by kernel_rfl) (e := Extern.AbiNoEscape.same) (by kernel_rfl)]
    rw [Lib.run_noEscape]
    simp only [Result.andThen]
    rw [Oper.upon_value]
    go_wp2
    rw [Lib.run_from_unsafe w ⟨b, 0, none⟩ Tryz.underlying117 Tryz.underlying55 hj hsh (by kernel_rfl)]
    simp only [Result.andThen]
    rw [Oper.upon_value]
    go_wp2
    go_end0
    exact ⟨rfl, HF.out⟩
  · have h0 := h.cell0
    have HF := Lib.hid h
    clear h
    go_enter Tryz.func37, Tryz.ntmps37
    go_wp2
    rw [Lib.run_neq_ptr_same w _ Tryz.underlying55 hj]
    go_wp2
    go_end0
    exact ⟨rfl, HF.out, Below.refl B _⟩
set_option maxHeartbeats 1000000 in
set_option maxRecDepth 100000 in
theorem bldWrite_any (B b : Nat) (bs : List Value) (s : ByteArray) (w : World) (h : Lib.IsBuilder 58 5 B b bs w) (hlen : bs.length + s.size ≤ 140737488355328) (hBw : B ≤ w.heap.size) :
    Calls Tryz.prog 21 #[.pointer (some ⟨b, 0, none⟩), .string s] w fun e w' => e = .returned (.tuple #[.int .i64 s.size, .nilIface]) ∧ Lib.BuilderAt 58 5 B b (.pointer (some ⟨b, 0, none⟩)) (bs ++ Lib.strCells s) w' ∧ Below B w w' := by
  obtain ⟨i0, hi, hz0, hz1, hz2⟩ := info_parts Tryz.infoByte
  have HC := Lib.hid (copyCheck_any B b bs w h)
  clear h
  go_enter Tryz.func21, Tryz.ntmps21
  go_wp2_with (go_at_call 37; refine HC.out.mono ?_)
  rintro e w1 ⟨rfl, ⟨hB, v, hbk, hown, hne⟩, hb1⟩
  have c0 : w1.cell? ⟨b, 0, none⟩ = some (.pointer (some ⟨b, 0, none⟩)) := by rw [Lib.cell_of_heap hbk]; rfl
  have c1 : w1.cell? ⟨b, 1, none⟩ = some v := by rw [Lib.cell_of_heap hbk]; rfl
  go_wp2_with (at_builtin; refine Lib.wpList_append_own_string _ rfl _ _ 56 9 rfl B 5 i0 Tryz.underlying56 Tryz.underlying9 hi hz0 hz1 hz2 _ _ _ rfl hown s rfl ?c3 ?c4 ?c5 ?_)
  case c3 => unfold maxLen; omega
  case c4 => omega
  case c5 => have := hb1.size; omega
  intro v' w2 hown' hgrow _
  have hlt : b < w1.heap.size := (Array.getElem?_eq_some_iff.1 hbk).1
  have hb2 : w2.heap[b]? = some (.cells #[.pointer (some ⟨b, 0, none⟩), v] 58 (0, 0)) := (hgrow.block b hlt (fun e => hne e.symm)).trans hbk
  have d0 : w2.cell? ⟨b, 0, none⟩ = some (.pointer (some ⟨b, 0, none⟩)) := by rw [Lib.cell_of_heap hb2]; rfl
  have d1 : w2.cell? ⟨b, 1, none⟩ = some v := by rw [Lib.cell_of_heap hb2]; rfl
  have f1 : w2.frozen? ⟨b, 1, none⟩ = false := Lib.frozen_of_heap hb2 1
  obtain ⟨ao, cap, rfl⟩ := own_form hown'
  go_wp2
  go_ret2
  refine ⟨rfl, ?_, ?_⟩
  · exact Lib.BuilderAt.put hB hb2 (bs' := bs ++ Lib.strCells s) (by simpa [Lib.strCells_length] using hown') (by decide)
  · exact (hb1.grown hgrow (by have := hb1.size; omega) (fun k hk => (hown.lt k hk).1)).setCell (p := ⟨b, 1, none⟩) hB _
end Go.Proofs.YtgcaephfhfkjcaaGreatDoor
