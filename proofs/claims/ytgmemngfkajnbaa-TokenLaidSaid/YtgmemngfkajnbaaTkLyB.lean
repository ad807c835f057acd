/- TokenLaid: how a word stands. -/
import Derived.Test.YtgmemngfkajnbaaTkLyA
import Derived.Test.YtgmemngfkajnbaaTkPlc
namespace Go.Proofs.Ytgmemngfkajnbaa
open Go.RowKit

theorem bv_nums (l : List UInt8) (vs : List Value) (h : bv l = vs) (xs : List UInt8) : bv (xs ++ l) = bv xs ++ vs := by rw [bv_append, h]
theorem cls (c : UInt8) : c.toNat = 10 ∨ c.toNat = 34 ∨ c.toNat = 92 ∨ Tk.blank c = true ∨ c.toNat = 59 ∨ c.toNat = 40 ∨ c.toNat = 41 ∨
    (c.toNat ≠ 10 ∧ c.toNat ≠ 34 ∧ c.toNat ≠ 92 ∧ Tk.blank c = false ∧ c.toNat ≠ 59 ∧ c.toNat ≠ 40 ∧ c.toNat ≠ 41) := by
  cases Tk.blank c <;> simp <;> omega
theorem blank_num {c : UInt8} (h : Tk.blank c = true) : c.toNat = 32 ∨ c.toNat = 9 ∨ c.toNat = 13 := by
  simp only [Tk.blank, Bool.or_eq_true, beq_iff_eq] at h
  omega
theorem blank_not {c : UInt8} (h : ¬(c.toNat = 32 ∨ c.toNat = 9 ∨ c.toNat = 13)) : Tk.blank c = false := by
  cases hb : Tk.blank c with
  | false => rfl
  | true => exact absurd (blank_num hb) h
theorem st_four {q : Bool} {c : UInt8} (h : c.toNat = 10) : Tk.stB q c = [92, 48, 49, 48] := by rw [Tk.stB, if_pos h]
theorem st_two {q : Bool} {c : UInt8} (h : c.toNat ≠ 10) (h2 : c.toNat = 34 ∨ c.toNat = 92 ∨ (Tk.bareB c = true ∧ q = false)) : Tk.stB q c = [92, c] := by rw [Tk.stB, if_neg h, if_pos h2]
theorem st_one {q : Bool} {c : UInt8} (h : c.toNat ≠ 10) (h2 : c.toNat ≠ 34) (h3 : c.toNat ≠ 92) (h4 : Tk.bareB c = false ∨ q = true) : Tk.stB q c = [c] := by
  rw [Tk.stB, if_neg h, if_neg]
  rintro (h5 | h5 | ⟨h5, h6⟩)
  · exact h2 h5
  · exact h3 h5
  · rcases h4 with h4 | h4
    · rw [h4] at h5; cases h5
    · rw [h4] at h6; cases h6
/-- what holds ahead of a byte. -/
def StO (s : ByteArray) (q : Bool) (w : World) (v : Value) (k : Nat) (wr : World) : Prop :=
  wr.ownsRow (w.heap.size + 1) 5 1 v (Tk.stW q (s.data.toList.take k)).length (bv (Tk.stW q (s.data.toList.take k))) ∧ Has wr w.heap.size 35 #[.string s, .bool q] ∧ Below w.heap.size w wr
theorem sto_step {s : ByteArray} {q : Bool} {w W : World} {v : Value} {k n : Nat} {l : List UInt8} {xs : List Value} (hk : k < s.size) (hl : Tk.stB q s[k] = l) (h : W.ownsRow (w.heap.size + 1) 5 1 v n xs) (hx : xs = bv (Tk.stW q (s.data.toList.take k)) ++ bv l)
    (h2 : Has W w.heap.size 35 #[.string s, .bool q]) (h3 : Below w.heap.size w W) : StO s q w v (k + 1) W := by
  have hkl : k < s.data.toList.length := by simpa using hk
  have e1 : s.data.toList.take (k + 1) = s.data.toList.take k ++ [s[k]] := List.take_succ_eq_append_getElem hkl
  have e2 : bv (Tk.stW q (s.data.toList.take (k + 1))) = xs := by rw [e1, Tk.stW_snoc, hl, bv_append, hx]
  have e3 : (Tk.stW q (s.data.toList.take (k + 1))).length = n := by
    have := h.1
    rw [← e2, bv_length] at this
    omega
  exact ⟨by rw [e2, e3]; exact h, h2, h3⟩

set_option maxHeartbeats 4000000 in
set_option maxRecDepth 100000 in
theorem stands_any (s : ByteArray) (q : Bool) (w : World) (hs : s.size ≤ 1048576) : Calls Try.prog 7 #[.agg #[.string s, .bool q]] w fun e w' => e = .returned (.string ⟨(Tk.stW q s.data.toList).toArray⟩) ∧ Below w.heap.size w w' := by
  obtain ⟨i1, hi1, hz1, hs1, hb1⟩ := info_parts Try.infoByte
  have HSZ := Lib.hid hs
  go_enter Try.func7, Try.ntmps7
  go_wp2
  go_loopw [3, 4] (fun v i wr => ∃ k : Nat, i = .int .i64 k ∧ k ≤ s.size ∧ Hid (StO s q w v k wr)) (fun _ i _ => s.size - (intOf i).toNat)
  case atStart => exact ⟨0, rfl, Nat.zero_le _, ⟨rfl, .inl ⟨rfl, rfl⟩⟩, Has.fresh w _ _, (Below.refl _ _).alloc (Nat.le_refl _) _⟩
  case round =>
    obtain ⟨k, rfl, hk, HO⟩ := hrel
    have x0 : wr.cell? ⟨w.heap.size, 0, none⟩ = some (.string s) := HO.out.2.1.cell 0
    have x1 : wr.cell? ⟨w.heap.size, 1, none⟩ = some (.bool q) := HO.out.2.1.cell 1
    by_cases hlt : k < s.size
    · have hlti : (k : Int) < (s.size : Int) := by omega
      have hle := Tk.stW_len q (s.data.toList.take k)
      have hle2 : (s.data.toList.take k).length ≤ k := by rw [List.length_take]; omega
      have hn : (Tk.stW q (s.data.toList.take k)).length ≤ 4194304 := by omega
      have HBl := Lib.hid (blank_any s[k])
      have HST : Hid (∀ (v : Value) (W : World) (n : Nat) (xs : List Value) (l : List UInt8), Tk.stB q s[k] = l → W.ownsRow (w.heap.size + 1) 5 1 v n xs → xs = bv (Tk.stW q (s.data.toList.take k)) ++ bv l → Has W w.heap.size 35 #[.string s, .bool q] → Below w.heap.size w W → StO s q w v (k + 1) W) := fun v W n xs l hl h hx h2 h3 => sto_step hlt hl h hx h2 h3
      have HO1 := HO.out
      unfold StO at HO1
      have HO2 := Lib.hid HO1
      generalize bv (Tk.stW q (s.data.toList.take k)) = xs at *
      generalize (Tk.stW q (s.data.toList.take k)).length = n at *
      obtain ⟨ad, cp, rfl, _⟩ := ownK_form HO2.out.1
      clear HO HO1 hle hle2
      rcases cls s[k] with hc | hc | hc | hc | hc | hc | hc | ⟨h10, h34, h92, hb, h59, h40, h41⟩
      · have q59 : ((s[k].toNat : Int) == 59) = false := beq_eq_false_iff_ne.2 (by omega)
        have q40 : ((s[k].toNat : Int) == 40) = false := beq_eq_false_iff_ne.2 (by omega)
        have q41 : ((s[k].toNat : Int) == 41) = false := beq_eq_false_iff_ne.2 (by omega)
        have q10 : ((s[k].toNat : Int) == 10) = true := beq_iff_eq.2 (by omega)
        have q34 : ((s[k].toNat : Int) == 34) = false := beq_eq_false_iff_ne.2 (by omega)
        have q92 : ((s[k].toNat : Int) == 92) = false := beq_eq_false_iff_ne.2 (by omega)
        have hbl : Tk.blank s[k] = false := blank_not (by omega)
        rw [hbl] at HBl
        have HL := Lib.hid (st_four (q := q) hc)
        have HE := Lib.hid (fun v W n xs => HST.out v W n xs _ HL.out)
        clear hbl hc HL HST
        go_wp2_with (first
                  | (go_at_call 11; refine (HBl.out _).mono ?_; rintro e w9 ⟨rfl, h9⟩; obtain rfl := h9.symm)
                  | (at_builtin
                     refine wpList_append_own _ rfl (.tmp 34) (.tmp 35) _ rfl (w.heap.size + 1) 5 i1 _ 1 1 Try.underlying23 hi1 hz1 hs1 hb1 rfl (by decide) (.slice ad n cp) n _ rfl (HO2.out.1.alloc _) ⟨wr.heap.size, 0, none⟩ 4 4 [.int .u8 92, .int .u8 48, .int .u8 49, .int .u8 48] rfl rfl (tk_cells_new wr _ [.int .u8 92, .int .u8 48, .int .u8 49, .int .u8 48]) (by simp [Value.oneCell']) (by unfold maxLen; omega) (by omega) (by have := HO2.out.2.2.size; simp; omega) ?_
                     intro v1 w1 ho hg _
                     obtain ⟨ad1, cp1, rfl, _⟩ := ownK_form ho
                     have HO3 : Hid (w1.ownsRow (w.heap.size + 1) 5 1 (.slice ad1 (n + 4) cp1) (n + 4) (xs ++ [.int .u8 92, .int .u8 48, .int .u8 49, .int .u8 48]) ∧ Has w1 w.heap.size 35 #[.string s, .bool q] ∧ Below w.heap.size w w1) := ⟨ho, (HO2.out.2.1.alloc _).grown hg (fun e => by have := (HO2.out.1.lt _ e.symm).1; omega), (HO2.out.2.2.alloc HO2.out.2.2.size _).grown hg (by have := HO2.out.2.2.size; simp; omega) (fun r e => by have := (HO2.out.1.lt r e).1; omega)⟩
                     clear ho hg))
        go_roundw
        case rel => exact ⟨k + 1, by go_num, by omega, HE.out _ _ _ _ HO3.out.1 (rfl) HO3.out.2.1 HO3.out.2.2⟩
        case measure => simp [intOf]; omega
      · have q59 : ((s[k].toNat : Int) == 59) = false := beq_eq_false_iff_ne.2 (by omega)
        have q40 : ((s[k].toNat : Int) == 40) = false := beq_eq_false_iff_ne.2 (by omega)
        have q41 : ((s[k].toNat : Int) == 41) = false := beq_eq_false_iff_ne.2 (by omega)
        have q10 : ((s[k].toNat : Int) == 10) = false := beq_eq_false_iff_ne.2 (by omega)
        have q34 : ((s[k].toNat : Int) == 34) = true := beq_iff_eq.2 (by omega)
        have q92 : ((s[k].toNat : Int) == 92) = false := beq_eq_false_iff_ne.2 (by omega)
        have hbl : Tk.blank s[k] = false := blank_not (by omega)
        rw [hbl] at HBl
        have HL := Lib.hid (st_two (q := q) (c := s[k]) (by omega) (.inl hc))
        have HE := Lib.hid (fun v W n xs => HST.out v W n xs _ HL.out)
        clear hbl hc HL HST
        go_wp2_with (first
                  | (go_at_call 11; refine (HBl.out _).mono ?_; rintro e w9 ⟨rfl, h9⟩; obtain rfl := h9.symm)
                  | (at_builtin
                     refine wpList_append_own _ rfl (.tmp 51) (.tmp 52) _ rfl (w.heap.size + 1) 5 i1 _ 1 1 Try.underlying23 hi1 hz1 hs1 hb1 rfl (by decide) (.slice ad n cp) n _ rfl (HO2.out.1.alloc _) ⟨wr.heap.size, 0, none⟩ 1 1 [.int .u8 92] rfl rfl (tk_cells_new wr _ [.int .u8 92]) (by simp [Value.oneCell']) (by unfold maxLen; omega) (by omega) (by have := HO2.out.2.2.size; simp; omega) ?_
                     intro v1 w1 ho hg _
                     obtain ⟨ad1, cp1, rfl, _⟩ := ownK_form ho
                     have HO3 : Hid (w1.ownsRow (w.heap.size + 1) 5 1 (.slice ad1 (n + 1) cp1) (n + 1) (xs ++ [.int .u8 92]) ∧ Has w1 w.heap.size 35 #[.string s, .bool q] ∧ Below w.heap.size w w1) := ⟨ho, (HO2.out.2.1.alloc _).grown hg (fun e => by have := (HO2.out.1.lt _ e.symm).1; omega), (HO2.out.2.2.alloc HO2.out.2.2.size _).grown hg (by have := HO2.out.2.2.size; simp; omega) (fun r e => by have := (HO2.out.1.lt r e).1; omega)⟩
                     clear ho hg)
                  | (at_builtin
                     refine wpList_append_own _ rfl (.tmp 54) (.tmp 56) _ rfl (w.heap.size + 1) 5 i1 _ 1 1 Try.underlying23 hi1 hz1 hs1 hb1 rfl (by decide) (.slice ad1 (n + 1) cp1) (n + 1) _ rfl (HO3.out.1.alloc _) ⟨w1.heap.size, 0, none⟩ 1 1 [.int .u8 (s[k].toNat : Int)] rfl rfl (tk_cells_new w1 _ [.int .u8 (s[k].toNat : Int)]) (by simp [Value.oneCell']) (by unfold maxLen; omega) (by omega) (by have := HO3.out.2.2.size; simp; omega) ?_
                     intro v2 w2 ho hg _
                     obtain ⟨ad2, cp2, rfl, _⟩ := ownK_form ho
                     have HO4 : Hid (w2.ownsRow (w.heap.size + 1) 5 1 (.slice ad2 ((n + 1) + 1) cp2) ((n + 1) + 1) ((xs ++ [.int .u8 92]) ++ [.int .u8 (s[k].toNat : Int)]) ∧ Has w2 w.heap.size 35 #[.string s, .bool q] ∧ Below w.heap.size w w2) := ⟨ho, (HO3.out.2.1.alloc _).grown hg (fun e => by have := (HO3.out.1.lt _ e.symm).1; omega), (HO3.out.2.2.alloc HO3.out.2.2.size _).grown hg (by have := HO3.out.2.2.size; simp; omega) (fun r e => by have := (HO3.out.1.lt r e).1; omega)⟩
                     clear ho hg))
        go_roundw
        case rel => exact ⟨k + 1, by go_num, by omega, HE.out _ _ _ _ HO4.out.1 (List.append_assoc _ _ _) HO4.out.2.1 HO4.out.2.2⟩
        case measure => simp [intOf]; omega
      · have q59 : ((s[k].toNat : Int) == 59) = false := beq_eq_false_iff_ne.2 (by omega)
        have q40 : ((s[k].toNat : Int) == 40) = false := beq_eq_false_iff_ne.2 (by omega)
        have q41 : ((s[k].toNat : Int) == 41) = false := beq_eq_false_iff_ne.2 (by omega)
        have q10 : ((s[k].toNat : Int) == 10) = false := beq_eq_false_iff_ne.2 (by omega)
        have q34 : ((s[k].toNat : Int) == 34) = false := beq_eq_false_iff_ne.2 (by omega)
        have q92 : ((s[k].toNat : Int) == 92) = true := beq_iff_eq.2 (by omega)
        have hbl : Tk.blank s[k] = false := blank_not (by omega)
        rw [hbl] at HBl
        have HL := Lib.hid (st_two (q := q) (c := s[k]) (by omega) (.inr (.inl hc)))
        have HE := Lib.hid (fun v W n xs => HST.out v W n xs _ HL.out)
        clear hbl hc HL HST
        go_wp2_with (first
                  | (go_at_call 11; refine (HBl.out _).mono ?_; rintro e w9 ⟨rfl, h9⟩; obtain rfl := h9.symm)
                  | (at_builtin
                     refine wpList_append_own _ rfl (.tmp 51) (.tmp 52) _ rfl (w.heap.size + 1) 5 i1 _ 1 1 Try.underlying23 hi1 hz1 hs1 hb1 rfl (by decide) (.slice ad n cp) n _ rfl (HO2.out.1.alloc _) ⟨wr.heap.size, 0, none⟩ 1 1 [.int .u8 92] rfl rfl (tk_cells_new wr _ [.int .u8 92]) (by simp [Value.oneCell']) (by unfold maxLen; omega) (by omega) (by have := HO2.out.2.2.size; simp; omega) ?_
                     intro v1 w1 ho hg _
                     obtain ⟨ad1, cp1, rfl, _⟩ := ownK_form ho
                     have HO3 : Hid (w1.ownsRow (w.heap.size + 1) 5 1 (.slice ad1 (n + 1) cp1) (n + 1) (xs ++ [.int .u8 92]) ∧ Has w1 w.heap.size 35 #[.string s, .bool q] ∧ Below w.heap.size w w1) := ⟨ho, (HO2.out.2.1.alloc _).grown hg (fun e => by have := (HO2.out.1.lt _ e.symm).1; omega), (HO2.out.2.2.alloc HO2.out.2.2.size _).grown hg (by have := HO2.out.2.2.size; simp; omega) (fun r e => by have := (HO2.out.1.lt r e).1; omega)⟩
                     clear ho hg)
                  | (at_builtin
                     refine wpList_append_own _ rfl (.tmp 54) (.tmp 56) _ rfl (w.heap.size + 1) 5 i1 _ 1 1 Try.underlying23 hi1 hz1 hs1 hb1 rfl (by decide) (.slice ad1 (n + 1) cp1) (n + 1) _ rfl (HO3.out.1.alloc _) ⟨w1.heap.size, 0, none⟩ 1 1 [.int .u8 (s[k].toNat : Int)] rfl rfl (tk_cells_new w1 _ [.int .u8 (s[k].toNat : Int)]) (by simp [Value.oneCell']) (by unfold maxLen; omega) (by omega) (by have := HO3.out.2.2.size; simp; omega) ?_
                     intro v2 w2 ho hg _
                     obtain ⟨ad2, cp2, rfl, _⟩ := ownK_form ho
                     have HO4 : Hid (w2.ownsRow (w.heap.size + 1) 5 1 (.slice ad2 ((n + 1) + 1) cp2) ((n + 1) + 1) ((xs ++ [.int .u8 92]) ++ [.int .u8 (s[k].toNat : Int)]) ∧ Has w2 w.heap.size 35 #[.string s, .bool q] ∧ Below w.heap.size w w2) := ⟨ho, (HO3.out.2.1.alloc _).grown hg (fun e => by have := (HO3.out.1.lt _ e.symm).1; omega), (HO3.out.2.2.alloc HO3.out.2.2.size _).grown hg (by have := HO3.out.2.2.size; simp; omega) (fun r e => by have := (HO3.out.1.lt r e).1; omega)⟩
                     clear ho hg))
        go_roundw
        case rel => exact ⟨k + 1, by go_num, by omega, HE.out _ _ _ _ HO4.out.1 (List.append_assoc _ _ _) HO4.out.2.1 HO4.out.2.2⟩
        case measure => simp [intOf]; omega
      · have hnm := blank_num hc
        cases q with
        | false =>
          have q59 : ((s[k].toNat : Int) == 59) = false := beq_eq_false_iff_ne.2 (by omega)
          have q40 : ((s[k].toNat : Int) == 40) = false := beq_eq_false_iff_ne.2 (by omega)
          have q41 : ((s[k].toNat : Int) == 41) = false := beq_eq_false_iff_ne.2 (by omega)
          have q10 : ((s[k].toNat : Int) == 10) = false := beq_eq_false_iff_ne.2 (by omega)
          have q34 : ((s[k].toNat : Int) == 34) = false := beq_eq_false_iff_ne.2 (by omega)
          have q92 : ((s[k].toNat : Int) == 92) = false := beq_eq_false_iff_ne.2 (by omega)
          have hbl : Tk.blank s[k] = true := hc
          rw [hbl] at HBl
          have HL := Lib.hid (st_two (q := false) (c := s[k]) (by omega) (.inr (.inr ⟨by simp [Tk.bareB, hc], rfl⟩)))
          have HE := Lib.hid (fun v W n xs => HST.out v W n xs _ HL.out)
          clear hbl hc HL HST
          go_wp2_with (first
                    | (go_at_call 11; refine (HBl.out _).mono ?_; rintro e w9 ⟨rfl, h9⟩; obtain rfl := h9.symm)
                    | (at_builtin
                       refine wpList_append_own _ rfl (.tmp 51) (.tmp 52) _ rfl (w.heap.size + 1) 5 i1 _ 1 1 Try.underlying23 hi1 hz1 hs1 hb1 rfl (by decide) (.slice ad n cp) n _ rfl (HO2.out.1.alloc _) ⟨wr.heap.size, 0, none⟩ 1 1 [.int .u8 92] rfl rfl (tk_cells_new wr _ [.int .u8 92]) (by simp [Value.oneCell']) (by unfold maxLen; omega) (by omega) (by have := HO2.out.2.2.size; simp; omega) ?_
                       intro v1 w1 ho hg _
                       obtain ⟨ad1, cp1, rfl, _⟩ := ownK_form ho
                       have HO3 : Hid (w1.ownsRow (w.heap.size + 1) 5 1 (.slice ad1 (n + 1) cp1) (n + 1) (xs ++ [.int .u8 92]) ∧ Has w1 w.heap.size 35 #[.string s, .bool false] ∧ Below w.heap.size w w1) := ⟨ho, (HO2.out.2.1.alloc _).grown hg (fun e => by have := (HO2.out.1.lt _ e.symm).1; omega), (HO2.out.2.2.alloc HO2.out.2.2.size _).grown hg (by have := HO2.out.2.2.size; simp; omega) (fun r e => by have := (HO2.out.1.lt r e).1; omega)⟩
                       clear ho hg)
                    | (at_builtin
                       refine wpList_append_own _ rfl (.tmp 54) (.tmp 56) _ rfl (w.heap.size + 1) 5 i1 _ 1 1 Try.underlying23 hi1 hz1 hs1 hb1 rfl (by decide) (.slice ad1 (n + 1) cp1) (n + 1) _ rfl (HO3.out.1.alloc _) ⟨w1.heap.size, 0, none⟩ 1 1 [.int .u8 (s[k].toNat : Int)] rfl rfl (tk_cells_new w1 _ [.int .u8 (s[k].toNat : Int)]) (by simp [Value.oneCell']) (by unfold maxLen; omega) (by omega) (by have := HO3.out.2.2.size; simp; omega) ?_
                       intro v2 w2 ho hg _
                       obtain ⟨ad2, cp2, rfl, _⟩ := ownK_form ho
                       have HO4 : Hid (w2.ownsRow (w.heap.size + 1) 5 1 (.slice ad2 ((n + 1) + 1) cp2) ((n + 1) + 1) ((xs ++ [.int .u8 92]) ++ [.int .u8 (s[k].toNat : Int)]) ∧ Has w2 w.heap.size 35 #[.string s, .bool false] ∧ Below w.heap.size w w2) := ⟨ho, (HO3.out.2.1.alloc _).grown hg (fun e => by have := (HO3.out.1.lt _ e.symm).1; omega), (HO3.out.2.2.alloc HO3.out.2.2.size _).grown hg (by have := HO3.out.2.2.size; simp; omega) (fun r e => by have := (HO3.out.1.lt r e).1; omega)⟩
                       clear ho hg))
          go_roundw
          case rel => exact ⟨k + 1, by go_num, by omega, HE.out _ _ _ _ HO4.out.1 (List.append_assoc _ _ _) HO4.out.2.1 HO4.out.2.2⟩
          case measure => simp [intOf]; omega
        | true =>
          have q59 : ((s[k].toNat : Int) == 59) = false := beq_eq_false_iff_ne.2 (by omega)
          have q40 : ((s[k].toNat : Int) == 40) = false := beq_eq_false_iff_ne.2 (by omega)
          have q41 : ((s[k].toNat : Int) == 41) = false := beq_eq_false_iff_ne.2 (by omega)
          have q10 : ((s[k].toNat : Int) == 10) = false := beq_eq_false_iff_ne.2 (by omega)
          have q34 : ((s[k].toNat : Int) == 34) = false := beq_eq_false_iff_ne.2 (by omega)
          have q92 : ((s[k].toNat : Int) == 92) = false := beq_eq_false_iff_ne.2 (by omega)
          have hbl : Tk.blank s[k] = true := hc
          rw [hbl] at HBl
          have HL := Lib.hid (st_one (q := true) (c := s[k]) (by omega) (by omega) (by omega) (.inr rfl))
          have HE := Lib.hid (fun v W n xs => HST.out v W n xs _ HL.out)
          clear hbl hc HL HST
          go_wp2_with (first
                    | (go_at_call 11; refine (HBl.out _).mono ?_; rintro e w9 ⟨rfl, h9⟩; obtain rfl := h9.symm)
                    | (at_builtin
                       refine wpList_append_own _ rfl (.tmp 54) (.tmp 56) _ rfl (w.heap.size + 1) 5 i1 _ 1 1 Try.underlying23 hi1 hz1 hs1 hb1 rfl (by decide) (.slice ad n cp) n _ rfl (HO2.out.1.alloc _) ⟨wr.heap.size, 0, none⟩ 1 1 [.int .u8 (s[k].toNat : Int)] rfl rfl (tk_cells_new wr _ [.int .u8 (s[k].toNat : Int)]) (by simp [Value.oneCell']) (by unfold maxLen; omega) (by omega) (by have := HO2.out.2.2.size; simp; omega) ?_
                       intro v1 w1 ho hg _
                       obtain ⟨ad1, cp1, rfl, _⟩ := ownK_form ho
                       have HO3 : Hid (w1.ownsRow (w.heap.size + 1) 5 1 (.slice ad1 (n + 1) cp1) (n + 1) (xs ++ [.int .u8 (s[k].toNat : Int)]) ∧ Has w1 w.heap.size 35 #[.string s, .bool true] ∧ Below w.heap.size w w1) := ⟨ho, (HO2.out.2.1.alloc _).grown hg (fun e => by have := (HO2.out.1.lt _ e.symm).1; omega), (HO2.out.2.2.alloc HO2.out.2.2.size _).grown hg (by have := HO2.out.2.2.size; simp; omega) (fun r e => by have := (HO2.out.1.lt r e).1; omega)⟩
                       clear ho hg))
          go_roundw
          case rel => exact ⟨k + 1, by go_num, by omega, HE.out _ _ _ _ HO3.out.1 (rfl) HO3.out.2.1 HO3.out.2.2⟩
          case measure => simp [intOf]; omega
      · skip
        cases q with
        | false =>
          have q59 : ((s[k].toNat : Int) == 59) = true := beq_iff_eq.2 (by omega)
          have q40 : ((s[k].toNat : Int) == 40) = false := beq_eq_false_iff_ne.2 (by omega)
          have q41 : ((s[k].toNat : Int) == 41) = false := beq_eq_false_iff_ne.2 (by omega)
          have q10 : ((s[k].toNat : Int) == 10) = false := beq_eq_false_iff_ne.2 (by omega)
          have q34 : ((s[k].toNat : Int) == 34) = false := beq_eq_false_iff_ne.2 (by omega)
          have q92 : ((s[k].toNat : Int) == 92) = false := beq_eq_false_iff_ne.2 (by omega)
          have hbl : Tk.blank s[k] = false := blank_not (by omega)
          rw [hbl] at HBl
          have HL := Lib.hid (st_two (q := false) (c := s[k]) (by omega) (.inr (.inr ⟨by simp [Tk.bareB, hc], rfl⟩)))
          have HE := Lib.hid (fun v W n xs => HST.out v W n xs _ HL.out)
          clear hbl hc HL HST
          go_wp2_with (first
                    | (go_at_call 11; refine (HBl.out _).mono ?_; rintro e w9 ⟨rfl, h9⟩; obtain rfl := h9.symm)
                    | (at_builtin
                       refine wpList_append_own _ rfl (.tmp 51) (.tmp 52) _ rfl (w.heap.size + 1) 5 i1 _ 1 1 Try.underlying23 hi1 hz1 hs1 hb1 rfl (by decide) (.slice ad n cp) n _ rfl (HO2.out.1.alloc _) ⟨wr.heap.size, 0, none⟩ 1 1 [.int .u8 92] rfl rfl (tk_cells_new wr _ [.int .u8 92]) (by simp [Value.oneCell']) (by unfold maxLen; omega) (by omega) (by have := HO2.out.2.2.size; simp; omega) ?_
                       intro v1 w1 ho hg _
                       obtain ⟨ad1, cp1, rfl, _⟩ := ownK_form ho
                       have HO3 : Hid (w1.ownsRow (w.heap.size + 1) 5 1 (.slice ad1 (n + 1) cp1) (n + 1) (xs ++ [.int .u8 92]) ∧ Has w1 w.heap.size 35 #[.string s, .bool false] ∧ Below w.heap.size w w1) := ⟨ho, (HO2.out.2.1.alloc _).grown hg (fun e => by have := (HO2.out.1.lt _ e.symm).1; omega), (HO2.out.2.2.alloc HO2.out.2.2.size _).grown hg (by have := HO2.out.2.2.size; simp; omega) (fun r e => by have := (HO2.out.1.lt r e).1; omega)⟩
                       clear ho hg)
                    | (at_builtin
                       refine wpList_append_own _ rfl (.tmp 54) (.tmp 56) _ rfl (w.heap.size + 1) 5 i1 _ 1 1 Try.underlying23 hi1 hz1 hs1 hb1 rfl (by decide) (.slice ad1 (n + 1) cp1) (n + 1) _ rfl (HO3.out.1.alloc _) ⟨w1.heap.size, 0, none⟩ 1 1 [.int .u8 (s[k].toNat : Int)] rfl rfl (tk_cells_new w1 _ [.int .u8 (s[k].toNat : Int)]) (by simp [Value.oneCell']) (by unfold maxLen; omega) (by omega) (by have := HO3.out.2.2.size; simp; omega) ?_
                       intro v2 w2 ho hg _
                       obtain ⟨ad2, cp2, rfl, _⟩ := ownK_form ho
                       have HO4 : Hid (w2.ownsRow (w.heap.size + 1) 5 1 (.slice ad2 ((n + 1) + 1) cp2) ((n + 1) + 1) ((xs ++ [.int .u8 92]) ++ [.int .u8 (s[k].toNat : Int)]) ∧ Has w2 w.heap.size 35 #[.string s, .bool false] ∧ Below w.heap.size w w2) := ⟨ho, (HO3.out.2.1.alloc _).grown hg (fun e => by have := (HO3.out.1.lt _ e.symm).1; omega), (HO3.out.2.2.alloc HO3.out.2.2.size _).grown hg (by have := HO3.out.2.2.size; simp; omega) (fun r e => by have := (HO3.out.1.lt r e).1; omega)⟩
                       clear ho hg))
          go_roundw
          case rel => exact ⟨k + 1, by go_num, by omega, HE.out _ _ _ _ HO4.out.1 (List.append_assoc _ _ _) HO4.out.2.1 HO4.out.2.2⟩
          case measure => simp [intOf]; omega
        | true =>
          have q59 : ((s[k].toNat : Int) == 59) = true := beq_iff_eq.2 (by omega)
          have q40 : ((s[k].toNat : Int) == 40) = false := beq_eq_false_iff_ne.2 (by omega)
          have q41 : ((s[k].toNat : Int) == 41) = false := beq_eq_false_iff_ne.2 (by omega)
          have q10 : ((s[k].toNat : Int) == 10) = false := beq_eq_false_iff_ne.2 (by omega)
          have q34 : ((s[k].toNat : Int) == 34) = false := beq_eq_false_iff_ne.2 (by omega)
          have q92 : ((s[k].toNat : Int) == 92) = false := beq_eq_false_iff_ne.2 (by omega)
          have hbl : Tk.blank s[k] = false := blank_not (by omega)
          rw [hbl] at HBl
          have HL := Lib.hid (st_one (q := true) (c := s[k]) (by omega) (by omega) (by omega) (.inr rfl))
          have HE := Lib.hid (fun v W n xs => HST.out v W n xs _ HL.out)
          clear hbl hc HL HST
          go_wp2_with (first
                    | (go_at_call 11; refine (HBl.out _).mono ?_; rintro e w9 ⟨rfl, h9⟩; obtain rfl := h9.symm)
                    | (at_builtin
                       refine wpList_append_own _ rfl (.tmp 54) (.tmp 56) _ rfl (w.heap.size + 1) 5 i1 _ 1 1 Try.underlying23 hi1 hz1 hs1 hb1 rfl (by decide) (.slice ad n cp) n _ rfl (HO2.out.1.alloc _) ⟨wr.heap.size, 0, none⟩ 1 1 [.int .u8 (s[k].toNat : Int)] rfl rfl (tk_cells_new wr _ [.int .u8 (s[k].toNat : Int)]) (by simp [Value.oneCell']) (by unfold maxLen; omega) (by omega) (by have := HO2.out.2.2.size; simp; omega) ?_
                       intro v1 w1 ho hg _
                       obtain ⟨ad1, cp1, rfl, _⟩ := ownK_form ho
                       have HO3 : Hid (w1.ownsRow (w.heap.size + 1) 5 1 (.slice ad1 (n + 1) cp1) (n + 1) (xs ++ [.int .u8 (s[k].toNat : Int)]) ∧ Has w1 w.heap.size 35 #[.string s, .bool true] ∧ Below w.heap.size w w1) := ⟨ho, (HO2.out.2.1.alloc _).grown hg (fun e => by have := (HO2.out.1.lt _ e.symm).1; omega), (HO2.out.2.2.alloc HO2.out.2.2.size _).grown hg (by have := HO2.out.2.2.size; simp; omega) (fun r e => by have := (HO2.out.1.lt r e).1; omega)⟩
                       clear ho hg))
          go_roundw
          case rel => exact ⟨k + 1, by go_num, by omega, HE.out _ _ _ _ HO3.out.1 (rfl) HO3.out.2.1 HO3.out.2.2⟩
          case measure => simp [intOf]; omega
      · skip
        cases q with
        | false =>
          have q59 : ((s[k].toNat : Int) == 59) = false := beq_eq_false_iff_ne.2 (by omega)
          have q40 : ((s[k].toNat : Int) == 40) = true := beq_iff_eq.2 (by omega)
          have q41 : ((s[k].toNat : Int) == 41) = false := beq_eq_false_iff_ne.2 (by omega)
          have q10 : ((s[k].toNat : Int) == 10) = false := beq_eq_false_iff_ne.2 (by omega)
          have q34 : ((s[k].toNat : Int) == 34) = false := beq_eq_false_iff_ne.2 (by omega)
          have q92 : ((s[k].toNat : Int) == 92) = false := beq_eq_false_iff_ne.2 (by omega)
          have hbl : Tk.blank s[k] = false := blank_not (by omega)
          rw [hbl] at HBl
          have HL := Lib.hid (st_two (q := false) (c := s[k]) (by omega) (.inr (.inr ⟨by simp [Tk.bareB, hc], rfl⟩)))
          have HE := Lib.hid (fun v W n xs => HST.out v W n xs _ HL.out)
          clear hbl hc HL HST
          go_wp2_with (first
                    | (go_at_call 11; refine (HBl.out _).mono ?_; rintro e w9 ⟨rfl, h9⟩; obtain rfl := h9.symm)
                    | (at_builtin
                       refine wpList_append_own _ rfl (.tmp 51) (.tmp 52) _ rfl (w.heap.size + 1) 5 i1 _ 1 1 Try.underlying23 hi1 hz1 hs1 hb1 rfl (by decide) (.slice ad n cp) n _ rfl (HO2.out.1.alloc _) ⟨wr.heap.size, 0, none⟩ 1 1 [.int .u8 92] rfl rfl (tk_cells_new wr _ [.int .u8 92]) (by simp [Value.oneCell']) (by unfold maxLen; omega) (by omega) (by have := HO2.out.2.2.size; simp; omega) ?_
                       intro v1 w1 ho hg _
                       obtain ⟨ad1, cp1, rfl, _⟩ := ownK_form ho
                       have HO3 : Hid (w1.ownsRow (w.heap.size + 1) 5 1 (.slice ad1 (n + 1) cp1) (n + 1) (xs ++ [.int .u8 92]) ∧ Has w1 w.heap.size 35 #[.string s, .bool false] ∧ Below w.heap.size w w1) := ⟨ho, (HO2.out.2.1.alloc _).grown hg (fun e => by have := (HO2.out.1.lt _ e.symm).1; omega), (HO2.out.2.2.alloc HO2.out.2.2.size _).grown hg (by have := HO2.out.2.2.size; simp; omega) (fun r e => by have := (HO2.out.1.lt r e).1; omega)⟩
                       clear ho hg)
                    | (at_builtin
                       refine wpList_append_own _ rfl (.tmp 54) (.tmp 56) _ rfl (w.heap.size + 1) 5 i1 _ 1 1 Try.underlying23 hi1 hz1 hs1 hb1 rfl (by decide) (.slice ad1 (n + 1) cp1) (n + 1) _ rfl (HO3.out.1.alloc _) ⟨w1.heap.size, 0, none⟩ 1 1 [.int .u8 (s[k].toNat : Int)] rfl rfl (tk_cells_new w1 _ [.int .u8 (s[k].toNat : Int)]) (by simp [Value.oneCell']) (by unfold maxLen; omega) (by omega) (by have := HO3.out.2.2.size; simp; omega) ?_
                       intro v2 w2 ho hg _
                       obtain ⟨ad2, cp2, rfl, _⟩ := ownK_form ho
                       have HO4 : Hid (w2.ownsRow (w.heap.size + 1) 5 1 (.slice ad2 ((n + 1) + 1) cp2) ((n + 1) + 1) ((xs ++ [.int .u8 92]) ++ [.int .u8 (s[k].toNat : Int)]) ∧ Has w2 w.heap.size 35 #[.string s, .bool false] ∧ Below w.heap.size w w2) := ⟨ho, (HO3.out.2.1.alloc _).grown hg (fun e => by have := (HO3.out.1.lt _ e.symm).1; omega), (HO3.out.2.2.alloc HO3.out.2.2.size _).grown hg (by have := HO3.out.2.2.size; simp; omega) (fun r e => by have := (HO3.out.1.lt r e).1; omega)⟩
                       clear ho hg))
          go_roundw
          case rel => exact ⟨k + 1, by go_num, by omega, HE.out _ _ _ _ HO4.out.1 (List.append_assoc _ _ _) HO4.out.2.1 HO4.out.2.2⟩
          case measure => simp [intOf]; omega
        | true =>
          have q59 : ((s[k].toNat : Int) == 59) = false := beq_eq_false_iff_ne.2 (by omega)
          have q40 : ((s[k].toNat : Int) == 40) = true := beq_iff_eq.2 (by omega)
          have q41 : ((s[k].toNat : Int) == 41) = false := beq_eq_false_iff_ne.2 (by omega)
          have q10 : ((s[k].toNat : Int) == 10) = false := beq_eq_false_iff_ne.2 (by omega)
          have q34 : ((s[k].toNat : Int) == 34) = false := beq_eq_false_iff_ne.2 (by omega)
          have q92 : ((s[k].toNat : Int) == 92) = false := beq_eq_false_iff_ne.2 (by omega)
          have hbl : Tk.blank s[k] = false := blank_not (by omega)
          rw [hbl] at HBl
          have HL := Lib.hid (st_one (q := true) (c := s[k]) (by omega) (by omega) (by omega) (.inr rfl))
          have HE := Lib.hid (fun v W n xs => HST.out v W n xs _ HL.out)
          clear hbl hc HL HST
          go_wp2_with (first
                    | (go_at_call 11; refine (HBl.out _).mono ?_; rintro e w9 ⟨rfl, h9⟩; obtain rfl := h9.symm)
                    | (at_builtin
                       refine wpList_append_own _ rfl (.tmp 54) (.tmp 56) _ rfl (w.heap.size + 1) 5 i1 _ 1 1 Try.underlying23 hi1 hz1 hs1 hb1 rfl (by decide) (.slice ad n cp) n _ rfl (HO2.out.1.alloc _) ⟨wr.heap.size, 0, none⟩ 1 1 [.int .u8 (s[k].toNat : Int)] rfl rfl (tk_cells_new wr _ [.int .u8 (s[k].toNat : Int)]) (by simp [Value.oneCell']) (by unfold maxLen; omega) (by omega) (by have := HO2.out.2.2.size; simp; omega) ?_
                       intro v1 w1 ho hg _
                       obtain ⟨ad1, cp1, rfl, _⟩ := ownK_form ho
                       have HO3 : Hid (w1.ownsRow (w.heap.size + 1) 5 1 (.slice ad1 (n + 1) cp1) (n + 1) (xs ++ [.int .u8 (s[k].toNat : Int)]) ∧ Has w1 w.heap.size 35 #[.string s, .bool true] ∧ Below w.heap.size w w1) := ⟨ho, (HO2.out.2.1.alloc _).grown hg (fun e => by have := (HO2.out.1.lt _ e.symm).1; omega), (HO2.out.2.2.alloc HO2.out.2.2.size _).grown hg (by have := HO2.out.2.2.size; simp; omega) (fun r e => by have := (HO2.out.1.lt r e).1; omega)⟩
                       clear ho hg))
          go_roundw
          case rel => exact ⟨k + 1, by go_num, by omega, HE.out _ _ _ _ HO3.out.1 (rfl) HO3.out.2.1 HO3.out.2.2⟩
          case measure => simp [intOf]; omega
      · skip
        cases q with
        | false =>
          have q59 : ((s[k].toNat : Int) == 59) = false := beq_eq_false_iff_ne.2 (by omega)
          have q40 : ((s[k].toNat : Int) == 40) = false := beq_eq_false_iff_ne.2 (by omega)
          have q41 : ((s[k].toNat : Int) == 41) = true := beq_iff_eq.2 (by omega)
          have q10 : ((s[k].toNat : Int) == 10) = false := beq_eq_false_iff_ne.2 (by omega)
          have q34 : ((s[k].toNat : Int) == 34) = false := beq_eq_false_iff_ne.2 (by omega)
          have q92 : ((s[k].toNat : Int) == 92) = false := beq_eq_false_iff_ne.2 (by omega)
          have hbl : Tk.blank s[k] = false := blank_not (by omega)
          rw [hbl] at HBl
          have HL := Lib.hid (st_two (q := false) (c := s[k]) (by omega) (.inr (.inr ⟨by simp [Tk.bareB, hc], rfl⟩)))
          have HE := Lib.hid (fun v W n xs => HST.out v W n xs _ HL.out)
          clear hbl hc HL HST
          go_wp2_with (first
                    | (go_at_call 11; refine (HBl.out _).mono ?_; rintro e w9 ⟨rfl, h9⟩; obtain rfl := h9.symm)
                    | (at_builtin
                       refine wpList_append_own _ rfl (.tmp 51) (.tmp 52) _ rfl (w.heap.size + 1) 5 i1 _ 1 1 Try.underlying23 hi1 hz1 hs1 hb1 rfl (by decide) (.slice ad n cp) n _ rfl (HO2.out.1.alloc _) ⟨wr.heap.size, 0, none⟩ 1 1 [.int .u8 92] rfl rfl (tk_cells_new wr _ [.int .u8 92]) (by simp [Value.oneCell']) (by unfold maxLen; omega) (by omega) (by have := HO2.out.2.2.size; simp; omega) ?_
                       intro v1 w1 ho hg _
                       obtain ⟨ad1, cp1, rfl, _⟩ := ownK_form ho
                       have HO3 : Hid (w1.ownsRow (w.heap.size + 1) 5 1 (.slice ad1 (n + 1) cp1) (n + 1) (xs ++ [.int .u8 92]) ∧ Has w1 w.heap.size 35 #[.string s, .bool false] ∧ Below w.heap.size w w1) := ⟨ho, (HO2.out.2.1.alloc _).grown hg (fun e => by have := (HO2.out.1.lt _ e.symm).1; omega), (HO2.out.2.2.alloc HO2.out.2.2.size _).grown hg (by have := HO2.out.2.2.size; simp; omega) (fun r e => by have := (HO2.out.1.lt r e).1; omega)⟩
                       clear ho hg)
                    | (at_builtin
                       refine wpList_append_own _ rfl (.tmp 54) (.tmp 56) _ rfl (w.heap.size + 1) 5 i1 _ 1 1 Try.underlying23 hi1 hz1 hs1 hb1 rfl (by decide) (.slice ad1 (n + 1) cp1) (n + 1) _ rfl (HO3.out.1.alloc _) ⟨w1.heap.size, 0, none⟩ 1 1 [.int .u8 (s[k].toNat : Int)] rfl rfl (tk_cells_new w1 _ [.int .u8 (s[k].toNat : Int)]) (by simp [Value.oneCell']) (by unfold maxLen; omega) (by omega) (by have := HO3.out.2.2.size; simp; omega) ?_
                       intro v2 w2 ho hg _
                       obtain ⟨ad2, cp2, rfl, _⟩ := ownK_form ho
                       have HO4 : Hid (w2.ownsRow (w.heap.size + 1) 5 1 (.slice ad2 ((n + 1) + 1) cp2) ((n + 1) + 1) ((xs ++ [.int .u8 92]) ++ [.int .u8 (s[k].toNat : Int)]) ∧ Has w2 w.heap.size 35 #[.string s, .bool false] ∧ Below w.heap.size w w2) := ⟨ho, (HO3.out.2.1.alloc _).grown hg (fun e => by have := (HO3.out.1.lt _ e.symm).1; omega), (HO3.out.2.2.alloc HO3.out.2.2.size _).grown hg (by have := HO3.out.2.2.size; simp; omega) (fun r e => by have := (HO3.out.1.lt r e).1; omega)⟩
                       clear ho hg))
          go_roundw
          case rel => exact ⟨k + 1, by go_num, by omega, HE.out _ _ _ _ HO4.out.1 (List.append_assoc _ _ _) HO4.out.2.1 HO4.out.2.2⟩
          case measure => simp [intOf]; omega
        | true =>
          have q59 : ((s[k].toNat : Int) == 59) = false := beq_eq_false_iff_ne.2 (by omega)
          have q40 : ((s[k].toNat : Int) == 40) = false := beq_eq_false_iff_ne.2 (by omega)
          have q41 : ((s[k].toNat : Int) == 41) = true := beq_iff_eq.2 (by omega)
          have q10 : ((s[k].toNat : Int) == 10) = false := beq_eq_false_iff_ne.2 (by omega)
          have q34 : ((s[k].toNat : Int) == 34) = false := beq_eq_false_iff_ne.2 (by omega)
          have q92 : ((s[k].toNat : Int) == 92) = false := beq_eq_false_iff_ne.2 (by omega)
          have hbl : Tk.blank s[k] = false := blank_not (by omega)
          rw [hbl] at HBl
          have HL := Lib.hid (st_one (q := true) (c := s[k]) (by omega) (by omega) (by omega) (.inr rfl))
          have HE := Lib.hid (fun v W n xs => HST.out v W n xs _ HL.out)
          clear hbl hc HL HST
          go_wp2_with (first
                    | (go_at_call 11; refine (HBl.out _).mono ?_; rintro e w9 ⟨rfl, h9⟩; obtain rfl := h9.symm)
                    | (at_builtin
                       refine wpList_append_own _ rfl (.tmp 54) (.tmp 56) _ rfl (w.heap.size + 1) 5 i1 _ 1 1 Try.underlying23 hi1 hz1 hs1 hb1 rfl (by decide) (.slice ad n cp) n _ rfl (HO2.out.1.alloc _) ⟨wr.heap.size, 0, none⟩ 1 1 [.int .u8 (s[k].toNat : Int)] rfl rfl (tk_cells_new wr _ [.int .u8 (s[k].toNat : Int)]) (by simp [Value.oneCell']) (by unfold maxLen; omega) (by omega) (by have := HO2.out.2.2.size; simp; omega) ?_
                       intro v1 w1 ho hg _
                       obtain ⟨ad1, cp1, rfl, _⟩ := ownK_form ho
                       have HO3 : Hid (w1.ownsRow (w.heap.size + 1) 5 1 (.slice ad1 (n + 1) cp1) (n + 1) (xs ++ [.int .u8 (s[k].toNat : Int)]) ∧ Has w1 w.heap.size 35 #[.string s, .bool true] ∧ Below w.heap.size w w1) := ⟨ho, (HO2.out.2.1.alloc _).grown hg (fun e => by have := (HO2.out.1.lt _ e.symm).1; omega), (HO2.out.2.2.alloc HO2.out.2.2.size _).grown hg (by have := HO2.out.2.2.size; simp; omega) (fun r e => by have := (HO2.out.1.lt r e).1; omega)⟩
                       clear ho hg))
          go_roundw
          case rel => exact ⟨k + 1, by go_num, by omega, HE.out _ _ _ _ HO3.out.1 (rfl) HO3.out.2.1 HO3.out.2.2⟩
          case measure => simp [intOf]; omega
      · have hc := trivial
        have q59 : ((s[k].toNat : Int) == 59) = false := beq_eq_false_iff_ne.2 (by omega)
        have q40 : ((s[k].toNat : Int) == 40) = false := beq_eq_false_iff_ne.2 (by omega)
        have q41 : ((s[k].toNat : Int) == 41) = false := beq_eq_false_iff_ne.2 (by omega)
        have q10 : ((s[k].toNat : Int) == 10) = false := beq_eq_false_iff_ne.2 (by omega)
        have q34 : ((s[k].toNat : Int) == 34) = false := beq_eq_false_iff_ne.2 (by omega)
        have q92 : ((s[k].toNat : Int) == 92) = false := beq_eq_false_iff_ne.2 (by omega)
        have hbl : Tk.blank s[k] = false := hb
        rw [hbl] at HBl
        have HL := Lib.hid (st_one (q := q) (c := s[k]) (by omega) (by omega) (by omega) (.inl (by simp [Tk.bareB, hb, h59, h40, h41])))
        have HE := Lib.hid (fun v W n xs => HST.out v W n xs _ HL.out)
        clear hbl hc HL HST
        go_wp2_with (first
                  | (go_at_call 11; refine (HBl.out _).mono ?_; rintro e w9 ⟨rfl, h9⟩; obtain rfl := h9.symm)
                  | (at_builtin
                     refine wpList_append_own _ rfl (.tmp 54) (.tmp 56) _ rfl (w.heap.size + 1) 5 i1 _ 1 1 Try.underlying23 hi1 hz1 hs1 hb1 rfl (by decide) (.slice ad n cp) n _ rfl (HO2.out.1.alloc _) ⟨wr.heap.size, 0, none⟩ 1 1 [.int .u8 (s[k].toNat : Int)] rfl rfl (tk_cells_new wr _ [.int .u8 (s[k].toNat : Int)]) (by simp [Value.oneCell']) (by unfold maxLen; omega) (by omega) (by have := HO2.out.2.2.size; simp; omega) ?_
                     intro v1 w1 ho hg _
                     obtain ⟨ad1, cp1, rfl, _⟩ := ownK_form ho
                     have HO3 : Hid (w1.ownsRow (w.heap.size + 1) 5 1 (.slice ad1 (n + 1) cp1) (n + 1) (xs ++ [.int .u8 (s[k].toNat : Int)]) ∧ Has w1 w.heap.size 35 #[.string s, .bool q] ∧ Below w.heap.size w w1) := ⟨ho, (HO2.out.2.1.alloc _).grown hg (fun e => by have := (HO2.out.1.lt _ e.symm).1; omega), (HO2.out.2.2.alloc HO2.out.2.2.size _).grown hg (by have := HO2.out.2.2.size; simp; omega) (fun r e => by have := (HO2.out.1.lt r e).1; omega)⟩
                     clear ho hg))
        go_roundw
        case rel => exact ⟨k + 1, by go_num, by omega, HE.out _ _ _ _ HO3.out.1 (rfl) HO3.out.2.1 HO3.out.2.2⟩
        case measure => simp [intOf]; omega
    · obtain rfl : k = s.size := by omega
      have HO3 := HO.out
      rw [StO, List.take_of_length_le (by simp)] at HO3
      have HO' := Lib.hid HO3
      clear HO HO3
      go_wp2_with (refine wpList_convert_own _ rfl 23 9 (.tmp 58) rfl 5 Try.underlying23 Try.underlying5 Try.underlying9 (w.heap.size + 1) _ _ (Tk.stW q s.data.toList) rfl HO'.out.1 ?_)
      go_ret
      exact ⟨rfl, HO'.out.2.2⟩
end Go.Proofs.Ytgmemngfkajnbaa
