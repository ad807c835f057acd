/- TokenLaid: the sheet in memory, and what is put onto it. -/
import Derived.Test.YtgmemngfkajnbaaTkReads
import Derived.Test.YtgmemngfkajnbaaTkLay
namespace Go.Proofs.Ytgmemngfkajnbaa
open Go.RowKit

def sc (v : Value) (line col o : Nat) : Array Value := #[v, .int .i64 line, .int .i64 col, .int .i64 o]
/-- the sheet: its bytes in a row of their own. -/
structure Sh (w : World) (b g : Nat) (v : Value) (B : List UInt8) (o : Nat) : Prop where
  has : Has w g 25 (sc v (Tk.advs (1, 1) B).1 (Tk.advs (1, 1) B).2 o)
  row : w.ownsRow b 5 1 v B.length (bv B)
  lt : g < b
  le : b ≤ w.heap.size
/-- what has changed: the sheet, its row, and what is new. -/
structure Pt (g : Nat) (v v' : Value) (w w' : World) : Prop where
  os : w'.os = w.os
  tape : w'.tape = w.tape
  output : w'.output = w.output
  size : w.heap.size ≤ w'.heap.size
  block : ∀ k, k < w.heap.size → k ≠ g → v.ownBlock ≠ some k → w'.heap[k]? = w.heap[k]?
  own : ∀ q, v'.ownBlock = some q → v.ownBlock = some q ∨ w.heap.size ≤ q
section
variable {g : Nat} {v v1 v2 : Value} {w w1 w2 : World}
theorem Pt.refl (g : Nat) (v : Value) (w : World) : Pt g v v w w := ⟨rfl, rfl, rfl, Nat.le_refl _, fun _ _ _ _ => rfl, fun _ h => .inl h⟩
theorem Pt.trans (h : Pt g v v1 w w1) (h2 : Pt g v1 v2 w1 w2) : Pt g v v2 w w2 :=
  ⟨h2.os.trans h.os, h2.tape.trans h.tape, h2.output.trans h.output, Nat.le_trans h.size h2.size,
    fun k hk hne hv => (h2.block k (Nat.lt_of_lt_of_le hk h.size) hne (fun e => by rcases h.own k e with h3 | h3; exact hv h3; omega)).trans (h.block k hk hne hv),
    fun q e => by
      rcases h2.own q e with e1 | e1
      · exact h.own q e1
      · exact .inr (Nat.le_trans h.size e1)⟩
theorem Pt.grown (h : w.grownBy w1 v.ownBlock) (hv : v1.ownBlock = v.ownBlock ∨ v1.ownBlock = some w.heap.size) : Pt g v v1 w w1 :=
  ⟨h.os, h.tape, h.output, h.size, fun k hk _ hne => h.block k hk (fun e => hne e.symm), fun q e => by
    rcases hv with hv | hv
    · exact .inl (hv.symm.trans e)
    · rw [hv] at e; injection e with e; exact .inr (by omega)⟩
theorem Pt.below {B : Nat} (h : Below B w w1) (hB : w.heap.size ≤ B) : Pt g v v w w1 :=
  ⟨h.os, h.tape, h.output, h.size, fun k hk _ _ => h.block k (by omega), fun _ h => .inl h⟩
theorem Pt.set (h : Pt g v v1 w w1) (i : Nat) (u : Value) : Pt g v v1 w (w1.setCell ⟨g, i, none⟩ u) :=
  ⟨h.os, h.tape, h.output, by simpa using h.size, fun k hk hne hv => (heap_setCell_other _ ⟨g, i, none⟩ k u hne).trans (h.block k hk hne hv), h.own⟩
end
theorem Sh.bound {w : World} {b g : Nat} {v : Value} {B : List UInt8} {o : Nat} (_ : Sh w b g v B o) : (Tk.advs (1, 1) B).1 ≤ B.length + 1 ∧ (Tk.advs (1, 1) B).2 ≤ B.length + 1 := by
  have := Tk.advs_le B (1, 1)
  omega

set_option maxHeartbeats 2000000 in
set_option maxRecDepth 100000 in
theorem sput_any (s : ByteArray) (b g : Nat) (vb : Value) (B : List UInt8) (o : Nat) (w : World) (h : Sh w b g vb B o) (hn : B.length + s.size ≤ 1048576) :
    Calls Try.prog 4 #[.pointer (some ⟨g, 0, none⟩), .string s] w fun e w' => e = .returned (.tuple #[]) ∧ ∃ v', Sh w' b g v' (B ++ s.data.toList) o ∧ Pt g vb v' w w' := by
  obtain ⟨i1, hi1, hz1, hs1, hb1⟩ := info_parts Try.infoByte
  have H0 := Lib.hid h
  have HN := Lib.hid hn
  have hss : s.size ≤ 1048576 := by omega
  clear h hn
  go_enter Try.func4, Try.ntmps4
  go_wp2
  go_loopw [4] (fun i wr => ∃ k : Nat, i = .int .i64 k ∧ k ≤ s.size ∧ Hid (∃ v, Sh wr b g v (B ++ s.data.toList.take k) o ∧ Pt g vb v w wr)) (fun i _ => s.size - (intOf i).toNat)
  case atStart => exact ⟨0, rfl, Nat.zero_le _, vb, by rw [List.take_zero, List.append_nil]; exact H0.out, Pt.refl _ _ _⟩
  case round =>
    obtain ⟨k, rfl, hk, HO⟩ := hrel
    by_cases hlt : k < s.size
    · have hlti : (k : Int) < (s.size : Int) := by omega
      obtain ⟨v, hS, hP⟩ := HO.out
      clear HO
      have hkl : k < s.data.toList.length := by simpa using hlt
      have e1 : s.data.toList.take (k + 1) = s.data.toList.take k ++ [s[k]] := List.take_succ_eq_append_getElem hkl
      have hB3 : B ++ s.data.toList.take (k + 1) = B ++ s.data.toList.take k ++ [s[k]] := by rw [e1, List.append_assoc]
      have hB2l : (B ++ s.data.toList.take k).length ≤ 1048576 := by have := HN.out; simp; omega
      have HB3 := Lib.hid hB3
      clear e1 hB3
      generalize B ++ s.data.toList.take k = B2 at *
      have hbd := hS.bound
      obtain ⟨⟨L, C⟩, hLC⟩ : ∃ p, Tk.advs (1, 1) B2 = p := ⟨_, rfl⟩
      have hh : Has wr g 25 (sc v L C o) := by have := hS.has; rw [hLC] at this; exact this
      rw [hLC] at hbd
      simp only at hbd
      have hadv : Tk.advs (1, 1) (B2 ++ [s[k]]) = Tk.adv (L, C) s[k] := by rw [Tk.advs_append, hLC]; rfl
      have hsl := hS.le
      have hsb := hS.lt
      obtain ⟨ad, cp, rfl, _⟩ := ownK_form hS.row
      obtain ⟨v2, w4, hr, ho, hg4, hv4⟩ := run_append_where (P := Try.prog) (w := wr.drew.alloc (.cells #[.int .u8 (s[k].toNat : Int)] 5)) b 23 23 5 i1 _ 1 1 Try.underlying23 hi1 hz1 hs1 hb1 rfl (by decide) (.slice ad B2.length cp) B2.length (bv B2)
        ((tk_drew hS.row).alloc _) ⟨wr.heap.size, 0, none⟩ 1 1 [.int .u8 (s[k].toNat : Int)] rfl (tk_cells_new wr.drew _ _) (by simp [Value.oneCell']) (by decide) (by unfold maxLen; omega) (by omega) (by simp; omega)
      have hne : some g ≠ (Value.slice ad B2.length cp).ownBlock := fun e => by have := (hS.row.lt g e.symm).1; omega
      have h4 : Has w4 g 25 (sc (.slice ad B2.length cp) L C o) := Has.grown ((show Has wr.drew g _ _ from hh).alloc _) hg4 hne
      have HP4 := Lib.hid (hP.trans ((Pt.below (g := g) (v := .slice ad B2.length cp) (((Below.refl wr.heap.size wr).drew).alloc (Nat.le_refl _) (.cells #[.int .u8 (s[k].toNat : Int)] 5)) (Nat.le_refl _)).trans (Pt.grown hg4 hv4)))
      have c0 : wr.cell? ⟨g, 0, none⟩ = some (.slice ad B2.length cp) := hh.cell 0
      have e0 : (wr.alloc (.cells #[.int .u8 (s[k].toNat : Int)] 5)).cell? ⟨g, 0, none⟩ = some (.slice ad B2.length cp) := (hh.alloc _).cell 0
      have d0 : w4.cell? ⟨g, 0, none⟩ = some (.slice ad B2.length cp) := h4.cell 0
      have d1 : w4.cell? ⟨g, 1, none⟩ = some (.int .i64 L) := h4.cell 1
      have d2 : w4.cell? ⟨g, 2, none⟩ = some (.int .i64 C) := h4.cell 2
      have f0 : w4.frozen? ⟨g, 0, none⟩ = false := h4.free 0
      have f1 : w4.frozen? ⟨g, 1, none⟩ = false := h4.free 1
      have f2 : w4.frozen? ⟨g, 2, none⟩ = false := h4.free 2
      obtain ⟨ad2, cp2, rfl, _⟩ := ownK_form ho
      have HR := Lib.hid hr
      have H4 := Lib.hid h4
      have HO4 : Hid (w4.ownsRow b 5 1 (.slice ad2 (B2.length + 1) cp2) (B2.length + 1) (bv (B2 ++ [s[k]]))) := by rw [bv_append]; exact ho
      have HLE : Hid (b ≤ w4.heap.size) := by have := hg4.size; simp at this; unfold Hid; omega
      have HLT := Lib.hid hsb
      have HADV := Lib.hid hadv
      clear hr ho hg4 hv4 h4 hne hS hP hh hLC hadv hsb hsl H0
      by_cases h10 : s[k].toNat = 10
      · have hq : ((s[k].toNat : Int) == 10) = true := beq_iff_eq.2 (by omega)
        have HA : Hid (Tk.advs (1, 1) (B2 ++ [s[k]]) = (L + 1, 1)) := by rw [Hid, HADV.out, Tk.adv, if_pos h10]
        clear h10 HADV
        go_wp2
        go_region_law (refine append_run (.tmp 15) (.tmp 19) _ _ rfl _ _ rfl rfl HR.out ?_)
        all_goals
          go_wp2
          go_roundw
          case rel =>
            refine ⟨k + 1, by go_num, by omega, _, ?_, (((HP4.out.set 0 _).set 2 _).set 1 _).set 2 _⟩
            rw [HB3.out]
            refine ⟨?_, ?_, HLT.out, by simpa using HLE.out⟩
            · rw [HA.out]
              exact (((H4.out.set 0 _).set 2 _).set 1 _).set 2 _
            · rw [List.length_append]
              exact row_kept HO4.out HLT.out (grown_set (grown_set (grown_set (grown_set (World.grownBy.refl w4 _) 0 _) 2 _) 1 _) 2 _)
          case measure => simp [intOf]; omega
      · have hq : ((s[k].toNat : Int) == 10) = false := beq_eq_false_iff_ne.2 (by omega)
        have HA : Hid (Tk.advs (1, 1) (B2 ++ [s[k]]) = (L, C + 1)) := by rw [Hid, HADV.out, Tk.adv, if_neg h10]
        clear h10 HADV
        go_wp2
        go_region_law (refine append_run (.tmp 15) (.tmp 19) _ _ rfl _ _ rfl rfl HR.out ?_)
        all_goals
          go_wp2
          go_roundw
          case rel =>
            refine ⟨k + 1, by go_num, by omega, _, ?_, (HP4.out.set 0 _).set 2 _⟩
            rw [HB3.out]
            refine ⟨?_, ?_, HLT.out, by simpa using HLE.out⟩
            · rw [HA.out]
              exact (H4.out.set 0 _).set 2 _
            · rw [List.length_append]
              exact row_kept HO4.out HLT.out (grown_set (grown_set (World.grownBy.refl w4 _) 0 _) 2 _)
          case measure => simp [intOf]; omega
    · obtain rfl : k = s.size := by omega
      obtain ⟨v, hS, hP⟩ := HO.out
      rw [List.take_of_length_le (by simp)] at hS
      have HS := Lib.hid hS
      have HP := Lib.hid hP
      clear HO hS hP
      go_wp2
      go_end0
      exact ⟨rfl, _, HS.out, HP.out⟩
set_option maxRecDepth 100000 in
theorem gapOf_any (A : Option Addr) (gs : List Nat) (c hi : Nat) (i : Nat) (w : World) (hr : Srow (fun x : Nat => [Value.int .u8 x]) 1 w 0 hi A gs) (_ : i ≤ 1048576) :
    Calls Try.prog 6 #[.slice A gs.length c, .int .i64 i] w fun e w' => e = .returned (.int .u8 ((gs[i]?.getD 0 : Nat) : Int)) ∧ w' = w := by
  by_cases h : i < gs.length
  · have hii : (i : Int) < (gs.length : Int) := by omega
    obtain ⟨g, o, rfl, _, _, hc⟩ := hr.at_ h
    have c0 : w.cell? ⟨g, o + i, none⟩ = some (.int .u8 (gs[i] : Int)) := by have := hc 0 _ rfl; rw [Nat.mul_one, Nat.add_zero] at this; exact this
    rw [List.getElem?_eq_getElem h, Option.getD_some]
    generalize (gs[i] : Nat) = x at *
    clear hr hc
    go_enter Try.func6, Try.ntmps6
    go_wp2
    go_ret
    exact ⟨rfl, rfl⟩
  · have hii : ¬ (i : Int) < (gs.length : Int) := by omega
    rw [List.getElem?_eq_none (by omega), Option.getD_none]
    clear hr
    go_enter Try.func6, Try.ntmps6
    go_wp2
    go_ret
    exact ⟨rfl, rfl⟩
end Go.Proofs.Ytgmemngfkajnbaa
