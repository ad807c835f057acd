/- TokenLaid: what stands between words. -/
import Derived.Test.YtgmemngfkajnbaaTkLyA
namespace Go.Proofs.Ytgmemngfkajnbaa
open Go.RowKit

theorem Sh.setO {w : World} {b g : Nat} {v : Value} {B : List UInt8} {o : Nat} (h : Sh w b g v B o) (o' : Nat) : Sh (w.setCell ⟨g, 3, none⟩ (.int .i64 o')) b g v B o' :=
  ⟨h.has.set 3 _, row_kept h.row h.lt (grown_set (World.grownBy.refl w _) 3 _), h.lt, by simpa using h.le⟩
set_option maxHeartbeats 2000000 in
set_option maxRecDepth 100000 in
theorem gap_1 (k : Nat) (b g : Nat) (vb : Value) (B : List UInt8) (o : Nat) (w : World) (h : Sh w b g vb B o) (hn : B.length ≤ 1048000) (_ : o ≤ 1048576) (h1 : k % 8 = 1) :
    Calls Try.prog 5 #[.pointer (some ⟨g, 0, none⟩), .int .u8 k] w fun e w' => e = .returned (.tuple #[]) ∧ ∃ v', Sh w' b g v' (B ++ [9, 13, 32]) (o) ∧ Pt g vb v' w w' := by
  have HP := Lib.hid (sput_any ⟨#[9, 13, 32]⟩ b g vb B o w h (by show B.length + 3 ≤ 1048576; omega))
  have c3 : w.cell? ⟨g, 3, none⟩ = some (.int .i64 o) := h.has.cell 3
  have q1 : ((k : Int) % 8 == 1) = true := beq_iff_eq.2 (by omega)
  clear h
  go_enter Try.func5, Try.ntmps5
  go_wp2_with (
    go_at_call 4
    refine HP.out.mono ?_
    rintro e w1 ⟨rfl, v1, hS, hP⟩
    have d3 : w1.cell? ⟨g, 3, none⟩ = some (.int .i64 o) := hS.has.cell 3
    have f3 := hS.has.free 3
    have HS := Lib.hid hS
    have HQ := Lib.hid hP
    clear hS hP)
  go_end0
  exact ⟨rfl, _, HS.out, HQ.out⟩
set_option maxHeartbeats 2000000 in
set_option maxRecDepth 100000 in
theorem gap_2 (k : Nat) (b g : Nat) (vb : Value) (B : List UInt8) (o : Nat) (w : World) (h : Sh w b g vb B o) (hn : B.length ≤ 1048000) (ho : o ≤ 1048576) (h1 : k % 8 = 2) :
    Calls Try.prog 5 #[.pointer (some ⟨g, 0, none⟩), .int .u8 k] w fun e w' => e = .returned (.tuple #[]) ∧ ∃ v', Sh w' b g v' (B ++ [40]) (o + 1) ∧ Pt g vb v' w w' := by
  have HP := Lib.hid (sput_any ⟨#[40]⟩ b g vb B o w h (by show B.length + 1 ≤ 1048576; omega))
  have c3 : w.cell? ⟨g, 3, none⟩ = some (.int .i64 o) := h.has.cell 3
  have q1 : ((k : Int) % 8 == 1) = false := beq_eq_false_iff_ne.2 (by omega)
  have q2 : ((k : Int) % 8 == 2) = true := beq_iff_eq.2 (by omega)
  clear h
  go_enter Try.func5, Try.ntmps5
  go_wp2_with (
    go_at_call 4
    refine HP.out.mono ?_
    rintro e w1 ⟨rfl, v1, hS, hP⟩
    have d3 : w1.cell? ⟨g, 3, none⟩ = some (.int .i64 o) := hS.has.cell 3
    have f3 := hS.has.free 3
    have HS := Lib.hid hS
    have HQ := Lib.hid hP
    clear hS hP)
  go_end0
  exact ⟨rfl, _, HS.out.setO (o + 1), HQ.out.set 3 _⟩
set_option maxHeartbeats 2000000 in
set_option maxRecDepth 100000 in
theorem gap_3 (k : Nat) (b g : Nat) (vb : Value) (B : List UInt8) (o : Nat) (w : World) (h : Sh w b g vb B o) (hn : B.length ≤ 1048000) (ho : o ≤ 1048576) (h1 : k % 8 = 3) :
    Calls Try.prog 5 #[.pointer (some ⟨g, 0, none⟩), .int .u8 k] w fun e w' => e = .returned (.tuple #[]) ∧ ∃ v', Sh w' b g v' (B ++ [32, 40, 32, 59, 32, 40, 32, 34, 32, 120, 10]) (o + 1) ∧ Pt g vb v' w w' := by
  have HP := Lib.hid (sput_any ⟨#[32, 40, 32, 59, 32, 40, 32, 34, 32, 120, 10]⟩ b g vb B o w h (by show B.length + 11 ≤ 1048576; omega))
  have c3 : w.cell? ⟨g, 3, none⟩ = some (.int .i64 o) := h.has.cell 3
  have q1 : ((k : Int) % 8 == 1) = false := beq_eq_false_iff_ne.2 (by omega)
  have q2 : ((k : Int) % 8 == 2) = false := beq_eq_false_iff_ne.2 (by omega)
  have q3 : ((k : Int) % 8 == 3) = true := beq_iff_eq.2 (by omega)
  clear h
  go_enter Try.func5, Try.ntmps5
  go_wp2_with (
    go_at_call 4
    refine HP.out.mono ?_
    rintro e w1 ⟨rfl, v1, hS, hP⟩
    have d3 : w1.cell? ⟨g, 3, none⟩ = some (.int .i64 o) := hS.has.cell 3
    have f3 := hS.has.free 3
    have HS := Lib.hid hS
    have HQ := Lib.hid hP
    clear hS hP)
  go_end0
  exact ⟨rfl, _, HS.out.setO (o + 1), HQ.out.set 3 _⟩
set_option maxHeartbeats 2000000 in
set_option maxRecDepth 100000 in
theorem gap_4p (k : Nat) (b g : Nat) (vb : Value) (B : List UInt8) (o : Nat) (w : World) (h : Sh w b g vb B o) (hn : B.length ≤ 1048000) (ho : o ≤ 1048576) (h1 : k % 8 = 4) (h2 : 0 < o) :
    Calls Try.prog 5 #[.pointer (some ⟨g, 0, none⟩), .int .u8 k] w fun e w' => e = .returned (.tuple #[]) ∧ ∃ v', Sh w' b g v' (B ++ [41]) (o - 1) ∧ Pt g vb v' w w' := by
  have HP := Lib.hid (sput_any ⟨#[41]⟩ b g vb B o w h (by show B.length + 1 ≤ 1048576; omega))
  have c3 : w.cell? ⟨g, 3, none⟩ = some (.int .i64 o) := h.has.cell 3
  have q1 : ((k : Int) % 8 == 1) = false := beq_eq_false_iff_ne.2 (by omega)
  have q2 : ((k : Int) % 8 == 2) = false := beq_eq_false_iff_ne.2 (by omega)
  have q3 : ((k : Int) % 8 == 3) = false := beq_eq_false_iff_ne.2 (by omega)
  have q4 : ((k : Int) % 8 == 4) = true := beq_iff_eq.2 (by omega)
  have hp : (0 : Int) < (o : Int) := by omega
  clear h
  go_enter Try.func5, Try.ntmps5
  go_wp2_with (
    go_at_call 4
    refine HP.out.mono ?_
    rintro e w1 ⟨rfl, v1, hS, hP⟩
    have d3 : w1.cell? ⟨g, 3, none⟩ = some (.int .i64 o) := hS.has.cell 3
    have f3 := hS.has.free 3
    have HS := Lib.hid hS
    have HQ := Lib.hid hP
    clear hS hP)
  go_end0
  refine ⟨rfl, _, ?_, HQ.out.set 3 _⟩
  have e : ((o : Int) - 1) = ((o - 1 : Nat) : Int) := by omega
  rw [e]
  exact HS.out.setO (o - 1)
set_option maxHeartbeats 2000000 in
set_option maxRecDepth 100000 in
theorem gap_4z (k : Nat) (b g : Nat) (vb : Value) (B : List UInt8) (o : Nat) (w : World) (h : Sh w b g vb B o) (hn : B.length ≤ 1048000) (ho : o ≤ 1048576) (h1 : k % 8 = 4) (h2 : ¬ 0 < o) :
    Calls Try.prog 5 #[.pointer (some ⟨g, 0, none⟩), .int .u8 k] w fun e w' => e = .returned (.tuple #[]) ∧ ∃ v', Sh w' b g v' (B ++ [40, 41]) (o) ∧ Pt g vb v' w w' := by
  have HP := Lib.hid (sput_any ⟨#[40, 41]⟩ b g vb B o w h (by show B.length + 2 ≤ 1048576; omega))
  have c3 : w.cell? ⟨g, 3, none⟩ = some (.int .i64 o) := h.has.cell 3
  have q1 : ((k : Int) % 8 == 1) = false := beq_eq_false_iff_ne.2 (by omega)
  have q2 : ((k : Int) % 8 == 2) = false := beq_eq_false_iff_ne.2 (by omega)
  have q3 : ((k : Int) % 8 == 3) = false := beq_eq_false_iff_ne.2 (by omega)
  have q4 : ((k : Int) % 8 == 4) = true := beq_iff_eq.2 (by omega)
  have hp : ¬ (0 : Int) < (o : Int) := by omega
  clear h
  go_enter Try.func5, Try.ntmps5
  go_wp2_with (
    go_at_call 4
    refine HP.out.mono ?_
    rintro e w1 ⟨rfl, v1, hS, hP⟩
    have d3 : w1.cell? ⟨g, 3, none⟩ = some (.int .i64 o) := hS.has.cell 3
    have f3 := hS.has.free 3
    have HS := Lib.hid hS
    have HQ := Lib.hid hP
    clear hS hP)
  go_end0
  exact ⟨rfl, _, HS.out, HQ.out⟩
set_option maxHeartbeats 2000000 in
set_option maxRecDepth 100000 in
theorem gap_5p (k : Nat) (b g : Nat) (vb : Value) (B : List UInt8) (o : Nat) (w : World) (h : Sh w b g vb B o) (hn : B.length ≤ 1048000) (ho : o ≤ 1048576) (h1 : k % 8 = 5) (h2 : 0 < o) :
    Calls Try.prog 5 #[.pointer (some ⟨g, 0, none⟩), .int .u8 k] w fun e w' => e = .returned (.tuple #[]) ∧ ∃ v', Sh w' b g v' (B ++ [41]) (o - 1) ∧ Pt g vb v' w w' := by
  have HP := Lib.hid (sput_any ⟨#[41]⟩ b g vb B o w h (by show B.length + 1 ≤ 1048576; omega))
  have c3 : w.cell? ⟨g, 3, none⟩ = some (.int .i64 o) := h.has.cell 3
  have q1 : ((k : Int) % 8 == 1) = false := beq_eq_false_iff_ne.2 (by omega)
  have q2 : ((k : Int) % 8 == 2) = false := beq_eq_false_iff_ne.2 (by omega)
  have q3 : ((k : Int) % 8 == 3) = false := beq_eq_false_iff_ne.2 (by omega)
  have q4 : ((k : Int) % 8 == 4) = false := beq_eq_false_iff_ne.2 (by omega)
  have q5 : ((k : Int) % 8 == 5) = true := beq_iff_eq.2 (by omega)
  have hp : (0 : Int) < (o : Int) := by omega
  clear h
  go_enter Try.func5, Try.ntmps5
  go_wp2_with (
    go_at_call 4
    refine HP.out.mono ?_
    rintro e w1 ⟨rfl, v1, hS, hP⟩
    have d3 : w1.cell? ⟨g, 3, none⟩ = some (.int .i64 o) := hS.has.cell 3
    have f3 := hS.has.free 3
    have HS := Lib.hid hS
    have HQ := Lib.hid hP
    clear hS hP)
  go_end0
  refine ⟨rfl, _, ?_, HQ.out.set 3 _⟩
  have e : ((o : Int) - 1) = ((o - 1 : Nat) : Int) := by omega
  rw [e]
  exact HS.out.setO (o - 1)
set_option maxHeartbeats 2000000 in
set_option maxRecDepth 100000 in
theorem gap_5z (k : Nat) (b g : Nat) (vb : Value) (B : List UInt8) (o : Nat) (w : World) (h : Sh w b g vb B o) (hn : B.length ≤ 1048000) (ho : o ≤ 1048576) (h1 : k % 8 = 5) (h2 : ¬ 0 < o) :
    Calls Try.prog 5 #[.pointer (some ⟨g, 0, none⟩), .int .u8 k] w fun e w' => e = .returned (.tuple #[]) ∧ ∃ v', Sh w' b g v' (B ++ [40, 41]) (o) ∧ Pt g vb v' w w' := by
  have HP := Lib.hid (sput_any ⟨#[40, 41]⟩ b g vb B o w h (by show B.length + 2 ≤ 1048576; omega))
  have c3 : w.cell? ⟨g, 3, none⟩ = some (.int .i64 o) := h.has.cell 3
  have q1 : ((k : Int) % 8 == 1) = false := beq_eq_false_iff_ne.2 (by omega)
  have q2 : ((k : Int) % 8 == 2) = false := beq_eq_false_iff_ne.2 (by omega)
  have q3 : ((k : Int) % 8 == 3) = false := beq_eq_false_iff_ne.2 (by omega)
  have q4 : ((k : Int) % 8 == 4) = false := beq_eq_false_iff_ne.2 (by omega)
  have q5 : ((k : Int) % 8 == 5) = true := beq_iff_eq.2 (by omega)
  have hp : ¬ (0 : Int) < (o : Int) := by omega
  clear h
  go_enter Try.func5, Try.ntmps5
  go_wp2_with (
    go_at_call 4
    refine HP.out.mono ?_
    rintro e w1 ⟨rfl, v1, hS, hP⟩
    have d3 : w1.cell? ⟨g, 3, none⟩ = some (.int .i64 o) := hS.has.cell 3
    have f3 := hS.has.free 3
    have HS := Lib.hid hS
    have HQ := Lib.hid hP
    clear hS hP)
  go_end0
  exact ⟨rfl, _, HS.out, HQ.out⟩
set_option maxHeartbeats 2000000 in
set_option maxRecDepth 100000 in
theorem gap_6p (k : Nat) (b g : Nat) (vb : Value) (B : List UInt8) (o : Nat) (w : World) (h : Sh w b g vb B o) (hn : B.length ≤ 1048000) (ho : o ≤ 1048576) (h1 : k % 8 = 6) (h2 : 0 < o) :
    Calls Try.prog 5 #[.pointer (some ⟨g, 0, none⟩), .int .u8 k] w fun e w' => e = .returned (.tuple #[]) ∧ ∃ v', Sh w' b g v' (B ++ [32, 59, 41, 32, 92, 10, 10, 32]) (o) ∧ Pt g vb v' w w' := by
  have HP := Lib.hid (sput_any ⟨#[32, 59, 41, 32, 92, 10, 10, 32]⟩ b g vb B o w h (by show B.length + 8 ≤ 1048576; omega))
  have c3 : w.cell? ⟨g, 3, none⟩ = some (.int .i64 o) := h.has.cell 3
  have q1 : ((k : Int) % 8 == 1) = false := beq_eq_false_iff_ne.2 (by omega)
  have q2 : ((k : Int) % 8 == 2) = false := beq_eq_false_iff_ne.2 (by omega)
  have q3 : ((k : Int) % 8 == 3) = false := beq_eq_false_iff_ne.2 (by omega)
  have q4 : ((k : Int) % 8 == 4) = false := beq_eq_false_iff_ne.2 (by omega)
  have q5 : ((k : Int) % 8 == 5) = false := beq_eq_false_iff_ne.2 (by omega)
  have q6 : ((k : Int) % 8 == 6) = true := beq_iff_eq.2 (by omega)
  have hp : (0 : Int) < (o : Int) := by omega
  clear h
  go_enter Try.func5, Try.ntmps5
  go_wp2_with (
    go_at_call 4
    refine HP.out.mono ?_
    rintro e w1 ⟨rfl, v1, hS, hP⟩
    have d3 : w1.cell? ⟨g, 3, none⟩ = some (.int .i64 o) := hS.has.cell 3
    have f3 := hS.has.free 3
    have HS := Lib.hid hS
    have HQ := Lib.hid hP
    clear hS hP)
  go_end0
  exact ⟨rfl, _, HS.out, HQ.out⟩
set_option maxHeartbeats 2000000 in
set_option maxRecDepth 100000 in
theorem gap_6z (k : Nat) (b g : Nat) (vb : Value) (B : List UInt8) (o : Nat) (w : World) (h : Sh w b g vb B o) (hn : B.length ≤ 1048000) (ho : o ≤ 1048576) (h1 : k % 8 = 6) (h2 : ¬ 0 < o) :
    Calls Try.prog 5 #[.pointer (some ⟨g, 0, none⟩), .int .u8 k] w fun e w' => e = .returned (.tuple #[]) ∧ ∃ v', Sh w' b g v' (B ++ [32]) (o) ∧ Pt g vb v' w w' := by
  have HP := Lib.hid (sput_any ⟨#[32]⟩ b g vb B o w h (by show B.length + 1 ≤ 1048576; omega))
  have c3 : w.cell? ⟨g, 3, none⟩ = some (.int .i64 o) := h.has.cell 3
  have q1 : ((k : Int) % 8 == 1) = false := beq_eq_false_iff_ne.2 (by omega)
  have q2 : ((k : Int) % 8 == 2) = false := beq_eq_false_iff_ne.2 (by omega)
  have q3 : ((k : Int) % 8 == 3) = false := beq_eq_false_iff_ne.2 (by omega)
  have q4 : ((k : Int) % 8 == 4) = false := beq_eq_false_iff_ne.2 (by omega)
  have q5 : ((k : Int) % 8 == 5) = false := beq_eq_false_iff_ne.2 (by omega)
  have q6 : ((k : Int) % 8 == 6) = true := beq_iff_eq.2 (by omega)
  have hp : ¬ (0 : Int) < (o : Int) := by omega
  clear h
  go_enter Try.func5, Try.ntmps5
  go_wp2_with (
    go_at_call 4
    refine HP.out.mono ?_
    rintro e w1 ⟨rfl, v1, hS, hP⟩
    have d3 : w1.cell? ⟨g, 3, none⟩ = some (.int .i64 o) := hS.has.cell 3
    have f3 := hS.has.free 3
    have HS := Lib.hid hS
    have HQ := Lib.hid hP
    clear hS hP)
  go_end0
  exact ⟨rfl, _, HS.out, HQ.out⟩
set_option maxHeartbeats 2000000 in
set_option maxRecDepth 100000 in
theorem gap_7 (k : Nat) (b g : Nat) (vb : Value) (B : List UInt8) (o : Nat) (w : World) (h : Sh w b g vb B o) (hn : B.length ≤ 1048000) (_ : o ≤ 1048576) (h1 : k % 8 = 0 ∨ k % 8 = 7) :
    Calls Try.prog 5 #[.pointer (some ⟨g, 0, none⟩), .int .u8 k] w fun e w' => e = .returned (.tuple #[]) ∧ ∃ v', Sh w' b g v' (B ++ [32]) (o) ∧ Pt g vb v' w w' := by
  have HP := Lib.hid (sput_any ⟨#[32]⟩ b g vb B o w h (by show B.length + 1 ≤ 1048576; omega))
  have c3 : w.cell? ⟨g, 3, none⟩ = some (.int .i64 o) := h.has.cell 3
  have q1 : ((k : Int) % 8 == 1) = false := beq_eq_false_iff_ne.2 (by omega)
  have q2 : ((k : Int) % 8 == 2) = false := beq_eq_false_iff_ne.2 (by omega)
  have q3 : ((k : Int) % 8 == 3) = false := beq_eq_false_iff_ne.2 (by omega)
  have q4 : ((k : Int) % 8 == 4) = false := beq_eq_false_iff_ne.2 (by omega)
  have q5 : ((k : Int) % 8 == 5) = false := beq_eq_false_iff_ne.2 (by omega)
  have q6 : ((k : Int) % 8 == 6) = false := beq_eq_false_iff_ne.2 (by omega)
  clear h
  go_enter Try.func5, Try.ntmps5
  go_wp2_with (
    go_at_call 4
    refine HP.out.mono ?_
    rintro e w1 ⟨rfl, v1, hS, hP⟩
    have d3 : w1.cell? ⟨g, 3, none⟩ = some (.int .i64 o) := hS.has.cell 3
    have f3 := hS.has.free 3
    have HS := Lib.hid hS
    have HQ := Lib.hid hP
    clear hS hP)
  go_end0
  exact ⟨rfl, _, HS.out, HQ.out⟩
theorem gap_any (k : Nat) (b g : Nat) (vb : Value) (B : List UInt8) (o : Nat) (w : World) (h : Sh w b g vb B o) (hn : B.length ≤ 1048000) (ho : o ≤ 1048576) :
    Calls Try.prog 5 #[.pointer (some ⟨g, 0, none⟩), .int .u8 k] w fun e w' => e = .returned (.tuple #[]) ∧ ∃ v', Sh w' b g v' (B ++ Tk.gapB k o) (Tk.gapO k o) ∧ Pt g vb v' w w' := by
  have h8 : k % 8 < 8 := Nat.mod_lt _ (by decide)
  rcases (by omega : k % 8 = 1 ∨ k % 8 = 2 ∨ k % 8 = 3 ∨ k % 8 = 4 ∨ k % 8 = 5 ∨ k % 8 = 6 ∨ (k % 8 = 0 ∨ k % 8 = 7)) with h1 | h1 | h1 | h1 | h1 | h1 | h1
  · simpa [Tk.gapB, Tk.gapO, h1] using gap_1 k b g vb B o w h hn ho h1
  · simpa [Tk.gapB, Tk.gapO, h1] using gap_2 k b g vb B o w h hn ho h1
  · simpa [Tk.gapB, Tk.gapO, h1] using gap_3 k b g vb B o w h hn ho h1
  · by_cases h2 : 0 < o
    · have e1 : Tk.gapB k o = [41] := by unfold Tk.gapB; rw [if_neg (by omega), if_neg (by omega), if_neg (by omega), if_pos (by omega), if_pos h2]
      have e2 : Tk.gapO k o = o - 1 := by unfold Tk.gapO; rw [if_neg (by omega), if_pos (by omega)]
      rw [e1, e2]
      exact gap_4p k b g vb B o w h hn ho h1 h2
    · obtain rfl : o = 0 := by omega
      simpa [Tk.gapB, Tk.gapO, h1] using gap_4z k b g vb B 0 w h hn ho h1 h2
  · by_cases h2 : 0 < o
    · have e1 : Tk.gapB k o = [41] := by unfold Tk.gapB; rw [if_neg (by omega), if_neg (by omega), if_neg (by omega), if_pos (by omega), if_pos h2]
      have e2 : Tk.gapO k o = o - 1 := by unfold Tk.gapO; rw [if_neg (by omega), if_pos (by omega)]
      rw [e1, e2]
      exact gap_5p k b g vb B o w h hn ho h1 h2
    · obtain rfl : o = 0 := by omega
      simpa [Tk.gapB, Tk.gapO, h1] using gap_5z k b g vb B 0 w h hn ho h1 h2
  · by_cases h2 : 0 < o
    · have e1 : Tk.gapB k o = [32, 59, 41, 32, 92, 10, 10, 32] := by unfold Tk.gapB; rw [if_neg (by omega), if_neg (by omega), if_neg (by omega), if_neg (by omega), if_pos h1, if_pos h2]
      have e2 : Tk.gapO k o = o := by unfold Tk.gapO; rw [if_neg (by omega), if_neg (by omega)]
      rw [e1, e2]
      exact gap_6p k b g vb B o w h hn ho h1 h2
    · obtain rfl : o = 0 := by omega
      simpa [Tk.gapB, Tk.gapO, h1] using gap_6z k b g vb B 0 w h hn ho h1 h2
  · have e1 : Tk.gapB k o = [32] := by unfold Tk.gapB; rw [if_neg (by omega), if_neg (by omega), if_neg (by omega), if_neg (by omega), if_neg (by omega)]
    have e2 : Tk.gapO k o = o := by unfold Tk.gapO; rw [if_neg (by omega), if_neg (by omega)]
    rw [e1, e2]
    exact gap_7 k b g vb B o w h hn ho h1
end Go.Proofs.Ytgmemngfkajnbaa
