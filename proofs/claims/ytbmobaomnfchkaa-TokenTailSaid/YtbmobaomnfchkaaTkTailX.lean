/- TokenTail's walk: one of the texts is not well. -/
import Derived.Test.YtbmobaomnfchkaaTkTailW
namespace Go.Proofs.Ytbmobaomnfchkaa
open Go.RowKit

theorem catB_size (a b : ByteArray) : (a ++ ⟨#[10]⟩ ++ b).size = a.size + 1 + b.size := by simp; rfl
theorem catB_list (a b : ByteArray) : (a ++ ⟨#[10]⟩ ++ b).data.toList = a.data.toList ++ 10 :: b.data.toList := by simp
theorem spot_kept {w1 w2 : World} {cs : Array Value} (hb : Below (w1.alloc (.cells cs 24)).heap.size (w1.alloc (.cells cs 24)) w2) : Has w2 w1.heap.size 24 cs := (Has.fresh w1 _ _).below hb (by simp)
set_option maxHeartbeats 2000000 in
set_option maxRecDepth 100000 in
theorem tail_quote (w : World) (a b : ByteArray) (ha : a.size ≤ 20000) (hb : b.size ≤ 20000) (l c : Nat) (hT : Tk.tells a.data.toList = .err l c 80) :
    Calls Try.prog 6 #[.string a, .string b] w fun e w' => e = .returned (.bool true) ∧ Below w.heap.size w w' := by
  have ha2 : ¬ (20000 : Int) < (a.size : Int) := by omega
  have hb2 : ¬ (20000 : Int) < (b.size : Int) := by omega
  have HA := Lib.hid (entries_no w (by omega) hT)
  have HB := Lib.hid (ent_u b (by omega))
  have HC := Lib.hid (fun W => entries_no (s := a ++ ⟨#[10]⟩ ++ b) (l := l) (c := c) (x := 80) W (by rw [catB_size]; omega) (by rw [catB_list]; exact Tk.tells_quote hT))
  generalize Tk.tells b.data.toList = R at *
  generalize (Tk.lineOf R : Nat) = ln at *
  generalize (Tk.colOf R : Nat) = cl at *
  generalize (Tk.errOf R : Nat) = er at *
  clear hT
  go_enter Try.func6, Try.ntmps6
  go_wp2_with (first
    | (go_at_call_of 8 (Value.string a)
       refine HA.out.mono ?_
       rintro e w1 ⟨B1, rfl⟩
       have HB1 := Lib.hid (B1.alloc B1.size (.cells #[.int .i64 l, .int .i64 c] 24))
       clear B1)
    | (go_at_call_of 8 (Value.string b)
       refine (HB.out _).mono ?_
       rintro e w2 ⟨B2, ve2, out2, rfl, _, _⟩
       have HS2 := Lib.hid ((spot_kept B2).alloc (.cells #[.int .i64 ln, .int .i64 cl] 24))
       have HB2 := Lib.hid ((HB1.out.trans (B2.mono HB1.out.size)).alloc (Nat.le_trans HB1.out.size B2.size) (.cells #[.int .i64 ln, .int .i64 cl] 24))
       clear B2)
    | (go_at_call 8
       refine (HC.out _).mono ?_
       rintro e w3 ⟨B3, rfl⟩
       have hS3 := (HS2.out.below B3 HS2.out.lt).alloc (.cells #[.int .i64 l, .int .i64 c] 24)
       have HB3 := Lib.hid ((HB2.out.trans (B3.mono HB2.out.size)).alloc (Nat.le_trans HB2.out.size B3.size) (.cells #[.int .i64 l, .int .i64 c] 24))
       have c0 : (w3.alloc (.cells #[.int .i64 l, .int .i64 c] 24)).cell? ⟨w1.heap.size, 0, none⟩ = some (.int .i64 l) := hS3.cell 0
       have c1 : (w3.alloc (.cells #[.int .i64 l, .int .i64 c] 24)).cell? ⟨w1.heap.size, 1, none⟩ = some (.int .i64 c) := hS3.cell 1
       clear B3 hS3)
    | (go_at_call 11
       refine (reads_any _).mono ?_
       rintro e w4 ⟨rfl, B4⟩
       have HB4 := Lib.hid (HB3.out.trans (B4.mono HB3.out.size))
       clear B4))
  go_ret
  exact ⟨rfl, HB4.out⟩
set_option maxHeartbeats 2000000 in
set_option maxRecDepth 100000 in
theorem tail_paren (w : World) (a b : ByteArray) (ha : a.size ≤ 20000) (hb : b.size ≤ 20000) (l c : Nat) (hT : Tk.tells a.data.toList = .err l c 81) :
    Calls Try.prog 6 #[.string a, .string b] w fun e w' => e = .returned (.bool true) ∧ Below w.heap.size w w' := by
  have ha2 : ¬ (20000 : Int) < (a.size : Int) := by omega
  have hb2 : ¬ (20000 : Int) < (b.size : Int) := by omega
  have HA := Lib.hid (entries_no w (by omega) hT)
  have HB := Lib.hid (ent_u b (by omega))
  have HC := Lib.hid (ent_u (a ++ ⟨#[10]⟩ ++ b) (by rw [catB_size]; omega))
  generalize Tk.tells b.data.toList = R at *
  generalize (Tk.lineOf R : Nat) = ln at *
  generalize (Tk.colOf R : Nat) = cl at *
  generalize (Tk.errOf R : Nat) = er at *
  generalize Tk.tells (a ++ ⟨#[10]⟩ ++ b).data.toList = R2 at *
  generalize (Tk.lineOf R2 : Nat) = ln2 at *
  generalize (Tk.colOf R2 : Nat) = cl2 at *
  generalize (Tk.errOf R2 : Nat) = er2 at *
  clear hT
  go_enter Try.func6, Try.ntmps6
  go_wp2_with (first
    | (go_at_call_of 8 (Value.string a)
       refine HA.out.mono ?_
       rintro e w1 ⟨B1, rfl⟩
       have HB1 := Lib.hid (B1.alloc B1.size (.cells #[.int .i64 l, .int .i64 c] 24))
       clear B1)
    | (go_at_call_of 8 (Value.string b)
       refine (HB.out _).mono ?_
       rintro e w2 ⟨B2, ve2, out2, rfl, _, _⟩
       have HB2 := Lib.hid ((HB1.out.trans (B2.mono HB1.out.size)).alloc (Nat.le_trans HB1.out.size B2.size) (.cells #[.int .i64 ln, .int .i64 cl] 24))
       clear B2)
    | (go_at_call 8
       refine (HC.out _).mono ?_
       rintro e w3 ⟨B3, ve3, out3, rfl, _, _⟩
       have HB3 := Lib.hid ((HB2.out.trans (B3.mono HB2.out.size)).alloc (Nat.le_trans HB2.out.size B3.size) (.cells #[.int .i64 ln2, .int .i64 cl2] 24))
       clear B3)
    | (go_at_call 11
       refine (reads_any _).mono ?_
       rintro e w4 ⟨rfl, B4⟩
       have HB4 := Lib.hid (HB3.out.trans (B4.mono HB3.out.size))
       clear B4))
  go_ret
  exact ⟨rfl, HB4.out⟩
set_option maxHeartbeats 2000000 in
set_option maxRecDepth 100000 in
theorem tail_second (w : World) (a b : ByteArray) (ha : a.size ≤ 20000) (hb : b.size ≤ 20000) (es : List Tk.En) (hT : Tk.tells a.data.toList = .ok es) (l c x : Nat) (hU : Tk.tells b.data.toList = .err l c x) :
    Calls Try.prog 6 #[.string a, .string b] w fun e w' => e = .returned (.bool true) ∧ Below w.heap.size w w' := by
  have ha2 : ¬ (20000 : Int) < (a.size : Int) := by omega
  have hb2 : ¬ (20000 : Int) < (b.size : Int) := by omega
  have hx := play_errs _ _ _ _ _ hU
  have hx2 : ((x : Int) != 0) = true := by rcases hx with rfl | rfl <;> rfl
  have HA := Lib.hid (entries_ok w (by omega) hT)
  have HB := Lib.hid (fun W => entries_no W (by omega) hU)
  have HC := Lib.hid (fun W => entries_no (s := a ++ ⟨#[10]⟩ ++ b) (l := l + (Tk.lfs a.data.toList + 1)) (c := c) (x := x) W (by rw [catB_size]; omega) (by rw [catB_list, Tk.tells_cat hT, hU]; rfl))
  have HLN := Lib.hid (fun W => lines_any a W (by omega))
  have hlf := lfs_le a.data.toList
  have hl2 : a.data.toList.length = a.size := by simp
  have hll : Tk.lfs a.data.toList ≤ 20000 := by omega
  have hlb : l ≤ 1048576 := by
    have h := Tk.tells_line hU
    have h2 : b.data.toList.length = b.size := by simp
    omega
  generalize Tk.lfs a.data.toList = n at *
  have hcast : ((l + (n + 1) : Nat) : Int) = (l : Int) + ((n : Int) + 1) := by omega
  rw [hcast] at HC
  clear hT hU hx hlf hl2 hcast
  go_enter Try.func6, Try.ntmps6
  go_wp2_with (first
    | (go_at_call_of 8 (Value.string a)
       refine HA.out.mono ?_
       rintro e w1 ⟨B1, ve1, out1, rfl, _, _⟩
       have HB1 := Lib.hid (B1.alloc B1.size (.cells #[.int .i64 0, .int .i64 0] 24))
       clear B1)
    | (go_at_call_of 8 (Value.string b)
       refine (HB.out _).mono ?_
       rintro e w2 ⟨B2, rfl⟩
       have HS2 := Lib.hid (Has.fresh w2 24 #[.int .i64 l, .int .i64 c])
       have HB2 := Lib.hid ((HB1.out.trans (B2.mono HB1.out.size)).alloc (Nat.le_trans HB1.out.size B2.size) (.cells #[.int .i64 l, .int .i64 c] 24))
       clear B2)
    | (go_at_call 8
       refine (HC.out _).mono ?_
       rintro e w3 ⟨B3, rfl⟩
       have hS3 := (HS2.out.below B3 HS2.out.lt).alloc (.cells #[.int .i64 ((l : Int) + ((n : Int) + 1)), .int .i64 c] 24)
       have HB3 := Lib.hid ((HB2.out.trans (B3.mono HB2.out.size)).alloc (Nat.le_trans HB2.out.size B3.size) (.cells #[.int .i64 ((l : Int) + ((n : Int) + 1)), .int .i64 c] 24))
       have c0 : (w3.alloc (.cells #[.int .i64 ((l : Int) + ((n : Int) + 1)), .int .i64 c] 24)).cell? ⟨w2.heap.size, 0, none⟩ = some (.int .i64 l) := hS3.cell 0
       have c1 : (w3.alloc (.cells #[.int .i64 ((l : Int) + ((n : Int) + 1)), .int .i64 c] 24)).cell? ⟨w2.heap.size, 1, none⟩ = some (.int .i64 c) := hS3.cell 1
       clear B3 hS3)
    | (go_at_call 18
       refine (HLN.out _).mono ?_
       rintro e w5 ⟨rfl, hw5⟩
       subst hw5)
    | (go_at_call 11
       refine (reads_any _).mono ?_
       rintro e w4 ⟨rfl, B4⟩
       have HB4 := Lib.hid (HB3.out.trans (B4.mono HB3.out.size))
       clear B4))
  go_ret
  exact ⟨rfl, HB4.out⟩
end Go.Proofs.Ytbmobaomnfchkaa
