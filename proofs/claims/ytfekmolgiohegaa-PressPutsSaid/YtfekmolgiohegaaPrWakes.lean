/- Tables made, sizes, and the known names of each statement. -/
import Derived.Test.YtfekmolgiohegaaPutIn
import Derived.Test.YtfekmolgiohegaaPrTakeAll
import Derived.Test.YtfekmolgiohegaaPrRefPut
namespace Go.Proofs.Ytfekmolgiohegaa
open Go.RowKit

set_option maxHeartbeats 400000 in
theorem pnew_any (w : World) :
    Calls Try.prog 10 #[] w fun e w' => e = .returned (.pointer (some ⟨w.heap.size, 0, none⟩)) ∧ w' = w.alloc (.cells #[.map none] 49) := by
  go_enter Try.func10, Try.ntmps10
  go_wp2
  go_ret
  exact ⟨rfl, rfl⟩
theorem Tb.new (w : World) {base : Nat} (hb : base ≤ w.heap.size) : Tb (w.alloc (.cells #[.map none] 49)) w.heap.size base none [] :=
  ⟨hb, Has.fresh w _ _, (fun x hx => by cases hx), fun _ => rfl, fun m e => by cases e⟩
theorem psize_any (s : ByteArray) (w : World) (hs : s.size ≤ 140737488355328) :
    Calls Try.prog 18 #[.string s] w fun e w' => e = .returned (.int .i64 (if (Nm.split s.data.toList).isSome then s.size else 0 : Nat)) ∧ Below w.heap.size w w' := by
  have HC := Lib.hid (Check_any s w hs)
  cases h : (Nm.split s.data.toList).isSome with
  | true =>
    rw [h] at HC
    go_enter Try.func18, Try.ntmps18
    go_wp2_with (go_at_call 20; refine HC.out.mono ?_; rintro e w1 ⟨rfl, hb1⟩)
    go_ret
    exact ⟨rfl, hb1⟩
  | false =>
    rw [h] at HC
    go_enter Try.func18, Try.ntmps18
    go_wp2_with (go_at_call 20; refine HC.out.mono ?_; rintro e w1 ⟨rfl, hb1⟩)
    go_ret
    exact ⟨rfl, hb1⟩
theorem rIs_any (s : ByteArray) (w : World) (hs : s.size ≤ 140737488355328) :
    Calls Try.prog 29 #[.string s] w fun e w' => e = .returned (.bool (Nm.split s.data.toList).isSome) ∧ Below w.heap.size w w' := by
  cases h : Nm.split s.data.toList with
  | none =>
    have HC := Lib.hid (rSplit_no s w hs h)
    clear h
    go_enter Try.func29, Try.ntmps29
    go_wp2_with (go_at_call 34; refine HC.out.mono ?_; rintro e w1 ⟨v, rfl, hb1⟩)
    go_ret
    exact ⟨rfl, hb1⟩
  | some ls =>
    have HC := Lib.hid (rSplit_yes s ls w hs h)
    clear h
    go_enter Try.func29, Try.ntmps29
    go_wp2_with (go_at_call 34; refine HC.out.mono ?_; rintro e w1 ⟨ad, cp, rfl, ho, hb1⟩)
    go_ret
    exact ⟨rfl, hb1⟩
theorem rsize_any (s : ByteArray) (w : World) (hs : s.size ≤ 140737488355328) :
    Calls Try.prog 19 #[.string s] w fun e w' => e = .returned (.int .i64 (if (Nm.split s.data.toList).isSome then s.size else 0 : Nat)) ∧ Below w.heap.size w w' := by
  have HC := Lib.hid (rIs_any s w hs)
  cases h : (Nm.split s.data.toList).isSome with
  | true =>
    rw [h] at HC
    go_enter Try.func19, Try.ntmps19
    go_wp2_with (go_at_call 29; refine HC.out.mono ?_; rintro e w1 ⟨rfl, hb1⟩)
    go_ret
    exact ⟨rfl, hb1⟩
  | false =>
    rw [h] at HC
    go_enter Try.func19, Try.ntmps19
    go_wp2_with (go_at_call 29; refine HC.out.mono ?_; rintro e w1 ⟨rfl, hb1⟩)
    go_ret
    exact ⟨rfl, hb1⟩

/-! ### the names that are known -/
def ab : List (List UInt8) := [[97], [98]]
def cb : List (List UInt8) := [[99], [98]]
def tab1 : Tab := [([1, 97, 1, 98, 0], 0), ([1, 98, 0], 2)]
theorem ab_split : Nm.split [1, 97, 1, 98, 0] = some ab := by rfl
theorem cb_split : Nm.split [1, 99, 1, 98, 0] = some cb := by rfl
theorem ab_put : Pr.pw false [] 0 ab = (tab1, [1, 97, 1, 98, 0]) := by rfl
theorem cb_put : Pr.pw false tab1 5 cb = (tab1 ++ [([1, 99, 1, 98, 0], 5)], [1, 99, 192, 2]) := by rfl
theorem cb_take : Pr.tk [1, 97, 1, 98, 0, 1, 99, 192, 2] 5 5 1 = .ok cb 9 := by
  have h1 := Pr.pw_sound (ls := ab) (t := []) (b := []) false (Nm.split_some.1 ab_split).2.1 (by decide) (Pr.Snd.nil _)
  rw [show ([] : List UInt8).length = 0 from rfl, ab_put] at h1
  have h2 := Pr.pw_sound (ls := cb) (t := tab1) (b := [1, 97, 1, 98, 0]) false (Nm.split_some.1 cb_split).2.1 (by decide) h1.2
  rw [show ([1, 97, 1, 98, 0] : List UInt8).length = 5 from rfl, cb_put] at h2
  exact h2.1 [] 5 1 (Nat.le_refl _) (by decide)
theorem wput1 (g base : Nat) (w : World) (hT : Tb w g base none []) (hb : base ≤ w.heap.size) :
    Calls Try.prog 13 #[.pointer (some ⟨g, 0, none⟩), .slice none 0 0, .string ⟨#[1, 97, 1, 98, 0]⟩] w fun e w' => ∃ A c mp, e = .returned (.tuple #[.slice A 5 c, .int .i64 0]) ∧ w'.ownsRow w.heap.size 5 1 (.slice A 5 c) 5 (bv [1, 97, 1, 98, 0]) ∧ Tb w' g base mp tab1 ∧ Rg g base w w' := by
  refine (put_in g base none [] none [] 0 ⟨#[1, 97, 1, 98, 0]⟩ ab w hT hb ab_split (by simp) (fun _ => rfl) (by simp) Bs.nil (by simp)).mono ?_
  rintro e w' ⟨v, mp, rfl, h1, h2, h3⟩
  rw [show ([] : List UInt8).length = 0 from rfl, ab_put] at h1 h2
  obtain ⟨A, c, rfl⟩ := own_form h1
  exact ⟨A, c, mp, rfl, h1, h2, h3⟩
theorem wput2 (g base : Nat) (mp : Option Nat) (A : Option Addr) (c : Nat) (w : World) (hT : Tb w g base mp tab1) (hb : base ≤ w.heap.size) (ho : w.ownsRow base 5 1 (.slice A 5 c) 5 (bv [1, 97, 1, 98, 0])) :
    Calls Try.prog 13 #[.pointer (some ⟨g, 0, none⟩), .slice A 5 c, .string ⟨#[1, 99, 1, 98, 0]⟩] w fun e w' => ∃ A c, e = .returned (.tuple #[.slice A 9 c, .int .i64 0]) ∧ w'.ownsRow w.heap.size 5 1 (.slice A 9 c) 9 (bv [1, 97, 1, 98, 0, 1, 99, 192, 2]) ∧ Below base w w' := by
  obtain ⟨g0, hA, hc, _⟩ := own_at ho (by omega : 0 < 5)
  refine (put_in g base mp tab1 A [1, 97, 1, 98, 0] c ⟨#[1, 99, 1, 98, 0]⟩ cb w hT hb cb_split hc (fun e => by rw [hA] at e; cases e) (by simp) ((Bs.of_own ho).more (Nat.zero_le _) (Nat.le_refl _)) (by simp [tab1])).mono ?_
  rintro e w' ⟨v, mp, rfl, h1, h2, h3⟩
  rw [show ([1, 97, 1, 98, 0] : List UInt8).length = 5 from rfl, cb_put] at h1 h2
  obtain ⟨A, c, rfl⟩ := own_form h1
  exact ⟨A, c, rfl, h1, h3.below⟩
theorem wtake (A : Option Addr) (c b : Nat) (w : World) (ho : w.ownsRow b 5 1 (.slice A 9 c) 9 (bv [1, 97, 1, 98, 0, 1, 99, 192, 2])) :
    Calls Try.prog 16 #[.slice A 9 c, .int .i64 5] w fun e w' => e = .returned (.tuple #[.string ⟨#[1, 99, 1, 98, 0]⟩, .int .i64 9, .int .i64 0]) ∧ Below w.heap.size w w' := by
  obtain ⟨g0, hA, hc, _⟩ := own_at ho (by omega : 0 < 9)
  refine (prTake_any A [1, 97, 1, 98, 0, 1, 99, 192, 2] c 5 w hc (by simp) 0 ((Bs.of_own ho).more (Nat.zero_le _) (Nat.le_refl _))).mono ?_
  rintro e w' ⟨rfl, h⟩
  refine ⟨?_, h⟩
  unfold prTakeV
  rw [if_neg (by simp), show ((5 : Int).toNat) = 5 from rfl, cb_take]
  rfl
set_option maxHeartbeats 1000000 in
set_option maxRecDepth 100000 in
theorem prWakes (w : World) :
    Calls Try.prog 9 #[] w fun e w' => e = .returned (.bool true) ∧ Below w.heap.size w w' := by
  go_enter Try.func9, Try.ntmps9
  go_wp2_with (first
    | (go_at_call 10; refine (pnew_any _).mono ?_; rintro e w1 ⟨rfl, rfl⟩)
    | (go_at_call_of 13 (Value.string ⟨#[1, 97, 1, 98, 0]⟩); refine (wput1 w.heap.size w.heap.size _ (Tb.new w (Nat.le_refl _)) (by simp)).mono ?_; rintro e w2 ⟨A2, c2, mp2, rfl, O2, T2, R2⟩; have HO2 := Lib.hid O2; have HT2 := Lib.hid T2; have HR2 := Lib.hid R2; have hs2 := R2.below.size; clear O2 T2 R2)
    | (go_at_call_of 13 (Value.string ⟨#[1, 99, 1, 98, 0]⟩); refine (wput2 w.heap.size w.heap.size mp2 A2 c2 _ HT2.out (by simp at hs2; omega) (own_mono HO2.out (by simp))).mono ?_; rintro e w3 ⟨A3, c3, rfl, O3, B3⟩; have HO3 := Lib.hid O3; have HB3 := Lib.hid B3; have hs3 := B3.size; have hcv := run_convert_own w3 31 9 5 Try.underlying31 Try.underlying5 Try.underlying9 _ 9 _ _ O3; clear O3 B3)
    | (go_at_call 16; refine (wtake A3 c3 _ _ HO3.out).mono ?_; rintro e w4 ⟨rfl, B4⟩; have hcv4 := run_convert_own w4 31 9 5 Try.underlying31 Try.underlying5 Try.underlying9 _ 9 _ _ (own_below HO3.out B4 (Nat.le_refl _)); have HB4 := Lib.hid B4; clear B4))
  go_ret
  refine ⟨rfl, ?_⟩
  exact (((Below.refl _ w).alloc (Nat.le_refl _) _).trans HR2.out.below).trans (HB3.out.trans (HB4.out.mono (by simp at hs2; omega)))
end Go.Proofs.Ytfekmolgiohegaa
