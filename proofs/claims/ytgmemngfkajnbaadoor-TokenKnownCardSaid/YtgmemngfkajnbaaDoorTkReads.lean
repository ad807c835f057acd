/- The example that every statement asks: it is read. -/
import Derived.Test.YtgmemngfkajnbaaDoorTkEnt
import Derived.Test.YtgmemngfkajnbaaDoorTkSame
namespace Go.Proofs.YtgmemngfkajnbaaDoor
open Go.RowKit

/-- the example, and what it tells. -/
def exT : ByteArray := ⟨#[97, 32, 34, 98, 32, 99, 34, 32, 40, 10, 59, 120, 10, 32, 100, 41, 10]⟩
def exE : List Tk.En := [⟨false, 1, [⟨[97], false, 1, 1⟩, ⟨[98, 32, 99], true, 1, 3⟩, ⟨[100], false, 3, 2⟩]⟩]
theorem exTells : Tk.tells exT.data.toList = .ok exE := by decide +kernel
theorem entries_ok {s : ByteArray} {es : List Tk.En} (w : World) (hs : s.size ≤ 262144) (h : Tk.tells s.data.toList = .ok es) :
    Calls Tryd.prog 4 #[.string s] w fun e w' => Below w.heap.size w w' ∧ ∃ ve out, e = .returned (.tuple #[ve, .agg #[.int .i64 0, .int .i64 0], .int .i64 0]) ∧ Ers w' w.heap.size ve out ∧ out.map Ex.en = es := by
  refine (entries_any s w).mono ?_
  rintro e w' ⟨h1, h2⟩
  rw [if_neg (by omega), h] at h2
  exact ⟨h1, h2⟩
theorem entries_no {s : ByteArray} {l c x : Nat} (w : World) (hs : s.size ≤ 262144) (h : Tk.tells s.data.toList = .err l c x) :
    Calls Tryd.prog 4 #[.string s] w fun e w' => Below w.heap.size w w' ∧ e = .returned (.tuple #[.slice none 0 0, .agg #[.int .i64 l, .int .i64 c], .int .i64 x]) := by
  refine (entries_any s w).mono ?_
  rintro e w' ⟨h1, h2⟩
  rw [if_neg (by omega), h] at h2
  exact ⟨h1, h2⟩

set_option maxHeartbeats 2000000 in
set_option maxRecDepth 100000 in
theorem reads_any (w : World) : Calls Tryd.prog 6 #[] w fun e w' => e = .returned (.bool true) ∧ Below w.heap.size w w' := by
  have HE := Lib.hid (entries_ok (s := exT) (es := exE) w (by decide) exTells)
  have hq : ((⟨#[100]⟩ : ByteArray).toList == (⟨#[100]⟩ : ByteArray).toList) = true := beq_self_eq_true _
  unfold exT at HE
  go_enter Tryd.func6, Tryd.ntmps6
  go_wp2_with (go_at_call 4; refine HE.out.mono ?_; rintro e w1 ⟨B1, ve, out, rfl, hO, hM⟩; have hat := hO.at_; rw [hM] at hat; have hat2 := hat.below ((Below.refl w1.heap.size w1).alloc (Nat.le_refl _) (.cells #[.int .i64 0, .int .i64 0] 24)); obtain ⟨A, c, rfl, hf⟩ := hat2.form; obtain ⟨g, o, B, d, rfl, _, _, _, c2, hB⟩ := hf 0 (by decide); obtain ⟨g2, o2, rfl, _, d0, d1, d2, d3⟩ := word_cells hB (k := 2) (by decide); have HB1 := Lib.hid B1; clear hat hat2 hf hO hM hB B1)
  go_ret
  exact ⟨rfl, HB1.out.alloc HB1.out.size _⟩
end Go.Proofs.YtgmemngfkajnbaaDoor
