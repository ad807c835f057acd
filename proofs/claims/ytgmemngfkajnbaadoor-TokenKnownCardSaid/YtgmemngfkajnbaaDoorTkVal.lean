/- A word's value, and a word as an argument. -/
import Derived.Test.YtgmemngfkajnbaaDoorBytesRef
import Derived.Test.YtgmemngfkajnbaaDoorMem
import Derived.OpenShut
import Derived.Test.YtgmemngfkajnbaaDoorDoor
namespace Go.Proofs.YtgmemngfkajnbaaDoor
open Go.ChangeShapes Go.WideShapes Go.RowKit

set_option maxRecDepth 100000 in
theorem open_word {H : Type} {enc : TypeId × Value → H} {W : World} {base : Nat} {v : Value} {d : DataW H} {p : List MemPlace} (hval : Value.okWide Tryd.prog W .any base 32 v) (h : DataW.Trod enc Tryd.prog W 0 (fun _ => true) true 32 v d p) :
    ∃ (s : ByteArray) (q : Bool) (i j : Int), v = .agg #[.string s, .bool q, .int .i64 i, .int .i64 j] := by
  obtain ⟨cs, rfl, hsz⟩ := okWide_struct Tryd.underlying32 hval
  have hsz8 : cs.size = 4 := hsz.trans (by kernel_rfl)
  obtain ⟨fuel, hf⟩ := h
  obtain ⟨cs⟩ := cs
  match cs, hsz8 with
  | [a0, a1, a2, a3], _ =>
    obtain ⟨xs, n, _, hx, _, hlen, hg⟩ := DataW.trod_struct Tryd.underlying32 hf
    match xs, hlen with
    | [y0, y1, y2, y3], _ =>
      have ks : Tryd.prog.cellsOf 9 = 1 := by kernel_rfl
      have kb : Tryd.prog.cellsOf 4 = 1 := by kernel_rfl
      have ki : Tryd.prog.cellsOf 3 = 1 := by kernel_rfl
      have g0 : DataW.trod enc Tryd.prog W 0 (fun _ => true) true n 9 (List.take (Tryd.prog.cellsOf 9) [a0, a1, a2, a3]) = some y0 := hg 0 _ rfl
      have g1 : DataW.trod enc Tryd.prog W 0 (fun _ => true) true n 4 (List.take (Tryd.prog.cellsOf 4) [a1, a2, a3]) = some y1 := hg 1 _ rfl
      have g2 : DataW.trod enc Tryd.prog W 0 (fun _ => true) true n 3 (List.take (Tryd.prog.cellsOf 3) [a2, a3]) = some y2 := hg 2 _ rfl
      have g3 : DataW.trod enc Tryd.prog W 0 (fun _ => true) true n 3 (List.take (Tryd.prog.cellsOf 3) [a3]) = some y3 := hg 3 _ rfl
      rw [ks] at g0
      rw [kb] at g1
      rw [ki] at g2 g3
      obtain ⟨s0, f0, _, _⟩ := DataW.trod_string Tryd.underlying9 g0
      obtain ⟨b1, f1, _⟩ := DataW.trod_bool Tryd.underlying4 g1
      obtain ⟨i2, f2, _, _⟩ := DataW.trod_int Tryd.underlying3 g2
      obtain ⟨i3, f3, _, _⟩ := DataW.trod_int Tryd.underlying3 g3
      injection f0 with f0 _
      injection f1 with f1 _
      injection f2 with f2 _
      injection f3 with f3 _
      subst f0 f1 f2 f3
      exact ⟨s0, b1, i2, i3, rfl⟩

theorem unR_form (l : List UInt8) : ∃ x n, unR l = .tuple #[.string x, .int .i64 n] := by
  unfold unR
  split <;> exact ⟨_, _, rfl⟩
set_option maxRecDepth 100000 in
theorem value_any (s : ByteArray) (q : Bool) (i j : Int) (w : World) (hL : Lay w) (hs : s.size ≤ 1048576) : Calls Tryd.prog 5 #[.agg #[.string s, .bool q, .int .i64 i, .int .i64 j]] w fun e w' => e = .returned (unR s.data.toList) ∧ Below w.heap.size w w' := by
  have hB0 : Below w.heap.size w (w.alloc (.cells #[.string s, .bool q, .int .i64 i, .int .i64 j] 32)) := (Below.refl _ _).alloc (Nat.le_refl _) _
  have HB0 := Lib.hid hB0
  have h1 := Bytes_any s (w.alloc (.cells #[.string s, .bool q, .int .i64 i, .int .i64 j] 32)) (hL.below hB0 hL.size) (by omega)
  obtain ⟨x, n, e1⟩ := unR_form s.data.toList
  rw [e1] at h1 ⊢
  have H1 := Lib.hid h1
  clear e1 hL h1 hB0
  go_enter Tryd.func5, Tryd.ntmps5
  go_wp2_with (go_at_call 8; refine H1.out.mono ?_; rintro e w1 ⟨rfl, hb1⟩; have B1 := Lib.hid (HB0.out.trans (hb1.mono HB0.out.size)); clear hb1)
  go_ret2
  exact ⟨rfl, B1.out⟩
end Go.Proofs.YtgmemngfkajnbaaDoor
