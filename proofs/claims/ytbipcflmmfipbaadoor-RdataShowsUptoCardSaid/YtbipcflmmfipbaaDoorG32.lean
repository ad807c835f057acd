/- Texts of the proofs, merged. -/
import Derived.Test.YtbipcflmmfipbaaDoorG29
/- The document's answer on data: Show of short texts (what Escape answers is handed in). -/
namespace Go.Proofs.YtbipcflmmfipbaaDoor
open Go.RowKit

namespace Rd
def quoted (E : By → By) (ls : List By) : By := ls.flatMap fun l => [32, 34] ++ E l ++ [34]
theorem quoted_take {E : By → By} {ls : List By} {k : Nat} (hk : k < ls.length) : quoted E (ls.take (k + 1)) = ((quoted E (ls.take k) ++ [32, 34]) ++ E (ls[k]'hk)) ++ [34] := by
  unfold quoted
  rw [List.take_add_one, List.getElem?_eq_getElem hk, List.flatMap_append]
  simp
end Rd
set_option maxHeartbeats 2000000 in
set_option maxRecDepth 100000 in
theorem rdShow_TXT (d : Dv) (w : World) (E : List UInt8 → List UInt8) (ls : List (List UInt8)) (hraw : d.raw.size ≤ 65535) (htx : Rd.tx d.raw.data.toList = some ls) (hne : 0 < ls.length) (hE : ∀ x ∈ ls, (E x).length ≤ 2000) (hesc : ∀ x ∈ ls, ∀ W : World, Calls Tryd.prog 55 #[sv x, .bool true] W fun e w' => e = .returned (sv (E x)) ∧ Below W.heap.size W w')
    (hck : ∀ W : World, Calls Tryd.prog 49 #[.int .u16 16, d.val] W fun e w' => e = .returned (.int .i64 0) ∧ Below W.heap.size W w') :
    Calls Tryd.prog 12 #[.int .u16 16, d.val] w fun e w' => e = .returned (.tuple #[sv ((Rd.quoted E ls).drop 1), .int .i64 0]) ∧ Below w.heap.size w w' := by
  have hll := Rd.tx_len htx
  have hl : d.raw.data.toList.length = d.raw.size := by simp
  rw [hl] at hll
  have HCK := Lib.hid hck
  have HES := Lib.hid hesc
  have HEL := Lib.hid hE
  have HNM : Hid (∀ W : World, Calls Tryd.prog 50 #[.int .u16 16] W fun e w' => e = .returned (.tuple #[.bool false, .bool false]) ∧ W = w') := fun W => rdNames_any 16 W (by omega)
  have HNU : Hid (∀ W : World, Calls Tryd.prog 51 #[.int .u16 16] W fun e w' => e = .returned (.tuple #[.int .i64 0, .int .i64 0]) ∧ W = w') := fun W => rdNumbers_any 16 W (by omega)
  have HTT : Hid (∀ W : World, Calls Tryd.prog 54 #[.string d.raw] W fun e w' => ∃ ad cp, e = .returned (.tuple #[.slice ad ls.length cp, .bool (decide (0 < ls.length))]) ∧ w'.ownsRow W.heap.size 9 1 (.slice ad ls.length cp) ls.length (svs ls) ∧ Below W.heap.size W w') := fun W => by
    have := rdTexts_any d.raw W (by omega)
    rw [htx] at this
    exact this.mono fun e w' ⟨v, hb, he, ho⟩ => by
      obtain ⟨ad, cp, rfl⟩ := own_form ho
      exact ⟨ad, cp, he, ho, hb⟩
  have HX0 : Hid (Has (w.alloc (.cells d.cells 27)) w.heap.size 27 d.cells) := Has.fresh w _ _
  have HB0 : Hid (Below w.heap.size w (w.alloc (.cells d.cells 27))) := (Below.refl _ w).alloc (Nat.le_refl _) _
  obtain ⟨R, hR⟩ : ∃ R, (Rd.quoted E ls).drop 1 = R := ⟨_, rfl⟩
  rw [hR]
  have HRR := Lib.hid hR
  clear hck hesc hE htx hl hR
  unfold Dv.val at HCK ⊢
  unfold Dv.cells at HX0 HB0
  go_enter Tryd.func12, Tryd.ntmps12
  go_wp2_with (first
    | (go_at_call 49; refine (HCK.out _).mono ?_; rintro e' w1 ⟨rfl, B1⟩; have HX : Hid (Has w1 w.heap.size 27 d.cells) := HX0.out.below B1 HX0.out.lt; have HB := Lib.hid (HB0.out.trans (B1.mono HB0.out.size)); have c1 := dv_raw HX.out; have hs1 := HB.out.size; clear B1)
    | (go_at_call 50; refine (HNM.out _).mono ?_; rintro e' w2 ⟨rfl, rfl⟩)
    | (go_at_call 51; refine (HNU.out _).mono ?_; rintro e' w3 ⟨rfl, rfl⟩)
    | (go_at_call 54; refine (HTT.out _).mono ?_; rintro e' w4 ⟨ad, cp, rfl, O4, B4⟩; have HO4 := Lib.hid (own_mono O4 hs1); have HB4 := Lib.hid (HB.out.trans (B4.mono hs1)); clear O4 B4))
  go_loopw [10, 15] (fun s i wr => ∃ (k : Nat) (r : List UInt8), i = .int .i64 k ∧ k ≤ ls.length ∧ s = sv r ∧ Hid (r = Rd.quoted E (ls.take k)) ∧ r.length ≤ 2003 * k ∧ Hid (wr.ownsRow w.heap.size 9 1 (.slice ad ls.length cp) ls.length (svs ls)) ∧ Hid (Below w.heap.size w wr)) (fun _ i _ => ls.length - (intOf i).toNat)
  case atStart => exact ⟨0, [], rfl, Nat.zero_le _, rfl, rfl, by simp, HO4.out, HB4.out⟩
  case round =>
    obtain ⟨k, r, rfl, hk, rfl, HE, hrl, HO, HB⟩ := hrel
    have hsw := HB.out.size
    by_cases hkl : k < ls.length
    · obtain ⟨gL, rfl, hcL, hcell⟩ := own_at HO.out hkl
      have c0 := hcell k (sv (ls[k]'hkl)) (by simp [svs, hkl])
      have hel := HEL.out _ (List.getElem_mem hkl)
      have hes := HES.out _ (List.getElem_mem hkl)
      have HE2 : Hid (((r ++ [32, 34]) ++ E (ls[k]'hkl)) ++ [34] = Rd.quoted E (ls.take (k + 1))) := by
        show _ = _
        rw [Rd.quoted_take hkl, HE.out]
      obtain ⟨y, hy⟩ : ∃ y, ls[k]'hkl = y := ⟨_, rfl⟩
      rw [hy] at c0 hel hes HE2
      obtain ⟨x, hx⟩ : ∃ x, E y = x := ⟨_, rfl⟩
      rw [hx] at hel hes HE2
      have HS := Lib.hid hes
      clear hy hx hes hcell
      go_wp2_with (go_at_call 55; refine (HS.out _).mono ?_; rintro e' w5 ⟨rfl, B5⟩; have HO5 := Lib.hid (own_below HO.out B5 (Nat.le_refl _)); have HB5 := Lib.hid (HB.out.trans (B5.mono hsw)); clear B5)
      go_roundw
      case rel => exact ⟨k + 1, ((r ++ [32, 34]) ++ x) ++ [34], by go_num, by omega, sv_eq (by simp), HE2.out, by simp; omega, HO5.out, HB5.out⟩
      case measure => simp [intOf]; omega
    · obtain rfl : k = ls.length := by omega
      have hq := HE.out
      rw [List.take_length] at hq
      have hpos : 0 < r.length := by
        rw [hq]
        cases ls with
        | nil => simp at hne
        | cons a b => unfold Rd.quoted; simp
      have HF : Hid (R = r.drop 1) := by rw [← HRR.out]; show _ = _; rw [hq]
      clear hq
      go_wp2
      go_ret2
      exact ⟨by rw [HF.out, ← sv_eq (ext_tail r)]; rfl, HB.out⟩
end Go.Proofs.YtbipcflmmfipbaaDoor
