/- slices.Concat and slices.Grow of records. -/
import Derived.Test.YtnhoaceickojeaaMgRow
namespace Go.Proofs.Ytnhoaceickojeaa
open Go.RowKit

set_option maxRecDepth 100000 in
theorem info_recs : ∃ i z, Try.prog.info? 50 = some i ∧ i.zero = some z ∧ i.size = 12 ∧ i.bytes = 96 ∧ z.cells.size = 12 := by
  refine ⟨_, _, rfl, rfl, ?_, ?_, ?_⟩ <;> kernel_rfl
set_option maxHeartbeats 400000 in
set_option maxRecDepth 100000 in
theorem growR_nil (n : Nat) (w : World) (hn : n ≤ 1000000000000) :
    Calls Try.prog 66 #[.slice none 0 0, .int .i64 n] w fun e w' => ∃ v, e = .returned v ∧ Own rcl 12 w' w.heap.size 50 v [] ∧ Below w.heap.size w w' := by
  obtain ⟨i0, z0, hi, hz0, hz1, hz2, hz3⟩ := info_recs
  by_cases h0 : n = 0
  · subst h0
    go_enter Try.func66, Try.ntmps66
    go_wp2
    go_ret
    exact ⟨_, rfl, World.ownsRow_nil _ _ _ _, Below.refl _ _⟩
  · have happ := Lib.run_append_nil_zeros (P := Try.prog) w 36 3 36 50 i0 z0 .i64 .i64 Try.underlying36 Try.underlying3 hi hz0 n (by omega) (by omega) (by omega) (by rw [hz2]; omega)
    have hge := grownCap_ge w n 0 50
    have hle := grownCap_le_maxLen w n 0 50 (by unfold maxLen; omega)
    have hzs : (Builtin.zeroCells z0.cells n ++ Builtin.zeroCells z0.cells (grownCap w n 0 50 - n)).size = grownCap w n 0 50 * 12 := by
      rw [Array.size_append, size_zeroCells, size_zeroCells, hz3, ← Nat.add_mul]
      congr 1
      omega
    have HZ := Lib.hid hzs
    clear hzs
    generalize grownCap w n 0 50 = cap at *
    generalize (Builtin.zeroCells z0.cells n ++ Builtin.zeroCells z0.cells (cap - n)) = Z at *
    go_enter Try.func66, Try.ntmps66
    have HP := Lib.hid happ
    clear happ
    go_wp2_with (at_builtin; refine wpList_append_run rfl (.tmp 20) (.tmp 21) _ _ rfl _ _ rfl rfl (R := fun v' w' => v' = .slice (some ⟨w.heap.size, 0, none⟩) n cap ∧ w' = w.drew.alloc (.cells Z 50)) ⟨_, _, HP.out, rfl, rfl⟩ ?_; rintro v' w' ⟨rfl, rfl⟩)
    go_ret
    refine ⟨_, rfl, ⟨rfl, .inr ⟨w.heap.size, cap, Z, rfl, Nat.le_refl _, heap_alloc_new w.drew _, Nat.zero_le _, hle, by rw [HZ.out], by simp [fl]⟩⟩, ?_⟩
    exact ((Below.refl _ _).drew).alloc (Nat.le_refl _) _
/-- slices of records that are read. -/
abbrev Slr := Option Addr × Nat × List Rv
def slrv (s : Slr) : Value := .slice s.1 s.2.2.length s.2.1
def catR (ss : List Slr) : List Rv := ss.flatMap (·.2.2)
theorem catR_take (ss : List Slr) {k : Nat} (h : k < ss.length) : catR (ss.take (k + 1)) = catR (ss.take k) ++ (ss[k]'h).2.2 := by
  unfold catR; rw [List.take_succ_eq_append_getElem h, List.flatMap_append]; simp only [List.flatMap_cons, List.flatMap_nil, List.append_nil]
theorem catR_le (ss : List Slr) (k : Nat) : (catR (ss.take k)).length ≤ (catR ss).length := by
  have e : catR ss = catR (ss.take k) ++ catR (ss.drop k) := by unfold catR; rw [← List.flatMap_append, List.take_append_drop]
  rw [e, List.length_append]; omega
theorem catR_all (ss : List Slr) : catR (ss.take ss.length) = catR ss := by rw [List.take_length]
set_option maxHeartbeats 1000000 in
set_option maxRecDepth 100000 in
theorem concatR_any (g : Nat) (ss : List Slr) (w : World) (hg : g < w.heap.size) (hc : ∀ j (h : j < ss.length), w.cell? ⟨g, j, none⟩ = some (slrv (ss[j]'h)))
    (hb : ∀ j (h : j < ss.length), Srow rcl 12 w 0 w.heap.size (ss[j]'h).1 (ss[j]'h).2.2) (ht : (catR ss).length ≤ 1000000000000) (hs : ss.length ≤ 1000) :
    Calls Try.prog 59 #[.slice (some ⟨g, 0, none⟩) ss.length ss.length] w fun e w' => ∃ v, e = .returned v ∧ Own rcl 12 w' w.heap.size 50 v (catR ss) ∧ Below w.heap.size w w' := by
  obtain ⟨i0, z0, hi, hz0, hz1, hz2, hz3⟩ := info_recs
  have HC := Lib.hid hc
  have HB := Lib.hid hb
  have HA := Lib.hid (catR_all ss)
  have HI := Lib.hid (And.intro hi (And.intro hz0 (And.intro hz1 (And.intro hz2 hz3))))
  clear hc hb hi hz0 hz1 hz2 hz3
  go_enter Try.func59, Try.ntmps59
  go_wp2
  go_loop [3, 11] (fun s i => ∃ k : Nat, i = .int .i64 k ∧ k ≤ ss.length ∧ s = .int .i64 ((catR (ss.take k)).length : Nat)) (fun _ i => ss.length - (intOf i).toNat)
  case atStart => exact ⟨0, rfl, Nat.zero_le _, rfl⟩
  case round =>
    obtain ⟨k, rfl, hk, rfl⟩ := hrel
    have hle := catR_le ss k
    by_cases hlt : k < ss.length
    · have ck := HC.out k hlt
      have hle2 := catR_le ss (k + 1)
      have HT : Hid ((catR (ss.take (k + 1))).length = (catR (ss.take k)).length + (ss[k]'hlt).2.2.length) := by rw [Hid, catR_take ss hlt, List.length_append]
      rw [HT.out] at hle2
      unfold slrv at ck
      generalize (ss[k]'hlt).2.2.length = m at *
      generalize (catR (ss.take k)).length = z at *
      go_wp2
      go_round
      case rel => exact ⟨k + 1, by go_num, by omega, by rw [HT.out]; go_num⟩
      case measure => simp [intOf]; omega
    · obtain rfl : k = ss.length := by omega
      have hA := HA.out
      rw [hA]
      clear hA hle
      have HG := Lib.hid (growR_nil (catR ss).length w ht)
      go_wp2_with (go_at_call 66; refine HG.out.mono ?_; rintro e w1 ⟨v, rfl, hO, hb1⟩)
      have HO := Lib.hid hO
      have HB1 := Lib.hid hb1
      have hbs := hb1.size
      clear hO hb1
      go_loopw [6, 27] (fun s i wr => ∃ k : Nat, i = .int .i64 k ∧ k ≤ ss.length ∧ Own rcl 12 wr w.heap.size 50 s (catR (ss.take k)) ∧ Below w.heap.size w wr) (fun _ i _ => ss.length - (intOf i).toNat)
      case atStart => exact ⟨0, rfl, Nat.zero_le _, by simpa [catR] using HO.out, HB1.out⟩
      case round =>
        obtain ⟨k, rfl, hk, hown, hbw⟩ := hrel
        have HO2 := Lib.hid hown
        have HW := Lib.hid hbw
        have hbs2 := hbw.size
        clear hown hbw
        by_cases hlt : k < ss.length
        · have ck : wr.cell? ⟨g, k, none⟩ = some (slrv (ss[k]'hlt)) := (HW.out.cell (p := ⟨g, k, none⟩) hg).trans (HC.out k hlt)
          have hle2 := catR_le ss (k + 1)
          have HT := Lib.hid (catR_take ss hlt)
          have hBk := Lib.hid (((HB.out k hlt).keep HW.out).more (Nat.le_refl _) hbs2)
          rw [HT.out, List.length_append] at hle2
          unfold slrv at ck
          generalize (ss[k]'hlt).2.2 = l at *
          generalize (ss[k]'hlt).2.1 = c at *
          generalize (ss[k]'hlt).1 = A at *
          obtain ⟨y, hy⟩ : ∃ y, catR (ss.take k) = y := ⟨_, rfl⟩
          rw [hy] at hle2
          have HY := Lib.hid hy
          clear hy
          rw [HY.out] at HO2 HT
          obtain ⟨v6, w6, r6, o6, g6, _⟩ := run_append_row (P := Try.prog) (w := wr) rcl_len (by decide) (fun r u hu => rcl_one r u hu) w.heap.size 36 36 50 i0 z0 96 Try.underlying36 HI.out.1 HI.out.2.1 HI.out.2.2.1 HI.out.2.2.2.1 HI.out.2.2.2.2 _ y HO2.out 0 wr.heap.size A c l hBk.out (by unfold maxLen; omega) (by omega) hbs2
          have HR6 := Lib.hid r6
          obtain ⟨m, hm⟩ : ∃ m, l.length = m := ⟨_, rfl⟩
          rw [hm] at ck HR6
          have hB6 : Hid (Below w.heap.size w w6) := HW.out.grown g6 hbs2 (fun k hk => (HO2.out.lt k hk).1)
          have HO6 := Lib.hid o6
          clear r6 o6 g6 hm
          go_wp2_with (at_builtin; refine wpList_append_run rfl (.tmp 31) (.tmp 32) _ _ rfl _ _ rfl rfl (R := fun v' w' => v' = v6 ∧ w' = w6) ⟨_, _, HR6.out, rfl, rfl⟩ ?_; rintro v' w' ⟨hv', hw'⟩; obtain rfl := hv'.symm; obtain rfl := hw'.symm)
          go_roundw
          case rel => exact ⟨k + 1, by go_num, by omega, by rw [HT.out]; exact HO6.out, hB6.out⟩
          case measure => simp [intOf]; omega
        · obtain rfl : k = ss.length := by omega
          have hA := HA.out
          rw [hA] at HO2
          clear hA
          go_wp2
          go_ret
          exact ⟨_, rfl, HO2.out, HW.out⟩
end Go.Proofs.Ytnhoaceickojeaa
