/- slices.Concat and slices.Grow of bytes. -/
import Derived.Test.YtfekmolgiohegaaMem
import Derived.Lib.AppendZeros
namespace Go.Proofs.Ytfekmolgiohegaa
open Go.RowKit

theorem cells_zero (n : Nat) : (Builtin.zeroCells (Value.int .u8 0).cells n).size = n := by simp [size_zeroCells, Value.cells]
set_option maxHeartbeats 400000 in
theorem grow_nil (n : Nat) (w : World) (hn : n ≤ 140737488355328) :
    Calls Try.prog 33 #[.slice none 0 0, .int .i64 n] w fun e w' => ∃ v, e = .returned v ∧ w'.ownsRow w.heap.size 5 1 v 0 [] ∧ Below w.heap.size w w' := by
  obtain ⟨i0, hi, hz0, hz1, hz2⟩ := info_parts Try.infoByte
  by_cases h0 : n = 0
  · subst h0
    go_enter Try.func33, Try.ntmps33
    go_wp2
    go_ret
    exact ⟨_, rfl, World.ownsRow_nil _ _ _ _, Below.refl _ _⟩
  · have happ := Lib.run_append_nil_zeros (P := Try.prog) w 31 3 31 5 i0 (.int .u8 0) .i64 .i64 Try.underlying31 Try.underlying3 hi hz0 n (by omega) (by omega) (by omega) (by rw [hz2]; omega)
    have hge := grownCap_ge w n 0 5
    have hle := grownCap_le_maxLen w n 0 5 (by unfold maxLen; omega)
    have hzs : (Builtin.zeroCells (Value.int .u8 0).cells n ++ Builtin.zeroCells (Value.int .u8 0).cells (grownCap w n 0 5 - n)).size = grownCap w n 0 5 := by
      rw [Array.size_append, cells_zero, cells_zero]; omega
    have HZ := Lib.hid hzs
    clear hzs
    generalize grownCap w n 0 5 = cap at *
    generalize (Builtin.zeroCells (Value.int .u8 0).cells n ++ Builtin.zeroCells (Value.int .u8 0).cells (cap - n)) = Z at *
    go_enter Try.func33, Try.ntmps33
    have HP := Lib.hid happ
    clear happ
    go_wp2_with (at_builtin; refine wpList_append_run rfl (.tmp 20) (.tmp 21) _ _ rfl _ _ rfl rfl (R := fun v' w' => v' = .slice (some ⟨w.heap.size, 0, none⟩) n cap ∧ w' = w.drew.alloc (.cells Z 5)) ⟨_, _, HP.out, rfl, rfl⟩ ?_; rintro v' w' ⟨rfl, rfl⟩)
    go_ret
    refine ⟨_, rfl, ⟨rfl, .inr ⟨w.heap.size, cap, Z, rfl, Nat.le_refl _, heap_alloc_new w.drew _, Nat.zero_le _, hle, by rw [HZ.out]; omega, by simp⟩⟩, ?_⟩
    exact ((Below.refl _ _).drew).alloc (Nat.le_refl _) _

/-- slices of bytes that are read: where they begin, their capacity, their bytes. -/
abbrev Sl := Option Addr × Nat × List UInt8
def slv (s : Sl) : Value := .slice s.1 s.2.2.length s.2.1
def cat (ss : List Sl) : List UInt8 := ss.flatMap (·.2.2)
theorem cat_take (ss : List Sl) {k : Nat} (h : k < ss.length) : cat (ss.take (k + 1)) = cat (ss.take k) ++ (ss[k]'h).2.2 := by
  unfold cat; rw [List.take_succ_eq_append_getElem h, List.flatMap_append]; simp only [List.flatMap_cons, List.flatMap_nil, List.append_nil]
theorem cat_le (ss : List Sl) (k : Nat) : (cat (ss.take k)).length ≤ (cat ss).length := by
  have e : cat ss = cat (ss.take k) ++ cat (ss.drop k) := by unfold cat; rw [← List.flatMap_append, List.take_append_drop]
  rw [e, List.length_append]; omega
theorem cat_all (ss : List Sl) : cat (ss.take ss.length) = cat ss := by rw [List.take_length]

set_option maxHeartbeats 1000000 in
set_option maxRecDepth 100000 in
theorem concat_any (g : Nat) (ss : List Sl) (w : World) (hg : g < w.heap.size) (hc : ∀ j (h : j < ss.length), w.cell? ⟨g, j, none⟩ = some (slv (ss[j]'h)))
    (hb : ∀ j (h : j < ss.length), Bs w 0 w.heap.size (ss[j]'h).1 (ss[j]'h).2.2) (hn : ∀ j (h : j < ss.length), (ss[j]'h).1 = none → (ss[j]'h).2.1 = 0) (ht : (cat ss).length ≤ 140737488355328) (hs : ss.length ≤ 1000) :
    Calls Try.prog 24 #[.slice (some ⟨g, 0, none⟩) ss.length ss.length] w fun e w' => ∃ v, e = .returned v ∧ w'.ownsRow w.heap.size 5 1 v (cat ss).length (bv (cat ss)) ∧ Below w.heap.size w w' := by
  obtain ⟨i0, hi, hz0, hz1, hz2⟩ := info_parts Try.infoByte
  have HC := Lib.hid hc
  have HB := Lib.hid hb
  have HN := Lib.hid hn
  have HA := Lib.hid (cat_all ss)
  clear hc hb hn
  go_enter Try.func24, Try.ntmps24
  go_wp2
  go_loop [3, 11] (fun s i => ∃ k : Nat, i = .int .i64 k ∧ k ≤ ss.length ∧ s = .int .i64 ((cat (ss.take k)).length : Nat)) (fun _ i => ss.length - (intOf i).toNat)
  case atStart => exact ⟨0, rfl, Nat.zero_le _, rfl⟩
  case round =>
    obtain ⟨k, rfl, hk, rfl⟩ := hrel
    have hle := cat_le ss k
    by_cases hlt : k < ss.length
    · have ck := HC.out k hlt
      have hle2 := cat_le ss (k + 1)
      have HT : Hid ((cat (ss.take (k + 1))).length = (cat (ss.take k)).length + (ss[k]'hlt).2.2.length) := by rw [Hid, cat_take ss hlt, List.length_append]
      rw [HT.out] at hle2
      unfold slv at ck
      generalize (ss[k]'hlt).2.2.length = m at *
      generalize (cat (ss.take k)).length = z at *
      go_wp2
      go_round
      case rel => exact ⟨k + 1, by go_num, by omega, by rw [HT.out]; go_num⟩
      case measure => simp [intOf]; omega
    · obtain rfl : k = ss.length := by omega
      have hA := HA.out
      rw [hA]
      clear hA hle
      have HG := Lib.hid (grow_nil (cat ss).length w ht)
      go_wp2_with (go_at_call 33; refine HG.out.mono ?_; rintro e w1 ⟨v, rfl, hO, hb1⟩)
      have HO := Lib.hid hO
      have HB1 := Lib.hid hb1
      have hbs := hb1.size
      clear hO hb1
      go_loopw [6, 27] (fun s i wr => ∃ k : Nat, i = .int .i64 k ∧ k ≤ ss.length ∧ wr.ownsRow w.heap.size 5 1 s (cat (ss.take k)).length (bv (cat (ss.take k))) ∧ Below w.heap.size w wr) (fun _ i _ => ss.length - (intOf i).toNat)
      case atStart => exact ⟨0, rfl, Nat.zero_le _, by simpa [cat, bv] using HO.out, HB1.out⟩
      case round =>
        obtain ⟨k, rfl, hk, hown, hbw⟩ := hrel
        have HO2 := Lib.hid hown
        have HW := Lib.hid hbw
        have hbs2 := hbw.size
        clear hown hbw
        by_cases hlt : k < ss.length
        · have ck : wr.cell? ⟨g, k, none⟩ = some (slv (ss[k]'hlt)) := (HW.out.cell (p := ⟨g, k, none⟩) hg).trans (HC.out k hlt)
          have hle2 := cat_le ss (k + 1)
          have HT := Lib.hid (cat_take ss hlt)
          have hBk := Lib.hid ((HB.out k hlt).keep HW.out)
          have hNk := Lib.hid (HN.out k hlt)
          rw [HT.out, List.length_append] at hle2
          unfold slv at ck
          generalize (ss[k]'hlt).2.2 = l at *
          generalize (ss[k]'hlt).2.1 = c at *
          generalize (ss[k]'hlt).1 = A at *
          obtain ⟨y, hy⟩ : ∃ y, cat (ss.take k) = y := ⟨_, rfl⟩
          rw [hy] at hle2
          have HY := Lib.hid hy
          clear hy
          rw [HY.out] at HO2 HT
          go_wp2_with (at_builtin; refine wpList_append_bs rfl (.tmp 31) (.tmp 32) _ rfl w.heap.size _ i0 _ Try.underlying31 hi hz0 hz1 hz2 rfl _ y.length (bv y) rfl HO2.out 0 w.heap.size A c l rfl hBk.out hNk.out (by omega) hbs2 ?_; intro v6 w6 O6 G6)
          have hB6 : Below w.heap.size w w6 := HW.out.grown G6 hbs2 (fun k hk => (HO2.out.lt k hk).1)
          go_roundw
          case rel => exact ⟨k + 1, by go_num, by omega, own_to O6 (by rw [HT.out, List.length_append]) (by rw [HT.out, bv_append]), hB6⟩
          case measure => simp [intOf]; omega
        · obtain rfl : k = ss.length := by omega
          have hA := HA.out
          rw [hA] at HO2
          clear hA
          go_wp2
          go_ret
          exact ⟨_, rfl, HO2.out, HW.out⟩

theorem concat2 (g : Nat) (A B : Option Addr) (c d n m : Nat) (l k : List UInt8) (w : World) (hg : g < w.heap.size) (h0 : w.cell? ⟨g, 0, none⟩ = some (.slice A n c)) (h1 : w.cell? ⟨g, 1, none⟩ = some (.slice B m d)) (hn : n = l.length) (hm : m = k.length)
    (b0 : Bs w 0 w.heap.size A l) (b1 : Bs w 0 w.heap.size B k) (n0 : A = none → c = 0) (n1 : B = none → d = 0) (ht : (l ++ k).length ≤ 140737488355328) :
    Calls Try.prog 24 #[.slice (some ⟨g, 0, none⟩) 2 2] w fun e w' => ∃ v, e = .returned v ∧ w'.ownsRow w.heap.size 5 1 v (l ++ k).length (bv (l ++ k)) ∧ Below w.heap.size w w' := by
  subst hn hm
  have e : cat [(A, c, l), (B, d, k)] = l ++ k := by simp [cat]
  have := concat_any g [(A, c, l), (B, d, k)] w hg (fun j h => by
    rcases j with _ | _ | j
    · exact h0
    · exact h1
    · simp at h; omega) (fun j h => by
    rcases j with _ | _ | j
    · exact b0
    · exact b1
    · simp at h; omega) (fun j h => by
    rcases j with _ | _ | j
    · exact n0
    · exact n1
    · simp at h; omega) (by rw [e]; exact ht) (by simp)
  rw [e] at this
  exact this
theorem concat3 (g : Nat) (A B C : Option Addr) (c d f n m o : Nat) (l k j : List UInt8) (w : World) (hg : g < w.heap.size) (h0 : w.cell? ⟨g, 0, none⟩ = some (.slice A n c)) (h1 : w.cell? ⟨g, 1, none⟩ = some (.slice B m d)) (h2 : w.cell? ⟨g, 2, none⟩ = some (.slice C o f)) (hn : n = l.length) (hm : m = k.length) (ho : o = j.length)
    (b0 : Bs w 0 w.heap.size A l) (b1 : Bs w 0 w.heap.size B k) (b2 : Bs w 0 w.heap.size C j) (n0 : A = none → c = 0) (n1 : B = none → d = 0) (n2 : C = none → f = 0) (ht : (l ++ (k ++ j)).length ≤ 140737488355328) :
    Calls Try.prog 24 #[.slice (some ⟨g, 0, none⟩) 3 3] w fun e w' => ∃ v, e = .returned v ∧ w'.ownsRow w.heap.size 5 1 v (l ++ (k ++ j)).length (bv (l ++ (k ++ j))) ∧ Below w.heap.size w w' := by
  subst hn hm ho
  have e : cat [(A, c, l), (B, d, k), (C, f, j)] = l ++ (k ++ j) := by simp [cat]
  have := concat_any g [(A, c, l), (B, d, k), (C, f, j)] w hg (fun j h => by
    rcases j with _ | _ | _ | j
    · exact h0
    · exact h1
    · exact h2
    · simp at h; omega) (fun j h => by
    rcases j with _ | _ | _ | j
    · exact b0
    · exact b1
    · exact b2
    · simp at h; omega) (fun j h => by
    rcases j with _ | _ | _ | j
    · exact n0
    · exact n1
    · exact n2
    · simp at h; omega) (by rw [e]; exact ht) (by simp)
  rw [e] at this
  exact this
end Go.Proofs.Ytfekmolgiohegaa
