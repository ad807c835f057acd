/- Texts of the proofs, merged. -/
import Derived.Test.YtekafhogiambaaaGreatDoorZt33
import Derived.Test.YtekafhogiambaaaGreatDoorZt34
import Derived.Deep.CutRange
namespace Go.Proofs.YtekafhogiambaaaGreatDoor
open Go.RowKit

theorem lfs_take (l : List UInt8) (k : Nat) (h : k < l.length) : Tk.lfs (l.take (k + 1)) = Tk.lfs (l.take k) + (if (l[k]'h).toNat = 10 then 1 else 0) := by
  rw [List.take_succ_eq_append_getElem h, Tk.lfs_append]
  simp [Tk.lfs]
theorem lfs_le : ∀ l : List UInt8, Tk.lfs l ≤ l.length
  | [] => Nat.le_refl _
  | c :: r => by
    have := lfs_le r
    simp only [Tk.lfs, List.length_cons]
    split <;> omega
theorem srow_front {w : World} {lo hi : Nat} {A : Option Addr} {a b : List Rv} (h : Srow rcl 12 w lo hi A (a ++ b)) : Srow rcl 12 w lo hi A a := fun h0 => by
  obtain ⟨g, o, e, h1, h2, h3⟩ := h (by rw [List.length_append]; omega)
  refine ⟨g, o, e, h1, h2, fun j hj => ?_⟩
  have := h3 j (by rw [List.length_append]; omega)
  rwa [List.getElem_append_left hj] at this
theorem mk_entries : ∀ {es : List Tk.En} {s s' : Ma.S}, Mk s → Ma.entries s es = .ok s' → Mk s'
  | [], s, s', h, he => by
    rw [Ma.entries] at he
    injection he with he
    rw [← he]
    exact h
  | e :: es, s, s', h, he => by
    rw [Ma.entries] at he
    split at he
    · cases he
    · split at he
      · cases he
      · rename_i s1 h1
        exact mk_entries (h.entry h1) he
theorem pao_err {s0 : Ma.S} {t : List UInt8} {A : Option Addr} {n c l k x B : Nat} {w : World} (h : PaO s0 t A n c l k x B w) {es : List Tk.En} {er : Ma.Er} (ht : Tk.tells t = .ok es) (he : Ma.entries s0 es = .error er) : n = 0 ∧ x = er.e ∧ l = er.line ∧ k = er.col := by
  rcases h with ⟨e2, s2, h1, h2, _⟩ | ⟨e2, r2, h1, h2, _, _, h5, _, h7, h8, h9⟩ | ⟨y, h1, _⟩
  · rw [ht] at h1; injection h1 with h1; rw [h1, h2] at he; cases he
  · rw [ht] at h1
    injection h1 with h1
    rw [h1, h2] at he
    injection he with he
    subst he
    exact ⟨h5, h7, h8, h9⟩
  · rw [ht] at h1; cases h1
theorem tx2 (a b : ByteArray) : (a ++ ⟨#[10]⟩ ++ b).data.toList = a.data.toList ++ 10 :: b.data.toList := by
  rw [ByteArray.data_append, ByteArray.data_append]; simp
theorem tx3 (a b : ByteArray) : (a ++ ⟨#[10, 36, 120, 10]⟩ ++ b).data.toList = a.data.toList ++ 10 :: (Mt.dxB ++ 10 :: b.data.toList) := by
  rw [ByteArray.data_append, ByteArray.data_append]; simp [Mt.dxB]
theorem tx4 (a : ByteArray) : (a ++ ⟨#[10, 120, 46, 32, 49, 32, 73, 78, 32, 34, 65, 34, 32, 49, 46, 49, 46, 49, 46, 49, 10]⟩).data.toList = a.data.toList ++ 10 :: Mt.qxB := by
  rw [ByteArray.data_append]; simp [Mt.qxB]
theorem sz_of {x : ByteArray} {l : List UInt8} (h : x.data.toList = l) : x.size = l.length := by
  rw [← h]; simp
section
variable {w : World} {a b : ByteArray}
set_option maxHeartbeats 1500000 in
set_option maxRecDepth 100000 in
theorem walk_MasterTailG (hG : Ga w w.heap.size) (has : a.size ≤ 140737488351232) (hbs : b.size ≤ 140737488351232) :
    Calls Tryz.prog 4 #[.string a, .string b] w fun e w' => e = .returned (.bool true) ∧ Below w.heap.size w w' := by
  by_cases ha : 3000 < a.size
  · have d1 : (3000 : Int) < (a.size : Int) := by omega
    clear hG
    go_enter Tryz.func4, Tryz.ntmps4
    go_wp2
    go_ret
    exact ⟨rfl, Below.refl _ _⟩
  have d1 : ¬ (3000 : Int) < (a.size : Int) := by omega
  by_cases hb : 3000 < b.size
  · have d2 : (3000 : Int) < (b.size : Int) := by omega
    clear hG
    go_enter Tryz.func4, Tryz.ntmps4
    go_wp2
    go_ret
    exact ⟨rfl, Below.refl _ _⟩
  have d2 : ¬ (3000 : Int) < (b.size : Int) := by omega
  have hal : a.data.toList.length = a.size := by simp
  have hbl : b.data.toList.length = b.size := by simp
  have HAL := Lib.hid hal
  have HBL := Lib.hid hbl
  have HP : Hid (∀ (t : ByteArray) (W : World), t.size ≤ 262144 → Below w.heap.size w W → Calls Tryz.prog 8 #[.string t, .string ⟨#[0]⟩, .int .u32 5] W fun e w' => ∃ (A : Option Addr) (n c l k x : Nat), e = .returned (.tuple #[.slice A n c, .agg #[.int .i64 l, .int .i64 k], .int .i64 x]) ∧ Below W.heap.size W w' ∧ PaO ⟨[0], 5, false, []⟩ t.data.toList A n c l k x W.heap.size w') := fun t W ht hB =>
    parse_any ht (by decide) (by decide) (by decide) ((hG.below hB).more hB.size)
  have HRD : Hid (∀ (W : World), Below w.heap.size w W → Calls Tryz.prog 10 #[] W fun e w' => e = .returned (.bool true) ∧ Below W.heap.size W w') := fun W hB => maReads_any W ((hG.below hB).more hB.size)
  clear hG hal hbl
  go_enter Tryz.func4, Tryz.ntmps4
  go_upto_region 4 with (go_at_call 8; refine (HP.out a _ (by omega) (Below.refl _ _)).mono ?_; rintro e w1 ⟨A1, n1, c1, l1, k1, x1, rfl, B1, P1⟩; have HB1 := Lib.hid B1; have HP1 := Lib.hid P1; clear B1 P1)
  have hb1 := HB1.out.alloc HB1.out.size (.cells #[.int .i64 l1, .int .i64 k1] 31)
  have hbx1 := (Below.refl w1.heap.size w1).alloc (Nat.le_refl _) (.cells #[.int .i64 l1, .int .i64 k1] 31)
  generalize hW1 : World.alloc w1 (.cells #[.int .i64 l1, .int .i64 k1] 31) = W1 at *
  clear hW1
  have HW1 := Lib.hid hb1
  have HX1 := Lib.hid hbx1
  clear hb1 hbx1
  by_cases hx1 : x1 = 0
  · obtain ⟨es, s1, ht1, he1, hn1, ho1⟩ : ∃ es s1, Tk.tells a.data.toList = .ok es ∧ Ma.entries ⟨[0], 5, false, []⟩ es = .ok s1 ∧ n1 = s1.recs.length ∧ Own mcl 12 w1 w.heap.size 39 (.slice A1 s1.recs.length c1) s1.recs := by
      rcases HP1.out with ⟨es, s1, h1, h2, _, _, _, h6, h7⟩ | ⟨es, er, _, _, hc, _, _, _, h6, _⟩ | ⟨y, _, hy, _, _, _, h6⟩
      · exact ⟨es, s1, h1, h2, h6, h7⟩
      · exfalso; unfold Ma.Code at hc; omega
      · exfalso; omega
    have hx1i : ((x1 : Int) != 0) = false := by simp; omega
    have HT1 := Lib.hid ht1
    have HE1 := Lib.hid he1
    have HN1 := Lib.hid hn1
    have HO1 := Lib.hid ho1
    have hmk : Mk s1 := mk_entries (s := ⟨[0], 5, false, []⟩) ⟨by decide, by simp, by decide, by simp, by simp⟩ he1
    have HMK := Lib.hid hmk
    clear hmk
    clear ht1 he1 hn1 ho1
    go_wp2
    go_loopw [8, 9] (fun n i wr => ∃ k : Nat, i = .int .i64 k ∧ k ≤ a.size ∧ n = .int .i64 ((2 + Tk.lfs (a.data.toList.take k) : Nat) : Int) ∧ wr = W1) (fun _ i _ => a.size - (intOf i).toNat)
    case atStart => exact ⟨0, rfl, Nat.zero_le _, rfl, rfl⟩
    case round =>
      obtain ⟨k, rfl, hk, rfl, rfl⟩ := hrel
      by_cases hlt : k < a.size
      · have hlt' : k < a.data.toList.length := by rw [HAL.out]; exact hlt
        have hki : (k : Int) < (a.size : Int) := by omega
        have hwk : IntKind.i64.wrap ((k : Int) + 1) = ((k + 1 : Nat) : Int) := by rw [IntKind.wrap_i64]; omega
        have e1 : a.data.toList[k]'hlt' = a[k] := by rw [Array.getElem_toList]; rfl
        have e2 := lfs_take a.data.toList k hlt'
        rw [e1] at e2
        have e3 := lfs_le (a.data.toList.take k)
        rw [List.length_take] at e3
        have E2 := Lib.hid e2
        clear e1 e2
        generalize Tk.lfs (a.data.toList.take k) = m at *
        obtain ⟨mi, hmi⟩ : ∃ mi : Int, ((2 + m : Nat) : Int) = mi := ⟨_, rfl⟩
        rw [hmi]
        have hwm : IntKind.i64.wrap (mi + 1) = mi + 1 := by rw [IntKind.wrap_i64]; omega
        have h8 := a[k].toNat_lt
        have HMI := Lib.hid hmi
        clear hmi e3
        by_cases h10 : a[k].toNat = 10
        · have h10b : ((a[k].toNat : Int) == 10) = true := by simp [h10]
          have H10 := Lib.hid h10
          clear h10
          go_wp2
          exact ⟨⟨k + 1, by simp, by omega, by rw [E2.out, if_pos H10.out, ← HMI.out]; congr 1, trivial⟩, by simp [intOf]; omega⟩
        · have h10b : ((a[k].toNat : Int) == 10) = false := by simp; omega
          have H10 := Lib.hid h10
          clear h10
          go_wp2
          exact ⟨⟨k + 1, by simp, by omega, by rw [E2.out, if_neg H10.out, ← HMI.out]; rfl, trivial⟩, by simp [intOf]; omega⟩
      · obtain rfl : k = a.size := by omega
        have hki : ¬ ((a.size : Int) < (a.size : Int)) := by omega
        have hta : a.data.toList.take a.size = a.data.toList := List.take_of_length_le (by rw [HAL.out]; exact Nat.le_refl _)
        rw [hta]
        obtain ⟨NN, hNN⟩ : ∃ NN : Int, ((2 + Tk.lfs a.data.toList : Nat) : Int) = NN := ⟨_, rfl⟩
        rw [hNN]
        have HNN := Lib.hid hNN
        clear hta hNN hlt hk
        have HP2 : Hid (∀ W : World, Below w.heap.size w W → Calls Tryz.prog 8 #[.string (a ++ ⟨#[10]⟩ ++ b), .string ⟨#[0]⟩, .int .u32 5] W fun e w' => ∃ (A : Option Addr) (n c l k x : Nat), e = .returned (.tuple #[.slice A n c, .agg #[.int .i64 l, .int .i64 k], .int .i64 x]) ∧ Below W.heap.size W w' ∧ PaO ⟨[0], 5, false, []⟩ (a.data.toList ++ 10 :: b.data.toList) A n c l k x W.heap.size w') := fun W hB => by
          have h := HP.out (a ++ ⟨#[10]⟩ ++ b) W (by rw [sz_of (tx2 a b), List.length_append, List.length_cons, HAL.out, HBL.out]; omega) hB
          rwa [tx2] at h
        have HP3 : Hid (∀ W : World, Below w.heap.size w W → Calls Tryz.prog 8 #[.string (a ++ ⟨#[10, 36, 120, 10]⟩ ++ b), .string ⟨#[0]⟩, .int .u32 5] W fun e w' => ∃ (A : Option Addr) (n c l k x : Nat), e = .returned (.tuple #[.slice A n c, .agg #[.int .i64 l, .int .i64 k], .int .i64 x]) ∧ Below W.heap.size W w' ∧ PaO ⟨[0], 5, false, []⟩ (a.data.toList ++ 10 :: (Mt.dxB ++ 10 :: b.data.toList)) A n c l k x W.heap.size w') := fun W hB => by
          have h := HP.out (a ++ ⟨#[10, 36, 120, 10]⟩ ++ b) W (by rw [sz_of (tx3 a b), List.length_append, List.length_cons, List.length_append, List.length_cons, HAL.out, HBL.out]; simp [Mt.dxB]; omega) hB
          rwa [tx3] at h
        have HP4 : Hid (∀ W : World, Below w.heap.size w W → Calls Tryz.prog 8 #[.string (a ++ ⟨#[10, 120, 46, 32, 49, 32, 73, 78, 32, 34, 65, 34, 32, 49, 46, 49, 46, 49, 46, 49, 10]⟩), .string ⟨#[0]⟩, .int .u32 5] W fun e w' => ∃ (A : Option Addr) (n c l k x : Nat), e = .returned (.tuple #[.slice A n c, .agg #[.int .i64 l, .int .i64 k], .int .i64 x]) ∧ Below W.heap.size W w' ∧ PaO ⟨[0], 5, false, []⟩ (a.data.toList ++ 10 :: Mt.qxB) A n c l k x W.heap.size w') := fun W hB => by
          have h := HP.out (a ++ ⟨#[10, 120, 46, 32, 49, 32, 73, 78, 32, 34, 65, 34, 32, 49, 46, 49, 46, 49, 46, 49, 10]⟩) W (by rw [sz_of (tx4 a), List.length_append, List.length_cons, HAL.out]; simp [Mt.qxB]; omega) hB
          rwa [tx4] at h
        have HP5 : Hid (∀ W : World, Below w.heap.size w W → Calls Tryz.prog 8 #[.string b, .string ⟨#[0]⟩, .int .u32 5] W fun e w' => ∃ (A : Option Addr) (n c l k x : Nat), e = .returned (.tuple #[.slice A n c, .agg #[.int .i64 l, .int .i64 k], .int .i64 x]) ∧ Below W.heap.size W w' ∧ PaO ⟨[0], 5, false, []⟩ b.data.toList A n c l k x W.heap.size w') := fun W hB => HP.out b W (by omega) hB
        go_upto_region 13 with (go_at_call 8; refine (HP2.out _ HW1.out).mono ?_; rintro e w2 ⟨A2, n2, c2, l2, k2, x2, rfl, B2, P2⟩; have HB2 := Lib.hid (HW1.out.trans (B2.mono HW1.out.size)); have HC2 := Lib.hid B2; have HP2 := Lib.hid P2; clear B2 P2)
        have hb2 := HB2.out.alloc HB2.out.size (.cells #[.int .i64 l2, .int .i64 k2] 31)
        have hbx2 := (Below.refl w2.heap.size w2).alloc (Nat.le_refl _) (.cells #[.int .i64 l2, .int .i64 k2] 31)
        generalize hW2 : World.alloc w2 (.cells #[.int .i64 l2, .int .i64 k2] 31) = W2 at *
        clear hW2
        have HW2 := Lib.hid hb2
        have HX2 := Lib.hid hbx2
        clear hb2 hbx2
        by_cases hx2 : x2 = 0
        · obtain ⟨es2, s2, ht2, he2, hn2, ho2⟩ : ∃ es s2, Tk.tells (a.data.toList ++ 10 :: b.data.toList) = .ok es ∧ Ma.entries ⟨[0], 5, false, []⟩ es = .ok s2 ∧ n2 = s2.recs.length ∧ Own mcl 12 w2 wr.heap.size 39 (.slice A2 s2.recs.length c2) s2.recs := by
            rcases HP2.out with ⟨es, s1, h1, h2, _, _, _, h6, h7⟩ | ⟨es, er, _, _, hc, _, _, _, h6, _⟩ | ⟨y, _, hy, _, _, _, h6⟩
            · exact ⟨es, s1, h1, h2, h6, h7⟩
            · exfalso; unfold Ma.Code at hc; omega
            · exfalso; omega
          obtain ⟨rs, hrs⟩ := Mt.both HT1.out HE1.out ht2 he2
          have hx2i : ((x2 : Int) == 0) = true := by simp; omega
          have hll := congrArg List.length hrs
          rw [List.length_append, ← HN1.out, ← hn2] at hll
          have hl21 : ¬ ((n2 : Int) < (n1 : Int)) := by omega
          have hn21 : n1 ≤ n2 := by omega
          have hc2 : s2.recs.length ≤ c2 := by
            obtain ⟨_, c2', e2, hc2⟩ := ownK_form ho2
            injection e2 with _ _ e2
            omega
          have hs2 := Mh.srow_own ho2
          rw [hrs, List.map_append] at hs2
          have hs2 := srow_front hs2
          have hs1 := Mh.srow_own HO1.out
          have hbd : s1.recs.length ≤ 4294967296 := by
            obtain ⟨l9, q1, q2⟩ := Mt.entries_pre HE1.out
            have q3 := (Tk.tells_fit HT1.out).1
            rw [q1, List.nil_append]
            have := HAL.out
            omega
          have HEQ : Hid (∀ W : World, Below w2.heap.size w2 W → Calls Tryz.prog 11 #[.slice A2 n1 c2, .slice A1 n1 c1] W fun e w' => e = .returned (.bool true) ∧ Below W.heap.size W w') := fun W hB => by
            have q1 := HC2.out.size
            have q2 := HX1.out.size
            have hb1 := (HX1.out.trans (HC2.out.mono q2)).trans (hB.mono (by omega))
            have h := Mh.equal_any (w := W) (A := A2) (B := A1) (c := c2) (c2 := c1) (rs := s1.recs) ((hs2.keep hB).more (Nat.le_refl _) hB.size) ((hs1.keep hb1).more (Nat.le_refl _) hb1.size) hbd
            rw [← HN1.out] at h
            exact h
          have hc21 : (n1 : Int) ≤ (c2 : Int) := by omega
          have hc22 : n1 ≤ c2 := by omega
          clear hs1 hs2 hrs hll ht2 he2 hn2 ho2 hc2 hbd
          go_upto_region 15 with (go_at_call 11; refine (HEQ.out _ HX2.out).mono ?_; rintro e w3 ⟨rfl, B3⟩; have HB3 := Lib.hid (HW2.out.trans (B3.mono HW2.out.size)); clear B3)
          go_upto_region 16 with (go_at_call 8; refine (HP3.out _ HB3.out).mono ?_; rintro e w4 ⟨A3, n3, c3, l3, k3, x3, rfl, B4, P4⟩; have HB4 := Lib.hid (HB3.out.trans (B4.mono HB3.out.size)); have HQ3 := Lib.hid P4; clear B4 P4)
          have hb4 := HB4.out.alloc HB4.out.size (.cells #[.int .i64 l3, .int .i64 k3] 31)
          have hs4 := Has.fresh w4 31 #[.int .i64 l3, .int .i64 k3]
          generalize World.alloc w4 (.cells #[.int .i64 l3, .int .i64 k3] 31) = W4 at *
          have HW4 := Lib.hid hb4
          have HS4 : Hid (Has W4 w4.heap.size 31 #[.int .i64 l3, .int .i64 k3]) := hs4
          clear hb4 hs4
          go_upto_region 17 with (go_at_call 8; refine (HP4.out _ HW4.out).mono ?_; rintro e w5 ⟨A4, n4, c4, l4, k4, x4, rfl, B5, P5⟩; have HB5 := Lib.hid (HW4.out.trans (B5.mono HW4.out.size)); have HS5 := Lib.hid (HS4.out.below B5 HS4.out.lt); have HQ4 := Lib.hid P5; clear B5 P5)
          have hb5 := HB5.out.alloc HB5.out.size (.cells #[.int .i64 l4, .int .i64 k4] 31)
          have hs5 := Has.fresh w5 31 #[.int .i64 l4, .int .i64 k4]
          have hs6 := HS5.out.alloc (.cells #[.int .i64 l4, .int .i64 k4] 31)
          generalize World.alloc w5 (.cells #[.int .i64 l4, .int .i64 k4] 31) = W5 at *
          have HW5 := Lib.hid hb5
          have HS5b : Hid (Has W5 w5.heap.size 31 #[.int .i64 l4, .int .i64 k4]) := hs5
          have HS5a : Hid (Has W5 w4.heap.size 31 #[.int .i64 l3, .int .i64 k3]) := hs6
          clear hb5 hs5 hs6 HS5
          go_upto_region 18 with (go_at_call 8; refine (HP5.out _ HW5.out).mono ?_; rintro e w6 ⟨A5, n5, c5, l5, k5, x5, rfl, B6, P6⟩; have HB6 := Lib.hid (HW5.out.trans (B6.mono HW5.out.size)); have HS6b := Lib.hid (HS5b.out.below B6 HS5b.out.lt); have HS6a := Lib.hid (HS5a.out.below B6 HS5a.out.lt); have HQ5 := Lib.hid P6; clear B6 P6)
          have hb6 := HB6.out.alloc HB6.out.size (.cells #[.int .i64 l5, .int .i64 k5] 31)
          have hs6b := HS6b.out.alloc (.cells #[.int .i64 l5, .int .i64 k5] 31)
          have hs6a := HS6a.out.alloc (.cells #[.int .i64 l5, .int .i64 k5] 31)
          generalize World.alloc w6 (.cells #[.int .i64 l5, .int .i64 k5] 31) = W6 at *
          have HW6 := Lib.hid hb6
          have u0 : W6.cell? ⟨w5.heap.size, 0, none⟩ = some (.int .i64 l4) := hs6b.cell 0
          have u1 : W6.cell? ⟨w5.heap.size, 1, none⟩ = some (.int .i64 k4) := hs6b.cell 1
          have v0 : W6.cell? ⟨w4.heap.size, 0, none⟩ = some (.int .i64 l3) := hs6a.cell 0
          have v1 : W6.cell? ⟨w4.heap.size, 1, none⟩ = some (.int .i64 k3) := hs6a.cell 1
          clear hb6 hs6a hs6b
          obtain ⟨eb, hq1, hq2⟩ := Mt.quoted HT1.out HE1.out rfl HMK.out.o (by rw [HAL.out]; omega)
          obtain ⟨y1, y2, y3, y4⟩ := pao_err HQ4.out hq1 hq2
          have f1 : ((x4 : Int) == 93) = true := by rw [y2]; rfl
          have f2 : ((l4 : Int) == NN) = true := by rw [y3, ← HNN.out]; simp; omega
          have f3 : ((k4 : Int) == 9) = true := by rw [y4]; rfl
          have f4 : ((n4 : Int) == 0) = true := by rw [y1]; rfl
          clear hq1 hq2 y1 y2 y3 y4
          cases htb : Tk.tells b.data.toList with
          | err l9 c9 y9 =>
            have hx5 : x5 = 80 ∨ x5 = 81 := by
              rcases HQ5.out with ⟨_, _, h1, _⟩ | ⟨_, _, h1, _⟩ | ⟨y, h1, hy, _, _, _, h6⟩
              · rw [htb] at h1; cases h1
              · rw [htb] at h1; cases h1
              · omega
            clear htb
            rcases hx5 with hx5 | hx5
            · have g1 : ((x5 : Int) == 80) = true := by rw [hx5]; rfl
              clear hx5
              go_wp2_with (go_at_call 10; refine (HRD.out _ HW6.out).mono ?_; rintro e w7 ⟨rfl, B7⟩; have HB7 := Lib.hid (HW6.out.trans (B7.mono HW6.out.size)); clear B7)
              go_ret
              exact ⟨rfl, HB7.out⟩
            · have g1 : ((x5 : Int) == 80) = false := by rw [hx5]; rfl
              have g2 : ((x5 : Int) == 81) = true := by rw [hx5]; rfl
              clear hx5
              go_wp2_with (go_at_call 10; refine (HRD.out _ HW6.out).mono ?_; rintro e w7 ⟨rfl, B7⟩; have HB7 := Lib.hid (HW6.out.trans (B7.mono HW6.out.size)); clear B7)
              go_ret
              exact ⟨rfl, HB7.out⟩
          | ok ec =>
            have hx5 : x5 ≠ 80 ∧ x5 ≠ 81 := by
              rcases HQ5.out with ⟨_, _, h1, _, h3, _⟩ | ⟨_, _, h1, _, h3, _, _, _, h4, _⟩ | ⟨y, h1, _⟩
              · omega
              · unfold Ma.Code at h3; omega
              · rw [htb] at h1; cases h1
            have g1 : ((x5 : Int) == 80) = false := by simp; omega
            have g2 : ((x5 : Int) == 81) = false := by simp; omega
            obtain ⟨eb, hq1, hq2⟩ := Mt.wrong HT1.out HE1.out htb
            obtain ⟨y1, y2, y3, y4⟩ := pao_err HQ3.out hq1 hq2
            have e1 : ((x3 : Int) == 94) = true := by rw [y2]; rfl
            have e2 : ((l3 : Int) == NN) = true := by rw [y3, ← HNN.out]; simp; omega
            have e3 : ((k3 : Int) == 1) = true := by rw [y4]; rfl
            have e4 : ((n3 : Int) == 0) = true := by rw [y1]; rfl
            clear hq1 hq2 y1 y2 y3 y4 hx5 htb
            go_wp2_with (go_at_call 10; refine (HRD.out _ HW6.out).mono ?_; rintro e w7 ⟨rfl, B7⟩; have HB7 := Lib.hid (HW6.out.trans (B7.mono HW6.out.size)); clear B7)
            go_ret
            exact ⟨rfl, HB7.out⟩
        · have hx2i : ((x2 : Int) == 0) = false := by simp; omega
          clear HX2 HC2 HX1
          generalize W2 = w3 at *
          have HB3 := HW2
          go_upto_region 15 with fail
          go_upto_region 16 with (go_at_call 8; refine (HP3.out _ HB3.out).mono ?_; rintro e w4 ⟨A3, n3, c3, l3, k3, x3, rfl, B4, P4⟩; have HB4 := Lib.hid (HB3.out.trans (B4.mono HB3.out.size)); have HQ3 := Lib.hid P4; clear B4 P4)
          have hb4 := HB4.out.alloc HB4.out.size (.cells #[.int .i64 l3, .int .i64 k3] 31)
          have hs4 := Has.fresh w4 31 #[.int .i64 l3, .int .i64 k3]
          generalize World.alloc w4 (.cells #[.int .i64 l3, .int .i64 k3] 31) = W4 at *
          have HW4 := Lib.hid hb4
          have HS4 : Hid (Has W4 w4.heap.size 31 #[.int .i64 l3, .int .i64 k3]) := hs4
          clear hb4 hs4
          go_upto_region 17 with (go_at_call 8; refine (HP4.out _ HW4.out).mono ?_; rintro e w5 ⟨A4, n4, c4, l4, k4, x4, rfl, B5, P5⟩; have HB5 := Lib.hid (HW4.out.trans (B5.mono HW4.out.size)); have HS5 := Lib.hid (HS4.out.below B5 HS4.out.lt); have HQ4 := Lib.hid P5; clear B5 P5)
          have hb5 := HB5.out.alloc HB5.out.size (.cells #[.int .i64 l4, .int .i64 k4] 31)
          have hs5 := Has.fresh w5 31 #[.int .i64 l4, .int .i64 k4]
          have hs6 := HS5.out.alloc (.cells #[.int .i64 l4, .int .i64 k4] 31)
          generalize World.alloc w5 (.cells #[.int .i64 l4, .int .i64 k4] 31) = W5 at *
          have HW5 := Lib.hid hb5
          have HS5b : Hid (Has W5 w5.heap.size 31 #[.int .i64 l4, .int .i64 k4]) := hs5
          have HS5a : Hid (Has W5 w4.heap.size 31 #[.int .i64 l3, .int .i64 k3]) := hs6
          clear hb5 hs5 hs6 HS5
          go_upto_region 18 with (go_at_call 8; refine (HP5.out _ HW5.out).mono ?_; rintro e w6 ⟨A5, n5, c5, l5, k5, x5, rfl, B6, P6⟩; have HB6 := Lib.hid (HW5.out.trans (B6.mono HW5.out.size)); have HS6b := Lib.hid (HS5b.out.below B6 HS5b.out.lt); have HS6a := Lib.hid (HS5a.out.below B6 HS5a.out.lt); have HQ5 := Lib.hid P6; clear B6 P6)
          have hb6 := HB6.out.alloc HB6.out.size (.cells #[.int .i64 l5, .int .i64 k5] 31)
          have hs6b := HS6b.out.alloc (.cells #[.int .i64 l5, .int .i64 k5] 31)
          have hs6a := HS6a.out.alloc (.cells #[.int .i64 l5, .int .i64 k5] 31)
          generalize World.alloc w6 (.cells #[.int .i64 l5, .int .i64 k5] 31) = W6 at *
          have HW6 := Lib.hid hb6
          have u0 : W6.cell? ⟨w5.heap.size, 0, none⟩ = some (.int .i64 l4) := hs6b.cell 0
          have u1 : W6.cell? ⟨w5.heap.size, 1, none⟩ = some (.int .i64 k4) := hs6b.cell 1
          have v0 : W6.cell? ⟨w4.heap.size, 0, none⟩ = some (.int .i64 l3) := hs6a.cell 0
          have v1 : W6.cell? ⟨w4.heap.size, 1, none⟩ = some (.int .i64 k3) := hs6a.cell 1
          clear hb6 hs6a hs6b
          obtain ⟨eb, hq1, hq2⟩ := Mt.quoted HT1.out HE1.out rfl HMK.out.o (by rw [HAL.out]; omega)
          obtain ⟨y1, y2, y3, y4⟩ := pao_err HQ4.out hq1 hq2
          have f1 : ((x4 : Int) == 93) = true := by rw [y2]; rfl
          have f2 : ((l4 : Int) == NN) = true := by rw [y3, ← HNN.out]; simp; omega
          have f3 : ((k4 : Int) == 9) = true := by rw [y4]; rfl
          have f4 : ((n4 : Int) == 0) = true := by rw [y1]; rfl
          clear hq1 hq2 y1 y2 y3 y4
          cases htb : Tk.tells b.data.toList with
          | err l9 c9 y9 =>
            have hx5 : x5 = 80 ∨ x5 = 81 := by
              rcases HQ5.out with ⟨_, _, h1, _⟩ | ⟨_, _, h1, _⟩ | ⟨y, h1, hy, _, _, _, h6⟩
              · rw [htb] at h1; cases h1
              · rw [htb] at h1; cases h1
              · omega
            clear htb
            rcases hx5 with hx5 | hx5
            · have g1 : ((x5 : Int) == 80) = true := by rw [hx5]; rfl
              clear hx5
              go_wp2_with (go_at_call 10; refine (HRD.out _ HW6.out).mono ?_; rintro e w7 ⟨rfl, B7⟩; have HB7 := Lib.hid (HW6.out.trans (B7.mono HW6.out.size)); clear B7)
              go_ret
              exact ⟨rfl, HB7.out⟩
            · have g1 : ((x5 : Int) == 80) = false := by rw [hx5]; rfl
              have g2 : ((x5 : Int) == 81) = true := by rw [hx5]; rfl
              clear hx5
              go_wp2_with (go_at_call 10; refine (HRD.out _ HW6.out).mono ?_; rintro e w7 ⟨rfl, B7⟩; have HB7 := Lib.hid (HW6.out.trans (B7.mono HW6.out.size)); clear B7)
              go_ret
              exact ⟨rfl, HB7.out⟩
          | ok ec =>
            have hx5 : x5 ≠ 80 ∧ x5 ≠ 81 := by
              rcases HQ5.out with ⟨_, _, h1, _, h3, _⟩ | ⟨_, _, h1, _, h3, _, _, _, h4, _⟩ | ⟨y, h1, _⟩
              · omega
              · unfold Ma.Code at h3; omega
              · rw [htb] at h1; cases h1
            have g1 : ((x5 : Int) == 80) = false := by simp; omega
            have g2 : ((x5 : Int) == 81) = false := by simp; omega
            obtain ⟨eb, hq1, hq2⟩ := Mt.wrong HT1.out HE1.out htb
            obtain ⟨y1, y2, y3, y4⟩ := pao_err HQ3.out hq1 hq2
            have e1 : ((x3 : Int) == 94) = true := by rw [y2]; rfl
            have e2 : ((l3 : Int) == NN) = true := by rw [y3, ← HNN.out]; simp; omega
            have e3 : ((k3 : Int) == 1) = true := by rw [y4]; rfl
            have e4 : ((n3 : Int) == 0) = true := by rw [y1]; rfl
            clear hq1 hq2 y1 y2 y3 y4 hx5 htb
            go_wp2_with (go_at_call 10; refine (HRD.out _ HW6.out).mono ?_; rintro e w7 ⟨rfl, B7⟩; have HB7 := Lib.hid (HW6.out.trans (B7.mono HW6.out.size)); clear B7)
            go_ret
            exact ⟨rfl, HB7.out⟩
  · have hx1i : ((x1 : Int) != 0) = true := by simp; omega
    have hn1 : ((n1 : Int) == 0) = true := by
      rcases HP1.out with ⟨_, _, _, _, h, _⟩ | ⟨_, _, _, _, _, _, h, _⟩ | ⟨_, _, _, _, h, _⟩
      · exact absurd h hx1
      · rw [h]; rfl
      · rw [h]; rfl
    go_wp2_with (go_at_call 10; refine (HRD.out _ HW1.out).mono ?_; rintro e w2 ⟨rfl, B2⟩; have HB2 := Lib.hid (HW1.out.trans (B2.mono HW1.out.size)); clear B2)
    go_ret
    exact ⟨rfl, HB2.out⟩
end
end Go.Proofs.YtekafhogiambaaaGreatDoor
