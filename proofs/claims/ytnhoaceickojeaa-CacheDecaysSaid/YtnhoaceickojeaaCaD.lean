/- Merged: CaEach CaTold CaKeep. -/
import Derived.Test.YtnhoaceickojeaaCaC
import Derived.Test.YtnhoaceickojeaaMsClone
import Derived.Shelf.Abstract
import Derived.Test.YtnhoaceickojeaaCaB
import Derived.Test.YtnhoaceickojeaaFold
/- An answer in new memory, each record of which is changed: the program's. -/
namespace Go.Proofs.Ytnhoaceickojeaa.Ca
open Go.RowKit

/-- the lists of an answer. -/
def Aw.sl (x : Aw) : Nat → Slr
  | 0 => (x.A1, x.c1, x.a.an)
  | 1 => (x.A2, x.c2, x.a.au)
  | _ => (x.A3, x.c3, x.a.ex)
def ans5 (rc : Nat) (aa : Bool) (S : Nat → Value) : Array Value := #[.int .u16 (rc : Int), .bool aa, S 0, S 1, S 2]
theorem ans5_set (rc : Nat) (aa : Bool) (S : Nat → Value) {k : Nat} (hk : k < 3) (v : Value) : (ans5 rc aa S).setIfInBounds (2 + k) v = ans5 rc aa (fun j => if j = k then v else S j) := by
  rcases (by omega : k = 0 ∨ k = 1 ∨ k = 2) with rfl | rfl | rfl <;> rfl
theorem ans5_at (rc : Nat) (aa : Bool) (S : Nat → Value) {k : Nat} (hk : k < 3) : (ans5 rc aa S)[2 + k]? = some (S k) := by
  rcases (by omega : k = 0 ∨ k = 1 ∨ k = 2) with rfl | rfl | rfl <;> rfl
/-- a row of records lies in no block of another kind. -/
theorem own_no {w : World} {b : Nat} {v : Value} {xs : List Rv} (h : Own rcl 12 w b 50 v xs) {g : Nat} {t : TypeId} {cs : Array Value} (hg : Has w g t cs) (ht : t ≠ 50) : v.ownBlock ≠ some g := fun e => by
  rcases h.2 with ⟨rfl, _⟩ | ⟨q, cap, cur, rfl, _, hq, _⟩
  · cases e
  · simp only [Value.ownBlock, Option.some.injEq] at e
    subst e
    rw [show w.heap[q]? = _ from hg] at hq
    injection hq with hq
    injection hq with _ hq _
    exact ht hq
theorem own_blk {w w' : World} {b : Nat} {v : Value} {xs : List Rv} (h : Own rcl 12 w b 50 v xs) (hs : ∀ k, v.ownBlock = some k → w'.heap[k]? = w.heap[k]?) : Own rcl 12 w' b 50 v xs := by
  refine ⟨h.1, ?_⟩
  rcases h.2 with h0 | ⟨g, cap, cur, rfl, hb, hg, rest⟩
  · exact .inl h0
  · exact .inr ⟨g, cap, cur, rfl, hb, (hs g rfl).trans hg, rest⟩
/-- what a closure does to a record. -/
def EachOk (w : World) (F : Nat) (cb : Array Value) (i : Nat) (u : Rv → Value) (P : Rv → Prop) : Prop :=
  ∀ (W : World) (g o : Nat) (r : Rv), Below w.heap.size w W → P r → W.cell? ⟨g, o + i, none⟩ = (rcl r)[i]? → W.frozen? ⟨g, o + i, none⟩ = false →
    Calls Try.prog F (#[.pointer (some ⟨g, o, none⟩)] ++ cb) W fun e w' => e = .returned (.tuple #[]) ∧ ∃ W1, Below W.heap.size W W1 ∧ w' = W1.setCell ⟨g, o + i, none⟩ (u r)
set_option maxHeartbeats 1000000 in
set_option maxRecDepth 100000 in
theorem withEach_any (x : Aw) (w : World) (h : x.lies w) (hf : x.a.few) (F : Nat) (cb : Array Value) (f : Rv → Rv) (i : Nat) (u : Rv → Value) (P : Rv → Prop) (hi : i < 12) (hu : ∀ r, rcl (f r) = (rcl r).set i (u r))
    (hF : EachOk w F cb i u P) (hP : ∀ r ∈ x.a.recs, P r) (eg : ∀ args w, (callFunc F args).run Try.prog w = .ok (.enter F args) w) :
    Calls Try.prog 53 #[x.val, .func (.func F) #[] cb] w fun e w' => ∃ v1 v2 v3, e = .returned (.agg #[.int .u16 (x.a.rc : Int), .bool x.a.aa, v1, v2, v3]) ∧ Own rcl 12 w' w.heap.size 50 v1 (x.a.an.map f) ∧ Own rcl 12 w' w.heap.size 50 v2 (x.a.au.map f) ∧ Own rcl 12 w' w.heap.size 50 v3 (x.a.ex.map f) ∧ Below w.heap.size w w' := by
  have HCl : Hid (∀ j, j < 3 → ∀ W, Below w.heap.size w W → Calls Try.prog 65 #[slrv (x.sl j)] W fun e w' => ∃ v, e = .returned v ∧ Own rcl 12 w' W.heap.size 50 v (x.sl j).2.2 ∧ Below W.heap.size W w') := fun j hj W hb => by
    have hh := h.below hb
    have l1 := hf.l1
    have l2 := hf.l2
    have l3 := hf.l3
    rcases (by omega : j = 0 ∨ j = 1 ∨ j = 2) with rfl | rfl | rfl
    · exact cloneR_any _ _ _ W hh.s1 hh.n1 (by show x.a.an.length * 96 ≤ _; omega)
    · exact cloneR_any _ _ _ W hh.s2 hh.n2 (by show x.a.au.length * 96 ≤ _; omega)
    · exact cloneR_any _ _ _ W hh.s3 hh.n3 (by show x.a.ex.length * 96 ≤ _; omega)
  have HPr : Hid (∀ j, j < 3 → ∀ r ∈ (x.sl j).2.2, P r) := fun j hj r hr => by
    unfold Av.recs at hP
    rcases (by omega : j = 0 ∨ j = 1 ∨ j = 2) with rfl | rfl | rfl
    · exact hP r (List.mem_append_left _ hr)
    · exact hP r (List.mem_append_right _ (List.mem_append_left _ hr))
    · exact hP r (List.mem_append_right _ (List.mem_append_right _ hr))
  have HLn : Hid (∀ j, j < 3 → (x.sl j).2.2.length ≤ 1000) := fun j hj => by
    rcases (by omega : j = 0 ∨ j = 1 ∨ j = 2) with rfl | rfl | rfl
    · exact hf.l1
    · exact hf.l2
    · exact hf.l3
  have HF := Lib.hid hF
  have HU := Lib.hid hu
  have hE : x.val = .agg (ans5 x.a.rc x.a.aa fun j => slrv (x.sl j)) := rfl
  have hE1 : x.a.an = (x.sl 0).2.2 := rfl
  have hE2 : x.a.au = (x.sl 1).2.2 := rfl
  have hE3 : x.a.ex = (x.sl 2).2.2 := rfl
  rw [hE, hE1, hE2, hE3]
  clear h hf hF hu hE hE1 hE2 hE3 hP
  generalize x.sl = X at *
  generalize x.a.rc = rc at *
  generalize x.a.aa = aa at *
  have hX0 := Has.fresh w 38 (ans5 rc aa fun j => slrv (X j))
  obtain ⟨w1, hw1⟩ : ∃ w1, w1 = w.alloc (.cells #[.int .u16 (rc : Int), .bool aa, slrv (X 0), slrv (X 1), slrv (X 2)] 38) := ⟨_, rfl⟩
  have hs1 : w1.heap.size = w.heap.size + 1 := by rw [hw1]; simp
  have hX0 : Has w1 w.heap.size 38 (ans5 rc aa fun j => slrv (X j)) := by rw [hw1]; exact hX0
  have hb1 : Below w.heap.size w w1 := by rw [hw1]; exact (Below.refl _ _).alloc (Nat.le_refl _) _
  have hX1 := Has.fresh w1 38 #[.int .u16 0, .bool false, .slice none 0 0, .slice none 0 0, .slice none 0 0]
  obtain ⟨w2, hw2⟩ : ∃ w2, w2 = w1.alloc (.cells #[.int .u16 0, .bool false, .slice none 0 0, .slice none 0 0, .slice none 0 0] 38) := ⟨_, rfl⟩
  rw [← hw2, hs1] at hX1
  have hX0 : Has w2 w.heap.size 38 (ans5 rc aa fun j => slrv (X j)) := by rw [hw2]; exact hX0.alloc _
  have hs2 : w2.heap.size = w.heap.size + 1 + 1 := by rw [hw2]; simp [hs1]
  have hb2 : Below w.heap.size w w2 := by rw [hw2]; exact hb1.alloc (by omega) _
  have hX2 := Has.fresh w2 120 #[.pointer (some ⟨w.heap.size, 2, none⟩), .pointer (some ⟨w.heap.size, 3, none⟩), .pointer (some ⟨w.heap.size, 4, none⟩)]
  obtain ⟨w3, hw3⟩ : ∃ w3, w3 = w2.alloc (.cells #[.pointer (some ⟨w.heap.size, 2, none⟩), .pointer (some ⟨w.heap.size, 3, none⟩), .pointer (some ⟨w.heap.size, 4, none⟩)] 120) := ⟨_, rfl⟩
  rw [← hw3, hs2] at hX2
  have hX0 : Has w3 w.heap.size 38 (ans5 rc aa fun j => slrv (X j)) := by rw [hw3]; exact hX0.alloc _
  have hX1 : Has w3 (w.heap.size + 1) 38 #[.int .u16 0, .bool false, .slice none 0 0, .slice none 0 0, .slice none 0 0] := by rw [hw3]; exact hX1.alloc _
  have hb3 : Below w.heap.size w w3 := by rw [hw3]; exact hb2.alloc (by omega) _
  have HW : Hid (w3 = ((w.alloc (.cells #[.int .u16 (rc : Int), .bool aa, slrv (X 0), slrv (X 1), slrv (X 2)] 38)).alloc (.cells #[.int .u16 0, .bool false, .slice none 0 0, .slice none 0 0, .slice none 0 0] 38)).alloc (.cells #[.pointer (some ⟨w.heap.size, 2, none⟩), .pointer (some ⟨w.heap.size, 3, none⟩), .pointer (some ⟨w.heap.size, 4, none⟩)] 120)) := by rw [Hid, hw3, hw2, hw1]
  clear hw1 hw2 hw3 hs1 hs2 hb1 hb2
  have H0 := Lib.hid hX0
  have H1 := Lib.hid hX1
  have H2 := Lib.hid hX2
  have HB3 := Lib.hid hb3
  clear hX0 hX1 hX2 hb3
  unfold ans5
  go_enter Try.func53, Try.ntmps53
  go_wp2
  rw [← HW.out]
  clear HW
  go_loopw [13] (fun s13 wr => ∃ (k : Nat) (S : Nat → Value), s13 = .int .i64 k ∧ k ≤ 3 ∧ Hid (Has wr w.heap.size 38 (ans5 rc aa S)) ∧ Hid (∀ j, j < k → Own rcl 12 wr w.heap.size 50 (S j) ((X j).2.2.map f)) ∧ Hid (∀ j, k ≤ j → j < 3 → S j = slrv (X j)) ∧ Hid (Tch [w.heap.size] w3 wr)) (fun s13 _ => 3 - (intOf s13).toNat)
  case atStart => exact ⟨0, _, rfl, by omega, H0.out, (fun j hj => by omega), (fun j _ _ => rfl), Tch.refl _ _⟩
  case round =>
    obtain ⟨k, S, rfl, hk, HA, HD, HS, HT⟩ := hrel
    have hbw := HB3.out.trans (HT.out.below (B := w.heap.size) (fun k hk => by simp at hk; omega) HB3.out.size)
    have HBw := Lib.hid hbw
    clear hbw
    by_cases hlt : k < 3
    · have hSk := HS.out k (Nat.le_refl _) hlt
      have cl := HCl.out k hlt wr HBw.out
      have HP := Lib.hid (HPr.out k hlt)
      have hln := HLn.out k hlt
      have cA : wr.cell? ⟨w.heap.size, 2 + k, none⟩ = some (slrv (X k)) := by rw [HA.out.cell, ans5_at rc aa S hlt, hSk]
      have fA := HA.out.free (2 + k)
      have hB2 := HT.out.has H2.out (by simp; omega)
      have cP : wr.cell? ⟨w.heap.size + 1 + 1, k, none⟩ = some (.pointer (some ⟨w.heap.size, 2 + k, none⟩)) := by
        rw [hB2.cell]
        rcases (by omega : k = 0 ∨ k = 1 ∨ k = 2) with rfl | rfl | rfl <;> rfl
      have hlt0 := HA.out.lt
      obtain ⟨Y, hY⟩ : ∃ Y, X k = Y := ⟨_, rfl⟩
      rw [hY] at cl HP hln cA
      have HY := Lib.hid hY
      obtain ⟨A, c, rs⟩ := Y
      unfold slrv at cl cA
      dsimp only at cl HP hln cA
      obtain ⟨n, hn⟩ : ∃ n, rs.length = n := ⟨_, rfl⟩
      rw [hn] at cl hln cA
      have HN := Lib.hid hn
      have CL := Lib.hid cl
      have HL0 := Lib.hid hlt0
      clear hY hn cl hSk hB2 hlt0
      go_wp2_with (go_at_call 65; refine CL.out.mono ?_; rintro e wc ⟨v, rfl, hO, hb⟩; obtain ⟨ad, cp, hv, hcp⟩ := ownK_form hO; rw [HN.out] at hv; subst hv; have cc := keep_cell hb cA; have fc : wc.frozen? ⟨w.heap.size, 2 + k, none⟩ = false := (hb.frozen (p := ⟨w.heap.size, 2 + k, none⟩) HL0.out).trans fA; have HO := Lib.hid hO; have HBc := Lib.hid hb; clear hO hb)
      have hlb : w.heap.size < wr.heap.size := HL0.out
      have hA1 : Has (wc.setCell ⟨w.heap.size, 2 + k, none⟩ (.slice ad n cp)) w.heap.size 38 (ans5 rc aa (fun j => if j = k then .slice ad n cp else S j)) := by
        rw [← ans5_set rc aa S hlt]
        exact (HA.out.below HBc.out hlb).set (2 + k) _
      have hno : ∀ q ∈ rowB (.slice ad n cp), wr.heap.size ≤ q := fun q hq => by
        unfold rowB at hq
        cases ho : (Value.slice ad n cp).ownBlock with
        | none => rw [ho] at hq; simp at hq
        | some z => rw [ho] at hq; simp at hq; subst hq; exact (World.ownsRow.lt HO.out _ ho).1
      have hO1 : Own rcl 12 (wc.setCell ⟨w.heap.size, 2 + k, none⟩ (.slice ad n cp)) wr.heap.size 50 (.slice ad n cp) rs := own_blk HO.out fun q hq => heap_setCell_other wc ⟨w.heap.size, 2 + k, none⟩ q _ fun e => by
        have := hno q (by unfold rowB; rw [hq]; simp)
        have e2 : q = w.heap.size := e
        omega
      have hT1 : Tch [w.heap.size] wr (wc.setCell ⟨w.heap.size, 2 + k, none⟩ (.slice ad n cp)) := (Tch.of_below HBc.out).trans (Tch.set _ _ ⟨w.heap.size, 2 + k, none⟩ _ (by simp))
      have hc1 : (wc.setCell ⟨w.heap.size, 2 + k, none⟩ (.slice ad n cp)).cell? ⟨w.heap.size, 2 + k, none⟩ = some (.slice ad n cp) := cell_set_same _ cc
      have HA1 := Lib.hid hA1
      have HNo := Lib.hid hno
      have HO1 := Lib.hid hO1
      have HT1 := Lib.hid hT1
      clear hA1 hno hO1 hT1 cc fc HO HBc cA fA cP
      generalize (wc.setCell ⟨w.heap.size, 2 + k, none⟩ (.slice ad n cp)) = W1 at *
      obtain ⟨wq, hwq⟩ : ∃ z, z = wr := ⟨_, rfl⟩
      subst hwq
      go_loopw [27] (fun s27 wi => ∃ j : Nat, s27 = .int .i64 j ∧ j ≤ n ∧ Hid (Own rcl 12 wi wq.heap.size 50 (.slice ad n cp) (turn f rs j)) ∧ Hid (Tch (rowB (.slice ad n cp)) W1 wi)) (fun s27 _ => n - (intOf s27).toNat)
      case atStart => exact ⟨0, rfl, Nat.zero_le _, by rw [turn_zero]; exact HO1.out, Tch.refl _ _⟩
      case round =>
        obtain ⟨j, rfl, hj, HOj, HTj⟩ := hrel
        have hAj := HTj.out.has HA1.out (fun e => by have := HNo.out _ e; omega)
        have ca : wr.cell? ⟨w.heap.size, 2 + k, none⟩ = some (.slice ad n cp) := by
          rw [hAj.cell, ans5_at rc aa _ hlt, if_pos rfl]
        have HAj := Lib.hid hAj
        clear hAj
        by_cases hjl : j < n
        · have hjR : j < rs.length := by rw [HN.out]; exact hjl
          have hjT : j < (turn f rs j).length := by rw [turn_len]; exact hjR
          obtain ⟨g, c', hv, _, hg1, hg2⟩ := own_pos_form HOj.out (by omega)
          injection hv with hv q1 q2
          clear q1 q2
          subst hv
          have hc := own_cell HOj.out hjT hi
          rw [turn_at hjR] at hc
          have HTc : Hid (Below w.heap.size w wr) := (HBw.out.trans (HT1.out.below (B := w.heap.size) (fun k hk => by simp at hk; omega) (by omega))).trans (HTj.out.below (B := w.heap.size) (fun k hk => by have := HNo.out k hk; omega) (by have := HT1.out.size; omega))
          have hcl := HF.out wr g (j * 12) rs[j] HTc.out (HP.out _ (List.getElem_mem _)) hc.1 hc.2
          have HSt : Hid (∀ W2, Below wr.heap.size wr W2 → Own rcl 12 (W2.setCell ⟨g, j * 12 + i, none⟩ (u rs[j])) wq.heap.size 50 (.slice (some ⟨g, 0, none⟩) n cp) (turn f rs (j + 1)) ∧ Tch (rowB (.slice (some ⟨g, 0, none⟩) n cp)) W1 (W2.setCell ⟨g, j * 12 + i, none⟩ (u rs[j]))) := fun W2 hW2 => by
            have h1 := own_set (ownK_below HOj.out hW2 (Nat.le_refl _)) hjT hi (f rs[j]) (u rs[j]) (by rw [turn_at hjR]; exact HU.out _)
            rw [turn_succ hjR] at h1
            exact ⟨h1, HTj.out.trans ((Tch.of_below hW2).trans (Tch.set _ _ ⟨g, j * 12 + i, none⟩ _ (by simp [rowB, Value.ownBlock])))⟩
          clear hc hjT hg1 hg2
          go_wp2_with (go_at_fn F; refine hcl.mono ?_; rintro e w' ⟨rfl, W2, hW2, rfl⟩; have HS2 := Lib.hid (HSt.out W2 hW2); clear hW2)
          go_roundw
          case rel => exact ⟨j + 1, by go_num, by omega, HS2.out.1, HS2.out.2⟩
          case measure => simp [intOf]; omega
        · obtain rfl : j = n := by omega
          go_wp2
          go_roundw
          case rel =>
            refine ⟨k + 1, fun j' => if j' = k then .slice ad j cp else S j', by go_num, by omega, HAj.out, fun j' hj' => ?_, fun j' h1 h2 => ?_, ?_⟩
            · dsimp only
              by_cases e : j' = k
              · subst e
                rw [if_pos rfl, HY.out]
                have := HOj.out
                rw [← HN.out, turn_all] at this
                rw [← HN.out]
                exact own_mono this (by omega)
              · rw [if_neg e]
                have h1 := HD.out j' (by omega)
                refine own_blk h1 fun q hq => ?_
                have hq1 := (World.ownsRow.lt h1 q hq).2
                have hq2 := own_no h1 HA.out (by decide)
                have e1 := HT1.out.same q hq1 (fun e3 => by simp at e3; subst e3; exact hq2 hq)
                have e2 := HTj.out.same q (Nat.lt_of_lt_of_le hq1 HT1.out.size) (fun e3 => by have := HNo.out _ e3; omega)
                exact e2.trans e1
            · dsimp only
              rw [if_neg (by omega)]
              exact HS.out j' (by omega) h2
            · exact HT.out.trans' (HT1.out.trans' HTj.out fun q hq => .inr (HNo.out q hq)) fun q hq => .inl hq
          case measure => simp [intOf]; omega
    · obtain rfl : k = 3 := by omega
      have hA := HA.out
      have a0 : wr.cell? ⟨w.heap.size, 0, none⟩ = some (.int .u16 (rc : Int)) := by rw [hA.cell]; rfl
      have a1 : wr.cell? ⟨w.heap.size, 1, none⟩ = some (.bool aa) := by rw [hA.cell]; rfl
      have a2 : wr.cell? ⟨w.heap.size, 2, none⟩ = some (S 0) := by rw [hA.cell]; rfl
      have a3 : wr.cell? ⟨w.heap.size, 3, none⟩ = some (S 1) := by rw [hA.cell]; rfl
      have a4 : wr.cell? ⟨w.heap.size, 4, none⟩ = some (S 2) := by rw [hA.cell]; rfl
      have hB := HT.out.has H1.out (by simp)
      have o0 := HD.out 0 (by omega)
      have o1 := HD.out 1 (by omega)
      have o2 := HD.out 2 (by omega)
      have h1c : (#[.int .u16 (rc : Int), .bool aa, S 0, S 1, S 2] : Array Value).all (·.oneCell') = true := by
        obtain ⟨_, _, f0, _⟩ := ownK_form o0
        obtain ⟨_, _, f1, _⟩ := ownK_form o1
        obtain ⟨_, _, f2, _⟩ := ownK_form o2
        rw [f0, f1, f2]
        simp [Value.oneCell']
      have hi5 : (Try.prog.info? 38).map (·.size) = some 5 := by kernel_rfl
      have HI := Lib.hid hi5
      have HBx := Lib.hid hB
      have HO := Lib.hid (And.intro o0 (And.intro o1 o2))
      have H1c := Lib.hid h1c
      have hap : ∀ (v : Value) (xs : List Rv) (cs : Array Value), Own rcl 12 wr w.heap.size 50 v xs → Own rcl 12 (wr.setRow (w.heap.size + 1) cs) w.heap.size 50 v xs := fun v xs cs ho => own_blk ho fun q hq => setRow_other _ _ _ _ fun e => by
        subst e
        exact own_no ho HBx.out (by decide) hq
      have HAp := Lib.hid hap
      clear hB o0 o1 o2 h1c hi5 hap
      generalize S 0 = S0 at *
      generalize S 1 = S1 at *
      generalize S 2 = S2 at *
      go_wp2_with (refine wpList_store_row rfl 38 (.tmp 4) (.tmp 39) rfl (w.heap.size + 1) #[.int .u16 (rc : Int), .bool aa, S0, S1, S2] rfl rfl 38 _ HBx.out HI.out rfl H1c.out ?_)
      refine bodyPost_ret (results_cell_row rfl _ _ (w.heap.size + 1) 38 #[.int .u16 (rc : Int), .bool aa, S0, S1, S2] (0, 0) _ rfl (HBx.out.row _) Try.underlying38 rfl HI.out) rfl ?_
      exact ⟨S0, S1, S2, rfl, HAp.out _ _ _ HO.out.1, HAp.out _ _ _ HO.out.2.1, HAp.out _ _ _ HO.out.2.2, below_setRow HBw.out (by omega) _⟩
end Go.Proofs.Ytnhoaceickojeaa.Ca
/- An answer as it is kept, and as it is told: the program's. -/
namespace Go.Proofs.Ytnhoaceickojeaa.Ca
open Go.RowKit

set_option maxRecDepth 100000 in
theorem kept1_any (w : World) : EachOk w 54 #[] 0 (fun r => .string (foldB r.nm)) (fun r => r.nm.size ≤ 140737488355328) := by
  intro W g o r _ hP hc hf
  have hc0 : W.cell? ⟨g, o, none⟩ = some (.string r.nm) := hc
  have hf0 : W.frozen? ⟨g, o, none⟩ = false := hf
  have HL := Lib.hid (World.block_lt_of_cell? _ _ hc0)
  have HF := Lib.hid (Fold_any r.nm W hP)
  clear hc hf hP
  show Calls Try.prog 54 #[.pointer (some ⟨g, o, none⟩)] W _
  go_enter Try.func54, Try.ntmps54
  go_wp2_with (go_at_call 52; refine HF.out.mono ?_; rintro e w1 ⟨rfl, hb⟩; have c1 := keep_cell hb hc0; have f1 : w1.frozen? ⟨g, o, none⟩ = false := (hb.frozen (p := ⟨g, o, none⟩) HL.out).trans hf0; have HB := Lib.hid hb; clear hb)
  go_end0
  exact ⟨rfl, w1, HB.out, rfl⟩
set_option maxRecDepth 100000 in
theorem told1_any (w : World) (B gone : Nat) (hB : w.cell? ⟨B, 0, none⟩ = some (.int .u32 (gone : Int))) : EachOk w 58 #[.pointer (some ⟨B, 0, none⟩)] 3 (fun r => .int .u32 ((r.ttl - gone : Nat) : Int)) (fun r => gone ≤ r.ttl ∧ r.ttl ≤ 4294967295) := by
  intro W g o r hb hP hc hf
  obtain ⟨h1, h2⟩ := hP
  have hc0 : W.cell? ⟨g, o + 3, none⟩ = some (.int .u32 (r.ttl : Int)) := hc
  have hcB : W.cell? ⟨B, 0, none⟩ = some (.int .u32 (gone : Int)) := (hb.cell (p := ⟨B, 0, none⟩) (World.block_lt_of_cell? _ _ hB)).trans hB
  have hw : IntKind.u32.wrap ((r.ttl : Int) - (gone : Int)) = ((r.ttl - gone : Nat) : Int) := by rw [IntKind.wrap_u32]; omega
  clear hc hB hb h1 h2
  show Calls Try.prog 58 #[.pointer (some ⟨g, o, none⟩), .pointer (some ⟨B, 0, none⟩)] W fun e w' => e = .returned (.tuple #[]) ∧ ∃ W1, Below W.heap.size W W1 ∧ w' = W1.setCell ⟨g, o + 3, none⟩ (.int .u32 ((r.ttl - gone : Nat) : Int))
  generalize (r.ttl - gone : Nat) = z at *
  generalize r.ttl = t at *
  go_enter Try.func58, Try.ntmps58
  go_wp2
  go_region
  all_goals
    go_end0
    exact ⟨rfl, W.drew, (Below.refl _ _).drew, (World.setCell_drew ..).symm⟩
theorem foldR_set (r : Rv) : rcl (foldR r) = (rcl r).set 0 (.string (foldB r.nm)) := rfl
theorem agedR_set (g : Nat) (r : Rv) : rcl (agedR g r) = (rcl r).set 3 (.int .u32 ((r.ttl - g : Nat) : Int)) := rfl
def ansV (rc : Nat) (v1 v2 v3 : Value) : Value := .agg #[.int .u16 (rc : Int), .bool false, v1, v2, v3]
theorem ans_one {w : World} {b : Nat} {v1 v2 v3 : Value} {l1 l2 l3 : List Rv} (rc : Nat) (o1 : Own rcl 12 w b 50 v1 l1) (o2 : Own rcl 12 w b 50 v2 l2) (o3 : Own rcl 12 w b 50 v3 l3) : (#[.int .u16 (rc : Int), .bool false, v1, v2, v3] : Array Value).all (·.oneCell') = true := by
  obtain ⟨_, _, f0, _⟩ := ownK_form o1
  obtain ⟨_, _, f1, _⟩ := ownK_form o2
  obtain ⟨_, _, f2, _⟩ := ownK_form o3
  rw [f0, f1, f2]
  simp [Value.oneCell']
theorem ans_row {w : World} {B b b' : Nat} {v : Value} {xs : List Rv} {cs ds : Array Value} (h : Own rcl 12 w b 50 v xs) (hB : Has w B 38 cs) (hb : b' ≤ b) : Own rcl 12 (w.setRow B ds) b' 50 v xs :=
  own_mono (own_blk h fun q hq => setRow_other _ _ _ _ fun e => by
    subst e
    exact own_no h hB (by decide) hq) hb
set_option maxHeartbeats 400000 in
set_option maxRecDepth 100000 in
theorem kept_any (x : Aw) (w : World) (h : x.lies w) (hf : x.a.few) :
    Calls Try.prog 35 #[x.val] w fun e w' => ∃ v1 v2 v3, e = .returned (ansV x.a.rc v1 v2 v3) ∧ Own rcl 12 w' w.heap.size 50 v1 (x.a.an.map foldR) ∧ Own rcl 12 w' w.heap.size 50 v2 (x.a.au.map foldR) ∧ Own rcl 12 w' w.heap.size 50 v3 (x.a.ex.map foldR) ∧ Below w.heap.size w w' := by
  have HE : Hid (∀ W, Below w.heap.size w W → Calls Try.prog 53 #[.agg #[.int .u16 (x.a.rc : Int), .bool false, .slice x.A1 x.a.an.length x.c1, .slice x.A2 x.a.au.length x.c2, .slice x.A3 x.a.ex.length x.c3], .func (.func 54) #[] #[]] W fun e w' => ∃ v1 v2 v3, e = .returned (ansV x.a.rc v1 v2 v3) ∧ Own rcl 12 w' W.heap.size 50 v1 (x.a.an.map foldR) ∧ Own rcl 12 w' W.heap.size 50 v2 (x.a.au.map foldR) ∧ Own rcl 12 w' W.heap.size 50 v3 (x.a.ex.map foldR) ∧ Below W.heap.size W w') := fun W hb => by
    have hh := h.below hb
    exact withEach_any ⟨⟨x.a.rc, false, x.a.an, x.a.au, x.a.ex⟩, x.A1, x.c1, x.A2, x.c2, x.A3, x.c3⟩ W ⟨hh.s1, hh.s2, hh.s3, hh.n1, hh.n2, hh.n3⟩ ⟨hf.l1, hf.l2, hf.l3, hf.nm⟩ 54 #[] foldR 0 (fun r => .string (foldB r.nm)) (fun r => r.nm.size ≤ 140737488355328) (by omega) foldR_set (kept1_any W) hf.nm (fun _ _ => by kernel_rfl)
  clear h hf
  unfold Aw.val Aw.cells
  generalize x.a.an.map foldR = L1 at *
  generalize x.a.au.map foldR = L2 at *
  generalize x.a.ex.map foldR = L3 at *
  generalize x.a.an.length = n1 at *
  generalize x.a.au.length = n2 at *
  generalize x.a.ex.length = n3 at *
  generalize x.a.rc = rc at *
  generalize x.a.aa = aa at *
  obtain ⟨_, A1, c1, A2, c2, A3, c3⟩ := x
  dsimp only at *
  have hi5 : (Try.prog.info? 38).map (·.size) = some 5 := by kernel_rfl
  have HI := Lib.hid hi5
  have HB1 := Lib.hid ((Below.refl w.heap.size w).alloc (Nat.le_refl _) (.cells #[.int .u16 (rc : Int), .bool false, .slice A1 n1 c1, .slice A2 n2 c2, .slice A3 n3 c3] 38))
  have HB2 := Lib.hid (HB1.out.alloc (by simp) (.cells #[.int .u16 0, .bool false, .slice none 0 0, .slice none 0 0, .slice none 0 0] 38))
  have hZ := Has.fresh (w.alloc (.cells #[.int .u16 (rc : Int), .bool false, .slice A1 n1 c1, .slice A2 n2 c2, .slice A3 n3 c3] 38)) 38 #[.int .u16 0, .bool false, .slice none 0 0, .slice none 0 0, .slice none 0 0]
  rw [World.size_alloc] at hZ
  have HZ := Lib.hid hZ
  clear hZ hi5
  go_enter Try.func35, Try.ntmps35
  go_wp2_with (first
    | (go_at_call 53; refine (HE.out _ HB2.out).mono ?_; rintro e w3 ⟨v1, v2, v3, rfl, o1, o2, o3, hb⟩; have HY := Lib.hid (HZ.out.below hb HZ.out.lt); have HO := Lib.hid (And.intro o1 (And.intro o2 o3)); have HB3 := Lib.hid (HB2.out.trans (hb.mono HB2.out.size)); have H1c := Lib.hid (ans_one rc o1 o2 o3); clear o1 o2 o3 hb; unfold ansV)
    | (refine wpList_store_row rfl 38 (.tmp 2) (.tmp 5) rfl (w.heap.size + 1) _ rfl rfl 38 _ HY.out HI.out rfl H1c.out ?_))
  refine bodyPost_ret (results_cell_row rfl _ _ (w.heap.size + 1) 38 _ (0, 0) _ rfl (HY.out.row _) Try.underlying38 rfl HI.out) rfl ?_
  exact ⟨v1, v2, v3, rfl, ans_row HO.out.1 HY.out (by simp; omega), ans_row HO.out.2.1 HY.out (by simp; omega), ans_row HO.out.2.2 HY.out (by simp; omega), below_setRow HB3.out (by omega) _⟩
theorem rows_aw {w : World} {d : Nd} (h : RowsM w d) : ∃ x : Aw, x.lies w ∧ x.a = keptA d.e.ans ∧ x.val = ansV d.e.ans.rc d.v1 d.v2 d.v3 := by
  obtain ⟨h1, h2, h3⟩ := h
  obtain ⟨A1, c1, e1, _, s1⟩ := h1.srow rcl_len
  obtain ⟨A2, c2, e2, _, s2⟩ := h2.srow rcl_len
  obtain ⟨A3, c3, e3, _, s3⟩ := h3.srow rcl_len
  rw [e1] at h1
  rw [e2] at h2
  rw [e3] at h3
  refine ⟨⟨keptA d.e.ans, A1, c1, A2, c2, A3, c3⟩, ⟨s1, s2, s3, own_nil h1, own_nil h2, own_nil h3⟩, rfl, ?_⟩
  unfold Aw.val Aw.cells ansV
  rw [e1, e2, e3]
  rfl
theorem gone_lt {now : Nat} {e : En} (h : now < e.over) (hp : 0 < e.life) : (now - e.put) / 10 < e.life := by
  unfold En.over at h
  omega
set_option maxHeartbeats 1000000 in
set_option maxRecDepth 100000 in
theorem told_any (d : Nd) (w : World) (now : Nat) {p n : Value} (hd0 : Has w d.b 88 (ecs d p n)) (hr : RowsM w d) (hok : d.e.ok) (hf : d.e.ans.few) (hnow : now ≤ top) (hov : now < d.e.over) :
    Calls Try.prog 45 #[pt d.b, .int .i64 (now : Int)] w fun e w' => ∃ v1 v2 v3, e = .returned (ansV d.e.ans.rc v1 v2 v3) ∧ Own rcl 12 w' w.heap.size 50 v1 (told now d.e).an ∧ Own rcl 12 w' w.heap.size 50 v2 (told now d.e).au ∧ Own rcl 12 w' w.heap.size 50 v3 (told now d.e).ex ∧ Below w.heap.size w w' := by
  obtain ⟨x, hx, hxa, hxv⟩ := rows_aw hr
  have hg := gone_lt hov hok.pos
  have hl := life_le d.e.ans
  have hlp := hok.life
  have hlt := life_ttl (a := d.e.ans) (by have := hok.pos; omega)
  obtain ⟨gone, hgo⟩ : ∃ gone, (now - d.e.put) / 10 = gone := ⟨_, rfl⟩
  have hP : ∀ r ∈ x.a.recs, gone ≤ r.ttl ∧ r.ttl ≤ 4294967295 := fun r hr => by
    rw [hxa] at hr
    have : ∃ q ∈ d.e.ans.recs, q.ttl = r.ttl := by
      simp only [keptA, Av.recs, List.mem_append, List.mem_map] at hr ⊢
      rcases hr with ⟨q, h1, rfl⟩ | ⟨q, h1, rfl⟩ | ⟨q, h1, rfl⟩
      · exact ⟨q, .inl h1, rfl⟩
      · exact ⟨q, .inr (.inl h1), rfl⟩
      · exact ⟨q, .inr (.inr h1), rfl⟩
    obtain ⟨q, hq, e⟩ := this
    have := hlt q hq
    omega
  have hfx : x.a.few := by
    rw [hxa]
    refine ⟨by simpa [keptA] using hf.l1, by simpa [keptA] using hf.l2, by simpa [keptA] using hf.l3, fun r hr => ?_⟩
    simp only [keptA, Av.recs, List.mem_append, List.mem_map] at hr
    have hnm := hf.nm
    unfold Av.recs at hnm
    rcases hr with ⟨q, h1, rfl⟩ | ⟨q, h1, rfl⟩ | ⟨q, h1, rfl⟩
    · rw [show (foldR q).nm = foldB q.nm from rfl, foldB_size]; exact hnm q (by simp [h1])
    · rw [show (foldR q).nm = foldB q.nm from rfl, foldB_size]; exact hnm q (by simp [h1])
    · rw [show (foldR q).nm = foldB q.nm from rfl, foldB_size]; exact hnm q (by simp [h1])
  have htold : told now d.e = agedA gone x.a := by unfold told; rw [hgo, hxa]
  have hrc : x.a.rc = d.e.ans.rc := by rw [hxa]; rfl
  have haa : x.a.aa = false := by rw [hxa]; rfl
  have HE : Hid (∀ (W : World) (B : Nat), Below w.heap.size w W → W.cell? ⟨B, 0, none⟩ = some (.int .u32 (gone : Int)) → Calls Try.prog 53 #[ansV d.e.ans.rc d.v1 d.v2 d.v3, .func (.func 58) #[] #[.pointer (some ⟨B, 0, none⟩)]] W fun e w' => ∃ v1 v2 v3, e = .returned (ansV d.e.ans.rc v1 v2 v3) ∧ Own rcl 12 w' W.heap.size 50 v1 (told now d.e).an ∧ Own rcl 12 w' W.heap.size 50 v2 (told now d.e).au ∧ Own rcl 12 w' W.heap.size 50 v3 (told now d.e).ex ∧ Below W.heap.size W w') := fun W B hb hc => by
    have h9 := withEach_any x W (hx.below hb) hfx 58 #[.pointer (some ⟨B, 0, none⟩)] (agedR gone) 3 (fun r => .int .u32 ((r.ttl - gone : Nat) : Int)) (fun r => gone ≤ r.ttl ∧ r.ttl ≤ 4294967295) (by omega) (agedR_set gone) (told1_any W B gone hc) hP (fun _ _ => by kernel_rfl)
    rw [hxv, hrc, haa] at h9
    rw [htold]
    exact h9
  have c3 : w.cell? ⟨d.b, 3, none⟩ = some (.int .u16 (d.e.ans.rc : Int)) := by rw [hd0.cell]; rfl
  have c4 : w.cell? ⟨d.b, 4, none⟩ = some (.bool false) := by rw [hd0.cell]; rfl
  have c5 : w.cell? ⟨d.b, 5, none⟩ = some d.v1 := by rw [hd0.cell]; rfl
  have c6 : w.cell? ⟨d.b, 6, none⟩ = some d.v2 := by rw [hd0.cell]; rfl
  have c7 : w.cell? ⟨d.b, 7, none⟩ = some d.v3 := by rw [hd0.cell]; rfl
  have c8 : w.cell? ⟨d.b, 8, none⟩ = some (.int .i64 (d.e.put : Int)) := by rw [hd0.cell]; rfl
  have hput := hok.put
  have hgs : gone ≤ 2147483647 := by omega
  unfold top at hput hnow
  generalize told now d.e = T at *
  clear hx hxa hxv hg hl hlp hlt hP hfx htold hrc haa hr hok hf hov hd0
  unfold ansV at *
  generalize d.e.ans.rc = rc at *
  generalize d.v1 = u1 at *
  generalize d.v2 = u2 at *
  generalize d.v3 = u3 at *
  generalize d.e.put = put at *
  generalize d.b = b at *
  have k8 : ∀ o1, (w.alloc o1).cell? ⟨b, 8, none⟩ = some (.int .i64 (put : Int)) := fun o1 => Lib.cell?_alloc_some _ c8
  have k3 : ∀ o1 o2, ((w.alloc o1).alloc o2).cell? ⟨b, 3, none⟩ = some (.int .u16 (rc : Int)) := fun o1 o2 => Lib.cell?_alloc_some _ (Lib.cell?_alloc_some _ c3)
  have k4 : ∀ o1 o2, ((w.alloc o1).alloc o2).cell? ⟨b, 4, none⟩ = some (.bool false) := fun o1 o2 => Lib.cell?_alloc_some _ (Lib.cell?_alloc_some _ c4)
  have k5 : ∀ o1 o2, ((w.alloc o1).alloc o2).cell? ⟨b, 5, none⟩ = some u1 := fun o1 o2 => Lib.cell?_alloc_some _ (Lib.cell?_alloc_some _ c5)
  have k6 : ∀ o1 o2, ((w.alloc o1).alloc o2).cell? ⟨b, 6, none⟩ = some u2 := fun o1 o2 => Lib.cell?_alloc_some _ (Lib.cell?_alloc_some _ c6)
  have k7 : ∀ o1 o2, ((w.alloc o1).alloc o2).cell? ⟨b, 7, none⟩ = some u3 := fun o1 o2 => Lib.cell?_alloc_some _ (Lib.cell?_alloc_some _ c7)
  have hi5 : (Try.prog.info? 38).map (·.size) = some 5 := by kernel_rfl
  have HI := Lib.hid hi5
  have HB1 := Lib.hid ((Below.refl w.heap.size w).alloc (Nat.le_refl _) (.cells #[.int .u16 0, .bool false, .slice none 0 0, .slice none 0 0, .slice none 0 0] 38))
  have HB2 := Lib.hid (HB1.out.alloc (by simp) (.cells #[.int .u32 (gone : Int)] 45))
  have HZ := Lib.hid ((Has.fresh w 38 #[.int .u16 0, .bool false, .slice none 0 0, .slice none 0 0, .slice none 0 0]).alloc (.cells #[.int .u32 (gone : Int)] 45))
  have hG := (Has.fresh (w.alloc (.cells #[.int .u16 0, .bool false, .slice none 0 0, .slice none 0 0, .slice none 0 0] 38)) 45 #[.int .u32 (gone : Int)]).cell 0
  rw [World.size_alloc] at hG
  have HG := Lib.hid hG
  clear hG hi5 c3 c4 c5 c6 c7 c8
  by_cases hm : (now : Int) - (put : Int) < 0
  · obtain rfl : gone = 0 := by omega
    clear hgo
    go_enter Try.func45, Try.ntmps45
    go_wp2_with (first
      | (go_at_call 53; refine (HE.out _ _ HB2.out HG.out).mono ?_; rintro e w3 ⟨v1, v2, v3, rfl, o1, o2, o3, hb⟩; have HY := Lib.hid (HZ.out.below hb HZ.out.lt); have HO := Lib.hid (And.intro o1 (And.intro o2 o3)); have HB3 := Lib.hid (HB2.out.trans (hb.mono HB2.out.size)); have H1c := Lib.hid (ans_one rc o1 o2 o3); clear o1 o2 o3 hb)
      | (refine wpList_store_row rfl 38 (.tmp 4) (.tmp 20) rfl w.heap.size _ rfl rfl 38 _ HY.out HI.out rfl H1c.out ?_))
    refine bodyPost_ret (results_cell_row rfl _ _ w.heap.size 38 _ (0, 0) _ rfl (HY.out.row _) Try.underlying38 rfl HI.out) rfl ?_
    exact ⟨v1, v2, v3, rfl, ans_row HO.out.1 HY.out (by simp; omega), ans_row HO.out.2.1 HY.out (by simp; omega), ans_row HO.out.2.2 HY.out (by simp; omega), below_setRow HB3.out (by omega) _⟩
  · have hq : ((now : Int) - (put : Int)) / 10 % 4294967296 = (gone : Int) := by omega
    clear hgo
    go_enter Try.func45, Try.ntmps45
    go_wp2_with (first
      | (go_at_call 53; refine (HE.out _ _ HB2.out HG.out).mono ?_; rintro e w3 ⟨v1, v2, v3, rfl, o1, o2, o3, hb⟩; have HY := Lib.hid (HZ.out.below hb HZ.out.lt); have HO := Lib.hid (And.intro o1 (And.intro o2 o3)); have HB3 := Lib.hid (HB2.out.trans (hb.mono HB2.out.size)); have H1c := Lib.hid (ans_one rc o1 o2 o3); clear o1 o2 o3 hb)
      | (refine wpList_store_row rfl 38 (.tmp 4) (.tmp 20) rfl w.heap.size _ rfl rfl 38 _ HY.out HI.out rfl H1c.out ?_))
    refine bodyPost_ret (results_cell_row rfl _ _ w.heap.size 38 _ (0, 0) _ rfl (HY.out.row _) Try.underlying38 rfl HI.out) rfl ?_
    exact ⟨v1, v2, v3, rfl, ans_row HO.out.1 HY.out (by simp; omega), ans_row HO.out.2.1 HY.out (by simp; omega), ans_row HO.out.2.2 HY.out (by simp; omega), below_setRow HB3.out (by omega) _⟩
end Go.Proofs.Ytnhoaceickojeaa.Ca
/- Now as it counts, a question's key, and an entry that is kept: the program's. -/
namespace Go.Proofs.Ytnhoaceickojeaa.Ca
open Go.RowKit

set_option maxRecDepth 100000 in
theorem tick_any (n : Int) (w : World) : Calls Try.prog 28 #[.int .i64 n] w fun e w' => e = .returned (.int .i64 (tick n : Nat)) ∧ w = w' := by
  obtain ⟨t, ht⟩ : ∃ t, tick n = t := ⟨_, rfl⟩
  have ht2 := ht
  unfold tick top at ht2
  rw [ht]
  by_cases h0 : n < 0
  · have h0' : ¬ 0 < n := by omega
    rw [if_pos h0] at ht2
    subst ht2
    clear ht
    go_enter Try.func28, Try.ntmps28
    go_wp2
    go_ret
    exact ⟨rfl, rfl⟩
  · rw [if_neg h0] at ht2
    by_cases h1 : (4611686018427387904 : Int) < n
    · rw [if_pos (by omega)] at ht2
      subst ht2
      clear ht
      go_enter Try.func28, Try.ntmps28
      go_wp2
      go_ret
      exact ⟨rfl, rfl⟩
    · rw [if_neg (by omega)] at ht2
      have h2 : (t : Int) = n := by omega
      have H2 := Lib.hid h2
      clear ht ht2 h2
      go_enter Try.func28, Try.ntmps28
      go_wp2
      go_ret
      exact ⟨by rw [← H2.out]; rfl, rfl⟩
theorem q_cells {w : World} {g : Nat} {t : TypeId} {a b c : Value} (h : Has w g t #[a, b, c]) : w.cell? ⟨g, 0, none⟩ = some a ∧ w.cell? ⟨g, 1, none⟩ = some b ∧ w.cell? ⟨g, 2, none⟩ = some c := by
  refine ⟨?_, ?_, ?_⟩ <;> rw [h.cell] <;> rfl
theorem q_set {w : World} {g : Nat} {t : TypeId} {a b c : Value} (h : Has w g t #[a, b, c]) (v : Value) : Has (w.setCell ⟨g, 0, none⟩ v) g t #[v, b, c] := h.set 0 v
set_option maxHeartbeats 400000 in
set_option maxRecDepth 100000 in
theorem keyOf_any (k : Kv) (w : World) (hk : k.nm.size ≤ 140737488355328) : Calls Try.prog 32 #[k.val] w fun e w' => e = .returned (foldK k).val ∧ Below w.heap.size w w' := by
  have HF := Lib.hid (fun W => Fold_any k.nm W hk)
  have hi3 : (Try.prog.info? 35).map (·.size) = some 3 := by kernel_rfl
  have HI := Lib.hid hi3
  obtain ⟨nm, ty, cl⟩ := k
  unfold Kv.val foldK foldB
  dsimp only at *
  have HB1 := Lib.hid ((Below.refl w.heap.size w).alloc (Nat.le_refl _) (.cells #[.string nm, .int .u16 (ty : Int), .int .u16 (cl : Int)] 35))
  have HB2 := Lib.hid (HB1.out.alloc (by simp) (.cells #[.string ⟨#[]⟩, .int .u16 0, .int .u16 0] 35))
  have HX := Lib.hid ((Has.fresh w 35 #[.string nm, .int .u16 (ty : Int), .int .u16 (cl : Int)]).alloc (.cells #[.string ⟨#[]⟩, .int .u16 0, .int .u16 0] 35))
  have hZ := Has.fresh (w.alloc (.cells #[.string nm, .int .u16 (ty : Int), .int .u16 (cl : Int)] 35)) 35 #[.string ⟨#[]⟩, .int .u16 0, .int .u16 0]
  rw [World.size_alloc] at hZ
  have HZ := Lib.hid hZ
  clear hk hi3 hZ
  generalize (⟨(Nm.fold nm.data.toList).toArray⟩ : ByteArray) = fn at *
  go_enter Try.func32, Try.ntmps32
  go_wp2_with (first
    | (go_at_call 52; refine (HF.out _).mono ?_; rintro e w3 ⟨rfl, hb⟩; have hx := HX.out.below hb HX.out.lt; have hz := HZ.out.below hb HZ.out.lt; have f0 := hx.free 0; obtain ⟨c0, c1, c2⟩ := q_cells hx; obtain ⟨d0, d1, d2⟩ := q_cells (q_set hx (.string fn)); have HZ3 := Lib.hid (hz.far (p := ⟨w.heap.size, 0, none⟩) (by simp) (.string fn)); have HB3 := Lib.hid ((HB2.out.trans (hb.mono HB2.out.size)).setCell (p := ⟨w.heap.size, 0, none⟩) (Nat.le_refl _) (.string fn)); clear hx hz hb)
    | (refine wpList_store_row rfl 35 (.tmp 2) (.tmp 7) rfl (w.heap.size + 1) _ rfl rfl 35 _ HZ3.out HI.out rfl (by simp [Value.oneCell']) ?_))
  refine bodyPost_ret (results_cell_row rfl _ _ (w.heap.size + 1) 35 _ (0, 0) _ rfl (HZ3.out.row _) Try.underlying35 rfl HI.out) rfl ?_
  exact ⟨rfl, below_setRow HB3.out (by omega) _⟩
theorem CM.snoc {w w1 w2 : World} {lo c m room : Nat} {sn : Int} {l : List Nd} {d : Nd} (h : CM w lo c m room sn l) (hR : RM w1 c (.int .i64 (room : Int)) (.map (some m)) (.int .i64 sn) (l ++ [d])) (hT : Tch (d.b :: c :: bs l) w w1) (hM : Mq w2 m ((d.e.key, pt d.b) :: mL l)) (hg : Tch [m] w1 w2)
    (hdm : d.b ≠ m) (hrow : RowsM w d) (hs1 : ∀ k ∈ d.rows, k ≠ c ∧ k ≠ m ∧ k ∉ bs (l ++ [d])) (hs2 : ∀ e ∈ l, d.b ∉ e.rows) (hok : d.e.ok) (hkey : ∀ e ∈ l, e.e.key ≠ d.e.key) (hlo : lo ≤ d.b ∧ ∀ k ∈ d.rows, lo ≤ k) :
    CM w2 lo c m room sn (l ++ [d]) := by
  have hF := h.far
  have hmb : m ∉ c :: bs (l ++ [d]) := fun e => by
    rw [bs_append] at e
    simp only [List.mem_cons, List.mem_append, List.map_cons, List.map_nil, List.not_mem_nil, or_false] at e
    rcases e with e | e | e
    · exact hF.1 e.symm
    · exact hF.2 e
    · exact hdm e.symm
  refine ⟨hR.tch hg fun k hk e => by simp at e; subst e; exact hmb hk, hM.perm ?_, fun e he => ?_, fun e he k hk => ?_, fun e he => ?_, ?_, h.low.1, h.low.2.1, fun e he => ?_⟩
  · unfold mL
    rw [List.map_append]
    exact List.perm_append_comm (l₁ := [(d.e.key, pt d.b)])
  · rcases List.mem_append.1 he with he | he
    · refine ((h.rows e he).tch hT fun k hk e1 => ?_).tch hg fun k hk e1 => ?_
      · obtain ⟨q1, q2, q3⟩ := h.sep e he k hk
        simp only [List.mem_cons] at e1
        rcases e1 with e1 | e1 | e1
        · subst e1; exact hs2 e he hk
        · exact q1 e1
        · exact q3 e1
      · obtain ⟨q1, q2, q3⟩ := h.sep e he k hk
        simp at e1
        exact q2 e1
    · simp at he
      subst he
      refine (hrow.tch hT fun k hk e1 => ?_).tch hg fun k hk e1 => ?_
      · obtain ⟨q1, q2, q3⟩ := hs1 k hk
        rw [bs_append] at q3
        simp only [List.mem_append, not_or, List.map_cons, List.map_nil, List.mem_singleton] at q3
        simp only [List.mem_cons] at e1
        rcases e1 with e1 | e1 | e1
        · exact q3.2 e1
        · exact q1 e1
        · exact q3.1 e1
      · simp at e1
        exact (hs1 k hk).2.1 e1
  · rcases List.mem_append.1 he with he | he
    · obtain ⟨q1, q2, q3⟩ := h.sep e he k hk
      refine ⟨q1, q2, fun e1 => ?_⟩
      rw [bs_append] at e1
      rcases List.mem_append.1 e1 with e1 | e1
      · exact q3 e1
      · simp at e1; subst e1; exact hs2 e he hk
    · simp at he
      subst he
      exact hs1 k hk
  · rcases List.mem_append.1 he with he | he
    · exact h.ok e he
    · simp at he; subst he; exact hok
  · rw [List.map_append, List.nodup_append]
    refine ⟨h.keys, by simp, fun a ha b hb e => ?_⟩
    obtain ⟨x, hx, rfl⟩ := List.mem_map.1 ha
    simp at hb
    exact hkey x hx (by rw [e, hb])
  · rcases List.mem_append.1 he with he | he
    · exact h.low.2.2 e he
    · simp at he; subst he; exact hlo
set_option maxHeartbeats 800000 in
set_option maxRecDepth 100000 in
theorem keep_any {w : World} {lo c m room : Nat} {sn : Int} {l : List Nd} {d : Nd} (h : CM w lo c m room sn l) (hso : Soon sn l) {p0 n0 : Value} (hd0 : Has w d.b 88 (ecs d p0 n0)) (hn : d.b ∉ c :: bs l)
    (hrow : RowsM w d) (hs1 : ∀ k ∈ d.rows, k ≠ c ∧ k ≠ m ∧ k ∉ bs (l ++ [d])) (hs2 : ∀ e ∈ l, d.b ∉ e.rows) (hok : d.e.ok) (hkey : ∀ e ∈ l, e.e.key ≠ d.e.key) (hlo : lo ≤ d.b ∧ ∀ k ∈ d.rows, lo ≤ k) :
    Calls Try.prog 34 #[pt c, pt d.b] w fun e w' => e = .returned (.tuple #[]) ∧ ∃ sn', CM w' lo c m room sn' (l ++ [d]) ∧ Soon sn' (l ++ [d]) ∧ Tch (d.b :: c :: m :: bs l) w w' := by
  have HA := Lib.hid (add_any h.rm d hd0 hn)
  have hdm := h.mq.no hd0
  have HF := Lib.hid h.far
  have HS := Lib.hid (fun w1 w2 a b c e => h.snoc (w1 := w1) (w2 := w2) a b c e hdm hrow hs1 hs2 hok hkey hlo)
  have HM := Lib.hid h.mq
  have HK := Lib.hid (And.intro h.kvs (And.intro hok.kv hkey))
  have HSo := Lib.hid hso
  have HN := Lib.hid (And.intro hn hdm)
  clear h hso hd0 hn hrow hs1 hs2 hok hkey hlo hdm
  go_enter Try.func34, Try.ntmps34
  go_wp2_with (go_at_call 44; refine HA.out.mono ?_; rintro e w1 ⟨rfl, hR, hT, hs⟩)
  have hM1 : Mq w1.drew m (mL l) := HM.out.same (hT.same m HM.out.lt fun e => by
    simp only [List.mem_cons] at e
    rcases e with e | e | e
    · exact HN.out.2 e.symm
    · exact HF.out.1 e.symm
    · exact HF.out.2 e)
  obtain ⟨w2, hr2, hM2, hg2⟩ := mq_store hM1 HK.out.1 d.e.key HK.out.2.1 (fun p hp => by
    obtain ⟨x, hx, rfl⟩ := List.mem_map.1 hp
    exact HK.out.2.2 x hx) (pt d.b)
  have hg3 : Tch [m] w1 w2 := (Tch.refl [m] w1).drew.trans (Tch.of_grown hg2 fun k e => by cases e; simp)
  have hD := (rm_parts (B := []) hR).2.1
  have hC2 := HS.out w1 w2 hR hT hM2 hg3
  have c3 : w1.cell? ⟨c, 3, none⟩ = some (.map (some m)) := by rw [hR.head.cell]; rfl
  obtain ⟨k0, k1, k2⟩ := ecs_key hD
  have hD2 := (rm_parts (B := []) hC2.rm).2.1
  have c9 : w2.cell? ⟨d.b, 9, none⟩ = some (.int .i64 (d.e.over : Int)) := by rw [hD2.cell]; rfl
  have c4 : w2.cell? ⟨c, 4, none⟩ = some (.int .i64 sn) := by rw [hC2.rm.head.cell]; rfl
  have f4 := hC2.rm.head.free 4
  have HC2 := Lib.hid hC2
  have HT : Hid (Tch (d.b :: c :: m :: bs l) w w2) := (hT.mono fun k hk => by
    simp only [List.mem_cons] at hk ⊢
    rcases hk with e | e | e
    · exact .inl e
    · exact .inr (.inl e)
    · exact .inr (.inr (.inr e))).trans (hg3.mono fun k hk => by simp at hk; simp [hk])
  unfold Kv.val at hr2
  clear hR hT hs hM1 hM2 hg2 hg3 hD hD2 hC2
  by_cases hm : sn ≤ (d.e.over : Int)
  · have hm1 : decide (sn ≤ (d.e.over : Int)) = true := decide_eq_true hm
    go_region
    all_goals
      go_wp2
      go_region
      all_goals
        go_end0
        refine ⟨rfl, sn, (HC2.out.setSn sn).drew, fun e he => ?_, (HT.out.trans (Tch.set _ _ ⟨c, 4, none⟩ _ (by simp))).drew⟩
        rcases List.mem_append.1 he with he | he
        · have := HSo.out e he
          omega
        · simp at he
          subst he
          omega
  · have hm1 : decide (sn ≤ (d.e.over : Int)) = false := decide_eq_false hm
    go_region
    all_goals
      go_wp2
      go_region
      all_goals
        go_end0
        refine ⟨rfl, (d.e.over : Int), (HC2.out.setSn (d.e.over : Int)).drew, fun e he => ?_, (HT.out.trans (Tch.set _ _ ⟨c, 4, none⟩ _ (by simp))).drew⟩
        rcases List.mem_append.1 he with he | he
        · have := HSo.out e he
          omega
        · simp at he
          subst he
          omega
end Go.Proofs.Ytnhoaceickojeaa.Ca
