/- What Below and All hand back: the iterator over the pairs. -/
import Derived.Test.YtpnfkgjcnofjnaaTrPairs
namespace Go.Proofs.Ytpnfkgjcnofjnaa.Ti
open Go.RowKit Go.Shelf Tr
attribute [local go_sem] Oper.semAt_some

theorem Below_any (b : Nat) (s : ByteArray) (w : World) :
    Calls Try.prog 53 #[ptr b, .string s] w fun e w' => e = .returned (.func (.func 81) #[] #[.pointer (some ⟨w.heap.size, 0, none⟩), .pointer (some ⟨w.heap.size + 1, 0, none⟩)]) ∧ w' = (w.alloc (.cells #[ptr b] 24)).alloc (.cells #[.string s] 28) := by
  go_enter Try.func53, Try.ntmps53
  go_wp2
  go_ret
  exact ⟨rfl, rfl⟩
theorem All_any (b : Nat) (w : World) :
    Calls Try.prog 33 #[ptr b] w fun e w' => e = .returned (.func (.func 81) #[] #[.pointer (some ⟨w.heap.size, 0, none⟩), .pointer (some ⟨w.heap.size + 1, 0, none⟩)]) ∧ w' = (w.alloc (.cells #[ptr b] 24)).alloc (.cells #[.string ⟨#[0]⟩] 28) := by
  go_enter Try.func33, Try.ntmps33
  go_wp2_with (go_at_call 53; refine (Below_any b ⟨#[0]⟩ _).mono ?_; rintro e w1 ⟨rfl, rfl⟩)
  go_ret
  exact ⟨rfl, rfl⟩
/-- between two pairs: k are told. -/
structure BtS (J : Nat → Bl → World → Prop) (S : Bl) (l : Nat) (W : World) (v : Value) (L : List (By × TV)) (k : Nat) (S' : Bl) (W' : World) : Prop where
  at_ : J k S' W'
  fr : FrS (fun j => S j ∨ j = l) W W'
  sub : ∀ j, S' j → S j ∨ W.heap.size ≤ j
  row : W'.ownsRow W.heap.size 122 2 v L.length (fl pc L)
  off : ∀ q, v.ownBlock = some q → ¬ S' q
section
variable {J J2 : Nat → Bl → World → Prop} {S : Bl} {l : Nat} {W : World} {v : Value} {L : List (By × TV)} {k k2 : Nat} {S' S2 : Bl} {W' W2 : World}
theorem BtS.step (h : BtS J S l W v L k S' W') (hl : l < W.heap.size) (hj : J2 k2 S2 W2) (hf : FrS (fun j => S' j ∨ j = l) W' W2) (hs : ∀ j, S2 j → S' j ∨ W'.heap.size ≤ j) : BtS J2 S l W v L k2 S2 W2 := by
  have hz := h.fr.size
  refine ⟨hj, h.fr.trans hf (fun i hi => ?_), fun j hj => ?_, ownK_same h.row fun q hq => hf.block q (h.row.lt q hq).2 (fun hi => ?_), fun q hq hi => ?_⟩
  · rcases hi with hi | hi
    · rcases h.sub i hi with h1 | h1
      · exact .inl (.inl h1)
      · exact .inr h1
    · exact .inl (.inr hi)
  · rcases hs j hj with h1 | h1
    · exact h.sub j h1
    · exact .inr (by omega)
  · rcases hi with hi | hi
    · exact h.off q hq hi
    · have := (h.row.lt q hq).1; omega
  · rcases hs q hi with h1 | h1
    · exact h.off q hq h1
    · have := (h.row.lt q hq).2; omega
theorem BtS.below {X : World} {B : Nat} (h : BtS J S l W v L k S' W') (hJ : Abides W.heap.size J) (hb : Below B W' X) (hB : W'.heap.size ≤ B) : BtS J S l W v L k S' X :=
  ⟨hJ _ _ _ _ h.at_ (Chg.of_below hb hB), h.fr.trans (FrS.of_below hb hB (fun _ => False)) (fun _ hi => False.elim hi), h.sub, ownK_below h.row hb hB, h.off⟩
end
set_option maxRecDepth 100000 in
set_option maxHeartbeats 2000000 in
/-- the iterator tells what stood at or under the name where it began. -/
theorem below_seq {w : World} {b : Nat} {n : No TV} {F : List Nat} (h : TM w b n F) (s : ByteArray) (hs : s.size ≤ 140737488355328) {bt bn : Nat} (hbt : Has w bt 24 #[ptr b]) (hbn : Has w bn 28 #[.string s]) (m0 : Nat) (L : List (By × TV)) (hL : L = belowL n s.data.toList) :
    SeqS Fence.wide m0 Try.prog 81 #[.pointer (some ⟨bt, 0, none⟩), .pointer (some ⟨bn, 0, none⟩)] (encL L) (fun _ => True) L.length w := by
  intro l J Jx W S hbel hl hJ hJx hD hDx hS hY h0
  refine callsIn_any (n := 9) ?_
  have HY := Lib.hid (fun i S W1 h hi => yieldAt_wide 8 (hY i S W1 h hi))
  have HS := Lib.hid hS
  have HJ := Lib.hid hJ
  have HJX := Lib.hid hJx
  have HB0 := Lib.hid h0
  have c0 : W.cell? ⟨bt, 0, none⟩ = some (ptr b) := (hbel.cell (p := ⟨bt, 0, none⟩) hbt.lt).trans (by rw [hbt.cell]; rfl)
  have c1 : W.cell? ⟨bn, 0, none⟩ = some (.string s) := (hbel.cell (p := ⟨bn, 0, none⟩) hbn.lt).trans (by rw [hbn.cell]; rfl)
  have HP := Lib.hid (pairs_any (h.below hbel (Nat.le_refl _)) s hs)
  rw [← hL] at HP
  have hlen : L.length ≤ 1000000 := by
    rw [hL]
    unfold belowL
    split
    · rw [List.length_map]; exact Nat.le_trans (List.length_filter_le _ _) h.few
    · simp
  clear hY hD hDx hJ hJx hS h0 h hbel hbt hbn hL
  refine callsIn_of_wp Try.func81 rfl trivial ?_ rfl
  simp only [Try.ntmps81, List.size_toArray, List.length_cons, List.length_nil, Nat.reduceAdd, Nat.reduceSub, Array.replicate_succ, Array.replicate_zero, List.push_toArray, List.append_toArray, List.nil_append, List.cons_append]
  obtain ⟨N, hN⟩ : ∃ N, L.length = N := ⟨_, rfl⟩
  gi_wp2_with (refine ⟨trivial, ?_⟩; gi_at_call 82; refine (callsIn_wide.2 HP.out).mono ?_; rintro e w1 ⟨v, rfl, hr1, hb1⟩; have hB1 : BtS J S l W v L 0 S w1 := ⟨HJ.out _ _ _ _ HB0.out (Chg.of_below hb1 (Nat.le_refl _)), FrS.of_below hb1 (Nat.le_refl _) _, fun j hj => .inl hj, hr1, fun q hq hi => (by have := HS.out _ _ _ HB0.out q hi; have := (hr1.lt q hq).1; omega)⟩; obtain ⟨A, c, rfl, hlc⟩ := ownK_form hr1; rw [hN] at hB1 hlc ⊢; clear hr1 hb1)
  have HN := Lib.hid hN
  have HB1 := Lib.hid hB1
  rw [hN] at hlen
  clear hN hB1 HP HB0 c0 c1
  gi_loopw [10] (fun i wr => ∃ (k : Nat) (S' : Bl), k ≤ N ∧ i = .int .i64 k ∧ Hid (BtS J S l W (.slice A N c) L k S' wr)) (fun i _ => N - (intOf i).toNat)
  case atStart => exact ⟨0, S, Nat.zero_le _, rfl, HB1⟩
  case round =>
    obtain ⟨k, S', hk, rfl, HB⟩ := hrel
    rcases Nat.lt_or_ge k N with hlt | hge
    · have hkL : k < L.length := by have := HN.out; omega
      obtain ⟨g, cp, cur, hv, _, hbg, hgl, hg, ht⟩ := ownK_pos HB.out.row (by have := HN.out; omega)
      rw [HN.out] at hv
      injection hv with e1 _ e3
      subst e1 e3
      obtain ⟨kv, hkv⟩ : ∃ kv, L[k] = kv := ⟨_, rfl⟩
      have hra : wr.rangeAt g (k * 2) [sv kv.1, tz kv.2] := fun j u hu => by
        rw [cell_of_row wr g _ cur _ (0, 0) hg]
        exact take_at ht (by rw [fl_get pc_len L hkL (List.getElem?_eq_some_iff.1 hu).1, hkv]; exact hu)
      have i0 : (0 : Int) ≤ (k : Int) := by omega
      have i1 : (k : Int) < (N : Int) := by omega
      have hi2 : (Try.prog.info? 122).map (·.size) = some 2 := by kernel_rfl
      have HI2 := Lib.hid hi2
      have hwr : IntKind.i64.wrap ((k : Int) + 1) = ((k + 1 : Nat) : Int) := by rw [IntKind.wrap_i64]; omega
      have hbX : Below wr.heap.size wr (wr.alloc (.cells #[.string ⟨kv.1.toArray⟩, .int .i64 kv.2] 122)) := (Below.refl _ wr).alloc (Nat.le_refl _) _
      have hBX := HB.out.below HJ.out hbX (Nat.le_refl _)
      have hY := HY.out _ _ _ hBX.at_ hkL
      have he : encL L k = #[.string ⟨kv.1.toArray⟩, .int .i64 kv.2] := by simp [encL, hkL, hkv]
      rw [he] at hY
      obtain ⟨fn, tmps, assign, body, hy, hR⟩ := hY
      have HBX := Lib.hid hBX
      clear hg ht hi2 hBX hbX hkv he
      gi_wp2_with (refine wpListIn_load_mid rfl 122 (.tmp 12) rfl g (k * 2) rfl [sv kv.1, tz kv.2] _ hra Try.underlying122 rfl HI2.out ?_; clear hra)
      refine hR.mono ?_
      rintro e Y2 (⟨rfl, S5, hj5, hf5, hs5⟩ | ⟨rfl, S5, hj5, hf5, hs5⟩)
      · have HB5 := Lib.hid (HBX.out.step hl hj5 hf5 hs5)
        clear hj5 hf5 hs5
        gi_wp2
        go_roundw
        case rel => exact ⟨k + 1, S5, by omega, rfl, HB5⟩
        case measure => simp [intOf]; omega
      · have HB5 := Lib.hid (HBX.out.step hl hj5 hf5 hs5)
        clear hj5 hf5 hs5
        gi_wp2
        refine bodyPost_ret (results_none rfl _ _ _) rfl ?_
        exact ⟨⟨_, rfl⟩, .inr ⟨_, S5, HB5.out.at_, HB5.out.fr, HB5.out.sub⟩⟩
    · obtain rfl : k = N := by omega
      have hneg : ¬ ((k : Int) < (k : Int)) := by omega
      gi_wp2
      go_end0
      exact ⟨⟨_, rfl⟩, .inl ⟨S', by rw [HN.out]; exact HB.out.at_, HB.out.fr, HB.out.sub⟩⟩
end Go.Proofs.Ytpnfkgjcnofjnaa.Ti
