/- Under: the program's answer, and the document's. -/
import Derived.Test.YtpnfkgjcnofjnaaCmpRef
import Derived.Test.YtpnfkgjcnofjnaaLasts
import Derived.Deep.LoopGhost
import Derived.Test.YtpnfkgjcnofjnaaOrdPure
namespace Go.Proofs.Ytpnfkgjcnofjnaa
open Go.RowKit

theorem lastR_under {n : List UInt8} {ls : List (List UInt8)} {k : Nat} (h : Nm.split n = some ls) (hk : k ≤ ls.length) : lastR n (k : Nat) = yes_ (Nm.glue (ls.drop (ls.length - k))) := by
  unfold lastR; rw [h]; exact if_neg (by omega)
theorem lastR_not {n : List UInt8} {ls : List (List UInt8)} {k : Nat} (h : Nm.split n = some ls) (hk : ls.length < k) : lastR n (k : Nat) = no_ := by
  unfold lastR; rw [h]; exact if_pos (.inr (by omega))
theorem lastR_none {n : List UInt8} {k : Int} (h : Nm.split n = none) : lastR n k = no_ := by unfold lastR; rw [h]
theorem split_drop {n : List UInt8} {ls : List (List UInt8)} (h : Nm.split n = some ls) (d : Nat) : Nm.split (Nm.glue (ls.drop d)) = some (ls.drop d) := by
  obtain ⟨rfl, g, hl⟩ := Nm.split_some.1 h
  refine Nm.split_glue (Nm.good_drop g d) ?_
  rw [← glue_drop ls d, List.length_drop]; omega

set_option maxHeartbeats 1000000 in
theorem refUnder_any (n z : ByteArray) (w : World) (hn : n.size ≤ 140737488355328) (hz : z.size ≤ 140737488355328) :
    Calls Try.prog 28 #[.string n, .string z] w fun e w' => e = .returned (.bool (Nm.underB n.data.toList z.data.toList)) ∧ Below w.heap.size w w' := by
  rcases hsn : Nm.split n.data.toList with _ | x
  · have HU : Hid (Nm.underB n.data.toList z.data.toList = false) := by show _ = _; unfold Nm.underB; rw [hsn]
    have H1 := Lib.hid (Split_no n w hn hsn)
    have H2 := Lib.hid (fun w => Split_any z w hz)
    clear hsn
    go_enter Try.func28, Try.ntmps28
    rcases hsz : Nm.split z.data.toList with _ | y
    · have H3 := Lib.hid (fun w => Split_no z w hz hsz)
      clear hsz
      go_wp2_with (first | (go_at_call_of 55 (Value.string n); refine H1.out.mono ?_; rintro e w1 ⟨v1, rfl, hb1⟩) | (go_at_call_of 55 (Value.string z); refine (H3.out _).mono ?_; rintro e w2 ⟨v2, rfl, hb2⟩))
      go_ret
      exact ⟨by rw [HU.out]; rfl, hb1.trans (hb2.mono hb1.size)⟩
    · have H3 := Lib.hid (fun w => Split_yes z y w hz hsz)
      clear hsz
      go_wp2_with (first | (go_at_call_of 55 (Value.string n); refine H1.out.mono ?_; rintro e w1 ⟨v1, rfl, hb1⟩) | (go_at_call_of 55 (Value.string z); refine (H3.out _).mono ?_; rintro e w2 ⟨ad2, cp2, rfl, ho2, hb2⟩))
      go_ret
      exact ⟨by rw [HU.out]; rfl, hb1.trans (hb2.mono hb1.size)⟩
  · have H1 := Lib.hid (Split_yes n x w hn hsn)
    rcases hsz : Nm.split z.data.toList with _ | y
    · have HU : Hid (Nm.underB n.data.toList z.data.toList = false) := by show _ = _; unfold Nm.underB; rw [hsn, hsz]
      have H3 := Lib.hid (fun w => Split_no z w hz hsz)
      clear hsz hsn
      go_enter Try.func28, Try.ntmps28
      go_wp2_with (first | (go_at_call_of 55 (Value.string n); refine H1.out.mono ?_; rintro e w1 ⟨ad1, cp1, rfl, ho1, hb1⟩) | (go_at_call_of 55 (Value.string z); refine (H3.out _).mono ?_; rintro e w2 ⟨v2, rfl, hb2⟩))
      go_ret
      exact ⟨by rw [HU.out]; rfl, hb1.trans (hb2.mono hb1.size)⟩
    · have H3 := Lib.hid (fun w => Split_yes z y w hz hsz)
      have hfx := few hsn
      have hfy := few hsz
      by_cases hlt : x.length < y.length
      · have HU : Hid (Nm.underB n.data.toList z.data.toList = false) := by show _ = _; unfold Nm.underB; rw [hsn, hsz]; simp only [decide_eq_false (show ¬ y.length ≤ x.length by omega), Bool.false_and]
        clear hsz hsn
        go_enter Try.func28, Try.ntmps28
        go_wp2_with (first | (go_at_call_of 55 (Value.string n); refine H1.out.mono ?_; rintro e w1 ⟨ad1, cp1, rfl, ho1, hb1⟩) | (go_at_call_of 55 (Value.string z); refine (H3.out _).mono ?_; rintro e w2 ⟨ad2, cp2, rfl, ho2, hb2⟩))
        go_ret
        exact ⟨by rw [HU.out]; rfl, hb1.trans (hb2.mono hb1.size)⟩
      · obtain ⟨d, hd⟩ : ∃ d, x.length = d + y.length := ⟨x.length - y.length, by omega⟩
        have hd2 : x.length - y.length = d := by omega
        have hgl : (Nm.glue (x.drop d)).length ≤ 255 := (Nm.split_some.1 (split_drop hsn d)).2.2
        have HU : Hid (Nm.underB n.data.toList z.data.toList = (Nm.fold (Nm.glue (x.drop d)) == Nm.fold z.data.toList)) := by
          show _ = _
          unfold Nm.underB; rw [hsn, hsz]
          simp only [decide_eq_true (show y.length ≤ x.length by omega), Bool.true_and, hd2]
        have HGL : Hid (∀ l ∈ x.drop d, l.length ≤ 255) := fun l hl => by have := (Nm.split_some.1 hsn).2.1 l (List.mem_of_mem_drop hl); omega
        have HDL : Hid ((x.drop d).length ≤ 140737488355328) := by show (x.drop d).length ≤ 140737488355328; rw [List.length_drop]; omega
        have HA := Lib.hid (fun w => Alike_any ⟨(Nm.glue (x.drop d)).toArray⟩ z w (by rw [mk_size]; omega) hz)
        have e0 : (⟨(Nm.glue (x.drop d)).toArray⟩ : ByteArray).data.toList = Nm.glue (x.drop d) := by simp
        rw [e0, ← HU.out] at HA
        clear hsz hsn hd2 hgl e0
        generalize Nm.underB n.data.toList z.data.toList = res at *
        go_enter Try.func28, Try.ntmps28
        go_wp2_with (first | (go_at_call_of 55 (Value.string n); refine H1.out.mono ?_; rintro e w1 ⟨ad1, cp1, rfl, ho1, hb1⟩; have O1 := Lib.hid ho1; clear ho1) | (go_at_call_of 55 (Value.string z); refine (H3.out _).mono ?_; rintro e w2 ⟨ad2, cp2, rfl, ho2, hb2⟩; have R1 := Lib.hid (own_cut (own_below O1.out hb2 (Nat.le_refl _)) rfl hd); clear ho2))
        case' inl => refine (Glue_any _ _ _ _ (R1.out.2 (by omega)) (Nat.le_refl _) HDL.out HGL.out).mono ?_
        case' inr => refine (Glue_any _ _ _ _ R1.out.1 (Nat.le_refl _) HDL.out HGL.out).mono ?_
        all_goals
          rintro e w3 ⟨rfl, hb3⟩
          go_wp2_with (first | (go_at_call 59; refine (HA.out _).mono ?_; rintro e w4 ⟨rfl, hb4⟩))
          go_ret
          exact ⟨rfl, ((hb1.trans (hb2.mono hb1.size)).trans (hb3.mono (Nat.le_trans hb1.size hb2.size))).trans (hb4.mono (Nat.le_trans (Nat.le_trans hb1.size hb2.size) hb3.size))⟩
end Go.Proofs.Ytpnfkgjcnofjnaa
