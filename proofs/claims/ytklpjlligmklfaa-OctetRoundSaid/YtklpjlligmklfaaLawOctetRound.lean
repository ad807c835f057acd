/- OctetRound: whatever numbers are handed in, the call returns true, and the arguments read behind it as before. -/
import Derived.Test.YtklpjlligmklfaaOctWakes
import Derived.Test.YtklpjlligmklfaaShut
namespace Go.Proofs.Ytklpjlligmklfaa
open Go.RowKit

theorem u32_nat {x : Int} (h : (Lit.int .u32 x).wf = true) : ∃ n : Nat, x = n ∧ n < 4294967296 := by
  have h1 : IntKind.u32.min = 0 := rfl
  have h2 : IntKind.u32.max = 4294967295 := rfl
  simp only [Lit.wf, Bool.and_eq_true, decide_eq_true_eq] at h
  exact ⟨x.toNat, by omega, by omega⟩
theorem later_at (a b : Nat) (w : World) (ha : a < 4294967296) (hb : b < 4294967296) {x : Bool} (h : laterB a b = x) :
    Calls Try.prog 22 #[.int .u32 a, .int .u32 b] w fun e w' => e = .returned (.bool x) ∧ w = w' := by
  rw [← h]; exact later_any a b w ha hb
theorem step_at (a : Nat) (n : Int) (w : World) (ha : a < 4294967296) {c : Int} (h : stepN a n = c) :
    Calls Try.prog 24 #[.int .u32 a, .int .i64 n] w fun e w' => e = .returned (.int .u32 c) ∧ w = w' := by
  rw [← h]; exact step_any a n w ha

set_option maxHeartbeats 2000000 in
set_option maxRecDepth 100000 in
theorem round_core (w : World) (a b c : Nat) (n : Int) (ha : a < 4294967296) (hb : b < 4294967296) (hn0 : 0 ≤ n) (hn : n < 4294967296) (hc : c < 4294967296) (x y p q u : Bool)
    (hx : laterB a b = x) (hy : laterB b a = y) (haa : laterB a a = false) (hac : laterB a c = u) (hs : stepN a n = c) (hs2 : stepN c (-n) = a)
    (hp : ((a : Int) != (b : Int)) = p) (hq : ((((b : Int) - a) % 4294967296) != 2147483648) = q) (hca : (((c : Int) - a) % 4294967296) = n)
    (h1 : (x = true ∧ y = false ∧ p = true ∧ q = true) ∨ (x = false ∧ y = true ∧ p = true ∧ q = true) ∨ (x = false ∧ y = false ∧ p = true ∧ q = false) ∨ (x = false ∧ y = false ∧ p = false))
    (h2 : (u = false ∧ n ≤ 0) ∨ (u = true ∧ 0 < n ∧ n < 2147483648) ∨ (u = false ∧ 0 < n ∧ 2147483648 ≤ n)) :
    Calls Try.prog 8 #[.int .u32 a, .int .u32 b, .int .u32 n] w fun e w' => e = .returned (.bool true) ∧ Below w.heap.size w w' := by
  have H1 := Lib.hid (fun w => later_at a b w ha hb hx)
  have H2 := Lib.hid (fun w => later_at b a w hb ha hy)
  have H3 := Lib.hid (fun w => later_at a a w ha ha haa)
  have H4 := Lib.hid (fun w => later_at a c w ha hc hac)
  have H5 := Lib.hid (fun w => step_at a n w ha hs)
  have H6 := Lib.hid (fun w => step_at c (-n) w hc hs2)
  clear hx hy haa hac hs hs2
  have hnn : (n == n) = true := by simp
  have haeq : ((a : Int) == (a : Int)) = true := by simp
  rcases h1 with ⟨rfl, rfl, rfl, rfl⟩ | ⟨rfl, rfl, rfl, rfl⟩ | ⟨rfl, rfl, rfl, rfl⟩ | ⟨rfl, rfl, rfl⟩
  all_goals
    rcases h2 with ⟨rfl, hn1⟩ | ⟨rfl, hn1, hn2⟩ | ⟨rfl, hn1, hn2⟩
    all_goals
      clear ha hb hc
      try have hd := decide_eq_false (Int.not_lt.2 hn2)
      go_enter Try.func8, Try.ntmps8
      go_wp2_with (first
        | (go_at_call 22; (with_reducible refine (H1.out _).mono ?_); rintro e w' ⟨rfl, rfl⟩)
        | (go_at_call 22; (with_reducible refine (H2.out _).mono ?_); rintro e w' ⟨rfl, rfl⟩)
        | (go_at_call 22; (with_reducible refine (H3.out _).mono ?_); rintro e w' ⟨rfl, rfl⟩)
        | (go_at_call 22; (with_reducible refine (H4.out _).mono ?_); rintro e w' ⟨rfl, rfl⟩)
        | (go_at_call 24; (with_reducible refine (H5.out _).mono ?_); rintro e w' ⟨rfl, rfl⟩)
        | (go_at_call 24; (with_reducible refine (H6.out _).mono ?_); rintro e w' ⟨rfl, rfl⟩)
        | (go_at_call 13; refine (octWakes _).mono ?_; rintro e w' ⟨rfl, hw⟩))
      go_ret
      exact ⟨rfl, hw⟩
theorem laterI_of {d : Int} {x : Bool} (h : (0 < d ∧ d < 2147483648 ∧ x = true) ∨ (d = 0 ∧ x = false) ∨ (2147483648 ≤ d ∧ x = false)) : laterI d = x := by
  unfold laterI
  rcases h with ⟨h1, h2, rfl⟩ | ⟨h1, rfl⟩ | ⟨h1, rfl⟩
  · rw [decide_eq_true h1, decide_eq_true h2]; rfl
  · rw [decide_eq_false (by omega)]; rfl
  · rw [decide_eq_false (p := d < 2147483648) (by omega), Bool.and_false]
theorem walk_OctetRound (w : World) (a : Int) (ha : (Lit.int .u32 a).wf = true) (b : Int) (hb : (Lit.int .u32 b).wf = true) (n : Int) (hn : (Lit.int .u32 n).wf = true) :
    Calls Try.prog 8 #[.int .u32 a, .int .u32 b, .int .u32 n] w fun e w' => e = .returned (.bool true) ∧ Below w.heap.size w w' := by
  obtain ⟨a, rfl, ha'⟩ := u32_nat ha
  obtain ⟨b, rfl, hb'⟩ := u32_nat hb
  obtain ⟨n', hn', hn2⟩ := u32_nat hn
  have hn0 : 0 ≤ n := by omega
  have hn3 : n < 4294967296 := by omega
  clear hn' hn2 hn ha hb
  obtain ⟨c, hc⟩ : ∃ c : Nat, (c : Int) = ((a : Int) + n) % 4294967296 := ⟨(((a : Int) + n) % 4294967296).toNat, by omega⟩
  have hc4 : c < 4294967296 := by omega
  obtain ⟨u, hu⟩ : ∃ u, u = (decide (0 < n) && decide (n < 2147483648)) := ⟨_, rfl⟩
  have h2 : (u = false ∧ n ≤ 0) ∨ (u = true ∧ 0 < n ∧ n < 2147483648) ∨ (u = false ∧ 0 < n ∧ 2147483648 ≤ n) := by
    by_cases h0 : 0 < n
    · by_cases h1 : n < 2147483648
      · exact .inr (.inl ⟨by rw [hu, decide_eq_true h0, decide_eq_true h1]; rfl, h0, h1⟩)
      · exact .inr (.inr ⟨by rw [hu, decide_eq_false h1, Bool.and_false], h0, by omega⟩)
    · exact .inl ⟨by rw [hu, decide_eq_false h0]; rfl, by omega⟩
  have hca : (((c : Int) - a) % 4294967296) = n := by omega
  have hac : laterB a c = u := by
    unfold laterB
    rw [hca]
    apply laterI_of
    rcases h2 with ⟨e, h⟩ | ⟨e, h, h'⟩ | ⟨e, h, h'⟩
    · exact .inr (.inl ⟨by omega, e⟩)
    · exact .inl ⟨h, h', e⟩
    · exact .inr (.inr ⟨h', e⟩)
  have haa : laterB a a = false := laterI_of (.inr (.inl ⟨by omega, rfl⟩))
  have hs : stepN a n = c := by unfold stepN; omega
  have hs2 : stepN c (-n) = a := by unfold stepN; omega
  by_cases he : a = b
  · exact round_core w a b c n ha' hb' hn0 hn3 hc4 false false false _ u (laterI_of (.inr (.inl ⟨by omega, rfl⟩))) (laterI_of (.inr (.inl ⟨by omega, rfl⟩))) haa hac hs hs2 (by simp [he]) rfl hca (.inr (.inr (.inr ⟨rfl, rfl, rfl⟩))) h2
  · have hp : ((a : Int) != (b : Int)) = true := by simpa using fun h => he (by omega)
    by_cases hd : ((b : Int) - a) % 4294967296 = 2147483648
    · exact round_core w a b c n ha' hb' hn0 hn3 hc4 false false true false u (laterI_of (.inr (.inr ⟨by omega, rfl⟩))) (laterI_of (.inr (.inr ⟨by omega, rfl⟩))) haa hac hs hs2 hp (by simp [hd]) hca (.inr (.inr (.inl ⟨rfl, rfl, rfl, rfl⟩))) h2
    · have hq : ((((b : Int) - a) % 4294967296) != 2147483648) = true := by simpa using hd
      by_cases hl : ((b : Int) - a) % 4294967296 < 2147483648
      · exact round_core w a b c n ha' hb' hn0 hn3 hc4 true false true true u (laterI_of (.inl ⟨by omega, hl, rfl⟩)) (laterI_of (.inr (.inr ⟨by omega, rfl⟩))) haa hac hs hs2 hp hq hca (.inl ⟨rfl, rfl, rfl, rfl⟩) h2
      · exact round_core w a b c n ha' hb' hn0 hn3 hc4 false true true true u (laterI_of (.inr (.inr ⟨by omega, rfl⟩))) (laterI_of (.inl ⟨by omega, by omega, rfl⟩)) haa hac hs hs2 hp hq hca (.inr (.inl ⟨rfl, rfl, rfl, rfl⟩)) h2

namespace octetRound
open Go.ChangeShapes Go.WideShapes Go.ChangeAt
open Go.ChangeMaps (open_string shut_string)
set_option maxRecDepth 100000 in
theorem contract (H : Type) (enc : TypeId × Value → H) (W : World) (base : Nat) (args : Array Value) (ds gs : List (DataW H)) (before : List MemPlace)
    (hval : ∀ (j : Nat) t v, Try.f8.params[j]? = some t → args[j]? = some v → Value.okWide Try.prog W .any base t v)
    (hW : DataW.Whole enc Try.prog Try.f8.params.toList Rows.octetRoundSpec.vars false W args.toList ds gs before)
    (hR : (DataW.weightsEach Try.prog (Try.f8.params.toList ++ (OpenSpec.ofChange Rows.octetRoundSpec).bare.plain.varTypes Try.prog) (ds ++ gs)).all (· ≤ reachBytes) = true) :
    Calls Try.prog 8 args W fun e W' => ∃ v, e = .returned v ∧ Rows.octetRoundSpec.post enc Try.prog Try.f8 false true false false W args v W' := by
  have hW' := hW
  obtain ⟨p, q, hA0, hV, rfl, hfz, hnd⟩ := hW
  have hA : DataW.TrodAll enc Try.prog W 0 (fun _ => true) true Try.f8.params.toList args.toList ds p := hA0
  have HS := trodAll_stays (W' := W) (sp := fun _ => true) out (by kernel_rfl) hA
  have HA := Lib.hid hA
  rw [Try.params8] at hA hval hR
  obtain ⟨v0, vs0, d0, ds0, p0, q0, hargs0, rfl, rfl, h0, r0⟩ := trodAll_cons hA
  obtain ⟨v1, vs1, d1, ds1, p1, q1, hargs1, rfl, rfl, h1, r1⟩ := trodAll_cons r0
  obtain ⟨v2, vs2, d2, ds2, p2, q2, hargs2, rfl, rfl, h2, r2⟩ := trodAll_cons r1
  obtain ⟨rfl, rfl, rfl⟩ := trodAll_nil r2
  obtain rfl : args = #[v0, v1, v2] := by cases args; simp_all
  obtain ⟨rfl, rfl⟩ := trodVars_none hV
  obtain ⟨a, rfl, rfl, rfl, z0⟩ := open_int Try.underlying23 (hval 0 23 v0 rfl rfl) h0
  obtain ⟨b, rfl, rfl, rfl, z1⟩ := open_int Try.underlying23 (hval 1 23 v1 rfl rfl) h1
  obtain ⟨n, rfl, rfl, rfl, z2⟩ := open_int Try.underlying23 (hval 2 23 v2 rfl rfl) h2
  clear hA0 HS
  obtain ⟨k0, s0⟩ := reach_cons hR
  obtain ⟨k1, s1⟩ := reach_cons s0
  obtain ⟨k2, s2⟩ := reach_cons s1
  refine (walk_OctetRound W a z0 b z1 n z2).mono fun e W' ⟨he, hb⟩ => ?_
  subst he
  have hlt := hW'.lt
  refine ⟨_, rfl, post_low hW' (pa := _) (pv := []) rfl hb (fun _ _ _ => trodAll_cons_mk (shut_bool Try.underlying4 _) trodAll_mk0) (fun sp hsp => ?_) (fun _ _ => rfl) (ok_one (by kernel_rfl) rfl (okWide_bool_mk Try.underlying4 _))⟩
  exact trodAll_stays out (by kernel_rfl) HA.out (fun x hx => hb.same (hlt x (List.mem_append_left _ hx))) (fun x hx => hsp x (List.mem_append_left _ hx))

noncomputable def wargs : Array Value := #[.int .u32 0, .int .u32 0, .int .u32 0]
noncomputable def lw (os : Os) : World := World.settled Try.prog os
theorem reads (os : Os) {H : Type} (enc : TypeId × Value → H) : ∃ places, DataW.whole enc Try.prog ((lw os).forCall (fun _ _ => 0) ⟨#[], wargs, []⟩).memory Try.f8.params.toList Rows.octetRoundSpec.vars false wargs.toList 8 = some ([.lit (.int .u32 0), .lit (.int .u32 0), .lit (.int .u32 0)], [], places) :=
  ⟨[], by kernel_rfl⟩
set_option maxRecDepth 100000 in
theorem lifted (os : Os) (started : os.Started) (H : Type) (enc : TypeId × Value → H) (G : Stop.Interp) :
    ReturnsInHanded {} Try.checked os 8 .any ((OpenSpec.ofChange Rows.octetRoundSpec).preRow enc Try.prog Try.f8 Rows.octetRoundRow.domain false Rows.octetRoundRow.laid) (((OpenSpec.ofChange Rows.octetRoundSpec).at G).post enc Try.prog Try.f8 false true false false) := by
  obtain ⟨places, hx⟩ := reads os enc
  refine returnsInHanded_of_row (C := Try.checked) (s := OpenSpec.ofChange Rows.octetRoundSpec) own started (by kernel_rfl) Try.func8
    (witness_row_atRef (enc := enc) (C := Try.checked) false (lw os) wargs rfl (by kernel_rfl) (by kernel_rfl) (by kernel_rfl)
      (OpenSpec.preRow_of_cond 8 hx (by kernel_rfl) (fun k hk => by cases hk) (by kernel_rfl) (laidMetH_nil _ _))) ?_
  intro W base args ds gs before hval hW _ _ hR _ _ _
  exact contract H enc W base args ds gs before hval hW hR
/-- THE STATEMENT. -/
theorem said : Rows.OctetRoundSaid :=
  OpenClaim.holds_of_cond 8 Try.f8 rfl rfl rfl rfl rfl rfl rfl ⟨rfl, rfl, rfl, rfl, rfl⟩ rfl rfl rfl rfl rfl (by kernel_rfl) Try.func8 (by kernel_rfl)
    (of_decide_eq_true (by kernel_rfl)) (by unfold Func.isWrapper; first | (rw [if_pos (by decide +kernel)]; kernel_rfl) | (rw [if_neg (by decide +kernel)]; exact ⟨rfl, rfl⟩))
    (fun os started H enc _ G => by rw [OpenClaim.pre_eq_preRow]; exact lifted os started H enc G)
end octetRound
end Go.Proofs.Ytklpjlligmklfaa
