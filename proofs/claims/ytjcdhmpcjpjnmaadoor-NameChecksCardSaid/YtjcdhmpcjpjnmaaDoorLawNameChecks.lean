/- NameChecks: whatever bytes are handed in, the call returns true, and the argument reads behind it as before. -/
import Derived.Test.YtjcdhmpcjpjnmaaDoorFrame
namespace Go.Proofs.YtjcdhmpcjpjnmaaDoor
open Go.RowKit

set_option maxHeartbeats 1000000 in
set_option maxRecDepth 100000 in
theorem walk_NameChecks (s : ByteArray) (hs : s.size ≤ 140737488351232) (w : World) (hL : Lay w) :
    Calls Tryd.prog 3 #[.string s] w fun e w' => e = .returned (.bool true) ∧ Below w.heap.size w w' := by
  have h3 := hL.size
  have HS := Lib.hid (Split_any s w (by omega))
  have HF := Lib.hid (fun w => Fold_any s w (by omega))
  have HF2 := Lib.hid (fun w => refFold_any s w (by omega))
  have HW := Lib.hid (fun (w1 : World) (hb : Below w.heap.size w w1) => wakes_any w1 (hL.below hb h3))
  rcases hn : Nm.split s.data.toList with _ | ls
  · have HC := Lib.hid (fun w => Check_no s w (by omega) hn)
    have hlo : labelsOf s.data.toList = [] := by unfold labelsOf; rw [hn]; rfl
    have HL := Lib.hid (fun w => Labels_any s w (by omega))
    have HN := Lib.hid (fun w => Count_any s w (by omega))
    rw [hn] at HS
    rw [hlo] at HL HN
    clear hn hlo hL
    generalize (⟨(Nm.fold s.data.toList).toArray⟩ : ByteArray) = fo at *
    go_enter Tryd.func3, Tryd.ntmps3
    go_wp2_with (first
      | (go_at_call 13; refine HS.out.mono ?_; rintro e w1 ⟨v, hb1, rfl⟩; have B1 := Lib.hid hb1; clear hb1)
      | (go_at_call 14; refine (HC.out _).mono ?_; rintro e w2 ⟨rfl, hb2⟩; have B2 := Lib.hid (B1.out.trans (hb2.mono B1.out.size)); clear hb2)
      | (go_at_call 15; refine (HF.out _).mono ?_; rintro e w3 ⟨rfl, hb3⟩; have B3 := Lib.hid (B2.out.trans (hb3.mono B2.out.size)); clear hb3)
      | (go_at_call 16; refine (HF2.out _).mono ?_; rintro e w4 ⟨rfl, hb4⟩; have B4 := Lib.hid (B3.out.trans (hb4.mono B3.out.size)); clear hb4)
      | (go_at_call 17; refine (HL.out _).mono ?_; rintro e w5 ⟨v5, rfl, hown, hb5⟩; have B5 := Lib.hid (B4.out.trans (hb5.mono B4.out.size)); clear hb5; obtain ⟨ad, cp, rfl⟩ := own_form hown)
      | (go_at_call 18; refine (HN.out _).mono ?_; rintro e w6 ⟨rfl, hb6⟩; have B6 := Lib.hid (B5.out.trans (hb6.mono B5.out.size)); clear hb6)
      | (go_at_call 19; refine (HW.out _ B6.out).mono ?_; rintro e w7 ⟨rfl, hb7⟩; have B7 := Lib.hid (B6.out.trans (hb7.mono B6.out.size)); clear hb7))
    go_ret
    exact ⟨rfl, B7.out⟩
  · have HC := Lib.hid (fun w => Check_yes s ls w (by omega) hn)
    have hlo : labelsOf s.data.toList = ls := by unfold labelsOf; rw [hn]; rfl
    have HL := Lib.hid (fun w => Labels_any s w (by omega))
    have HN := Lib.hid (fun w => Count_any s w (by omega))
    have hfew := few hn
    rw [hn] at HS
    rw [hlo] at HL HN
    clear hn hlo hL
    generalize (⟨(Nm.fold s.data.toList).toArray⟩ : ByteArray) = fo at *
    go_enter Tryd.func3, Tryd.ntmps3
    go_wp2_with (first
      | (go_at_call 13; refine HS.out.mono ?_; rintro e w1 ⟨v, hb1, rfl, hown1⟩; have B1 := Lib.hid hb1; clear hb1; obtain ⟨ad1, cp1, rfl⟩ := own_form hown1; have R1 := Lib.hid (Rd.of_own hown1); clear hown1)
      | (go_at_call 14; refine (HC.out _).mono ?_; rintro e w2 ⟨rfl, hb2⟩; have B2 := Lib.hid (B1.out.trans (hb2.mono B1.out.size)); have R2 := Lib.hid ((R1.out.keep hb2).mono hb2.size); clear hb2 R1)
      | (go_at_call 15; refine (HF.out _).mono ?_; rintro e w3 ⟨rfl, hb3⟩; have B3 := Lib.hid (B2.out.trans (hb3.mono B2.out.size)); have R3 := Lib.hid ((R2.out.keep hb3).mono hb3.size); clear hb3 R2)
      | (go_at_call 16; refine (HF2.out _).mono ?_; rintro e w4 ⟨rfl, hb4⟩; have B4 := Lib.hid (B3.out.trans (hb4.mono B3.out.size)); have R4 := Lib.hid ((R3.out.keep hb4).mono hb4.size); clear hb4 R3)
      | (go_at_call 17; refine (HL.out _).mono ?_; rintro e w5 ⟨v5, rfl, hown5, hb5⟩; have B5 := Lib.hid (B4.out.trans (hb5.mono B4.out.size)); have R5 := Lib.hid (R4.out.keep hb5); have B45 := Lib.hid hb5; clear hb5; obtain ⟨ad, cp, rfl⟩ := own_form hown5; have O5 := Lib.hid hown5; clear hown5)
      | (go_at_call 20; refine (same_yes _ _ _ _ ls _ (Rd.of_own O5.out) R5.out (by omega)).mono ?_; rintro e w6 ⟨rfl, n6, rfl⟩; have B6 := Lib.hid (below_drewN B5.out n6))
      | (go_at_call 18; refine (HN.out _).mono ?_; rintro e w7 ⟨rfl, hb7⟩; have B7 := Lib.hid (B6.out.trans (hb7.mono B6.out.size)); have O7 := Lib.hid (own_below (w := w5.drewN n6) O5.out hb7 (Nat.le_refl _)); have R7 := Lib.hid ((Rd.keep (w := w5.drewN n6) R5.out (hb7.mono B45.out.size))); have B47 := Lib.hid ((below_drewN B45.out n6).trans (hb7.mono B45.out.size)); clear hb7))
    go_loopw [7] (fun i wr => ∃ k : Nat, i = .int .i64 k ∧ k ≤ ls.length ∧ (∃ xs, wr.ownsRow w4.heap.size 9 1 (.slice ad ls.length cp) ls.length xs) ∧ Below w4.heap.size w4 wr) (fun i _ => ls.length - (intOf i).toNat)
    case atStart => exact ⟨0, rfl, Nat.zero_le _, ⟨_, O7.out⟩, B47.out⟩
    case round =>
      obtain ⟨k, rfl, hk, ⟨xs, hown⟩, hb⟩ := hrel
      have HO := Lib.hid hown
      have HB := Lib.hid hb
      have hbs := hb.size
      have b4s := B4.out.size
      clear hown hb
      by_cases hlt : k < ls.length
      · obtain ⟨g, rfl, hcap, _⟩ := own_at HO.out hlt
        have hxl : xs.length = ls.length := by have := HO.out.1; omega
        obtain ⟨u, hu⟩ : ∃ u, xs[k]? = some u := ⟨_, List.getElem?_eq_getElem (show k < xs.length by omega)⟩
        have hc : wr.cell? ⟨g, k, none⟩ = some u := by rw [HO.out.cellAt k (by omega)]; exact hu
        have hf := HO.out.frozenAt k
        have hgb := (HO.out.lt g rfl).1
        clear hxl hu
        go_wp2
        go_roundw
        case rel => exact ⟨k + 1, by go_num, by omega, ⟨_, (HO.out.stored k _).1⟩, HB.out.setCell hgb _⟩
        case measure => simp [intOf]; omega
      · have R8 := Lib.hid (R4.out.keep HB.out)
        have B8 := Lib.hid (B4.out.trans (HB.out.mono b4s))
        have HW2 := Lib.hid (fun (w9 : World) (hb : Below w.heap.size w w9) => HW.out w9 hb)
        go_wp2_with (first
          | (go_at_call 17; refine (HL.out _).mono ?_; rintro e w9 ⟨v9, rfl, hown9, hb9⟩; have B9 := Lib.hid (B8.out.trans (hb9.mono B8.out.size)); have R9 := Lib.hid (R8.out.keep (hb9.mono hbs)); clear hb9; obtain ⟨ad9, cp9, rfl⟩ := own_form hown9; have O9 := Lib.hid hown9; clear hown9)
          | (go_at_call 20; refine (same_yes _ _ _ _ ls _ (Rd.of_own O9.out) R9.out (by omega)).mono ?_; rintro e w10 ⟨rfl, n10, rfl⟩; have B10 := Lib.hid (below_drewN B9.out n10))
          | (go_at_call 19; refine (HW.out _ B10.out).mono ?_; rintro e w11 ⟨rfl, hb11⟩; have B11 := Lib.hid (B10.out.trans (hb11.mono B10.out.size)); clear hb11))
        go_ret
        exact ⟨rfl, B11.out⟩

namespace nameChecks
open Go.ChangeShapes Go.WideShapes Go.ChangeAt
open Go.ChangeMaps (open_string shut_string)
set_option maxRecDepth 100000 in
theorem contract (H : Type) (enc : TypeId × Value → H) (W : World) (base : Nat) (args : Array Value) (ds gs : List (DataW H)) (before : List MemPlace)
    (hval : ∀ (j : Nat) t v, Tryd.f3.params[j]? = some t → args[j]? = some v → Value.okWide Tryd.prog W .any base t v)
    (hW : DataW.Whole enc Tryd.prog Tryd.f3.params.toList Rows.nameChecksSpec.vars false W args.toList ds gs before)
    (hR : (DataW.weightsEach Tryd.prog (Tryd.f3.params.toList ++ (OpenSpec.ofChange Rows.nameChecksSpec).bare.plain.varTypes Tryd.prog) (ds ++ gs)).all (· ≤ reachBytes) = true)
    (hL : laidMetH Tryd.prog Rows.nameChecksRow.laid W) :
    Calls Tryd.prog 3 args W fun e W' => ∃ v, e = .returned v ∧ Rows.nameChecksSpec.post enc Tryd.prog Tryd.f3 false true false false W args v W' := by
  have hW' := hW
  obtain ⟨p, q, hA0, hV, rfl, hfz, hnd⟩ := hW
  have hA : DataW.TrodAll enc Tryd.prog W 0 (fun _ => true) true Tryd.f3.params.toList args.toList ds p := hA0
  rw [Tryd.params3] at hA hval hR
  obtain ⟨v0, vs0, d0, ds0, p0, q0, hargs0, rfl, rfl, h0, r0⟩ := trodAll_cons hA
  obtain ⟨rfl, rfl, rfl⟩ := trodAll_nil r0
  obtain rfl : args = #[v0] := by cases args; simp_all
  obtain ⟨rfl, rfl⟩ := trodVars_none hV
  obtain ⟨s, rfl, rfl, rfl, z0⟩ := open_string Tryd.underlying22 (hval 0 22 v0 rfl rfl) h0
  clear hA0
  simp only [List.append_nil] at hW'
  obtain ⟨s0', hR0⟩ := reach_string hR
  refine (walk_NameChecks s (by simpa using s0') W (laid_lay hL)).mono fun e W' ⟨he, hb⟩ => ?_
  subst he
  exact ⟨_, rfl, post_low hW' rfl hb (fun _ _ _ => trodAll_cons_mk (shut_bool Tryd.underlying4 _) trodAll_mk0) (fun _ _ => (trodAll_cons_mk (shut_string Tryd.underlying22 z0) trodAll_mk0)) (fun _ _ => rfl) (ok_one (by kernel_rfl) rfl (okWide_bool_mk Tryd.underlying4 _))⟩

noncomputable def wargs : Array Value := #[.string ByteArray.empty]
theorem reads (os : Os) {H : Type} (enc : TypeId × Value → H) : ∃ places, DataW.whole enc Tryd.prog ((lw os).forCall (fun _ _ => 0) ⟨#[], wargs, []⟩).memory Tryd.f3.params.toList Rows.nameChecksSpec.vars false wargs.toList 8 = some ([.lit (.string [])], [], places) :=
  ⟨[], by kernel_rfl⟩
set_option maxRecDepth 100000 in
theorem lifted (os : Os) (started : os.Started) (H : Type) (enc : TypeId × Value → H) (G : Stop.Interp) :
    ReturnsInHanded {} Tryd.checked os 3 .any ((OpenSpec.ofChange Rows.nameChecksSpec).preRow enc Tryd.prog Tryd.f3 Rows.nameChecksRow.domain false Rows.nameChecksRow.laid) (((OpenSpec.ofChange Rows.nameChecksSpec).at G).post enc Tryd.prog Tryd.f3 false true false false) := by
  obtain ⟨places, hx⟩ := reads os enc
  refine returnsInHanded_of_row (C := Tryd.checked) (s := OpenSpec.ofChange Rows.nameChecksSpec) own started (by kernel_rfl) Tryd.func3
    (witness_row_atRef (enc := enc) (C := Tryd.checked) false (lw os) wargs rfl (by kernel_rfl) (by kernel_rfl) (by kernel_rfl)
      (OpenSpec.preRow_of_cond 8 hx (by kernel_rfl) (fun k hk => by cases hk) (by kernel_rfl) (door_met os _))) ?_
  intro W base args ds gs before hval hW _ _ hR hL _ _
  exact contract H enc W base args ds gs before hval hW hR hL
theorem said : Rows.NameChecksSaid :=
  OpenClaim.holds_of_cond 3 Tryd.f3 rfl rfl rfl rfl rfl rfl rfl ⟨rfl, rfl, rfl, rfl, rfl⟩ rfl rfl rfl rfl rfl (by kernel_rfl) Tryd.func3 (by kernel_rfl)
    (of_decide_eq_true (by kernel_rfl)) (by unfold Func.isWrapper; first | (rw [if_pos (by decide +kernel)]; kernel_rfl) | (rw [if_neg (by decide +kernel)]; exact ⟨rfl, rfl⟩))
    (fun os started H enc _ G => by rw [OpenClaim.pre_eq_preRow]; exact lifted os started H enc G)
theorem plain (f : FuncId) (fn : Func) (hf : Tryd.pinned.checked.prog.funcNamed "hearsay/hearsaylaw01.NameChecks" = some f) (hfn : Tryd.pinned.checked.prog.funcs[f]? = some fn) :
    Tryd.pinned.checked.prog.looks [] = true ∧ ∀ (j : Nat) t, fn.params[j]? = some t → Tryd.pinned.checked.prog.wantsStandIn t = false := by
  obtain rfl : f = 3 := Option.some.inj ((show Tryd.prog.funcNamed "hearsay/hearsaylaw01.NameChecks" = some 3 by kernel_rfl).symm.trans hf) |>.symm
  obtain rfl : fn = Tryd.f3 := (Option.some.inj (Tryd.func3.symm.trans hfn)).symm
  refine ⟨by kernel_rfl, fun j t ht => ?_⟩
  rw [Tryd.params3] at ht
  have hm : t ∈ [22] := by simpa using Array.mem_of_getElem? ht
  have hall : ([22].all fun u => !Tryd.prog.wantsStandIn u) = true := by kernel_rfl
  exact (show Tryd.prog.wantsStandIn t = false by simpa using List.all_eq_true.1 hall t hm)
/-- THE STATEMENT. -/
theorem card : Rows.NameChecksCardSaid :=
  Claim7.holds_tied_plain_at .later [] _ _ _ _ said (fun _ h => by cases h) (by kernel_rfl) (fun _ h => by cases h) nameChecks_row_tie rfl ⟨rfl, rfl⟩ (by kernel_rfl) rfl (fun f fn hf hfn => by have h := plain f fn hf hfn; exact ⟨h.1.symm, h.2⟩) (by kernel_rfl)
end nameChecks

end Go.Proofs.YtjcdhmpcjpjnmaaDoor
