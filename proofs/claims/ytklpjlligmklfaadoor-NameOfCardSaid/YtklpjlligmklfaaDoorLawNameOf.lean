/- NameOf: whatever labels are handed in, the call returns true, and the arguments read behind it as before. -/
import Derived.Test.YtklpjlligmklfaaDoorRefs2
import Derived.Test.YtklpjlligmklfaaDoorDoor
namespace Go.Proofs.YtklpjlligmklfaaDoor
open Go.RowKit

set_option maxHeartbeats 2000000 in
set_option maxRecDepth 100000 in
theorem walk_NameOf (w : World) (hL : Lay w) (A : Option Addr) (ls : List (List UInt8)) (c : Nat) (hc : ls.length ≤ c) (hnil : A = none → c = 0) (hr : Ss w w.heap.size A ls) (hm : c * 16 ≤ 140737488351232 ∧ ∀ l ∈ ls, l.length ≤ 140737488351232) :
    Calls Tryd.prog 3 #[.slice A ls.length c] w fun e w' => e = .returned (.bool true) ∧ Below w.heap.size w w' := by
  obtain ⟨i0, hi, hz0, hz1, hz2⟩ := info_parts Tryd.infoString
  have h3 := hL.size
  have hm1 := hm.1
  have HM : Hid (∀ l ∈ ls, l.length ≤ 140737488355328) := fun l hl => by have := hm.2 l hl; omega
  have HRD := Lib.hid (hr.rd hc)
  have HN : Hid (ls = [] → ∃ A' c', Value.slice A ls.length c = .slice A' 0 c' ∧ (A' = none → c' = 0)) := by
    rintro rfl
    exact ⟨A, c, rfl, hnil⟩
  have HW := Lib.hid (fun (w1 : World) (hb : Below w.heap.size w w1) => wakes_any w1 (hL.below hb h3))
  have HO := Lib.hid (fun (W : World) (v : Value) (hr : Rd W W.heap.size v ls) => Of_any W v ls hr (by omega) HM.out)
  have HR := Lib.hid (fun (W : World) (B : Nat) (v : Value) (hr : Rd W B v ls) (hB : B ≤ W.heap.size) => refOf_any B v ls W hr hB (by omega) HM.out)
  clear hr hnil hm hL
  by_cases hok : ls.any badL = false ∧ ¬ 255 < (Nm.body ls).length + 1
  · have hg := good_of_any hok.1
    have hlen : (Nm.glue ls).length ≤ 255 := by rw [Nm.glue_length]; have := hok.2; omega
    have hs := Nm.split_glue hg hlen
    rw [ofR_ok hok.1, nameR_short hok.2] at HO HR
    obtain ⟨n, hn1, hn2, hn3⟩ : ∃ n : ByteArray, sv (Nm.glue ls) = .string n ∧ n.size = (Nm.glue ls).length ∧ n.data.toList = Nm.glue ls := ⟨⟨(Nm.glue ls).toArray⟩, rfl, rfl, rfl⟩
    rw [hn1] at HO HR
    rw [← hn3] at hs
    have HC := Lib.hid (fun w => Check_yes n ls w (by omega) hs)
    have HLb := Lib.hid (fun w => Labels_any n w (by omega))
    have hlo : labelsOf n.data.toList = ls := by unfold labelsOf; rw [hs]; rfl
    rw [hlo] at HLb
    clear hok hg hlen hs hlo hn1 hn2 hn3
    go_enter Tryd.func3, Tryd.ntmps3
    go_wp2_with (first
      | (at_builtin; refine wpList_append_rd rfl _ (.tmp 8) _ rfl w.heap.size 9 i0 _ Tryd.underlying22 hi hz0 hz1 hz2 rfl _ 0 [] rfl (World.ownsRow_nil _ _ _ _) w.heap.size _ ls rfl HRD.out HN.out (by omega) (Nat.le_refl _) ?_; intro v0 w0 O0' hg0; have B0 := Lib.hid (below_self hg0 (Nat.le_refl _) (fun k hk => absurd (show (none : Option Nat) = some k from hk) (by simp))); have O0 := own_to O0' (Nat.zero_add _) (List.nil_append _); clear O0' hg0; have R0 := Lib.hid (Rd.of_own O0); clear O0)
      | (go_at_call 4; refine (HO.out _ _ R0.out).mono ?_; rintro e w1 ⟨rfl, hb1⟩; have B1 := Lib.hid (B0.out.trans (hb1.mono B0.out.size)); clear hb1)
      | (go_at_call 5; refine (HR.out _ w.heap.size _ (HRD.out.keep B1.out) B1.out.size).mono ?_; rintro e w2 ⟨rfl, hb2⟩; have B2 := Lib.hid (B1.out.trans (hb2.mono B1.out.size)); clear hb2)
      | (go_at_call 6; refine (HC.out _).mono ?_; rintro e w3 ⟨rfl, hb3⟩; have B3 := Lib.hid (B2.out.trans (hb3.mono B2.out.size)); clear hb3)
      | (go_at_call 8; refine (HLb.out _).mono ?_; rintro e w4 ⟨v4, rfl, O4, hb4⟩; have B4 := Lib.hid (B3.out.trans (hb4.mono B3.out.size)); have R4 := Lib.hid (Rd.of_own O4); clear hb4 O4)
      | (go_at_call 7; refine (same_yes _ _ _ _ ls _ R4.out (HRD.out.keep B4.out) (by omega)).mono ?_; rintro e w5 ⟨rfl, n5, rfl⟩; have B5 := Lib.hid (below_drewN B4.out n5))
      | (go_at_call 9; refine (HW.out _ B5.out).mono ?_; rintro e w6 ⟨rfl, hb6⟩; have B6 := Lib.hid (B5.out.trans (hb6.mono B5.out.size)); clear hb6))
    go_ret
    exact ⟨rfl, B6.out⟩
  · obtain ⟨e0, he0, he1⟩ : ∃ e0 : Int, ofR ls = .tuple #[.string ⟨#[]⟩, .int .i64 e0] ∧ (e0 != 0) = true := by
      unfold ofR
      by_cases h : ls.any badL = true
      · rw [if_pos h]; exact ⟨10, rfl, by decide⟩
      · rw [if_neg h]
        have h' : ls.any badL = false := by simpa using h
        have h2 : 255 < (Nm.body ls).length + 1 := by
          by_cases h2 : 255 < (Nm.body ls).length + 1
          · exact h2
          · exact absurd ⟨h', h2⟩ hok
        rw [nameR_long h2]
        exact ⟨2, rfl, by decide⟩
    rw [he0] at HO HR
    clear hok he0
    go_enter Tryd.func3, Tryd.ntmps3
    go_wp2_with (first
      | (at_builtin; refine wpList_append_rd rfl _ (.tmp 8) _ rfl w.heap.size 9 i0 _ Tryd.underlying22 hi hz0 hz1 hz2 rfl _ 0 [] rfl (World.ownsRow_nil _ _ _ _) w.heap.size _ ls rfl HRD.out HN.out (by omega) (Nat.le_refl _) ?_; intro v0 w0 O0' hg0; have B0 := Lib.hid (below_self hg0 (Nat.le_refl _) (fun k hk => absurd (show (none : Option Nat) = some k from hk) (by simp))); have O0 := own_to O0' (Nat.zero_add _) (List.nil_append _); clear O0' hg0; have R0 := Lib.hid (Rd.of_own O0); clear O0)
      | (go_at_call 4; refine (HO.out _ _ R0.out).mono ?_; rintro e w1 ⟨rfl, hb1⟩; have B1 := Lib.hid (B0.out.trans (hb1.mono B0.out.size)); clear hb1)
      | (go_at_call 5; refine (HR.out _ w.heap.size _ (HRD.out.keep B1.out) B1.out.size).mono ?_; rintro e w2 ⟨rfl, hb2⟩; have B2 := Lib.hid (B1.out.trans (hb2.mono B1.out.size)); clear hb2)
      | (go_at_call 9; refine (HW.out _ B2.out).mono ?_; rintro e w6 ⟨rfl, hb6⟩; have B6 := Lib.hid (B2.out.trans (hb6.mono B2.out.size)); clear hb6))
    go_ret
    exact ⟨rfl, B6.out⟩

namespace nameOf
open Go.ChangeShapes Go.WideShapes Go.ChangeAt
open Go.ChangeMaps (open_string shut_string)
theorem laid_lay {W : World} (h : laidMetH Tryd.prog Rows.nameOfRow.laid W) : Lay W := by
  rw [MakeChecks.laidMetH_plain _ _ _ (by kernel_rfl)] at h
  have h3 := h.tail.tail.tail
  obtain ⟨a, _, hv, _⟩ := laid_sentinel (g := 1) (ti := 66) (tp := 82) (te := 84) (ts := 9) h3 (by kernel_rfl) (by kernel_rfl) Tryd.underlying66 rowErr Tryd.underlying82 Tryd.underlying84 rfl rfl Tryd.underlying9 (by kernel_rfl) (by kernel_rfl)
  obtain ⟨b, _, hw, _⟩ := laid_sentinel (g := 0) (ti := 66) (tp := 82) (te := 84) (ts := 9) h3.tail (by kernel_rfl) (by kernel_rfl) Tryd.underlying66 rowErr Tryd.underlying82 Tryd.underlying84 rfl rfl Tryd.underlying9 (by kernel_rfl) (by kernel_rfl)
  refine ⟨⟨82, .pointer (some b), ?_⟩, 82, .pointer (some a), ?_⟩
  · have := World.var?_cell (P := Tryd.prog) (g := 0) (by kernel_rfl) hw 0
    simpa using this
  · have := World.var?_cell (P := Tryd.prog) (g := 1) (by kernel_rfl) hv 0
    simpa using this
set_option maxRecDepth 100000 in
theorem contract (H : Type) (enc : TypeId × Value → H) (W : World) (base : Nat) (args : Array Value) (ds gs : List (DataW H)) (before : List MemPlace)
    (hval : ∀ (j : Nat) t v, Tryd.f3.params[j]? = some t → args[j]? = some v → Value.okWide Tryd.prog W .any base t v)
    (hW : DataW.Whole enc Tryd.prog Tryd.f3.params.toList Rows.nameOfSpec.vars false W args.toList ds gs before)
    (hR : (DataW.weightsEach Tryd.prog (Tryd.f3.params.toList ++ (OpenSpec.ofChange Rows.nameOfSpec).bare.plain.varTypes Tryd.prog) (ds ++ gs)).all (· ≤ reachBytes) = true)
    (hL : laidMetH Tryd.prog Rows.nameOfRow.laid W) :
    Calls Tryd.prog 3 args W fun e W' => ∃ v, e = .returned v ∧ Rows.nameOfSpec.post enc Tryd.prog Tryd.f3 false true false false W args v W' := by
  have hW' := hW
  obtain ⟨p, q, hA0, hV, rfl, hfz, hnd⟩ := hW
  have hA : DataW.TrodAll enc Tryd.prog W 0 (fun _ => true) true Tryd.f3.params.toList args.toList ds p := hA0
  have HS := trodAll_stays (W' := W) (sp := fun _ => true) out (by kernel_rfl) hA
  have HA := Lib.hid hA
  rw [Tryd.params3] at hA hval hR
  obtain ⟨v0, vs0, d0, ds0, p0, q0, hargs0, rfl, rfl, h0, r0⟩ := trodAll_cons hA
  obtain ⟨rfl, rfl, rfl⟩ := trodAll_nil r0
  obtain rfl : args = #[v0] := by cases args; simp_all
  obtain ⟨rfl, rfl⟩ := trodVars_none hV
  obtain ⟨A0, ls, c0, rfl, hc0, hn0, hb0, hm0⟩ := open_strs Tryd.underlying22 Tryd.underlying9 (by kernel_rfl) (by kernel_rfl) (hval 0 22 v0 rfl rfl) h0
  clear hA0 HS
  obtain ⟨k0, s0⟩ := reach_cons hR
  refine (walk_NameOf W (laid_lay hL) A0 ls c0 hc0 hn0 hb0 (hm0 k0)).mono fun e W' ⟨he, hb⟩ => ?_
  subst he
  have hlt := hW'.lt
  refine ⟨_, rfl, post_low hW' (pa := _) (pv := []) rfl hb (fun _ _ _ => trodAll_cons_mk (shut_bool Tryd.underlying4 _) trodAll_mk0) (fun sp hsp => ?_) (fun _ _ => rfl) (ok_one (by kernel_rfl) rfl (okWide_bool_mk Tryd.underlying4 _))⟩
  exact trodAll_stays out (by kernel_rfl) HA.out (fun x hx => hb.same (hlt x (List.mem_append_left _ hx))) (fun x hx => hsp x (List.mem_append_left _ hx))

noncomputable def wargs : Array Value := #[.slice none 0 0]
noncomputable def lw (os : Os) : World := World.doorLaid Tryd.prog 400 os
theorem door_met (os : Os) (args : Array Value) : laidMetH Tryd.prog Rows.nameOfRow.laid ((lw os).forCall (fun _ _ => 0) ⟨#[], args, []⟩).memory :=
  laidMetH_of_parts3 (fuel := 8) (laidMet_of_run' 8 (by kernel_rfl) (by kernel_rfl)) (by kernel_rfl) (by kernel_rfl)
theorem reads (os : Os) {H : Type} (enc : TypeId × Value → H) : ∃ places, DataW.whole enc Tryd.prog ((lw os).forCall (fun _ _ => 0) ⟨#[], wargs, []⟩).memory Tryd.f3.params.toList Rows.nameOfSpec.vars false wargs.toList 8 = some ([.nil], [], places) :=
  ⟨[], by kernel_rfl⟩
set_option maxRecDepth 100000 in
theorem lifted (os : Os) (started : os.Started) (H : Type) (enc : TypeId × Value → H) (G : Stop.Interp) :
    ReturnsInHanded {} Tryd.checked os 3 .any ((OpenSpec.ofChange Rows.nameOfSpec).preRow enc Tryd.prog Tryd.f3 Rows.nameOfRow.domain false Rows.nameOfRow.laid) (((OpenSpec.ofChange Rows.nameOfSpec).at G).post enc Tryd.prog Tryd.f3 false true false false) := by
  obtain ⟨places, hx⟩ := reads os enc
  refine returnsInHanded_of_row (C := Tryd.checked) (s := OpenSpec.ofChange Rows.nameOfSpec) own started (by kernel_rfl) Tryd.func3
    (witness_row_atRef (enc := enc) (C := Tryd.checked) false (lw os) wargs rfl (by kernel_rfl) (by kernel_rfl) (by kernel_rfl)
      (OpenSpec.preRow_of_cond 8 hx (by kernel_rfl) (fun k hk => by cases hk) (by kernel_rfl) (door_met os _))) ?_
  intro W base args ds gs before hval hW _ _ hR hL _ _
  exact contract H enc W base args ds gs before hval hW hR hL
/-- THE STATEMENT. -/
theorem said : Rows.NameOfSaid :=
  OpenClaim.holds_of_cond 3 Tryd.f3 rfl rfl rfl rfl rfl rfl rfl ⟨rfl, rfl, rfl, rfl, rfl⟩ rfl rfl rfl rfl rfl (by kernel_rfl) Tryd.func3 (by kernel_rfl)
    (of_decide_eq_true (by kernel_rfl)) (by unfold Func.isWrapper; first | (rw [if_pos (by decide +kernel)]; kernel_rfl) | (rw [if_neg (by decide +kernel)]; exact ⟨rfl, rfl⟩))
    (fun os started H enc _ G => by rw [OpenClaim.pre_eq_preRow]; exact lifted os started H enc G)
theorem plain (f : FuncId) (fn : Func) (hf : Tryd.pinned.checked.prog.funcNamed "hearsay/hearsaylaw01.NameOf" = some f) (hfn : Tryd.pinned.checked.prog.funcs[f]? = some fn) :
    Tryd.pinned.checked.prog.looks [] = true ∧ ∀ (j : Nat) t, fn.params[j]? = some t → Tryd.pinned.checked.prog.wantsStandIn t = false := by
  obtain rfl : f = 3 := Option.some.inj ((show Tryd.prog.funcNamed "hearsay/hearsaylaw01.NameOf" = some 3 by kernel_rfl).symm.trans hf) |>.symm
  obtain rfl : fn = Tryd.f3 := (Option.some.inj (Tryd.func3.symm.trans hfn)).symm
  refine ⟨by kernel_rfl, fun j t ht => ?_⟩
  rw [Tryd.params3] at ht
  have hm : t ∈ [22] := by simpa using Array.mem_of_getElem? ht
  have hall : ([22].all fun u => !Tryd.prog.wantsStandIn u) = true := by kernel_rfl
  exact (show Tryd.prog.wantsStandIn t = false by simpa using List.all_eq_true.1 hall t hm)
/-- THE STATEMENT. -/
theorem card : Rows.NameOfCardSaid :=
  Claim7.holds_tied_plain_at .later [] _ _ _ _ said (fun _ h => by cases h) (by kernel_rfl) (fun _ h => by cases h) nameOf_row_tie rfl ⟨rfl, rfl⟩ (by kernel_rfl) rfl (fun f fn hf hfn => by have h := plain f fn hf hfn; exact ⟨h.1.symm, h.2⟩) (by kernel_rfl)
end nameOf
end Go.Proofs.YtklpjlligmklfaaDoor
