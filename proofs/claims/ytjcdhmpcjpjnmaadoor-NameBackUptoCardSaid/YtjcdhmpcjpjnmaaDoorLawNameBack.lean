/- NameBack: whatever bytes are handed in, the call returns true, and the arguments read behind it as before (where they are at most 1048576 letters together). -/
import Derived.Test.YtjcdhmpcjpjnmaaDoorFrame
import Derived.Test.YtjcdhmpcjpjnmaaDoorBackPure
namespace Go.Proofs.YtjcdhmpcjpjnmaaDoor
open Go.RowKit

set_option maxHeartbeats 1000000 in
set_option maxRecDepth 100000 in
theorem walk_NameBack (n : ByteArray) (hn : n.size ≤ 1048576) (o : ByteArray) (ho : o.size ≤ 1048576) (s : ByteArray) (hs : s.size ≤ 1048576) (q : Bool) (w : World) (hL : Lay w) :
    Calls Tryd.prog 10 #[.string n, .string o, .string s, .bool q] w fun e w' => e = .returned (.bool true) ∧ Below w.heap.size w w' := by
  have h3 := hL.size
  have HW := Lib.hid (fun (w1 : World) (hb : Below w.heap.size w w1) => wakes_any w1 (hL.below hb h3))
  have HE := Lib.hid (fun w => Escape_any s q w (by omega))
  have hel := Nm.esc_len q s.data.toList
  have hsz : s.data.toList.length = s.size := by simp
  have HB := Lib.hid (fun (w1 : World) (hb : Below w.heap.size w w1) => Bytes_yes (Nm.esc q s.data.toList) s.data.toList w1 (hL.below hb h3) (by omega) (Nm.unesc_esc q _))
  have hse : s = ⟨s.data.toList.toArray⟩ := string_eq rfl
  rw [← hse] at HB
  clear hel hsz hse
  rcases hsn : Nm.split n.data.toList with _ | ls
  · have K1 := Lib.hid (fun w => Check_no n w (by omega) hsn)
    clear hsn hL
    generalize Nm.esc q s.data.toList = es at *
    go_enter Tryd.func10, Tryd.ntmps10
    go_wp2_with (first
      | (go_at_call 14; refine (K1.out _).mono ?_; rintro e w1 ⟨rfl, hb1⟩; have B1 := Lib.hid hb1; clear hb1)
      | (go_at_call 37; refine (HE.out _).mono ?_; rintro e w2 ⟨rfl, hb2⟩; have B2 := Lib.hid (B1.out.trans (hb2.mono B1.out.size)); clear hb2)
      | (go_at_call 35; refine (HB.out _ B2.out).mono ?_; rintro e w3 ⟨rfl, hb3⟩; have B3 := Lib.hid (B2.out.trans (hb3.mono B2.out.size)); clear hb3)
      | (go_at_call 19; refine (HW.out _ B3.out).mono ?_; rintro e w4 ⟨rfl, hb4⟩; have B4 := Lib.hid (B3.out.trans (hb4.mono B3.out.size)); clear hb4))
    go_ret
    exact ⟨rfl, B4.out⟩
  · have K1 := Lib.hid (fun w => Check_yes n ls w (by omega) hsn)
    rcases hso : Nm.split o.data.toList with _ | os
    · have K2 := Lib.hid (fun w => Check_no o w (by omega) hso)
      clear hsn hso hL
      generalize Nm.esc q s.data.toList = es at *
      go_enter Tryd.func10, Tryd.ntmps10
      go_wp2_with (first
        | (go_at_call_of 14 (Value.string n); refine (K1.out _).mono ?_; rintro e w1 ⟨rfl, hb1⟩; have B1 := Lib.hid hb1; clear hb1)
        | (go_at_call_of 14 (Value.string o); refine (K2.out _).mono ?_; rintro e w5 ⟨rfl, hb5⟩; have B5 := Lib.hid (B1.out.trans (hb5.mono B1.out.size)); clear hb5)
        | (go_at_call 37; refine (HE.out _).mono ?_; rintro e w2 ⟨rfl, hb2⟩; have B2 := Lib.hid (B5.out.trans (hb2.mono B5.out.size)); clear hb2)
        | (go_at_call 35; refine (HB.out _ B2.out).mono ?_; rintro e w3 ⟨rfl, hb3⟩; have B3 := Lib.hid (B2.out.trans (hb3.mono B2.out.size)); clear hb3)
        | (go_at_call 19; refine (HW.out _ B3.out).mono ?_; rintro e w4 ⟨rfl, hb4⟩; have B4 := Lib.hid (B3.out.trans (hb4.mono B3.out.size)); clear hb4))
      go_ret
      exact ⟨rfl, B4.out⟩
    · have K2 := Lib.hid (fun w => Check_yes o os w (by omega) hso)
      have HT := Lib.hid (fun w => Text_any n w (by omega))
      have hpt := Nm.parse_text hsn hso
      have htl : (Nm.text n.data.toList).length ≤ 140737488355328 := by
        by_cases hr : n.data.toList = [0]
        · rw [hr, text_root]; decide
        · rw [text_of _ hr]
          obtain ⟨g, h127⟩ := labelsOf_good n.data.toList
          have := textL_len _ g
          omega
      have HP := Lib.hid (fun (w1 : World) (hb : Below w.heap.size w w1) => Parse_any ⟨(Nm.text n.data.toList).toArray⟩ o w1 (hL.below hb h3) (by rw [mk_size]; exact htl) (by omega))
      have e0 : (⟨(Nm.text n.data.toList).toArray⟩ : ByteArray).data.toList = Nm.text n.data.toList := by simp
      have e1 : parseR (Nm.text n.data.toList) o.data.toList = .tuple #[.string n, .int .i64 0] := by
        unfold parseR; rw [hpt]; rw [show sv n.data.toList = .string n by rw [sv, ← string_eq (s := n) rfl]]; rfl
      rw [e0, e1] at HP
      clear hsn hso hL hpt htl e0 e1
      generalize Nm.esc q s.data.toList = es at *
      generalize Nm.text n.data.toList = tx at *
      go_enter Tryd.func10, Tryd.ntmps10
      go_wp2_with (first
        | (go_at_call_of 14 (Value.string n); refine (K1.out _).mono ?_; rintro e w1 ⟨rfl, hb1⟩; have B1 := Lib.hid hb1; clear hb1)
        | (go_at_call_of 14 (Value.string o); refine (K2.out _).mono ?_; rintro e w5 ⟨rfl, hb5⟩; have B5 := Lib.hid (B1.out.trans (hb5.mono B1.out.size)); clear hb5)
        | (go_at_call 41; refine (HT.out _).mono ?_; rintro e w6 ⟨rfl, hb6⟩; have B6 := Lib.hid (B5.out.trans (hb6.mono B5.out.size)); clear hb6)
        | (go_at_call 39; refine (HP.out _ B6.out).mono ?_; rintro e w7 ⟨rfl, hb7⟩; have B7 := Lib.hid (B6.out.trans (hb7.mono B6.out.size)); clear hb7)
        | (go_at_call 37; refine (HE.out _).mono ?_; rintro e w2 ⟨rfl, hb2⟩; have B2 := Lib.hid (B7.out.trans (hb2.mono B7.out.size)); clear hb2)
        | (go_at_call 35; refine (HB.out _ B2.out).mono ?_; rintro e w3 ⟨rfl, hb3⟩; have B3 := Lib.hid (B2.out.trans (hb3.mono B2.out.size)); clear hb3)
        | (go_at_call 19; refine (HW.out _ B3.out).mono ?_; rintro e w4 ⟨rfl, hb4⟩; have B4 := Lib.hid (B3.out.trans (hb4.mono B3.out.size)); clear hb4))
      go_ret
      exact ⟨rfl, B4.out⟩

namespace nameBack
open Go.ChangeShapes Go.WideShapes Go.ChangeAt
open Go.ChangeMaps (open_string shut_string)
set_option maxRecDepth 100000 in
theorem contract (H : Type) (enc : TypeId × Value → H) (W : World) (base : Nat) (args : Array Value) (ds gs : List (DataW H)) (before : List MemPlace)
    (hval : ∀ (j : Nat) t v, Tryd.f10.params[j]? = some t → args[j]? = some v → Value.okWide Tryd.prog W .any base t v)
    (hW : DataW.Whole enc Tryd.prog Tryd.f10.params.toList Rows.nameBackSpec.vars false W args.toList ds gs before)
    (hK : Rows.uptoSmall H (ds ++ gs) = true)
    (hL : laidMetH Tryd.prog Rows.nameBackRow.laid W) :
    Calls Tryd.prog 10 args W fun e W' => ∃ v, e = .returned v ∧ Rows.nameBackSpec.post enc Tryd.prog Tryd.f10 false true false false W args v W' := by
  have hW' := hW
  obtain ⟨p, q, hA0, hV, rfl, hfz, hnd⟩ := hW
  have hA : DataW.TrodAll enc Tryd.prog W 0 (fun _ => true) true Tryd.f10.params.toList args.toList ds p := hA0
  rw [Tryd.params10] at hA hval
  obtain ⟨v0, vs0, d0, ds0, p0, q0, hargs0, rfl, rfl, h0, r0⟩ := trodAll_cons hA
  obtain ⟨v1, vs1, d1, ds1, p1, q1, hargs1, rfl, rfl, h1, r1⟩ := trodAll_cons r0
  obtain ⟨v2, vs2, d2, ds2, p2, q2, hargs2, rfl, rfl, h2, r2⟩ := trodAll_cons r1
  obtain ⟨v3, vs3, d3, ds3, p3, q3, hargs3, rfl, rfl, h3, r3⟩ := trodAll_cons r2
  obtain ⟨rfl, rfl, rfl⟩ := trodAll_nil r3
  obtain rfl : args = #[v0, v1, v2, v3] := by cases args; simp_all
  obtain ⟨rfl, rfl⟩ := trodVars_none hV
  obtain ⟨n, rfl, rfl, rfl, z0⟩ := open_string Tryd.underlying22 (hval 0 22 v0 rfl rfl) h0
  obtain ⟨o, rfl, rfl, rfl, z1⟩ := open_string Tryd.underlying22 (hval 1 22 v1 rfl rfl) h1
  obtain ⟨s, rfl, rfl, rfl, z2⟩ := open_string Tryd.underlying9 (hval 2 9 v2 rfl rfl) h2
  obtain ⟨q, rfl, rfl, rfl⟩ := open_bool Tryd.underlying4 (hval 3 4 v3 rfl rfl) h3
  clear hA0
  simp only [List.append_nil] at hW'
  have hB := of_decide_eq_true hK
  simp only [List.append_nil, Rows.uptoBulkAll, Rows.uptoBulk] at hB
  refine (walk_NameBack n (by simp at hB; omega) o (by simp at hB; omega) s (by simp at hB; omega) q W (laid_lay hL)).mono fun e W' ⟨he, hb⟩ => ?_
  subst he
  exact ⟨_, rfl, post_low hW' rfl hb (fun _ _ _ => trodAll_cons_mk (shut_bool Tryd.underlying4 _) trodAll_mk0) (fun _ _ => (trodAll_cons_mk (shut_string Tryd.underlying22 z0) (trodAll_cons_mk (shut_string Tryd.underlying22 z1) (trodAll_cons_mk (shut_string Tryd.underlying9 z2) (trodAll_cons_mk (shut_bool Tryd.underlying4 _) trodAll_mk0))))) (fun _ _ => rfl) (ok_one (by kernel_rfl) rfl (okWide_bool_mk Tryd.underlying4 _))⟩

noncomputable def wargs : Array Value := #[.string ByteArray.empty, .string ByteArray.empty, .string ByteArray.empty, .bool false]
theorem reads (os : Os) {H : Type} (enc : TypeId × Value → H) : ∃ places, DataW.whole enc Tryd.prog ((lw os).forCall (fun _ _ => 0) ⟨#[], wargs, []⟩).memory Tryd.f10.params.toList Rows.nameBackSpec.vars false wargs.toList 8 = some ([.lit (.string []), .lit (.string []), .lit (.string []), .lit (.bool false)], [], places) :=
  ⟨[], by kernel_rfl⟩
set_option maxRecDepth 100000 in
theorem lifted (os : Os) (started : os.Started) (H : Type) (enc : TypeId × Value → H) (G : Stop.Interp) :
    ReturnsInHanded {} Tryd.checked os 10 .any ((Rows.OpenSpec.upto Rows.nameBackSpec).preRow enc Tryd.prog Tryd.f10 Rows.nameBackUptoRow.domain false Rows.nameBackUptoRow.laid) (((Rows.OpenSpec.upto Rows.nameBackSpec).at G).post enc Tryd.prog Tryd.f10 false true false false) := by
  obtain ⟨places, hx⟩ := reads os enc
  refine returnsInHanded_of_row (C := Tryd.checked) (s := Rows.OpenSpec.upto Rows.nameBackSpec) own started (by kernel_rfl) Tryd.func10
    (witness_row_atRef (enc := enc) (C := Tryd.checked) false (lw os) wargs rfl (by kernel_rfl) (by kernel_rfl) (by kernel_rfl)
      (OpenSpec.preRow_of_cond 8 hx (by kernel_rfl) (fun k hk => by cases hk; kernel_rfl) (by kernel_rfl) (door_met os _))) ?_
  intro W base args ds gs before hval hW _ hk _ hL _ _
  exact contract H enc W base args ds gs before hval hW (hk _ rfl) hL
theorem said : Rows.NameBackUptoSaid :=
  OpenClaim.holds_of_cond 10 Tryd.f10 rfl rfl rfl rfl rfl rfl rfl ⟨rfl, rfl, rfl, rfl, rfl⟩ rfl rfl rfl rfl rfl (by kernel_rfl) Tryd.func10 (by kernel_rfl)
    (of_decide_eq_true (by kernel_rfl)) (by unfold Func.isWrapper; first | (rw [if_pos (by decide +kernel)]; kernel_rfl) | (rw [if_neg (by decide +kernel)]; exact ⟨rfl, rfl⟩))
    (fun os started H enc _ G => by rw [OpenClaim.pre_eq_preRow]; exact lifted os started H enc G)
theorem plain (f : FuncId) (fn : Func) (hf : Tryd.pinned.checked.prog.funcNamed "hearsay/hearsaylaw01.NameBack" = some f) (hfn : Tryd.pinned.checked.prog.funcs[f]? = some fn) :
    Tryd.pinned.checked.prog.looks [] = true ∧ ∀ (j : Nat) t, fn.params[j]? = some t → Tryd.pinned.checked.prog.wantsStandIn t = false := by
  obtain rfl : f = 10 := Option.some.inj ((show Tryd.prog.funcNamed "hearsay/hearsaylaw01.NameBack" = some 10 by kernel_rfl).symm.trans hf) |>.symm
  obtain rfl : fn = Tryd.f10 := (Option.some.inj (Tryd.func10.symm.trans hfn)).symm
  refine ⟨by kernel_rfl, fun j t ht => ?_⟩
  rw [Tryd.params10] at ht
  have hm : t ∈ [22, 9, 4] := by simpa using Array.mem_of_getElem? ht
  have hall : ([22, 9, 4].all fun u => !Tryd.prog.wantsStandIn u) = true := by kernel_rfl
  exact (show Tryd.prog.wantsStandIn t = false by simpa using List.all_eq_true.1 hall t hm)
/-- THE STATEMENT. -/
theorem card : Rows.NameBackUptoCardSaid :=
  Claim7.holds_tied_plain_at .later [] _ _ _ _ said (fun _ h => by cases h) (by kernel_rfl) (fun _ h => by cases h) nameBackUpto_row_tie rfl ⟨rfl, rfl⟩ (by kernel_rfl) rfl (fun f fn hf hfn => by have h := plain f fn hf hfn; exact ⟨h.1.symm, h.2⟩) (by kernel_rfl)
end nameBack
end Go.Proofs.YtjcdhmpcjpjnmaaDoor
