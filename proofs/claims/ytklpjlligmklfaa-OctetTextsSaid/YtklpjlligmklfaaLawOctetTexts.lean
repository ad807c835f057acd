/- OctetTexts: whatever bytes, text and place are handed in, the call returns true, and the arguments read behind it as before. -/
import Derived.Test.YtklpjlligmklfaaOctWakes
import Derived.Test.YtklpjlligmklfaaShut
namespace Go.Proofs.Ytklpjlligmklfaa
open Go.RowKit

set_option maxHeartbeats 2000000 in
set_option maxRecDepth 100000 in
theorem walk_OctetTexts (w : World) (A : Option Addr) (l : List UInt8) (c : Nat) (hc : l.length ≤ c) (hnil : A = none → c = 0) (hr : Bs w 0 w.heap.size A l) (hm : c ≤ 140737488351232) (s : ByteArray) (hs : s.size ≤ 140737488351232) (n : Int) (_hn : (Lit.int .i64 n).wf = true) :
    Calls Try.prog 5 #[.slice A l.length c, .string s, .int .i64 n] w fun e w' => e = .returned (.bool true) ∧ Below w.heap.size w w' := by
  obtain ⟨i0, hi, hz0, hz1, hz2⟩ := info_parts Try.infoByte
  obtain ⟨a1, b1, c1, e1⟩ := takeTextV_form l n
  have HA := Lib.hid hr
  have HN := Lib.hid hnil
  have HT := Lib.hid (fun (W : World) (hb : Below w.heap.size w W) => takeText A l c n W hc (by omega) 0 w.heap.size (hr.keep hb))
  have HU := Lib.hid (fun (W : World) (hb : Below w.heap.size w W) => refTakeText A l c n W hc (by omega) 0 w.heap.size (hr.keep hb))
  rw [e1] at HT HU
  clear e1 hr hnil _hn
  by_cases hl : 255 < s.size
  · have HP := Lib.hid (fun A n c w => putText_long A n c s w hl (by omega))
    have HQ := Lib.hid (fun A n c w => refPutText_long A n c s w hl (by omega))
    clear hl
    go_enter Try.func5, Try.ntmps5
    go_wp2_with (first
      | (at_builtin; refine wpList_append_bs rfl _ (.tmp 18) _ rfl w.heap.size _ i0 _ Try.underlying22 hi hz0 hz1 hz2 rfl _ 0 [] rfl (World.ownsRow_nil _ _ _ _) 0 w.heap.size A c l rfl HA.out HN.out (by omega) (Nat.le_refl _) ?_; intro v0 w0 O0' hg0; have B0 := Lib.hid (below_self hg0 (Nat.le_refl _) (fun k hk => absurd (show (none : Option Nat) = some k from hk) (by simp))); have O0 := own_to O0' (Nat.zero_add _) (List.nil_append _); clear O0' hg0; obtain ⟨A0, c0, rfl⟩ := own_form O0; clear O0)
      | (go_at_call 18; refine (HP.out _ _ _ _).mono ?_; rintro e w' ⟨rfl, rfl⟩)
      | (go_at_call 19; refine (HQ.out _ _ _ _).mono ?_; rintro e w' ⟨rfl, rfl⟩)
      | (go_at_call 20; refine (HT.out _ B0.out).mono ?_; rintro e w' ⟨rfl, rfl⟩)
      | (go_at_call 21; refine (HU.out _ B0.out).mono ?_; rintro e w' ⟨rfl, rfl⟩)
      | (refine wpList_convert_bs rfl 22 9 (.tmp 44) rfl 5 Try.underlying22 Try.underlying5 Try.underlying9 0 0 none 0 0 [] rfl rfl Bs.nil ?_)
      | (refine wpList_convert_bs rfl 22 9 (.tmp 46) rfl 5 Try.underlying22 Try.underlying5 Try.underlying9 0 0 none 0 0 [] rfl rfl Bs.nil ?_)
      | (go_at_call 13; refine (octWakes _).mono ?_; rintro e w' ⟨rfl, hw⟩; have HW := Lib.hid (B0.out.trans (hw.mono B0.out.size)); clear hw))
    go_ret
    exact ⟨rfl, HW.out⟩
  · have HP := Lib.hid (fun A c w h1 lo h3 => putText_ok A l c s w h1 (by omega) (by omega) lo h3)
    have HQ := Lib.hid (fun A c w h1 lo h3 => refPutText_ok A l c s w h1 (by omega) (by omega) lo h3)
    have hsz : Hid ((l ++ Oc.beb 1 s.size ++ s.data.toList).length = l.length + 1 + s.size) := by show _ = _; rw [List.length_append, List.length_append, Oc.beb_length]; simp
    generalize l ++ Oc.beb 1 s.size ++ s.data.toList = x at *
    go_enter Try.func5, Try.ntmps5
    go_wp2_with (first
      | (at_builtin; refine wpList_append_bs rfl _ (.tmp 18) _ rfl w.heap.size _ i0 _ Try.underlying22 hi hz0 hz1 hz2 rfl _ 0 [] rfl (World.ownsRow_nil _ _ _ _) 0 w.heap.size A c l rfl HA.out HN.out (by omega) (Nat.le_refl _) ?_; intro v0 w0 O0' hg0; have B0 := Lib.hid (below_self hg0 (Nat.le_refl _) (fun k hk => absurd (show (none : Option Nat) = some k from hk) (by simp))); have O0 := own_to O0' (Nat.zero_add _) (List.nil_append _); clear O0' hg0; obtain ⟨A0, c0, rfl⟩ := own_form O0; have R0 := Lib.hid (Bs.of_own O0); have L0 := Lib.hid (own_le O0); clear O0)
      | (go_at_call 18; refine (HP.out _ _ _ L0.out _ R0.out).mono ?_; rintro e w1 ⟨g1, cp1, rfl, O1, b1'⟩; have B1 := Lib.hid (B0.out.trans (b1'.mono B0.out.size)); have X1 := Lib.hid (Bs.of_own O1); clear O1 b1')
      | (go_at_call 19; refine (HQ.out _ _ _ HN.out 0 ((HA.out.keep B1.out).more (Nat.le_refl _) B1.out.size)).mono ?_; rintro e w2 ⟨g2, cp2, rfl, X2', b2'⟩; have B2 := Lib.hid (B1.out.trans (b2'.mono B1.out.size)); have X1b := Lib.hid (X1.out.keep b2'); have X2 := Lib.hid X2'; clear X2' b2')
      | (go_at_call 20; refine (HT.out _ B2.out).mono ?_; rintro e w' ⟨rfl, rfl⟩)
      | (go_at_call 21; refine (HU.out _ B2.out).mono ?_; rintro e w' ⟨rfl, rfl⟩)
      | (refine wpList_convert_bs rfl 22 9 (.tmp 44) rfl 5 Try.underlying22 Try.underlying5 Try.underlying9 _ _ _ _ _ x hsz.out.symm rfl X1b.out ?_)
      | (refine wpList_convert_bs rfl 22 9 (.tmp 46) rfl 5 Try.underlying22 Try.underlying5 Try.underlying9 _ _ _ _ _ x hsz.out.symm rfl X2.out ?_)
      | (go_at_call 13; refine (octWakes _).mono ?_; rintro e w' ⟨rfl, hw⟩; have HW := Lib.hid (B2.out.trans (hw.mono B2.out.size)); clear hw))
    go_ret
    exact ⟨rfl, HW.out⟩

namespace octetTexts
open Go.ChangeShapes Go.WideShapes Go.ChangeAt
open Go.ChangeMaps (open_string shut_string)
set_option maxRecDepth 100000 in
theorem contract (H : Type) (enc : TypeId × Value → H) (W : World) (base : Nat) (args : Array Value) (ds gs : List (DataW H)) (before : List MemPlace)
    (hval : ∀ (j : Nat) t v, Try.f5.params[j]? = some t → args[j]? = some v → Value.okWide Try.prog W .any base t v)
    (hW : DataW.Whole enc Try.prog Try.f5.params.toList Rows.octetTextsSpec.vars false W args.toList ds gs before)
    (hR : (DataW.weightsEach Try.prog (Try.f5.params.toList ++ (OpenSpec.ofChange Rows.octetTextsSpec).bare.plain.varTypes Try.prog) (ds ++ gs)).all (· ≤ reachBytes) = true) :
    Calls Try.prog 5 args W fun e W' => ∃ v, e = .returned v ∧ Rows.octetTextsSpec.post enc Try.prog Try.f5 false true false false W args v W' := by
  have hW' := hW
  obtain ⟨p, q, hA0, hV, rfl, hfz, hnd⟩ := hW
  have hA : DataW.TrodAll enc Try.prog W 0 (fun _ => true) true Try.f5.params.toList args.toList ds p := hA0
  have HS := trodAll_stays (W' := W) (sp := fun _ => true) out (by kernel_rfl) hA
  have HA := Lib.hid hA
  rw [Try.params5] at hA hval hR
  obtain ⟨v0, vs0, d0, ds0, p0, q0, hargs0, rfl, rfl, h0, r0⟩ := trodAll_cons hA
  obtain ⟨v1, vs1, d1, ds1, p1, q1, hargs1, rfl, rfl, h1, r1⟩ := trodAll_cons r0
  obtain ⟨v2, vs2, d2, ds2, p2, q2, hargs2, rfl, rfl, h2, r2⟩ := trodAll_cons r1
  obtain ⟨rfl, rfl, rfl⟩ := trodAll_nil r2
  obtain rfl : args = #[v0, v1, v2] := by cases args; simp_all
  obtain ⟨rfl, rfl⟩ := trodVars_none hV
  obtain ⟨A0, l, c0, rfl, hc0, hn0, hb0, hm0⟩ := open_bs Try.underlying22 Try.underlying5 (by kernel_rfl) (by kernel_rfl) (hval 0 22 v0 rfl rfl) h0
  obtain ⟨s, rfl, rfl, rfl, z1⟩ := open_string Try.underlying9 (hval 1 9 v1 rfl rfl) h1
  obtain ⟨n, rfl, rfl, rfl, z2⟩ := open_int Try.underlying3 (hval 2 3 v2 rfl rfl) h2
  clear hA0 HS
  obtain ⟨k0, s0⟩ := reach_cons hR
  obtain ⟨k1, s1⟩ := reach_cons s0
  obtain ⟨k2, s2⟩ := reach_cons s1
  refine (walk_OctetTexts W A0 l c0 hc0 hn0 hb0 (hm0 k0) s (reach_str k1) n z2).mono fun e W' ⟨he, hb⟩ => ?_
  subst he
  have hlt := hW'.lt
  refine ⟨_, rfl, post_low hW' (pa := _) (pv := []) rfl hb (fun _ _ _ => trodAll_cons_mk (shut_bool Try.underlying4 _) trodAll_mk0) (fun sp hsp => ?_) (fun _ _ => rfl) (ok_one (by kernel_rfl) rfl (okWide_bool_mk Try.underlying4 _))⟩
  exact trodAll_stays out (by kernel_rfl) HA.out (fun x hx => hb.same (hlt x (List.mem_append_left _ hx))) (fun x hx => hsp x (List.mem_append_left _ hx))

noncomputable def wargs : Array Value := #[.slice none 0 0, .string ByteArray.empty, .int .i64 0]
noncomputable def lw (os : Os) : World := World.settled Try.prog os
theorem reads (os : Os) {H : Type} (enc : TypeId × Value → H) : ∃ places, DataW.whole enc Try.prog ((lw os).forCall (fun _ _ => 0) ⟨#[], wargs, []⟩).memory Try.f5.params.toList Rows.octetTextsSpec.vars false wargs.toList 8 = some ([.nil, .lit (.string []), .lit (.int .i64 0)], [], places) :=
  ⟨[], by kernel_rfl⟩
set_option maxRecDepth 100000 in
theorem lifted (os : Os) (started : os.Started) (H : Type) (enc : TypeId × Value → H) (G : Stop.Interp) :
    ReturnsInHanded {} Try.checked os 5 .any ((OpenSpec.ofChange Rows.octetTextsSpec).preRow enc Try.prog Try.f5 Rows.octetTextsRow.domain false Rows.octetTextsRow.laid) (((OpenSpec.ofChange Rows.octetTextsSpec).at G).post enc Try.prog Try.f5 false true false false) := by
  obtain ⟨places, hx⟩ := reads os enc
  refine returnsInHanded_of_row (C := Try.checked) (s := OpenSpec.ofChange Rows.octetTextsSpec) own started (by kernel_rfl) Try.func5
    (witness_row_atRef (enc := enc) (C := Try.checked) false (lw os) wargs rfl (by kernel_rfl) (by kernel_rfl) (by kernel_rfl)
      (OpenSpec.preRow_of_cond 8 hx (by kernel_rfl) (fun k hk => by cases hk) (by kernel_rfl) (laidMetH_nil _ _))) ?_
  intro W base args ds gs before hval hW _ _ hR _ _ _
  exact contract H enc W base args ds gs before hval hW hR
/-- THE STATEMENT. -/
theorem said : Rows.OctetTextsSaid :=
  OpenClaim.holds_of_cond 5 Try.f5 rfl rfl rfl rfl rfl rfl rfl ⟨rfl, rfl, rfl, rfl, rfl⟩ rfl rfl rfl rfl rfl (by kernel_rfl) Try.func5 (by kernel_rfl)
    (of_decide_eq_true (by kernel_rfl)) (by unfold Func.isWrapper; first | (rw [if_pos (by decide +kernel)]; kernel_rfl) | (rw [if_neg (by decide +kernel)]; exact ⟨rfl, rfl⟩))
    (fun os started H enc _ G => by rw [OpenClaim.pre_eq_preRow]; exact lifted os started H enc G)
end octetTexts
end Go.Proofs.Ytklpjlligmklfaa
