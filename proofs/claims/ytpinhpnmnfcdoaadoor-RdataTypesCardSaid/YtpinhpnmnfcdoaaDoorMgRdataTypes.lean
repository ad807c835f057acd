/- RdataTypes: whatever type and text are handed in, the call returns true, and the arguments read behind it as before. -/
import Derived.Test.YtpinhpnmnfcdoaaDoorG11
import Derived.Test.YtpinhpnmnfcdoaaDoorG12
namespace Go.Proofs.YtpinhpnmnfcdoaaDoor
open Go.RowKit

theorem wf_u16' {x : Int} (h : (Lit.int .u16 x).wf = true) : ∃ n : Nat, x = n ∧ n ≤ 65535 := by
  have h1 : IntKind.u16.min = 0 := rfl
  have h2 : IntKind.u16.max = 65535 := rfl
  simp only [Lit.wf, Bool.and_eq_true, decide_eq_true_eq] at h
  exact ⟨x.toNat, by omega, by omega⟩
theorem tyV_form (o : Option Nat) : ∃ (v : Nat) (b : Bool), tyV o = .tuple #[.int .u16 v, .bool b] := by
  cases o with
  | none => exact ⟨0, false, rfl⟩
  | some v => exact ⟨v, true, rfl⟩
theorem below_on3 {a b c : World} (h : Below a.heap.size a b) (k : Below b.heap.size b c) : Below a.heap.size a c := h.trans (k.mono h.size)
set_option maxHeartbeats 4000000 in
set_option maxRecDepth 100000 in
theorem walk_RdataTypes (w : World) (hLE : LayA w ∧ Lay w) (t : Int) (ht : (Lit.int .u16 t).wf = true) (s : ByteArray) (hs : s.size ≤ 140737488351232) :
    Calls Tryd.prog 3 #[.int .u16 t, .string s] w fun e w' => e = .returned (.bool true) ∧ Below w.heap.size w w' := by
  obtain ⟨hL, hE⟩ := hLE
  obtain ⟨n, rfl, hn⟩ := wf_u16' ht
  obtain ⟨x, hx⟩ : ∃ x : ByteArray, (⟨(Rd.tyText n).toArray⟩ : ByteArray) = x := ⟨_, rfl⟩
  have hxl : x.data.toList = Rd.tyText n := by rw [← hx]
  have hxs : x.size ≤ 140737488355328 := by
    have e : x.data.toList.length = x.size := by simp
    rw [hxl] at e
    have := Rd.tyText_len n
    omega
  obtain ⟨v, b, hv⟩ := tyV_form (Rd.tyOf s.data.toList)
  have hbk : tyV (Rd.tyOf x.data.toList) = .tuple #[.int .u16 n, .bool true] := by rw [hxl, Rd.tyBack n hn]; rfl
  have HLA := Lib.hid (fun (W : World) (hb : Below w.heap.size w W) => hL.below hb (Nat.le_refl _))
  have HLE := Lib.hid (fun (W : World) (hb : Below w.heap.size w W) => hE.below hb hE.size)
  have H1 := Lib.hid (fun (W : World) (hb : Below w.heap.size w W) => TypeOf_any s W (HLA.out W hb) (HLE.out W hb) (by omega))
  have H2 := Lib.hid (fun (W : World) => rdTypeOf_any s W (by omega))
  have H3 := Lib.hid (fun (W : World) (hb : Below w.heap.size w W) => TypeText_any n W hn (HLA.out W hb))
  have H4 := Lib.hid (fun (W : World) (hb : Below w.heap.size w W) => TypeOf_any x W (HLA.out W hb) (HLE.out W hb) hxs)
  have H5 := Lib.hid (fun (W : World) => rdTypeText_any n W hn)
  have HW := Lib.hid (fun (W : World) (hb : Below w.heap.size w W) => rdWakes W (HLA.out W hb))
  have e1 : sv (Rd.tyText n) = .string x := by rw [← hx]
  rw [hv] at H1 H2
  rw [e1] at H3 H5
  rw [hbk] at H4
  have hxx : (x.toList == x.toList) = true := beq_self_eq_true _
  clear hv hbk e1 hx hxl hL hE ht
  go_enter Tryd.func3, Tryd.ntmps3
  go_wp2_with (first
    | (go_at_call 4; (with_reducible refine (H1.out _ (Below.refl _ _)).mono ?_); rintro e w1 ⟨rfl, B1⟩; have HB1 := Lib.hid B1; clear B1)
    | (go_at_call 5; (with_reducible refine (H2.out _).mono ?_); rintro e w2 ⟨rfl, B2⟩; have HB2 := Lib.hid (below_on3 HB1.out B2); clear B2)
    | (go_at_call 6; (with_reducible refine (H3.out _ HB2.out).mono ?_); rintro e w3 ⟨rfl, B3⟩; have HB3 := Lib.hid (below_on3 HB2.out B3); clear B3)
    | (go_at_call 4; (with_reducible refine (H4.out _ HB3.out).mono ?_); rintro e w4 ⟨rfl, B4⟩; have HB4 := Lib.hid (below_on3 HB3.out B4); clear B4)
    | (go_at_call 6; (with_reducible refine (H3.out _ HB4.out).mono ?_); rintro e w5 ⟨rfl, B5⟩; have HB5 := Lib.hid (below_on3 HB4.out B5); clear B5)
    | (go_at_call 7; (with_reducible refine (H5.out _).mono ?_); rintro e w6 ⟨rfl, B6⟩; have HB6 := Lib.hid (below_on3 HB5.out B6); clear B6)
    | (go_at_call 8; (with_reducible refine (HW.out _ HB6.out).mono ?_); rintro e w7 ⟨rfl, B7⟩; have HB7 := Lib.hid (below_on3 HB6.out B7); clear B7))
  go_ret
  exact ⟨rfl, HB7.out⟩

namespace rdataTypes
open Go.ChangeShapes Go.WideShapes Go.ChangeAt
open Go.ChangeMaps (open_string shut_string)
theorem laid_lay {W : World} (h : laidMetH Tryd.prog Rows.rdataTypesRow.laid W) : LayA W ∧ Lay W := by
  rw [MakeChecks.laidMetH_plain _ _ _ (by kernel_rfl)] at h
  have h3 := h.tail.tail.tail
  obtain ⟨a, _, hv, _⟩ := laid_sentinel (g := 2) (ti := 63) (tp := 145) (te := 147) (ts := 9) h3 (by kernel_rfl) (by kernel_rfl) Tryd.underlying63 rowErr Tryd.underlying145 Tryd.underlying147 rfl rfl Tryd.underlying9 (by kernel_rfl) (by kernel_rfl)
  obtain ⟨b, _, hw, _⟩ := laid_sentinel (g := 1) (ti := 63) (tp := 145) (te := 147) (ts := 9) h3.tail (by kernel_rfl) (by kernel_rfl) Tryd.underlying63 rowErr Tryd.underlying145 Tryd.underlying147 rfl rfl Tryd.underlying9 (by kernel_rfl) (by kernel_rfl)
  refine ⟨⟨laid_rows h3.tail.tail, laid_pow h.tail.tail, laid_bits h.tail⟩, ⟨145, .pointer (some b), ?_⟩, 145, .pointer (some a), ?_⟩
  · have := World.var?_cell (P := Tryd.prog) (g := 1) (by kernel_rfl) hw 0
    simpa using this
  · have := World.var?_cell (P := Tryd.prog) (g := 2) (by kernel_rfl) hv 0
    simpa using this
set_option maxRecDepth 100000 in
theorem contract (H : Type) (enc : TypeId × Value → H) (W : World) (base : Nat) (args : Array Value) (ds gs : List (DataW H)) (before : List MemPlace)
    (hval : ∀ (j : Nat) t v, Tryd.f3.params[j]? = some t → args[j]? = some v → Value.okWide Tryd.prog W .any base t v)
    (hW : DataW.Whole enc Tryd.prog Tryd.f3.params.toList Rows.rdataTypesSpec.vars false W args.toList ds gs before)
    (hR : (DataW.weightsEach Tryd.prog (Tryd.f3.params.toList ++ (OpenSpec.ofChange Rows.rdataTypesSpec).bare.plain.varTypes Tryd.prog) (ds ++ gs)).all (· ≤ reachBytes) = true)
    (hL : laidMetH Tryd.prog Rows.rdataTypesRow.laid W) :
    Calls Tryd.prog 3 args W fun e W' => ∃ v, e = .returned v ∧ Rows.rdataTypesSpec.post enc Tryd.prog Tryd.f3 false true false false W args v W' := by
  have hW' := hW
  obtain ⟨p, q, hA0, hV, rfl, hfz, hnd⟩ := hW
  have hA : DataW.TrodAll enc Tryd.prog W 0 (fun _ => true) true Tryd.f3.params.toList args.toList ds p := hA0
  have HS := trodAll_stays (W' := W) (sp := fun _ => true) out (by kernel_rfl) hA
  have HA := Lib.hid hA
  rw [Tryd.params3] at hA hval hR
  obtain ⟨v0, vs0, d0, ds0, p0, q0, hargs0, rfl, rfl, h0, r0⟩ := trodAll_cons hA
  obtain ⟨v1, vs1, d1, ds1, p1, q1, hargs1, rfl, rfl, h1, r1⟩ := trodAll_cons r0
  obtain ⟨rfl, rfl, rfl⟩ := trodAll_nil r1
  obtain rfl : args = #[v0, v1] := by cases args; simp_all
  obtain ⟨rfl, rfl⟩ := trodVars_none hV
  obtain ⟨t, rfl, rfl, rfl, z0⟩ := open_int Tryd.underlying22 (hval 0 22 v0 rfl rfl) h0
  obtain ⟨s, rfl, rfl, rfl, z1⟩ := open_string Tryd.underlying9 (hval 1 9 v1 rfl rfl) h1
  clear hA0 HS
  obtain ⟨k0, s0⟩ := reach_cons hR
  obtain ⟨k1, s1⟩ := reach_cons s0
  refine (walk_RdataTypes W (laid_lay hL) t z0 s (reach_str k1)).mono fun e W' ⟨he, hb⟩ => ?_
  subst he
  have hlt := hW'.lt
  refine ⟨_, rfl, post_low hW' (pa := _) (pv := []) rfl hb (fun _ _ _ => trodAll_cons_mk (shut_bool Tryd.underlying4 _) trodAll_mk0) (fun sp hsp => ?_) (fun _ _ => rfl) (ok_one (by kernel_rfl) rfl (okWide_bool_mk Tryd.underlying4 _))⟩
  exact trodAll_stays out (by kernel_rfl) HA.out (fun x hx => hb.same (hlt x (List.mem_append_left _ hx))) (fun x hx => hsp x (List.mem_append_left _ hx))

noncomputable def wargs : Array Value := #[.int .u16 0, .string ByteArray.empty]
noncomputable def lw (os : Os) : World := World.doorLaid Tryd.prog 400 os
theorem door_met (os : Os) (args : Array Value) : laidMetH Tryd.prog Rows.rdataTypesRow.laid ((lw os).forCall (fun _ _ => 0) ⟨#[], args, []⟩).memory :=
  laidMetH_of_parts3 (fuel := 8) (laidMet_of_run' 8 (by kernel_rfl) (by kernel_rfl)) (by kernel_rfl) (by kernel_rfl)
theorem reads (os : Os) {H : Type} (enc : TypeId × Value → H) : ∃ places, DataW.whole enc Tryd.prog ((lw os).forCall (fun _ _ => 0) ⟨#[], wargs, []⟩).memory Tryd.f3.params.toList Rows.rdataTypesSpec.vars false wargs.toList 8 = some ([.lit (.int .u16 0), .lit (.string [])], [], places) :=
  ⟨[], by kernel_rfl⟩
set_option maxRecDepth 100000 in
theorem lifted (os : Os) (started : os.Started) (H : Type) (enc : TypeId × Value → H) (G : Stop.Interp) :
    ReturnsInHanded {} Tryd.checked os 3 .any ((OpenSpec.ofChange Rows.rdataTypesSpec).preRow enc Tryd.prog Tryd.f3 Rows.rdataTypesRow.domain false Rows.rdataTypesRow.laid) (((OpenSpec.ofChange Rows.rdataTypesSpec).at G).post enc Tryd.prog Tryd.f3 false true false false) := by
  obtain ⟨places, hx⟩ := reads os enc
  refine returnsInHanded_of_row (C := Tryd.checked) (s := OpenSpec.ofChange Rows.rdataTypesSpec) own started (by kernel_rfl) Tryd.func3
    (witness_row_atRef (enc := enc) (C := Tryd.checked) false (lw os) wargs rfl (by kernel_rfl) (by kernel_rfl) (by kernel_rfl)
      (OpenSpec.preRow_of_cond 8 hx (by kernel_rfl) (fun k hk => by cases hk) (by kernel_rfl) (door_met os _))) ?_
  intro W base args ds gs before hval hW _ _ hR hL _ _
  exact contract H enc W base args ds gs before hval hW hR hL
/-- THE STATEMENT. -/
theorem said : Rows.RdataTypesSaid :=
  OpenClaim.holds_of_cond 3 Tryd.f3 rfl rfl rfl rfl rfl rfl rfl ⟨rfl, rfl, rfl, rfl, rfl⟩ rfl rfl rfl rfl rfl (by kernel_rfl) Tryd.func3 (by kernel_rfl)
    (of_decide_eq_true (by kernel_rfl)) (by unfold Func.isWrapper; first | (rw [if_pos (by decide +kernel)]; kernel_rfl) | (rw [if_neg (by decide +kernel)]; exact ⟨rfl, rfl⟩))
    (fun os started H enc _ G => by rw [OpenClaim.pre_eq_preRow]; exact lifted os started H enc G)
theorem plain (f : FuncId) (fn : Func) (hf : Tryd.pinned.checked.prog.funcNamed "hearsay/hearsaylaw04.RdataTypes" = some f) (hfn : Tryd.pinned.checked.prog.funcs[f]? = some fn) :
    Tryd.pinned.checked.prog.looks [] = true ∧ ∀ (j : Nat) t, fn.params[j]? = some t → Tryd.pinned.checked.prog.wantsStandIn t = false := by
  obtain rfl : f = 3 := Option.some.inj ((show Tryd.prog.funcNamed "hearsay/hearsaylaw04.RdataTypes" = some 3 by kernel_rfl).symm.trans hf) |>.symm
  obtain rfl : fn = Tryd.f3 := (Option.some.inj (Tryd.func3.symm.trans hfn)).symm
  refine ⟨by kernel_rfl, fun j t ht => ?_⟩
  rw [Tryd.params3] at ht
  have hm : t ∈ [22, 9] := by simpa using Array.mem_of_getElem? ht
  have hall : ([22, 9].all fun u => !Tryd.prog.wantsStandIn u) = true := by kernel_rfl
  exact (show Tryd.prog.wantsStandIn t = false by simpa using List.all_eq_true.1 hall t hm)
/-- THE STATEMENT. -/
theorem card : Rows.RdataTypesCardSaid :=
  Claim7.holds_tied_plain_at .later [] _ _ _ _ said (fun _ h => by cases h) (by kernel_rfl) (fun _ h => by cases h) rdataTypes_row_tie rfl ⟨rfl, rfl⟩ (by kernel_rfl) rfl (fun f fn hf hfn => by have h := plain f fn hf hfn; exact ⟨h.1.symm, h.2⟩) (by kernel_rfl)
end rdataTypes
end Go.Proofs.YtpinhpnmnfcdoaaDoor
