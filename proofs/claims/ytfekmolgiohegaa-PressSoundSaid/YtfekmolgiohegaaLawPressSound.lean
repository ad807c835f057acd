/- PressSound: whatever bytes and whatever place are handed in, the call returns true, and the arguments read behind it as before. -/
import Derived.Test.YtfekmolgiohegaaPrWakes
import Derived.Test.YtfekmolgiohegaaShut
namespace Go.Proofs.Ytfekmolgiohegaa
open Go.RowKit

theorem tk_err (b : List UInt8) : ∀ (m row at_ size : Nat) (e : Int), row * (b.length + 2) + (b.length + 1 - at_) ≤ m → Pr.tk b row at_ size = .err e → e ≠ 0 := by
  intro m
  induction m with
  | zero =>
    intro row at_ size e hm h
    by_cases hlt : at_ < b.length
    · omega
    · rw [Pr.tk_out hlt] at h; cases h; decide
  | succ m ih =>
    intro row at_ size e hm h
    by_cases hlt : at_ < b.length
    · by_cases h0 : (b[at_]'hlt).toNat = 0
      · rw [Pr.tk_end hlt h0] at h; cases h
      · by_cases h1 : 192 ≤ (b[at_]'hlt).toNat
        · by_cases h2 : at_ + 1 < b.length
          · by_cases hp : ((b[at_]'hlt).toNat - 192) * 256 + (b[at_ + 1]'h2).toNat < row
            · have hj := Pr.tk_jump (size := size) [] none hlt h1 h2 hp
              rw [Pr.fin_nil] at hj
              rw [hj] at h
              have hme := Pr.meas (L := b.length) (a := at_) hp
              refine ih _ _ size e (by omega) (?_ : Pr.tk b (((b[at_]'hlt).toNat - 192) * 256 + (b[at_ + 1]'h2).toNat) (((b[at_]'hlt).toNat - 192) * 256 + (b[at_ + 1]'h2).toNat) size = .err e)
              revert h
              generalize Pr.tk b (((b[at_]'hlt).toNat - 192) * 256 + (b[at_ + 1]'h2).toNat) (((b[at_]'hlt).toNat - 192) * 256 + (b[at_ + 1]'h2).toNat) size = r
              intro h
              cases r with
              | err e2 => exact h
              | ok _ _ => cases h
            · rw [Pr.tk_back hlt h1 h2 hp] at h; cases h; decide
          · rw [Pr.tk_short hlt h1 h2] at h; cases h; decide
        · by_cases h3 : 64 ≤ (b[at_]'hlt).toNat
          · rw [Pr.tk_kind hlt h3 h1] at h; cases h; decide
          · by_cases h4 : b.length < at_ + 1 + (b[at_]'hlt).toNat
            · rw [Pr.tk_few hlt h0 h3 h4] at h; cases h; decide
            · by_cases h5 : 255 < size + 1 + (b[at_]'hlt).toNat
              · rw [Pr.tk_long hlt h0 h3 h4 h5] at h; cases h; decide
              · have hj := Pr.tk_label (row := row) [] none hlt h0 h3 h4 h5
                rw [Pr.fin_nil] at hj
                rw [hj] at h
                refine ih row (at_ + 1 + (b[at_]'hlt).toNat) (size + 1 + (b[at_]'hlt).toNat) e (by omega) ?_
                revert h
                generalize Pr.tk b row (at_ + 1 + (b[at_]'hlt).toNat) (size + 1 + (b[at_]'hlt).toNat) = r
                intro h
                cases r with
                | err e2 => exact h
                | ok _ _ => cases h
    · rw [Pr.tk_out hlt] at h; cases h; decide
/-- what a reading tells is sound. -/
theorem prTakeV_sound (l : List UInt8) (z : Int) : (∃ e : Int, (e == 0) = false ∧ prTakeV l z = .tuple #[.string ⟨#[]⟩, .int .i64 0, .int .i64 e]) ∨
    (∃ (n : Nat) (ls : List (List UInt8)) (bh : Nat), z = n ∧ n < bh ∧ bh ≤ l.length ∧ Nm.split (Nm.glue ls) = some ls ∧ (Nm.glue ls).length ≤ 255 ∧ prTakeV l z = .tuple #[sv (Nm.glue ls), .int .i64 bh, .int .i64 0]) := by
  unfold prTakeV
  by_cases h0 : z < 0 ∨ (l.length : Int) < z
  · rw [if_pos h0]
    exact .inl ⟨1, rfl, rfl⟩
  · rw [if_neg h0]
    cases h : Pr.tk l z.toNat z.toNat 1 with
    | err e =>
      refine .inl ⟨e, ?_, rfl⟩
      have := tk_err l _ _ _ _ e (Nat.le_refl _) h
      simpa using this
    | ok ls bh =>
      obtain ⟨a, b, c, d⟩ := Pr.tk_sound l _ _ _ _ ls bh (Nat.le_refl _) (by omega) h
      have hg := Pr.tot_glue ls
      exact .inr ⟨z.toNat, ls, bh, by omega, a, b, Nm.split_glue c (by omega), by omega, rfl⟩
set_option maxHeartbeats 1000000 in
set_option maxRecDepth 100000 in
theorem walk_PressSound (w : World) (A : Option Addr) (l : List UInt8) (c : Nat) (hc : l.length ≤ c) (hnil : A = none → c = 0) (hr : Bs w 0 w.heap.size A l) (hm : c ≤ 140737488351232) (z : Int) (_hz : (Lit.int .i64 z).wf = true) :
    Calls Try.prog 8 #[.slice A l.length c, .int .i64 z] w fun e w' => e = .returned (.bool true) ∧ Below w.heap.size w w' := by
  obtain ⟨i0, hi, hz0, hz1, hz2⟩ := info_parts Try.infoByte
  have HB := Lib.hid hr
  have HN := Lib.hid hnil
  have HC := Lib.hid hc
  have hm2 : l.length ≤ 140737488351232 := by omega
  have HT : ∀ (A : Option Addr) (c : Nat) (W : World), l.length ≤ c → Bs W 0 W.heap.size A l → Hid (Calls Try.prog 16 #[.slice A l.length c, .int .i64 z] W fun e' w' => e' = .returned (prTakeV l z) ∧ Below W.heap.size W w') := fun A c W h1 h2 => prTake_any A l c z W h1 (by omega) 0 h2
  rcases prTakeV_sound l z with ⟨e, he, hv⟩ | ⟨n, ls, bh, rfl, h1, h2, h3, h4, hv⟩
  · rw [hv] at HT
    have hne : (e != 0) = true := by simp [bne, he]
    clear hv hr hnil hc _hz
    go_enter Try.func8, Try.ntmps8
    go_wp2_with (first
      | (at_builtin; refine wpList_append_bs rfl (.const (.slice none 0 0)) (.tmp 9) _ rfl w.heap.size _ i0 _ Try.underlying31 hi hz0 hz1 hz2 rfl (.slice none 0 0) 0 [] rfl (World.ownsRow_nil _ _ _ _) 0 w.heap.size A c l rfl HB.out HN.out (by omega) (Nat.le_refl _) ?_; intro v2 w2 O2 G2; rw [Nat.zero_add] at O2; obtain ⟨A2, c2, rfl⟩ := own_form O2; have HO2 := Lib.hid O2; have HG2 := Lib.hid (below_self G2 (Nat.le_refl _) (fun k hk => by simp [Value.ownBlock] at hk)); have hs2 := G2.size; clear O2 G2)
      | (go_at_call 16; refine (HT A2 c2 _ (own_le HO2.out) ((Bs.of_own (own_to HO2.out rfl (List.nil_append _))).more (Nat.zero_le _) (Nat.le_refl _))).out.mono ?_; rintro e' w3 ⟨rfl, B3⟩; have HB3 := Lib.hid (HG2.out.trans (B3.mono hs2)); have hs3 := HB3.out.size; clear B3)
      | (go_at_call 9; refine (prWakes _).mono ?_; rintro e w5 ⟨rfl, B5⟩))
    go_ret
    exact ⟨rfl, HB3.out.trans (B5.mono hs3)⟩
  · rw [hv] at HT
    have HK : ∀ W, Hid (Calls Try.prog 20 #[sv (Nm.glue ls)] W fun e w' => e = .returned (.int .i64 0) ∧ Below W.heap.size W w') := fun W => by
      have := Check_any ⟨(Nm.glue ls).toArray⟩ W (by rw [mk_size]; omega)
      rw [show (⟨(Nm.glue ls).toArray⟩ : ByteArray).data.toList = Nm.glue ls from rfl, h3] at this
      exact this
    clear hv hr hnil hc _hz h3
    go_enter Try.func8, Try.ntmps8
    go_wp2_with (first
      | (at_builtin; refine wpList_append_bs rfl (.const (.slice none 0 0)) (.tmp 9) _ rfl w.heap.size _ i0 _ Try.underlying31 hi hz0 hz1 hz2 rfl (.slice none 0 0) 0 [] rfl (World.ownsRow_nil _ _ _ _) 0 w.heap.size A c l rfl HB.out HN.out (by omega) (Nat.le_refl _) ?_; intro v2 w2 O2 G2; rw [Nat.zero_add] at O2; obtain ⟨A2, c2, rfl⟩ := own_form O2; have HO2 := Lib.hid O2; have HG2 := Lib.hid (below_self G2 (Nat.le_refl _) (fun k hk => by simp [Value.ownBlock] at hk)); have hs2 := G2.size; clear O2 G2)
      | (go_at_call 16; refine (HT A2 c2 _ (own_le HO2.out) ((Bs.of_own (own_to HO2.out rfl (List.nil_append _))).more (Nat.zero_le _) (Nat.le_refl _))).out.mono ?_; rintro e' w3 ⟨rfl, B3⟩; have HB3 := Lib.hid (HG2.out.trans (B3.mono hs2)); have hs3 := HB3.out.size; clear B3)
      | (go_at_call 20; refine (HK _).out.mono ?_; rintro e' w4 ⟨rfl, B4⟩; have HB4 := Lib.hid (HB3.out.trans (B4.mono hs3)); have hs4 := HB4.out.size; clear B4)
      | (go_at_call 9; refine (prWakes _).mono ?_; rintro e w5 ⟨rfl, B5⟩))
    go_ret
    exact ⟨rfl, HB4.out.trans (B5.mono hs4)⟩

namespace pressSound
open Go.ChangeShapes Go.WideShapes Go.ChangeAt
open Go.ChangeMaps (open_string shut_string)
set_option maxRecDepth 100000 in
theorem contract (H : Type) (enc : TypeId × Value → H) (W : World) (base : Nat) (args : Array Value) (ds gs : List (DataW H)) (before : List MemPlace)
    (hval : ∀ (j : Nat) t v, Try.f8.params[j]? = some t → args[j]? = some v → Value.okWide Try.prog W .any base t v)
    (hW : DataW.Whole enc Try.prog Try.f8.params.toList Rows.pressSoundSpec.vars false W args.toList ds gs before)
    (hR : (DataW.weightsEach Try.prog (Try.f8.params.toList ++ (OpenSpec.ofChange Rows.pressSoundSpec).bare.plain.varTypes Try.prog) (ds ++ gs)).all (· ≤ reachBytes) = true) :
    Calls Try.prog 8 args W fun e W' => ∃ v, e = .returned v ∧ Rows.pressSoundSpec.post enc Try.prog Try.f8 false true false false W args v W' := by
  have hW' := hW
  obtain ⟨p, q, hA0, hV, rfl, hfz, hnd⟩ := hW
  have hA : DataW.TrodAll enc Try.prog W 0 (fun _ => true) true Try.f8.params.toList args.toList ds p := hA0
  have HS := trodAll_stays (W' := W) (sp := fun _ => true) out (by kernel_rfl) hA
  have HA := Lib.hid hA
  rw [Try.params8] at hA hval hR
  obtain ⟨v0, vs0, d0, ds0, p0, q0, hargs0, rfl, rfl, h0, r0⟩ := trodAll_cons hA
  obtain ⟨v1, vs1, d1, ds1, p1, q1, hargs1, rfl, rfl, h1, r1⟩ := trodAll_cons r0
  obtain ⟨rfl, rfl, rfl⟩ := trodAll_nil r1
  obtain rfl : args = #[v0, v1] := by cases args; simp_all
  obtain ⟨rfl, rfl⟩ := trodVars_none hV
  obtain ⟨A0, b, c0, rfl, hc0, hn0, hb0, hm0⟩ := open_bs Try.underlying31 Try.underlying5 (by kernel_rfl) (by kernel_rfl) (hval 0 31 v0 rfl rfl) h0
  obtain ⟨at_, rfl, rfl, rfl, z1⟩ := open_int Try.underlying3 (hval 1 3 v1 rfl rfl) h1
  clear hA0 HS
  obtain ⟨k0, s0⟩ := reach_cons hR
  obtain ⟨k1, s1⟩ := reach_cons s0
  refine (walk_PressSound W A0 b c0 hc0 hn0 hb0 (hm0 k0) at_ z1).mono fun e W' ⟨he, hb⟩ => ?_
  subst he
  have hlt := hW'.lt
  refine ⟨_, rfl, post_low hW' (pa := _) (pv := []) rfl hb (fun _ _ _ => trodAll_cons_mk (shut_bool Try.underlying4 _) trodAll_mk0) (fun sp hsp => ?_) (fun _ _ => rfl) (ok_one (by kernel_rfl) rfl (okWide_bool_mk Try.underlying4 _))⟩
  exact trodAll_stays out (by kernel_rfl) HA.out (fun x hx => hb.same (hlt x (List.mem_append_left _ hx))) (fun x hx => hsp x (List.mem_append_left _ hx))

noncomputable def wargs : Array Value := #[.slice none 0 0, .int .i64 0]
noncomputable def lw (os : Os) : World := World.settled Try.prog os
theorem reads (os : Os) {H : Type} (enc : TypeId × Value → H) : ∃ places, DataW.whole enc Try.prog ((lw os).forCall (fun _ _ => 0) ⟨#[], wargs, []⟩).memory Try.f8.params.toList Rows.pressSoundSpec.vars false wargs.toList 8 = some ([.nil, .lit (.int .i64 0)], [], places) :=
  ⟨[], by kernel_rfl⟩
set_option maxRecDepth 100000 in
theorem lifted (os : Os) (started : os.Started) (H : Type) (enc : TypeId × Value → H) (G : Stop.Interp) :
    ReturnsInHanded {} Try.checked os 8 .any ((OpenSpec.ofChange Rows.pressSoundSpec).preRow enc Try.prog Try.f8 Rows.pressSoundRow.domain false Rows.pressSoundRow.laid) (((OpenSpec.ofChange Rows.pressSoundSpec).at G).post enc Try.prog Try.f8 false true false false) := by
  obtain ⟨places, hx⟩ := reads os enc
  refine returnsInHanded_of_row (C := Try.checked) (s := OpenSpec.ofChange Rows.pressSoundSpec) own started (by kernel_rfl) Try.func8
    (witness_row_atRef (enc := enc) (C := Try.checked) false (lw os) wargs rfl (by kernel_rfl) (by kernel_rfl) (by kernel_rfl)
      (OpenSpec.preRow_of_cond 8 hx (by kernel_rfl) (fun k hk => by cases hk) (by kernel_rfl) (laidMetH_nil _ _))) ?_
  intro W base args ds gs before hval hW _ _ hR _ _ _
  exact contract H enc W base args ds gs before hval hW hR
/-- THE STATEMENT. -/
theorem said : Rows.PressSoundSaid :=
  OpenClaim.holds_of_cond 8 Try.f8 rfl rfl rfl rfl rfl rfl rfl ⟨rfl, rfl, rfl, rfl, rfl⟩ rfl rfl rfl rfl rfl (by kernel_rfl) Try.func8 (by kernel_rfl)
    (of_decide_eq_true (by kernel_rfl)) (by unfold Func.isWrapper; first | (rw [if_pos (by decide +kernel)]; kernel_rfl) | (rw [if_neg (by decide +kernel)]; exact ⟨rfl, rfl⟩))
    (fun os started H enc _ G => by rw [OpenClaim.pre_eq_preRow]; exact lifted os started H enc G)
end pressSound
end Go.Proofs.Ytfekmolgiohegaa
