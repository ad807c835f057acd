/- PressTwice: whatever bytes and whatever name are handed in, the call returns true, and the arguments read behind it as before. -/
import Derived.Test.YtfekmolgiohegaaPrWakes
import Derived.Test.YtfekmolgiohegaaShut
namespace Go.Proofs.Ytfekmolgiohegaa
open Go.RowKit

theorem own_nilcap {w : World} {b n c : Nat} {e : TypeId} {A : Option Addr} {xs : List Value} (h : w.ownsRow b e 1 (.slice A n c) n xs) (hA : A = none) : c = 0 := by
  subst hA
  rcases h.2 with ⟨hv, _⟩ | ⟨g, cap, cur, hv, _⟩
  · injection hv
  · injection hv with h1; cases h1
theorem two_put1 (g base : Nat) (A : Option Addr) (l : List UInt8) (c : Nat) (s : ByteArray) (ls : List (List UInt8)) (w : World) (hT : Tb w g base none []) (hb : base ≤ w.heap.size) (hs : Nm.split s.data.toList = some ls) (hc : l.length ≤ c) (hnil : A = none → c = 0) (hm : l.length ≤ 16383) (hr : Bs w 0 w.heap.size A l) :
    Calls Try.prog 13 #[.pointer (some ⟨g, 0, none⟩), .slice A l.length c, .string s] w fun e w' => ∃ A2 c2 mp, e = .returned (.tuple #[.slice A2 (l.length + s.size) c2, .int .i64 0]) ∧ w'.ownsRow w.heap.size 5 1 (.slice A2 (l.length + s.size) c2) (l.length + s.size) (bv (l ++ s.data.toList)) ∧ Tb w' g base mp (Pr.pw false [] l.length ls).1 ∧ Below base w w' := by
  refine (put_in g base none [] A l c s ls w hT hb hs hc hnil (by omega) hr (by simp)).mono ?_
  rintro e w' ⟨v, mp, rfl, h1, h2, h3⟩
  obtain ⟨hgl, hgd, h255⟩ := Nm.split_some.1 hs
  have hp := (Pr.pw_empty ls [] l.length (fun k p h => by rw [findI] at h; omega)).1
  rw [hp, ← hgl] at h1
  have hl : (l ++ s.data.toList).length = l.length + s.size := by simp
  rw [hl] at h1
  obtain ⟨A2, c2, rfl⟩ := own_form h1
  exact ⟨A2, c2, mp, rfl, h1, h2, h3.below⟩
theorem two_put2 (g base : Nat) (mp : Option Nat) (A : Option Addr) (l : List UInt8) (c : Nat) (s : ByteArray) (ls : List (List UInt8)) (w : World) (hT : Tb w g base mp (Pr.pw false [] l.length ls).1) (hb : base ≤ w.heap.size) (hs : Nm.split s.data.toList = some ls) (hm : l.length ≤ 16383)
    (ho : w.ownsRow base 5 1 (.slice A (l.length + s.size) c) (l.length + s.size) (bv (l ++ s.data.toList))) :
    Calls Try.prog 13 #[.pointer (some ⟨g, 0, none⟩), .slice A (l.length + s.size) c, .string s] w fun e w' => ∃ A2 c2, e = .returned (.tuple #[.slice A2 (l.length + s.size + if ls = [] then 1 else 2) c2, .int .i64 0]) ∧ Below base w w' := by
  obtain ⟨hgl, hgd, h255⟩ := Nm.split_some.1 hs
  have hl : (l ++ s.data.toList).length = l.length + s.size := by simp
  have hpos : 0 < l.length + s.size := by
    have h1 : s.size = s.data.toList.length := by simp
    rw [hgl, Nm.glue_length] at h1
    omega
  obtain ⟨g0, hA, hc, _⟩ := own_at ho hpos
  have hlen := Pr.pw_tab false ls [] l.length
  have hfew := few hs
  have hE := (Pr.pw_empty ls [] l.length (fun k p h => by rw [findI] at h; omega)).2.1
  have key := put_in g base mp (Pr.pw false [] l.length ls).1 A (l ++ s.data.toList) c s ls w hT hb hs (by rw [hl]; exact hc) (fun e => by rw [hA] at e; cases e) (by rw [hl]; have : s.size = s.data.toList.length := by simp
                                                                                                                                                                      omega) ((Bs.of_own ho).more (Nat.zero_le _) (Nat.le_refl _)) (by simp at hlen; omega)
  rw [hl] at key
  refine key.mono ?_
  rintro e w' ⟨v, mp', rfl, h1, h2, h3⟩
  have hd : ((l ++ s.data.toList) ++ (Pr.pw false (Pr.pw false [] l.length ls).1 (l ++ s.data.toList).length ls).2).length = l.length + s.size + if ls = [] then 1 else 2 := by
    rw [List.length_append, hl]
    congr 1
    cases ls with
    | nil => rfl
    | cons x r =>
      have := hE (by simp) (by omega)
      rw [Pr.pw_ptr (by rw [this]; omega) rfl]
      simp [Oc.beb]
  rw [hd] at h1
  obtain ⟨A2, c2, rfl⟩ := own_form h1
  exact ⟨A2, c2, rfl, h3.below⟩
set_option maxHeartbeats 2000000 in
set_option maxRecDepth 100000 in
theorem walk_PressTwice (w : World) (A : Option Addr) (l : List UInt8) (c : Nat) (hc : l.length ≤ c) (hnil : A = none → c = 0) (hr : Bs w 0 w.heap.size A l) (hm : c ≤ 140737488351232) (s : ByteArray) (hs : s.size ≤ 140737488351232) :
    Calls Try.prog 7 #[.slice A l.length c, .string s] w fun e w' => e = .returned (.bool true) ∧ Below w.heap.size w w' := by
  obtain ⟨i0, hi, hz0, hz1, hz2⟩ := info_parts Try.infoByte
  have HB := Lib.hid hr
  have HN := Lib.hid hnil
  have HC := Lib.hid hc
  have hm2 : l.length ≤ 140737488351232 := by omega
  have HK := Lib.hid (Check_any s w (by omega))
  have HSZ : ∀ W, Hid (Calls Try.prog 18 #[.string s] W fun e w' => e = .returned (.int .i64 (if (Nm.split s.data.toList).isSome then s.size else 0 : Nat)) ∧ Below W.heap.size W w') := fun W => psize_any s W (by omega)
  rcases hsp : Nm.split s.data.toList with _ | ls
  · rw [hsp] at HK
    clear hr hnil hc hsp HSZ
    go_enter Try.func7, Try.ntmps7
    go_wp2_with (first
      | (go_at_call 20; refine HK.out.mono ?_; rintro e' w4 ⟨rfl, B4⟩; have HB4 := Lib.hid B4; have hs4 := HB4.out.size; clear B4)
      | (go_at_call 9; refine (prWakes _).mono ?_; rintro e w5 ⟨rfl, B5⟩))
    go_ret
    exact ⟨rfl, HB4.out.trans (B5.mono hs4)⟩
  · rw [hsp] at HK HSZ
    by_cases hbig : 16383 < l.length
    · clear hr hnil hc hsp HSZ
      go_enter Try.func7, Try.ntmps7
      go_wp2_with (first
        | (go_at_call 20; refine HK.out.mono ?_; rintro e' w4 ⟨rfl, B4⟩; have HB4 := Lib.hid B4; have hs4 := HB4.out.size; clear B4)
        | (go_at_call 9; refine (prWakes _).mono ?_; rintro e w5 ⟨rfl, B5⟩))
      go_ret
      exact ⟨rfl, HB4.out.trans (B5.mono hs4)⟩
    · have HSP := Lib.hid hsp
      have hs255 : s.size ≤ 255 := by
        have := (Nm.split_some.1 hsp).2.2
        have h2 : s.size = s.data.toList.length := by simp
        omega
      have hroot : (ls = [] → (s.toList == (⟨#[0]⟩ : ByteArray).toList) = true) ∧ (ls ≠ [] → (s.toList == (⟨#[0]⟩ : ByteArray).toList) = false) := by
        have hgl := (Nm.split_some.1 hsp).1
        refine ⟨fun h => str_eq (by rw [hgl, h]; rfl), fun h => str_ne (fun e => ?_)⟩
        rw [hgl] at e
        have e2 := congrArg List.length e
        rw [Nm.glue_length] at e2
        cases ls with
        | nil => exact h rfl
        | cons x r => rw [Nm.body_cons, List.length_append, Nm.lab_length] at e2; simp at e2
      have e0 : (⟨#[0]⟩ : ByteArray).toList = [0] := by kernel_rfl
      rw [e0] at hroot
      clear e0
      have H1 := fun (g base : Nat) (A : Option Addr) (c : Nat) (W : World) (a1 : Tb W g base none []) (a2 : base ≤ W.heap.size) (a3 : l.length ≤ c) (a4 : A = none → c = 0) (a5 : Bs W 0 W.heap.size A l) => two_put1 g base A l c s ls W a1 a2 hsp a3 a4 (by omega) a5
      have H2 := fun (g base : Nat) (mp : Option Nat) (A : Option Addr) (c : Nat) (W : World) (a1 : Tb W g base mp (Pr.pw false [] l.length ls).1) (a2 : base ≤ W.heap.size) (a3 : W.ownsRow base 5 1 (.slice A (l.length + s.size) c) (l.length + s.size) (bv (l ++ s.data.toList))) => two_put2 g base mp A l c s ls W a1 a2 hsp (by omega) a3
      have HH1 := Lib.hid H1
      have HH2 := Lib.hid H2
      have hc2 := hc
      clear hr hnil hc hsp H1 H2 hc2
      by_cases hls : ls = []
      · have hq := hroot.1 hls
        rw [if_pos hls] at HH2
        clear hroot hls HSP
        go_enter Try.func7, Try.ntmps7
        go_wp2_with (first
          | (go_at_call 20; refine HK.out.mono ?_; rintro e' w1 ⟨rfl, B1⟩; have HB1 := Lib.hid B1; have hs1 := HB1.out.size; clear B1)
          | (go_at_call 10; refine (pnew_any _).mono ?_; rintro e w2 ⟨rfl, rfl⟩)
          | (at_builtin; refine wpList_append_bs rfl (.const (.slice none 0 0)) (.tmp 22) _ rfl (w1.heap.size + 1) _ i0 _ Try.underlying31 hi hz0 hz1 hz2 rfl (.slice none 0 0) 0 [] rfl (World.ownsRow_nil _ _ _ _) 0 w.heap.size A c l rfl ((HB.out.keep HB1.out).alloc hs1 _) HN.out (by omega) (by simp) ?_; intro v3 w3 O3 G3; rw [Nat.zero_add] at O3; obtain ⟨A3, c3, rfl⟩ := own_form O3; have HO3 := Lib.hid (own_to O3 rfl (List.nil_append _)); have hs3 := G3.size; have HG3 : Hid (Below (w1.heap.size + 1) (w1.alloc (.cells #[.map none] 49)) w3) := below_self G3 (by simp) (fun k hk => by simp [Value.ownBlock] at hk); have HT3 := Lib.hid ((Tb.new w1 (Nat.le_refl _)).below (HG3.out.mono (by simp))); clear O3 G3)
          | (go_at_call 13; (with_reducible refine (HH1.out w1.heap.size w1.heap.size A3 c3 w3 HT3.out (by simp at hs3; omega) (own_le HO3.out) (fun e => own_nilcap HO3.out e) ((Bs.of_own HO3.out).more (Nat.zero_le _) (Nat.le_refl _))).mono ?_); rintro e w4 ⟨A4, c4, mp4, rfl, O4, T4, B4⟩; have HO4 := Lib.hid O4; have HT4 := Lib.hid T4; have HB4 := Lib.hid B4; have hs4 := B4.size; clear O4 T4 B4)
          | (go_at_call 13; (with_reducible refine (HH2.out w1.heap.size w1.heap.size mp4 A4 c4 w4 HT4.out (by simp at hs3; omega) (own_mono HO4.out (by simp at hs3; omega))).mono ?_); rintro e w5 ⟨A5, c5, rfl, B5⟩; have HB5 := Lib.hid B5; have hs5 := B5.size; clear B5)
          | (go_at_call 18; refine (HSZ _).out.mono ?_; rintro e w6 ⟨rfl, B6⟩; have HB6 := Lib.hid B6; have hs6 := B6.size; clear B6)
          | (go_at_call 9; refine (prWakes _).mono ?_; rintro e w7 ⟨rfl, B7⟩))
        go_ret
        have hb5 : Below w.heap.size w w5 := (((HB1.out.trans (((Below.refl _ w1).alloc (Nat.le_refl _) _).mono hs1)).trans (HG3.out.mono (by omega))).trans (HB4.out.mono hs1)).trans (HB5.out.mono hs1)
        exact ⟨rfl, hb5.trans (B7.mono hb5.size)⟩
      · have hq := hroot.2 hls
        rw [if_neg hls] at HH2
        clear hroot hls HSP
        go_enter Try.func7, Try.ntmps7
        go_wp2_with (first
          | (go_at_call 20; refine HK.out.mono ?_; rintro e' w1 ⟨rfl, B1⟩; have HB1 := Lib.hid B1; have hs1 := HB1.out.size; clear B1)
          | (go_at_call 10; refine (pnew_any _).mono ?_; rintro e w2 ⟨rfl, rfl⟩)
          | (at_builtin; refine wpList_append_bs rfl (.const (.slice none 0 0)) (.tmp 22) _ rfl (w1.heap.size + 1) _ i0 _ Try.underlying31 hi hz0 hz1 hz2 rfl (.slice none 0 0) 0 [] rfl (World.ownsRow_nil _ _ _ _) 0 w.heap.size A c l rfl ((HB.out.keep HB1.out).alloc hs1 _) HN.out (by omega) (by simp) ?_; intro v3 w3 O3 G3; rw [Nat.zero_add] at O3; obtain ⟨A3, c3, rfl⟩ := own_form O3; have HO3 := Lib.hid (own_to O3 rfl (List.nil_append _)); have hs3 := G3.size; have HG3 : Hid (Below (w1.heap.size + 1) (w1.alloc (.cells #[.map none] 49)) w3) := below_self G3 (by simp) (fun k hk => by simp [Value.ownBlock] at hk); have HT3 := Lib.hid ((Tb.new w1 (Nat.le_refl _)).below (HG3.out.mono (by simp))); clear O3 G3)
          | (go_at_call 13; (with_reducible refine (HH1.out w1.heap.size w1.heap.size A3 c3 w3 HT3.out (by simp at hs3; omega) (own_le HO3.out) (fun e => own_nilcap HO3.out e) ((Bs.of_own HO3.out).more (Nat.zero_le _) (Nat.le_refl _))).mono ?_); rintro e w4 ⟨A4, c4, mp4, rfl, O4, T4, B4⟩; have HO4 := Lib.hid O4; have HT4 := Lib.hid T4; have HB4 := Lib.hid B4; have hs4 := B4.size; clear O4 T4 B4)
          | (go_at_call 13; (with_reducible refine (HH2.out w1.heap.size w1.heap.size mp4 A4 c4 w4 HT4.out (by simp at hs3; omega) (own_mono HO4.out (by simp at hs3; omega))).mono ?_); rintro e w5 ⟨A5, c5, rfl, B5⟩; have HB5 := Lib.hid B5; have hs5 := B5.size; clear B5)
          | (go_at_call 18; refine (HSZ _).out.mono ?_; rintro e w6 ⟨rfl, B6⟩; have HB6 := Lib.hid B6; have hs6 := B6.size; clear B6)
          | (go_at_call 9; refine (prWakes _).mono ?_; rintro e w7 ⟨rfl, B7⟩))
        go_ret
        have hb5 : Below w.heap.size w w5 := (((HB1.out.trans (((Below.refl _ w1).alloc (Nat.le_refl _) _).mono hs1)).trans (HG3.out.mono (by omega))).trans (HB4.out.mono hs1)).trans (HB5.out.mono hs1)
        exact ⟨rfl, (hb5.trans (HB6.out.mono hb5.size)).trans (B7.mono (by have := hb5.size; omega))⟩

namespace pressTwice
open Go.ChangeShapes Go.WideShapes Go.ChangeAt
open Go.ChangeMaps (open_string shut_string)
set_option maxRecDepth 100000 in
theorem contract (H : Type) (enc : TypeId × Value → H) (W : World) (base : Nat) (args : Array Value) (ds gs : List (DataW H)) (before : List MemPlace)
    (hval : ∀ (j : Nat) t v, Try.f7.params[j]? = some t → args[j]? = some v → Value.okWide Try.prog W .any base t v)
    (hW : DataW.Whole enc Try.prog Try.f7.params.toList Rows.pressTwiceSpec.vars false W args.toList ds gs before)
    (hR : (DataW.weightsEach Try.prog (Try.f7.params.toList ++ (OpenSpec.ofChange Rows.pressTwiceSpec).bare.plain.varTypes Try.prog) (ds ++ gs)).all (· ≤ reachBytes) = true) :
    Calls Try.prog 7 args W fun e W' => ∃ v, e = .returned v ∧ Rows.pressTwiceSpec.post enc Try.prog Try.f7 false true false false W args v W' := by
  have hW' := hW
  obtain ⟨p, q, hA0, hV, rfl, hfz, hnd⟩ := hW
  have hA : DataW.TrodAll enc Try.prog W 0 (fun _ => true) true Try.f7.params.toList args.toList ds p := hA0
  have HS := trodAll_stays (W' := W) (sp := fun _ => true) out (by kernel_rfl) hA
  have HA := Lib.hid hA
  rw [Try.params7] at hA hval hR
  obtain ⟨v0, vs0, d0, ds0, p0, q0, hargs0, rfl, rfl, h0, r0⟩ := trodAll_cons hA
  obtain ⟨v1, vs1, d1, ds1, p1, q1, hargs1, rfl, rfl, h1, r1⟩ := trodAll_cons r0
  obtain ⟨rfl, rfl, rfl⟩ := trodAll_nil r1
  obtain rfl : args = #[v0, v1] := by cases args; simp_all
  obtain ⟨rfl, rfl⟩ := trodVars_none hV
  obtain ⟨A0, b, c0, rfl, hc0, hn0, hb0, hm0⟩ := open_bs Try.underlying31 Try.underlying5 (by kernel_rfl) (by kernel_rfl) (hval 0 31 v0 rfl rfl) h0
  obtain ⟨n, rfl, rfl, rfl, z1⟩ := open_string Try.underlying32 (hval 1 32 v1 rfl rfl) h1
  clear hA0 HS
  obtain ⟨k0, s0⟩ := reach_cons hR
  obtain ⟨k1, s1⟩ := reach_cons s0
  refine (walk_PressTwice W A0 b c0 hc0 hn0 hb0 (hm0 k0) n (reach_str k1)).mono fun e W' ⟨he, hb⟩ => ?_
  subst he
  have hlt := hW'.lt
  refine ⟨_, rfl, post_low hW' (pa := _) (pv := []) rfl hb (fun _ _ _ => trodAll_cons_mk (shut_bool Try.underlying4 _) trodAll_mk0) (fun sp hsp => ?_) (fun _ _ => rfl) (ok_one (by kernel_rfl) rfl (okWide_bool_mk Try.underlying4 _))⟩
  exact trodAll_stays out (by kernel_rfl) HA.out (fun x hx => hb.same (hlt x (List.mem_append_left _ hx))) (fun x hx => hsp x (List.mem_append_left _ hx))

noncomputable def wargs : Array Value := #[.slice none 0 0, .string ByteArray.empty]
noncomputable def lw (os : Os) : World := World.settled Try.prog os
theorem reads (os : Os) {H : Type} (enc : TypeId × Value → H) : ∃ places, DataW.whole enc Try.prog ((lw os).forCall (fun _ _ => 0) ⟨#[], wargs, []⟩).memory Try.f7.params.toList Rows.pressTwiceSpec.vars false wargs.toList 8 = some ([.nil, .lit (.string [])], [], places) :=
  ⟨[], by kernel_rfl⟩
set_option maxRecDepth 100000 in
theorem lifted (os : Os) (started : os.Started) (H : Type) (enc : TypeId × Value → H) (G : Stop.Interp) :
    ReturnsInHanded {} Try.checked os 7 .any ((OpenSpec.ofChange Rows.pressTwiceSpec).preRow enc Try.prog Try.f7 Rows.pressTwiceRow.domain false Rows.pressTwiceRow.laid) (((OpenSpec.ofChange Rows.pressTwiceSpec).at G).post enc Try.prog Try.f7 false true false false) := by
  obtain ⟨places, hx⟩ := reads os enc
  refine returnsInHanded_of_row (C := Try.checked) (s := OpenSpec.ofChange Rows.pressTwiceSpec) own started (by kernel_rfl) Try.func7
    (witness_row_atRef (enc := enc) (C := Try.checked) false (lw os) wargs rfl (by kernel_rfl) (by kernel_rfl) (by kernel_rfl)
      (OpenSpec.preRow_of_cond 8 hx (by kernel_rfl) (fun k hk => by cases hk) (by kernel_rfl) (laidMetH_nil _ _))) ?_
  intro W base args ds gs before hval hW _ _ hR _ _ _
  exact contract H enc W base args ds gs before hval hW hR
/-- THE STATEMENT. -/
theorem said : Rows.PressTwiceSaid :=
  OpenClaim.holds_of_cond 7 Try.f7 rfl rfl rfl rfl rfl rfl rfl ⟨rfl, rfl, rfl, rfl, rfl⟩ rfl rfl rfl rfl rfl (by kernel_rfl) Try.func7 (by kernel_rfl)
    (of_decide_eq_true (by kernel_rfl)) (by unfold Func.isWrapper; first | (rw [if_pos (by decide +kernel)]; kernel_rfl) | (rw [if_neg (by decide +kernel)]; exact ⟨rfl, rfl⟩))
    (fun os started H enc _ G => by rw [OpenClaim.pre_eq_preRow]; exact lifted os started H enc G)
end pressTwice
end Go.Proofs.Ytfekmolgiohegaa
