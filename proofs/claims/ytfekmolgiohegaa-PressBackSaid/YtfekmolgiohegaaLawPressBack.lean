/- PressBack: whatever items and whatever bytes are handed in, the call returns true, and the arguments read behind it as before. -/
import Derived.Test.YtfekmolgiohegaaBack
namespace Go.Proofs.Ytfekmolgiohegaa
open Go.RowKit

theorem its_cell {w : World} {hi : Nat} {A : Option Addr} {its : List It} (h : Its w hi A its) {k : Nat} (hk : k < its.length) :
    ∃ g o, A = some ⟨g, o, none⟩ ∧ g < hi ∧ w.cell? ⟨g, o + k * 3, none⟩ = some (.int .i64 (its[k]'hk).skip) ∧ w.cell? ⟨g, o + k * 3 + 1, none⟩ = some (.string (its[k]'hk).name) ∧ w.cell? ⟨g, o + k * 3 + 2, none⟩ = some (.bool (its[k]'hk).plain) := by
  obtain ⟨g, o, h1, h2, h3⟩ := h (by omega)
  exact ⟨g, o, h1, h2, (h3 k hk).1, (h3 k hk).2.1, (h3 k hk).2.2⟩

theorem len_back (a s : Nat) : ((a : Int) + (s : Int) - (a : Int) != (s : Int)) = false := by
  have e : (a : Int) + (s : Int) - (a : Int) = (s : Int) := by omega
  rw [e]
  simp
set_option maxHeartbeats 2000000 in
set_option maxRecDepth 100000 in
theorem walk_PressBack (w : World) (A : Option Addr) (its : List It) (c : Nat) (_hc : its.length ≤ c) (_hnil : A = none → c = 0) (hr : Its w w.heap.size A its) (_hw : ∀ it ∈ its, (Lit.int .i64 it.skip).wf = true) (hsz : ∀ it ∈ its, it.name.size ≤ 140737488351232)
    (A2 : Option Addr) (l : List UInt8) (c2 : Nat) (hc2 : l.length ≤ c2) (hnil2 : A2 = none → c2 = 0) (hr2 : Bs w 0 w.heap.size A2 l) (hm2 : c2 ≤ 140737488351232) :
    Calls Try.prog 6 #[.slice A its.length c, .slice A2 l.length c2] w fun e w' => e = .returned (.bool true) ∧ Below w.heap.size w w' := by
  by_cases hbig : 60 < its.length
  · clear hr _hw hsz hnil2 hr2 hm2 hc2 _hnil _hc
    go_enter Try.func6, Try.ntmps6
    go_wp2_with (go_at_call 9; refine (prWakes _).mono ?_; rintro e w5 ⟨rfl, B5⟩)
    go_ret
    exact ⟨rfl, B5⟩
  · obtain ⟨i0, hi, hz0, hz1, hz2⟩ := info_parts Try.infoByte
    obtain ⟨iN, hiN, zN0, zN1, zN2⟩ := info_parts Try.infoApiName
    obtain ⟨iP, hiP, zP0, zP1, zP2⟩ := info_parts Try.infoIntT
    have HR := Lib.hid hr
    have HSZ := Lib.hid hsz
    have HR2 := Lib.hid hr2
    have HN2 := Lib.hid hnil2
    have HC2 := Lib.hid hc2
    have hl2 : l.length ≤ 140737488351232 := by omega
    have hd60 : decide ((60 : Int) < (its.length : Int)) = false := by simp; omega
    clear hr _hw hsz hnil2 hr2 hm2 hc2 _hnil
    go_enter Try.func6, Try.ntmps6
    go_wp2_with (go_at_call 10; refine (pnew_any _).mono ?_; rintro e w2 ⟨rfl, rfl⟩)
    have H0 : Hid (BkW w [] [] [] [] (.slice none 0 0) (.slice none 0 0) (.slice none 0 0) (w.alloc (.cells #[.map none] 49)) ∧ BkP [] [] [] [] 0) := ⟨BkW.new w, BkP.nil⟩
    go_loopw [6, 7, 8, 9] (fun vb vat vn i wr => ∃ (k : Nat) (T : Tab) (b : List UInt8) (ats : List Nat) (ns : List (List UInt8)), i = .int .i64 k ∧ k ≤ its.length ∧ Hid (BkW w T b ats ns vb vat vn wr ∧ BkP T b ats ns k)) (fun _ _ _ i _ => its.length - (intOf i).toNat)
    case atStart => exact ⟨0, [], [], [], [], rfl, Nat.zero_le _, H0.out⟩
    case round =>
      obtain ⟨k, T, b, ats, ns, rfl, hk, HI⟩ := hrel
      obtain ⟨aB, cB, rfl⟩ := own_form HI.out.1.2.1
      by_cases hlt : k < its.length
      · obtain ⟨gI, oI, rfl, hgI, c0, c1, c2x⟩ := its_cell (HR.out.keep HI.out.1.2.2.2.2) hlt
        have hs1 := HSZ.out _ (List.getElem_mem hlt)
        have hsw := HI.out.1.2.2.2.2.size
        obtain ⟨s, hs⟩ : ∃ s, (its[k]'hlt).name = s := ⟨_, rfl⟩
        obtain ⟨pl, hpl⟩ : ∃ pl, (its[k]'hlt).plain = pl := ⟨_, rfl⟩
        rw [hs] at c1 hs1
        rw [hpl] at c2x
        clear c0
        have HK := Lib.hid (Check_any s wr (by omega))
        rcases hsp : Nm.split s.data.toList with _ | ls
        · rw [hsp] at HK
          clear hsp c2x
          go_wp2_with (first
            | (go_at_call 20; refine HK.out.mono ?_; rintro e' w4 ⟨rfl, B4⟩; have HB4 := Lib.hid B4; have hs4 := B4.size; clear B4))
          go_roundw
          case rel => exact ⟨k + 1, T, b, ats, ns, by go_num, by omega, HI.out.1.low HB4.out, HI.out.2.skip⟩
          case measure => simp [intOf]; omega
        · rw [hsp] at HK
          have HSP := Lib.hid hsp
          have HW := Lib.hid HI.out.1
          have HP := Lib.hid HI.out.2
          have hat : ats.length ≤ 60 := by have := HP.out.2.2.2.2; omega
          have hns : ns.length ≤ 60 := by have := HP.out.2.2.2.2; omega
          have hbl : b.length ≤ 15300 := by have := HP.out.2.2.1; omega
          have hs255 : s.size ≤ 255 := by
            have := (Nm.split_some.1 hsp).2.2
            have h2 : s.size = s.data.toList.length := by simp
            omega
          have HSZ2 : Hid (∀ W, Calls Try.prog 18 #[.string s] W fun e w' => e = .returned (.int .i64 (s.size : Nat)) ∧ Below W.heap.size W w') := fun W => by
            have := psize_any s W (by omega)
            rw [hsp] at this
            exact this
          have HCL : Hid (∀ W, Below w.heap.size w W → W.cell? ⟨gI, oI + k * 3 + 1, none⟩ = some (.string s) ∧ W.cell? ⟨gI, oI + k * 3 + 2, none⟩ = some (.bool pl)) := fun W hb => by
            obtain ⟨gJ, oJ, e, _, _, d1, d2⟩ := its_cell (HR.out.keep hb) hlt
            cases e
            rw [hs] at d1
            rw [hpl] at d2
            exact ⟨d1, d2⟩
          clear hsp HI hs hpl
          cases pl with
          | true =>
            go_wp2_with (first
              | (go_at_call 20; refine HK.out.mono ?_; rintro e' w4 ⟨rfl, B4⟩; replace HW := Lib.hid (HW.out.low B4); have c4 := HCL.out _ HW.out.2.2.2.2; clear B4)
              | (go_at_call 11; refine (bk_put true HW.out HP.out (by omega) HSP.out).mono ?_; rintro e' w5 ⟨A5, n5, c5, T5, b5, rfl, hn5, hx1, hx2, hx3, P5, W5⟩; have HP5 := Lib.hid P5; replace HW := Lib.hid W5; have c5x := HCL.out _ HW.out.2.2.2.2; have HN5 := Lib.hid hn5; replace hx3 := hx3 rfl; subst hx3; have hq5 := len_back b.length s.size; clear P5 W5 hn5)
              | (go_at_call 18; refine (HSZ2.out _).mono ?_; rintro e' w6 ⟨rfl, B6⟩; replace HW := Lib.hid (HW.out.low B6); have c6 := HCL.out _ HW.out.2.2.2.2; clear B6)
              | (at_builtin; refine wpList_append_new rfl (.tmp 106) (.tmp 109) _ rfl _ iP _ 8 Try.underlying28 hiP zP0 zP1 zP2 rfl w.heap.size w _ ats.length _ rfl HW.out.2.2.1 HW.out.2.2.2.2 (Nat.le_refl _) [.int .i64 (b.length : Nat)] (by simp [Value.oneCell']) _ 1 rfl rfl (by omega) (by omega) ?_; intro v9 w9 O9 B9 G9; replace HW := Lib.hid (HW.out.at_ O9 B9 G9); have c9 := HCL.out _ HW.out.2.2.2.2; clear O9 B9 G9)
              | (at_builtin; refine wpList_append_new rfl (.tmp 111) (.tmp 117) _ rfl _ iN _ 16 Try.underlying27 hiN zN0 zN1 zN2 rfl w.heap.size w _ ns.length _ rfl HW.out.2.2.2.1 HW.out.2.2.2.2 (Nat.le_refl _) [.string s] (by simp [Value.oneCell']) _ 1 rfl rfl (by omega) (by omega) ?_; intro v10 w10 O10 B10 G10; replace HW := Lib.hid (HW.out.name O10 B10 G10); clear O10 B10 G10))
            go_roundw
            case rel => exact ⟨k + 1, T5, b5, ats ++ [b.length], ns ++ [s.data.toList], by go_num, by omega, HW.out, HP5.out⟩
            case measure => simp [intOf]; omega
          | false =>
            go_wp2_with (first
              | (go_at_call 20; refine HK.out.mono ?_; rintro e' w4 ⟨rfl, B4⟩; replace HW := Lib.hid (HW.out.low B4); have c4 := HCL.out _ HW.out.2.2.2.2; clear B4)
              | (go_at_call 13; refine (bk_put false HW.out HP.out (by omega) HSP.out).mono ?_; rintro e' w5 ⟨A5, n5, c5, T5, b5, rfl, hn5, hx1, hx2, hx3, P5, W5⟩; have HP5 := Lib.hid P5; replace HW := Lib.hid W5; have c5x := HCL.out _ HW.out.2.2.2.2; have HN5 := Lib.hid hn5; clear hx3; clear P5 W5 hn5)
              | (go_at_call 18; refine (HSZ2.out _).mono ?_; rintro e' w6 ⟨rfl, B6⟩; replace HW := Lib.hid (HW.out.low B6); have c6 := HCL.out _ HW.out.2.2.2.2; clear B6)
              | (at_builtin; refine wpList_append_new rfl (.tmp 106) (.tmp 109) _ rfl _ iP _ 8 Try.underlying28 hiP zP0 zP1 zP2 rfl w.heap.size w _ ats.length _ rfl HW.out.2.2.1 HW.out.2.2.2.2 (Nat.le_refl _) [.int .i64 (b.length : Nat)] (by simp [Value.oneCell']) _ 1 rfl rfl (by omega) (by omega) ?_; intro v9 w9 O9 B9 G9; replace HW := Lib.hid (HW.out.at_ O9 B9 G9); have c9 := HCL.out _ HW.out.2.2.2.2; clear O9 B9 G9)
              | (at_builtin; refine wpList_append_new rfl (.tmp 111) (.tmp 117) _ rfl _ iN _ 16 Try.underlying27 hiN zN0 zN1 zN2 rfl w.heap.size w _ ns.length _ rfl HW.out.2.2.2.1 HW.out.2.2.2.2 (Nat.le_refl _) [.string s] (by simp [Value.oneCell']) _ 1 rfl rfl (by omega) (by omega) ?_; intro v10 w10 O10 B10 G10; replace HW := Lib.hid (HW.out.name O10 B10 G10); clear O10 B10 G10))
            go_roundw
            case rel => exact ⟨k + 1, T5, b5, ats ++ [b.length], ns ++ [s.data.toList], by go_num, by omega, HW.out, HP5.out⟩
            case measure => simp [intOf]; omega
      · obtain rfl : k = its.length := by omega
        obtain ⟨aN, cN, rfl⟩ := own_form HI.out.1.2.2.2.1
        have HW := Lib.hid HI.out.1
        obtain ⟨ps, hps⟩ : ∃ ps, ats ++ [b.length] = ps := ⟨_, rfl⟩
        obtain ⟨L, hL⟩ : ∃ L, b ++ l = L := ⟨_, rfl⟩
        have hch := HI.out.2.2.1
        rw [hps] at hch
        have hat : ats.length ≤ 60 := by have := HI.out.2.2.2.2; omega
        have hns : ns.length ≤ 60 := by have := HI.out.2.2.2.2; omega
        have hbl : b.length ≤ 15300 := by have := HI.out.2.2.2.1; omega
        have hLl : L.length ≤ 211106232532992 := by rw [← hL, List.length_append]; omega
        have hpn := hch.1
        have hTK := fun (j : Nat) (hj : j < ns.length) => hch.take hj l
        rw [hL] at hTK
        have HTK := Lib.hid hTK
        have HPN := Lib.hid hpn
        have HPS := Lib.hid hps
        have HLL := Lib.hid hL
        clear hps hL hch hpn hTK HI
        go_wp2_with (first
          | (at_builtin; refine wpList_append_new rfl (.tmp 120) (.tmp 123) _ rfl _ iP _ 8 Try.underlying28 hiP zP0 zP1 zP2 rfl w.heap.size w _ ats.length _ rfl HW.out.2.2.1 HW.out.2.2.2.2 (Nat.le_refl _) [.int .i64 (b.length : Nat)] (by simp [Value.oneCell']) _ 1 rfl rfl (by omega) (by omega) ?_; intro v9 w9 O9 B9 G9; have hW9 := HW.out.at_ O9 B9 G9; rw [HPS.out] at hW9; obtain ⟨aT, cT, rfl⟩ := own_form hW9.2.2.1; replace HW := Lib.hid hW9; have hs9 := B9.size; clear O9 B9 G9 hW9)
          | (at_builtin; refine wpList_append_bs rfl (.const (.slice none 0 0)) (.tmp 125) _ rfl w.heap.size _ i0 _ Try.underlying31 hi hz0 hz1 hz2 rfl (.slice none 0 0) 0 [] rfl (World.ownsRow_nil _ _ _ _) w.heap.size w9.heap.size aB cB b rfl (Bs.of_own HW.out.2.1) (own_nil0 HW.out.2.1) (by omega) hs9 ?_; intro v3 w3 O3 G3; replace HW := Lib.hid (HW.out.low (below_self G3 (Nat.le_refl _) (fun k hk => by simp [Value.ownBlock] at hk))); have HO3 := Lib.hid (own_to O3 (Nat.zero_add _) (List.nil_append _)); clear O3 G3)
          | (at_builtin; refine wpList_append_bs_wide rfl (.tmp 126) (.tmp 127) _ rfl w.heap.size _ i0 _ Try.underlying31 hi hz0 hz1 hz2 rfl v3 b.length (bv b) rfl HO3.out 0 w.heap.size A2 c2 l rfl (HR2.out.keep HW.out.2.2.2.2) HN2.out (by omega) HW.out.2.2.2.2.size ?_; intro v4 w4 O4 G4; have hA4 := HW.out.all HO3.out O4 G4; rw [HLL.out] at hA4; obtain ⟨aL, cL, rfl⟩ := own_form hA4.1; have H2 := Lib.hid hA4; clear O4 G4 hA4))
        go_loopw [13] (fun i wr => ∃ j : Nat, i = .int .i64 j ∧ j ≤ ns.length ∧ Hid (Bk2 w L ps ns (.slice aL L.length cL) (.slice aT ps.length cT) (.slice aN ns.length cN) wr)) (fun i _ => ns.length - (intOf i).toNat)
        case atStart => exact ⟨0, rfl, Nat.zero_le _, H2.out⟩
        case round =>
          obtain ⟨j, rfl, hj, HI⟩ := hrel
          by_cases hjl : j < ns.length
          · obtain ⟨p, q, hp, hq, hpb, hqb, htk⟩ := HTK.out j hjl
            obtain ⟨gT, rfl, hcT, hTc⟩ := own_at HI.out.2.1 (k := j) (by rw [HPN.out]; omega)
            obtain ⟨gN, rfl, hcN, hNc⟩ := own_at HI.out.2.2.1 hjl
            have d0 := hTc j (.int .i64 (p : Nat)) (by simp [ints, hp])
            have d1 := hTc (j + 1) (.int .i64 (q : Nat)) (by simp [ints, hq])
            have d2 := hNc j (sv (ns[j]'hjl)) (by simp [svs, hjl])
            have hj0 : j < ps.length := by rw [HPN.out]; omega
            have hj1 : j + 1 < ps.length := by rw [HPN.out]; omega
            have hT := prTake_any aL L cL (p : Nat) wr (own_le HI.out.1) hLl 0 ((Bs.of_own HI.out.1).more (Nat.zero_le _) (Nat.le_refl _))
            rw [htk] at hT
            have HT := Lib.hid hT
            have hcells : ∀ W, Below wr.heap.size wr W → W.cell? ⟨gT, j, none⟩ = some (.int .i64 (p : Nat)) ∧ W.cell? ⟨gT, j + 1, none⟩ = some (.int .i64 (q : Nat)) ∧ W.cell? ⟨gN, j, none⟩ = some (sv (ns[j]'hjl)) := fun W hb =>
              ⟨cell_later hb d0, cell_later hb d1, cell_later hb d2⟩
            have HCL := Lib.hid hcells
            clear hp hq hTc hNc htk hT hcells d1 d2 HTK
            go_wp2_with (go_at_call 16; refine HT.out.mono ?_; rintro e w5 ⟨rfl, B5⟩; have HI5 := Lib.hid (HI.out.low B5); have c5 := HCL.out _ B5; clear B5)
            go_roundw
            case rel => exact ⟨j + 1, by go_num, by omega, HI5.out⟩
            case measure => simp [intOf]; omega
          · obtain rfl : j = ns.length := by omega
            have HB := Lib.hid HI.out.2.2.2
            have hsb := HB.out.size
            go_wp2_with (go_at_call 9; refine (prWakes _).mono ?_; rintro e w5 ⟨rfl, B5⟩)
            go_ret
            exact ⟨rfl, HB.out.trans (B5.mono hsb)⟩

namespace pressBack
open Go.ChangeShapes Go.WideShapes Go.ChangeAt
open Go.ChangeMaps (open_string shut_string)
set_option maxRecDepth 100000 in
theorem contract (H : Type) (enc : TypeId × Value → H) (W : World) (base : Nat) (args : Array Value) (ds gs : List (DataW H)) (before : List MemPlace)
    (hval : ∀ (j : Nat) t v, Try.f6.params[j]? = some t → args[j]? = some v → Value.okWide Try.prog W .any base t v)
    (hW : DataW.Whole enc Try.prog Try.f6.params.toList Rows.pressBackSpec.vars false W args.toList ds gs before)
    (hR : (DataW.weightsEach Try.prog (Try.f6.params.toList ++ (OpenSpec.ofChange Rows.pressBackSpec).bare.plain.varTypes Try.prog) (ds ++ gs)).all (· ≤ reachBytes) = true) :
    Calls Try.prog 6 args W fun e W' => ∃ v, e = .returned v ∧ Rows.pressBackSpec.post enc Try.prog Try.f6 false true false false W args v W' := by
  have hW' := hW
  obtain ⟨p, q, hA0, hV, rfl, hfz, hnd⟩ := hW
  have hA : DataW.TrodAll enc Try.prog W 0 (fun _ => true) true Try.f6.params.toList args.toList ds p := hA0
  have HS := trodAll_stays (W' := W) (sp := fun _ => true) out (by kernel_rfl) hA
  have HA := Lib.hid hA
  rw [Try.params6] at hA hval hR
  obtain ⟨v0, vs0, d0, ds0, p0, q0, hargs0, rfl, rfl, h0, r0⟩ := trodAll_cons hA
  obtain ⟨v1, vs1, d1, ds1, p1, q1, hargs1, rfl, rfl, h1, r1⟩ := trodAll_cons r0
  obtain ⟨rfl, rfl, rfl⟩ := trodAll_nil r1
  obtain rfl : args = #[v0, v1] := by cases args; simp_all
  obtain ⟨rfl, rfl⟩ := trodVars_none hV
  obtain ⟨A0, l, c0, rfl, hc0, hn0, hb0, hw0, hm0⟩ := open_items Try.underlying22 Try.underlying34 rfl Try.underlying3 Try.underlying32 Try.underlying4 (by kernel_rfl) (by kernel_rfl) (hval 0 22 v0 rfl rfl) h0
  obtain ⟨A1, behind, c1, rfl, hc1, hn1, hb1, hm1⟩ := open_bs Try.underlying31 Try.underlying5 (by kernel_rfl) (by kernel_rfl) (hval 1 31 v1 rfl rfl) h1
  clear hA0 HS
  obtain ⟨k0, s0⟩ := reach_cons hR
  obtain ⟨k1, s1⟩ := reach_cons s0
  refine (walk_PressBack W A0 l c0 hc0 hn0 hb0 hw0 (hm0 k0) A1 behind c1 hc1 hn1 hb1 (hm1 k1)).mono fun e W' ⟨he, hb⟩ => ?_
  subst he
  have hlt := hW'.lt
  refine ⟨_, rfl, post_low hW' (pa := _) (pv := []) rfl hb (fun _ _ _ => trodAll_cons_mk (shut_bool Try.underlying4 _) trodAll_mk0) (fun sp hsp => ?_) (fun _ _ => rfl) (ok_one (by kernel_rfl) rfl (okWide_bool_mk Try.underlying4 _))⟩
  exact trodAll_stays out (by kernel_rfl) HA.out (fun x hx => hb.same (hlt x (List.mem_append_left _ hx))) (fun x hx => hsp x (List.mem_append_left _ hx))

noncomputable def wargs : Array Value := #[.slice none 0 0, .slice none 0 0]
noncomputable def lw (os : Os) : World := World.settled Try.prog os
theorem reads (os : Os) {H : Type} (enc : TypeId × Value → H) : ∃ places, DataW.whole enc Try.prog ((lw os).forCall (fun _ _ => 0) ⟨#[], wargs, []⟩).memory Try.f6.params.toList Rows.pressBackSpec.vars false wargs.toList 8 = some ([.nil, .nil], [], places) :=
  ⟨[], by kernel_rfl⟩
set_option maxRecDepth 100000 in
theorem lifted (os : Os) (started : os.Started) (H : Type) (enc : TypeId × Value → H) (G : Stop.Interp) :
    ReturnsInHanded {} Try.checked os 6 .any ((OpenSpec.ofChange Rows.pressBackSpec).preRow enc Try.prog Try.f6 Rows.pressBackRow.domain false Rows.pressBackRow.laid) (((OpenSpec.ofChange Rows.pressBackSpec).at G).post enc Try.prog Try.f6 false true false false) := by
  obtain ⟨places, hx⟩ := reads os enc
  refine returnsInHanded_of_row (C := Try.checked) (s := OpenSpec.ofChange Rows.pressBackSpec) own started (by kernel_rfl) Try.func6
    (witness_row_atRef (enc := enc) (C := Try.checked) false (lw os) wargs rfl (by kernel_rfl) (by kernel_rfl) (by kernel_rfl)
      (OpenSpec.preRow_of_cond 8 hx (by kernel_rfl) (fun k hk => by cases hk) (by kernel_rfl) (laidMetH_nil _ _))) ?_
  intro W base args ds gs before hval hW _ _ hR _ _ _
  exact contract H enc W base args ds gs before hval hW hR
/-- THE STATEMENT. -/
theorem said : Rows.PressBackSaid :=
  OpenClaim.holds_of_cond 6 Try.f6 rfl rfl rfl rfl rfl rfl rfl ⟨rfl, rfl, rfl, rfl, rfl⟩ rfl rfl rfl rfl rfl (by kernel_rfl) Try.func6 (by kernel_rfl)
    (of_decide_eq_true (by kernel_rfl)) (by unfold Func.isWrapper; first | (rw [if_pos (by decide +kernel)]; kernel_rfl) | (rw [if_neg (by decide +kernel)]; exact ⟨rfl, rfl⟩))
    (fun os started H enc _ G => by rw [OpenClaim.pre_eq_preRow]; exact lifted os started H enc G)
end pressBack
end Go.Proofs.Ytfekmolgiohegaa
