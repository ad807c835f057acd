/- Texts of the proofs, merged. -/
import Derived.Test.YtbipcflmmfipbaaDoorG26
import Derived.Deep.RegionHeld3
/- RdataBack: whatever items and whatever bytes are handed in, the call returns true, and the arguments read behind it as before (where they are at most 1048576 letters): the walk. -/
namespace Go.Proofs.YtbipcflmmfipbaaDoor
open Go.RowKit

theorem alloc_below {wr w5 : World} {o : Obj} (B5 : Below (wr.alloc o).drew.heap.size (wr.alloc o).drew w5) : Below wr.heap.size wr w5 :=
  ((Below.refl _ wr).alloc (Nat.le_refl _) o).drew.trans (B5.mono (by show wr.heap.size ≤ (wr.alloc o).heap.size; simp))
theorem alloc_has {wr w5 : World} {t : TypeId} {cs : Array Value} (B5 : Below (wr.alloc (.cells cs t)).drew.heap.size (wr.alloc (.cells cs t)).drew w5) : Has w5 wr.heap.size t cs :=
  Has.below (w := (wr.alloc (.cells cs t)).drew) (Has.fresh wr t cs) B5 (by show _ < (wr.alloc _).heap.size; simp)
theorem zero_cells {W : World} {g : Nat} {t : TypeId} (h : Has W g t #[.string ⟨#[]⟩, .string ⟨#[]⟩, .string ⟨#[]⟩, .int .u32 0, .int .u32 0, .int .u32 0, .int .u32 0, .int .u32 0]) :
    W.cell? ⟨g, 0, none⟩ = some (.string ⟨#[]⟩) ∧ W.cell? ⟨g, 1, none⟩ = some (.string ⟨#[]⟩) ∧ W.cell? ⟨g, 2, none⟩ = some (.string ⟨#[]⟩) ∧ W.cell? ⟨g, 3, none⟩ = some (.int .u32 0) ∧ W.cell? ⟨g, 4, none⟩ = some (.int .u32 0) ∧ W.cell? ⟨g, 5, none⟩ = some (.int .u32 0) ∧ W.cell? ⟨g, 6, none⟩ = some (.int .u32 0) ∧ W.cell? ⟨g, 7, none⟩ = some (.int .u32 0) := by
  refine ⟨?_, ?_, ?_, ?_, ?_, ?_, ?_, ?_⟩ <;> (rw [h.cell]; rfl)
theorem zero_free {W : World} {g : Nat} {t : TypeId} {cs : Array Value} (h : Has W g t cs) :
    W.frozen? ⟨g, 0, none⟩ = false ∧ W.frozen? ⟨g, 1, none⟩ = false ∧ W.frozen? ⟨g, 2, none⟩ = false ∧ W.frozen? ⟨g, 3, none⟩ = false ∧ W.frozen? ⟨g, 4, none⟩ = false ∧ W.frozen? ⟨g, 5, none⟩ = false ∧ W.frozen? ⟨g, 6, none⟩ = false ∧ W.frozen? ⟨g, 7, none⟩ = false :=
  ⟨h.free 0, h.free 1, h.free 2, h.free 3, h.free 4, h.free 5, h.free 6, h.free 7⟩
theorem rd_nms {t : Nat} {d : Dv} (hok : Rd.ok t d.dt = true) : ∀ k (hk : k < (Rd.parts t).length), Nms d (lbs d.host) (lbs d.mail) ((Rd.parts t)[k]'hk) := by
  intro k hk
  have hfa : Rd.fitAll d.dt (Rd.parts t) 0 = true := by
    rw [Rd.ok_parts, Bool.and_eq_true] at hok
    exact hok.1
  have hx := fitAll_at hfa hk
  refine ⟨fun h => lbs_of ?_, fun h => lbs_of ?_⟩
  · rcases h with h | h <;> rw [h] at hx <;> simpa [Rd.fit, Dv.dt] using hx
  · rw [h] at hx
    simpa [Rd.fit, Dv.dt] using hx
set_option maxHeartbeats 4000000 in
set_option maxRecDepth 100000 in
theorem walk_RdataBack (w : World) (hL : LayA w) (A : Option Addr) (its : List DIt) (c : Nat) (_hc : its.length ≤ c) (_hnil : A = none → c = 0) (hr : DIts w w.heap.size A its) (hw : ∀ it ∈ its, (Lit.int .i64 it.skip).wf = true ∧ it.ty ≤ 65535 ∧ it.data.fits ∧ it.data.raw.size + it.data.host.size + it.data.mail.size ≤ 1048576)
    (A2 : Option Addr) (l : List UInt8) (c2 : Nat) (_hc2 : l.length ≤ c2) (hnil2 : A2 = none → c2 = 0) (hr2 : Bs w 0 w.heap.size A2 l) (_hm2 : c2 ≤ 140737488351232) (hl2 : l.length ≤ 1048576) :
    Calls Tryd.prog 4 #[.slice A its.length c, .slice A2 l.length c2] w fun e w' => e = .returned (.bool true) ∧ Below w.heap.size w w' := by
  have HWK := Lib.hid (fun (W : World) (h : Below w.heap.size w W) => rdWakes W (hL.below h (Nat.le_refl _)))
  have HLR := Lib.hid (fun (W : World) (h : Below w.heap.size w W) => (hL.below h (Nat.le_refl _)).1)
  clear hL
  by_cases hbig : 40 < its.length
  · clear hr hw _hnil _hc _hc2 hnil2 hr2 _hm2 hl2
    go_enter Tryd.func4, Tryd.ntmps4
    go_wp2_with (go_at_call 13; refine (HWK.out _ (Below.refl _ _)).mono ?_; rintro e w5 ⟨rfl, B5⟩)
    go_ret
    exact ⟨rfl, B5⟩
  · obtain ⟨i0, hi, hz0, hz1, hz2⟩ := info_parts Tryd.infoByte
    obtain ⟨iP, hiP, zP0, zP1, zP2⟩ := info_parts Tryd.infoIntT
    obtain ⟨iK, hiK, zK0, zK1, zK2⟩ := info_parts Tryd.infoDItem
    have HR := Lib.hid hr
    have HWF := Lib.hid hw
    have HR2 := Lib.hid hr2
    have HN2 := Lib.hid hnil2
    have hd40 : decide ((40 : Int) < (its.length : Int)) = false := by simp; omega
    clear hr hw _hnil hr2 hnil2 _hc2 _hm2
    go_enter Tryd.func4, Tryd.ntmps4
    go_wp2_with (go_at_call 14; refine (pnew_any _).mono ?_; rintro e w2 ⟨rfl, rfl⟩)
    have H0 : Hid (RbW w [] [] [] [] (.slice none 0 0) (.slice none 0 0) (.slice none 0 0) (w.alloc (.cells #[.map none] 92)) ∧ RbP [] [] [] [] 0) := ⟨RbW.new w, RbP.nil⟩
    go_loopw [6, 7, 8, 9] (fun vb vat vk i wr => ∃ (k : Nat) (T : Tab) (b : List UInt8) (ats : List Nat) (ks : List DIt), i = .int .i64 k ∧ k ≤ its.length ∧ Hid (RbW w T b ats ks vb vat vk wr ∧ RbP T b ats ks k)) (fun _ _ _ i _ => its.length - (intOf i).toNat)
    case atStart => exact ⟨0, [], [], [], [], rfl, Nat.zero_le _, H0.out⟩
    case round =>
      obtain ⟨k, T, b, ats, ks, rfl, hk, HI⟩ := hrel
      obtain ⟨aB, cB, rfl⟩ := HI.out.1.2.1.form
      by_cases hlt : k < its.length
      · obtain ⟨gI, oI, rfl, hgI, _⟩ := dits_cit (HR.out.keep HI.out.1.2.2.2.2) hlt
        obtain ⟨_, hty, hfi, hsz⟩ := HWF.out _ (List.getElem_mem hlt)
        have hsw := HI.out.1.2.2.2.2.size
        obtain ⟨it, hit⟩ : ∃ it, its[k]'hlt = it := ⟨_, rfl⟩
        rw [hit] at hty hfi hsz
        have HPD : Hid (PdD it.ty it.data) := ⟨hty, hfi, by omega, by omega, by omega⟩
        have HCL : Hid (∀ W, Below w.heap.size w W → CIt W gI (oI + k * 10) it.skip it.ty it.data) := fun W hb => by
          obtain ⟨gJ, oJ, e, _, d1⟩ := dits_cit (HR.out.keep hb) hlt
          cases e
          rw [hit] at d1
          exact d1
        have hat : ats.length ≤ 60 := by have := HI.out.2.2.2.2.2; omega
        have hns : ks.length ≤ 60 := by have := HI.out.2.2.2.2.2; omega
        have hva : it.data.val = .agg #[.string it.data.raw, .string it.data.host, .string it.data.mail, .int .u32 it.data.n0, .int .u32 it.data.n1, .int .u32 it.data.n2, .int .u32 it.data.n3, .int .u32 it.data.n4] := rfl
        clear hit hfi hsz hty
        have HW0 := Lib.hid (HI.out.1.low ((Below.refl _ _).drew))
        have HP0 := Lib.hid HI.out.2
        obtain ⟨e0, e1, e2, e3, e4, e5, e6, e7, e8, e9⟩ := HCL.out _ HW0.out.2.2.2.2
        by_cases hok : Rd.ok it.ty it.data.dt = true
        · have C1 := Lib.hid (rb_put HW0.out (HLR.out _ HW0.out.2.2.2.2) HP0.out (by omega) HPD.out hok)
          rw [hva] at C1
          clear HI
          go_upto_region 10 with fail
          go_region_with (go_at_call 15; (with_reducible refine C1.out.mono ?_); rintro e' w3 ⟨v3, T3, b3, rfl, P3', t3, r3, rb3, ra3, rk3, B3'⟩; have HP3 := Lib.hid P3'; have HW3 : Hid (RbW w T3 b3 ats ks v3 _ _ w3.drew) := RbW.low ⟨t3, r3, ra3, rk3, B3'⟩ ((Below.refl _ _).drew); obtain ⟨f0, f1, f2, f3, f4, f5, f6, f7, f8, f9⟩ := HCL.out _ HW3.out.2.2.2.2; clear P3' t3 r3 rb3 ra3 rk3 B3')
          all_goals
            (have C2' := pdCheck_any it.ty it.data w3.drew HPD.out.1 (HLR.out _ HW3.out.2.2.2.2) HPD.out.2.1 HPD.out.2.2.1 HPD.out.2.2.2.1 HPD.out.2.2.2.2
             rw [hok, hva] at C2'
             have C2 : Hid (Calls Tryd.prog 16 #[.int .u16 it.ty, .agg #[.string it.data.raw, .string it.data.host, .string it.data.mail, .int .u32 it.data.n0, .int .u32 it.data.n1, .int .u32 it.data.n2, .int .u32 it.data.n3, .int .u32 it.data.n4]] w3.drew fun e w' => e = .returned (.int .i64 0) ∧ Below w3.drew.heap.size w3.drew w') := C2'
             clear C2'
             go_upto_region 11 with fail
             go_region_with (go_at_call 16; (with_reducible refine C2.out.mono ?_); rintro e' w4 ⟨rfl, B4⟩; have HW4 := Lib.hid (HW3.out.low B4); clear B4))
          all_goals
            (clear e0 e1 e2 e3 e4 e5 e6 e7 e8 e9 f0 f1 f2 f3 f4 f5 f6 f7 f8 f9
             go_wp2_with (first
               | (at_builtin; refine wpList_append_new rfl (.tmp 58) (.tmp 61) _ rfl _ iP _ 8 Tryd.underlying37 hiP zP0 zP1 zP2 rfl w.heap.size w _ ats.length _ rfl HW4.out.2.2.1 HW4.out.2.2.2.2 (Nat.le_refl _) [.int .i64 (b.length : Nat)] (by simp [Value.oneCell']) _ 1 rfl rfl (by omega) (by omega) ?_; intro v9 w9 O9 B9 G9; have HW9 := Lib.hid (HW4.out.at_ O9 B9 G9); obtain ⟨g0, g1, g2, _⟩ := HCL.out _ HW9.out.2.2.2.2; obtain ⟨g3, g4, g5, g6, g7, g8, g9⟩ := (HCL.out _ HW9.out.2.2.2.2).on; clear O9 B9 G9)
               | (at_builtin; refine wpList_append_newK rfl (.tmp 63) (.tmp 68) _ rfl _ iK _ 10 88 Tryd.underlying33 hiK zK0 zK1 zK2 rfl (by omega) w.heap.size w _ ks.length _ rfl HW9.out.2.2.2.1 HW9.out.2.2.2.2 (Nat.le_refl _) _ (by simp [Value.oneCell']) _ rfl rfl (by unfold maxLen; omega) (by omega) ?_; intro v10 w10 O10 B10 G10; have HW10 := Lib.hid (HW9.out.item (it := it) O10 B10 G10); clear O10 B10 G10))
             go_roundw
             case rel => exact ⟨k + 1, T3, b3, ats ++ [b.length], ks ++ [it], by go_num, by omega, HW10.out, HP3.out⟩
             case measure => simp [intOf]; omega)
        · have hno : Rd.ok it.ty it.data.dt = false := by simpa using hok
          have C1 := Lib.hid (rb_no HW0.out (HLR.out _ HW0.out.2.2.2.2) HPD.out hno)
          rw [hva] at C1
          clear HI hok
          go_upto_region 10 with fail
          go_region_with (go_at_call 15; (with_reducible refine C1.out.mono ?_); rintro e' w3 ⟨rfl, W3'⟩; have HW3 := Lib.hid (W3'.low ((Below.refl _ _).drew)); obtain ⟨f0, f1, f2, f3, f4, f5, f6, f7, f8, f9⟩ := HCL.out _ HW3.out.2.2.2.2; clear W3')
          all_goals
            (have C2' := pdCheck_any it.ty it.data w3.drew HPD.out.1 (HLR.out _ HW3.out.2.2.2.2) HPD.out.2.1 HPD.out.2.2.1 HPD.out.2.2.2.1 HPD.out.2.2.2.2
             rw [hno, hva] at C2'
             have C2 : Hid (Calls Tryd.prog 16 #[.int .u16 it.ty, .agg #[.string it.data.raw, .string it.data.host, .string it.data.mail, .int .u32 it.data.n0, .int .u32 it.data.n1, .int .u32 it.data.n2, .int .u32 it.data.n3, .int .u32 it.data.n4]] w3.drew fun e w' => e = .returned (.int .i64 40) ∧ Below w3.drew.heap.size w3.drew w') := C2'
             clear C2'
             go_upto_region 11 with fail
             go_region_with (go_at_call 16; (with_reducible refine C2.out.mono ?_); rintro e' w4 ⟨rfl, B4⟩; have HW4 := Lib.hid (HW3.out.low B4); clear B4))
          all_goals
            (clear e0 e1 e2 e3 e4 e5 e6 e7 e8 e9 f0 f1 f2 f3 f4 f5 f6 f7 f8 f9
             go_wp2
             go_roundw
             case rel => exact ⟨k + 1, T, b, ats, ks, by go_num, by omega, HW4.out, HP0.out.skip⟩
             case measure => simp [intOf]; omega)
      · obtain rfl : k = its.length := by omega
        obtain ⟨aK, cK, rfl⟩ := own_formK HI.out.1.2.2.2.1
        have HW := Lib.hid HI.out.1
        obtain ⟨ps, hps⟩ : ∃ ps, ats ++ [b.length] = ps := ⟨_, rfl⟩
        obtain ⟨L, hL⟩ : ∃ L, b ++ l = L := ⟨_, rfl⟩
        have hch := HI.out.2.2.1
        rw [hps] at hch
        have hat : ats.length ≤ 60 := by have := HI.out.2.2.2.2.2; omega
        have hns : ks.length ≤ 60 := by have := HI.out.2.2.2.2.2; omega
        have hbl : b.length ≤ 20000000 := by have := HI.out.2.2.2.1; omega
        have hLl : L.length ≤ 30000000 := by rw [← hL, List.length_append]; omega
        have hbL : b.length ≤ L.length := by rw [← hL, List.length_append]; omega
        have hpn := hch.1
        have HCH := Lib.hid (hch.2)
        have HPN := Lib.hid hpn
        have HPS := Lib.hid hps
        have HLL := Lib.hid hL
        obtain ⟨_, _, eA, _, nB, BB⟩ := HI.out.1.2.1.rds
        cases eA
        have HBB := Lib.hid BB
        have HNB := Lib.hid nB
        have hs9x := HI.out.1.2.2.2.2.size
        clear hps hL hch hpn HI BB nB
        go_wp2_with (first
          | (at_builtin; refine wpList_append_new rfl (.tmp 71) (.tmp 74) _ rfl _ iP _ 8 Tryd.underlying37 hiP zP0 zP1 zP2 rfl w.heap.size w _ ats.length _ rfl HW.out.2.2.1 HW.out.2.2.2.2 (Nat.le_refl _) [.int .i64 (b.length : Nat)] (by simp [Value.oneCell']) _ 1 rfl rfl (by omega) (by omega) ?_; intro v9 w9 O9 B9 G9; have hW9 := HW.out.at_ O9 B9 G9; rw [HPS.out] at hW9; obtain ⟨aT, cT, rfl⟩ := own_form hW9.2.2.1; replace HW := Lib.hid hW9; have hs9 := B9.size; clear O9 B9 G9 hW9)
          | (at_builtin; refine wpList_append_bs rfl (.const (.slice none 0 0)) (.tmp 76) _ rfl w.heap.size _ i0 _ Tryd.underlying34 hi hz0 hz1 hz2 rfl (.slice none 0 0) 0 [] rfl (World.ownsRow_nil _ _ _ _) 0 w9.heap.size aB cB b rfl (rowo_bs HW.out.2.1) HNB.out (by omega) hs9 ?_; intro v3 w3 O3 G3; replace HW := Lib.hid (HW.out.low (below_self G3 (Nat.le_refl _) (fun k hk => by simp [Value.ownBlock] at hk))); have HO3 := Lib.hid (own_to O3 (Nat.zero_add _) (List.nil_append _)); clear O3 G3)
          | (at_builtin; refine wpList_append_bs rfl (.tmp 77) (.tmp 78) _ rfl w.heap.size _ i0 _ Tryd.underlying34 hi hz0 hz1 hz2 rfl v3 b.length (bv b) rfl HO3.out 0 w.heap.size A2 c2 l rfl (HR2.out.keep HW.out.2.2.2.2) HN2.out (by omega) HW.out.2.2.2.2.size ?_; intro v4 w4 O4 G4; have hA4 := HW.out.all HO3.out O4 G4; rw [HLL.out] at hA4; obtain ⟨aL, cL, rfl⟩ := own_form hA4.1; have H2 := Lib.hid hA4; clear O4 G4 hA4))
        go_loopw [13] (fun i wr => ∃ j : Nat, i = .int .i64 j ∧ j ≤ ks.length ∧ Hid (Rb2 w L ps ks (.slice aL L.length cL) (.slice aT ps.length cT) (.slice aK ks.length cK) wr)) (fun i _ => ks.length - (intOf i).toNat)
        case atStart => exact ⟨0, rfl, Nat.zero_le _, H2.out⟩
        case round =>
          obtain ⟨j, rfl, hj, HI⟩ := hrel
          by_cases hjl : j < ks.length
          · obtain ⟨q, hp, hq, hPD, hok, hall⟩ := HCH.out j hjl
            obtain ⟨gT, rfl, hcT, hTc⟩ := own_at HI.out.2.1 (k := j) (by rw [HPN.out]; omega)
            obtain ⟨gK, rfl, hgK, hKc⟩ := kit_cells HI.out.2.2.1 hjl
            obtain ⟨ad1, ad2, ad3⟩ := own_ad HI.out.1 rfl
            have hbs : Bs wr 0 wr.heap.size aL L := (Bs.of_own HI.out.1).more (Nat.zero_le _) (Nat.le_refl _)
            have d0 := hTc j (.int .i64 (q 0 : Nat)) (by simp [ints, hp])
            have d1 := hTc (j + 1) (.int .i64 (q 7 : Nat)) (by simp [ints, hq])
            obtain ⟨it, hit⟩ : ∃ it, ks[j]'hjl = it := ⟨_, rfl⟩
            rw [hit] at hPD hok hall hKc
            have hall2 : Rd.All L it.data.dt (lbs it.data.host) (lbs it.data.mail) (Rd.parts it.ty) q := by rw [← HLL.out]; exact hall.more l
            have hq07 := hall2.up 0 7 (by omega) (by omega)
            have hq7 := hall2.top (j := 7) (by omega)
            have hra := ok_raw hok
            have hrl : it.data.dt.raw.length = it.data.raw.size := by simp [Dv.dt]
            have hT : ∀ W, Below wr.heap.size wr W → Calls Tryd.prog 17 #[.slice aL L.length cL, .int .i64 (q 0 : Nat), .int .i64 (q 7 - q 0 : Nat), .int .u16 it.ty] W fun e w' => e = .returned (.tuple #[it.data.val, .int .i64 0]) ∧ Below W.heap.size W w' := fun W hW =>
              pdTake_any it.ty it.data _ _ aL L cL (q 0) (q 7 - q 0) q W hPD.1 (HLR.out _ (HI.out.2.2.2.trans (hW.mono HI.out.2.2.2.size))) ad1 ad2 ad3 (by omega) ((hbs.keep hW).more (Nat.le_refl _) hW.size) rfl (by omega) hall2 hok hPD.2.1 (by omega) hPD.2.2.2.1 hPD.2.2.2.2 (rd_nms hok)
            have e70 : ((q 7 - q 0 : Nat) : Int) = (q 7 : Int) - (q 0 : Int) := by omega
            rw [e70] at hT
            have hKf : ∀ W, Below wr.heap.size wr W → CIt W gK (j * 10) it.skip it.ty it.data := fun W hb => by
              obtain ⟨k0, k1, k2, k3, k4, k5, k6, k7, k8, k9⟩ := hKc
              exact ⟨(hb.cell hgK).trans k0, (hb.cell hgK).trans k1, (hb.cell hgK).trans k2, (hb.cell hgK).trans k3, (hb.cell hgK).trans k4, (hb.cell hgK).trans k5, (hb.cell hgK).trans k6, (hb.cell hgK).trans k7, (hb.cell hgK).trans k8, (hb.cell hgK).trans k9⟩
            have HKF := Lib.hid hKf
            have hc1 := hKc.2.1
            generalize q 0 = p0 at *
            generalize q 7 = p7 at *
            have hw1 : IntKind.i64.wrap ((p7 : Int) - (p0 : Int)) = (p7 : Int) - (p0 : Int) := by rw [IntKind.wrap_i64]; omega
            have hw2 : IntKind.i64.wrap ((j : Int) + 1) = (j : Int) + 1 := by rw [IntKind.wrap_i64]; omega
            have hj0 : j < ps.length := by rw [HPN.out]; omega
            have hj1 : j + 1 < ps.length := by rw [HPN.out]; omega
            have b1 : (j : Int) < (ps.length : Int) := by omega
            have b2 : (j : Int) + 1 < (ps.length : Int) := by omega
            have b3 : ¬ ((j : Int) + 1 < 0) := by omega
            have b4 : (0 : Int) ≤ (j : Int) + 1 := by omega
            have b5 : ((j : Int) + 1).toNat = j + 1 := by omega
            have b6 : (j : Int) < (ks.length : Int) := by omega
            have hva : it.data.val = .agg #[.string it.data.raw, .string it.data.host, .string it.data.mail, .int .u32 it.data.n0, .int .u32 it.data.n1, .int .u32 it.data.n2, .int .u32 it.data.n3, .int .u32 it.data.n4] := rfl
            rw [hva] at hT
            have hgT : gT < wr.heap.size := World.block_lt_of_cell? _ _ d0
            have hks : ∀ W, Below wr.heap.size wr W → (W.cell? ⟨gT, j, none⟩ = some (.int .i64 (p0 : Nat)) ∧ W.cell? ⟨gT, j + 1, none⟩ = some (.int .i64 (p7 : Nat)) ∧ W.cell? ⟨gK, j * 10 + 1, none⟩ = some (.int .u16 (it.ty : Nat))) ∧ Below wr.heap.size wr W := fun W hb => ⟨⟨(hb.cell hgT).trans d0, (hb.cell hgT).trans d1, (hb.cell hgK).trans hc1⟩, hb⟩
            have HKS := Lib.hid hks
            have HT1 := Lib.hid (hT wr.drew ((Below.refl _ _).drew))
            have HT2 := Lib.hid (hT (wr.alloc (.cells #[.string ⟨#[]⟩, .string ⟨#[]⟩, .string ⟨#[]⟩, .int .u32 0, .int .u32 0, .int .u32 0, .int .u32 0, .int .u32 0] 27)).drew ((Below.refl _ _).alloc (Nat.le_refl _) _).drew)
            have hi8 : (Tryd.prog.info? 27).map (·.size) = some 8 := by kernel_rfl
            have HI8 := Lib.hid hi8
            clear hi8
            clear hT hall hall2 hra hrl hok hPD hit hbs ad1 ad2 ad3 hTc hp hq hKc hKf e70 HCH hva hks d0 d1 hc1
            go_upto_region 22 with fail
            refine wp_region_noPanic ?_
            refine wp_region_held_drew (S := (fun W => (W.cell? ⟨gT, j, none⟩ = some (.int .i64 (p0 : Nat)) ∧ W.cell? ⟨gT, j + 1, none⟩ = some (.int .i64 (p7 : Nat)) ∧ W.cell? ⟨gK, j * 10 + 1, none⟩ = some (.int .u16 (it.ty : Nat))) ∧ Below wr.heap.size wr W)) (by kernel_rfl) ?hrb1 (fun hHeld => ?_)
            case hrb1 =>
              try dsimp only
              (first | assumption | (with_reducible exact HKS.out _ (Below.refl _ _).drew) | (with_reducible exact HKS.out _ HB5.out) | (with_reducible exact HKS.out _ (HB5.out.alloc HB5.out.size _)) | (with_reducible exact HKS.out _ (((Below.refl wr.heap.size wr).alloc (Nat.le_refl _) _).drew)) | (with_reducible exact HKS.out _ (below_setRow HB5.out (Nat.le_refl _) _)) | (with_reducible exact HKS.out _ (below_setRow (HB5.out.alloc HB5.out.size _) HB5.out.size _)) | exact HKS.out _ (((Below.refl wr.heap.size wr).alloc (Nat.le_refl _) _).drew))
            refine wpAnyH_take (i := 0) (oi := { dst := some 87, op := Go.Op.move (Go.Operand.tmp 12), type := 34, pos := "outright.go:33", after := #[], guard := none }) (v := ?vrb2) rfl (by kernel_rfl) (by kernel_rfl) (by kernel_rfl) (fun _ _ _ h => h) (Or.inl ⟨by rfl, ?hrb2⟩) (by assumption) ?_
            case hrb2 =>
              intro w hSw
              try dsimp only at hSw
              go_simp
              try with_reducible rfl
            try simp only [Act.put, List.setIfInBounds_toArray, List.set_cons_zero, List.set_cons_succ]
            refine wpAnyH_take (i := 1) (oi := { dst := some 88, op := Go.Op.move (Go.Operand.tmp 7), type := 37, pos := "outright.go:33", after := #[], guard := none }) (v := ?vrb3) rfl (by kernel_rfl) (by kernel_rfl) (by kernel_rfl) (fun _ _ _ h => h) (Or.inl ⟨by rfl, ?hrb3⟩) (by assumption) ?_
            case hrb3 =>
              intro w hSw
              try dsimp only at hSw
              go_simp
              try with_reducible rfl
            try simp only [Act.put, List.setIfInBounds_toArray, List.set_cons_zero, List.set_cons_succ]
            refine wpAnyH_take (i := 2) (oi := { dst := some 89, op := Go.Op.move (Go.Operand.tmp 13), type := 3, pos := "outright.go:33", after := #[], guard := none }) (v := ?vrb4) rfl (by kernel_rfl) (by kernel_rfl) (by kernel_rfl) (fun _ _ _ h => h) (Or.inl ⟨by rfl, ?hrb4⟩) (by assumption) ?_
            case hrb4 =>
              intro w hSw
              try dsimp only at hSw
              go_simp
              try with_reducible rfl
            try simp only [Act.put, List.setIfInBounds_toArray, List.set_cons_zero, List.set_cons_succ]
            refine wpAnyH_take (i := 3) (oi := { dst := some 90, op := Go.Op.indexAddr 37 (Go.Operand.tmp 88) (Go.Operand.tmp 89), type := 0, pos := "outright.go:33", after := #[{ on := 1, ground := Go.Ground.data }, { on := 2, ground := Go.Ground.data }], guard := none }) (v := ?vrb5) rfl (by kernel_rfl) (by kernel_rfl) (by kernel_rfl) (fun _ _ _ h => h) (Or.inl ⟨by rfl, ?hrb5⟩) (by assumption) ?_
            case hrb5 =>
              intro w hSw
              try dsimp only at hSw
              go_simp
              try with_reducible rfl
            try simp only [Act.put, List.setIfInBounds_toArray, List.set_cons_zero, List.set_cons_succ]
            refine wpAnyH_take (i := 4) (oi := { dst := some 91, op := Go.Op.load 3 (Go.Operand.tmp 90), type := 3, pos := "outright.go:33", after := #[{ on := 3, ground := Go.Ground.data }], guard := none }) (v := ?vrb6) rfl (by kernel_rfl) (by kernel_rfl) (by kernel_rfl) (fun _ _ _ h => h) (Or.inl ⟨by rfl, ?hrb6⟩) (by assumption) ?_
            case hrb6 =>
              intro w hSw
              try dsimp only at hSw
              go_simp
              try with_reducible rfl
            try simp only [Act.put, List.setIfInBounds_toArray, List.set_cons_zero, List.set_cons_succ]
            refine wpAnyH_take (i := 5) (oi := { dst := some 92, op := Go.Op.move (Go.Operand.tmp 7), type := 37, pos := "outright.go:33", after := #[], guard := none }) (v := ?vrb7) rfl (by kernel_rfl) (by kernel_rfl) (by kernel_rfl) (fun _ _ _ h => h) (Or.inl ⟨by rfl, ?hrb7⟩) (by assumption) ?_
            case hrb7 =>
              intro w hSw
              try dsimp only at hSw
              go_simp
              try with_reducible rfl
            try simp only [Act.put, List.setIfInBounds_toArray, List.set_cons_zero, List.set_cons_succ]
            refine wpAnyH_take (i := 6) (oi := { dst := some 93, op := Go.Op.move (Go.Operand.tmp 13), type := 3, pos := "outright.go:33", after := #[], guard := none }) (v := ?vrb8) rfl (by kernel_rfl) (by kernel_rfl) (by kernel_rfl) (fun _ _ _ h => h) (Or.inl ⟨by rfl, ?hrb8⟩) (by assumption) ?_
            case hrb8 =>
              intro w hSw
              try dsimp only at hSw
              go_simp
              try with_reducible rfl
            try simp only [Act.put, List.setIfInBounds_toArray, List.set_cons_zero, List.set_cons_succ]
            refine wpAnyH_take (i := 7) (oi := { dst := some 94, op := Go.Op.binOp Go.BinOp.add 3 (Go.Operand.tmp 93) (Go.Operand.const (Go.Value.int Go.IntKind.i64 1)) 3, type := 3, pos := "outright.go:33", after := #[{ on := 6, ground := Go.Ground.data }], guard := none }) (v := ?vrb9) rfl (by kernel_rfl) (by kernel_rfl) (by kernel_rfl) (fun _ _ _ h => h) (Or.inl ⟨by rfl, ?hrb9⟩) (by assumption) ?_
            case hrb9 =>
              intro w hSw
              try dsimp only at hSw
              go_simp
              try with_reducible rfl
            try simp only [Act.put, List.setIfInBounds_toArray, List.set_cons_zero, List.set_cons_succ]
            refine wpAnyH_take (i := 8) (oi := { dst := some 95, op := Go.Op.indexAddr 37 (Go.Operand.tmp 92) (Go.Operand.tmp 94), type := 0, pos := "outright.go:33", after := #[{ on := 5, ground := Go.Ground.data }, { on := 7, ground := Go.Ground.data }], guard := none }) (v := ?vrb10) rfl (by kernel_rfl) (by kernel_rfl) (by kernel_rfl) (fun _ _ _ h => h) (Or.inl ⟨by rfl, ?hrb10⟩) (by assumption) ?_
            case hrb10 =>
              intro w hSw
              try dsimp only at hSw
              go_simp
              try with_reducible rfl
            try simp only [Act.put, List.setIfInBounds_toArray, List.set_cons_zero, List.set_cons_succ]
            refine wpAnyH_take (i := 9) (oi := { dst := some 96, op := Go.Op.load 3 (Go.Operand.tmp 95), type := 3, pos := "outright.go:33", after := #[{ on := 8, ground := Go.Ground.data }], guard := none }) (v := ?vrb11) rfl (by kernel_rfl) (by kernel_rfl) (by kernel_rfl) (fun _ _ _ h => h) (Or.inl ⟨by rfl, ?hrb11⟩) (by assumption) ?_
            case hrb11 =>
              intro w hSw
              try dsimp only at hSw
              go_simp
              try with_reducible rfl
            try simp only [Act.put, List.setIfInBounds_toArray, List.set_cons_zero, List.set_cons_succ]
            refine wpAnyH_take (i := 10) (oi := { dst := some 97, op := Go.Op.move (Go.Operand.tmp 7), type := 37, pos := "outright.go:33", after := #[], guard := none }) (v := ?vrb12) rfl (by kernel_rfl) (by kernel_rfl) (by kernel_rfl) (fun _ _ _ h => h) (Or.inl ⟨by rfl, ?hrb12⟩) (by assumption) ?_
            case hrb12 =>
              intro w hSw
              try dsimp only at hSw
              go_simp
              try with_reducible rfl
            try simp only [Act.put, List.setIfInBounds_toArray, List.set_cons_zero, List.set_cons_succ]
            refine wpAnyH_take (i := 11) (oi := { dst := some 98, op := Go.Op.move (Go.Operand.tmp 13), type := 3, pos := "outright.go:33", after := #[], guard := none }) (v := ?vrb13) rfl (by kernel_rfl) (by kernel_rfl) (by kernel_rfl) (fun _ _ _ h => h) (Or.inl ⟨by rfl, ?hrb13⟩) (by assumption) ?_
            case hrb13 =>
              intro w hSw
              try dsimp only at hSw
              go_simp
              try with_reducible rfl
            try simp only [Act.put, List.setIfInBounds_toArray, List.set_cons_zero, List.set_cons_succ]
            refine wpAnyH_take (i := 12) (oi := { dst := some 99, op := Go.Op.indexAddr 37 (Go.Operand.tmp 97) (Go.Operand.tmp 98), type := 0, pos := "outright.go:33", after := #[{ on := 10, ground := Go.Ground.data }, { on := 11, ground := Go.Ground.data }], guard := none }) (v := ?vrb14) rfl (by kernel_rfl) (by kernel_rfl) (by kernel_rfl) (fun _ _ _ h => h) (Or.inl ⟨by rfl, ?hrb14⟩) (by assumption) ?_
            case hrb14 =>
              intro w hSw
              try dsimp only at hSw
              go_simp
              try with_reducible rfl
            try simp only [Act.put, List.setIfInBounds_toArray, List.set_cons_zero, List.set_cons_succ]
            refine wpAnyH_take (i := 13) (oi := { dst := some 100, op := Go.Op.load 3 (Go.Operand.tmp 99), type := 3, pos := "outright.go:33", after := #[{ on := 12, ground := Go.Ground.data }], guard := none }) (v := ?vrb15) rfl (by kernel_rfl) (by kernel_rfl) (by kernel_rfl) (fun _ _ _ h => h) (Or.inl ⟨by rfl, ?hrb15⟩) (by assumption) ?_
            case hrb15 =>
              intro w hSw
              try dsimp only at hSw
              go_simp
              try with_reducible rfl
            try simp only [Act.put, List.setIfInBounds_toArray, List.set_cons_zero, List.set_cons_succ]
            refine wpAnyH_take (i := 14) (oi := { dst := some 101, op := Go.Op.binOp Go.BinOp.sub 3 (Go.Operand.tmp 96) (Go.Operand.tmp 100) 3, type := 3, pos := "outright.go:33", after := #[{ on := 9, ground := Go.Ground.data }, { on := 13, ground := Go.Ground.data }], guard := none }) (v := ?vrb16) rfl (by kernel_rfl) (by kernel_rfl) (by kernel_rfl) (fun _ _ _ h => h) (Or.inl ⟨by rfl, ?hrb16⟩) (by assumption) ?_
            case hrb16 =>
              intro w hSw
              try dsimp only at hSw
              go_simp
              try with_reducible rfl
            try simp only [Act.put, List.setIfInBounds_toArray, List.set_cons_zero, List.set_cons_succ]
            refine wpAnyH_take (i := 15) (oi := { dst := some 102, op := Go.Op.move (Go.Operand.tmp 8), type := 33, pos := "outright.go:33", after := #[], guard := none }) (v := ?vrb17) rfl (by kernel_rfl) (by kernel_rfl) (by kernel_rfl) (fun _ _ _ h => h) (Or.inl ⟨by rfl, ?hrb17⟩) (by assumption) ?_
            case hrb17 =>
              intro w hSw
              try dsimp only at hSw
              go_simp
              try with_reducible rfl
            try simp only [Act.put, List.setIfInBounds_toArray, List.set_cons_zero, List.set_cons_succ]
            refine wpAnyH_take (i := 16) (oi := { dst := some 103, op := Go.Op.move (Go.Operand.tmp 13), type := 3, pos := "outright.go:33", after := #[], guard := none }) (v := ?vrb18) rfl (by kernel_rfl) (by kernel_rfl) (by kernel_rfl) (fun _ _ _ h => h) (Or.inl ⟨by rfl, ?hrb18⟩) (by assumption) ?_
            case hrb18 =>
              intro w hSw
              try dsimp only at hSw
              go_simp
              try with_reducible rfl
            try simp only [Act.put, List.setIfInBounds_toArray, List.set_cons_zero, List.set_cons_succ]
            refine wpAnyH_take (i := 17) (oi := { dst := some 104, op := Go.Op.indexAddr 33 (Go.Operand.tmp 102) (Go.Operand.tmp 103), type := 0, pos := "outright.go:33", after := #[{ on := 15, ground := Go.Ground.data }, { on := 16, ground := Go.Ground.data }], guard := none }) (v := ?vrb19) rfl (by kernel_rfl) (by kernel_rfl) (by kernel_rfl) (fun _ _ _ h => h) (Or.inl ⟨by rfl, ?hrb19⟩) (by assumption) ?_
            case hrb19 =>
              intro w hSw
              try dsimp only at hSw
              go_simp
              try with_reducible rfl
            try simp only [Act.put, List.setIfInBounds_toArray, List.set_cons_zero, List.set_cons_succ]
            refine wpAnyH_take (i := 18) (oi := { dst := some 105, op := Go.Op.fieldAddr 41 (Go.Operand.tmp 104) 1, type := 0, pos := "outright.go:33", after := #[{ on := 17, ground := Go.Ground.data }], guard := none }) (v := ?vrb20) rfl (by kernel_rfl) (by kernel_rfl) (by kernel_rfl) (fun _ _ _ h => h) (Or.inl ⟨by rfl, ?hrb20⟩) (by assumption) ?_
            case hrb20 =>
              intro w hSw
              try dsimp only at hSw
              go_simp
              try with_reducible rfl
            try simp only [Act.put, List.setIfInBounds_toArray, List.set_cons_zero, List.set_cons_succ]
            refine wpAnyH_take (i := 19) (oi := { dst := some 106, op := Go.Op.load 22 (Go.Operand.tmp 105), type := 22, pos := "outright.go:33", after := #[{ on := 18, ground := Go.Ground.data }], guard := none }) (v := ?vrb21) rfl (by kernel_rfl) (by kernel_rfl) (by kernel_rfl) (fun _ _ _ h => h) (Or.inl ⟨by rfl, ?hrb21⟩) (by assumption) ?_
            case hrb21 =>
              intro w hSw
              try dsimp only at hSw
              go_simp
              try with_reducible rfl
            try simp only [Act.put, List.setIfInBounds_toArray, List.set_cons_zero, List.set_cons_succ]
            refine wpAnyH_ready (rs := [20, 24]) (by kernel_rfl) (by simp) ?_
            refine AllReadyH.cons (o := { dst := some 107, op := Go.Op.call { callee := Go.Callee.value (Go.Operand.func 17), args := #[Go.Operand.tmp 87, Go.Operand.tmp 91, Go.Operand.tmp 101, Go.Operand.tmp 106], argTypes := #[34, 3, 3, 22] }, type := 43, pos := "outright.go:33", after := #[{ on := 0, ground := Go.Ground.data }, { on := 4, ground := Go.Ground.data }, { on := 14, ground := Go.Ground.data }, { on := 19, ground := Go.Ground.data }], guard := none }) rfl (fun K hK => ?srb22) ?mrb22
            case srb22 =>
              go_simp
              (first | (go_at_call 17; first | ((with_reducible refine HT1.out.mono ?_); rintro e' w5 ⟨rfl, B5⟩; have HB5 : Hid (Below wr.heap.size wr w5) := (Below.refl wr.heap.size wr).drew.trans B5; clear B5) | ((with_reducible refine HT2.out.mono ?_); rintro e' w5 ⟨rfl, B5⟩; have HB5 := Lib.hid (alloc_below B5); have HZ := Lib.hid (alloc_has B5); clear B5)) | (refine wp_store_row 27 (.tmp 14) (.tmp 108) rfl wr.heap.size it.data.cells rfl rfl 27 _ HZ.out HI8.out rfl (dv_one it.data) ?_) | (refine wp_store_row 27 (.tmp 14) (.tmp 108) rfl w5.heap.size it.data.cells rfl rfl 27 _ (Has.fresh w5 _ _) HI8.out rfl (dv_one it.data) ?_))
              try go_wp2_with fail
              refine hK.out _ _ ?hrb23 (fun hHeld => ?_)
              case hrb23 =>
                try dsimp only
                (first | assumption | (with_reducible exact HKS.out _ (Below.refl _ _).drew) | (with_reducible exact HKS.out _ HB5.out) | (with_reducible exact HKS.out _ (HB5.out.alloc HB5.out.size _)) | (with_reducible exact HKS.out _ (((Below.refl wr.heap.size wr).alloc (Nat.le_refl _) _).drew)) | (with_reducible exact HKS.out _ (below_setRow HB5.out (Nat.le_refl _) _)) | (with_reducible exact HKS.out _ (below_setRow (HB5.out.alloc HB5.out.size _) HB5.out.size _)) | exact HKS.out _ (((Below.refl wr.heap.size wr).alloc (Nat.le_refl _) _).drew))
              clear hK K
              try simp only [Act.put, List.setIfInBounds_toArray, List.set_cons_zero, List.set_cons_succ]
              refine wpAnyH_take (i := 21) (oi := { dst := some 86, op := Go.Op.move (Go.Operand.tmp 107), type := 43, pos := "outright.go:33", after := #[{ on := 20, ground := Go.Ground.data }], guard := none }) (v := ?vrb24) rfl (by kernel_rfl) (by kernel_rfl) (by kernel_rfl) (fun _ _ _ h => h) (Or.inl ⟨by rfl, ?hrb24⟩) (by assumption) ?_
              case hrb24 =>
                intro w hSw
                try dsimp only at hSw
                go_simp
                try with_reducible rfl
              try simp only [Act.put, List.setIfInBounds_toArray, List.set_cons_zero, List.set_cons_succ]
              refine wpAnyH_take (i := 22) (oi := { dst := some 108, op := Go.Op.extract (Go.Operand.tmp 86) 0, type := 27, pos := "outright.go:33", after := #[{ on := 21, ground := Go.Ground.data }], guard := none }) (v := ?vrb25) rfl (by kernel_rfl) (by kernel_rfl) (by kernel_rfl) (fun _ _ _ h => h) (Or.inl ⟨by rfl, ?hrb25⟩) (by assumption) ?_
              case hrb25 =>
                intro w hSw
                try dsimp only at hSw
                go_simp
                try with_reducible rfl
              try simp only [Act.put, List.setIfInBounds_toArray, List.set_cons_zero, List.set_cons_succ]
              refine wpAnyH_take (i := 23) (oi := { dst := some 109, op := Go.Op.extract (Go.Operand.tmp 86) 1, type := 28, pos := "outright.go:33", after := #[{ on := 21, ground := Go.Ground.data }, { on := 25, ground := Go.Ground.gcOnly Go.Departure.lateStores }], guard := none }) (v := ?vrb26) rfl (by kernel_rfl) (by kernel_rfl) (by kernel_rfl) (fun _ _ _ h => h) (Or.inl ⟨by rfl, ?hrb26⟩) (by assumption) ?_
              case hrb26 =>
                intro w hSw
                try dsimp only at hSw
                go_simp
                try with_reducible rfl
              try simp only [Act.put, List.setIfInBounds_toArray, List.set_cons_zero, List.set_cons_succ]
              refine wpAnyH_ready (rs := [24]) (by kernel_rfl) (by simp) ?_
              refine AllReadyH.cons (o := { dst := some 14, op := Go.Op.alloc 27, type := 0, pos := "outright.go:33", after := #[], guard := none }) rfl (fun K hK => ?_) AllReadyH.nil
              go_simp
              refine hK.out _ _ ?hrb27 (fun hHeld => ?_)
              case hrb27 =>
                try dsimp only
                (first | assumption | (with_reducible exact HKS.out _ (Below.refl _ _).drew) | (with_reducible exact HKS.out _ HB5.out) | (with_reducible exact HKS.out _ (HB5.out.alloc HB5.out.size _)) | (with_reducible exact HKS.out _ (((Below.refl wr.heap.size wr).alloc (Nat.le_refl _) _).drew)) | (with_reducible exact HKS.out _ (below_setRow HB5.out (Nat.le_refl _) _)) | (with_reducible exact HKS.out _ (below_setRow (HB5.out.alloc HB5.out.size _) HB5.out.size _)) | exact HKS.out _ (((Below.refl wr.heap.size wr).alloc (Nat.le_refl _) _).drew))
              clear hK K
              try simp only [Act.put, List.setIfInBounds_toArray, List.set_cons_zero, List.set_cons_succ]
              refine wpAnyH_ready (rs := [25]) (by kernel_rfl) (by simp) ?_
              refine AllReadyH.cons (o := { dst := none, op := Go.Op.store 27 (Go.Operand.tmp 14) (Go.Operand.tmp 108), type := 0, pos := "outright.go:33", after := #[{ on := 24, ground := Go.Ground.data }, { on := 22, ground := Go.Ground.data }, { on := 20, ground := Go.Ground.chain }, { on := 0, ground := Go.Ground.phase }, { on := 1, ground := Go.Ground.phase }, { on := 2, ground := Go.Ground.phase }, { on := 3, ground := Go.Ground.phase }, { on := 4, ground := Go.Ground.phase }, { on := 5, ground := Go.Ground.phase }, { on := 6, ground := Go.Ground.phase }, { on := 7, ground := Go.Ground.phase }, { on := 8, ground := Go.Ground.phase }, { on := 9, ground := Go.Ground.phase }, { on := 10, ground := Go.Ground.phase }, { on := 11, ground := Go.Ground.phase }, { on := 12, ground := Go.Ground.phase }, { on := 13, ground := Go.Ground.phase }, { on := 14, ground := Go.Ground.phase }, { on := 15, ground := Go.Ground.phase }, { on := 16, ground := Go.Ground.phase }, { on := 17, ground := Go.Ground.phase }, { on := 18, ground := Go.Ground.phase }, { on := 19, ground := Go.Ground.phase }, { on := 20, ground := Go.Ground.phase }, { on := 21, ground := Go.Ground.phase }, { on := 22, ground := Go.Ground.phase }, { on := 23, ground := Go.Ground.textOnly Go.Departure.lateStores }, { on := 24, ground := Go.Ground.phase }], guard := none }) rfl (fun K hK => ?_) AllReadyH.nil
              (first | (go_at_call 17; first | ((with_reducible refine HT1.out.mono ?_); rintro e' w5 ⟨rfl, B5⟩; have HB5 : Hid (Below wr.heap.size wr w5) := (Below.refl wr.heap.size wr).drew.trans B5; clear B5) | ((with_reducible refine HT2.out.mono ?_); rintro e' w5 ⟨rfl, B5⟩; have HB5 := Lib.hid (alloc_below B5); have HZ := Lib.hid (alloc_has B5); clear B5)) | (refine wp_store_row 27 (.tmp 14) (.tmp 108) rfl wr.heap.size it.data.cells rfl rfl 27 _ HZ.out HI8.out rfl (dv_one it.data) ?_) | (refine wp_store_row 27 (.tmp 14) (.tmp 108) rfl w5.heap.size it.data.cells rfl rfl 27 _ (Has.fresh w5 _ _) HI8.out rfl (dv_one it.data) ?_))
              refine hK.out _ _ ?hrb28 (fun hHeld => ?_)
              case hrb28 =>
                try dsimp only
                (first | assumption | (with_reducible exact HKS.out _ (Below.refl _ _).drew) | (with_reducible exact HKS.out _ HB5.out) | (with_reducible exact HKS.out _ (HB5.out.alloc HB5.out.size _)) | (with_reducible exact HKS.out _ (((Below.refl wr.heap.size wr).alloc (Nat.le_refl _) _).drew)) | (with_reducible exact HKS.out _ (below_setRow HB5.out (Nat.le_refl _) _)) | (with_reducible exact HKS.out _ (below_setRow (HB5.out.alloc HB5.out.size _) HB5.out.size _)) | exact HKS.out _ (((Below.refl wr.heap.size wr).alloc (Nat.le_refl _) _).drew))
              clear hK K
              try simp only [Act.put]
              refine wpAnyH_take (i := 26) (oi := { dst := some 15, op := Go.Op.assign (Go.Operand.tmp 109), type := 28, pos := "outright.go:33", after := #[{ on := 23, ground := Go.Ground.data }, { on := 25, ground := Go.Ground.chain }, { on := 0, ground := Go.Ground.phase }, { on := 1, ground := Go.Ground.phase }, { on := 2, ground := Go.Ground.phase }, { on := 3, ground := Go.Ground.phase }, { on := 4, ground := Go.Ground.phase }, { on := 5, ground := Go.Ground.phase }, { on := 6, ground := Go.Ground.phase }, { on := 7, ground := Go.Ground.phase }, { on := 8, ground := Go.Ground.phase }, { on := 9, ground := Go.Ground.phase }, { on := 10, ground := Go.Ground.phase }, { on := 11, ground := Go.Ground.phase }, { on := 12, ground := Go.Ground.phase }, { on := 13, ground := Go.Ground.phase }, { on := 14, ground := Go.Ground.phase }, { on := 15, ground := Go.Ground.phase }, { on := 16, ground := Go.Ground.phase }, { on := 17, ground := Go.Ground.phase }, { on := 18, ground := Go.Ground.phase }, { on := 19, ground := Go.Ground.phase }, { on := 20, ground := Go.Ground.phase }, { on := 21, ground := Go.Ground.phase }, { on := 22, ground := Go.Ground.phase }, { on := 23, ground := Go.Ground.phase }, { on := 24, ground := Go.Ground.phase }, { on := 25, ground := Go.Ground.phase }], guard := none }) (v := ?vrb29) rfl (by kernel_rfl) (by kernel_rfl) (by kernel_rfl) (fun _ _ _ h => h) (Or.inl ⟨by rfl, ?hrb29⟩) (by assumption) ?_
              case hrb29 =>
                intro w hSw
                try dsimp only at hSw
                go_simp
                try with_reducible rfl
              try simp only [Act.put, List.setIfInBounds_toArray, List.set_cons_zero, List.set_cons_succ]
              refine wpAnyH_done (by kernel_rfl) ?_ _
              refine NoPanic.normal ?_
              have hbF := below_setRow (HB5.out.alloc HB5.out.size (.cells #[.string ⟨#[]⟩, .string ⟨#[]⟩, .string ⟨#[]⟩, .int .u32 0, .int .u32 0, .int .u32 0, .int .u32 0, .int .u32 0] 27)) HB5.out.size it.data.cells
              have hdF := (Has.fresh w5 27 #[.string ⟨#[]⟩, .string ⟨#[]⟩, .string ⟨#[]⟩, .int .u32 0, .int .u32 0, .int .u32 0, .int .u32 0, .int .u32 0]).row it.data.cells
              generalize World.setRow _ _ _ = wF at *
              have x0 := dv_raw hdF
              have x1 := dv_host hdF
              have x2 := dv_mail hdF
              have x3 : wF.cell? ⟨_, 3, none⟩ = some (.int .u32 it.data.n0) := dv_n hdF (k := 0) (by omega)
              have x4 : wF.cell? ⟨_, 4, none⟩ = some (.int .u32 it.data.n1) := dv_n hdF (k := 1) (by omega)
              have x5 : wF.cell? ⟨_, 5, none⟩ = some (.int .u32 it.data.n2) := dv_n hdF (k := 2) (by omega)
              have x6 : wF.cell? ⟨_, 6, none⟩ = some (.int .u32 it.data.n3) := dv_n hdF (k := 3) (by omega)
              have x7 : wF.cell? ⟨_, 7, none⟩ = some (.int .u32 it.data.n4) := dv_n hdF (k := 4) (by omega)
              obtain ⟨_, _, k2, k3, k4, k5, k6, k7, k8, k9⟩ := HKF.out wF hbF
              have HBF := Lib.hid hbF
              clear hbF hdF
              have pn : ∀ W, (Op.equalIn 9999 25 (.agg #[.int .u32 it.data.n0, .int .u32 it.data.n1, .int .u32 it.data.n2, .int .u32 it.data.n3, .int .u32 it.data.n4]) (.agg #[.int .u32 it.data.n0, .int .u32 it.data.n1, .int .u32 it.data.n2, .int .u32 it.data.n3, .int .u32 it.data.n4])).run Tryd.prog W = .ok true W := fun W => by
                have := numsRun W it.data.n0 it.data.n1 it.data.n2 it.data.n3 it.data.n4 it.data.n0 it.data.n1 it.data.n2 it.data.n3 it.data.n4 9997
                simpa [numC] using this
              go_wp2
              go_quiet (fail)
              go_wp2
              go_roundw
              case rel => exact ⟨j + 1, by go_num, by omega, HI.out.low (HBF.out.trans (below_qn _ _ _))⟩
              case measure => simp [intOf]; omega
            refine AllReadyH.cons (o := { dst := some 14, op := Go.Op.alloc 27, type := 0, pos := "outright.go:33", after := #[], guard := none }) rfl (fun K hK => ?_) AllReadyH.nil
            go_simp
            refine hK.out _ _ ?hrb30 (fun hHeld => ?_)
            case hrb30 =>
              try dsimp only
              (first | assumption | (with_reducible exact HKS.out _ (Below.refl _ _).drew) | (with_reducible exact HKS.out _ HB5.out) | (with_reducible exact HKS.out _ (HB5.out.alloc HB5.out.size _)) | (with_reducible exact HKS.out _ (((Below.refl wr.heap.size wr).alloc (Nat.le_refl _) _).drew)) | (with_reducible exact HKS.out _ (below_setRow HB5.out (Nat.le_refl _) _)) | (with_reducible exact HKS.out _ (below_setRow (HB5.out.alloc HB5.out.size _) HB5.out.size _)) | exact HKS.out _ (((Below.refl wr.heap.size wr).alloc (Nat.le_refl _) _).drew))
            clear hK K
            try simp only [Act.put, List.setIfInBounds_toArray, List.set_cons_zero, List.set_cons_succ]
            refine wpAnyH_ready (rs := [20]) (by kernel_rfl) (by simp) ?_
            refine AllReadyH.cons (o := { dst := some 107, op := Go.Op.call { callee := Go.Callee.value (Go.Operand.func 17), args := #[Go.Operand.tmp 87, Go.Operand.tmp 91, Go.Operand.tmp 101, Go.Operand.tmp 106], argTypes := #[34, 3, 3, 22] }, type := 43, pos := "outright.go:33", after := #[{ on := 0, ground := Go.Ground.data }, { on := 4, ground := Go.Ground.data }, { on := 14, ground := Go.Ground.data }, { on := 19, ground := Go.Ground.data }], guard := none }) rfl (fun K hK => ?_) AllReadyH.nil
            go_simp
            (first | (go_at_call 17; first | ((with_reducible refine HT1.out.mono ?_); rintro e' w5 ⟨rfl, B5⟩; have HB5 : Hid (Below wr.heap.size wr w5) := (Below.refl wr.heap.size wr).drew.trans B5; clear B5) | ((with_reducible refine HT2.out.mono ?_); rintro e' w5 ⟨rfl, B5⟩; have HB5 := Lib.hid (alloc_below B5); have HZ := Lib.hid (alloc_has B5); clear B5)) | (refine wp_store_row 27 (.tmp 14) (.tmp 108) rfl wr.heap.size it.data.cells rfl rfl 27 _ HZ.out HI8.out rfl (dv_one it.data) ?_) | (refine wp_store_row 27 (.tmp 14) (.tmp 108) rfl w5.heap.size it.data.cells rfl rfl 27 _ (Has.fresh w5 _ _) HI8.out rfl (dv_one it.data) ?_))
            try go_wp2_with fail
            refine hK.out _ _ ?hrb31 (fun hHeld => ?_)
            case hrb31 =>
              try dsimp only
              (first | assumption | (with_reducible exact HKS.out _ (Below.refl _ _).drew) | (with_reducible exact HKS.out _ HB5.out) | (with_reducible exact HKS.out _ (HB5.out.alloc HB5.out.size _)) | (with_reducible exact HKS.out _ (((Below.refl wr.heap.size wr).alloc (Nat.le_refl _) _).drew)) | (with_reducible exact HKS.out _ (below_setRow HB5.out (Nat.le_refl _) _)) | (with_reducible exact HKS.out _ (below_setRow (HB5.out.alloc HB5.out.size _) HB5.out.size _)) | exact HKS.out _ (((Below.refl wr.heap.size wr).alloc (Nat.le_refl _) _).drew))
            clear hK K
            try simp only [Act.put, List.setIfInBounds_toArray, List.set_cons_zero, List.set_cons_succ]
            refine wpAnyH_take (i := 21) (oi := { dst := some 86, op := Go.Op.move (Go.Operand.tmp 107), type := 43, pos := "outright.go:33", after := #[{ on := 20, ground := Go.Ground.data }], guard := none }) (v := ?vrb32) rfl (by kernel_rfl) (by kernel_rfl) (by kernel_rfl) (fun _ _ _ h => h) (Or.inl ⟨by rfl, ?hrb32⟩) (by assumption) ?_
            case hrb32 =>
              intro w hSw
              try dsimp only at hSw
              go_simp
              try with_reducible rfl
            try simp only [Act.put, List.setIfInBounds_toArray, List.set_cons_zero, List.set_cons_succ]
            refine wpAnyH_take (i := 22) (oi := { dst := some 108, op := Go.Op.extract (Go.Operand.tmp 86) 0, type := 27, pos := "outright.go:33", after := #[{ on := 21, ground := Go.Ground.data }], guard := none }) (v := ?vrb33) rfl (by kernel_rfl) (by kernel_rfl) (by kernel_rfl) (fun _ _ _ h => h) (Or.inl ⟨by rfl, ?hrb33⟩) (by assumption) ?_
            case hrb33 =>
              intro w hSw
              try dsimp only at hSw
              go_simp
              try with_reducible rfl
            try simp only [Act.put, List.setIfInBounds_toArray, List.set_cons_zero, List.set_cons_succ]
            refine wpAnyH_take (i := 23) (oi := { dst := some 109, op := Go.Op.extract (Go.Operand.tmp 86) 1, type := 28, pos := "outright.go:33", after := #[{ on := 21, ground := Go.Ground.data }, { on := 25, ground := Go.Ground.gcOnly Go.Departure.lateStores }], guard := none }) (v := ?vrb34) rfl (by kernel_rfl) (by kernel_rfl) (by kernel_rfl) (fun _ _ _ h => h) (Or.inl ⟨by rfl, ?hrb34⟩) (by assumption) ?_
            case hrb34 =>
              intro w hSw
              try dsimp only at hSw
              go_simp
              try with_reducible rfl
            try simp only [Act.put, List.setIfInBounds_toArray, List.set_cons_zero, List.set_cons_succ]
            refine wpAnyH_ready (rs := [25]) (by kernel_rfl) (by simp) ?_
            refine AllReadyH.cons (o := { dst := none, op := Go.Op.store 27 (Go.Operand.tmp 14) (Go.Operand.tmp 108), type := 0, pos := "outright.go:33", after := #[{ on := 24, ground := Go.Ground.data }, { on := 22, ground := Go.Ground.data }, { on := 20, ground := Go.Ground.chain }, { on := 0, ground := Go.Ground.phase }, { on := 1, ground := Go.Ground.phase }, { on := 2, ground := Go.Ground.phase }, { on := 3, ground := Go.Ground.phase }, { on := 4, ground := Go.Ground.phase }, { on := 5, ground := Go.Ground.phase }, { on := 6, ground := Go.Ground.phase }, { on := 7, ground := Go.Ground.phase }, { on := 8, ground := Go.Ground.phase }, { on := 9, ground := Go.Ground.phase }, { on := 10, ground := Go.Ground.phase }, { on := 11, ground := Go.Ground.phase }, { on := 12, ground := Go.Ground.phase }, { on := 13, ground := Go.Ground.phase }, { on := 14, ground := Go.Ground.phase }, { on := 15, ground := Go.Ground.phase }, { on := 16, ground := Go.Ground.phase }, { on := 17, ground := Go.Ground.phase }, { on := 18, ground := Go.Ground.phase }, { on := 19, ground := Go.Ground.phase }, { on := 20, ground := Go.Ground.phase }, { on := 21, ground := Go.Ground.phase }, { on := 22, ground := Go.Ground.phase }, { on := 23, ground := Go.Ground.textOnly Go.Departure.lateStores }, { on := 24, ground := Go.Ground.phase }], guard := none }) rfl (fun K hK => ?_) AllReadyH.nil
            (first | (go_at_call 17; first | ((with_reducible refine HT1.out.mono ?_); rintro e' w5 ⟨rfl, B5⟩; have HB5 : Hid (Below wr.heap.size wr w5) := (Below.refl wr.heap.size wr).drew.trans B5; clear B5) | ((with_reducible refine HT2.out.mono ?_); rintro e' w5 ⟨rfl, B5⟩; have HB5 := Lib.hid (alloc_below B5); have HZ := Lib.hid (alloc_has B5); clear B5)) | (refine wp_store_row 27 (.tmp 14) (.tmp 108) rfl wr.heap.size it.data.cells rfl rfl 27 _ HZ.out HI8.out rfl (dv_one it.data) ?_) | (refine wp_store_row 27 (.tmp 14) (.tmp 108) rfl w5.heap.size it.data.cells rfl rfl 27 _ (Has.fresh w5 _ _) HI8.out rfl (dv_one it.data) ?_))
            refine hK.out _ _ ?hrb35 (fun hHeld => ?_)
            case hrb35 =>
              try dsimp only
              (first | assumption | (with_reducible exact HKS.out _ (Below.refl _ _).drew) | (with_reducible exact HKS.out _ HB5.out) | (with_reducible exact HKS.out _ (HB5.out.alloc HB5.out.size _)) | (with_reducible exact HKS.out _ (((Below.refl wr.heap.size wr).alloc (Nat.le_refl _) _).drew)) | (with_reducible exact HKS.out _ (below_setRow HB5.out (Nat.le_refl _) _)) | (with_reducible exact HKS.out _ (below_setRow (HB5.out.alloc HB5.out.size _) HB5.out.size _)) | exact HKS.out _ (((Below.refl wr.heap.size wr).alloc (Nat.le_refl _) _).drew))
            clear hK K
            try simp only [Act.put]
            refine wpAnyH_take (i := 26) (oi := { dst := some 15, op := Go.Op.assign (Go.Operand.tmp 109), type := 28, pos := "outright.go:33", after := #[{ on := 23, ground := Go.Ground.data }, { on := 25, ground := Go.Ground.chain }, { on := 0, ground := Go.Ground.phase }, { on := 1, ground := Go.Ground.phase }, { on := 2, ground := Go.Ground.phase }, { on := 3, ground := Go.Ground.phase }, { on := 4, ground := Go.Ground.phase }, { on := 5, ground := Go.Ground.phase }, { on := 6, ground := Go.Ground.phase }, { on := 7, ground := Go.Ground.phase }, { on := 8, ground := Go.Ground.phase }, { on := 9, ground := Go.Ground.phase }, { on := 10, ground := Go.Ground.phase }, { on := 11, ground := Go.Ground.phase }, { on := 12, ground := Go.Ground.phase }, { on := 13, ground := Go.Ground.phase }, { on := 14, ground := Go.Ground.phase }, { on := 15, ground := Go.Ground.phase }, { on := 16, ground := Go.Ground.phase }, { on := 17, ground := Go.Ground.phase }, { on := 18, ground := Go.Ground.phase }, { on := 19, ground := Go.Ground.phase }, { on := 20, ground := Go.Ground.phase }, { on := 21, ground := Go.Ground.phase }, { on := 22, ground := Go.Ground.phase }, { on := 23, ground := Go.Ground.phase }, { on := 24, ground := Go.Ground.phase }, { on := 25, ground := Go.Ground.phase }], guard := none }) (v := ?vrb36) rfl (by kernel_rfl) (by kernel_rfl) (by kernel_rfl) (fun _ _ _ h => h) (Or.inl ⟨by rfl, ?hrb36⟩) (by assumption) ?_
            case hrb36 =>
              intro w hSw
              try dsimp only at hSw
              go_simp
              try with_reducible rfl
            try simp only [Act.put, List.setIfInBounds_toArray, List.set_cons_zero, List.set_cons_succ]
            refine wpAnyH_done (by kernel_rfl) ?_ _
            refine NoPanic.normal ?_
            have hbF := below_setRow HB5.out (Nat.le_refl _) it.data.cells
            have hdF := HZ.out.row it.data.cells
            generalize World.setRow _ _ _ = wF at *
            have x0 := dv_raw hdF
            have x1 := dv_host hdF
            have x2 := dv_mail hdF
            have x3 : wF.cell? ⟨_, 3, none⟩ = some (.int .u32 it.data.n0) := dv_n hdF (k := 0) (by omega)
            have x4 : wF.cell? ⟨_, 4, none⟩ = some (.int .u32 it.data.n1) := dv_n hdF (k := 1) (by omega)
            have x5 : wF.cell? ⟨_, 5, none⟩ = some (.int .u32 it.data.n2) := dv_n hdF (k := 2) (by omega)
            have x6 : wF.cell? ⟨_, 6, none⟩ = some (.int .u32 it.data.n3) := dv_n hdF (k := 3) (by omega)
            have x7 : wF.cell? ⟨_, 7, none⟩ = some (.int .u32 it.data.n4) := dv_n hdF (k := 4) (by omega)
            obtain ⟨_, _, k2, k3, k4, k5, k6, k7, k8, k9⟩ := HKF.out wF hbF
            have HBF := Lib.hid hbF
            clear hbF hdF
            have pn : ∀ W, (Op.equalIn 9999 25 (.agg #[.int .u32 it.data.n0, .int .u32 it.data.n1, .int .u32 it.data.n2, .int .u32 it.data.n3, .int .u32 it.data.n4]) (.agg #[.int .u32 it.data.n0, .int .u32 it.data.n1, .int .u32 it.data.n2, .int .u32 it.data.n3, .int .u32 it.data.n4])).run Tryd.prog W = .ok true W := fun W => by
              have := numsRun W it.data.n0 it.data.n1 it.data.n2 it.data.n3 it.data.n4 it.data.n0 it.data.n1 it.data.n2 it.data.n3 it.data.n4 9997
              simpa [numC] using this
            go_wp2
            go_quiet (fail)
            go_wp2
            go_roundw
            case rel => exact ⟨j + 1, by go_num, by omega, HI.out.low (HBF.out.trans (below_qn _ _ _))⟩
            case measure => simp [intOf]; omega
          · obtain rfl : j = ks.length := by omega
            have HB := Lib.hid HI.out.2.2.2
            have hsb := HB.out.size
            go_wp2_with (go_at_call 13; refine (HWK.out _ HB.out).mono ?_; rintro e w5 ⟨rfl, B5⟩)
            go_ret
            exact ⟨rfl, HB.out.trans (B5.mono hsb)⟩
end Go.Proofs.YtbipcflmmfipbaaDoor
