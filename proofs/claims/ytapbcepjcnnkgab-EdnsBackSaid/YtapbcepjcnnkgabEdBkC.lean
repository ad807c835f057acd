/- EdnsBack: the walk, where all may be. -/
import Derived.Test.YtapbcepjcnnkgabM4
namespace Go.Proofs.Ytapbcepjcnnkgab
open Go.RowKit Go.Sort Go.Shelf

set_option maxHeartbeats 8000000 in
set_option maxRecDepth 1000000 in
theorem back_ok (w : World) (m : Mv) (hf : m.fits) (hl : m.lies w) (hm : m.near) (code : Nat) (hc : code ≤ 65535) (x : Ev) (hx : x.fits) (hs : x.opt.size ≤ 140737488351232) (most : Int) (hlen : m.es.length ≤ 1000) (h1 : code ≤ 4095) (hok : x.ok = true) :
    Calls Try.prog 3 #[.agg m.cells, .int .u16 code, .agg x.cells, .int .i64 most] w fun e w' => e = .returned (.bool true) ∧ Below w.heap.size w w' := by
  have d0 : decide ((1000 : Int) < (m.es.length : Int)) = false := by rw [decide_eq_false_iff_not]; omega
  have hx1 := hx.1
  have HLIM := Lib.hid (fun W : World => lim_any true x hx most W)
  obtain ⟨k1, k2⟩ := lim_facts x most
  generalize limV true x.size most = lm at *
  have HW := Lib.hid (fun W : World => edWakes W)
  have hi13 : (Try.prog.info? 26).map (·.size) = some 13 := by kernel_rfl
  have HI := Lib.hid hi13
  have hi12 : (Try.prog.info? 40).map (·.size) = some 12 := by kernel_rfl
  have HI12 := Lib.hid hi12
  have hi5 : (Try.prog.info? 28).map (·.size) = some 5 := by kernel_rfl
  have HI5 := Lib.hid hi5
  clear hi13 hi12 hi5
  have HSET := Lib.hid (fun (W : World) (hb : Below w.heap.size w W) => set_ok m code x W hc hx (by unfold maxLen; omega) hf (lies_later hl hb) hm h1 hok)
  obtain ⟨hi', hhi⟩ : ∃ h, code / 16 = h := ⟨_, rfl⟩
  have hfit2 : (⟨x.size, hi', x.ver, x.flags, x.opt⟩ : Ev).fits := ⟨hx.1, by show hi' ≤ 255; omega, hx.2.2.1, hx.2.2.2⟩
  have HFI := Lib.hid (fun (m' : Mv) (h1 : m'.rc = code % 16) (h2 : m'.es = Ed.rest m.es ++ [(⟨x.size, hi', x.ver, x.flags, x.opt⟩ : Ev).opt']) (h3 : m'.fits) => (show (∀ W : World, m'.lies W → Calls Try.prog 8 #[.agg m'.cells] W fun e w' => e = .returned (.tuple #[.agg #[.int .u16 x.size, .int .u8 (hi' : Int), .int .u8 x.ver, .int .u16 x.flags, .string x.opt], .bool true, .int .i64 0]) ∧ Below W.heap.size W w') ∧ (∀ W : World, m'.lies W → Calls Try.prog 9 #[.agg m'.cells] W fun e w' => e = .returned (.int .u16 code) ∧ Below W.heap.size W w') from by
    have hn2 : m'.es.length ≤ 4398046511104 := by
      rw [h2, List.length_append, List.length_singleton]
      have := Ed.rest_le m.es
      omega
    refine ⟨fun W h4 => ?_, fun W h4 => ?_⟩
    · have h := find_any m' W h3 h4 hn2 (fun r hr => ?_)
      · rw [h2, findV_put m.es (show (⟨x.size, hi', x.ver, x.flags, x.opt⟩ : Ev).ok = true from hok) hfit2] at h
        exact h
      · rw [h2] at hr
        rcases List.mem_append.1 hr with hr | hr
        · have := (hm.2.2.2.2 r (Ed.rest_mem hr).1).2.1
          unfold maxLen
          omega
        · rw [List.mem_singleton.1 hr]
          show x.opt.size ≤ maxLen
          unfold maxLen
          omega
    · have h := code_any m' W h3 h4 hn2
      rw [h1, h2, codeV_put m.es hfit2 code hhi.symm] at h
      exact h))
  rw [hhi] at HSET
  have HCAP : Hid (m.es.length ≤ m.ec ∧ Srow rcl 12 w 0 w.heap.size m.eA m.es) := ⟨hl.2.2.2.1, hl.2.2.2.2.2⟩
  have s1 : IntKind.u8.wrap ((code : Int) / 16) = (hi' : Int) := by rw [IntKind.wrap_u8]; omega
  obtain ⟨O, hO⟩ : ∃ O, (⟨x.size, hi', x.ver, x.flags, x.opt⟩ : Ev).opt' = O := ⟨_, rfl⟩
  rw [hO] at HSET HFI
  have hq : (x.opt.toList == x.opt.toList) = true := beq_self_eq_true _
  clear hf hl hm hx hs hok hhi hfit2 hO
  obtain ⟨id, rep, op, aa, tc, rd, ra, z, rc, qA, qs, qc, aA, an, ac, uA, us, uc, eA, es, ec⟩ := m
  obtain ⟨sz, hi, ve, fl, opt⟩ := x
  dsimp only [Mv.cells, Ev.cells, Ev.val] at *
  have HS0 : Hid (BkW w ((w.alloc (.cells #[.int .u16 id, .bool rep, .int .u8 op, .bool aa, .bool tc, .bool rd, .bool ra, .int .u8 z, .int .u8 rc, .slice qA qs.length qc, .slice aA an.length ac, .slice uA us.length uc, .slice eA es.length ec] 26)).alloc (.cells #[.int .u16 sz, .int .u8 hi, .int .u8 ve, .int .u16 fl, .string opt] 28)) #[.int .u16 id, .bool rep, .int .u8 op, .bool aa, .bool tc, .bool rd, .bool ra, .int .u8 z, .int .u8 rc, .slice qA qs.length qc, .slice aA an.length ac, .slice uA us.length uc, .slice eA es.length ec] #[.int .u16 sz, .int .u8 hi, .int .u8 ve, .int .u16 fl, .string opt]) := by
    refine ⟨(Has.fresh w _ _).alloc _, ?_, ((Below.refl _ _).alloc (Nat.le_refl _) _).alloc (by simp) _, by simp⟩
    have h := Has.fresh (w.alloc (.cells #[.int .u16 id, .bool rep, .int .u8 op, .bool aa, .bool tc, .bool rd, .bool ra, .int .u8 z, .int .u8 rc, .slice qA qs.length qc, .slice aA an.length ac, .slice uA us.length uc, .slice eA es.length ec] 26)) 28 #[.int .u16 sz, .int .u8 hi, .int .u8 ve, .int .u16 fl, .string opt]
    rw [World.size_alloc] at h
    exact h
  go_enter Try.func3, Try.ntmps3
  go_upto_region 4 with (first
    | (go_at_call 5
       revert HS0
       generalize (w.alloc _).alloc _ = w0
       intro HS0
       refine (HLIM.out _).mono ?_
       rintro e w1 ⟨rfl, B1⟩
       have HS1 := Lib.hid (HS0.out.keep B1)
       clear B1 HS0))
  have cx0 : w1.cell? ⟨w.heap.size + 1, 0, none⟩ = some (.int .u16 sz) := HS1.out.x.cell 0
  go_cut [45] from 28 to 45 (fun c wx => c = .bool false ∧ wx = w1)
  case first =>
    have d1 : decide (lm < 512) = false := by rw [decide_eq_false_iff_not]; omega
    by_cases h5 : 512 < lm
    · have d2 : decide (512 < lm) = true := by rw [decide_eq_true_iff]; exact h5
      have d3 : decide (most < lm) = false := by rw [decide_eq_false_iff_not]; have := (k2 h5).1; omega
      have d4 : decide ((sz : Int) < lm) = false := by rw [decide_eq_false_iff_not]; have := (k2 h5).2; omega
      have s9 : wrap64 (sz : Int) = (sz : Int) := by simp only [wrap64]; omega
      clear k1 k2 h5
      go_wp2
      go_meet
      exact ⟨rfl, rfl⟩
    · have d2 : decide (512 < lm) = false := by rw [decide_eq_false_iff_not]; exact h5
      clear k1 k2 h5
      go_wp2
      go_meet
      exact ⟨rfl, rfl⟩
  case rest =>
    obtain ⟨rfl, rfl⟩ := hcut
    clear k1 k2 cx0 hx1
    go_upto_region 13 with (first
      | (refine wpList_load_row rfl 26 (.tmp 4) rfl w.heap.size rfl 26 #[.int .u16 id, .bool rep, .int .u8 op, .bool aa, .bool tc, .bool rd, .bool ra, .int .u8 z, .int .u8 rc, .slice qA qs.length qc, .slice aA an.length ac, .slice uA us.length uc, .slice eA es.length ec] (0, 0) _ HS1.out.m Try.underlying26 rfl HI.out ?_)
      | (go_at_call 6
         refine (HSET.out _ HS1.out.b).mono ?_
         rintro e w2 ⟨⟨id2, rep2, op2, aa2, tc2, rd2, ra2, z2, rc2, qA2, qs2, qc2, aA2, an2, ac2, uA2, us2, uc2, eA2, es2, ec2⟩, rfl, q1, q2, q3, q4, B2⟩
         have HS2 := Lib.hid (HS1.out.keep B2)
         have HF2 := Lib.hid (HFI.out _ q1 q2 q3)
         have HL2 := Lib.hid q4
         have HE2 := Lib.hid q2
         dsimp only [Mv.cells] at *
         clear B2 q1 q2 q3 q4)
      | (refine wpList_store_boxed rfl 26 (.tmp 10) (.tmp 51) rfl 26 _ #[.int .u16 id2, .bool rep2, .int .u8 op2, .bool aa2, .bool tc2, .bool rd2, .bool ra2, .int .u8 z2, .int .u8 rc2, .slice qA2 qs2.length qc2, .slice aA2 an2.length ac2, .slice uA2 us2.length uc2, .slice eA2 es2.length ec2] rfl rfl HI.out rfl (by simp [Value.oneCell']) ?_
         intro w3 hY g3 hs3
         have HS3 := Lib.hid (HS2.out.grown g3)
         have HY3 := Lib.hid hY
         have HL3 := Lib.hid (lies_later HL2.out (grown_none g3 (Below.refl _ _) (Nat.le_refl _)))
         obtain ⟨ga, hga⟩ : ∃ g, w2.heap.size = g := ⟨_, rfl⟩
         rw [hga] at HY3 ⊢
         have HGA : Hid (w.heap.size + 2 ≤ ga) := (by rw [Hid, ← hga]; exact HS2.out.s)
         clear hY g3 hs3 hga)
      | (refine wpList_load_row rfl 26 (.tmp 10) rfl ga rfl 26 #[.int .u16 id2, .bool rep2, .int .u8 op2, .bool aa2, .bool tc2, .bool rd2, .bool ra2, .int .u8 z2, .int .u8 rc2, .slice qA2 qs2.length qc2, .slice aA2 an2.length ac2, .slice uA2 us2.length uc2, .slice eA2 es2.length ec2] (0, 0) _ HY3.out Try.underlying26 rfl HI.out ?_)
      | (go_at_call 8
         refine (HF2.out.1 _ HL3.out).mono ?_
         rintro e w4 ⟨rfl, B4⟩
         have HS4 := Lib.hid (HS3.out.keep B4)
         have HY4 := Lib.hid (HY3.out.below B4 HY3.out.lt)
         have HL4 := Lib.hid (lies_later HL3.out B4)
         clear B4)
      | (refine wpList_store_boxed rfl 28 (.tmp 14) (.tmp 72) rfl 28 _ #[.int .u16 sz, .int .u8 (hi' : Int), .int .u8 ve, .int .u16 fl, .string opt] rfl rfl HI5.out rfl (by simp [Value.oneCell']) ?_
         intro w5 hZ g5 hs5
         have HS5 := Lib.hid (HS4.out.grown g5)
         have HY5 := Lib.hid (HY4.out.grown g5 (by simp))
         have HL5 := Lib.hid (lies_later HL4.out (grown_none g5 (Below.refl _ _) (Nat.le_refl _)))
         obtain ⟨gy, hgy⟩ : ∃ g, w4.heap.size = g := ⟨_, rfl⟩
         rw [hgy] at hZ ⊢
         have HZ5 := Lib.hid hZ
         have HGY : Hid (w.heap.size + 2 ≤ gy ∧ ga < gy) := (by rw [Hid, ← hgy]; exact ⟨HS4.out.s, HY4.out.lt⟩)
         clear hZ g5 hs5 hgy)
      | (refine wpList_load_row rfl 28 (.tmp 6) rfl (w.heap.size + 1) rfl 28 #[.int .u16 sz, .int .u8 hi, .int .u8 ve, .int .u16 fl, .string opt] (0, 0) _ HS5.out.x Try.underlying28 rfl HI5.out ?_)
      | (refine wpList_load_row rfl 28 (.tmp 6) rfl (w.heap.size + 1) rfl 28 #[.int .u16 sz, .int .u8 hi, .int .u8 ve, .int .u16 fl, .string opt] (0, 0) _ HS1.out.x Try.underlying28 rfl HI5.out ?_)
      | (refine wpList_store_boxed rfl 28 (.tmp 17) (.tmp 75) rfl 28 _ #[.int .u16 sz, .int .u8 hi, .int .u8 ve, .int .u16 fl, .string opt] rfl rfl HI5.out rfl (by simp [Value.oneCell']) ?_
         intro w6 hV g6 hs6
         have HS6 := Lib.hid (HS5.out.grown g6)
         have HY6 := Lib.hid (HY5.out.grown g6 (by simp))
         have HZ6 := Lib.hid (HZ5.out.grown g6 (by simp))
         obtain ⟨gv, hgv⟩ : ∃ g, w5.heap.size = g := ⟨_, rfl⟩
         rw [hgv] at hV ⊢
         have hgv2 : w.heap.size + 2 ≤ gv ∧ ga < gv ∧ gy < gv := (by rw [← hgv]; exact ⟨HS5.out.s, HY5.out.lt, HZ5.out.lt⟩)
         have cv1 : w6.cell? ⟨gv, 1, none⟩ = some (.int .u8 hi) := hV.cell 1
         have fv1 : w6.frozen? ⟨gv, 1, none⟩ = false := hV.free 1
         have HV7 : Hid (Has (w6.setCell ⟨gv, 1, none⟩ (.int .u8 (hi' : Int))) gv 28 #[.int .u16 sz, .int .u8 (hi' : Int), .int .u8 ve, .int .u16 fl, .string opt]) := hV.set 1 _
         have HS7 := Lib.hid (HS6.out.set (p := ⟨gv, 1, none⟩) hgv2.1 (.int .u8 (hi' : Int)))
         have HY7 := Lib.hid (HY6.out.far (p := ⟨gv, 1, none⟩) (by show ga ≠ gv; omega) (.int .u8 (hi' : Int)))
         have HZ7 := Lib.hid (HZ6.out.far (p := ⟨gv, 1, none⟩) (by show gy ≠ gv; omega) (.int .u8 (hi' : Int)))
         have HL7 := Lib.hid (lies_later HL5.out ((grown_none g6 (Below.refl _ _) (Nat.le_refl _)).setCell (p := ⟨gv, 1, none⟩) (Nat.le_of_eq hgv) (.int .u8 (hi' : Int))))
         clear hV g6 hs6 hgv hgv2 HS5 HY5 HZ5 HS6 HY6 HZ6))
    revert HV7 HS7 HY7 HZ7 HL7
    generalize w6.setCell _ _ = w7
    intro HV7 HS7 HY7 HZ7 HL7
    clear cv1 fv1 HL2 HL3 HL4 HL5 HY3 HY4 HS1 HS2 HS3 HS4 HGA HGY HFI HSET HLIM
    have RY := Lib.hid (has_range HZ7.out)
    have RV := Lib.hid (has_range HV7.out)
    have RA := Lib.hid (has_range HY7.out)
    go_wp2_with (first
      | (refine wpList_load_midG (by rfl) 28 (.tmp 14) rfl gy 0 rfl [.int .u16 sz, .int .u8 (hi' : Int), .int .u8 ve, .int .u16 fl, .string opt] _ RY.out Try.underlying28 rfl HI5.out ?_)
      | (refine wpList_load_midG (by rfl) 28 (.tmp 17) rfl gv 0 rfl [.int .u16 sz, .int .u8 (hi' : Int), .int .u8 ve, .int .u16 fl, .string opt] _ RV.out Try.underlying28 rfl HI5.out ?_)
      | (refine wpList_load_midG (by rfl) 26 (.tmp 10) rfl ga 0 rfl [.int .u16 id2, .bool rep2, .int .u8 op2, .bool aa2, .bool tc2, .bool rd2, .bool ra2, .int .u8 z2, .int .u8 rc2, .slice qA2 qs2.length qc2, .slice aA2 an2.length ac2, .slice uA2 us2.length uc2, .slice eA2 es2.length ec2] _ RA.out Try.underlying26 rfl HI.out ?_)
      | (go_at_call 9
         refine (HF2.out.2 _ HL7.out).mono ?_
         rintro e w8 ⟨rfl, B8⟩
         have HS8 := Lib.hid (HS7.out.keep B8)
         have HY8 := Lib.hid (HY7.out.below B8 HY7.out.lt)
         have HL8 := Lib.hid (lies_later HL7.out B8).2.2.2.2.2
         clear B8))
    clear HV7 HS7 HY7 HZ7 HL7 RY RV RA HF2
    have HM12 : Hid (w8.cell? ⟨w.heap.size, 12, none⟩ = some (.slice eA es.length ec)) := HS8.out.m.cell 12
    have HA12 : Hid (w8.cell? ⟨ga, 12, none⟩ = some (.slice eA2 es2.length ec2)) := HY8.out.cell 12
    have HB8 := Lib.hid HS8.out.b
    have hel : es2.length = (Ed.rest es).length + 1 := by rw [HE2.out, List.length_append]; rfl
    have hrl : (Ed.rest es).length ≤ es.length := Ed.rest_le es
    have HEL := Lib.hid hel
    have HRL := Lib.hid hrl
    clear HS8 HY8 hel hrl
    go_loopw [18, 19] (fun s18 s19 wr => ∃ i k q : Nat, s18 = .int .i64 i ∧ s19 = .int .i64 k ∧ k ≤ es.length ∧ Hid (i = (Ed.rest (es.take k)).length) ∧ wr = w8.drewN q) (fun _ s19 _ => es.length - (intOf s19).toNat)
    case atStart => exact ⟨0, 0, 0, rfl, rfl, Nat.zero_le _, rfl, rfl⟩
    case round =>
      obtain ⟨i, k, q, rfl, rfl, hk, HK, rfl⟩ := hrel
      have cm : (w8.drewN q).cell? ⟨w.heap.size, 12, none⟩ = some (.slice eA es.length ec) := HM12.out
      have ca : (w8.drewN q).cell? ⟨ga, 12, none⟩ = some (.slice eA2 es2.length ec2) := HA12.out
      have HBq := Lib.hid (below_drewN HB8.out q)
      have i0 : (0 : Int) ≤ (i : Int) := by omega
      have k0 : (0 : Int) ≤ (k : Int) := by omega
      by_cases hlt : k < es.length
      · have k1 : (k : Int) < (es.length : Int) := by omega
        obtain ⟨g, o, hA, _, hg, hc⟩ := HCAP.out.2.at_ hlt
        have HC := Lib.hid (range_below HBq.out hg hc)
        have hq41 : ((es[k].ty : Int) == 41) = Ed.isO es[k] := by unfold Ed.isO; rw [Bool.eq_iff_iff]; simp; omega
        cases hr : Ed.isO es[k]
        · obtain ⟨hi2, hie⟩ := Ed.rest_at hlt hr
          have hi3 : i < es2.length := by rw [HEL.out, HK.out]; omega
          have he2 : es2[i]'hi3 = es[k] := by
            have e0 : es2[i]'hi3 = (Ed.rest es ++ [O])[i]'(by rw [← HE2.out]; exact hi3) := List.getElem_of_eq HE2.out _
            rw [e0, List.getElem_append_left (by rw [HK.out]; exact hi2)]
            have e1 : ∀ j (hj : j < (Ed.rest es).length), j = (Ed.rest (es.take k)).length → (Ed.rest es)[j]'hj = es[k] := fun j hj e => by subst e; exact hie
            exact e1 i _ HK.out
          obtain ⟨g2, o2, hA2, _, hg2, hc2⟩ := HL8.out.at_ hi3
          rw [he2] at hc2
          have HC2 : Hid ((w8.drewN q).rangeAt g2 (o2 + i * 12) (rcl es[k])) := hc2
          have HK2 : Hid (i + 1 = (Ed.rest (es.take (k + 1))).length) := by rw [Hid, Ed.rest_take hlt, hr, HK.out]; simp
          have i1 : (i : Int) < (es2.length : Int) := by omega
          have i2 : (i : Int) + 1 ≤ (es.length : Int) := by have h1 : i = (Ed.rest (es.take k)).length := HK.out; have h2 := Ed.rest_le (es.take k); rw [List.length_take] at h2; omega
          rw [hr] at hq41
          clear hc hc2 he2 hie hi2 hr
          generalize es[k] = r at *
          have hpe : ∀ W, (Op.equalIn 10000 40 (.agg r.cells) (.agg r.cells)).run Try.prog W = .ok true W := fun W => by
            have h := rvRun W r r 9995
            rw [(rvB_iff r r).2 rfl] at h
            exact h
          obtain ⟨nm, ty, cl, ttl, ⟨ra', ho, ma, n0, n1, n2, n3, n4⟩⟩ := r
          generalize hwq : w8.drewN q = wq at *
          have HWQ := Lib.hid hwq
          clear hwq
          subst hA hA2
          have e0 := HC.out 0 _ rfl
          have e1 := HC.out 1 _ rfl
          have e2 := HC.out 2 _ rfl
          have e3 := HC.out 3 _ rfl
          have e4 := HC.out 4 _ rfl
          have e5 := HC.out 5 _ rfl
          have e6 := HC.out 6 _ rfl
          have e7 := HC.out 7 _ rfl
          have e8 := HC.out 8 _ rfl
          have e9 := HC.out 9 _ rfl
          have e10 := HC.out 10 _ rfl
          have e11 := HC.out 11 _ rfl
          have f0 := HC2.out 0 _ rfl
          have f1 := HC2.out 1 _ rfl
          have f2 := HC2.out 2 _ rfl
          have f3 := HC2.out 3 _ rfl
          have f4 := HC2.out 4 _ rfl
          have f5 := HC2.out 5 _ rfl
          have f6 := HC2.out 6 _ rfl
          have f7 := HC2.out 7 _ rfl
          have f8 := HC2.out 8 _ rfl
          have f9 := HC2.out 9 _ rfl
          have f10 := HC2.out 10 _ rfl
          have f11 := HC2.out 11 _ rfl
          rw [Nat.add_zero] at e0 f0
          dsimp only [Rv.cells] at hpe
          clear HC HC2
          go_wp2_with fail
          go_quiet (fail)
          go_wp2
          go_roundw
          case rel => exact ⟨i + 1, k + 1, _, by go_num, by go_num, by omega, HK2, by rw [← HWQ.out, World.drewN_drewN]⟩
          case measure => simp [intOf]; omega
        · have HK2 : Hid (i = (Ed.rest (es.take (k + 1))).length) := by rw [Hid, Ed.rest_take hlt, hr, HK.out]; rfl
          rw [hr] at hq41
          clear hc hr
          generalize es[k] = r at *
          generalize hwq : w8.drewN q = wq at *
          have HWQ := Lib.hid hwq
          clear hwq
          subst hA
          have e1 : wq.cell? ⟨g, o + k * 12 + 1, none⟩ = some (.int .u16 r.ty) := HC.out 1 _ rfl
          go_wp2
          go_roundw
          case rel => exact ⟨i, k + 1, q, rfl, by go_num, by omega, HK2, HWQ.out.symm⟩
          case measure => simp [intOf]; omega
      · obtain rfl : k = es.length := by omega
        have hi9 : i = (Ed.rest es).length := by have h := HK.out; rwa [List.take_length] at h
        have s4 : IntKind.i64.wrap ((es2.length : Int) - 1) = (i : Int) := by have h1 := HEL.out; have h2 := HRL.out; rw [IntWalk.i64_in _ (by omega)]; omega
        clear hi9
        go_wp2_with (go_at_call 4; refine (HW.out _).mono ?_; rintro e w9 ⟨rfl, B9⟩; have HB9 := Lib.hid (HBq.out.trans (B9.mono HBq.out.size)); clear B9)
        go_ret
        exact ⟨rfl, HB9.out⟩
end Go.Proofs.Ytapbcepjcnnkgab
