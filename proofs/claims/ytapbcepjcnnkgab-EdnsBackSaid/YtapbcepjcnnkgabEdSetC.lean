/- Set: a message with a code and an OPT: the program's, where all may be. -/
import Derived.Test.YtapbcepjcnnkgabM2
import Derived.Deep.CutRange
namespace Go.Proofs.Ytapbcepjcnnkgab
open Go.RowKit Go.Sort Go.Shelf

set_option maxHeartbeats 4000000 in
set_option maxRecDepth 100000 in
theorem set_ok (m : Mv) (code : Nat) (x : Ev) (w : World) (hc : code ≤ 65535) (hx : x.fits) (hs : x.opt.size ≤ maxLen) (hf : m.fits) (hl : m.lies w) (hn : m.near) (h1 : code ≤ 4095) (hok : x.ok = true) :
    Calls Try.prog 6 #[.agg m.cells, .int .u16 code, .bool true, .agg x.cells] w fun e w' => ∃ m' : Mv, e = .returned (.tuple #[.agg m'.cells, .int .i64 0]) ∧ m'.rc = code % 16 ∧ m'.es = Ed.rest m.es ++ [(⟨x.size, code / 16, x.ver, x.flags, x.opt⟩ : Ev).opt'] ∧ m'.fits ∧ m'.lies w' ∧ Below w.heap.size w w' := by
  have d1 : decide ((4095 : Int) < (code : Int)) = false := by rw [decide_eq_false_iff_not]; omega
  have hi13 : (Try.prog.info? 26).map (·.size) = some 13 := by kernel_rfl
  have HI := Lib.hid hi13
  have hi12 : (Try.prog.info? 40).map (·.size) = some 12 := by kernel_rfl
  have HI12 := Lib.hid hi12
  have hi5 : (Try.prog.info? 28).map (·.size) = some 5 := by kernel_rfl
  have HI5 := Lib.hid hi5
  obtain ⟨⟨hqc, hqn, hqS⟩, ⟨hac, han, haS⟩, ⟨huc, hun, huS⟩, ⟨hec, hen, heS⟩⟩ := hl
  obtain ⟨⟨nq, _⟩, ⟨na, _⟩, ⟨nu, _⟩, ⟨ne, _⟩⟩ := hn
  have hen3 : m.es.length ≤ 4398046511104 := by omega
  have HCE := Lib.hid (fun (W : World) (hb : Below w.heap.size w W) => cloneR_any m.es m.eA m.ec W ((heS.keep hb).more (Nat.le_refl _) hb.size) hen (by omega))
  have HDE := Lib.hid (fun (v : Value) (B : Nat) (W : World) (ho : Own rcl 12 W B 40 v m.es) (hB : B ≤ W.heap.size) => del_any m.es v B W ho hB hen3)
  have hok2 : (⟨x.size, code / 16, x.ver, x.flags, x.opt⟩ : Ev).ok = x.ok := rfl
  have hfit2 : (⟨x.size, code / 16, x.ver, x.flags, x.opt⟩ : Ev).fits := ⟨hx.1, by show code / 16 ≤ 255; omega, hx.2.2.1, hx.2.2.2⟩
  have hrec := fun W : World => rec_any ⟨x.size, code / 16, x.ver, x.flags, x.opt⟩ hfit2 hs W
  have HCA := Lib.hid (fun (W : World) (hb : Below w.heap.size w W) => cloneR_any m.an m.aA m.ac W ((haS.keep hb).more (Nat.le_refl _) hb.size) han (by omega))
  have HCU := Lib.hid (fun (W : World) (hb : Below w.heap.size w W) => cloneR_any m.us m.uA m.uc W ((huS.keep hb).more (Nat.le_refl _) hb.size) hun (by omega))
  have HCQ := Lib.hid (fun (W : World) (hb : Below w.heap.size w W) => cloneQ_any m.qs m.qA m.qc W ((hqS.keep hb).more (Nat.le_refl _) hb.size) hqn (by omega))
  have eX : (⟨x.size, code / 16, x.ver, x.flags, x.opt⟩ : Ev).outR = (⟨x.size, code / 16, x.ver, x.flags, x.opt⟩ : Ev).opt' := if_pos (hok2.trans hok)
  have eE : (⟨x.size, code / 16, x.ver, x.flags, x.opt⟩ : Ev).err = 0 := if_pos (hok2.trans hok)
  have fX : (⟨x.size, code / 16, x.ver, x.flags, x.opt⟩ : Ev).opt'.fits := by
    obtain ⟨f1, f2, f3, f4⟩ := hfit2
    simp only at f1 f2 f3 f4
    refine ⟨by show 41 ≤ 65535; omega, f1, ?_, fits_mk (by decide) (by decide) (by decide) (by decide) (by decide)⟩
    show (code / 16) * 16777216 + x.ver * 65536 + x.flags ≤ 4294967295
    omega
  have HFX := Lib.hid fX
  have hrest : (Ed.rest m.es).length ≤ m.es.length := Ed.rest_le _
  have HFM : Hid (∀ r ∈ Ed.rest m.es, r.fits) := fun r hr => hf.2.2.2.2.2.2.2 r (Ed.rest_mem hr).1
  obtain ⟨fi, fo, fz, fr, fq, fa, fu, fe⟩ := hf
  have HF := Lib.hid (And.intro fi (And.intro fo (And.intro fz (And.intro fq (And.intro fa fu)))))
  clear fi fo fz fr fq fa fu fe fX hi12 hi13 hi5 hqS haS huS heS hqn han hun hen
  rw [eX, eE] at hrec
  have HREC : Hid (∀ W : World, Calls Try.prog 7 #[.agg #[.int .u16 x.size, .int .u8 ((code / 16 : Nat) : Int), .int .u8 x.ver, .int .u16 x.flags, .string x.opt]] W _) := hrec
  obtain ⟨hi', hhi⟩ : ∃ h, code / 16 = h := ⟨_, rfl⟩
  obtain ⟨lo', hlo⟩ : ∃ l, code % 16 = l := ⟨_, rfl⟩
  have s1 : IntKind.u8.wrap ((code : Int) / 16) = (hi' : Int) := by rw [IntKind.wrap_u8]; omega
  have s2 : bits .and .u16 (code : Int) 15 = (lo' : Int) := by rw [and15 code hc, hlo]
  have s3 : IntKind.u8.wrap (lo' : Int) = (lo' : Int) := by rw [IntKind.wrap_u8]; omega
  rw [hhi] at HREC HFX ⊢
  rw [hlo]
  obtain ⟨X, hX⟩ : ∃ X, (⟨x.size, hi', x.ver, x.flags, x.opt⟩ : Ev).opt' = X := ⟨_, rfl⟩
  rw [hX] at HREC HFX ⊢
  obtain ⟨E, hEE⟩ : ∃ E, Ed.rest m.es ++ [X] = E := ⟨_, rfl⟩
  have HEE := Lib.hid hEE
  clear hEE
  have hlo9 : lo' ≤ 15 := by omega
  clear hX eX eE hrec hhi hlo hok hok2 hfit2 hs hx
  obtain ⟨id, rep, op, aa, tc, rd, ra, z, rc, qA, qs, qc, aA, an, ac, uA, us, uc, eA, es, ec⟩ := m
  obtain ⟨sz, hi, ve, fl, opt⟩ := x
  dsimp only [Mv.cells, Ev.cells] at *
  have HS0 : Hid (SetW w (((w.alloc (.cells #[.int .u16 id, .bool rep, .int .u8 op, .bool aa, .bool tc, .bool rd, .bool ra, .int .u8 z, .int .u8 rc, .slice qA qs.length qc, .slice aA an.length ac, .slice uA us.length uc, .slice eA es.length ec] 26)).alloc (.cells #[.int .u16 sz, .int .u8 hi, .int .u8 ve, .int .u16 fl, .string opt] 28)).alloc (.cells #[.int .u16 0, .bool false, .int .u8 0, .bool false, .bool false, .bool false, .bool false, .int .u8 0, .int .u8 0, .slice none 0 0, .slice none 0 0, .slice none 0 0, .slice none 0 0] 26)) #[.int .u16 id, .bool rep, .int .u8 op, .bool aa, .bool tc, .bool rd, .bool ra, .int .u8 z, .int .u8 rc, .slice qA qs.length qc, .slice aA an.length ac, .slice uA us.length uc, .slice eA es.length ec] #[.int .u16 sz, .int .u8 hi, .int .u8 ve, .int .u16 fl, .string opt]) := by
    refine ⟨((Has.fresh w _ _).alloc _).alloc _, ?_, ?_, (((Below.refl _ _).alloc (Nat.le_refl _) _).alloc (by simp) _).alloc (by simp; omega) _, by simp⟩
    · have h := Has.fresh (w.alloc (.cells #[.int .u16 id, .bool rep, .int .u8 op, .bool aa, .bool tc, .bool rd, .bool ra, .int .u8 z, .int .u8 rc, .slice qA qs.length qc, .slice aA an.length ac, .slice uA us.length uc, .slice eA es.length ec] 26)) 28 #[.int .u16 sz, .int .u8 hi, .int .u8 ve, .int .u16 fl, .string opt]
      rw [World.size_alloc] at h
      exact h.alloc _
    · have h := Has.fresh ((w.alloc (.cells #[.int .u16 id, .bool rep, .int .u8 op, .bool aa, .bool tc, .bool rd, .bool ra, .int .u8 z, .int .u8 rc, .slice qA qs.length qc, .slice aA an.length ac, .slice uA us.length uc, .slice eA es.length ec] 26)).alloc (.cells #[.int .u16 sz, .int .u8 hi, .int .u8 ve, .int .u16 fl, .string opt] 28)) 26 #[.int .u16 0, .bool false, .int .u8 0, .bool false, .bool false, .bool false, .bool false, .int .u8 0, .int .u8 0, .slice none 0 0, .slice none 0 0, .slice none 0 0, .slice none 0 0]
      rw [World.size_alloc, World.size_alloc] at h
      exact h
  obtain ⟨ti, ht1, ht2, ht3, ht4⟩ : ∃ i, Try.prog.info? 40 = some i ∧ i.zero = some (.agg (rcl ⟨⟨#[]⟩, 0, 0, 0, ⟨⟨#[]⟩, ⟨#[]⟩, ⟨#[]⟩, 0, 0, 0, 0, 0⟩⟩).toArray) ∧ i.size = 12 ∧ i.bytes = 96 := ⟨_, rfl, by kernel_rfl, by kernel_rfl, by kernel_rfl⟩
  have HT := Lib.hid (And.intro ht1 (And.intro ht2 (And.intro ht3 ht4)))
  clear ht1 ht2 ht3 ht4
  go_enter Try.func6, Try.ntmps6
  go_upto_region 1 with fail
  go_cut [22] from 13 to 22 (fun c wx => c = .bool false ∧ Hid (SetW w wx #[.int .u16 id, .bool rep, .int .u8 op, .bool aa, .bool tc, .bool rd, .bool ra, .int .u8 z, .int .u8 rc, .slice qA qs.length qc, .slice aA an.length ac, .slice uA us.length uc, .slice eA es.length ec] #[.int .u16 sz, .int .u8 hi, .int .u8 ve, .int .u16 fl, .string opt]))
  case first =>
    by_cases h15 : (15 : Int) < (code : Int)
    · have d2 : decide ((15 : Int) < (code : Int)) = true := by rw [decide_eq_true_iff]; exact h15
      clear h15 h1
      go_wp2
      go_meet
      exact ⟨rfl, HS0⟩
    · have d2 : decide ((15 : Int) < (code : Int)) = false := by rw [decide_eq_false_iff_not]; exact h15
      clear h15 h1
      go_wp2
      go_meet
      exact ⟨rfl, HS0⟩
  clear HS0
  obtain ⟨rfl, HS0⟩ := hcut
  generalize wc = w0 at *
  have c120 : w0.cell? ⟨w.heap.size, 12, none⟩ = some (.slice eA es.length ec) := HS0.out.m.cell 12
  go_wp2_with (first
    | (go_at_call_of 11 (Value.slice eA es.length ec)
       refine (HCE.out _ HS0.out.b).mono ?_
       rintro e w1 ⟨v1, rfl, ho1, B1⟩
       have HO1 := Lib.hid ho1
       have HS1 := Lib.hid (HS0.out.keep B1 HS0.out.s)
       have HZ1 := Lib.hid B1.size
       clear ho1 B1)
    | (go_at_call 10
       refine (HDE.out _ _ _ HO1.out HZ1.out).mono ?_
       rintro e w2 ⟨v2, rfl, ho2, B2⟩
       have HS2 := Lib.hid (HS1.out.keep B2 HS0.out.s)
       have cx : w2.cell? ⟨w.heap.size + 1, 1, none⟩ = some (.int .u8 hi) := HS2.out.x.cell 1
       have fx : w2.frozen? ⟨w.heap.size + 1, 1, none⟩ = false := HS2.out.x.free 1
       have HS3 : Hid (SetW w (w2.setCell ⟨w.heap.size + 1, 1, none⟩ (.int .u8 (hi' : Int))) #[.int .u16 id, .bool rep, .int .u8 op, .bool aa, .bool tc, .bool rd, .bool ra, .int .u8 z, .int .u8 rc, .slice qA qs.length qc, .slice aA an.length ac, .slice uA us.length uc, .slice eA es.length ec] #[.int .u16 sz, .int .u8 (hi' : Int), .int .u8 ve, .int .u16 fl, .string opt]) := HS2.out.setX 1 _
       have HO3 : Hid (Own rcl 12 (w2.setCell ⟨w.heap.size + 1, 1, none⟩ (.int .u8 (hi' : Int))) w0.heap.size 40 v2 (Ed.rest es)) := ho2.kept (grown_setCell _ _ _) (.inr (fun e => by have h1 : w0.heap.size ≤ w.heap.size + 1 := (ho2.lt _ e).1; have h2 := HS0.out.s; omega))
       have HZ3 : Hid (w0.heap.size ≤ (w2.setCell ⟨w.heap.size + 1, 1, none⟩ (.int .u8 (hi' : Int))).heap.size) := (by have h1 := HZ1.out; have h2 := B2.size; rw [Hid, World.size_setCell]; omega)
       clear ho2 B2)
    | (refine wpList_load_row rfl 28 (.tmp 7) rfl (w.heap.size + 1) rfl 28 #[.int .u16 sz, .int .u8 (hi' : Int), .int .u8 ve, .int .u16 fl, .string opt] (0, 0) _ HS3.out.x Try.underlying28 rfl HI5.out ?_
       revert HS3 HZ3 HO3
       generalize w2.setCell _ _ = w3
       intro HS3 HO3 HZ3
       clear cx fx HS2 HS1 HO1)
    | (go_at_call 7
       refine (HREC.out _).mono ?_
       rintro e w4 ⟨rfl, B4⟩
       have HS4 := Lib.hid (HS3.out.keep B4 HS3.out.s)
       have HO4 := Lib.hid (ownK_below HO3.out B4 (Nat.le_refl _))
       have HZ4 := Lib.hid (Nat.le_trans HZ3.out B4.size)
       clear B4)
    | (refine wpList_store_boxed rfl 40 (.tmp 11) (.tmp 36) rfl 40 _ X.cells rfl rfl HI12.out rfl (rec_one X) ?_
       intro w5 hY g5 hs5
       have HY5 := Lib.hid hY
       have HS5 := Lib.hid (HS4.out.grown g5 (by simp))
       have HO5 := Lib.hid (HO4.out.kept g5 (Classical.em _))
       have HZ5 := Lib.hid (Nat.le_trans HZ4.out g5.size)
       clear hY g5)
    | (refine wpList_load_row rfl 40 (.tmp 11) rfl w4.heap.size rfl 40 X.cells (0, 0) _ HY5.out Try.underlying40 rfl HI12.out ?_)
    | (refine wpList_build_one rfl 24 40 (.tmp 43) rfl 12 X.cells ti _ Try.underlying24 HT.out.1 HT.out.2.1 HT.out.2.2.1 (by omega) (by omega) rfl (fill_rec X) ?_
       intro w6 hN g6 hs6
       have HN6 := Lib.hid hN
       have HS6 := Lib.hid (HS5.out.grown g6 (by simp))
       have HO6 := Lib.hid (HO5.out.kept g6 (Classical.em _))
       have HZ6 := Lib.hid (Nat.le_trans HZ5.out g6.size)
       clear hN g6)
    | (refine wpList_append_struct rfl (.tmp 42) (.tmp 44) 24 rfl rcl_len rcl_one 40 ti _ 96 Try.underlying24 HT.out.1 HT.out.2.1 HT.out.2.2.1 HT.out.2.2.2 rfl (by omega) w0.heap.size v2 (Ed.rest es) rfl HO6.out X w5.heap.size 1 rfl (fun i u hu => by rw [Nat.zero_add, HN6.out.cell]; rw [← hu, Array.getElem?_toList]) (by unfold maxLen; omega) (by omega) HZ6.out ?_
       intro v7 w7 ho7 g7 hw7
       have HS7 := Lib.hid (HS6.out.grown g7 (fun k e => Nat.le_trans HS0.out.s (HO6.out.lt k e).1))
       rw [HEE.out] at ho7
       obtain ⟨eA2, ec2, rfl, hre0⟩ := (Lsr.own rcl_len ho7).rd
       have hre7 := hre0.low HS0.out.s
       have c8 : w7.cell? ⟨w.heap.size, 8, none⟩ = some (.int .u8 rc) := HS7.out.m.cell 8
       have f8 : w7.frozen? ⟨w.heap.size, 8, none⟩ = false := HS7.out.m.free 8
       have HS8 : Hid (SetW w (w7.setCell ⟨w.heap.size, 8, none⟩ (.int .u8 (lo' : Int))) #[.int .u16 id, .bool rep, .int .u8 op, .bool aa, .bool tc, .bool rd, .bool ra, .int .u8 z, .int .u8 (lo' : Int), .slice qA qs.length qc, .slice aA an.length ac, .slice uA us.length uc, .slice eA es.length ec] _) := HS7.out.setM 8 _
       have HE8 := Lib.hid (hre7.set (p := ⟨w.heap.size, 8, none⟩) (by show w.heap.size < w.heap.size + 3; omega) (.int .u8 (lo' : Int)))
       have c9 : (w7.setCell ⟨w.heap.size, 8, none⟩ (.int .u8 (lo' : Int))).cell? ⟨w.heap.size, 9, none⟩ = some (.slice qA qs.length qc) := HS8.out.m.cell 9
       clear ho7 g7 hw7 hre7 hre0)
    | (go_at_call_of 13 (Value.slice qA qs.length qc)
       revert HS8 HE8
       generalize w7.setCell _ _ = wga
       intro HS8 HE8
       refine (HCQ.out _ HS8.out.b).mono ?_
       rintro e wca ⟨va, rfl, ho, B⟩
       obtain ⟨qA2, qc2, rfl, hrd0⟩ := (Lsr.own kcl_len ho).rd
       have hrd := hrd0.low HS8.out.s
       have HSaw := Lib.hid (HS8.out.keep B HS8.out.s)
       have Ka0 := Lib.hid (HE8.out.keep B)
       have ca0 : wca.cell? ⟨w.heap.size, 9, none⟩ = some (.slice qA qs.length qc) := HSaw.out.m.cell 9
       have fa0 : wca.frozen? ⟨w.heap.size, 9, none⟩ = false := HSaw.out.m.free 9
       have HSa : Hid (SetW w (wca.setCell ⟨w.heap.size, 9, none⟩ (.slice qA2 qs.length qc2)) #[.int .u16 id, .bool rep, .int .u8 op, .bool aa, .bool tc, .bool rd, .bool ra, .int .u8 z, .int .u8 (lo' : Int), .slice qA2 qs.length qc2, .slice aA an.length ac, .slice uA us.length uc, .slice eA es.length ec] _) := HSaw.out.setM 9 _
       have La0 := Lib.hid (Ka0.out.set (p := ⟨w.heap.size, 9, none⟩) (by show w.heap.size < w.heap.size + 3; omega) (.slice qA2 qs.length qc2))
       have Ma := Lib.hid (hrd.set (p := ⟨w.heap.size, 9, none⟩) (by show w.heap.size < w.heap.size + 3; omega) (.slice qA2 qs.length qc2))
       have da0 : (wca.setCell ⟨w.heap.size, 9, none⟩ (.slice qA2 qs.length qc2)).cell? ⟨w.heap.size, 10, none⟩ = some (.slice aA an.length ac) := HSa.out.m.cell 10
       clear ho B hrd hrd0)
    | (go_at_call_of 11 (Value.slice aA an.length ac)
       revert HSa La0 Ma
       generalize wca.setCell _ _ = wgb
       intro HSa La0 Ma
       refine (HCA.out _ HSa.out.b).mono ?_
       rintro e wcb ⟨vb, rfl, ho, B⟩
       obtain ⟨aA2, ac2, rfl, hrd0⟩ := (Lsr.own rcl_len ho).rd
       have hrd := hrd0.low HSa.out.s
       have HSbw := Lib.hid (HSa.out.keep B HSa.out.s)
       have Kb0 := Lib.hid (La0.out.keep B)
       have Kb1 := Lib.hid (Ma.out.keep B)
       have cb0 : wcb.cell? ⟨w.heap.size, 10, none⟩ = some (.slice aA an.length ac) := HSbw.out.m.cell 10
       have fb0 : wcb.frozen? ⟨w.heap.size, 10, none⟩ = false := HSbw.out.m.free 10
       have HSb : Hid (SetW w (wcb.setCell ⟨w.heap.size, 10, none⟩ (.slice aA2 an.length ac2)) #[.int .u16 id, .bool rep, .int .u8 op, .bool aa, .bool tc, .bool rd, .bool ra, .int .u8 z, .int .u8 (lo' : Int), .slice qA2 qs.length qc2, .slice aA2 an.length ac2, .slice uA us.length uc, .slice eA es.length ec] _) := HSbw.out.setM 10 _
       have Lb0 := Lib.hid (Kb0.out.set (p := ⟨w.heap.size, 10, none⟩) (by show w.heap.size < w.heap.size + 3; omega) (.slice aA2 an.length ac2))
       have Lb1 := Lib.hid (Kb1.out.set (p := ⟨w.heap.size, 10, none⟩) (by show w.heap.size < w.heap.size + 3; omega) (.slice aA2 an.length ac2))
       have Mb := Lib.hid (hrd.set (p := ⟨w.heap.size, 10, none⟩) (by show w.heap.size < w.heap.size + 3; omega) (.slice aA2 an.length ac2))
       have db0 : (wcb.setCell ⟨w.heap.size, 10, none⟩ (.slice aA2 an.length ac2)).cell? ⟨w.heap.size, 11, none⟩ = some (.slice uA us.length uc) := HSb.out.m.cell 11
       clear ho B hrd hrd0)
    | (go_at_call_of 11 (Value.slice uA us.length uc)
       revert HSb Lb0 Lb1 Mb
       generalize wcb.setCell _ _ = wgc
       intro HSb Lb0 Lb1 Mb
       refine (HCU.out _ HSb.out.b).mono ?_
       rintro e wcc ⟨vc, rfl, ho, B⟩
       obtain ⟨uA2, uc2, rfl, hrd0⟩ := (Lsr.own rcl_len ho).rd
       have hrd := hrd0.low HSb.out.s
       have HScw := Lib.hid (HSb.out.keep B HSb.out.s)
       have Kc0 := Lib.hid (Lb0.out.keep B)
       have Kc1 := Lib.hid (Lb1.out.keep B)
       have Kc2 := Lib.hid (Mb.out.keep B)
       have cc0 : wcc.cell? ⟨w.heap.size, 11, none⟩ = some (.slice uA us.length uc) := HScw.out.m.cell 11
       have fc0 : wcc.frozen? ⟨w.heap.size, 11, none⟩ = false := HScw.out.m.free 11
       have HSc : Hid (SetW w (wcc.setCell ⟨w.heap.size, 11, none⟩ (.slice uA2 us.length uc2)) #[.int .u16 id, .bool rep, .int .u8 op, .bool aa, .bool tc, .bool rd, .bool ra, .int .u8 z, .int .u8 (lo' : Int), .slice qA2 qs.length qc2, .slice aA2 an.length ac2, .slice uA2 us.length uc2, .slice eA es.length ec] _) := HScw.out.setM 11 _
       have Lc0 := Lib.hid (Kc0.out.set (p := ⟨w.heap.size, 11, none⟩) (by show w.heap.size < w.heap.size + 3; omega) (.slice uA2 us.length uc2))
       have Lc1 := Lib.hid (Kc1.out.set (p := ⟨w.heap.size, 11, none⟩) (by show w.heap.size < w.heap.size + 3; omega) (.slice uA2 us.length uc2))
       have Lc2 := Lib.hid (Kc2.out.set (p := ⟨w.heap.size, 11, none⟩) (by show w.heap.size < w.heap.size + 3; omega) (.slice uA2 us.length uc2))
       have Mc := Lib.hid (hrd.set (p := ⟨w.heap.size, 11, none⟩) (by show w.heap.size < w.heap.size + 3; omega) (.slice uA2 us.length uc2))
       have dc0 : (wcc.setCell ⟨w.heap.size, 11, none⟩ (.slice uA2 us.length uc2)).cell? ⟨w.heap.size, 12, none⟩ = some (.slice eA es.length ec) := HSc.out.m.cell 12
       have e12 : (wcc.setCell ⟨w.heap.size, 11, none⟩ (.slice uA2 us.length uc2)).frozen? ⟨w.heap.size, 12, none⟩ = false := HSc.out.m.free 12
       have HSF : Hid (SetW w ((wcc.setCell ⟨w.heap.size, 11, none⟩ (.slice uA2 us.length uc2)).setCell ⟨w.heap.size, 12, none⟩ (.slice eA2 E.length ec2)) #[.int .u16 id, .bool rep, .int .u8 op, .bool aa, .bool tc, .bool rd, .bool ra, .int .u8 z, .int .u8 (lo' : Int), .slice qA2 qs.length qc2, .slice aA2 an.length ac2, .slice uA2 us.length uc2, .slice eA2 E.length ec2] _) := HSc.out.setM 12 _
       have N0 := Lib.hid (Lc0.out.set (p := ⟨w.heap.size, 12, none⟩) (by show w.heap.size < w.heap.size + 3; omega) (.slice eA2 E.length ec2))
       have N1 := Lib.hid (Lc1.out.set (p := ⟨w.heap.size, 12, none⟩) (by show w.heap.size < w.heap.size + 3; omega) (.slice eA2 E.length ec2))
       have N2 := Lib.hid (Lc2.out.set (p := ⟨w.heap.size, 12, none⟩) (by show w.heap.size < w.heap.size + 3; omega) (.slice eA2 E.length ec2))
       have N3 := Lib.hid (Mc.out.set (p := ⟨w.heap.size, 12, none⟩) (by show w.heap.size < w.heap.size + 3; omega) (.slice eA2 E.length ec2))
       clear ho B hrd hrd0)
    | (refine wpList_load_row rfl 26 (.tmp 4) rfl w.heap.size rfl 26 #[.int .u16 id, .bool rep, .int .u8 op, .bool aa, .bool tc, .bool rd, .bool ra, .int .u8 z, .int .u8 (lo' : Int), .slice qA2 qs.length qc2, .slice aA2 an.length ac2, .slice uA2 us.length uc2, .slice eA2 E.length ec2] (0, 0) _ HSF.out.m Try.underlying26 rfl HI.out ?_
       revert HSF N0 N1 N2 N3
       generalize (wcc.setCell _ _).setCell _ _ = wf
       intro HSF N0 N1 N2 N3)
    | (refine wpList_store_row rfl 26 (.tmp 8) (.tmp 64) rfl (w.heap.size + 1 + 1) #[.int .u16 id, .bool rep, .int .u8 op, .bool aa, .bool tc, .bool rd, .bool ra, .int .u8 z, .int .u8 (lo' : Int), .slice qA2 qs.length qc2, .slice aA2 an.length ac2, .slice uA2 us.length uc2, .slice eA2 E.length ec2] rfl rfl 26 _ HSF.out.r HI.out rfl (by simp [Value.oneCell']) ?_))
  refine bodyPost_ret (results_row_tmp rfl _ _ (w.heap.size + 1 + 1) 26 #[.int .u16 id, .bool rep, .int .u8 op, .bool aa, .bool tc, .bool rd, .bool ra, .int .u8 z, .int .u8 (lo' : Int), .slice qA2 qs.length qc2, .slice aA2 an.length ac2, .slice uA2 us.length uc2, .slice eA2 E.length ec2] _ rfl (HSF.out.r.row _) Try.underlying26 rfl HI.out) rfl ?_
  have hg : w.heap.size + 1 + 1 < w.heap.size + 3 := by omega
  have R0 := N0.out.setRow hg #[.int .u16 id, .bool rep, .int .u8 op, .bool aa, .bool tc, .bool rd, .bool ra, .int .u8 z, .int .u8 (lo' : Int), .slice qA2 qs.length qc2, .slice aA2 an.length ac2, .slice uA2 us.length uc2, .slice eA2 E.length ec2]
  have R1 := N1.out.setRow hg #[.int .u16 id, .bool rep, .int .u8 op, .bool aa, .bool tc, .bool rd, .bool ra, .int .u8 z, .int .u8 (lo' : Int), .slice qA2 qs.length qc2, .slice aA2 an.length ac2, .slice uA2 us.length uc2, .slice eA2 E.length ec2]
  have R2 := N2.out.setRow hg #[.int .u16 id, .bool rep, .int .u8 op, .bool aa, .bool tc, .bool rd, .bool ra, .int .u8 z, .int .u8 (lo' : Int), .slice qA2 qs.length qc2, .slice aA2 an.length ac2, .slice uA2 us.length uc2, .slice eA2 E.length ec2]
  have R3 := N3.out.setRow hg #[.int .u16 id, .bool rep, .int .u8 op, .bool aa, .bool tc, .bool rd, .bool ra, .int .u8 z, .int .u8 (lo' : Int), .slice qA2 qs.length qc2, .slice aA2 an.length ac2, .slice uA2 us.length uc2, .slice eA2 E.length ec2]
  have hE := HEE.out
  refine ⟨⟨id, rep, op, aa, tc, rd, ra, z, lo', qA2, qs, qc2, aA2, an, ac2, uA2, us, uc2, eA2, E, ec2⟩, rfl, rfl, hE.symm, ⟨HF.out.1, HF.out.2.1, HF.out.2.2.1, by show lo' ≤ 255; omega, HF.out.2.2.2.1, HF.out.2.2.2.2.1, HF.out.2.2.2.2.2, fun r hr => ?_⟩, ⟨⟨R1.cap, R1.nil, R1.row.more (Nat.zero_le _) (Nat.le_refl _)⟩, ⟨R2.cap, R2.nil, R2.row.more (Nat.zero_le _) (Nat.le_refl _)⟩, ⟨R3.cap, R3.nil, R3.row.more (Nat.zero_le _) (Nat.le_refl _)⟩, ⟨R0.cap, R0.nil, R0.row.more (Nat.zero_le _) (Nat.le_refl _)⟩⟩, below_setRow HSF.out.b (by omega) _⟩
  rw [← hE] at hr
  rcases List.mem_append.1 hr with hr | hr
  · exact HFM.out r hr
  · rw [List.mem_singleton.1 hr]
    exact HFX.out
end Go.Proofs.Ytapbcepjcnnkgab
