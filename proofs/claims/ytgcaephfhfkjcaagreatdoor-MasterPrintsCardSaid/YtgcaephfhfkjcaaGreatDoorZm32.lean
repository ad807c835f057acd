/- Texts of the proofs, merged. -/
import Derived.Test.YtgcaephfhfkjcaaGreatDoorZm30
import Derived.Test.YtgcaephfhfkjcaaGreatDoorZm31
import Derived.Test.YtgcaephfhfkjcaaGreatDoorZm29
import Derived.Great.BuildSlice
namespace Go.Proofs.YtgcaephfhfkjcaaGreatDoor
open Go.RowKit

theorem bld_keep {T e : TypeId} {B b : Nat} {p : Value} {bs : List Value} {W W' : World} (h : Lib.BuilderAt T e B b p bs W) (hb : Below W.heap.size W W') : Lib.BuilderAt T e B b p bs W' := by
  obtain ⟨h1, v, h2, h3, h4⟩ := h
  exact ⟨h1, v, (hb.block b (Array.getElem?_eq_some_iff.1 h2).1).trans h2, own_below h3 hb (Nat.le_refl _), h4⟩
theorem bld_is {T e : TypeId} {B b : Nat} {bs : List Value} {W W' : World} (h : Lib.IsBuilder T e B b bs W) (hb : Below W.heap.size W W') : Lib.IsBuilder T e B b bs W' := by
  rcases h with h | h
  · exact .inl (bld_keep h hb)
  · exact .inr (bld_keep h hb)
theorem two_cells {W : World} {g : Nat} {t : TypeId} {a b : List UInt8} (h : Has W g t #[sv a, sv b]) : ∀ (j : Nat) (x : List UInt8), [a, b][j]? = some x → W.cell? ⟨g, j, none⟩ = some (sv x) := by
  intro j x hx
  rw [h.cell]
  rcases j with _ | _ | j
  all_goals first
    | (simp at hx; done)
    | (simp at hx; subst hx; rfl)
theorem bv_strs (X L : List UInt8) : bv X ++ Lib.strCells ⟨L.toArray⟩ = bv (X ++ L) := by
  rw [strCells_bv]
  simp [bv]
theorem Mp.textL_take (o : Nm.By) (l : List Rv) (k : Nat) : (Mp.textL o (l.take k)).length ≤ (Mp.textL o l).length := by
  have h : Mp.textL o l = Mp.textL o (l.take k) ++ (l.drop k).flatMap Mp.lineL := by
    unfold Mp.textL
    rw [List.append_assoc, ← List.flatMap_append, List.take_append_drop]
  rw [h, List.length_append]
  omega
theorem Mp.head_join (o : Nm.By) : Lib.join [[36, 79, 82, 73, 71, 73, 78], Nm.text (Nm.fold o)] [32] ++ [10] = Mp.textL o [] := by
  unfold Mp.textL Mp.headL
  simp [Lib.join, List.intercalate]
set_option maxHeartbeats 1000000 in
set_option maxRecDepth 100000 in
theorem mPrint_any (o : ByteArray) (rs : List Rv) (A : Option Addr) (c : Nat) (w : World) (ho : o.size ≤ 140737488355328) (hL : LayA w) (hA : Srow rcl 12 w 0 w.heap.size A rs) (hn : rs.length ≤ 40) (hF : ∀ r ∈ rs, Mp.Fine r) :
    Calls Tryz.prog 9 #[.string o, .slice A rs.length c] w fun e w' => e = .returned (Mp.printV o.data.toList rs) ∧ Below w.heap.size w w' := by
  have HN := Lib.hid (fun W : World => (show Calls Tryz.prog 19 #[.string o] W (fun e w' => e = .returned (.int .i64 (if Rd.nm o.data.toList then 0 else 11)) ∧ Below W.heap.size W w') from Check_any o W ho))
  have HTX := Lib.hid (fun W : World => msmall_any o W ho)
  have HA := Lib.hid hA
  have HLL := Lib.hid hL
  have HCK := Lib.hid (fun (r : Rv) (h : Mp.Fine r) (W : World) (hW : LayR W) => (show Calls Tryz.prog 20 #[.agg r.cells] W (fun e w' => e = .returned (.int .i64 (Mp.okL r : Nat)) ∧ Below W.heap.size W w') from mcheck_any r W h.1 hW h.2.2.1 h.2.2.2.1 h.2.2.2.2))
  have HLIN := Lib.hid (fun (r : Rv) (h : Mp.Fine r) (ok : Rd.ok r.ty r.d.dt = true) (W : World) (hW : LayA W) => (show Calls Tryz.prog 24 #[.agg r.cells] W (fun e w' => e = .returned (sv (Mp.lineL r)) ∧ Below W.heap.size W w') from recLine_any r W h.1 h.2.1 hW h.2.2.1 h.2.2.2.1 h.2.2.2.2 ok))
  have hi12 : (Tryz.prog.info? 36).map (·.size) = some 12 := by kernel_rfl
  have HI := Lib.hid hi12
  have iN : ¬ (4096 : Int) < (rs.length : Int) := by omega
  unfold Mp.printV
  clear hi12 ho hA hL
  cases hno : Rd.nm o.data.toList with
  | false =>
    rw [hno] at HN
    simp only [Bool.false_eq_true, if_false] at HN ⊢
    go_enter Tryz.func9, Tryz.ntmps9
    go_wp2_with (go_at_call 19; refine (HN.out _).mono ?_; rintro e w1 ⟨rfl, B1⟩)
    go_ret2
    exact ⟨rfl, B1⟩
  | true =>
    rw [hno] at HN
    simp only [if_true] at HN ⊢
    obtain ⟨V, hV⟩ : ∃ V, (if Mp.bad rs = 0 then (if (Mp.textL o.data.toList rs).length ≤ 262144 then Value.tuple #[sv (Mp.textL o.data.toList rs), .int .i64 0] else .tuple #[.string ⟨#[]⟩, .int .i64 2]) else .tuple #[.string ⟨#[]⟩, .int .i64 (Mp.bad rs : Nat)]) = V := ⟨_, rfl⟩
    rw [hV]
    have HV := Lib.hid hV
    clear hV hno
    go_enter Tryz.func9, Tryz.ntmps9
    go_wp2_with (go_at_call 19; refine (HN.out _).mono ?_; rintro e w1 ⟨rfl, B1⟩; have HB1 := Lib.hid B1; clear B1)
    go_loopw [20] (fun s20 wr => ∃ i : Nat, s20 = .int .i64 i ∧ i ≤ rs.length ∧ Mp.bad (rs.take i) = 0 ∧ Hid (Below w.heap.size w wr)) (fun s20 _ => rs.length - (intOf s20).toNat)
    case atStart => exact ⟨0, rfl, Nat.zero_le _, rfl, HB1⟩
    case round =>
      obtain ⟨i, rfl, hi, hb, HBr⟩ := hrel
      by_cases hlt : i < rs.length
      · obtain ⟨g, o1, rfl, _, _, hc⟩ := (HA.out.keep HBr.out).at_ hlt
        have HC : Hid (wr.rangeAt g (o1 + i * 12) (rcl rs[i])) := hc
        have hfi := hF rs[i] (List.getElem_mem hlt)
        have HL1 := Lib.hid (HCK.out rs[i] hfi)
        have htk : rs.take (i + 1) = rs.take i ++ [rs[i]] := List.take_succ_eq_append_getElem hlt
        have hbs := Mp.bad_snoc (rs.take i) rs[i] hb
        rw [← htk] at hbs
        have hsp : Mp.okL rs[i] ≠ 0 → Mp.bad rs = Mp.okL rs[i] := fun h => by
          have h2 := Mp.bad_app (rs.take (i + 1)) (rs.drop (i + 1)) (by rw [hbs]; exact h)
          rw [List.take_append_drop] at h2
          rw [h2, hbs]
        have i1 : (i : Int) < (rs.length : Int) := by omega
        have i0 : (0 : Int) ≤ (i : Int) := by omega
        have HRS := Lib.hid hbs
        have HSP := Lib.hid hsp
        clear hc htk hbs hsp hfi hb
        generalize rs[i] = r at *
        have HX3 : Hid (Has ((wr.alloc (.cells #[.string ⟨#[]⟩, .int .u16 0, .int .u16 0, .int .u32 0, .string ⟨#[]⟩, .string ⟨#[]⟩, .string ⟨#[]⟩, .int .u32 0, .int .u32 0, .int .u32 0, .int .u32 0, .int .u32 0] 36)).setRow wr.heap.size r.cells) wr.heap.size 36 r.cells) := (Has.fresh _ _ _).row _
        have HB3 : Hid (Below w.heap.size w ((wr.alloc (.cells #[.string ⟨#[]⟩, .int .u16 0, .int .u16 0, .int .u32 0, .string ⟨#[]⟩, .string ⟨#[]⟩, .string ⟨#[]⟩, .int .u32 0, .int .u32 0, .int .u32 0, .int .u32 0, .int .u32 0] 36)).setRow wr.heap.size r.cells)) := below_setRow (HBr.out.alloc HBr.out.size _) HBr.out.size _
        by_cases hk : Mp.okL r = 0
        · rw [hk] at HL1 HRS
          go_wp2_with (first
            | (refine wpList_load_mid rfl 36 (.tmp 22) rfl g _ rfl (rcl r) _ HC.out Tryz.underlying36 rfl HI.out ?_)
            | (refine wpList_store_row rfl 36 (.tmp 7) (.tmp 23) rfl wr.heap.size r.cells rfl rfl 36 _ (Has.fresh _ _ _) HI.out rfl (rv_one r) ?_
               revert HX3 HB3
               generalize ((wr.alloc (.cells #[.string ⟨#[]⟩, .int .u16 0, .int .u16 0, .int .u32 0, .string ⟨#[]⟩, .string ⟨#[]⟩, .string ⟨#[]⟩, .int .u32 0, .int .u32 0, .int .u32 0, .int .u32 0, .int .u32 0] 36)).setRow wr.heap.size r.cells) = w3
               intro HX3 HB3)
            | (refine wpList_load_row rfl 36 (.tmp 7) rfl wr.heap.size rfl 36 r.cells (0, 0) _ HX3.out Tryz.underlying36 rfl HI.out ?_)
            | (go_at_call 20
               refine (HL1.out _ (LayR.below HLL.out.1 HB3.out (Nat.le_refl _))).mono ?_
               rintro e w4 ⟨rfl, B4⟩
               have HB4 := Lib.hid (HB3.out.trans (B4.mono HB3.out.size))
               clear B4))
          go_roundw
          case rel => exact ⟨i + 1, by go_num, by omega, HRS.out, HB4⟩
          case measure => simp [intOf]; omega
        · have i9 : ¬ ((Mp.okL r : Nat) : Int) = 0 := by omega
          generalize Mp.okL r = K9 at *
          go_wp2_with (first
            | (refine wpList_load_mid rfl 36 (.tmp 22) rfl g _ rfl (rcl r) _ HC.out Tryz.underlying36 rfl HI.out ?_)
            | (refine wpList_store_row rfl 36 (.tmp 7) (.tmp 23) rfl wr.heap.size r.cells rfl rfl 36 _ (Has.fresh _ _ _) HI.out rfl (rv_one r) ?_
               revert HX3 HB3
               generalize ((wr.alloc (.cells #[.string ⟨#[]⟩, .int .u16 0, .int .u16 0, .int .u32 0, .string ⟨#[]⟩, .string ⟨#[]⟩, .string ⟨#[]⟩, .int .u32 0, .int .u32 0, .int .u32 0, .int .u32 0, .int .u32 0] 36)).setRow wr.heap.size r.cells) = w3
               intro HX3 HB3)
            | (refine wpList_load_row rfl 36 (.tmp 7) rfl wr.heap.size rfl 36 r.cells (0, 0) _ HX3.out Tryz.underlying36 rfl HI.out ?_)
            | (go_at_call 20
               refine (HL1.out _ (LayR.below HLL.out.1 HB3.out (Nat.le_refl _))).mono ?_
               rintro e w4 ⟨rfl, B4⟩
               have HB4 := Lib.hid (HB3.out.trans (B4.mono HB3.out.size))
               clear B4))
          go_ret2
          refine ⟨?_, HB4.out⟩
          rw [← HV.out, HSP.out hk, if_neg hk]
          rfl
      · have hie : i = rs.length := by omega
        subst hie
        rw [List.take_length] at hb
        have i1 : ¬ (rs.length : Int) < (rs.length : Int) := by omega
        have HV2 := HV.out
        rw [if_pos hb] at HV2
        have HV3 := Lib.hid HV2
        clear HV2 HV
        have hok := Mp.bad_mem hb
        generalize hO : o.data.toList = O at *
        have HJ : Hid (∀ (W : World) (g : Nat), (∀ (j : Nat) (x : List UInt8), [[36, 79, 82, 73, 71, 73, 78], Nm.text (Nm.fold O)][j]? = some x → W.cell? ⟨g, j, none⟩ = some (sv x)) → g < W.heap.size → Calls Tryz.prog 22 #[.slice (some ⟨g, 0, none⟩) 2 2] W fun e w' => e = .returned (sv (Mp.textL O [])) ∧ Below W.heap.size W w') := fun W g h hg => by
          have h5 := text_few (Nm.fold O)
          have := mline_any g _ W h hg (by simp) (by simp [Lib.join, List.intercalate]; omega)
          rw [Mp.head_join] at this
          exact this
        have hhl : (Mp.textL O []).length ≤ 40009 := by
          have := Mp.headL_len O
          unfold Mp.textL
          simpa using this
        have HBD0 := Lib.hid (Lib.fresh_isBuilder 58 5 wr)
        have HB5 : Hid (Below w.heap.size w (wr.alloc (.cells #[.pointer none, .slice none 0 0] 58))) := HBr.out.alloc HBr.out.size _
        have hB0 := HBr.out.size
        have HT : Hid (∀ i, (Mp.textL O (rs.take i)).length ≤ (Mp.textL O rs).length) := fun i => Mp.textL_take O rs i
        obtain ⟨T, hT⟩ : ∃ T, Nm.text (Nm.fold O) = T := ⟨_, rfl⟩
        rw [hT] at HJ HTX
        obtain ⟨H0, hH0⟩ : ∃ H0, Mp.textL O [] = H0 := ⟨_, rfl⟩
        rw [hH0] at HJ hhl
        have HH0 := Lib.hid hH0
        clear hb hT hH0 hO
        obtain ⟨b, hbw⟩ : ∃ b, wr.heap.size = b := ⟨_, rfl⟩
        have HWS : Hid (∀ (W : World) (X L : List UInt8), Lib.IsBuilder 58 5 b b (bv X) W → X.length + L.length ≤ 140737488355328 → b ≤ W.heap.size → Calls Tryz.prog 21 #[.pointer (some ⟨b, 0, none⟩), sv L] W fun e w' => e = .returned (.tuple #[.int .i64 (L.length : Nat), .nilIface]) ∧ Lib.IsBuilder 58 5 b b (bv (X ++ L)) w' ∧ Below b W w') := fun W X L h1 h2 h3 => by
          have h := bldWrite_any b b (bv X) ⟨L.toArray⟩ W h1 (by rw [mk_size]; simpa [bv] using h2) h3
          rw [bv_strs, mk_size] at h
          exact h.mono fun e w' hp => ⟨hp.1, .inr hp.2.1, hp.2.2⟩
        rw [hbw] at HBD0 hB0
        have HBD1 : Hid (Lib.IsBuilder 58 5 b b (bv []) (wr.alloc (.cells #[.pointer none, .slice none 0 0] 58))) := HBD0.out
        clear HBD0
        have hzb : b ≤ wr.heap.size := by omega
        have hsa : (wr.alloc (.cells #[.pointer none, .slice none 0 0] 58)).heap.size = b + 1 := by rw [World.size_alloc, hbw]
        go_wp2_with (first
          | (go_at_call 23
             refine (HTX.out _).mono ?_
             rintro e w5 ⟨rfl, B5⟩
             have HBD5 := Lib.hid (bld_is HBD1.out B5)
             have HB6 := Lib.hid (HB5.out.trans (B5.mono HB5.out.size))
             have hz5 : b < w5.heap.size := by have := B5.size; rw [hsa] at this; omega
             clear B5)
          | (go_at_call 22
             refine (HJ.out _ _ (two_cells (Has.fresh _ _ _)) (by simp)).mono ?_
             rintro e w6 ⟨rfl, B6⟩
             have HBD6 := Lib.hid (bld_is (bld_is HBD5.out ((Below.refl _ _).alloc (Nat.le_refl _) _)) B6)
             have HB7 := Lib.hid ((HB6.out.alloc HB6.out.size _).trans (B6.mono (HB6.out.alloc HB6.out.size _).size))
             have hz6 : b < w6.heap.size := by have := B6.size; rw [World.size_alloc] at this; omega
             clear B6)
          | (go_at_call 21
             refine (HWS.out _ [] H0 HBD6.out (by simp only [List.length_nil]; omega) (Nat.le_of_lt hz6)).mono ?_
             rintro e w7 ⟨rfl, D7, B7⟩
             have HBD7 := Lib.hid D7
             have HB8 := Lib.hid (HB7.out.trans (B7.mono hB0))
             have hz7 : b < w7.heap.size := by have := B7.size; omega
             clear D7 B7))
        have HBD8 : Hid (Lib.IsBuilder 58 5 b b (bv (Mp.textL O (rs.take 0))) w7) := by
          rw [List.take_zero, HH0.out]
          exact HBD7.out
        have hl0 : (Mp.textL O (rs.take 0)).length ≤ 262144 := by
          rw [List.take_zero, HH0.out]
          omega
        clear HJ HTX hhl HBD1 HB5 HBD5 HB6 HBD6 HB7 HBD7 HCK hsa
        go_loopw [37] (fun s37 wr => ∃ i : Nat, s37 = .int .i64 i ∧ i ≤ rs.length ∧ Hid (Lib.IsBuilder 58 5 b b (bv (Mp.textL O (rs.take i))) wr) ∧ (Mp.textL O (rs.take i)).length ≤ 262144 ∧ Hid (Below w.heap.size w wr) ∧ b ≤ wr.heap.size) (fun s37 _ => rs.length - (intOf s37).toNat)
        case atStart => exact ⟨0, rfl, Nat.zero_le _, HBD8, hl0, HB8, by omega⟩
        case round =>
          obtain ⟨i, rfl, hi, HDq, hlx, HBq, hzq⟩ := hrel
          by_cases hlt : i < rs.length
          · obtain ⟨g, o1, rfl, _, _, hc⟩ := (HA.out.keep HBq.out).at_ hlt
            have HC : Hid (wr.rangeAt g (o1 + i * 12) (rcl rs[i])) := hc
            have hfi := hF rs[i] (List.getElem_mem hlt)
            have hki := hok rs[i] (List.getElem_mem hlt)
            have HL1 := Lib.hid (HLIN.out rs[i] hfi (Mp.okL_zero hki).2.2.2)
            have hll := Mp.lineL_len hfi hki
            have htk : rs.take (i + 1) = rs.take i ++ [rs[i]] := List.take_succ_eq_append_getElem hlt
            have hsn := Mp.textL_snoc O (rs.take i) rs[i]
            rw [← htk] at hsn
            have hto := HT.out (i + 1)
            rw [hsn] at hto
            have HSN := Lib.hid hsn
            have i1 : (i : Int) < (rs.length : Int) := by omega
            have i0 : (0 : Int) ≤ (i : Int) := by omega
            clear hc htk hfi hki hsn
            generalize rs[i] = r at *
            generalize Mp.textL O (rs.take i) = X at *
            generalize Mp.lineL r = L at *
            have HX3 : Hid (Has ((wr.alloc (.cells #[.string ⟨#[]⟩, .int .u16 0, .int .u16 0, .int .u32 0, .string ⟨#[]⟩, .string ⟨#[]⟩, .string ⟨#[]⟩, .int .u32 0, .int .u32 0, .int .u32 0, .int .u32 0, .int .u32 0] 36)).setRow wr.heap.size r.cells) wr.heap.size 36 r.cells) := (Has.fresh _ _ _).row _
            have HB3 : Hid (Below w.heap.size w ((wr.alloc (.cells #[.string ⟨#[]⟩, .int .u16 0, .int .u16 0, .int .u32 0, .string ⟨#[]⟩, .string ⟨#[]⟩, .string ⟨#[]⟩, .int .u32 0, .int .u32 0, .int .u32 0, .int .u32 0, .int .u32 0] 36)).setRow wr.heap.size r.cells)) := below_setRow (HBq.out.alloc HBq.out.size _) HBq.out.size _
            have hbb : Below wr.heap.size wr ((wr.alloc (.cells #[.string ⟨#[]⟩, .int .u16 0, .int .u16 0, .int .u32 0, .string ⟨#[]⟩, .string ⟨#[]⟩, .string ⟨#[]⟩, .int .u32 0, .int .u32 0, .int .u32 0, .int .u32 0, .int .u32 0] 36)).setRow wr.heap.size r.cells) := below_setRow ((Below.refl _ _).alloc (Nat.le_refl _) _) (Nat.le_refl _) _
            have HD3 := Lib.hid (bld_is HDq.out hbb)
            have HZ3 := Lib.hid (Nat.le_trans hzq hbb.size)
            have hxl : X.length + L.length ≤ 140737488355328 := by omega
            have hbl : (bv (X ++ L)).length = X.length + L.length := by simp [bv]
            clear hbb
            by_cases hx : X.length + L.length ≤ 262144
            · have ix : ¬ (262144 : Int) < ((X.length + L.length : Nat) : Int) := by omega
              go_wp2_with (first
                | (refine wpList_load_mid rfl 36 (.tmp 39) rfl g _ rfl (rcl r) _ HC.out Tryz.underlying36 rfl HI.out ?_)
                | (refine wpList_store_row rfl 36 (.tmp 11) (.tmp 40) rfl wr.heap.size r.cells rfl rfl 36 _ (Has.fresh _ _ _) HI.out rfl (rv_one r) ?_
                   revert HX3 HD3 HB3 HZ3
                   generalize ((wr.alloc (.cells #[.string ⟨#[]⟩, .int .u16 0, .int .u16 0, .int .u32 0, .string ⟨#[]⟩, .string ⟨#[]⟩, .string ⟨#[]⟩, .int .u32 0, .int .u32 0, .int .u32 0, .int .u32 0, .int .u32 0] 36)).setRow wr.heap.size r.cells) = w3
                   intro HX3 HB3 HD3 HZ3)
                | (refine wpList_load_row rfl 36 (.tmp 11) rfl wr.heap.size rfl 36 r.cells (0, 0) _ HX3.out Tryz.underlying36 rfl HI.out ?_)
                | (go_at_call 24
                   refine (HL1.out _ (LayA.below HLL.out HB3.out (Nat.le_refl _))).mono ?_
                   rintro e w4 ⟨rfl, B4⟩
                   have HB4 := Lib.hid (HB3.out.trans (B4.mono HB3.out.size))
                   have HD4 := Lib.hid (bld_is HD3.out B4)
                   have hz4 : b ≤ w4.heap.size := Nat.le_trans HZ3.out B4.size
                   clear B4)
                | (go_at_call 21
                   refine (HWS.out _ X L HD4.out hxl hz4).mono ?_
                   rintro e w8 ⟨rfl, D8, B8⟩
                   have HD8 := Lib.hid D8
                   have HB9 := Lib.hid (HB4.out.trans (B8.mono hB0))
                   have hz8 : b ≤ w8.heap.size := Nat.le_trans hz4 B8.size
                   clear D8 B8)
                | (go_at_call 25
                   refine (Tryz.Builder_Len b b _ _ HD8.out).mono ?_
                   rintro e w9 ⟨rfl, rfl⟩
                   rw [hbl]))
              go_roundw
              case rel => exact ⟨i + 1, by go_num, by omega, by rw [HSN.out]; exact HD8, by rw [HSN.out, List.length_append]; exact hx, HB9, hz8⟩
              case measure => simp [intOf]; omega
            · have ix : (262144 : Int) < ((X.length + L.length : Nat) : Int) := by omega
              rw [List.length_append] at hto
              go_wp2_with (first
                | (refine wpList_load_mid rfl 36 (.tmp 39) rfl g _ rfl (rcl r) _ HC.out Tryz.underlying36 rfl HI.out ?_)
                | (refine wpList_store_row rfl 36 (.tmp 11) (.tmp 40) rfl wr.heap.size r.cells rfl rfl 36 _ (Has.fresh _ _ _) HI.out rfl (rv_one r) ?_
                   revert HX3 HD3 HB3 HZ3
                   generalize ((wr.alloc (.cells #[.string ⟨#[]⟩, .int .u16 0, .int .u16 0, .int .u32 0, .string ⟨#[]⟩, .string ⟨#[]⟩, .string ⟨#[]⟩, .int .u32 0, .int .u32 0, .int .u32 0, .int .u32 0, .int .u32 0] 36)).setRow wr.heap.size r.cells) = w3
                   intro HX3 HB3 HD3 HZ3)
                | (refine wpList_load_row rfl 36 (.tmp 11) rfl wr.heap.size rfl 36 r.cells (0, 0) _ HX3.out Tryz.underlying36 rfl HI.out ?_)
                | (go_at_call 24
                   refine (HL1.out _ (LayA.below HLL.out HB3.out (Nat.le_refl _))).mono ?_
                   rintro e w4 ⟨rfl, B4⟩
                   have HB4 := Lib.hid (HB3.out.trans (B4.mono HB3.out.size))
                   have HD4 := Lib.hid (bld_is HD3.out B4)
                   have hz4 : b ≤ w4.heap.size := Nat.le_trans HZ3.out B4.size
                   clear B4)
                | (go_at_call 21
                   refine (HWS.out _ X L HD4.out hxl hz4).mono ?_
                   rintro e w8 ⟨rfl, D8, B8⟩
                   have HD8 := Lib.hid D8
                   have HB9 := Lib.hid (HB4.out.trans (B8.mono hB0))
                   have hz8 : b ≤ w8.heap.size := Nat.le_trans hz4 B8.size
                   clear D8 B8)
                | (go_at_call 25
                   refine (Tryz.Builder_Len b b _ _ HD8.out).mono ?_
                   rintro e w9 ⟨rfl, rfl⟩
                   rw [hbl]))
              go_ret2
              refine ⟨?_, HB9.out⟩
              rw [← HV3.out, if_neg (by omega)]
              rfl
          · have hie : i = rs.length := by omega
            subst hie
            rw [List.take_length] at hlx HDq
            have i1 : ¬ (rs.length : Int) < (rs.length : Int) := by omega
            have HV4 := HV3.out
            rw [if_pos hlx] at HV4
            have HST := Lib.hid (Tryz.Builder_String_any b b (Mp.textL O rs) wr HDq.out hzq)
            go_wp2_with (go_at_call 26; refine HST.out.mono ?_; rintro e w9 ⟨rfl, B9⟩; have HB9 := Lib.hid (HBq.out.trans (B9.mono hB0)); clear B9)
            go_ret2
            refine ⟨?_, HB9.out⟩
            rw [← HV4]
            rfl
end Go.Proofs.YtgcaephfhfkjcaaGreatDoor
namespace Go.Proofs.YtgcaephfhfkjcaaGreatDoor
open Go.RowKit

/-- what is not heavy. -/
def Mp.Light (r : Rv) : Prop := r.nm.size ≤ 2000 ∧ r.d.raw.size ≤ 2000 ∧ r.d.host.size ≤ 2000 ∧ r.d.mail.size ≤ 2000
/-- what heavy answers. -/
def Mp.HvP (o : ByteArray) (rs : List Rv) (w : World) (e : Ending) (w' : World) : Prop := Below w.heap.size w w' ∧ (e = .returned (.bool true) ∨ (e = .returned (.bool false) ∧ rs.length ≤ 40 ∧ o.size ≤ 2000 ∧ ∀ r ∈ rs, Mp.Light r))
set_option maxHeartbeats 1000000 in
set_option maxRecDepth 100000 in
theorem heavy_any (o : ByteArray) (rs : List Rv) (A : Option Addr) (c : Nat) (w : World) (hA : Srow rcl 12 w 0 w.heap.size A rs) :
    Calls Tryz.prog 7 #[.string o, .slice A rs.length c] w (Mp.HvP o rs w) := by
  have HA := Lib.hid hA
  have hi8 : (Tryz.prog.info? 34).map (·.size) = some 8 := by kernel_rfl
  have HI8 := Lib.hid hi8
  clear hA hi8
  by_cases hn : rs.length ≤ 40
  · have in_ : ¬ (40 : Int) < (rs.length : Int) := by omega
    by_cases ho : o.size ≤ 2000
    · have io : ¬ (2000 : Int) < (o.size : Int) := by omega
      go_enter Tryz.func7, Tryz.ntmps7
      go_wp2
      go_loopw [5] (fun s5 wr => ∃ i : Nat, s5 = .int .i64 i ∧ i ≤ rs.length ∧ (∀ r ∈ rs.take i, Mp.Light r) ∧ Hid (Below w.heap.size w wr)) (fun s5 _ => rs.length - (intOf s5).toNat)
      case atStart => exact ⟨0, rfl, Nat.zero_le _, by simp, Below.refl _ _⟩
      case round =>
        obtain ⟨i, rfl, hi, hall, HBr⟩ := hrel
        by_cases hlt : i < rs.length
        · obtain ⟨g, o1, rfl, _, _, hc⟩ := (HA.out.keep HBr.out).at_ hlt
          have hcd : wr.rangeAt g (o1 + i * 12 + 4) rs[i].d.cells.toList := fun j v hj => by
            have := hc (4 + j) v (by
              have hj8 : j < 8 := by simpa [Dv.cells] using (List.getElem?_eq_some_iff.1 hj).1
              rcases (by omega : j = 0 ∨ j = 1 ∨ j = 2 ∨ j = 3 ∨ j = 4 ∨ j = 5 ∨ j = 6 ∨ j = 7) with rfl | rfl | rfl | rfl | rfl | rfl | rfl | rfl <;> exact hj)
            rwa [← Nat.add_assoc] at this
          have hc0 := hc 0 (.string rs[i].nm) rfl
          rw [Nat.add_zero] at hc0
          have htk : rs.take (i + 1) = rs.take i ++ [rs[i]] := List.take_succ_eq_append_getElem hlt
          have HLT : Hid (Mp.Light rs[i] → ∀ r ∈ rs.take (i + 1), Mp.Light r) := fun h r hr => by
            rw [htk] at hr
            rcases List.mem_append.1 hr with hr | hr
            · exact hall r hr
            · rw [List.mem_singleton.1 hr]; exact h
          have i1 : (i : Int) < (rs.length : Int) := by omega
          have i0 : (0 : Int) ≤ (i : Int) := by omega
          have HCD := Lib.hid hcd
          clear hc hcd htk hall
          unfold Mp.Light at HLT
          generalize rs[i] = r at *
          have HX3 : Hid (Has ((wr.alloc (.cells #[.string ⟨#[]⟩, .string ⟨#[]⟩, .string ⟨#[]⟩, .int .u32 0, .int .u32 0, .int .u32 0, .int .u32 0, .int .u32 0] 34)).setRow wr.heap.size r.d.cells) wr.heap.size 34 r.d.cells) := (Has.fresh _ _ _).row _
          have hb3 : Below wr.heap.size wr ((wr.alloc (.cells #[.string ⟨#[]⟩, .string ⟨#[]⟩, .string ⟨#[]⟩, .int .u32 0, .int .u32 0, .int .u32 0, .int .u32 0, .int .u32 0] 34)).setRow wr.heap.size r.d.cells) := below_setRow ((Below.refl _ _).alloc (Nat.le_refl _) _) (Nat.le_refl _) _
          have HB3 := Lib.hid (HBr.out.trans (hb3.mono HBr.out.size))
          have HN3 := Lib.hid (keep_cell hb3 hc0)
          clear hb3
          by_cases h0 : r.nm.size ≤ 2000
          · have j0 : ¬ (2000 : Int) < (r.nm.size : Int) := by omega
            by_cases h1 : r.d.raw.size ≤ 2000
            · have j1 : ¬ (2000 : Int) < (r.d.raw.size : Int) := by omega
              by_cases h2 : r.d.host.size ≤ 2000
              · have j2 : ¬ (2000 : Int) < (r.d.host.size : Int) := by omega
                by_cases h3 : r.d.mail.size ≤ 2000
                · have j3 : ¬ (2000 : Int) < (r.d.mail.size : Int) := by omega
                  go_wp2_with (first
                | (refine wpList_load_mid rfl 34 (.tmp 24) rfl g _ rfl r.d.cells.toList _ HCD.out Tryz.underlying34 rfl HI8.out ?_)
                | (refine wpList_store_row rfl 34 (.tmp 6) (.tmp 25) rfl wr.heap.size r.d.cells rfl rfl 34 _ (Has.fresh _ _ _) HI8.out rfl (dv_one r.d) ?_
                   revert HX3 HB3 HN3
                   generalize ((wr.alloc (.cells #[.string ⟨#[]⟩, .string ⟨#[]⟩, .string ⟨#[]⟩, .int .u32 0, .int .u32 0, .int .u32 0, .int .u32 0, .int .u32 0] 34)).setRow wr.heap.size r.d.cells) = w3
                   intro HX3 HB3 HN3
                   have n3 := HN3.out
                   have x0 : w3.cell? ⟨wr.heap.size, 0, none⟩ = some (.string r.d.raw) := by rw [HX3.out.cell]; rfl
                   have x1 : w3.cell? ⟨wr.heap.size, 1, none⟩ = some (.string r.d.host) := by rw [HX3.out.cell]; rfl
                   have x2 : w3.cell? ⟨wr.heap.size, 2, none⟩ = some (.string r.d.mail) := by rw [HX3.out.cell]; rfl))
                  go_roundw
                  case rel => exact ⟨i + 1, by go_num, by omega, HLT.out ⟨h0, h1, h2, h3⟩, HB3⟩
                  case measure => simp [intOf]; omega
                · have j3 : (2000 : Int) < (r.d.mail.size : Int) := by omega
                  go_wp2_with (first
                | (refine wpList_load_mid rfl 34 (.tmp 24) rfl g _ rfl r.d.cells.toList _ HCD.out Tryz.underlying34 rfl HI8.out ?_)
                | (refine wpList_store_row rfl 34 (.tmp 6) (.tmp 25) rfl wr.heap.size r.d.cells rfl rfl 34 _ (Has.fresh _ _ _) HI8.out rfl (dv_one r.d) ?_
                   revert HX3 HB3 HN3
                   generalize ((wr.alloc (.cells #[.string ⟨#[]⟩, .string ⟨#[]⟩, .string ⟨#[]⟩, .int .u32 0, .int .u32 0, .int .u32 0, .int .u32 0, .int .u32 0] 34)).setRow wr.heap.size r.d.cells) = w3
                   intro HX3 HB3 HN3
                   have n3 := HN3.out
                   have x0 : w3.cell? ⟨wr.heap.size, 0, none⟩ = some (.string r.d.raw) := by rw [HX3.out.cell]; rfl
                   have x1 : w3.cell? ⟨wr.heap.size, 1, none⟩ = some (.string r.d.host) := by rw [HX3.out.cell]; rfl
                   have x2 : w3.cell? ⟨wr.heap.size, 2, none⟩ = some (.string r.d.mail) := by rw [HX3.out.cell]; rfl))
                  go_ret
                  exact ⟨HB3.out, .inl rfl⟩
              · have j2 : (2000 : Int) < (r.d.host.size : Int) := by omega
                go_wp2_with (first
                | (refine wpList_load_mid rfl 34 (.tmp 24) rfl g _ rfl r.d.cells.toList _ HCD.out Tryz.underlying34 rfl HI8.out ?_)
                | (refine wpList_store_row rfl 34 (.tmp 6) (.tmp 25) rfl wr.heap.size r.d.cells rfl rfl 34 _ (Has.fresh _ _ _) HI8.out rfl (dv_one r.d) ?_
                   revert HX3 HB3 HN3
                   generalize ((wr.alloc (.cells #[.string ⟨#[]⟩, .string ⟨#[]⟩, .string ⟨#[]⟩, .int .u32 0, .int .u32 0, .int .u32 0, .int .u32 0, .int .u32 0] 34)).setRow wr.heap.size r.d.cells) = w3
                   intro HX3 HB3 HN3
                   have n3 := HN3.out
                   have x0 : w3.cell? ⟨wr.heap.size, 0, none⟩ = some (.string r.d.raw) := by rw [HX3.out.cell]; rfl
                   have x1 : w3.cell? ⟨wr.heap.size, 1, none⟩ = some (.string r.d.host) := by rw [HX3.out.cell]; rfl
                   have x2 : w3.cell? ⟨wr.heap.size, 2, none⟩ = some (.string r.d.mail) := by rw [HX3.out.cell]; rfl))
                go_ret
                exact ⟨HB3.out, .inl rfl⟩
            · have j1 : (2000 : Int) < (r.d.raw.size : Int) := by omega
              go_wp2_with (first
                | (refine wpList_load_mid rfl 34 (.tmp 24) rfl g _ rfl r.d.cells.toList _ HCD.out Tryz.underlying34 rfl HI8.out ?_)
                | (refine wpList_store_row rfl 34 (.tmp 6) (.tmp 25) rfl wr.heap.size r.d.cells rfl rfl 34 _ (Has.fresh _ _ _) HI8.out rfl (dv_one r.d) ?_
                   revert HX3 HB3 HN3
                   generalize ((wr.alloc (.cells #[.string ⟨#[]⟩, .string ⟨#[]⟩, .string ⟨#[]⟩, .int .u32 0, .int .u32 0, .int .u32 0, .int .u32 0, .int .u32 0] 34)).setRow wr.heap.size r.d.cells) = w3
                   intro HX3 HB3 HN3
                   have n3 := HN3.out
                   have x0 : w3.cell? ⟨wr.heap.size, 0, none⟩ = some (.string r.d.raw) := by rw [HX3.out.cell]; rfl
                   have x1 : w3.cell? ⟨wr.heap.size, 1, none⟩ = some (.string r.d.host) := by rw [HX3.out.cell]; rfl
                   have x2 : w3.cell? ⟨wr.heap.size, 2, none⟩ = some (.string r.d.mail) := by rw [HX3.out.cell]; rfl))
              go_ret
              exact ⟨HB3.out, .inl rfl⟩
          · have j0 : (2000 : Int) < (r.nm.size : Int) := by omega
            go_wp2_with (first
                | (refine wpList_load_mid rfl 34 (.tmp 24) rfl g _ rfl r.d.cells.toList _ HCD.out Tryz.underlying34 rfl HI8.out ?_)
                | (refine wpList_store_row rfl 34 (.tmp 6) (.tmp 25) rfl wr.heap.size r.d.cells rfl rfl 34 _ (Has.fresh _ _ _) HI8.out rfl (dv_one r.d) ?_
                   revert HX3 HB3 HN3
                   generalize ((wr.alloc (.cells #[.string ⟨#[]⟩, .string ⟨#[]⟩, .string ⟨#[]⟩, .int .u32 0, .int .u32 0, .int .u32 0, .int .u32 0, .int .u32 0] 34)).setRow wr.heap.size r.d.cells) = w3
                   intro HX3 HB3 HN3
                   have n3 := HN3.out
                   have x0 : w3.cell? ⟨wr.heap.size, 0, none⟩ = some (.string r.d.raw) := by rw [HX3.out.cell]; rfl
                   have x1 : w3.cell? ⟨wr.heap.size, 1, none⟩ = some (.string r.d.host) := by rw [HX3.out.cell]; rfl
                   have x2 : w3.cell? ⟨wr.heap.size, 2, none⟩ = some (.string r.d.mail) := by rw [HX3.out.cell]; rfl))
            go_ret
            exact ⟨HB3.out, .inl rfl⟩
        · have hie : i = rs.length := by omega
          subst hie
          rw [List.take_length] at hall
          have i1 : ¬ (rs.length : Int) < (rs.length : Int) := by omega
          go_wp2
          go_ret
          exact ⟨HBr.out, .inr ⟨rfl, hn, ho, hall⟩⟩
    · have io : (2000 : Int) < (o.size : Int) := by omega
      go_enter Tryz.func7, Tryz.ntmps7
      go_wp2
      go_ret
      exact ⟨Below.refl _ _, .inl rfl⟩
  · have in_ : (40 : Int) < (rs.length : Int) := by omega
    go_enter Tryz.func7, Tryz.ntmps7
    go_wp2
    go_ret
    exact ⟨Below.refl _ _, .inl rfl⟩
end Go.Proofs.YtgcaephfhfkjcaaGreatDoor
namespace Go.Proofs.YtgcaephfhfkjcaaGreatDoor
open Go.RowKit

section
variable {P : Program} {w : World} {ops : Array Oper} {rest : List Oper} {o : Oper} {a : Act} {Q : Exit → Act → World → Prop}
theorem wpList_build_one (hgd : o.guard = none) (t e : TypeId) (x : Operand) (ho : o.op = .buildSlice t 1 #[(0, x)]) (k : Nat) (cells : Array Value) (ie : TypeInfo) (z : Value) (hu : P.underlying t = some (.slice e)) (hie : P.info? e = some ie) (hz : ie.zero = some z) (hk : ie.size = k) (h0 : 0 < k) (hk2 : k ≤ 1000)
    (hx : a.eval x = .agg cells) (hf : Instr.fill (fun i => some (i * k, k)) ((Array.range (1 * k)).map (z.cells[· % z.cells.size]!)) [(0, .agg cells)] = some cells)
    (h : ∀ w2, Has w2 w.heap.size e cells → w.grownBy w2 none → w2.heap.size = w.heap.size + 1 → wpList P ops Q rest (a.put o.dst (.slice (some ⟨w.heap.size, 0, none⟩) 1 1)) w2) : wpList P ops Q (o :: rest) a w := by
  subst hk
  refine wpList_buildSlice hgd t e 1 #[(0, x)] ho cells ie z hu hie hz (by omega) (by omega) (by simp only [List.map_toArray, List.map_cons, List.map_nil, hx]; exact hf) ?_
  exact h _ (Has.fresh w e cells) (World.grownBy_alloc w _ none) (by simp)
end
end Go.Proofs.YtgcaephfhfkjcaaGreatDoor
namespace Go.Proofs.YtgcaephfhfkjcaaGreatDoor
open Go.RowKit

set_option maxRecDepth 100000 in
theorem info_rec12 : ∃ i z, Tryz.prog.info? 36 = some i ∧ i.zero = some z ∧ i.size = 12 ∧ i.bytes = 96 ∧ z.cells.size = 12 ∧ ∀ r : Rv, Instr.fill (fun i => some (i * 12, 12)) ((Array.range (1 * 12)).map (z.cells[· % z.cells.size]!)) [(0, .agg r.cells)] = some r.cells := by
  refine ⟨_, _, rfl, rfl, ?_, ?_, ?_, fun r => ?_⟩ <;> kernel_rfl
/-- the mark behind the records' end. -/
def Mp.mark : Rv := ⟨⟨#[]⟩, 0, 0, 77, ⟨⟨#[]⟩, ⟨#[]⟩, ⟨#[]⟩, 0, 0, 0, 0, 0⟩⟩
theorem run_append_zero {P : Program} (w : World) (t ty e : TypeId) (i : TypeInfo) (ht : P.underlying t = some (.slice e)) (hi : P.info? e = some i) (A : Option Addr) (c : Nat) :
    (Builtin.append_ #[t, t] ty #[.slice none 0 0, .slice A 0 c]).run P w = .ok (.slice none 0 0) w := by
  have hf : (Builtin.firstCells i.size 0 (.slice A 0 c)).run P w = .ok #[] w := by
    cases A with
    | none => exact run_firstCells_none w i.size 0 0 c
    | some a => exact run_firstCells_some w i.size 0 a 0 c [] (by simp) (fun j v h => by simp at h)
  simp [Builtin.append_, run_underlying ht, sizeOf, typeInfo, hi, Builtin.lenOf, hf]
/-- what lent answers: the records, and the mark behind them. -/
def Mp.LentP (rs : List Rv) (w : World) (e : Ending) (w' : World) : Prop :=
  ∃ g n, e = .returned (.slice (some ⟨g, 0, none⟩) rs.length n) ∧ rs.length + 1 ≤ n ∧ Srow rcl 12 w' w.heap.size w'.heap.size (some ⟨g, 0, none⟩) (rs ++ [Mp.mark]) ∧ Below w.heap.size w w'
set_option maxHeartbeats 1000000 in
set_option maxRecDepth 100000 in
theorem lent_any (rs : List Rv) (A : Option Addr) (c : Nat) (w : World) (hA : Srow rcl 12 w 0 w.heap.size A rs) (hn : rs.length ≤ 40) :
    Calls Tryz.prog 8 #[.slice A rs.length c] w (Mp.LentP rs w) := by
  obtain ⟨i4, z4, hi4, hz4, hs4, hb4, hc4, hf4⟩ := info_rec12
  have hr1 : ∃ v' w', (Builtin.append_ #[23, 23] 23 #[.slice none 0 0, .slice A rs.length c]).run Tryz.prog w = .ok v' w' ∧ w'.ownsRow w.heap.size 36 12 v' rs.length (fl rcl rs) ∧ w.grownBy w' none := by
    rcases Nat.eq_zero_or_pos rs.length with h0 | h0
    · obtain rfl := List.eq_nil_of_length_eq_zero h0
      exact ⟨_, _, run_append_zero w _ _ _ i4 Tryz.underlying23 hi4 A c, ⟨by simp [fl], .inl ⟨rfl, rfl⟩⟩, World.grownBy.refl w _⟩
    · obtain ⟨g, o, rfl, _, _, hc⟩ := hA h0
      obtain ⟨v', w', hr, h2, h3, _⟩ := run_append_where (P := Tryz.prog) (w := w) w.heap.size 23 23 36 i4 z4 12 96 Tryz.underlying23 hi4 hz4 hs4 hb4 hc4 (by decide) (.slice none 0 0) 0 [] ⟨by simp, .inl ⟨rfl, rfl⟩⟩ ⟨g, o, none⟩ rs.length c (fl rcl rs) (fl_len rcl_len rs) (fun j u hu => by
        have hj : j < rs.length * 12 := by rw [← fl_len rcl_len rs]; exact (List.getElem?_eq_some_iff.1 hu).1
        have hd : j / 12 < rs.length := Nat.div_lt_of_lt_mul (by rw [Nat.mul_comm]; exact hj)
        have hm : j % 12 < 12 := Nat.mod_lt _ (by decide)
        have e : j / 12 * 12 + j % 12 = j := by rw [Nat.mul_comm]; exact Nat.div_add_mod j 12
        have := hc (j / 12) hd (j % 12) u (by rw [← fl_get rcl_len rs hd hm, e]; exact hu)
        rw [addr_add]
        rwa [Nat.add_assoc, e] at this) (fun u hu => by
        obtain ⟨r, hr, h⟩ := List.mem_flatMap.1 hu
        exact rcl_one r u h) h0 (by unfold maxLen; omega) (by omega) (Nat.le_refl _)
      rw [Nat.zero_add, List.nil_append] at h2
      exact ⟨v', w', hr, h2, h3⟩
  obtain ⟨v1, w1, hr1, ho1, hg1⟩ := hr1
  have HR1 := Lib.hid hr1
  have HO1 := Lib.hid ho1
  have HG1 := Lib.hid hg1
  have HT4 := Lib.hid (And.intro hi4 (And.intro hz4 (And.intro hs4 (And.intro hb4 hc4))))
  have HF4 := Lib.hid (hf4 Mp.mark)
  clear hr1 ho1 hg1 hi4 hz4 hs4 hb4 hc4 hf4 hA
  go_enter Tryz.func8, Tryz.ntmps8
  go_wp2_with (first
    | (at_builtin; refine wpList_append_run rfl (.tmp 4) (.tmp 5) _ _ rfl _ _ rfl rfl (R := fun v W => v = v1 ∧ W = w1) ⟨_, _, HR1.out, rfl, rfl⟩ ?_; rintro V W ⟨hv, hw⟩; obtain rfl := hv.symm; obtain rfl := hw.symm)
    | (refine wpList_build_one rfl 23 36 (.tmp 8) rfl 12 Mp.mark.cells i4 z4 Tryz.underlying23 HT4.out.1 HT4.out.2.1 HT4.out.2.2.1 (by omega) (by omega) rfl HF4.out ?_
       intro w2 hN g2 hs2
       have HN2 := Lib.hid hN
       have HG2 : Hid (w.grownBy w2 none) := ⟨g2.os.trans HG1.out.os, g2.tape.trans HG1.out.tape, g2.output.trans HG1.out.output, Nat.le_trans HG1.out.size g2.size, fun k hk hne => (g2.block k (Nat.lt_of_lt_of_le hk HG1.out.size) hne).trans (HG1.out.block k hk hne)⟩
       have HO2 := Lib.hid (ownK_below HO1.out (below_self g2 (Nat.le_refl _) (fun k e => by cases e)) (Nat.le_refl _))
       clear hN g2 hs2)
    | (refine wpList_append_struct2 rfl (.tmp 7) (.tmp 9) 23 rfl rcl_len 36 i4 z4 96 Tryz.underlying23 HT4.out.1 HT4.out.2.1 HT4.out.2.2.1 HT4.out.2.2.2.1 HT4.out.2.2.2.2 (by omega) w.heap.size v1 rs rfl HO2.out Mp.mark (rcl_one _) w1.heap.size 1 rfl (fun i u hu => by rw [Nat.zero_add, HN2.out.cell]; simpa using hu) (by unfold maxLen; omega) (by omega) HG2.out.size ?_
       intro v3 w3 hO g3 _
       have HG3 := Lib.hid g3
       obtain ⟨g, n, cur, hv, hc, hb, hlt, hg, ht⟩ := ownK_pos hO (by simp)
       have HS3 := Lib.hid (Own.srow rcl_len hO)
       rw [List.length_append, List.length_singleton] at hv hc
       subst hv
       have j1 : (0 : Int) ≤ (rs.length : Int) := by omega
       have j2 : (rs.length : Int) ≤ (n : Int) := by omega
       clear hO g3 hg ht cur))
  go_ret
  obtain ⟨A', c', hA', _, hS'⟩ := HS3.out
  injection hA' with hA' _ _
  subst hA'
  have hb2 : Below w.heap.size w w2 := below_self HG2.out (Nat.le_refl _) (fun k e => by cases e)
  exact ⟨g, n, rfl, hc, hS', hb2.grown HG3.out HG2.out.size (fun k e => (HO2.out.lt k e).1)⟩
end Go.Proofs.YtgcaephfhfkjcaaGreatDoor
