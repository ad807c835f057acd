/- The document's Options. -/
import Derived.Test.YtnpimahgdhpmfaaEdOpts
import Derived.Deep.RegionLaw
import Derived.BigQuiet
namespace Go.Proofs.Ytnpimahgdhpmfaa
open Go.RowKit

theorem ed_append_run {P : Program} {w : World} {o : Oper} {a : Act} {K : Act → World → Prop} {Q : Exit → Act → World → Prop} (s x : Operand) (t u : TypeId)
    (ho : o.op = .call { callee := .builtin .append, args := #[s, x], argTypes := #[t, u] }) (v y : Value) (hs : a.eval s = v) (hx : a.eval x = y) {v' : Value} {w' : World}
    (hr : (Builtin.append_ #[t, u] o.type #[v, y]).run P w = .ok v' w') (h : K (a.put o.dst v') w') : o.wp P a w K Q := by
  unfold Oper.wp execOp
  simp only [ho, resolve, invoke, builtin, Sem.run_bind, Sem.run_pure, Result.andThen_ok, List.map_toArray, List.map_cons, List.map_nil, hs, hx, hr]
  exact h
set_option maxRecDepth 100000 in
set_option maxHeartbeats 2000000 in
theorem refOpts_any (s : ByteArray) (w : World) (hs : s.size ≤ 8796093022208) : Calls Try.prog 17 #[.string s] w (OptsP s.data.toList w) := by
  obtain ⟨i5, z5, hi5, hz5, hs5, hb5, hc5⟩ := info_u16
  obtain ⟨i6, z6, hi6, hz6, hs6, hb6, hc6⟩ := info_str
  have hl : s.data.toList.length = s.size := by simp
  have hal := Ed.all_len s.data.toList
  have HLEN := Lib.hid (fun i (h : i ≤ (Ed.all s.data.toList).length) => Ed.rs_len s.data.toList i h)
  have HAT := Lib.hid (fun i (h : i < (Ed.all s.data.toList).length) => Ed.at_ (l := s.data.toList) h)
  have HEND := Lib.hid (Ed.at_end s.data.toList)
  have HSUC := Lib.hid (fun i (h : i < (Ed.all s.data.toList).length) => Ed.rs_succ (l := s.data.toList) h)
  have hn : (Ed.nums s.data.toList).length = (Ed.all s.data.toList).length := by simp [Ed.nums]
  have hx : (Ed.txts s.data.toList).length = (Ed.all s.data.toList).length := by simp [Ed.txts]
  have HN : Hid ((Ed.nums s.data.toList).take (Ed.all s.data.toList).length = Ed.nums s.data.toList) := by rw [Hid, ← hn]; exact List.take_length
  have HX : Hid ((Ed.txts s.data.toList).take (Ed.all s.data.toList).length = Ed.txts s.data.toList) := by rw [Hid, ← hx]; exact List.take_length
  have HLL := Lib.hid hl
  have HAL := Lib.hid hal
  clear hl hn hx hal
  go_enter Try.func17, Try.ntmps17
  go_wp2
  go_loopw [0, 5, 6] (fun a n5 n6 wr => ∃ (k : Nat) (s2 : ByteArray), k ≤ (Ed.all s.data.toList).length ∧ a = .string s2 ∧ Hid (s2.data.toList = Ed.rs s.data.toList k) ∧
      Hid (wr.ownsRow w.heap.size 22 1 n5 ((Ed.nums s.data.toList).take k).length (nv ((Ed.nums s.data.toList).take k)) ∧ wr.ownsRow w.heap.size 9 1 n6 ((Ed.txts s.data.toList).take k).length (svs ((Ed.txts s.data.toList).take k)) ∧ Below w.heap.size w wr)) (fun a _ _ _ => strLen a)
  case atStart => exact ⟨0, s, Nat.zero_le _, rfl, rfl, ⟨rfl, .inl ⟨rfl, rfl⟩⟩, ⟨rfl, .inl ⟨rfl, rfl⟩⟩, Below.refl _ _⟩
  case round =>
    obtain ⟨k, s2, hk, rfl, HS2, HO⟩ := hrel
    have hlen := HLEN.out k hk
    have hz2 : s2.size = (Ed.rs s.data.toList k).length := by rw [← HS2.out]; simp
    have hle : s2.size ≤ s.size := by have := HLL.out; omega
    have HZ2 := Lib.hid hz2
    clear hz2 hlen
    by_cases h0 : 0 < s2.size
    · by_cases h4 : s2.size < 4
      · have HM : Hid (Ed.may s.data.toList = false) := Ed.may_no hk (Ed.fst_few (by have := HZ2.out; omega)) (fun e => by have := HZ2.out; rw [e, List.length_nil] at this; omega)
        go_wp2
        refine bodyPost_ret (results_tmp3 rfl _ _ _) rfl ?_
        exact ⟨HO.out.2.2, .inr ⟨HM.out, rfl⟩⟩
      · have e0 := at_b s2 0 (by omega)
        have e1 := at_b s2 1 (by omega)
        have e2 := at_b s2 2 (by omega)
        have e3 := at_b s2 3 (by omega)
        have b0 := Ed.b_lt s2.data.toList 0
        have b1 := Ed.b_lt s2.data.toList 1
        have b2 := Ed.b_lt s2.data.toList 2
        have b3 := Ed.b_lt s2.data.toList 3
        have hkn : Ed.num s2.data.toList = 256 * Ed.b s2.data.toList 0 + Ed.b s2.data.toList 1 := rfl
        have hsz : Ed.siz s2.data.toList = 256 * Ed.b s2.data.toList 2 + Ed.b s2.data.toList 3 := rfl
        have HSH : Hid (s2.size - 4 < Ed.siz s2.data.toList → Ed.may s.data.toList = false) := fun h => Ed.may_no hk (Ed.fst_short (by rw [← HS2.out]; simpa using h)) (fun e => by have := HZ2.out; rw [e, List.length_nil] at this; omega)
        have HSO : Hid (Ed.siz s2.data.toList ≤ s2.size - 4 → ∃ h1 : k < (Ed.all s.data.toList).length, (Ed.all s.data.toList)[k]'h1 = (Ed.num s2.data.toList, (s2.data.toList.drop 4).take (Ed.siz s2.data.toList), (s2.data.toList.drop 4).drop (Ed.siz s2.data.toList))) := fun h => Ed.more hk (by rw [← HS2.out]; exact Ed.fst_some (by simp; omega) (by simpa using h))
        have HE1 : Hid (s2.extract 4 (4 + Ed.siz s2.data.toList) = ⟨((s2.data.toList.drop 4).take (Ed.siz s2.data.toList)).toArray⟩) := by
          refine string_eq ?_
          rw [extract_list, show 4 + Ed.siz s2.data.toList - 4 = Ed.siz s2.data.toList by omega]
        have HE2 : Hid ((s2.extract (4 + Ed.siz s2.data.toList) s2.size).data.toList = (s2.data.toList.drop 4).drop (Ed.siz s2.data.toList)) := by
          rw [Hid, extract_list, List.take_of_length_le (by simp), List.drop_drop]
        generalize Ed.siz s2.data.toList = sz at *
        generalize Ed.num s2.data.toList = nm at *
        generalize Ed.b s2.data.toList 0 = x0 at *
        generalize Ed.b s2.data.toList 1 = x1 at *
        generalize Ed.b s2.data.toList 2 = x2 at *
        generalize Ed.b s2.data.toList 3 = x3 at *
        have l0 : 0 < s2.size := by omega
        have l1 : 1 < s2.size := by omega
        have l2 : 2 < s2.size := by omega
        have l3 : 3 < s2.size := by omega
        have w1 : IntKind.u16.wrap (256 * (x0 : Int)) = 256 * (x0 : Int) := by rw [IntKind.wrap_u16]; omega
        have w2 : IntKind.u16.wrap (256 * (x0 : Int) + (x1 : Int)) = 256 * (x0 : Int) + (x1 : Int) := by rw [IntKind.wrap_u16]; omega
        have w3 : IntKind.i64.wrap (256 * (x2 : Int)) = 256 * (x2 : Int) := IntWalk.i64_in _ (by omega)
        have w4 : IntKind.i64.wrap (256 * (x2 : Int) + (x3 : Int)) = 256 * (x2 : Int) + (x3 : Int) := IntWalk.i64_in _ (by omega)
        have HKN := Lib.hid hkn
        clear hkn
        subst hsz
        by_cases hf : s2.size - 4 < (256 * x2 + x3)
        · have HM := Lib.hid (HSH.out hf)
          have hq : (s2.size : Int) - 4 < 256 * (x2 : Int) + (x3 : Int) := by omega
          clear hf
          go_wp2
          go_quiet (fail)
          go_wp2
          refine bodyPost_ret (results_tmp3 rfl _ _ _) rfl ?_
          exact ⟨below_drewN HO.out.2.2 _, .inr ⟨HM.out, rfl⟩⟩
        · obtain ⟨hk1, hxe⟩ := HSO.out (by omega)
          have hnt : (Ed.nums s.data.toList).take (k + 1) = (Ed.nums s.data.toList).take k ++ [nm] := by
            rw [nums_take hk1, List.getD_eq_getElem?_getD, List.getElem?_eq_getElem hk1, Option.getD_some, hxe]
          have hxt : (Ed.txts s.data.toList).take (k + 1) = (Ed.txts s.data.toList).take k ++ [(s2.data.toList.drop 4).take (256 * x2 + x3)] := by
            rw [txts_take hk1, List.getD_eq_getElem?_getD, List.getElem?_eq_getElem hk1, Option.getD_some, hxe]
          have hrs : Ed.rs s.data.toList (k + 1) = (s2.data.toList.drop 4).drop (256 * x2 + x3) := by rw [HSUC.out k hk1, hxe]
          have HNT := Lib.hid hnt
          have HXT := Lib.hid hxt
          have HRS := Lib.hid hrs
          have g0 : (0 : Int) ≤ 4 + (256 * (x2 : Int) + (x3 : Int)) := by omega
          have g1 : 256 * (x2 : Int) + (x3 : Int) ≤ (s2.size : Int) - 4 := by omega
          have g2 : 4 + (256 * (x2 : Int) + (x3 : Int)) ≤ (s2.size : Int) := by omega
          have t1 : ((Ed.nums s.data.toList).take k).length ≤ k := List.length_take_le _ _
          have t2 : ((Ed.txts s.data.toList).take k).length ≤ k := List.length_take_le _ _
          have hkb : k ≤ 2199023255552 := by have := HAL.out; have := HLL.out; omega
          clear hxe hnt hxt hrs HSO HSH hf
          obtain ⟨n5', hn5⟩ : ∃ n, ((Ed.nums s.data.toList).take k).length = n := ⟨_, rfl⟩
          obtain ⟨n6', hn6⟩ : ∃ n, ((Ed.txts s.data.toList).take k).length = n := ⟨_, rfl⟩
          rw [hn5, hn6] at HO
          rw [hn5] at t1
          rw [hn6] at t2
          have HN5 := Lib.hid hn5
          have HN6 := Lib.hid hn6
          clear hn5 hn6
          have w0 : IntKind.u16.wrap (x0 : Int) = (x0 : Int) := by rw [IntKind.wrap_u16]; omega
          have w5 : IntKind.u16.wrap (x1 : Int) = (x1 : Int) := by rw [IntKind.wrap_u16]; omega
          have l0i : (0 : Int) < (s2.size : Int) := by omega
          have l1i : (1 : Int) < (s2.size : Int) := by omega
          obtain ⟨A5, C5, rfl⟩ := own_form HO.out.1
          obtain ⟨A6, C6, rfl⟩ := own_form HO.out.2.1
          go_wp2
          go_quiet (fail)
          rename_i nq
          go_wp2
          have HOq : Hid ((World.drewN wr nq).ownsRow w.heap.size 22 1 (.slice A5 n5' C5) n5' (nv ((Ed.nums s.data.toList).take k)) ∧ (World.drewN wr nq).ownsRow w.heap.size 9 1 (.slice A6 n6' C6) n6' (svs ((Ed.txts s.data.toList).take k)) ∧ Below w.heap.size w (World.drewN wr nq)) := ⟨own_drewN HO.out.1 _, own_drewN HO.out.2.1 _, below_drewN HO.out.2.2 _⟩
          clear HO
          generalize wr.drewN nq = wq at *
          obtain ⟨va, wA, hrA, hoA, hgA, _⟩ := run_append_own (P := Try.prog) (wq.drew.alloc (.cells #[.int .u16 (256 * (x0 : Int) + (x1 : Int))] 22)) w.heap.size 46 46 22 i5 z5 1 2 Try.underlying46 hi5 hz5 hs5 hb5 hc5 (by decide) _ _ _ ((own_drewN HOq.out.1 1).alloc _)
            ⟨wq.heap.size, 0, none⟩ 1 1 [.int .u16 (256 * (x0 : Int) + (x1 : Int))] rfl (ed_cells_new wq.drew _ _) (by simp [Value.oneCell']) (by unfold maxLen; omega) (by omega) (by have := HOq.out.2.2.size; simp; omega)
          obtain ⟨AA, CA, rfl⟩ := own_form hoA
          have q6 := own_past ((own_drewN HOq.out.2.1 1).alloc (.cells #[.int .u16 (256 * (x0 : Int) + (x1 : Int))] 22)) hgA (fun r e => .inr (by obtain ⟨_, cur, h2⟩ := own_blk ((own_drewN HOq.out.1 1).alloc (.cells #[.int .u16 (256 * (x0 : Int) + (x1 : Int))] 22)) e; exact ⟨_, h2, fun cs h => by injection h with _ h _; cases h⟩))
          have hbA : Below w.heap.size w wA := ((below_drewN HOq.out.2.2 1).alloc (by show w.heap.size ≤ wq.heap.size; exact HOq.out.2.2.size) _).grown hgA (by have := HOq.out.2.2.size; simp; omega) (fun r e => (own_blk ((own_drewN HOq.out.1 1).alloc (.cells #[.int .u16 (256 * (x0 : Int) + (x1 : Int))] 22)) e).1)
          have HRA := Lib.hid hrA
          have HOA := Lib.hid hoA
          have HR6 := Lib.hid q6
          have HBA := Lib.hid hbA
          clear hrA hoA hgA q6 hbA
          go_region_law (refine ed_append_run (.tmp 27) (.tmp 36) _ _ rfl _ _ rfl rfl HRA.out ?_)
          all_goals
            simp only [Act.put, List.getElem_toArray, List.setIfInBounds_toArray, List.set_cons_zero, List.set_cons_succ, List.getElem_cons_zero, List.getElem_cons_succ]
            clear w0 w1 w2 w3 w4 w5
            go_wp2_with (at_builtin
                         refine wpList_append_own _ rfl (.tmp 38) (.tmp 43) _ rfl w.heap.size 9 i6 z6 1 16 Try.underlying47 hi6 hz6 hs6 hb6 hc6 (by decide) (.slice A6 n6' C6) n6' _ rfl (HR6.out.alloc _) ⟨wA.heap.size, 0, none⟩ 1 1 [.string (s2.extract 4 (4 + (256 * x2 + x3)))] rfl rfl (ed_cells_new wA _ _) (by simp [Value.oneCell']) (by unfold maxLen; omega) (by omega) (by have := HBA.out.size; simp; omega) ?_
                         intro vb wB hoB hgB _
                         obtain ⟨AB, CB, rfl⟩ := own_form hoB
                         have q5 := own_past (HOA.out.alloc (.cells #[.string (s2.extract 4 (4 + (256 * x2 + x3)))] 9)) hgB (fun r e => .inr (by obtain ⟨_, cur, h2⟩ := own_blk (HR6.out.alloc (.cells #[.string (s2.extract 4 (4 + (256 * x2 + x3)))] 9)) e; exact ⟨_, h2, fun cs h => by injection h with _ h _; cases h⟩))
                         have HBB := Lib.hid ((HBA.out.alloc HBA.out.size (.cells #[.string (s2.extract 4 (4 + (256 * x2 + x3)))] 9)).grown hgB (by have := HBA.out.size; simp; omega) (fun r e => (own_blk (HR6.out.alloc (.cells #[.string (s2.extract 4 (4 + (256 * x2 + x3)))] 9)) e).1))
                         have HQ5 := Lib.hid q5
                         have HQ6 := Lib.hid hoB
                         clear q5 hoB hgB)
            go_roundw
            case rel =>
              refine ⟨k + 1, _, by omega, rfl, HE2.out.trans HRS.out.symm, ?_, ?_, HBB.out⟩
              · rw [HNT.out, List.length_append, nv_append, HN5.out, HKN.out]
                exact HQ5.out
              · have h6 := HQ6.out
                rw [HE1.out] at h6
                rw [HXT.out, List.length_append, svs_append, HN6.out]
                exact h6
            case measure => simp [strLen]; omega
    · have hz0 : s2.size = 0 := by omega
      obtain ⟨rfl, hm⟩ := Ed.may_nil hk (List.eq_nil_of_length_eq_zero (by have := HZ2.out; omega))
      have HM := Lib.hid hm
      clear hm
      have hq0 : (s2.size : Int) = 0 := by omega
      go_wp2
      refine bodyPost_ret (results_tmp3 rfl _ _ _) rfl ?_
      refine ⟨HO.out.2.2, .inl ⟨HM.out, _, _, rfl, ?_, ?_⟩⟩
      · have := HO.out.1
        rwa [HN.out] at this
      · have := HO.out.2.1
        rwa [HX.out] at this
end Go.Proofs.Ytnpimahgdhpmfaa
