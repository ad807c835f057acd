/- Texts of the proofs, merged. -/
import Derived.Test.YtmieakkhpkclpaaDoorG26
import Derived.Test.YtmieakkhpkclpaaDoorG7
import Derived.Shelf.RegionOpenPlain
/- slices.Compact at data: the program's. -/
namespace Go.Proofs.YtmieakkhpkclpaaDoor
open Go.RowKit Go.Sort Go.Shelf

abbrev dcl (d : Dv) : List Value := d.cells.toList
theorem dcl_len (d : Dv) : (dcl d).length = 8 := rfl
theorem dcl_one (d : Dv) : ∀ v ∈ dcl d, v.oneCell' = true := by
  intro v hv
  simp only [dcl, Dv.cells, List.mem_cons, List.not_mem_nil, or_false] at hv
  rcases hv with rfl | rfl | rfl | rfl | rfl | rfl | rfl | rfl <;> rfl
theorem setCells_cat (b : Nat) : ∀ (xs ys : List Value) (o : Nat) (w : World), w.setCells b o (xs ++ ys) = (w.setCells b o xs).setCells b (o + xs.length) ys
  | [], _, _, _ => rfl
  | x :: r, ys, o, w => by
    rw [List.cons_append, World.setCells, World.setCells, setCells_cat b r ys (o + 1)]
    congr 1
    simp only [List.length_cons]
    omega
/-- structs stored one behind the other. -/
theorem row_stores {α : Type} [Inhabited α] {enc : α → List Value} {k : Nat} (hk : ∀ x, (enc x).length = k) {g : Nat} {t : TypeId} : ∀ (xs : List α) (i : Nat) (d : Array α) (w : World), Has w g t (flatK enc k d) → i + xs.length ≤ d.size →
    ∃ d' : Array α, Has (w.setCells g (i * k) (fl enc xs)) g t (flatK enc k d') ∧ d'.size = d.size ∧ (∀ j, j < i → d'[j]? = d[j]?) ∧ w.grownBy (w.setCells g (i * k) (fl enc xs)) (some g)
  | [], _, d, w, h, _ => ⟨d, h, rfl, fun _ _ => rfl, ⟨rfl, rfl, rfl, Nat.le_refl _, fun _ _ _ => rfl⟩⟩
  | x :: r, i, d, w, h, hl => by
    have hi : i < d.size := by simp at hl; omega
    have e1 : fl enc (x :: r) = enc x ++ fl enc r := by simp [fl]
    rw [e1, setCells_cat, hk, row_store hk h hi x]
    obtain ⟨d', h1, h2, h3, h4⟩ := row_stores hk r (i + 1) (d.setIfInBounds i x) (w.setRow g (flatK enc k (d.setIfInBounds i x))) (h.row _) (by simp at hl ⊢; omega)
    rw [Nat.add_mul, Nat.one_mul] at h1 h4
    refine ⟨d', h1, by simpa using h2, fun j hj => ?_, ?_⟩
    · rw [h3 j (by omega), Array.getElem?_setIfInBounds, if_neg (by omega)]
    · refine ⟨h4.os, h4.tape, h4.output, by simp, fun j hj hne => ?_⟩
      rw [h4.block j (by simpa using hj) hne, setRow_other _ _ _ _ (fun e => hne (by rw [e]))]
theorem run_clear_structs {α : Type} [Inhabited α] {enc : α → List Value} {k : Nat} (hk : ∀ x, (enc x).length = k) (hone : ∀ x, ∀ v ∈ enc x, v.oneCell' = true) {P : Program} (w : World) (t e te : TypeId) (z : α) (zv : Value) (ht : P.underlying t = some (.slice e)) (hv : ∀ w, (zeroValue e).run P w = .ok zv w) (hz : zv.cells = (enc z).toArray)
    (g i n c : Nat) (d : Array α) (hX : Has w g te (flatK enc k d)) (hn : 0 < n) (hd : i + n ≤ d.size) :
    ∃ (w' : World) (d' : Array α), (∀ ty, (Builtin.clear_ #[t] ty #[.slice (some ⟨g, i * k, none⟩) n c]).run P w = .ok (.tuple #[]) w') ∧ Has w' g te (flatK enc k d') ∧ d'.size = d.size ∧ (∀ j, j < i → d'[j]? = d[j]?) ∧ w.grownBy w' (some g) := by
  have hzc : (Builtin.zeroCells zv.cells n).toList = fl enc (List.replicate n z) := by
    rw [hz]
    have e1 : Builtin.zeroCells (enc z).toArray n = madeCells (enc z).toArray (n * k) := by
      unfold Builtin.zeroCells madeCells
      rw [show (enc z).toArray.size = k by simp [hk]]
    rw [e1, made_flat hk, fl_flatK hk]
    simp
  have hlen : (fl enc (List.replicate n z)).length = n * k := by rw [fl_len hk]; simp
  have hb : ∀ j, j < n * k → i * k + j < (flatK enc k d).size := fun j hj => by
    rw [size_flatK]
    have : (i + n) * k ≤ d.size * k := Nat.mul_le_mul_right k hd
    rw [Nat.add_mul] at this
    omega
  have hst := run_storeCells_cells (P := P) g (i * k) (fl enc (List.replicate n z)) 0 w (fun j hj => by
    rw [hlen] at hj
    rw [hX.cell, Nat.add_zero, Array.getElem?_eq_getElem (hb j hj)]
    rfl) (fun j _ => hX.free _) (fun v hv => by
    unfold fl at hv
    obtain ⟨x, hx, hvx⟩ := List.mem_flatMap.1 hv
    exact hone x v hvx)
  simp only [Nat.add_zero] at hst
  obtain ⟨d', h1, h2, h3, h4⟩ := row_stores hk (List.replicate n z) i d w hX (by simpa using hd)
  obtain ⟨m, rfl⟩ : ∃ m, n = m + 1 := ⟨n - 1, by omega⟩
  refine ⟨_, d', fun ty => ?_, h1, h2, h3, h4⟩
  simp [Builtin.clear_, run_underlying ht, hv, hzc, hst]
end Go.Proofs.YtmieakkhpkclpaaDoor
/- slices.Compact at data: the program's, walked. -/
namespace Go.Proofs.YtmieakkhpkclpaaDoor
open Go.RowKit Go.Sort Go.Shelf

theorem dvB_eq (a b : Dv) : dvB a b = decide (a = b) := by
  rw [Bool.eq_iff_iff, dvB_iff, decide_eq_true_eq]
section
variable {ops : Array Oper} {C : World → Prop} {Q : Act → Prop} {a : Act} {o : Oper} {rest : List Oper}
theorem wpQuiet_load_mid {P : Program} (hgd : o.guard = none) (ty : TypeId) (x : Operand) (ho : o.op = .load ty x) (g off : Nat) (hx : a.eval x = .pointer (some ⟨g, off, none⟩)) (cs : List Value) (d : TypeDesc) (hc : ∀ w, C w → w.rangeAt g off cs)
    (hu : P.underlying ty = some d) (hd : d.isRow = true) (hi : (P.info? ty).map (·.size) = some cs.length) (h : wpQuiet P ops C Q rest (a.put o.dst (.agg cs.toArray))) : wpQuiet P ops C Q (o :: rest) a := by
  refine wpQuiet_step fun K hK => ?_
  rw [if_pos (by simp [Region.wanted, hgd])]
  refine ⟨.agg cs.toArray, fun w hw => ?_, hK _ h⟩
  unfold Oper.quietAt execOp
  simp only [ho, hx, Instr.loadAt, Instr.sureAddr, Sem.run_bind, Sem.run_pure, Result.andThen_ok, run_loadVar_mid w g off ty cs d (hc w hw) hu hd hi]
  exact ⟨rfl, rfl⟩
theorem wpQuiet_eql_data (hgd : o.guard = none) (x y : Operand) (ho : o.op = .binOp .eql 41 x y 41) (A B : Dv) (hx : a.eval x = .agg A.cells) (hy : a.eval y = .agg B.cells) (b : Bool) (hb : decide (A = B) = b)
    (h : wpQuiet Tryd.prog ops C Q rest (a.put o.dst (.bool b))) : wpQuiet Tryd.prog ops C Q (o :: rest) a := by
  subst hb
  refine wpQuiet_step fun K hK => ?_
  rw [if_pos (by simp [Region.wanted, hgd])]
  refine ⟨.bool (decide (A = B)), fun w _ => ?_, hK _ h⟩
  unfold Oper.quietAt execOp
  simp only [ho, hx, hy, Sem.run_bind, Sem.run_pure, Result.andThen_ok, run_eqGuard_agg w .eql _ _ _ _ _ Tryd.eqGuardType41, eqlRun, dvB_eq]
  exact ⟨rfl, rfl⟩
theorem wpQuiet_neq_data (hgd : o.guard = none) (x y : Operand) (ho : o.op = .binOp .neq 41 x y 41) (A B : Dv) (hx : a.eval x = .agg A.cells) (hy : a.eval y = .agg B.cells) (b : Bool) (hb : decide (A = B) = b)
    (h : wpQuiet Tryd.prog ops C Q rest (a.put o.dst (.bool (!b)))) : wpQuiet Tryd.prog ops C Q (o :: rest) a := by
  subst hb
  refine wpQuiet_step fun K hK => ?_
  rw [if_pos (by simp [Region.wanted, hgd])]
  refine ⟨.bool (!decide (A = B)), fun w _ => ?_, hK _ h⟩
  unfold Oper.quietAt execOp
  simp only [ho, hx, hy, Sem.run_bind, Sem.run_pure, Result.andThen_ok, run_eqGuard_agg w .neq _ _ _ _ _ Tryd.eqGuardType41, neqRun, dvB_eq]
  exact ⟨rfl, rfl⟩
end
theorem grown_same {a b c : World} {g : Nat} (h1 : a.grownBy b (some g)) (h2 : b.grownBy c (some g)) : a.grownBy c (some g) :=
  ⟨h2.os.trans h1.os, h2.tape.trans h1.tape, h2.output.trans h1.output, Nat.le_trans h1.size h2.size, fun k hk hne => (h2.block k (Nat.lt_of_lt_of_le hk h1.size) hne).trans (h1.block k hk hne)⟩
theorem take_set {α : Type} {d : Array α} {k : Nat} (hk : k < d.size) (x : α) : (d.setIfInBounds k x).toList.take (k + 1) = d.toList.take k ++ [x] := by
  rw [List.take_succ_eq_append_getElem (by simpa using hk)]
  congr 1
  · apply List.ext_getElem?
    intro i
    rw [List.getElem?_take, List.getElem?_take]
    split
    · rw [Array.getElem?_toList, Array.getElem?_toList, Array.getElem?_setIfInBounds, if_neg (by omega)]
    · rfl
  · simp
theorem range_drewN {w : World} {g o : Nat} {cs : List Value} (h : w.rangeAt g o cs) : ∀ W, (∃ n, W = w.drewN n) → W.rangeAt g o cs := fun W ⟨n, e⟩ => by
  subst e
  exact h
set_option maxHeartbeats 4000000 in
set_option maxRecDepth 100000 in
theorem compact_any (ds : List Dv) (g c : Nat) (w : World) (hX : Has w g 41 (flatK dcl 8 ds.toArray)) (hc : ds.length ≤ c) (hn : ds.length ≤ 4294967296) :
    Calls Tryd.prog 30 #[.slice (some ⟨g, 0, none⟩) ds.length c] w fun e w' => ∃ d' : Array Dv, e = .returned (.slice (some ⟨g, 0, none⟩) (Rr.cpt ds).length c) ∧ Has w' g 41 (flatK dcl 8 d') ∧ d'.size = ds.length ∧ d'.toList.take (Rr.cpt ds).length = Rr.cpt ds ∧ w.grownBy w' (some g) := by
  have HX := Lib.hid hX
  clear hX
  have hi8 : (Tryd.prog.info? 41).map (·.size) = some 8 := by kernel_rfl
  have HI := Lib.hid hi8
  clear hi8
  by_cases h2 : ds.length < 2
  · have hcp : Rr.cpt ds = ds := by
      match ds, h2 with
      | [], _ => rfl
      | [a], _ => rfl
    rw [hcp]
    have hlt : decide ((ds.length : Int) < 2) = true := by simp; omega
    go_enter Tryd.func30, Tryd.ntmps30
    go_wp2
    go_ret
    exact ⟨ds.toArray, rfl, HX.out, by simp, by simp, ⟨rfl, rfl, rfl, Nat.le_refl _, fun _ _ _ => rfl⟩⟩
  · have hlt : decide ((ds.length : Int) < 2) = false := by simp; omega
    go_enter Tryd.func30, Tryd.ntmps30
    go_wp2
    go_loopw [3] (fun i wr => ∃ k q : Nat, i = .int .i64 k ∧ 1 ≤ k ∧ k ≤ ds.length ∧ Hid (Rr.cpt (ds.take k) = ds.take k) ∧ wr = w.drewN q) (fun i _ => ds.length - (intOf i).toNat)
    case atStart => exact ⟨1, 0, rfl, by omega, by omega, Rr.cpt_one (by omega), rfl⟩
    case round =>
      obtain ⟨k, q, rfl, hk1, hk, HC, rfl⟩ := hrel
      by_cases hlt2 : k < ds.length
      · have hst := Rr.cpt_step hlt2 (by omega)
        have hr1 := row_at dcl_len HX.out (i := k) (by simpa using hlt2)
        have hr2 := row_at dcl_len HX.out (i := k - 1) (by simp; omega)
        simp only [List.getElem_toArray] at hr1 hr2
        have HR1 := Lib.hid (fun (W : World) (h : ∃ n, W = (w.drewN q).drewN n) => (show W.rangeAt g (k * 8) (dcl (ds[k]'(by omega))) from range_drewN (w := w.drewN q) hr1 W h))
        have HR2 := Lib.hid (fun (W : World) (h : ∃ n, W = (w.drewN q).drewN n) => (show W.rangeAt g ((k - 1) * 8) (dcl (ds[k - 1]'(by omega))) from range_drewN (w := w.drewN q) hr2 W h))
        have HST := Lib.hid hst
        have HTK := Lib.hid (List.take_succ_eq_append_getElem hlt2)
        clear hst hr1 hr2
        generalize ds[k]'(by omega) = x at *
        generalize ds[k - 1]'(by omega) = y at *
        generalize hwq : w.drewN q = wq at *
        obtain ⟨p, hpk⟩ : ∃ p, k - 1 = p := ⟨_, rfl⟩
        have hw1 : IntKind.i64.wrap ((k : Int) - 1) = (p : Int) := by rw [IntKind.wrap_i64]; omega
        have hpl : p < ds.length := by omega
        rw [hpk] at HR2
        have HPK := Lib.hid hpk
        have HWQ := Lib.hid hwq
        clear hpk hwq
        by_cases hxy : x = y
        · have HD : Hid (decide (x = y) = true) := by simp [Hid, hxy]
          have HXY := Lib.hid hxy
          clear hxy
          go_wp2_with fail
          refine wp_region_quiet_lit (by kernel_rfl) (by kernel_rfl) ?_
          repeat (first
            | (refine wpQuiet_load_mid rfl 41 (.tmp 18) rfl g (k * 8) rfl (dcl x) _ HR1.out Tryd.underlying41 rfl HI.out ?_)
            | (refine wpQuiet_load_mid rfl 41 (.tmp 23) rfl g (p * 8) rfl (dcl y) _ HR2.out Tryd.underlying41 rfl HI.out ?_)
            | (refine wpQuiet_eql_data rfl (.tmp 19) (.tmp 24) rfl x y rfl rfl true HD.out ?_)
            | quiet_step (fail))
          refine wpQuiet_nil ?_
          rintro _ ⟨nq, rfl⟩
          have HX3 : Hid (Has (wq.drewN nq) g 41 (flatK dcl 8 ds.toArray)) := by rw [Hid, ← HWQ.out]; exact HX.out
          have HG3 : Hid (w.grownBy (wq.drewN nq) (some g)) := by rw [Hid, ← HWQ.out]; exact ⟨rfl, rfl, rfl, Nat.le_refl _, fun _ _ _ => rfl⟩
          generalize wq.drewN nq = w3 at *
          have HC3 : Hid (ds.take k = Rr.cpt (ds.take (k + 1))) := by rw [Hid, HST.out, if_pos HXY.out, HC.out]
          clear HR1 HR2 HST HTK HXY HPK HWQ HD hw1 hpl HC
          go_wp2_with fail
          go_loopw [3, 5] (fun s3 s5 wr => ∃ (kk j : Nat) (d' : Array Dv), s3 = .int .i64 kk ∧ s5 = .int .i64 j ∧ 1 ≤ j ∧ k + j ≤ ds.length ∧ kk < k + j ∧ k ≤ kk ∧ Hid (Has wr g 41 (flatK dcl 8 d')) ∧ Hid (d'.size = ds.length) ∧ Hid (d'.toList.take kk = Rr.cpt (ds.take (k + j))) ∧ Hid (∀ i, kk ≤ i → d'[i]? = ds[i]?) ∧ Hid (w.grownBy wr (some g))) (fun _ s5 _ => ds.length - (intOf s5).toNat)
          case atStart => exact ⟨k, 1, ds.toArray, rfl, rfl, by omega, by omega, by omega, by omega, HX3, by rw [Hid]; simp, by rw [Hid]; simpa using HC3.out, fun i _ => by simp, HG3⟩
          case round =>
            obtain ⟨kk, j, d', rfl, rfl, hj1, hj, hkk, hkk2, HX4, HS4, HC4, HO4, HG4⟩ := hrel
            by_cases hlt4 : k + j < ds.length
            · have hst := Rr.cpt_step hlt4 (by omega)
              have hz1 : k + j < d'.size := by rw [HS4.out]; exact hlt4
              have hz2 : k + j - 1 < d'.size := by rw [HS4.out]; omega
              have hz3 : kk < d'.size := by rw [HS4.out]; omega
              have hr1 := row_at dcl_len HX4.out (i := k + j) hz1
              have hr2 := row_at dcl_len HX4.out (i := k + j - 1) hz2
              have q1 : d'[k + j] = ds[k + j] := by have := HO4.out (k + j) (by omega); rw [Array.getElem?_eq_getElem hz1, List.getElem?_eq_getElem hlt4] at this; exact Option.some.inj this
              have q2 : d'[k + j - 1] = ds[k + j - 1]'(by omega) := by have := HO4.out (k + j - 1) (by omega); rw [Array.getElem?_eq_getElem hz2, List.getElem?_eq_getElem (by omega)] at this; exact Option.some.inj this
              rw [q1, Nat.add_mul] at hr1
              rw [q2] at hr2
              obtain ⟨p, hpj⟩ : ∃ p, j - 1 = p := ⟨_, rfl⟩
              have e3 : (k + j - 1) * 8 = k * 8 + p * 8 := by omega
              rw [e3] at hr2
              have HR0 := Lib.hid hr1
              have HR1 := Lib.hid (range_drewN hr1)
              have HR2 := Lib.hid (range_drewN hr2)
              have HST := Lib.hid hst
              have HZ3 := Lib.hid hz3
              clear hst hr1 hr2 q1 q2 e3 hz1 hz2 hz3
              generalize ds[k + j]'(by omega) = x2 at *
              generalize ds[k + j - 1]'(by omega) = y2 at *
              have hw2 : IntKind.i64.wrap ((j : Int) - 1) = (p : Int) := by rw [IntKind.wrap_i64]; omega
              have hp1 : p < ds.length - k := by omega
              have hj2 : j < ds.length - k := by omega
              clear hpj
              by_cases hxy : x2 = y2
              · have HD : Hid (decide (x2 = y2) = true) := by simp [Hid, hxy]
                have HXY := Lib.hid hxy
                clear hxy
                go_wp2_with fail
                refine wp_region_quiet_lit (by kernel_rfl) (by kernel_rfl) ?_
                repeat (first
                  | (refine wpQuiet_load_mid rfl 41 (.tmp 37) rfl g (k * 8 + j * 8) rfl (dcl x2) _ HR1.out Tryd.underlying41 rfl HI.out ?_)
                  | (refine wpQuiet_load_mid rfl 41 (.tmp 42) rfl g (k * 8 + p * 8) rfl (dcl y2) _ HR2.out Tryd.underlying41 rfl HI.out ?_)
                  | (refine wpQuiet_neq_data rfl (.tmp 38) (.tmp 43) rfl x2 y2 rfl rfl true HD.out ?_)
                  | quiet_step (fail))
                refine wpQuiet_nil ?_
                rintro _ ⟨nq, rfl⟩
                go_wp2_with fail
                go_roundw
                case rel => exact ⟨kk, j + 1, d', rfl, by go_num, by omega, by omega, by omega, by omega, HX4, HS4, by rw [Hid, ← Nat.add_assoc, HST.out, if_pos HXY.out]; exact HC4.out, HO4, by have h := HG4.out; exact ⟨h.os, h.tape, h.output, h.size, h.block⟩⟩
                case measure => simp [intOf]; omega
              · have HD : Hid (decide (x2 = y2) = false) := by simp [Hid, hxy]
                have HXY := Lib.hid hxy
                clear hxy
                go_wp2_with fail
                refine wp_region_quiet_lit (by kernel_rfl) (by kernel_rfl) ?_
                repeat (first
                  | (refine wpQuiet_load_mid rfl 41 (.tmp 37) rfl g (k * 8 + j * 8) rfl (dcl x2) _ HR1.out Tryd.underlying41 rfl HI.out ?_)
                  | (refine wpQuiet_load_mid rfl 41 (.tmp 42) rfl g (k * 8 + p * 8) rfl (dcl y2) _ HR2.out Tryd.underlying41 rfl HI.out ?_)
                  | (refine wpQuiet_neq_data rfl (.tmp 38) (.tmp 43) rfl x2 y2 rfl rfl false HD.out ?_)
                  | quiet_step (fail))
                refine wpQuiet_nil ?_
                rintro _ ⟨nq, rfl⟩
                have HX5 : Hid (Has (wr.drewN nq) g 41 (flatK dcl 8 d')) := HX4
                have HG5 : Hid (w.grownBy (wr.drewN nq) (some g)) := by have h := HG4.out; exact ⟨h.os, h.tape, h.output, h.size, h.block⟩
                have HR5 : Hid ((wr.drewN nq).rangeAt g (k * 8 + j * 8) (dcl x2)) := HR0
                generalize wr.drewN nq = w5 at *
                go_wp2_with (first
                  | (refine wpList_load_mid rfl 41 (.tmp 49) rfl g (k * 8 + j * 8) rfl (dcl x2) _ HR5.out Tryd.underlying41 rfl HI.out ?_)
                  | (refine wpList_store_elem rfl 41 (.tmp 51) (.tmp 50) rfl dcl_len dcl_one g kk 41 _ x2 HX5.out HZ3.out rfl rfl HI.out ?_; intro w6 hX6 g6 hs6; have HX6 := Lib.hid hX6; have HG6 := Lib.hid (grown_same HG5.out g6); clear hX6 g6))
                go_roundw
                case rel => exact ⟨kk + 1, j + 1, d'.setIfInBounds kk x2, by go_num, by go_num, by omega, by omega, by omega, by omega, HX6, by rw [Hid]; simpa using HS4.out, (by
                  rw [Hid, ← Nat.add_assoc, HST.out, if_neg HXY.out, ← HC4.out]
                  exact take_set HZ3.out x2), fun i hi => (by rw [Array.getElem?_setIfInBounds, if_neg (by omega)]; exact HO4.out i (by omega)), HG6⟩
                case measure => simp [intOf]; omega
            · have hend : k + j = ds.length := by omega
              have hkn : kk < ds.length := by omega
              obtain ⟨w7, d7, hcl, hX7, hs7, ho7, hg7⟩ := run_clear_structs (P := Tryd.prog) dcl_len dcl_one wr 28 41 41 default _ Tryd.underlying28 (fun W => Tryd.zeroValue41 W) rfl g kk (ds.length - kk) (c - kk) d' HX4.out (by omega) (by rw [HS4.out]; omega)
              have HX7 := Lib.hid hX7
              have HO7 := Lib.hid ho7
              have HS7 := Lib.hid hs7
              have HG7 := Lib.hid (grown_same HG4.out hg7)
              have HEND := Lib.hid hend
              have hstop : ds.length - k ≤ j := by omega
              clear hX7 ho7 hs7 hg7 hend hlt4
              go_wp2_with fail
              go_ret
              have hfin : d'.toList.take kk = Rr.cpt ds := by rw [HC4.out, HEND.out, List.take_of_length_le (Nat.le_refl _)]
              have hlen : (Rr.cpt ds).length = kk := by rw [← hfin, List.length_take, Array.length_toList, HS4.out]; omega
              rw [hlen]
              refine ⟨d7, rfl, HX7.out, by rw [HS7.out, HS4.out], ?_, HG7.out⟩
              rw [← hfin]
              apply List.ext_getElem?
              intro i
              rw [List.getElem?_take, List.getElem?_take]
              split
              · rw [Array.getElem?_toList, Array.getElem?_toList]
                exact HO7.out i (by assumption)
              · rfl
        · have HD : Hid (decide (x = y) = false) := by simp [Hid, hxy]
          have HXY := Lib.hid hxy
          clear hxy
          go_wp2_with fail
          refine wp_region_quiet_lit (by kernel_rfl) (by kernel_rfl) ?_
          repeat (first
            | (refine wpQuiet_load_mid rfl 41 (.tmp 18) rfl g (k * 8) rfl (dcl x) _ HR1.out Tryd.underlying41 rfl HI.out ?_)
            | (refine wpQuiet_load_mid rfl 41 (.tmp 23) rfl g (p * 8) rfl (dcl y) _ HR2.out Tryd.underlying41 rfl HI.out ?_)
            | (refine wpQuiet_eql_data rfl (.tmp 19) (.tmp 24) rfl x y rfl rfl false HD.out ?_)
            | quiet_step (fail))
          refine wpQuiet_nil ?_
          rintro _ ⟨nq, rfl⟩
          go_wp2_with fail
          go_roundw
          case rel => exact ⟨k + 1, q + nq, by go_num, by omega, by omega, by rw [Hid, HST.out, if_neg HXY.out, HC.out, HTK.out], by rw [← HWQ.out, World.drewN_drewN]⟩
          case measure => simp [intOf]; omega
      · obtain rfl : k = ds.length := by omega
        have hcp : Rr.cpt ds = ds := by have h := HC.out; rwa [List.take_of_length_le (Nat.le_refl _)] at h
        have HCP := Lib.hid hcp
        clear hcp HC
        go_wp2_with fail
        go_ret
        rw [HCP.out]
        exact ⟨ds.toArray, rfl, HX.out, by simp, by simp, ⟨rfl, rfl, rfl, Nat.le_refl _, fun _ _ _ => rfl⟩⟩
end Go.Proofs.YtmieakkhpkclpaaDoor
