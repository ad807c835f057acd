/- Texts of the proofs, merged. -/
import Derived.Test.YtmieakkhpkclpaaDoorG49
import Derived.Test.YtmieakkhpkclpaaDoorG6
import Derived.Test.YtmieakkhpkclpaaDoorG38
import Derived.Test.YtmieakkhpkclpaaDoorG46
import Derived.Test.YtmieakkhpkclpaaDoorG22
import Derived.Test.YtmieakkhpkclpaaDoorG21
import Derived.StillTailTactics
import Derived.Deep.RegionLaw
import Derived.BigQuiet
/- Sort: the document's. -/
namespace Go.Proofs.YtmieakkhpkclpaaDoor
open Go.RowKit Go.Sort Go.Shelf

theorem rv_fold_fits {r : Rv} (h : r.fits) : r.fold.fits := by
  obtain ⟨nm, ty, cl, ttl, ⟨ra, ho, ma, n0, n1, n2, n3, n4⟩⟩ := r
  exact h
theorem rv_fold_near {r : Rv} (h : r.near) : r.fold.near := by
  have hs : ∀ s : ByteArray, (⟨(Nm.fold s.data.toList).toArray⟩ : ByteArray).size = s.size := fun s => by
    show ((Nm.fold s.data.toList).toArray).size = s.size
    simp [Nm.fold]
  obtain ⟨h1, h2, h3, h4⟩ := h
  refine ⟨by show (⟨(Nm.fold r.nm.data.toList).toArray⟩ : ByteArray).size ≤ _; rw [hs]; exact h1, h2, ?_, ?_⟩
  · show (if Rd.isHost r.ty then (⟨(Nm.fold r.d.host.data.toList).toArray⟩ : ByteArray) else r.d.host).size ≤ _
    split
    · rw [hs]; exact h3
    · exact h3
  · show (if Rd.isMail r.ty then (⟨(Nm.fold r.d.mail.data.toList).toArray⟩ : ByteArray) else r.d.mail).size ≤ _
    split
    · rw [hs]; exact h4
    · exact h4
/-- one more, put in its place. -/
theorem srtd_ins {l L : List Rv} {i k : Nat} (hi : i < l.length) (h : Srtd (l.take i) L) (hk : k ≤ L.length) (ha : ∀ j (hj : j < L.length), j < k → Rr.cmpR L[j].fold.rc (l[i]'hi).fold.fold.rc ≤ 0) (hb : ∀ hk : k < L.length, 0 < Rr.cmpR L[k].fold.rc (l[i]'hi).fold.fold.rc) :
    Srtd (l.take (i + 1)) (L.take k ++ [(l[i]'hi).fold] ++ L.drop k) := by
  have hf := folded_of h.1
  have ha2 : ∀ j (hj : j < L.length), j < k → Rr.cmpR L[j].rc (l[i]'hi).fold.rc ≤ 0 := fun j hj hjk => by
    have := ha j hj hjk
    rwa [hf _ (List.getElem_mem hj), rv_fold2] at this
  have hb2 : ∀ hk : k < L.length, 0 < Rr.cmpR L[k].rc (l[i]'hi).fold.rc := fun hk => by
    have := hb hk
    rwa [hf _ (List.getElem_mem hk), rv_fold2] at this
  have e : L.take k ++ L.drop k = L := List.take_append_drop _ _
  rw [List.append_assoc, List.singleton_append]
  refine ⟨?_, ?_⟩
  · rw [List.take_succ_eq_append_getElem hi, List.map_append, List.map_cons, List.map_nil]
    exact Rr.ins_perm (by rw [e]; exact h.1)
  · rw [List.map_append, List.map_cons]
    refine Rr.ins_up Rr.od_cmpR (by rw [← List.map_append, e]; exact h.2) (fun y hy => ?_) (fun y hy => ?_)
    · obtain ⟨q, hq, rfl⟩ := List.mem_map.1 hy
      obtain ⟨j, hj, rfl⟩ := List.mem_iff_getElem.1 hq
      rw [List.length_take] at hj
      rw [List.getElem_take]
      exact ha2 j (by omega) (by omega)
    · rw [List.head?_map, List.head?_drop, Option.map_eq_some_iff] at hy
      obtain ⟨q, hq, rfl⟩ := hy
      obtain ⟨h1, rfl⟩ := List.getElem?_eq_some_iff.1 hq
      exact hb2 h1
/-- the first k of a row of the call's own. -/
theorem Own.pre {α : Type} {enc : α → List Value} {n : Nat} (hn : ∀ x, (enc x).length = n) {w : World} {base g c : Nat} {e : TypeId} {L : List α} (h : Own enc n w base e (.slice (some ⟨g, 0, none⟩) L.length c) L) {k : Nat} (hk : k ≤ L.length) : Own enc n w base e (.slice (some ⟨g, 0, none⟩) k c) (L.take k) := by
  have hl : (L.take k).length = k := by rw [List.length_take]; omega
  unfold Own at *
  rw [hl]
  refine ⟨by rw [fl_len hn, hl], ?_⟩
  rcases h.2 with ⟨h1, _⟩ | ⟨g', cap, cur, h1, h2, h3, h4, h5, h6, h7⟩
  · cases h1
  · injection h1 with h1 _ h1c
    injection h1 with h1
    injection h1 with h1
    subst h1 h1c
    refine .inr ⟨g, c, cur, rfl, h2, h3, by omega, h5, h6, ?_⟩
    have e1 : fl enc L = fl enc (L.take k) ++ fl enc (L.drop k) := by rw [← fl_append, List.take_append_drop]
    have e2 : (fl enc (L.take k)).length = k * n := by rw [fl_len hn, hl]
    have e3 : cur.toList.take (k * n) = (cur.toList.take (L.length * n)).take (k * n) := by
      rw [List.take_take, Nat.min_eq_left (Nat.mul_le_mul_right n hk)]
    rw [e3, h7, e1, ← e2, List.take_left']
    rfl
end Go.Proofs.YtmieakkhpkclpaaDoor
/- Sort: the document's, walked. -/
namespace Go.Proofs.YtmieakkhpkclpaaDoor
open Go.RowKit Go.Sort Go.Shelf

theorem r5_append_run {P : Program} {w : World} {o : Oper} {a : Act} {K : Act → World → Prop} {Q : Exit → Act → World → Prop} (s x : Operand) (t u : TypeId)
    (ho : o.op = .call { callee := .builtin .append, args := #[s, x], argTypes := #[t, u] }) (v y : Value) (hs : a.eval s = v) (hx : a.eval x = y) {v' : Value} {w' : World}
    (hr : (Builtin.append_ #[t, u] o.type #[v, y]).run P w = .ok v' w') (h : K (a.put o.dst v') w') : o.wp P a w K Q := by
  unfold Oper.wp execOp
  simp only [ho, resolve, invoke, builtin, Sem.run_bind, Sem.run_pure, Result.andThen_ok, List.map_toArray, List.map_cons, List.map_nil, hs, hx, hr]
  exact h
theorem own_drewN {w : World} {base : Nat} {e : TypeId} {size : Nat} {v : Value} {n : Nat} {xs : List Value} (h : w.ownsRow base e size v n xs) (q : Nat) : (w.drewN q).ownsRow base e size v n xs := h
theorem own_cells_at {w : World} {g n c base : Nat} {L : List Rv} {v : Value} {m : Nat} (h : w.ownsRow base 43 12 v m (fl rcl L)) (hv : v = .slice (some ⟨g, 0, none⟩) n c) : ∀ j u, (fl rcl L)[j]? = some u → w.cell? ((⟨g, 0, none⟩ : Addr).add j) = some u :=
  h.cells (g := g) (by rw [hv]; rfl)
theorem drop_cells {w : World} {g : Nat} {L : List Rv} {k : Nat} (hk : k ≤ L.length) (h : ∀ j u, (fl rcl L)[j]? = some u → w.cell? ((⟨g, 0, none⟩ : Addr).add j) = some u) : ∀ j u, (fl rcl (L.drop k))[j]? = some u → w.cell? ((⟨g, k * 12, none⟩ : Addr).add j) = some u := fun j u hu => by
  have e : fl rcl L = fl rcl (L.take k) ++ fl rcl (L.drop k) := by rw [← fl_append, List.take_append_drop]
  have hl : (fl rcl (L.take k)).length = k * 12 := by rw [fl_len rcl_len, List.length_take, Nat.min_eq_left hk]
  have := h (k * 12 + j) u (by rw [e, List.getElem?_append_right (by omega), hl, Nat.add_sub_cancel_left]; exact hu)
  rw [addr_add] at this ⊢
  rwa [Nat.zero_add] at this
theorem r5_new (w : World) (t : TypeId) (l : List Value) : ∀ j u, l[j]? = some u → (w.alloc (.cells l.toArray t)).cell? ((⟨w.heap.size, 0, none⟩ : Addr).add j) = some u := by
  intro j u h
  rw [addr_add, Nat.zero_add, (Has.fresh w t l.toArray).cell]
  simpa using h
set_option maxHeartbeats 16000000 in
set_option maxRecDepth 1000000 in
theorem r5Sort_any (l : List Rv) (A : Option Addr) (c : Nat) (w : World) (hS : Srow rcl 12 w 0 w.heap.size A l) (hq : ∀ r ∈ l, r.fits ∧ r.near) (hn : l.length ≤ 200) :
    Calls Tryd.prog 20 #[.slice A l.length c] w fun e w' => ∃ v L, e = .returned v ∧ Srtd l L ∧ Own rcl 12 w' w.heap.size 43 v L ∧ Below w.heap.size w w' := by
  have HS := Lib.hid hS
  have HQ := Lib.hid hq
  have hi12 : (Tryd.prog.info? 43).map (·.size) = some 12 := by kernel_rfl
  have HI := Lib.hid hi12
  obtain ⟨ti, ht1, ht2, ht3, ht4⟩ : ∃ i, Tryd.prog.info? 43 = some i ∧ i.zero = some (.agg (rcl ⟨⟨#[]⟩, 0, 0, 0, ⟨⟨#[]⟩, ⟨#[]⟩, ⟨#[]⟩, 0, 0, 0, 0, 0⟩⟩).toArray) ∧ i.size = 12 ∧ i.bytes = 96 := ⟨_, rfl, by kernel_rfl, by kernel_rfl, by kernel_rfl⟩
  have HT := Lib.hid (And.intro ht1 (And.intro ht2 (And.intro ht3 ht4)))
  clear hS hq hi12 ht1 ht2 ht3 ht4
  go_enter Tryd.func20, Tryd.ntmps20
  go_wp2
  go_loopw [3, 4, 5, 6, 7] (fun s3 s4 _ _ _ wr => ∃ (i : Nat) (L : List Rv), s4 = .int .i64 i ∧ i ≤ l.length ∧ Hid (Srtd (l.take i) L) ∧ Hid (Own rcl 12 wr w.heap.size 43 s3 L) ∧ Hid (i = 0 → s3 = .slice none 0 0) ∧ Hid (Below w.heap.size w wr)) (fun _ s4 _ _ _ _ => l.length - (intOf s4).toNat)
  case atStart => exact ⟨0, [], rfl, Nat.zero_le _, ⟨List.Perm.refl _, List.Pairwise.nil⟩, ⟨rfl, .inl ⟨rfl, rfl⟩⟩, (fun _ => rfl), Below.refl _ _⟩
  case round =>
    obtain ⟨i, L, rfl, hi, HSR, HO, HZ, HB⟩ := hrel
    have i0 : (0 : Int) ≤ (i : Int) := by omega
    by_cases hlt : i < l.length
    · have i1 : (i : Int) < (l.length : Int) := by omega
      have hLL : L.length = i := by have h := HSR.out.len; rw [List.length_take] at h; omega
      obtain ⟨g, o, hA, _, hg, hc⟩ := HS.out.at_ hlt
      have HC := Lib.hid (range_below HB.out hg hc)
      have hqi := HQ.out _ (List.getElem_mem hlt)
      have HF := Lib.hid (fun W : World => (show Calls Tryd.prog 36 #[.agg (l[i]'hlt).cells] W (fun e w' => e = .returned (.agg (l[i]'hlt).fold.cells) ∧ Below W.heap.size W w') from r5Fold_any (l[i]'hlt) W hqi.1.1 hqi.2.short))
      have HQL : Hid (∀ q ∈ L, q.fits ∧ q.near) := fun q hq => by
        obtain ⟨p, hp, rfl⟩ := List.mem_map.1 (HSR.out.1.mem_iff.1 hq)
        have := HQ.out p (List.mem_of_mem_take hp)
        exact ⟨rv_fold_fits this.1, rv_fold_near this.2⟩
      have HCMP := Lib.hid (fun (j : Nat) (hj : j < L.length) (W : World) => (show Calls Tryd.prog 37 #[.agg (L[j]'hj).cells, .agg (l[i]'hlt).fold.cells] W (fun e w' => e = .returned (.int .i64 (Rr.cmpR (L[j]'hj).fold.rc (l[i]'hlt).fold.fold.rc)) ∧ Below W.heap.size W w') from r5Cmp_any (L[j]'hj) (l[i]'hlt).fold W (HQL.out _ (List.getElem_mem hj)) ⟨rv_fold_fits hqi.1, rv_fold_near hqi.2⟩))
      have HINS := Lib.hid (fun (k : Nat) (hk : k ≤ L.length) ha hb => srtd_ins (k := k) hlt HSR.out hk ha hb)
      clear hc hqi HSR HQL
      generalize l[i] = r at *
      generalize r.fold = x at *
      obtain ⟨xn, xt, xc, xl, ⟨x0, x1, x2, y0, y1, y2, y3, y4⟩⟩ := x
      subst hA
      go_upto_region 6 with (first
        | (refine wpList_load_mid rfl 43 (.tmp 16) rfl g _ rfl (rcl r) _ HC.out Tryd.underlying43 rfl HI.out ?_)
        | (go_at_call 36
           refine (HF.out _).mono ?_
           rintro e w4 ⟨rfl, B⟩
           have HO4 := Lib.hid (ownK_below HO.out B (Nat.le_refl _))
           have HB4 := Lib.hid (HB.out.trans (B.mono HB.out.size))
           clear B)
        | (refine wpList_store_boxed rfl 43 (.tmp 5) (.tmp 18) rfl 43 _ #[.string xn, .int .u16 xt, .int .u16 xc, .int .u32 xl, .string x0, .string x1, .string x2, .int .u32 y0, .int .u32 y1, .int .u32 y2, .int .u32 y3, .int .u32 y4] rfl rfl HI.out rfl (rv_one (⟨xn, xt, xc, xl, ⟨x0, x1, x2, y0, y1, y2, y3, y4⟩⟩ : Rv)) ?_
           intro w5 hY g5 hs5
           have HY5 := Lib.hid hY
           have HO5 := Lib.hid (HO4.out.kept g5 (Classical.em _))
           have HB5 := Lib.hid (grown_none g5 HB4.out HB4.out.size)
           have HGX : Hid (w.heap.size ≤ w4.heap.size) := HB4.out.size
           obtain ⟨gx, hgx⟩ : ∃ g, w4.heap.size = g := ⟨_, rfl⟩
           rw [hgx] at hs5 HY5 HGX ⊢
           clear hY g5 hgx HO4 HB4))
      clear HC HF HO HB
      rcases Nat.eq_zero_or_pos i with h0 | h0
      · have hL0 : L = [] := List.eq_nil_of_length_eq_zero (by omega)
        have hz := HZ.out h0
        subst hL0 hz
        have hnil : w5.ownsRow w.heap.size 43 12 (.slice none 0 0) 0 (fl rcl []) := ⟨rfl, .inl ⟨rfl, rfl⟩⟩
        go_wp2_with fail
        go_loopw [6] (fun s6 wz => s6 = .int .i64 0 ∧ Hid (Below w5.heap.size w5 wz)) (fun _ _ => 0)
        case atStart => exact ⟨rfl, Below.refl _ _⟩
        case round =>
          obtain ⟨rfl, HBz⟩ := hrel
          go_upto_region 7 with fail
          go_quiet (fail)
          go_upto_region 9 with fail
          have HBz2 : Hid (Below w5.heap.size w5 (wr.drewN nq)) := below_drewN HBz.out nq
          clear HBz
          generalize wr.drewN nq = wz at *
          have hbx := HY5.out.lt
          have HYz := Lib.hid (HY5.out.below HBz2.out hbx)
          have HBw := Lib.hid (HB5.out.trans (HBz2.out.mono HB5.out.size))
          go_upto_region 10 with (first
            | (at_builtin
               refine wpList_append_own_none rfl (.const (.slice none 0 0)) (.tmp 36) _ rfl w.heap.size 43 ti 12 Tryd.underlying22 HT.out.1 (.slice none 0 0) 0 [] rfl ⟨rfl, .inl ⟨rfl, rfl⟩⟩ rfl ?_))
          obtain ⟨v8, w8, hr8, ho8, hg8, _⟩ := run_append_own (P := Tryd.prog) (wz.drew.alloc (.cells #[.string xn, .int .u16 xt, .int .u16 xc, .int .u32 xl, .string x0, .string x1, .string x2, .int .u32 y0, .int .u32 y1, .int .u32 y2, .int .u32 y3, .int .u32 y4] 43)) w.heap.size 22 22 43 ti _ 12 96 Tryd.underlying22 HT.out.1 HT.out.2.1 HT.out.2.2.1 HT.out.2.2.2 rfl (by decide) (.slice none 0 0) 0 [] ⟨rfl, .inl ⟨rfl, rfl⟩⟩
            ⟨wz.heap.size, 0, none⟩ 1 1 (rcl (⟨xn, xt, xc, xl, ⟨x0, x1, x2, y0, y1, y2, y3, y4⟩⟩ : Rv)) rfl (r5_new wz.drew _ _) (rcl_one (⟨xn, xt, xc, xl, ⟨x0, x1, x2, y0, y1, y2, y3, y4⟩⟩ : Rv)) (by unfold maxLen; omega) (by omega) (by have := HBw.out.size; simp; omega)
          rw [Nat.zero_add, List.nil_append] at ho8
          have hr9 := run_append_owned_none (P := Tryd.prog) (w := w8) w.heap.size 22 22 43 ti 12 Tryd.underlying22 HT.out.1 _ _ _ ho8
          have HBF : Hid (Below w.heap.size w w8) := (HBw.out.drew.alloc (by show w.heap.size ≤ wz.heap.size; exact HBw.out.size) _).grown hg8 (by have := HBw.out.size; simp; omega) (fun q e => by cases e)
          have HOF : Hid (Own rcl 12 w8 w.heap.size 43 v8 ([].take 0 ++ [(⟨xn, xt, xc, xl, ⟨x0, x1, x2, y0, y1, y2, y3, y4⟩⟩ : Rv)] ++ [].drop 0)) := by
            show w8.ownsRow _ _ _ _ _ _
            have e0 : (([] : List Rv).take 0 ++ [(⟨xn, xt, xc, xl, ⟨x0, x1, x2, y0, y1, y2, y3, y4⟩⟩ : Rv)] ++ ([] : List Rv).drop 0) = [(⟨xn, xt, xc, xl, ⟨x0, x1, x2, y0, y1, y2, y3, y4⟩⟩ : Rv)] := rfl
            rw [e0, fl_one]
            exact ho8
          have HR8 := Lib.hid hr8
          have HR9 := Lib.hid hr9
          have HSF := Lib.hid (HINS.out 0 (Nat.zero_le _) (fun j hj _ => absurd hj (Nat.not_lt_zero _)) (fun hk => absurd hk (Nat.lt_irrefl _)))
          have b0 : wz.drew.cell? ⟨gx, 0, none⟩ = some (.string xn) := HYz.out.cell 0
          have b1 : wz.drew.cell? ⟨gx, 1, none⟩ = some (.int .u16 xt) := HYz.out.cell 1
          have b2 : wz.drew.cell? ⟨gx, 2, none⟩ = some (.int .u16 xc) := HYz.out.cell 2
          have b3 : wz.drew.cell? ⟨gx, 3, none⟩ = some (.int .u32 xl) := HYz.out.cell 3
          have b4 : wz.drew.cell? ⟨gx, 4, none⟩ = some (.string x0) := HYz.out.cell 4
          have b5 : wz.drew.cell? ⟨gx, 5, none⟩ = some (.string x1) := HYz.out.cell 5
          have b6 : wz.drew.cell? ⟨gx, 6, none⟩ = some (.string x2) := HYz.out.cell 6
          have b7 : wz.drew.cell? ⟨gx, 7, none⟩ = some (.int .u32 y0) := HYz.out.cell 7
          have b8 : wz.drew.cell? ⟨gx, 8, none⟩ = some (.int .u32 y1) := HYz.out.cell 8
          have b9 : wz.drew.cell? ⟨gx, 9, none⟩ = some (.int .u32 y2) := HYz.out.cell 9
          have b10 : wz.drew.cell? ⟨gx, 10, none⟩ = some (.int .u32 y3) := HYz.out.cell 10
          have b11 : wz.drew.cell? ⟨gx, 11, none⟩ = some (.int .u32 y4) := HYz.out.cell 11
          clear hr8 ho8 hr9 hg8 HYz HBw HBz2 HINS HCMP hnil
          go_region_law (first
            | (refine r5_append_run (.tmp 40) (.tmp 42) _ _ rfl _ _ rfl rfl HR8.out ?_)
            | (refine r5_append_run (.tmp 43) (.tmp 44) _ _ rfl _ _ rfl rfl HR9.out ?_))
          all_goals
            go_wp2_with fail
            go_roundw
            case rel => exact ⟨i + 1, _, by go_num, by omega, HSF, HOF, (fun h => absurd h (Nat.succ_ne_zero i)), HBF⟩
            case measure => simp [intOf]; omega
      · obtain ⟨gL, cL, cur, hv, hnc, hgb, hgl, _, _⟩ := ownK_pos HO5.out (by omega : 0 < L.length)
        subst hv
        have hbx := HY5.out.lt
        have HRL : Hid (∀ j (h : j < L.length), w5.rangeAt gL (j * 12) (rcl L[j])) := fun j hj => by
          obtain ⟨A', c', e1, _, hs⟩ := Own.srow rcl_len HO5.out
          injection e1 with e1 _ _
          subst e1
          obtain ⟨g', o', hA, _, _, hc⟩ := hs.at_ hj
          injection hA with hA
          injection hA with e1 e2 _
          subst e1 e2
          rwa [Nat.zero_add] at hc
        have hL2 : L.length ≤ 200 := by omega
        clear HZ hLL
        go_wp2_with fail
        go_loopw [6] (fun s6 wz => ∃ k : Nat, s6 = .int .i64 k ∧ k ≤ L.length ∧ Hid (∀ j (hj : j < L.length), j < k → Rr.cmpR L[j].fold.rc (Rv.fold (⟨xn, xt, xc, xl, ⟨x0, x1, x2, y0, y1, y2, y3, y4⟩⟩ : Rv)).rc ≤ 0) ∧ Hid (Below w5.heap.size w5 wz)) (fun s6 _ => L.length - (intOf s6).toNat)
        case atStart => exact ⟨0, rfl, Nat.zero_le _, (fun _ _ h => absurd h (Nat.not_lt_zero _)), Below.refl _ _⟩
        case round =>
          obtain ⟨k, rfl, hk, HJ, HBz⟩ := hrel
          have k0 : (0 : Int) ≤ (k : Int) := by omega
          have HYz := Lib.hid (HY5.out.below HBz.out hbx)
          have HOz := Lib.hid (ownK_below HO5.out HBz.out (Nat.le_refl _))
          by_cases hlk : k < L.length
          · have k1 : (k : Int) < (L.length : Int) := by omega
            have d0 : decide ((k : Int) < (L.length : Int)) = true := by rw [decide_eq_true_iff]; exact k1
            have RK := Lib.hid (range_below HBz.out hgl (HRL.out k hlk))
            have hcm := HCMP.out k hlk
            have HJ1 : Hid (Rr.cmpR L[k].fold.rc (Rv.fold (⟨xn, xt, xc, xl, ⟨x0, x1, x2, y0, y1, y2, y3, y4⟩⟩ : Rv)).rc ≤ 0 → ∀ j (hj : j < L.length), j < k + 1 → Rr.cmpR L[j].fold.rc (Rv.fold (⟨xn, xt, xc, xl, ⟨x0, x1, x2, y0, y1, y2, y3, y4⟩⟩ : Rv)).rc ≤ 0) := fun h j hj hjk => by
              by_cases e : j = k
              · subst e; exact h
              · exact HJ.out j hj (by omega)
            have HK1 : Hid (0 < Rr.cmpR L[k].fold.rc (Rv.fold (⟨xn, xt, xc, xl, ⟨x0, x1, x2, y0, y1, y2, y3, y4⟩⟩ : Rv)).rc → ∀ hk : k < L.length, 0 < Rr.cmpR L[k].fold.rc (Rv.fold (⟨xn, xt, xc, xl, ⟨x0, x1, x2, y0, y1, y2, y3, y4⟩⟩ : Rv)).rc) := fun h _ => h
            have HBd := Lib.hid HBz.out.drew
            obtain ⟨y, hy⟩ : ∃ y, Rr.cmpR L[k].fold.rc (Rv.fold (⟨xn, xt, xc, xl, ⟨x0, x1, x2, y0, y1, y2, y3, y4⟩⟩ : Rv)).rc = y := ⟨_, rfl⟩
            have hcm2 : Hid (∀ W : World, Calls Tryd.prog 37 #[.agg (L[k]'hlk).cells, .agg #[.string xn, .int .u16 xt, .int .u16 xc, .int .u32 xl, .string x0, .string x1, .string x2, .int .u32 y0, .int .u32 y1, .int .u32 y2, .int .u32 y3, .int .u32 y4]] W fun e w' => e = .returned (.int .i64 y) ∧ Below W.heap.size W w') := by rw [← hy]; exact hcm
            have HY := Lib.hid hy
            clear hcm hy
            generalize hLk : L[k] = p at hcm2 RK
            have HLK := Lib.hid hLk
            clear hLk
            obtain ⟨pn, pt, pc, pl, ⟨p0, p1, p2, q0, q1, q2, q3, q4⟩⟩ := p
            dsimp only [Rv.cells] at hcm2
            have a0 := RK.out 0 _ rfl
            have a1 := RK.out 1 _ rfl
            have a2 := RK.out 2 _ rfl
            have a3 := RK.out 3 _ rfl
            have a4 := RK.out 4 _ rfl
            have a5 := RK.out 5 _ rfl
            have a6 := RK.out 6 _ rfl
            have a7 := RK.out 7 _ rfl
            have a8 := RK.out 8 _ rfl
            have a9 := RK.out 9 _ rfl
            have a10 := RK.out 10 _ rfl
            have a11 := RK.out 11 _ rfl
            have b0 : wr.cell? ⟨gx, 0, none⟩ = some (.string xn) := HYz.out.cell 0
            have b1 : wr.cell? ⟨gx, 1, none⟩ = some (.int .u16 xt) := HYz.out.cell 1
            have b2 : wr.cell? ⟨gx, 2, none⟩ = some (.int .u16 xc) := HYz.out.cell 2
            have b3 : wr.cell? ⟨gx, 3, none⟩ = some (.int .u32 xl) := HYz.out.cell 3
            have b4 : wr.cell? ⟨gx, 4, none⟩ = some (.string x0) := HYz.out.cell 4
            have b5 : wr.cell? ⟨gx, 5, none⟩ = some (.string x1) := HYz.out.cell 5
            have b6 : wr.cell? ⟨gx, 6, none⟩ = some (.string x2) := HYz.out.cell 6
            have b7 : wr.cell? ⟨gx, 7, none⟩ = some (.int .u32 y0) := HYz.out.cell 7
            have b8 : wr.cell? ⟨gx, 8, none⟩ = some (.int .u32 y1) := HYz.out.cell 8
            have b9 : wr.cell? ⟨gx, 9, none⟩ = some (.int .u32 y2) := HYz.out.cell 9
            have b10 : wr.cell? ⟨gx, 10, none⟩ = some (.int .u32 y3) := HYz.out.cell 10
            have b11 : wr.cell? ⟨gx, 11, none⟩ = some (.int .u32 y4) := HYz.out.cell 11
            rw [Nat.add_zero] at a0
            by_cases hy0 : y ≤ 0
            · have d5 : decide (y ≤ 0) = true := by rw [decide_eq_true_iff]; exact hy0
              have HJ2 := Lib.hid (HJ1.out (by rw [HY.out]; exact hy0))
              clear hy0 HJ1 HK1
              go_upto_region 7 with fail
              go_still_tail 10, (by kernel_rfl)
              change wpList _ _ _ _ _ wr.drew
              clear a0 a1 a2 a3 a4 a5 a6 a7 a8 a9 a10 a11 b0 b1 b2 b3 b4 b5 b6 b7 b8 b9 b10 b11
              generalize wr.drew = w9 at *
              go_wp2_with (first
                | (go_at_call 37
                   refine (hcm2.out _).mono ?_
                   rintro e w10 ⟨rfl, B⟩
                   have HB10 := Lib.hid (HBd.out.trans (B.mono HBd.out.size))
                   clear B))
              go_roundw
              case rel => exact ⟨k + 1, by go_num, by omega, HJ2, HB10⟩
              case measure => simp [intOf]; omega
            · have d5 : decide (y ≤ 0) = false := by rw [decide_eq_false_iff_not]; exact hy0
              have HK2 := Lib.hid (HK1.out (by rw [HY.out]; omega))
              clear hy0 HJ1 HK1
              go_upto_region 7 with fail
              go_still_tail 10, (by kernel_rfl)
              change wpList _ _ _ _ _ wr.drew
              clear a0 a1 a2 a3 a4 a5 a6 a7 a8 a9 a10 a11 b0 b1 b2 b3 b4 b5 b6 b7 b8 b9 b10 b11
              generalize wr.drew = w9 at *
              go_upto_region 9 with (first
                | (go_at_call 37
                   refine (hcm2.out _).mono ?_
                   rintro e wz ⟨rfl, B⟩
                   have HBz2 := Lib.hid (HBd.out.trans (B.mono HBd.out.size))
                   clear B))
              clear HY HLK hcm2 HBd HBz HYz HOz RK
              have HOz := Lib.hid (ownK_below HO5.out HBz2.out (Nat.le_refl _))
              have HYz := Lib.hid (HY5.out.below HBz2.out hbx)
              have HNEW := Lib.hid (drop_cells hk (own_cells_at HOz.out rfl))
              have HLN : Hid ((fl rcl (L.drop k)).length = (L.length - k) * 12) := by rw [Hid, fl_len rcl_len, List.length_drop]
              have HBw := Lib.hid (HB5.out.trans (HBz2.out.mono HB5.out.size))
              have hgz := Nat.lt_of_lt_of_le hgl HBz2.out.size
              have k2 : (k : Int) ≤ (L.length : Int) := by omega
              have k3 : (k : Int) ≤ (cL : Int) := by omega
              have k4 : (k : Int) < (cL : Int) := by omega
              have k5 : ¬ (cL = k) := by omega
              go_upto_region 10 with (first
                | (at_builtin
                   refine wpList_append_own _ rfl (.const (.slice none 0 0)) (.tmp 36) _ rfl wz.heap.size 43 ti _ 12 96 Tryd.underlying22 HT.out.1 HT.out.2.1 HT.out.2.2.1 HT.out.2.2.2 rfl (by decide) (.slice none 0 0) 0 [] rfl ⟨rfl, .inl ⟨rfl, rfl⟩⟩ ⟨gL, k * 12, none⟩ (L.length - k) (cL - k) (fl rcl (L.drop k)) rfl HLN.out HNEW.out (rcl_flat_one _) (by unfold maxLen; omega) (by omega) (Nat.le_refl _) ?_
                   intro v7 w7 ho7 hg7 hn7
                   rw [Nat.zero_add, List.nil_append] at ho7
                   have HO7 := Lib.hid ho7
                   have HG7 := Lib.hid hg7
                   have HN7 := Lib.hid hn7
                   clear ho7 hg7 hn7))
              have HOo := Lib.hid (HOz.out.kept HG7.out (.inr (by intro e; cases e)))
              have HY7 := Lib.hid (HYz.out.grown HG7.out (by intro e; cases e))
              have HBw7 := Lib.hid (HBw.out.grown HG7.out HBw.out.size (fun k e => by cases e))
              have hz7 := HG7.out.size
              have HP0 : Hid ((w7.drew.alloc (.cells #[.string xn, .int .u16 xt, .int .u16 xc, .int .u32 xl, .string x0, .string x1, .string x2, .int .u32 y0, .int .u32 y1, .int .u32 y2, .int .u32 y3, .int .u32 y4] 43)).ownsRow w.heap.size 43 12 (.slice (some ⟨gL, 0, none⟩) k cL) (L.take k).length (fl rcl (L.take k))) := (own_drewN (Own.pre rcl_len HOo.out hk) 1).alloc _
              have hlt2 : (L.take k).length ≤ 200 := by rw [List.length_take]; omega
              obtain ⟨v8, w8, hr8, ho8, hg8, _⟩ := run_append_own (P := Tryd.prog) (w7.drew.alloc (.cells #[.string xn, .int .u16 xt, .int .u16 xc, .int .u32 xl, .string x0, .string x1, .string x2, .int .u32 y0, .int .u32 y1, .int .u32 y2, .int .u32 y3, .int .u32 y4] 43)) w.heap.size 22 22 43 ti _ 12 96 Tryd.underlying22 HT.out.1 HT.out.2.1 HT.out.2.2.1 HT.out.2.2.2 rfl (by decide) _ _ _ HP0.out
                ⟨w7.heap.size, 0, none⟩ 1 1 (rcl (⟨xn, xt, xc, xl, ⟨x0, x1, x2, y0, y1, y2, y3, y4⟩⟩ : Rv)) rfl (r5_new w7.drew _ _) (rcl_one (⟨xn, xt, xc, xl, ⟨x0, x1, x2, y0, y1, y2, y3, y4⟩⟩ : Rv)) (by unfold maxLen; omega) (by omega) (by have := HBw7.out.size; simp; omega)
              obtain ⟨g7, c7, cur7, hv7, _, hg7b, hg7l, _, _⟩ := ownK_pos HO7.out (by omega : 0 < L.length - k)
              have HR7 : Hid (w8.ownsRow wz.heap.size 43 12 v7 (L.length - k) (fl rcl (L.drop k))) := ((own_drewN HO7.out 1).alloc (.cells #[.string xn, .int .u16 xt, .int .u16 xc, .int .u32 xl, .string x0, .string x1, .string x2, .int .u32 y0, .int .u32 y1, .int .u32 y2, .int .u32 y3, .int .u32 y4] 43)).kept hg8 (.inr (by rw [hv7]; intro e; injection e with e; have e2 : g7 = gL := e; omega))
              subst hv7
              obtain ⟨v9, w9', hr9, ho9, hg9, _⟩ := run_append_own (P := Tryd.prog) w8 w.heap.size 22 22 43 ti _ 12 96 Tryd.underlying22 HT.out.1 HT.out.2.1 HT.out.2.2.1 HT.out.2.2.2 rfl (by decide) _ _ _ ho8
                ⟨g7, 0, none⟩ (L.length - k) c7 (fl rcl (L.drop k)) HLN.out (own_cells_at HR7.out rfl) (rcl_flat_one _) (by unfold maxLen; omega) (by omega) (by have h1 := HBw7.out.size; have h2 := hg8.size; simp at h2; omega)
              have hb8 : Below w.heap.size w w8 := (HBw7.out.drew.alloc (by show w.heap.size ≤ w7.heap.size; exact HBw7.out.size) _).grown hg8 (by have := HBw7.out.size; simp; omega) (fun q e => by injection e with e; have e2 : gL = q := e; omega)
              have HBF := Lib.hid (hb8.grown hg9 hb8.size (fun q e => (ho8.lt q e).1))
              have HOF : Hid (Own rcl 12 w9' w.heap.size 43 v9 (L.take k ++ [(⟨xn, xt, xc, xl, ⟨x0, x1, x2, y0, y1, y2, y3, y4⟩⟩ : Rv)] ++ L.drop k)) := by
                show w9'.ownsRow _ _ _ _ _ _
                rw [List.length_append, List.length_append, List.length_singleton, fl_append, fl_append, fl_one, List.length_drop]
                exact ho9
              have HR8 := Lib.hid hr8
              have HR9 := Lib.hid hr9
              have HSF := Lib.hid (HINS.out k hk HJ.out HK2.out)
              have b0 : w7.drew.cell? ⟨gx, 0, none⟩ = some (.string xn) := HY7.out.cell 0
              have b1 : w7.drew.cell? ⟨gx, 1, none⟩ = some (.int .u16 xt) := HY7.out.cell 1
              have b2 : w7.drew.cell? ⟨gx, 2, none⟩ = some (.int .u16 xc) := HY7.out.cell 2
              have b3 : w7.drew.cell? ⟨gx, 3, none⟩ = some (.int .u32 xl) := HY7.out.cell 3
              have b4 : w7.drew.cell? ⟨gx, 4, none⟩ = some (.string x0) := HY7.out.cell 4
              have b5 : w7.drew.cell? ⟨gx, 5, none⟩ = some (.string x1) := HY7.out.cell 5
              have b6 : w7.drew.cell? ⟨gx, 6, none⟩ = some (.string x2) := HY7.out.cell 6
              have b7 : w7.drew.cell? ⟨gx, 7, none⟩ = some (.int .u32 y0) := HY7.out.cell 7
              have b8 : w7.drew.cell? ⟨gx, 8, none⟩ = some (.int .u32 y1) := HY7.out.cell 8
              have b9 : w7.drew.cell? ⟨gx, 9, none⟩ = some (.int .u32 y2) := HY7.out.cell 9
              have b10 : w7.drew.cell? ⟨gx, 10, none⟩ = some (.int .u32 y3) := HY7.out.cell 10
              have b11 : w7.drew.cell? ⟨gx, 11, none⟩ = some (.int .u32 y4) := HY7.out.cell 11
              clear hr8 ho8 hr9 hb8 HP0 HOo HY7 HYz HNEW HLN HBw7 HG7 HN7 HO7 HBz2 HJ HK2 HINS HCMP
              go_region_law (first
                | (refine r5_append_run (.tmp 40) (.tmp 42) _ _ rfl _ _ rfl rfl HR8.out ?_)
                | (refine r5_append_run (.tmp 43) (.tmp 44) _ _ rfl _ _ rfl rfl HR9.out ?_))
              all_goals
                go_wp2_with fail
                go_roundw
                case rel => exact ⟨i + 1, _, by go_num, by omega, HSF, HOF, (fun h => absurd h (Nat.succ_ne_zero i)), HBF⟩
                case measure => simp [intOf]; omega
          · obtain rfl : k = L.length := by omega
            have d0 : decide ((L.length : Int) < (L.length : Int)) = false := by rw [decide_eq_false_iff_not]; omega
            have HK2 : Hid (∀ hk : L.length < L.length, 0 < Rr.cmpR L[L.length].fold.rc (Rv.fold (⟨xn, xt, xc, xl, ⟨x0, x1, x2, y0, y1, y2, y3, y4⟩⟩ : Rv)).rc) := fun h => absurd h (Nat.lt_irrefl _)
            clear HYz HOz
            go_upto_region 7 with fail
            go_quiet (fail)
            go_upto_region 9 with fail
            have HBz2 : Hid (Below w5.heap.size w5 (wr.drewN nq)) := below_drewN HBz.out nq
            clear HBz
            generalize wr.drewN nq = wz at *
            by_cases hcl : cL = L.length
            · subst hcl
              have HOz := Lib.hid (ownK_below HO5.out HBz2.out (Nat.le_refl _))
              have HYz := Lib.hid (HY5.out.below HBz2.out hbx)
              have HNEW : Hid (∀ j u, (fl rcl (L.drop L.length))[j]? = some u → wz.cell? ((⟨gL, 0, none⟩ : Addr).add j) = some u) := fun j u hu => by rw [List.drop_length] at hu; cases hu
              have HLN : Hid ((fl rcl (L.drop L.length)).length = 0 * 12) := by rw [Hid, List.drop_length]; rfl
              have HBw := Lib.hid (HB5.out.trans (HBz2.out.mono HB5.out.size))
              have hgz := Nat.lt_of_lt_of_le hgl HBz2.out.size
              have k2 : (L.length : Int) ≤ (L.length : Int) := by omega
              have k3 : (L.length : Int) ≤ (L.length : Int) := by omega
              go_upto_region 10 with (first
                | (at_builtin
                   refine wpList_append_own _ rfl (.const (.slice none 0 0)) (.tmp 36) _ rfl wz.heap.size 43 ti _ 12 96 Tryd.underlying22 HT.out.1 HT.out.2.1 HT.out.2.2.1 HT.out.2.2.2 rfl (by decide) (.slice none 0 0) 0 [] rfl ⟨rfl, .inl ⟨rfl, rfl⟩⟩ ⟨gL, 0, none⟩ 0 0 (fl rcl (L.drop L.length)) rfl HLN.out HNEW.out (rcl_flat_one _) (by unfold maxLen; omega) (by omega) (Nat.le_refl _) ?_
                   intro v7 w7 ho7 hg7 hn7
                   rw [Nat.zero_add, List.nil_append] at ho7
                   have HO7 := Lib.hid ho7
                   have HG7 := Lib.hid hg7
                   have HN7 := Lib.hid hn7
                   clear ho7 hg7 hn7))
              have HOo := Lib.hid (HOz.out.kept HG7.out (.inr (by intro e; cases e)))
              have HY7 := Lib.hid (HYz.out.grown HG7.out (by intro e; cases e))
              have HBw7 := Lib.hid (HBw.out.grown HG7.out HBw.out.size (fun q e => by cases e))
              have hz7 := HG7.out.size
              have HP0 : Hid ((w7.drew.alloc (.cells #[.string xn, .int .u16 xt, .int .u16 xc, .int .u32 xl, .string x0, .string x1, .string x2, .int .u32 y0, .int .u32 y1, .int .u32 y2, .int .u32 y3, .int .u32 y4] 43)).ownsRow w.heap.size 43 12 (.slice (some ⟨gL, 0, none⟩) L.length L.length) (L.take L.length).length (fl rcl (L.take L.length))) := (own_drewN (Own.pre rcl_len HOo.out hk) 1).alloc _
              have hlt2 : (L.take L.length).length ≤ 200 := by rw [List.length_take]; omega
              obtain ⟨v8, w8, hr8, ho8, hg8, _⟩ := run_append_own (P := Tryd.prog) (w7.drew.alloc (.cells #[.string xn, .int .u16 xt, .int .u16 xc, .int .u32 xl, .string x0, .string x1, .string x2, .int .u32 y0, .int .u32 y1, .int .u32 y2, .int .u32 y3, .int .u32 y4] 43)) w.heap.size 22 22 43 ti _ 12 96 Tryd.underlying22 HT.out.1 HT.out.2.1 HT.out.2.2.1 HT.out.2.2.2 rfl (by decide) _ _ _ HP0.out
                ⟨w7.heap.size, 0, none⟩ 1 1 (rcl (⟨xn, xt, xc, xl, ⟨x0, x1, x2, y0, y1, y2, y3, y4⟩⟩ : Rv)) rfl (r5_new w7.drew _ _) (rcl_one (⟨xn, xt, xc, xl, ⟨x0, x1, x2, y0, y1, y2, y3, y4⟩⟩ : Rv)) (by unfold maxLen; omega) (by omega) (by have := HBw7.out.size; simp; omega)
              have hv7 : v7 = .slice none 0 0 := HN7.out.2 ⟨rfl, rfl⟩
              subst hv7
              have hr9 := run_append_owned_none (P := Tryd.prog) (w := w8) w.heap.size 22 22 43 ti 12 Tryd.underlying22 HT.out.1 _ _ _ ho8
              have hb8 : Below w.heap.size w w8 := (HBw7.out.drew.alloc (by show w.heap.size ≤ w7.heap.size; exact HBw7.out.size) _).grown hg8 (by have := HBw7.out.size; simp; omega) (fun q e => by injection e with e; have e2 : gL = q := e; omega)
              have HBF := Lib.hid hb8
              have HOF : Hid (Own rcl 12 w8 w.heap.size 43 v8 (L.take L.length ++ [(⟨xn, xt, xc, xl, ⟨x0, x1, x2, y0, y1, y2, y3, y4⟩⟩ : Rv)] ++ L.drop L.length)) := by
                have e0 : L.drop L.length = [] := List.drop_eq_nil_of_le (by omega)
                show w8.ownsRow _ _ _ _ _ _
                rw [e0, List.append_nil, List.length_append, List.length_singleton, fl_append, fl_one]
                exact ho8
              have HR8 := Lib.hid hr8
              have HR9 := Lib.hid hr9
              have HSF := Lib.hid (HINS.out L.length hk HJ.out HK2.out)
              have b0 : w7.drew.cell? ⟨gx, 0, none⟩ = some (.string xn) := HY7.out.cell 0
              have b1 : w7.drew.cell? ⟨gx, 1, none⟩ = some (.int .u16 xt) := HY7.out.cell 1
              have b2 : w7.drew.cell? ⟨gx, 2, none⟩ = some (.int .u16 xc) := HY7.out.cell 2
              have b3 : w7.drew.cell? ⟨gx, 3, none⟩ = some (.int .u32 xl) := HY7.out.cell 3
              have b4 : w7.drew.cell? ⟨gx, 4, none⟩ = some (.string x0) := HY7.out.cell 4
              have b5 : w7.drew.cell? ⟨gx, 5, none⟩ = some (.string x1) := HY7.out.cell 5
              have b6 : w7.drew.cell? ⟨gx, 6, none⟩ = some (.string x2) := HY7.out.cell 6
              have b7 : w7.drew.cell? ⟨gx, 7, none⟩ = some (.int .u32 y0) := HY7.out.cell 7
              have b8 : w7.drew.cell? ⟨gx, 8, none⟩ = some (.int .u32 y1) := HY7.out.cell 8
              have b9 : w7.drew.cell? ⟨gx, 9, none⟩ = some (.int .u32 y2) := HY7.out.cell 9
              have b10 : w7.drew.cell? ⟨gx, 10, none⟩ = some (.int .u32 y3) := HY7.out.cell 10
              have b11 : w7.drew.cell? ⟨gx, 11, none⟩ = some (.int .u32 y4) := HY7.out.cell 11
              clear hr8 ho8 hr9 hb8 HP0 HOo HY7 HYz HNEW HLN HBw7 HG7 HN7 HO7 HBz2 HJ HK2 HINS HCMP
              go_region_law (first
                | (refine r5_append_run (.tmp 40) (.tmp 42) _ _ rfl _ _ rfl rfl HR8.out ?_)
                | (refine r5_append_run (.tmp 43) (.tmp 44) _ _ rfl _ _ rfl rfl HR9.out ?_))
              all_goals
                go_wp2_with fail
                go_roundw
                case rel => exact ⟨i + 1, _, by go_num, by omega, HSF, HOF, (fun h => absurd h (Nat.succ_ne_zero i)), HBF⟩
                case measure => simp [intOf]; omega
            · have k4 : (L.length : Int) < (cL : Int) := by omega
              have k5 : ¬ (cL = L.length) := hcl
              have HOz := Lib.hid (ownK_below HO5.out HBz2.out (Nat.le_refl _))
              have HYz := Lib.hid (HY5.out.below HBz2.out hbx)
              have HNEW := Lib.hid (drop_cells hk (own_cells_at HOz.out rfl))
              have HLN : Hid ((fl rcl (L.drop L.length)).length = 0 * 12) := by rw [Hid, List.drop_length]; rfl
              have HBw := Lib.hid (HB5.out.trans (HBz2.out.mono HB5.out.size))
              have hgz := Nat.lt_of_lt_of_le hgl HBz2.out.size
              have k2 : (L.length : Int) ≤ (L.length : Int) := by omega
              have k3 : (L.length : Int) ≤ (cL : Int) := by omega
              go_upto_region 10 with (first
                | (at_builtin
                   refine wpList_append_own _ rfl (.const (.slice none 0 0)) (.tmp 36) _ rfl wz.heap.size 43 ti _ 12 96 Tryd.underlying22 HT.out.1 HT.out.2.1 HT.out.2.2.1 HT.out.2.2.2 rfl (by decide) (.slice none 0 0) 0 [] rfl ⟨rfl, .inl ⟨rfl, rfl⟩⟩ ⟨gL, L.length * 12, none⟩ 0 (cL - L.length) (fl rcl (L.drop L.length)) rfl HLN.out HNEW.out (rcl_flat_one _) (by unfold maxLen; omega) (by omega) (Nat.le_refl _) ?_
                   intro v7 w7 ho7 hg7 hn7
                   rw [Nat.zero_add, List.nil_append] at ho7
                   have HO7 := Lib.hid ho7
                   have HG7 := Lib.hid hg7
                   have HN7 := Lib.hid hn7
                   clear ho7 hg7 hn7))
              have HOo := Lib.hid (HOz.out.kept HG7.out (.inr (by intro e; cases e)))
              have HY7 := Lib.hid (HYz.out.grown HG7.out (by intro e; cases e))
              have HBw7 := Lib.hid (HBw.out.grown HG7.out HBw.out.size (fun q e => by cases e))
              have hz7 := HG7.out.size
              have HP0 : Hid ((w7.drew.alloc (.cells #[.string xn, .int .u16 xt, .int .u16 xc, .int .u32 xl, .string x0, .string x1, .string x2, .int .u32 y0, .int .u32 y1, .int .u32 y2, .int .u32 y3, .int .u32 y4] 43)).ownsRow w.heap.size 43 12 (.slice (some ⟨gL, 0, none⟩) L.length cL) (L.take L.length).length (fl rcl (L.take L.length))) := (own_drewN (Own.pre rcl_len HOo.out hk) 1).alloc _
              have hlt2 : (L.take L.length).length ≤ 200 := by rw [List.length_take]; omega
              obtain ⟨v8, w8, hr8, ho8, hg8, _⟩ := run_append_own (P := Tryd.prog) (w7.drew.alloc (.cells #[.string xn, .int .u16 xt, .int .u16 xc, .int .u32 xl, .string x0, .string x1, .string x2, .int .u32 y0, .int .u32 y1, .int .u32 y2, .int .u32 y3, .int .u32 y4] 43)) w.heap.size 22 22 43 ti _ 12 96 Tryd.underlying22 HT.out.1 HT.out.2.1 HT.out.2.2.1 HT.out.2.2.2 rfl (by decide) _ _ _ HP0.out
                ⟨w7.heap.size, 0, none⟩ 1 1 (rcl (⟨xn, xt, xc, xl, ⟨x0, x1, x2, y0, y1, y2, y3, y4⟩⟩ : Rv)) rfl (r5_new w7.drew _ _) (rcl_one (⟨xn, xt, xc, xl, ⟨x0, x1, x2, y0, y1, y2, y3, y4⟩⟩ : Rv)) (by unfold maxLen; omega) (by omega) (by have := HBw7.out.size; simp; omega)
              have hv7 : v7 = .slice none 0 0 := HN7.out.2 ⟨rfl, rfl⟩
              subst hv7
              have hr9 := run_append_owned_none (P := Tryd.prog) (w := w8) w.heap.size 22 22 43 ti 12 Tryd.underlying22 HT.out.1 _ _ _ ho8
              have hb8 : Below w.heap.size w w8 := (HBw7.out.drew.alloc (by show w.heap.size ≤ w7.heap.size; exact HBw7.out.size) _).grown hg8 (by have := HBw7.out.size; simp; omega) (fun q e => by injection e with e; have e2 : gL = q := e; omega)
              have HBF := Lib.hid hb8
              have HOF : Hid (Own rcl 12 w8 w.heap.size 43 v8 (L.take L.length ++ [(⟨xn, xt, xc, xl, ⟨x0, x1, x2, y0, y1, y2, y3, y4⟩⟩ : Rv)] ++ L.drop L.length)) := by
                have e0 : L.drop L.length = [] := List.drop_eq_nil_of_le (by omega)
                show w8.ownsRow _ _ _ _ _ _
                rw [e0, List.append_nil, List.length_append, List.length_singleton, fl_append, fl_one]
                exact ho8
              have HR8 := Lib.hid hr8
              have HR9 := Lib.hid hr9
              have HSF := Lib.hid (HINS.out L.length hk HJ.out HK2.out)
              have b0 : w7.drew.cell? ⟨gx, 0, none⟩ = some (.string xn) := HY7.out.cell 0
              have b1 : w7.drew.cell? ⟨gx, 1, none⟩ = some (.int .u16 xt) := HY7.out.cell 1
              have b2 : w7.drew.cell? ⟨gx, 2, none⟩ = some (.int .u16 xc) := HY7.out.cell 2
              have b3 : w7.drew.cell? ⟨gx, 3, none⟩ = some (.int .u32 xl) := HY7.out.cell 3
              have b4 : w7.drew.cell? ⟨gx, 4, none⟩ = some (.string x0) := HY7.out.cell 4
              have b5 : w7.drew.cell? ⟨gx, 5, none⟩ = some (.string x1) := HY7.out.cell 5
              have b6 : w7.drew.cell? ⟨gx, 6, none⟩ = some (.string x2) := HY7.out.cell 6
              have b7 : w7.drew.cell? ⟨gx, 7, none⟩ = some (.int .u32 y0) := HY7.out.cell 7
              have b8 : w7.drew.cell? ⟨gx, 8, none⟩ = some (.int .u32 y1) := HY7.out.cell 8
              have b9 : w7.drew.cell? ⟨gx, 9, none⟩ = some (.int .u32 y2) := HY7.out.cell 9
              have b10 : w7.drew.cell? ⟨gx, 10, none⟩ = some (.int .u32 y3) := HY7.out.cell 10
              have b11 : w7.drew.cell? ⟨gx, 11, none⟩ = some (.int .u32 y4) := HY7.out.cell 11
              clear hr8 ho8 hr9 hb8 HP0 HOo HY7 HYz HNEW HLN HBw7 HG7 HN7 HO7 HBz2 HJ HK2 HINS HCMP
              go_region_law (first
                | (refine r5_append_run (.tmp 40) (.tmp 42) _ _ rfl _ _ rfl rfl HR8.out ?_)
                | (refine r5_append_run (.tmp 43) (.tmp 44) _ _ rfl _ _ rfl rfl HR9.out ?_))
              all_goals
                go_wp2_with fail
                go_roundw
                case rel => exact ⟨i + 1, _, by go_num, by omega, HSF, HOF, (fun h => absurd h (Nat.succ_ne_zero i)), HBF⟩
                case measure => simp [intOf]; omega
    · obtain rfl : i = l.length := by omega
      have hsr := HSR.out
      rw [List.take_length] at hsr
      have HSF := Lib.hid hsr
      clear hsr
      go_wp2_with fail
      go_ret
      exact ⟨_, L, rfl, HSF.out, HO.out, HB.out⟩
end Go.Proofs.YtmieakkhpkclpaaDoor
