/- Merged: CaOwn CaLife CaBox CaTtl CaLif. -/
import Derived.Test.YtnhoaceickojeaaCaA
import Derived.Test.YtnhoaceickojeaaMgCat
import Derived.Deep.CutRange
import Derived.Deep.MidRow
import Derived.Deep.RegionHeld3
/- A row of records of one's own: a cell is read, a cell is written. Nothing of the program but the types. -/
namespace Go.Proofs.Ytnhoaceickojeaa.Ca
open Go.RowKit

theorem fl_set {α : Type} {enc : α → List Value} {k : Nat} (hk : ∀ x, (enc x).length = k) (xs : List α) {j i : Nat} (hj : j < xs.length) (hi : i < k) (x' : α) (u : Value) (hx : enc x' = (enc xs[j]).set i u) : fl enc (xs.set j x') = (fl enc xs).set (j * k + i) u := by
  have h0 : 0 < k := by omega
  apply List.ext_getElem?
  intro t
  by_cases ht : t < xs.length * k
  · obtain ⟨q, r, hr, rfl⟩ : ∃ q r, r < k ∧ t = q * k + r := ⟨t / k, t % k, Nat.mod_lt _ h0, by rw [Nat.mul_comm]; exact (Nat.div_add_mod t k).symm⟩
    have hq : q < xs.length := by
      rcases Nat.lt_or_ge q xs.length with h | h
      · exact h
      · have := Nat.mul_le_mul_right k h; omega
    rw [fl_get hk _ (by simpa using hq) hr, List.getElem?_set, List.getElem_set]
    by_cases e : j = q
    · subst e
      rw [if_pos rfl, hx, List.getElem?_set]
      by_cases e2 : i = r
      · subst e2
        rw [if_pos rfl, if_pos rfl, if_pos (by rw [hk]; exact hi), if_pos (by rw [fl_len hk]; exact ht)]
      · rw [if_neg e2, if_neg (by omega), fl_get hk _ hq hr]
    · rw [if_neg e, if_neg, fl_get hk _ hq hr]
      intro e2
      apply e
      rcases Nat.lt_trichotomy j q with h | h | h
      · have := Nat.mul_le_mul_right k (show j + 1 ≤ q from h)
        rw [Nat.add_mul, Nat.one_mul] at this
        omega
      · exact h
      · have := Nat.mul_le_mul_right k (show q + 1 ≤ j from h)
        rw [Nat.add_mul, Nat.one_mul] at this
        omega
  · rw [List.getElem?_eq_none (by rw [fl_len hk]; simp; omega), List.getElem?_eq_none (by rw [List.length_set, fl_len hk]; omega)]
section
variable {w : World} {base : Nat} {e : TypeId} {g n c : Nat} {xs : List Rv}
theorem own_cell (h : Own rcl 12 w base e (.slice (some ⟨g, 0, none⟩) n c) xs) {k i : Nat} (hk : k < xs.length) (hi : i < 12) : w.cell? ⟨g, k * 12 + i, none⟩ = (rcl xs[k])[i]? ∧ w.frozen? ⟨g, k * 12 + i, none⟩ = false := by
  obtain ⟨g', cp, cur, hv, hc, hb, hlt, hg, ht⟩ := ownK_pos h (by omega)
  injection hv with hv _ _
  injection hv with hv
  injection hv with hv
  subst hv
  refine ⟨?_, frozen_of_row w g _ cur e hg⟩
  rw [cell_of_row w g _ cur e (0, 0) hg, ← fl_get rcl_len xs hk hi]
  obtain ⟨u, hu⟩ : ∃ u, (fl rcl xs)[k * 12 + i]? = some u := by
    have : k * 12 + i < (fl rcl xs).length := by rw [fl_len rcl_len]; omega
    exact ⟨_, List.getElem?_eq_getElem this⟩
  rw [hu]
  exact take_at ht hu
/-- one cell of a record is written. -/
theorem own_set (h : Own rcl 12 w base e (.slice (some ⟨g, 0, none⟩) n c) xs) {k i : Nat} (hk : k < xs.length) (hi : i < 12) (r : Rv) (u : Value) (hr : rcl r = (rcl xs[k]).set i u) :
    Own rcl 12 (w.setCell ⟨g, k * 12 + i, none⟩ u) base e (.slice (some ⟨g, 0, none⟩) n c) (xs.set k r) := by
  obtain ⟨h1, h2⟩ := h
  have hfs := fl_set rcl_len xs hk hi r u hr
  refine ⟨by rw [fl_len rcl_len], ?_⟩
  rcases h2 with ⟨hv, _⟩ | ⟨g', cp, cur, hv, hb, hg, hc, hm, hcs, ht⟩
  · cases hv
  · injection hv with hv hn hcp
    injection hv with hv
    injection hv with hv
    subst hv hcp
    refine .inr ⟨g, c, cur.setIfInBounds (k * 12 + i) u, by rw [List.length_set, hn], hb, heap_setCell_same w g _ cur e u hg, by rw [List.length_set]; exact hc, hm, by simpa using hcs, ?_⟩
    rw [hfs, ← ht, List.length_set, Array.toList_setIfInBounds, List.take_set]
end
/-- where a slice is nil it has no room. -/
theorem own_nil {w : World} {base : Nat} {e : TypeId} {A : Option Addr} {n c : Nat} {xs : List Rv} (h : Own rcl 12 w base e (.slice A n c) xs) : A = none → c = 0 := fun hA => by
  rcases h.2 with ⟨hv, _⟩ | ⟨g', cp, cur, hv, _⟩
  · injection hv
  · injection hv with hv; rw [hA] at hv; cases hv
theorem own_pos_form {w : World} {base : Nat} {e : TypeId} {v : Value} {xs : List Rv} (h : Own rcl 12 w base e v xs) (h0 : 0 < xs.length) : ∃ g c, v = .slice (some ⟨g, 0, none⟩) xs.length c ∧ xs.length ≤ c ∧ base ≤ g ∧ g < w.heap.size := by
  obtain ⟨g, cp, cur, hv, hc, hb, hlt, _⟩ := ownK_pos h h0
  exact ⟨g, cp, hv, hc, hb, hlt⟩
/-- a list that is turned, one behind the other. -/
def turn {α : Type} (f : α → α) (xs : List α) (k : Nat) : List α := (xs.take k).map f ++ xs.drop k
section
variable {α : Type} {f : α → α} {xs : List α} {k : Nat}
theorem turn_len : (turn f xs k).length = xs.length := by unfold turn; rw [List.length_append, List.length_map, List.length_take, List.length_drop]; omega
theorem turn_zero : turn f xs 0 = xs := rfl
theorem turn_all : turn f xs xs.length = xs.map f := by unfold turn; rw [List.take_length, List.drop_length, List.append_nil]
theorem turn_at (hk : k < xs.length) : (turn f xs k)[k]'(by rw [turn_len]; exact hk) = xs[k] := by
  unfold turn
  rw [List.getElem_append_right (by simp; omega)]
  simp [Nat.min_eq_left (Nat.le_of_lt hk)]
theorem turn_succ (hk : k < xs.length) : (turn f xs k).set k (f xs[k]) = turn f xs (k + 1) := by
  unfold turn
  have hl : ((xs.take k).map f).length = k := by rw [List.length_map, List.length_take]; omega
  rw [List.set_append_right _ _ (by omega), hl, Nat.sub_self, List.drop_eq_getElem_cons hk, List.set_cons_zero, List.take_succ_eq_append_getElem hk, List.map_append, List.append_assoc]
  rfl
end
end Go.Proofs.Ytnhoaceickojeaa.Ca
/- For how long an answer may be told: the program's. -/
namespace Go.Proofs.Ytnhoaceickojeaa.Ca
open Go.RowKit

/-- an answer as it lies in memory. -/
structure Aw where
  a : Av
  A1 : Option Addr
  c1 : Nat
  A2 : Option Addr
  c2 : Nat
  A3 : Option Addr
  c3 : Nat
namespace Aw
def cells (x : Aw) : Array Value := #[.int .u16 (x.a.rc : Int), .bool x.a.aa, .slice x.A1 x.a.an.length x.c1, .slice x.A2 x.a.au.length x.c2, .slice x.A3 x.a.ex.length x.c3]
def val (x : Aw) : Value := .agg x.cells
structure lies (x : Aw) (w : World) : Prop where
  s1 : Srow rcl 12 w 0 w.heap.size x.A1 x.a.an
  s2 : Srow rcl 12 w 0 w.heap.size x.A2 x.a.au
  s3 : Srow rcl 12 w 0 w.heap.size x.A3 x.a.ex
  n1 : x.A1 = none → x.c1 = 0
  n2 : x.A2 = none → x.c2 = 0
  n3 : x.A3 = none → x.c3 = 0
theorem lies.below {x : Aw} {w w' : World} (h : x.lies w) (hb : Below w.heap.size w w') : x.lies w' :=
  ⟨(h.s1.keep hb).more (Nat.le_refl _) hb.size, (h.s2.keep hb).more (Nat.le_refl _) hb.size, (h.s3.keep hb).more (Nat.le_refl _) hb.size, h.n1, h.n2, h.n3⟩
end Aw
/-- no more records than a statement looks at; no name too long. -/
structure Av.few (a : Av) : Prop where
  l1 : a.an.length ≤ 1000
  l2 : a.au.length ≤ 1000
  l3 : a.ex.length ≤ 1000
  nm : ∀ r ∈ a.recs, r.nm.size ≤ 140737488355328
theorem counted_any (n : Nat) (w : World) : Calls Try.prog 60 #[.int .u32 (n : Int)] w fun e w' => e = .returned (.int .u32 (cnt n : Nat)) ∧ w = w' := by
  by_cases h : 2147483647 < n
  · have h1 : decide ((2147483647 : Int) < (n : Int)) = true := decide_eq_true (by omega)
    have hc : cnt n = 0 := by unfold cnt; rw [if_pos h]
    have HC := Lib.hid hc
    clear h hc
    go_enter Try.func60, Try.ntmps60
    go_wp2
    go_ret
    exact ⟨by rw [HC.out]; rfl, rfl⟩
  · have h1 : decide ((2147483647 : Int) < (n : Int)) = false := decide_eq_false (by omega)
    have hc : cnt n = n := by unfold cnt; rw [if_neg h]
    have HC := Lib.hid hc
    clear h hc
    go_enter Try.func60, Try.ntmps60
    go_wp2
    go_ret
    exact ⟨by rw [HC.out]; rfl, rfl⟩
def cntR (r : Rv) : Rv := { r with ttl := cnt r.ttl }
theorem rcl_ttl (r : Rv) (t : Nat) : rcl { r with ttl := t } = (rcl r).set 3 (.int .u32 (t : Int)) := rfl
end Go.Proofs.Ytnhoaceickojeaa.Ca
/- The least TTL; a struct that is given to a variable of its own. -/
namespace Go.Proofs.Ytnhoaceickojeaa.Ca
open Go.RowKit

theorem least_map_take {l : List Nat} {i : Nat} (hi : i < l.length) : Rr.least (l.take (i + 1)) = if i = 0 then l[i] else min (Rr.least (l.take i)) l[i] := by
  rw [List.take_succ_eq_append_getElem hi, Rr.least_snoc]
  by_cases h : i = 0
  · subst h; simp
  · rw [if_neg h, if_neg]
    intro e
    have := congrArg List.length e
    rw [List.length_take, List.length_nil] at this
    omega
theorem rv_ttl {W : World} {g : Nat} {r : Rv} {t : TypeId} (h : Has W g t r.cells) : W.cell? ⟨g, 3, none⟩ = some (.int .u32 (r.ttl : Int)) := by rw [h.cell]; rfl
theorem rv_ty {W : World} {g : Nat} {r : Rv} {t : TypeId} (h : Has W g t r.cells) : W.cell? ⟨g, 1, none⟩ = some (.int .u16 (r.ty : Int)) := by rw [h.cell]; rfl
theorem rv_n4 {W : World} {g : Nat} {r : Rv} {t : TypeId} (h : Has W g t r.cells) : W.cell? ⟨g, 11, none⟩ = some (.int .u32 (r.d.n4 : Int)) := by rw [h.cell]; rfl
theorem rv_one (r : Rv) : (r.cells.all fun x => x.oneCell') = true := by simp [Rv.cells, Value.oneCell']
theorem grown_none {w w2 : World} (h : w.grownBy w2 none) {B : Nat} {a : World} (hb : Below B a w) (hB : B ≤ w.heap.size) : Below B a w2 := hb.grown h hB (fun k e => by cases e)
section
variable {P : Program} {w : World} {ops : Array Oper} {rest : List Oper} {op : Oper} {a : Act} {Q : Exit → Act → World → Prop}
theorem wpList_store_boxed (hgd : op.guard = none) (ty : TypeId) (x y : Operand) (ho : op.op = .store ty x y) (t : TypeId) (z cells : Array Value)
    (hx : a.eval x = .pointer (some ⟨w.heap.size, 0, none⟩)) (hy : a.eval y = .agg cells) (hi : (P.info? ty).map (·.size) = some cells.size) (hold : z.size = cells.size) (h1 : cells.all (·.oneCell') = true)
    (h : ∀ w2, Has w2 w.heap.size t cells → w.grownBy w2 none → w2.heap.size = w.heap.size + 1 → wpList P ops Q rest (a.put op.dst undef) w2) : wpList P ops Q (op :: rest) a (w.alloc (.cells z t)) := by
  have hF := Has.fresh w t z
  refine wpList_store_row hgd ty x y ho w.heap.size cells hx hy t z hF hi hold h1 ?_
  refine h _ (hF.row cells) ⟨rfl, rfl, rfl, by simp, fun k hk _ => ?_⟩ (by simp)
  rw [setRow_other _ _ _ _ (by omega)]
  exact heap_alloc_old w _ hk
end
set_option maxHeartbeats 2000000 in
set_option maxRecDepth 100000 in
theorem least_any (rs : List Rv) (A : Option Addr) (c : Nat) (w : World) (hS : Srow rcl 12 w 0 w.heap.size A rs) (hn : rs.length ≤ 4294967296) :
    Calls Try.prog 61 #[.slice A rs.length c] w fun e w' => e = .returned (.int .u32 (Rr.least (rs.map Rv.ttl) : Nat)) ∧ Below w.heap.size w w' := by
  have HS := Lib.hid hS
  clear hS
  obtain ⟨R, hR⟩ : ∃ R, Rr.least (rs.map Rv.ttl) = R := ⟨_, rfl⟩
  rw [hR]
  have HR := Lib.hid hR
  clear hR
  have hi12 : (Try.prog.info? 50).map (·.size) = some 12 := by kernel_rfl
  have HI := Lib.hid hi12
  clear hi12
  go_enter Try.func61, Try.ntmps61
  go_wp2
  go_loopw [3, 8] (fun l i wr => ∃ k m : Nat, i = .int .i64 k ∧ l = .int .u32 m ∧ k ≤ rs.length ∧ Hid (m = Rr.least ((rs.map Rv.ttl).take k)) ∧ Hid (Below w.heap.size w wr)) (fun _ i _ => rs.length - (intOf i).toNat)
  case atStart => exact ⟨0, 0, rfl, rfl, by omega, rfl, Below.refl _ _⟩
  case round =>
    obtain ⟨k, m, rfl, rfl, hk, HM, HB⟩ := hrel
    have hz := HB.out.size
    by_cases hlt : k < rs.length
    · obtain ⟨g, o, rfl, _, hg, hc⟩ := HS.out.at_ hlt
      have hc2 := Lib.hid (range_below HB.out hg hc)
      have hst := least_map_take (l := rs.map Rv.ttl) (i := k) (by simpa using hlt)
      have e1 : (rs.map Rv.ttl)[k]'(by simpa using hlt) = rs[k].ttl := by simp
      rw [e1, ← HM.out] at hst
      have HST := Lib.hid hst
      clear hc hst e1
      generalize rs[k] = rk at *
      by_cases h0 : k = 0
      · subst h0
        go_wp2_with (first
          | (refine wpList_load_mid rfl 50 (.tmp 11) rfl g _ rfl (rcl rk) _ hc2.out Try.underlying50 rfl HI.out ?_)
          | (refine wpList_store_boxed rfl 50 (.tmp 5) (.tmp 12) rfl 50 _ rk.cells rfl rfl HI.out rfl (rv_one rk) ?_; intro w2 hY g2 hs2; have c3 := rv_ttl hY; have HB2 := Lib.hid (grown_none g2 HB.out (by omega)); clear hY g2))
        go_roundw
        case rel => exact ⟨1, rk.ttl, by go_num, rfl, by omega, by rw [Hid, HST.out, if_pos rfl], HB2⟩
        case measure => simp [intOf]; omega
      · have h1 : ((k : Int) == 0) = false := beq_eq_false_iff_ne.2 (by omega)
        by_cases hl : rk.ttl < m
        · have h2 : decide ((rk.ttl : Int) < (m : Int)) = true := by simp; omega
          go_wp2_with (first
            | (refine wpList_load_mid rfl 50 (.tmp 11) rfl g _ rfl (rcl rk) _ hc2.out Try.underlying50 rfl HI.out ?_)
            | (refine wpList_store_boxed rfl 50 (.tmp 5) (.tmp 12) rfl 50 _ rk.cells rfl rfl HI.out rfl (rv_one rk) ?_; intro w2 hY g2 hs2; have c3 := rv_ttl hY; have HB2 := Lib.hid (grown_none g2 HB.out (by omega)); clear hY g2))
          go_roundw
          case rel => exact ⟨k + 1, rk.ttl, by go_num, rfl, by omega, by rw [Hid, HST.out, if_neg h0]; omega, HB2⟩
          case measure => simp [intOf]; omega
        · have h2 : decide ((rk.ttl : Int) < (m : Int)) = false := by simp; omega
          go_wp2_with (first
            | (refine wpList_load_mid rfl 50 (.tmp 11) rfl g _ rfl (rcl rk) _ hc2.out Try.underlying50 rfl HI.out ?_)
            | (refine wpList_store_boxed rfl 50 (.tmp 5) (.tmp 12) rfl 50 _ rk.cells rfl rfl HI.out rfl (rv_one rk) ?_; intro w2 hY g2 hs2; have c3 := rv_ttl hY; have HB2 := Lib.hid (grown_none g2 HB.out (by omega)); clear hY g2))
          go_roundw
          case rel => exact ⟨k + 1, m, by go_num, rfl, by omega, by rw [Hid, HST.out, if_neg h0]; omega, HB2⟩
          case measure => simp [intOf]; omega
    · obtain rfl : k = rs.length := by omega
      go_wp2
      go_ret
      exact ⟨by rw [HM.out, List.take_of_length_le (by simp), HR.out]; rfl, HB.out⟩
end Go.Proofs.Ytnhoaceickojeaa.Ca
/- The least TTL of an answer, what an SOA allows, and an answer's life: the program's. -/
namespace Go.Proofs.Ytnhoaceickojeaa.Ca
open Go.RowKit

set_option maxHeartbeats 1000000 in
set_option maxRecDepth 100000 in
theorem leastTTL_any (x : Aw) (w : World) (h : x.lies w) (hf : x.a.few) :
    Calls Try.prog 49 #[x.val] w fun e w' => e = .returned (.int .u32 (leastT x.a : Nat)) ∧ Below w.heap.size w w' := by
  obtain ⟨⟨rc, aa, an, us, es⟩, aA, ac, uA, uc, eA, ec⟩ := x
  obtain ⟨h1, h2, h3, _, _, _⟩ := h
  obtain ⟨l1, l2, l3, _⟩ := hf
  dsimp only at h1 h2 h3 l1 l2 l3
  have hall : catR [(aA, ac, an), (uA, uc, us), (eA, ec, es)] = an ++ (us ++ es) := by simp [catR]
  obtain ⟨L, hL⟩ : ∃ L, leastT ⟨rc, aa, an, us, es⟩ = L := ⟨_, rfl⟩
  have hlen : (an ++ (us ++ es)).length ≤ 3000 := by simp; omega
  have HC : Hid (∀ (W : World) (g : Nat), g < W.heap.size → Below w.heap.size w W → W.cell? ⟨g, 0, none⟩ = some (.slice aA an.length ac) → W.cell? ⟨g, 1, none⟩ = some (.slice uA us.length uc) → W.cell? ⟨g, 2, none⟩ = some (.slice eA es.length ec) →
      Calls Try.prog 59 #[.slice (some ⟨g, 0, none⟩) 3 3] W fun e w' => ∃ v, e = .returned v ∧ Own rcl 12 w' W.heap.size 50 v (an ++ (us ++ es)) ∧ Below W.heap.size W w') := fun W g hg hB c0 c1 c2 => by
    have h := concatR_any g [(aA, ac, an), (uA, uc, us), (eA, ec, es)] W hg (fun j hj => by
      rcases j with _ | _ | _ | j
      · exact c0
      · exact c1
      · exact c2
      · simp at hj; omega) (fun j hj => by
      rcases j with _ | _ | _ | j
      · exact (h1.keep hB).more (Nat.le_refl _) hB.size
      · exact (h2.keep hB).more (Nat.le_refl _) hB.size
      · exact (h3.keep hB).more (Nat.le_refl _) hB.size
      · simp at hj; omega) (by rw [hall]; omega) (by simp)
    rw [hall] at h
    exact h
  have HLn := Lib.hid hlen
  have HL : Hid (Rr.least (((an ++ (us ++ es)).map cntR).map Rv.ttl) = L) := by rw [Hid, ← hL, List.map_map]; rfl
  rw [hL]
  clear h1 h2 h3 hall l1 l2 l3 hlen hL
  obtain ⟨R, hR⟩ : ∃ R, an ++ (us ++ es) = R := ⟨_, rfl⟩
  rw [hR] at HC HLn HL
  clear hR
  obtain ⟨na, hna⟩ : ∃ n, an.length = n := ⟨_, rfl⟩
  obtain ⟨nu, hnu⟩ : ∃ n, us.length = n := ⟨_, rfl⟩
  obtain ⟨ne, hne⟩ : ∃ n, es.length = n := ⟨_, rfl⟩
  rw [hna, hnu, hne] at HC
  unfold Aw.val Aw.cells
  dsimp only
  rw [hna, hnu, hne]
  have HB1 := Lib.hid ((Below.refl w.heap.size w).alloc (Nat.le_refl _) (.cells #[.int .u16 rc, .bool aa, .slice aA na ac, .slice uA nu uc, .slice eA ne ec] 38))
  have HB2 := Lib.hid (HB1.out.alloc (by simp) (.cells #[.slice aA na ac, .slice uA nu uc, .slice eA ne ec] 36))
  have hn2 : Has ((w.alloc (.cells #[.int .u16 rc, .bool aa, .slice aA na ac, .slice uA nu uc, .slice eA ne ec] 38)).alloc (.cells #[.slice aA na ac, .slice uA nu uc, .slice eA ne ec] 36)) (w.heap.size + 1) 36 #[.slice aA na ac, .slice uA nu uc, .slice eA ne ec] := by
    have h := Has.fresh (w.alloc (.cells #[.int .u16 rc, .bool aa, .slice aA na ac, .slice uA nu uc, .slice eA ne ec] 38)) 36 #[.slice aA na ac, .slice uA nu uc, .slice eA ne ec]
    simpa only [World.size_alloc] using h
  have HN2 := Lib.hid hn2
  clear hn2 hna hnu hne
  go_enter Try.func49, Try.ntmps49
  go_upto_region 2 with (go_at_call 59; refine (HC.out _ _ HN2.out.lt HB2.out (HN2.out.cell 0) (HN2.out.cell 1) (HN2.out.cell 2)).mono ?_; rintro e w3 ⟨v, rfl, O3, B3⟩; have HO3 := Lib.hid (own_mono O3 (b' := w.heap.size) (by simp; omega)); have HB3 := Lib.hid (HB2.out.trans (B3.mono HB2.out.size)); clear O3 B3)
  obtain ⟨ad, cp, rfl, hcp⟩ := ownK_form HO3.out
  obtain ⟨n, hn⟩ : ∃ n, R.length = n := ⟨_, rfl⟩
  rw [hn] at HLn hcp ⊢
  have HN := Lib.hid hn
  have HO4 : Hid (Own rcl 12 w3 w.heap.size 50 (.slice ad n cp) R) := by rw [Hid, ← hn]; exact HO3.out
  clear HO3
  have hle := HLn.out
  clear hn
  go_wp2
  go_loopw [15] (fun i wr => ∃ k : Nat, i = .int .i64 k ∧ k ≤ n ∧ Hid (Own rcl 12 wr w.heap.size 50 (.slice ad n cp) (turn cntR R k)) ∧ Hid (Below w.heap.size w wr)) (fun i _ => n - (intOf i).toNat)
  case atStart => exact ⟨0, rfl, Nat.zero_le _, by rw [turn_zero]; exact HO4.out, HB3.out⟩
  case round =>
    obtain ⟨k, rfl, hk, HO, HB⟩ := hrel
    by_cases hlt : k < n
    · have hkR : k < R.length := by rw [HN.out]; exact hlt
      have hkT : k < (turn cntR R k).length := by rw [turn_len]; exact hkR
      obtain ⟨g, c', hv, _, hg1, hg2⟩ := own_pos_form HO.out (by omega)
      injection hv with hv q1 q2
      clear q1 q2
      subst hv
      have hc := own_cell HO.out hkT (i := 3) (by omega)
      have hO2 := own_set HO.out hkT (i := 3) (by omega) (cntR R[k]) (.int .u32 (cnt R[k].ttl : Int)) (by rw [turn_at hkR]; rfl)
      rw [turn_succ hkR] at hO2
      rw [turn_at hkR] at hc
      have hc1 : wr.cell? ⟨g, k * 12 + 3, none⟩ = some (.int .u32 (R[k].ttl : Int)) := hc.1
      have hc2 := hc.2
      have HB2 := Lib.hid (HB.out.setCell (p := ⟨g, k * 12 + 3, none⟩) hg1 (.int .u32 (cnt R[k].ttl : Int)))
      have HO2 := Lib.hid hO2
      clear hc hO2 hg1 hg2
      obtain ⟨t, ht⟩ : ∃ t, R[k].ttl = t := ⟨_, rfl⟩
      rw [ht] at hc1 HB2 HO2
      clear ht hkT hkR
      have HCt := Lib.hid (fun W => counted_any t W)
      generalize cnt t = t' at *
      go_wp2_with (go_at_call 60; refine (HCt.out _).mono ?_; rintro e w' ⟨rfl, rfl⟩)
      go_roundw
      case rel => exact ⟨k + 1, by go_num, by omega, HO2.out, HB2.out⟩
      case measure => simp [intOf]; omega
    · obtain rfl : k = n := by omega
      have hO := HO.out
      rw [← HN.out, turn_all, HN.out] at hO
      obtain ⟨A9, c9, hv9, _, hS9⟩ := hO.srow rcl_len
      injection hv9 with hv9 hl9 hc9
      subst hv9 hc9
      have hS := hS9.more (Nat.zero_le _) (Nat.le_refl _)
      have HLe := least_any (R.map cntR) ad cp wr hS (by rw [List.length_map, HN.out]; omega)
      rw [HL.out, ← hl9] at HLe
      have HLe := Lib.hid HLe
      clear hO hl9 hS9 hS
      go_wp2_with (go_at_call 61; refine HLe.out.mono ?_; rintro e w4 ⟨rfl, hb4⟩; have HB4 := Lib.hid (HB.out.trans (hb4.mono HB.out.size)); clear hb4)
      go_ret
      exact ⟨rfl, HB4.out⟩
end Go.Proofs.Ytnhoaceickojeaa.Ca
/- What an SOA allows, and an answer's life: the program's. -/
namespace Go.Proofs.Ytnhoaceickojeaa.Ca
open Go.RowKit

theorem keep_cell {W W' : World} (hb : Below W.heap.size W W') {b o : Nat} {v : Value} (h : W.cell? ⟨b, o, none⟩ = some v) : W'.cell? ⟨b, o, none⟩ = some v := (hb.cell (p := ⟨b, o, none⟩) (World.block_lt_of_cell? _ _ h)).trans h
theorem keep_below {w W W' : World} (hb : Below W.heap.size W W') {B : Nat} (h : Below B w W) (hB : B ≤ w.heap.size) : Below B w W' := h.trans (hb.mono (Nat.le_trans hB h.size))
set_option maxHeartbeats 1000000 in
set_option maxRecDepth 100000 in
theorem minimum_any (rs : List Rv) (A : Option Addr) (c : Nat) (w : World) (hS : Srow rcl 12 w 0 w.heap.size A rs) (hn : rs.length ≤ 1000) :
    Calls Try.prog 50 #[.slice A rs.length c] w fun e w' => e = .returned (.int .u32 (soa rs : Nat)) ∧ Below w.heap.size w w' := by
  have HS := Lib.hid hS
  clear hS
  obtain ⟨R, hR⟩ : ∃ R, soa rs = R := ⟨_, rfl⟩
  rw [hR]
  have HR := Lib.hid hR
  clear hR
  have hi12 : (Try.prog.info? 50).map (·.size) = some 12 := by kernel_rfl
  have HI := Lib.hid hi12
  clear hi12
  go_enter Try.func50, Try.ntmps50
  go_wp2
  go_loopw [7] (fun i wr => ∃ k : Nat, i = .int .i64 k ∧ k ≤ rs.length ∧ Hid (soa (rs.drop k) = R) ∧ Hid (Below w.heap.size w wr)) (fun i _ => rs.length - (intOf i).toNat)
  case atStart => exact ⟨0, rfl, by omega, HR.out, Below.refl _ _⟩
  case round =>
    obtain ⟨k, rfl, hk, HM, HB⟩ := hrel
    have hz := HB.out.size
    by_cases hlt : k < rs.length
    · obtain ⟨g, o, rfl, _, hg, hc⟩ := HS.out.at_ hlt
      have hc2 := Lib.hid (range_below HB.out hg hc)
      have hst : (if rs[k].ty = 6 then cnt rs[k].d.n4 else soa (rs.drop (k + 1))) = R := by
        rw [← HM.out, List.drop_eq_getElem_cons hlt]
        rfl
      have HST := Lib.hid hst
      clear hc hst
      generalize rs[k] = rk at *
      by_cases h6 : rk.ty = 6
      · have h1 : ((rk.ty : Int) == 6) = true := by simp [h6]
        have hR : cnt rk.d.n4 = R := by have := HST.out; rw [if_pos h6] at this; exact this
        have HC := Lib.hid (fun W => counted_any rk.d.n4 W)
        rw [hR] at HC
        clear hR h6
        go_wp2_with (first
          | (refine wpList_load_mid rfl 50 (.tmp 9) rfl g _ rfl (rcl rk) _ hc2.out Try.underlying50 rfl HI.out ?_)
          | (refine wpList_store_boxed rfl 50 (.tmp 4) (.tmp 10) rfl 50 _ rk.cells rfl rfl HI.out rfl (rv_one rk) ?_; intro w2 hY g2 hs2; have c1 := rv_ty hY; have c11 := rv_n4 hY; have HB2 := Lib.hid (grown_none g2 HB.out (by omega)); clear hY g2)
          | (go_at_call 60; refine (HC.out _).mono ?_; rintro e w' ⟨rfl, rfl⟩))
        go_ret
        exact ⟨rfl, HB2.out⟩
      · have h1 : ((rk.ty : Int) == 6) = false := beq_eq_false_iff_ne.2 (by omega)
        have hR : Hid (soa (rs.drop (k + 1)) = R) := by have := HST.out; rw [if_neg h6] at this; exact this
        clear h6
        go_wp2_with (first
          | (refine wpList_load_mid rfl 50 (.tmp 9) rfl g _ rfl (rcl rk) _ hc2.out Try.underlying50 rfl HI.out ?_)
          | (refine wpList_store_boxed rfl 50 (.tmp 4) (.tmp 10) rfl 50 _ rk.cells rfl rfl HI.out rfl (rv_one rk) ?_; intro w2 hY g2 hs2; have c1 := rv_ty hY; have HB2 := Lib.hid (grown_none g2 HB.out (by omega)); clear hY g2))
        go_roundw
        case rel => exact ⟨k + 1, by go_num, by omega, hR, HB2⟩
        case measure => simp [intOf]; omega
    · obtain rfl : k = rs.length := by omega
      have hR : R = 0 := by have := HM.out; rw [List.drop_length] at this; exact this.symm
      subst hR
      go_wp2
      go_ret
      exact ⟨rfl, HB.out⟩
theorem min_w {L M : Nat} (h : L ≤ 2147483647) : IntKind.i64.wrap (if M < L then (M : Int) else (L : Int)) = ((min L M : Nat) : Int) := by
  rw [IntKind.wrap_i64]
  by_cases hm : M < L
  · rw [if_pos hm, Nat.min_eq_right (by omega)]; omega
  · rw [if_neg hm, Nat.min_eq_left (by omega)]; omega
theorem life_if (rc : Nat) (aa : Bool) (an us es : List Rv) : life ⟨rc, aa, an, us, es⟩ = if rc = 0 ∧ 0 < an.length then leastT ⟨rc, aa, an, us, es⟩ else if rc = 0 ∨ rc = 3 then min (leastT ⟨rc, aa, an, us, es⟩) (soa us) else 0 := by
  by_cases hh : rc = 0 ∧ 0 < an.length
  · rw [if_pos hh]
    unfold life
    rw [if_pos ⟨hh.1, List.length_pos_iff.1 hh.2⟩]
  · rw [if_neg hh]
    unfold life
    rw [if_neg fun e => hh ⟨e.1, List.length_pos_iff.2 e.2⟩]
set_option maxHeartbeats 1000000 in
set_option maxRecDepth 100000 in
theorem life_any (x : Aw) (w : World) (h : x.lies w) (hf : x.a.few) :
    Calls Try.prog 30 #[x.val] w fun e w' => e = .returned (.int .i64 (life x.a : Nat)) ∧ Below w.heap.size w w' := by
  have HL : Hid (∀ W, Below w.heap.size w W → Calls Try.prog 49 #[x.val] W fun e w' => e = .returned (.int .u32 (leastT x.a : Nat)) ∧ Below W.heap.size W w') := fun W hb => leastTTL_any x W (h.below hb) hf
  have HM : Hid (∀ W, Below w.heap.size w W → Calls Try.prog 50 #[.slice x.A2 x.a.au.length x.c2] W fun e w' => e = .returned (.int .u32 (soa x.a.au : Nat)) ∧ Below W.heap.size W w') := fun W hb => minimum_any _ _ _ W (h.below hb).s2 hf.l2
  obtain ⟨⟨rc, aa, an, us, es⟩, aA, ac, uA, uc, eA, ec⟩ := x
  have l1 := hf.l1
  have hlf := life_if rc aa an us es
  have hl1 := leastT_le ⟨rc, aa, an, us, es⟩
  have hl2 := soa_le us
  clear h hf
  unfold Aw.val Aw.cells at *
  dsimp only at *
  generalize leastT ⟨rc, aa, an, us, es⟩ = L at *
  generalize soa us = M at *
  generalize life ⟨rc, aa, an, us, es⟩ = R at *
  generalize an.length = na at *
  generalize us.length = nu at *
  generalize es.length = ne at *
  have hX0 := Has.fresh w 38 #[.int .u16 rc, .bool aa, .slice aA na ac, .slice uA nu uc, .slice eA ne ec]
  have HB0 : Hid (Below w.heap.size w (w.alloc (.cells #[.int .u16 rc, .bool aa, .slice aA na ac, .slice uA nu uc, .slice eA ne ec] 38))) := (Below.refl _ _).alloc (Nat.le_refl _) _
  by_cases h0 : rc = 0
  · subst h0
    by_cases h1 : 0 < na
    · have hd : decide (0 < na) = true := decide_eq_true h1
      rw [if_pos ⟨rfl, h1⟩] at hlf
      subst hlf
      clear h1 hX0
      go_enter Try.func30, Try.ntmps30
      go_wp2_with (go_at_call 49; refine (HL.out _ HB0.out).mono ?_; rintro e w4 ⟨rfl, hb4⟩; have HB4 := Lib.hid (HB0.out.trans (hb4.mono HB0.out.size)); clear hb4)
      go_ret
      exact ⟨rfl, HB4.out⟩
    · have hd : decide (0 < na) = false := decide_eq_false h1
      rw [if_neg (fun e => h1 e.2), if_pos (.inl rfl)] at hlf
      have HF := Lib.hid hlf
      have HL1 := Lib.hid hl1
      clear h1 hlf hl1 hl2
      go_enter Try.func30, Try.ntmps30
      go_wp2
      revert HB0 hX0
      generalize w.alloc _ = w0
      intro hX0 HB0
      have c0 : w0.cell? ⟨w.heap.size, 0, none⟩ = some (.int .u16 0) := by rw [hX0.cell]; rfl
      have c1 : w0.cell? ⟨w.heap.size, 1, none⟩ = some (.bool aa) := by rw [hX0.cell]; rfl
      have c2 : w0.cell? ⟨w.heap.size, 2, none⟩ = some (.slice aA na ac) := by rw [hX0.cell]; rfl
      have c3 : w0.cell? ⟨w.heap.size, 3, none⟩ = some (.slice uA nu uc) := by rw [hX0.cell]; rfl
      have c4 : w0.cell? ⟨w.heap.size, 4, none⟩ = some (.slice eA ne ec) := by rw [hX0.cell]; rfl
      have hB := HB0.out
      clear hX0 HB0
      go_region_held3 (fun W => W.cell? ⟨w.heap.size, 0, none⟩ = some (.int .u16 0) ∧ W.cell? ⟨w.heap.size, 1, none⟩ = some (.bool aa) ∧ W.cell? ⟨w.heap.size, 2, none⟩ = some (.slice aA na ac) ∧ W.cell? ⟨w.heap.size, 3, none⟩ = some (.slice uA nu uc) ∧ W.cell? ⟨w.heap.size, 4, none⟩ = some (.slice eA ne ec) ∧ Below w.heap.size w W)
        (first
          | (exact ⟨c0, c1, c2, c3, c4, hB.drew⟩)
          | (go_keep; done)
          | (go_split_ands
             try dsimp only
             refine ⟨keep_cell hbW (by assumption), keep_cell hbW (by assumption), keep_cell hbW (by assumption), keep_cell hbW (by assumption), keep_cell hbW (by assumption), keep_below hbW (by assumption) (Nat.le_refl _)⟩))
        (first
          | (go_split_ands; go_at_call 49
             refine (HL.out _ (by assumption)).mono ?_
             rintro e W1 ⟨rfl, hbW⟩)
          | (go_split_ands; go_at_call 50
             refine (HM.out _ (by assumption)).mono ?_
             rintro e W1 ⟨rfl, hbW⟩))
      rename_i hh
      have HZ := Lib.hid hh.2.2.2.2.2
      clear hh
      rw [min_w HL1.out]
      generalize (if M < L then (M : Int) else (L : Int)) = z28
      rw [← HF.out]
      go_wp2
      go_ret
      exact ⟨rfl, HZ.out⟩
  · by_cases h3 : rc = 3
    · subst h3
      rw [if_neg (fun e => h0 e.1), if_pos (.inr rfl)] at hlf
      have HF := Lib.hid hlf
      have HL1 := Lib.hid hl1
      clear h0 hlf hl1 hl2
      go_enter Try.func30, Try.ntmps30
      go_wp2
      revert HB0 hX0
      generalize w.alloc _ = w0
      intro hX0 HB0
      have c0 : w0.cell? ⟨w.heap.size, 0, none⟩ = some (.int .u16 3) := by rw [hX0.cell]; rfl
      have c1 : w0.cell? ⟨w.heap.size, 1, none⟩ = some (.bool aa) := by rw [hX0.cell]; rfl
      have c2 : w0.cell? ⟨w.heap.size, 2, none⟩ = some (.slice aA na ac) := by rw [hX0.cell]; rfl
      have c3 : w0.cell? ⟨w.heap.size, 3, none⟩ = some (.slice uA nu uc) := by rw [hX0.cell]; rfl
      have c4 : w0.cell? ⟨w.heap.size, 4, none⟩ = some (.slice eA ne ec) := by rw [hX0.cell]; rfl
      have hB := HB0.out
      clear hX0 HB0
      go_region_held3 (fun W => W.cell? ⟨w.heap.size, 0, none⟩ = some (.int .u16 3) ∧ W.cell? ⟨w.heap.size, 1, none⟩ = some (.bool aa) ∧ W.cell? ⟨w.heap.size, 2, none⟩ = some (.slice aA na ac) ∧ W.cell? ⟨w.heap.size, 3, none⟩ = some (.slice uA nu uc) ∧ W.cell? ⟨w.heap.size, 4, none⟩ = some (.slice eA ne ec) ∧ Below w.heap.size w W)
        (first
          | (exact ⟨c0, c1, c2, c3, c4, hB.drew⟩)
          | (go_keep; done)
          | (go_split_ands
             try dsimp only
             refine ⟨keep_cell hbW (by assumption), keep_cell hbW (by assumption), keep_cell hbW (by assumption), keep_cell hbW (by assumption), keep_cell hbW (by assumption), keep_below hbW (by assumption) (Nat.le_refl _)⟩))
        (first
          | (go_split_ands; go_at_call 49
             refine (HL.out _ (by assumption)).mono ?_
             rintro e W1 ⟨rfl, hbW⟩)
          | (go_split_ands; go_at_call 50
             refine (HM.out _ (by assumption)).mono ?_
             rintro e W1 ⟨rfl, hbW⟩))
      rename_i hh
      have HZ := Lib.hid hh.2.2.2.2.2
      clear hh
      rw [min_w HL1.out]
      generalize (if M < L then (M : Int) else (L : Int)) = z28
      rw [← HF.out]
      go_wp2
      go_ret
      exact ⟨rfl, HZ.out⟩
    · have e0 : ((rc : Int) == 0) = false := beq_eq_false_iff_ne.2 (by omega)
      have e3 : ((rc : Int) == 3) = false := beq_eq_false_iff_ne.2 (by omega)
      rw [if_neg (fun e => h0 e.1), if_neg (by omega)] at hlf
      subst hlf
      clear h0 h3 hX0
      go_enter Try.func30, Try.ntmps30
      go_wp2
      go_ret
      exact ⟨rfl, HB0.out⟩
end Go.Proofs.Ytnhoaceickojeaa.Ca
