/- The document's table: keeping names and places. Laws for rows of the call's own. -/
import Derived.Test.YtfekmolgiohegaaPrTab
import Derived.Test.YtfekmolgiohegaaSplit
import Derived.Test.YtfekmolgiohegaaGlue
import Derived.Laws.AppendOwnNone
import Derived.Lib.AppendStr
namespace Go.Proofs.Ytfekmolgiohegaa
open Go.RowKit

theorem Try.infoApiName : (Try.prog.info? 32).map (fun i => (i.zero, i.size, i.bytes)) = some (some (.string ⟨#[]⟩), 1, 16) := by kernel_rfl
theorem Try.infoIntT : (Try.prog.info? 3).map (fun i => (i.zero, i.size, i.bytes)) = some (some (.int .i64 0), 1, 8) := by kernel_rfl

section
variable {w w' : World} {b b2 n n2 : Nat} {e e2 : TypeId} {v v2 : Value} {xs ys : List Value}
/-- rows of two types are two. -/
theorem own_apart (h : w.ownsRow b e 1 v n xs) (h2 : w.ownsRow b2 e2 1 v2 n2 ys) (hne : e2 ≠ e) : v2.ownBlock = none ∨ v2.ownBlock ≠ v.ownBlock := by
  rcases h2.2 with ⟨rfl, _⟩ | ⟨g2, cap2, cur2, rfl, _, hg2, _⟩
  · exact .inl rfl
  · refine .inr fun e' => ?_
    rcases h.2 with ⟨rfl, _⟩ | ⟨g, cap, cur, rfl, _, hg, _⟩
    · simp [Value.ownBlock] at e'
    · have : g2 = g := by simpa [Value.ownBlock] using e'
      subst this
      rw [hg] at hg2
      cases hg2
      exact hne rfl
theorem own_still (h : w.ownsRow b e 1 v n xs) (h2 : w.ownsRow b2 e2 1 v2 n2 ys) (hne : e2 ≠ e) (hg : w.grownBy w' v.ownBlock) : w'.ownsRow b2 e2 1 v2 n2 ys := h2.kept hg (own_apart h h2 hne)
theorem own_alloc (h : w.ownsRow b e 1 v n xs) (o : Obj) : (w.alloc o).ownsRow b e 1 v n xs := World.ownsRow.alloc h o
end
/-- values that are built into a new slice are put behind a row of the call's own. -/
theorem wpList_append_new {P : Program} {w : World} {ops : Array Oper} {rest : List Oper} {o : Oper} {a : Act} {Q : Exit → Act → World → Prop} (hgd : o.guard = none) (s x : Operand) (t : TypeId)
    (ho : o.op = .call { callee := .builtin .append, args := #[s, x], argTypes := #[t, t] })
    (e : TypeId) (i : TypeInfo) (z : Value) (bytes : Nat) (ht : P.underlying t = some (.slice e)) (hi : P.info? e = some i) (hz : i.zero = some z)
    (hsize : i.size = 1) (hby : i.bytes = bytes) (hzs : z.cells.size = 1)
    (base : Nat) (w0 : World) (v : Value) (n : Nat) (xs : List Value) (hs : a.eval s = v) (hown : w.ownsRow base e 1 v n xs) (hb : Below base w0 w) (hbase : base ≤ w0.heap.size)
    (us : List Value) (hu : ∀ u ∈ us, u.oneCell' = true) (et : TypeId) (m : Nat) (hm : us.length = m) (hx : a.eval x = .slice (some ⟨w.heap.size, 0, none⟩) m m)
    (h63 : n + m ≤ 140737488355328) (hbytes : (n + m) * bytes ≤ 140737488355328)
    (h : ∀ v' w', w'.ownsRow base e 1 v' (n + m) (xs ++ us) → Below base w0 w' → (w.alloc (.cells us.toArray et)).grownBy w' v.ownBlock → wpList P ops Q rest (a.put o.dst v') w') : wpList P ops Q (o :: rest) a (w.alloc (.cells us.toArray et)) := by
  have hbs := hb.size
  subst hm
  refine wpList_append_own _ hgd s x t ho base e i z 1 bytes ht hi hz hsize hby hzs (by decide) v n xs hs (hown.alloc _) ⟨w.heap.size, 0, none⟩ us.length us.length us hx (by omega) ?_ hu (by unfold maxLen; omega) hbytes (by simp; omega) (fun v' w' h1 h2 _ => h v' w' h1 ?_ h2)
  · intro j u hj
    have hH := Has.fresh w et us.toArray
    rw [addr_add, Nat.zero_add, hH.cell]
    simpa using hj
  · exact (hb.alloc (by omega) _).grown h2 (by simp; omega) (fun k hk => (hown.lt k hk).1)
/-- a row of the call's own is put behind another one. -/
theorem append_rows {P : Program} {w : World} (t ty e : TypeId) (i : TypeInfo) (z : Value) (bytes : Nat) (ht : P.underlying t = some (.slice e)) (hi : P.info? e = some i) (hz : i.zero = some z)
    (hsize : i.size = 1) (hby : i.bytes = bytes) (hzs : z.cells.size = 1)
    (base b2 : Nat) (v v2 : Value) (n m : Nat) (xs us : List Value) (hown : w.ownsRow base e 1 v n xs) (h2 : w.ownsRow b2 e 1 v2 m us) (hu : ∀ u ∈ us, u.oneCell' = true)
    (h63 : n + m ≤ 140737488355328) (hbytes : (n + m) * bytes ≤ 140737488355328) (hbase : base ≤ w.heap.size) :
    ∃ v' w', (Builtin.append_ #[t, t] ty #[v, v2]).run P w = .ok v' w' ∧ w'.ownsRow base e 1 v' (n + m) (xs ++ us) ∧ w.grownBy w' v.ownBlock := by
  have hl : us.length = m := by have := h2.1; omega
  rcases h2.2 with ⟨rfl, h0⟩ | ⟨g, cap, cur, rfl, hb, hg, hc, _⟩
  · subst h0
    have hus : us = [] := List.eq_nil_of_length_eq_zero hl
    subst hus
    refine ⟨v, w, ?_, by simpa using hown, World.grownBy.refl w _⟩
    exact run_append_owned_none (P := P) (w := w) base t ty e i 1 ht hi v n xs hown
  · obtain ⟨v', w', hrun, a1, a2, _⟩ := run_append_own (P := P) w base t ty e i z 1 bytes ht hi hz hsize hby hzs (by decide) v n xs hown ⟨g, 0, none⟩ m cap us (by omega) (fun j u hj => by rw [addr_add, Nat.zero_add]; exact own_cells h2 j u hj) hu (by unfold maxLen; omega) hbytes hbase
    exact ⟨v', w', hrun, a1, a2⟩

theorem svs_one (ls : List (List UInt8)) : ∀ u ∈ svs ls, u.oneCell' = true := by
  intro u hu
  simp only [svs, List.mem_map] at hu
  obtain ⟨_, _, rfl⟩ := hu
  rfl
theorem ints_one (ls : List Nat) : ∀ u ∈ ints ls, u.oneCell' = true := by
  intro u hu
  simp only [ints, List.mem_map] at hu
  obtain ⟨_, _, rfl⟩ := hu
  rfl
theorem ints_append (a b : List Nat) : ints (a ++ b) = ints a ++ ints b := by simp [ints]

/-- what the document's table may change: rows of names and of ints, and tables. -/
def isRefO : Obj → Bool
  | .cells _ e _ => e == 32 || e == 3 || e == 30
  | _ => false
structure Rk (base : Nat) (w w' : World) : Prop where
  below : Below base w w'
  same : ∀ (k : Nat) (o : Obj), w.heap[k]? = some o → isRefO o = false → w'.heap[k]? = some o
section
variable {base : Nat} {w w' w2 : World}
theorem Rk.refl (base : Nat) (w : World) : Rk base w w := ⟨Below.refl _ _, fun _ _ h _ => h⟩
theorem Rk.trans (h : Rk base w w') (k : Rk base w' w2) : Rk base w w2 := ⟨h.below.trans k.below, fun i o hi ho => k.same i o (h.same i o hi ho) ho⟩
theorem Rk.of_below (h : Below w.heap.size w w') (hb : base ≤ w.heap.size) : Rk base w w' := ⟨⟨h.os, h.tape, h.output, h.size, fun k hk => h.block k (by omega)⟩, fun k o hk _ => (h.block k (Array.getElem?_eq_some_iff.1 hk).1).trans hk⟩
theorem Rk.of_grown {row : Option Nat} (h : w.grownBy w' row) (hr : ∀ r, row = some r → base ≤ r ∧ ∃ o, w.heap[r]? = some o ∧ isRefO o = true) (hb : base ≤ w.heap.size) : Rk base w w' :=
  ⟨⟨h.os, h.tape, h.output, h.size, fun k hk => h.block k (by omega) (fun e => by have := (hr k e.symm).1; omega)⟩, fun k o hk hn => (h.block k (Array.getElem?_eq_some_iff.1 hk).1 (fun e => by
    obtain ⟨_, o', h1, h2⟩ := hr k e.symm
    rw [hk] at h1; cases h1; rw [hn] at h2; cases h2)).trans hk⟩
theorem Rk.has (h : Rk base w w') {k : Nat} {t : TypeId} {cs : Array Value} (hk : Has w k t cs) (hn : (t == 32 || t == 3 || t == 30) = false) : Has w' k t cs := h.same k _ hk hn
theorem Rk.own (h : Rk base w w') {b n : Nat} {e : TypeId} {v : Value} {xs : List Value} (hk : w.ownsRow b e 1 v n xs) (hn : (e == 32 || e == 3 || e == 30) = false) : w'.ownsRow b e 1 v n xs := by
  refine ⟨hk.1, ?_⟩
  rcases hk.2 with h0 | ⟨g, cap, cur, rfl, hb, hg, rest⟩
  · exact .inl h0
  · exact .inr ⟨g, cap, cur, rfl, hb, h.same g _ hg hn, rest⟩
end
theorem own_obj {w : World} {b n : Nat} {e : TypeId} {v : Value} {xs : List Value} (h : w.ownsRow b e 1 v n xs) {r : Nat} (hr : v.ownBlock = some r) (he : (e == 32 || e == 3 || e == 30) = true) : b ≤ r ∧ ∃ o, w.heap[r]? = some o ∧ isRefO o = true := by
  rcases h.2 with ⟨rfl, _⟩ | ⟨g, cap, cur, rfl, hb, hg, _⟩
  · simp [Value.ownBlock] at hr
  · have : g = r := by simpa [Value.ownBlock] using hr
    subst this
    exact ⟨hb, _, hg, he⟩
theorem has_not_own {w : World} {g b n : Nat} {t e : TypeId} {cs : Array Value} {v : Value} {xs : List Value} (h : Has w g t cs) (ho : w.ownsRow b e 1 v n xs) (hte : t ≠ e) : some g ≠ v.ownBlock := by
  rcases ho.2 with ⟨rfl, _⟩ | ⟨g', cap, cur, rfl, _, hgb, _⟩
  · simp [Value.ownBlock]
  · intro e'
    obtain rfl : g = g' := by simpa [Value.ownBlock] using e'
    rw [show w.heap[g]? = _ from h] at hgb
    cases hgb
    exact hte rfl
theorem gr_set (W : World) (b i : Nat) (u : Value) : W.grownBy (W.setCell ⟨b, i, none⟩ u) (some b) := ⟨rfl, rfl, rfl, by simp, fun j _ hj => heap_setCell_other W ⟨b, i, none⟩ j u (fun e => hj (by rw [e]))⟩

set_option maxHeartbeats 1000000 in
theorem keep_any (w : World) (g base b2 : Nat) (t nw : Tab) (vN vP : Value) (h : RT w g base t) (hg : base ≤ g) (hN : w.ownsRow b2 32 1 vN nw.length (svs (nw.map (·.1)))) (hP : w.ownsRow b2 3 1 vP nw.length (ints (nw.map (·.2))))
    (hb : base ≤ w.heap.size) (hl : (t.length + nw.length) * 16 ≤ 140737488355328) :
    Calls Try.prog 36 #[.pointer (some ⟨g, 0, none⟩), vN, vP] w fun e w' => e = .returned (.tuple #[]) ∧ RT w' g base (t ++ nw) ∧ Rk base w w' := by
  obtain ⟨uN, uP, hH, oN, oP⟩ := h
  obtain ⟨iN, hiN, zN0, zN1, zN2⟩ := info_parts Try.infoApiName
  obtain ⟨iP, hiP, zP0, zP1, zP2⟩ := info_parts Try.infoIntT
  obtain ⟨aU, cU, rfl⟩ := own_form oN
  obtain ⟨v1, w1, hr1, O1, G1⟩ := append_rows (P := Try.prog) 27 27 32 iN _ 16 Try.underlying27 hiN zN0 zN1 zN2 rfl base b2 (.slice aU t.length cU) vN t.length nw.length _ _ oN hN (svs_one _) (by omega) hl hb
  obtain ⟨a1, c1, rfl⟩ := own_form O1
  obtain ⟨aP, cP, rfl⟩ := own_form oP
  have H1 : Has w1 g 30 #[.slice aU t.length cU, .slice aP t.length cP] := hH.grown G1 (has_not_own hH oN (by decide))
  have hsz1 := G1.size
  obtain ⟨W1, hW1⟩ : ∃ W1, w1.setCell ⟨g, 0, none⟩ (.slice a1 (t.length + nw.length) c1) = W1 := ⟨_, rfl⟩
  have H2 : Has W1 g 30 #[.slice a1 (t.length + nw.length) c1, .slice aP t.length cP] := by rw [← hW1]; exact H1.set 0 _
  have GG : w1.grownBy W1 (some g) := by rw [← hW1]; exact gr_set _ _ _ _
  have hO1 : W1.ownsRow base 32 1 (.slice a1 (t.length + nw.length) c1) (t.length + nw.length) (svs (t.map (·.1)) ++ svs (nw.map (·.1))) := O1.kept GG (.inr (has_not_own H1 O1 (by decide)).symm)
  have oP1 : W1.ownsRow base 3 1 (.slice aP t.length cP) t.length (ints (t.map (·.2))) := by
    have k := own_still oN oP (by decide) G1
    exact k.kept GG (.inr (has_not_own H1 k (by decide)).symm)
  have hP1 : W1.ownsRow b2 3 1 vP nw.length (ints (nw.map (·.2))) := by
    have k := own_still oN hP (by decide) G1
    refine k.kept GG ?_
    rcases k.2 with ⟨rfl, _⟩ | ⟨g', cap, cur, rfl, _, hgb, _⟩
    · exact .inl rfl
    · exact .inr (has_not_own H1 k (by decide)).symm
  have hszW : w1.heap.size ≤ W1.heap.size := GG.size
  obtain ⟨v2, w2, hr2, O2, G2⟩ := append_rows (P := Try.prog) 28 28 3 iP _ 8 Try.underlying28 hiP zP0 zP1 zP2 rfl base b2 (.slice aP t.length cP) vP t.length nw.length _ _ oP1 hP1 (ints_one _) (by omega) (by omega) (by omega)
  obtain ⟨a2, c2, rfl⟩ := own_form O2
  have H3 : Has w2 g 30 #[.slice a1 (t.length + nw.length) c1, .slice aP t.length cP] := H2.grown G2 (has_not_own H2 oP1 (by decide))
  have H4 : Has (w2.setCell ⟨g, 1, none⟩ (.slice a2 (t.length + nw.length) c2)) g 30 #[.slice a1 (t.length + nw.length) c1, .slice a2 (t.length + nw.length) c2] := H3.set 1 _
  have GG2 := gr_set w2 g 1 (.slice a2 (t.length + nw.length) c2)
  have hend : RT (w2.setCell ⟨g, 1, none⟩ (.slice a2 (t.length + nw.length) c2)) g base (t ++ nw) := by
    refine ⟨_, _, H4, ?_, ?_⟩
    · have k := own_still oP1 hO1 (by decide) G2
      exact own_to (k.kept GG2 (.inr (has_not_own H3 k (by decide)).symm)) (by simp) (by rw [List.map_append, svs_append])
    · exact own_to (O2.kept GG2 (.inr (has_not_own H3 O2 (by decide)).symm)) (by simp) (by rw [List.map_append, ints_append])
  have hrk : Rk base w (w2.setCell ⟨g, 1, none⟩ (.slice a2 (t.length + nw.length) c2)) := by
    have k1 : Rk base w w1 := Rk.of_grown G1 (fun r hr => own_obj oN hr rfl) hb
    have k2 : Rk base w1 W1 := Rk.of_grown GG (fun r hr => by cases hr; exact ⟨hg, _, H1, rfl⟩) (by omega)
    have k3 : Rk base W1 w2 := Rk.of_grown G2 (fun r hr => own_obj oP1 hr rfl) (by omega)
    have k4 : Rk base w2 (w2.setCell ⟨g, 1, none⟩ (.slice a2 (t.length + nw.length) c2)) := Rk.of_grown GG2 (fun r hr => by cases hr; exact ⟨hg, _, H3, rfl⟩) (by have := G2.size; omega)
    exact ((k1.trans k2).trans k3).trans k4
  have f0 : w1.frozen? ⟨g, 0, none⟩ = false := H1.free 0
  have f1 : w2.frozen? ⟨g, 1, none⟩ = false := H3.free 1
  have e0 : w.cell? ⟨g, 0, none⟩ = some (.slice aU t.length cU) := by rw [hH.cell]; rfl
  have e1 : w1.cell? ⟨g, 0, none⟩ = some (.slice aU t.length cU) := by rw [H1.cell]; rfl
  have e2 : W1.cell? ⟨g, 1, none⟩ = some (.slice aP t.length cP) := by rw [H2.cell]; rfl
  have e3 : w2.cell? ⟨g, 1, none⟩ = some (.slice aP t.length cP) := by rw [H3.cell]; rfl
  have HE := Lib.hid hend
  have HK := Lib.hid hrk
  have R1 := Lib.hid hr1
  have R2 := Lib.hid hr2
  rw [← hW1] at R2 e2
  clear hend hrk hr1 hr2 O1 O2 hO1 oP1 hP1 H1 H2 H3 H4 GG GG2 G1 G2 hH oN oP hN hP hW1
  go_enter Try.func36, Try.ntmps36
  go_wp2_with (first
    | (at_builtin; refine wpList_append_run rfl (.tmp 10) (.tmp 11) _ _ rfl _ _ rfl rfl (R := fun v' w' => v' = .slice a1 (t.length + nw.length) c1 ∧ w' = w1) ⟨_, _, R1.out, rfl, rfl⟩ ?_; rintro v' w' ⟨rfl, rfl⟩)
    | (at_builtin; refine wpList_append_run rfl (.tmp 19) (.tmp 20) _ _ rfl _ _ rfl rfl (R := fun v' w' => v' = .slice a2 (t.length + nw.length) c2 ∧ w' = w2) ⟨_, _, R2.out, rfl, rfl⟩ ?_; rintro v' w' ⟨rfl, rfl⟩))
  go_end0
  exact ⟨rfl, HE.out, HK.out⟩
end Go.Proofs.Ytfekmolgiohegaa
