/- Texts of the proofs, merged. -/
import Derived.Test.YtalghgaadcdhhaaDoorG7
import Derived.Test.YtalghgaadcdhhaaDoorG2
import Derived.MapKept
import Derived.Laws.StructEq
import Derived.Test.YtalghgaadcdhhaaDoorG3
import Derived.Test.YtalghgaadcdhhaaDoorG10
import Derived.Laws.AppendOwnNone
import Derived.Lib.AppendStr
import Derived.Test.YtalghgaadcdhhaaDoorG9
import Derived.Test.YtalghgaadcdhhaaDoorG17
/- The document's table of names: what is remembered, and where it is found. -/
namespace Go.Proofs.YtalghgaadcdhhaaDoor
open Go.RowKit

def ints (t : List Nat) : List Value := t.map fun (p : Nat) => Value.int .i64 p
/-- a table in memory, its two lists the call's own. -/
def RT (w : World) (g base : Nat) (t : Tab) : Prop :=
  ∃ vN vP, Has w g 40 #[vN, vP] ∧ w.ownsRow base 23 1 vN t.length (svs (t.map (·.1))) ∧ w.ownsRow base 3 1 vP t.length (ints (t.map (·.2)))
theorem str_eq {a n : ByteArray} (h : a.data.toList = n.data.toList) : (a.toList == n.toList) = true :=
  (beq_toListBytes a n).symm.trans <| (MapKept.bytes_beq _ _).2 (by rw [string_eq (s := a) rfl, string_eq (s := n) rfl, h])
theorem str_ne {a n : ByteArray} (h : a.data.toList ≠ n.data.toList) : (a.toList == n.toList) = false := by
  rw [← beq_toListBytes, Bool.eq_false_iff]
  intro hb
  have := (MapKept.bytes_beq _ _).1 hb
  subst this
  exact h rfl
theorem sv_of (l : List UInt8) : ∃ s : ByteArray, sv l = .string s ∧ s.data.toList = l := ⟨⟨l.toArray⟩, rfl, rfl⟩

set_option maxHeartbeats 1000000 in
set_option maxRecDepth 100000 in
theorem find_any (w : World) (g base : Nat) (t : Tab) (n : ByteArray) (h : RT w g base t) (hl : t.length ≤ 140737488355328) :
    Calls Tryd.prog 94 #[.pointer (some ⟨g, 0, none⟩), .string n] w fun e w' => e = .returned (.int .i64 (findI t n.data.toList)) ∧ w = w' := by
  obtain ⟨vN, vP, hH, hN, hP⟩ := h
  have c0 : w.cell? ⟨g, 0, none⟩ = some vN := by rw [hH.cell]; rfl
  have c1 : w.cell? ⟨g, 1, none⟩ = some vP := by rw [hH.cell]; rfl
  obtain ⟨aN, cN, rfl⟩ := own_form hN
  obtain ⟨aP, cP, rfl⟩ := own_form hP
  have HN := Lib.hid hN
  have HP := Lib.hid hP
  clear hN hP hH
  go_enter Tryd.func94, Tryd.ntmps94
  go_wp2
  go_loop [5] (fun i => ∃ k : Nat, i = .int .i64 k ∧ k ≤ t.length ∧ Hid (findI (t.drop k) n.data.toList = findI t n.data.toList)) (fun i => t.length - (intOf i).toNat)
  case atStart => exact ⟨0, rfl, Nat.zero_le _, rfl⟩
  case round =>
    obtain ⟨k, rfl, hk, HF⟩ := hrel
    by_cases hlt : k < t.length
    · obtain ⟨gN, rfl, hcN, hcellN⟩ := own_at HN.out hlt
      obtain ⟨gP, rfl, hcP, hcellP⟩ := own_at HP.out hlt
      have cn := hcellN k (sv (t[k]'hlt).1) (by simp [svs, hlt])
      have cp := hcellP k (.int .i64 (t[k]'hlt).2) (by simp [ints, hlt])
      have hF := HF.out
      rw [findI_at hlt] at hF
      clear hcellN hcellP HF
      obtain ⟨s, hs1, hs2⟩ := sv_of (t[k]'hlt).1
      rw [hs1] at cn
      rw [← hs2] at hF
      clear hs1 hs2
      by_cases he : s.data.toList = n.data.toList
      · rw [if_pos he] at hF
        have hb := str_eq he
        have HE := Lib.hid hF
        clear hF he
        generalize (t[k]'hlt).2 = p at *
        go_wp2
        go_ret
        exact ⟨by rw [← HE.out]; rfl, rfl⟩
      · rw [if_neg he] at hF
        have hb := str_ne he
        have HE := Lib.hid hF
        clear hF he
        generalize (t[k]'hlt).2 = p at *
        go_wp2
        go_round
        case rel => exact ⟨k + 1, by go_num, by omega, HE.out⟩
        case measure => simp [intOf]; omega
    · obtain rfl : k = t.length := by omega
      have hF := HF.out
      rw [findI_end] at hF
      have HE := Lib.hid hF
      clear hF HF
      go_wp2
      go_ret
      exact ⟨by rw [← HE.out]; rfl, rfl⟩
end Go.Proofs.YtalghgaadcdhhaaDoor
/- The document's table: keeping names and places. Laws for rows of the call's own. -/
namespace Go.Proofs.YtalghgaadcdhhaaDoor
open Go.RowKit

theorem Tryd.infoApiName : (Tryd.prog.info? 23).map (fun i => (i.zero, i.size, i.bytes)) = some (some (.string ⟨#[]⟩), 1, 16) := by kernel_rfl
theorem Tryd.infoIntT : (Tryd.prog.info? 3).map (fun i => (i.zero, i.size, i.bytes)) = some (some (.int .i64 0), 1, 8) := by kernel_rfl

section
variable {w w' : World} {b b2 n n2 : Nat} {e e2 : TypeId} {v v2 : Value} {xs ys : List Value}
/-- rows of two types are two. -/
theorem own_apart (h : w.ownsRow b e 1 v n xs) (h2 : w.ownsRow b2 e2 1 v2 n2 ys) (hne : e2 ≠ e) : v2.ownBlock = none ∨ v2.ownBlock ≠ v.ownBlock := by
  rcases h2.2 with ⟨rfl, _⟩ | ⟨g2, cap2, cur2, rfl, _, hg2, _⟩
  · exact .inl rfl
  · refine .inr fun e' => ?_
    rcases h.2 with ⟨rfl, _⟩ | ⟨g, cap, cur, rfl, _, hg, _⟩
    · simp [Value.ownBlock] at e'
    · have : g2 = g := by simpa [Value.ownBlock] using e'
      subst this
      rw [hg] at hg2
      cases hg2
      exact hne rfl
theorem own_still (h : w.ownsRow b e 1 v n xs) (h2 : w.ownsRow b2 e2 1 v2 n2 ys) (hne : e2 ≠ e) (hg : w.grownBy w' v.ownBlock) : w'.ownsRow b2 e2 1 v2 n2 ys := h2.kept hg (own_apart h h2 hne)
theorem own_alloc (h : w.ownsRow b e 1 v n xs) (o : Obj) : (w.alloc o).ownsRow b e 1 v n xs := World.ownsRow.alloc h o
end
/-- values that are built into a new slice are put behind a row of the call's own. -/
theorem wpList_append_new {P : Program} {w : World} {ops : Array Oper} {rest : List Oper} {o : Oper} {a : Act} {Q : Exit → Act → World → Prop} (hgd : o.guard = none) (s x : Operand) (t : TypeId)
    (ho : o.op = .call { callee := .builtin .append, args := #[s, x], argTypes := #[t, t] })
    (e : TypeId) (i : TypeInfo) (z : Value) (bytes : Nat) (ht : P.underlying t = some (.slice e)) (hi : P.info? e = some i) (hz : i.zero = some z)
    (hsize : i.size = 1) (hby : i.bytes = bytes) (hzs : z.cells.size = 1)
    (base : Nat) (w0 : World) (v : Value) (n : Nat) (xs : List Value) (hs : a.eval s = v) (hown : w.ownsRow base e 1 v n xs) (hb : Below base w0 w) (hbase : base ≤ w0.heap.size)
    (us : List Value) (hu : ∀ u ∈ us, u.oneCell' = true) (et : TypeId) (m : Nat) (hm : us.length = m) (hx : a.eval x = .slice (some ⟨w.heap.size, 0, none⟩) m m)
    (h63 : n + m ≤ 140737488355328) (hbytes : (n + m) * bytes ≤ 140737488355328)
    (h : ∀ v' w', w'.ownsRow base e 1 v' (n + m) (xs ++ us) → Below base w0 w' → (w.alloc (.cells us.toArray et)).grownBy w' v.ownBlock → wpList P ops Q rest (a.put o.dst v') w') : wpList P ops Q (o :: rest) a (w.alloc (.cells us.toArray et)) := by
  have hbs := hb.size
  subst hm
  refine wpList_append_own _ hgd s x t ho base e i z 1 bytes ht hi hz hsize hby hzs (by decide) v n xs hs (hown.alloc _) ⟨w.heap.size, 0, none⟩ us.length us.length us hx (by omega) ?_ hu (by unfold maxLen; omega) hbytes (by simp; omega) (fun v' w' h1 h2 _ => h v' w' h1 ?_ h2)
  · intro j u hj
    have hH := Has.fresh w et us.toArray
    rw [addr_add, Nat.zero_add, hH.cell]
    simpa using hj
  · exact (hb.alloc (by omega) _).grown h2 (by simp; omega) (fun k hk => (hown.lt k hk).1)
/-- a row of the call's own is put behind another one. -/
theorem append_rows {P : Program} {w : World} (t ty e : TypeId) (i : TypeInfo) (z : Value) (bytes : Nat) (ht : P.underlying t = some (.slice e)) (hi : P.info? e = some i) (hz : i.zero = some z)
    (hsize : i.size = 1) (hby : i.bytes = bytes) (hzs : z.cells.size = 1)
    (base b2 : Nat) (v v2 : Value) (n m : Nat) (xs us : List Value) (hown : w.ownsRow base e 1 v n xs) (h2 : w.ownsRow b2 e 1 v2 m us) (hu : ∀ u ∈ us, u.oneCell' = true)
    (h63 : n + m ≤ 140737488355328) (hbytes : (n + m) * bytes ≤ 140737488355328) (hbase : base ≤ w.heap.size) :
    ∃ v' w', (Builtin.append_ #[t, t] ty #[v, v2]).run P w = .ok v' w' ∧ w'.ownsRow base e 1 v' (n + m) (xs ++ us) ∧ w.grownBy w' v.ownBlock := by
  have hl : us.length = m := by have := h2.1; omega
  rcases h2.2 with ⟨rfl, h0⟩ | ⟨g, cap, cur, rfl, hb, hg, hc, _⟩
  · subst h0
    have hus : us = [] := List.eq_nil_of_length_eq_zero hl
    subst hus
    refine ⟨v, w, ?_, by simpa using hown, World.grownBy.refl w _⟩
    exact run_append_owned_none (P := P) (w := w) base t ty e i 1 ht hi v n xs hown
  · obtain ⟨v', w', hrun, a1, a2, _⟩ := run_append_own (P := P) w base t ty e i z 1 bytes ht hi hz hsize hby hzs (by decide) v n xs hown ⟨g, 0, none⟩ m cap us (by omega) (fun j u hj => by rw [addr_add, Nat.zero_add]; exact own_cells h2 j u hj) hu (by unfold maxLen; omega) hbytes hbase
    exact ⟨v', w', hrun, a1, a2⟩

theorem svs_one (ls : List (List UInt8)) : ∀ u ∈ svs ls, u.oneCell' = true := by
  intro u hu
  simp only [svs, List.mem_map] at hu
  obtain ⟨_, _, rfl⟩ := hu
  rfl
theorem ints_one (ls : List Nat) : ∀ u ∈ ints ls, u.oneCell' = true := by
  intro u hu
  simp only [ints, List.mem_map] at hu
  obtain ⟨_, _, rfl⟩ := hu
  rfl
theorem ints_append (a b : List Nat) : ints (a ++ b) = ints a ++ ints b := by simp [ints]

/-- what the document's table may change: rows of names and of ints, and tables. -/
def isRefO : Obj → Bool
  | .cells _ e _ => e == 23 || e == 3 || e == 40
  | _ => false
structure Rk (base : Nat) (w w' : World) : Prop where
  below : Below base w w'
  same : ∀ (k : Nat) (o : Obj), w.heap[k]? = some o → isRefO o = false → w'.heap[k]? = some o
section
variable {base : Nat} {w w' w2 : World}
theorem Rk.refl (base : Nat) (w : World) : Rk base w w := ⟨Below.refl _ _, fun _ _ h _ => h⟩
theorem Rk.trans (h : Rk base w w') (k : Rk base w' w2) : Rk base w w2 := ⟨h.below.trans k.below, fun i o hi ho => k.same i o (h.same i o hi ho) ho⟩
theorem Rk.of_below (h : Below w.heap.size w w') (hb : base ≤ w.heap.size) : Rk base w w' := ⟨⟨h.os, h.tape, h.output, h.size, fun k hk => h.block k (by omega)⟩, fun k o hk _ => (h.block k (Array.getElem?_eq_some_iff.1 hk).1).trans hk⟩
theorem Rk.of_grown {row : Option Nat} (h : w.grownBy w' row) (hr : ∀ r, row = some r → base ≤ r ∧ ∃ o, w.heap[r]? = some o ∧ isRefO o = true) (hb : base ≤ w.heap.size) : Rk base w w' :=
  ⟨⟨h.os, h.tape, h.output, h.size, fun k hk => h.block k (by omega) (fun e => by have := (hr k e.symm).1; omega)⟩, fun k o hk hn => (h.block k (Array.getElem?_eq_some_iff.1 hk).1 (fun e => by
    obtain ⟨_, o', h1, h2⟩ := hr k e.symm
    rw [hk] at h1; cases h1; rw [hn] at h2; cases h2)).trans hk⟩
theorem Rk.has (h : Rk base w w') {k : Nat} {t : TypeId} {cs : Array Value} (hk : Has w k t cs) (hn : (t == 23 || t == 3 || t == 40) = false) : Has w' k t cs := h.same k _ hk hn
theorem Rk.own (h : Rk base w w') {b n : Nat} {e : TypeId} {v : Value} {xs : List Value} (hk : w.ownsRow b e 1 v n xs) (hn : (e == 23 || e == 3 || e == 40) = false) : w'.ownsRow b e 1 v n xs := by
  refine ⟨hk.1, ?_⟩
  rcases hk.2 with h0 | ⟨g, cap, cur, rfl, hb, hg, rest⟩
  · exact .inl h0
  · exact .inr ⟨g, cap, cur, rfl, hb, h.same g _ hg hn, rest⟩
end
theorem own_obj {w : World} {b n : Nat} {e : TypeId} {v : Value} {xs : List Value} (h : w.ownsRow b e 1 v n xs) {r : Nat} (hr : v.ownBlock = some r) (he : (e == 23 || e == 3 || e == 40) = true) : b ≤ r ∧ ∃ o, w.heap[r]? = some o ∧ isRefO o = true := by
  rcases h.2 with ⟨rfl, _⟩ | ⟨g, cap, cur, rfl, hb, hg, _⟩
  · simp [Value.ownBlock] at hr
  · have : g = r := by simpa [Value.ownBlock] using hr
    subst this
    exact ⟨hb, _, hg, he⟩
theorem has_not_own {w : World} {g b n : Nat} {t e : TypeId} {cs : Array Value} {v : Value} {xs : List Value} (h : Has w g t cs) (ho : w.ownsRow b e 1 v n xs) (hte : t ≠ e) : some g ≠ v.ownBlock := by
  rcases ho.2 with ⟨rfl, _⟩ | ⟨g', cap, cur, rfl, _, hgb, _⟩
  · simp [Value.ownBlock]
  · intro e'
    obtain rfl : g = g' := by simpa [Value.ownBlock] using e'
    rw [show w.heap[g]? = _ from h] at hgb
    cases hgb
    exact hte rfl
theorem gr_set (W : World) (b i : Nat) (u : Value) : W.grownBy (W.setCell ⟨b, i, none⟩ u) (some b) := ⟨rfl, rfl, rfl, by simp, fun j _ hj => heap_setCell_other W ⟨b, i, none⟩ j u (fun e => hj (by rw [e]))⟩

set_option maxHeartbeats 1000000 in
theorem keep_any (w : World) (g base b2 : Nat) (t nw : Tab) (vN vP : Value) (h : RT w g base t) (hg : base ≤ g) (hN : w.ownsRow b2 23 1 vN nw.length (svs (nw.map (·.1)))) (hP : w.ownsRow b2 3 1 vP nw.length (ints (nw.map (·.2))))
    (hb : base ≤ w.heap.size) (hl : (t.length + nw.length) * 16 ≤ 140737488355328) :
    Calls Tryd.prog 95 #[.pointer (some ⟨g, 0, none⟩), vN, vP] w fun e w' => e = .returned (.tuple #[]) ∧ RT w' g base (t ++ nw) ∧ Rk base w w' := by
  obtain ⟨uN, uP, hH, oN, oP⟩ := h
  obtain ⟨iN, hiN, zN0, zN1, zN2⟩ := info_parts Tryd.infoApiName
  obtain ⟨iP, hiP, zP0, zP1, zP2⟩ := info_parts Tryd.infoIntT
  obtain ⟨aU, cU, rfl⟩ := own_form oN
  obtain ⟨v1, w1, hr1, O1, G1⟩ := append_rows (P := Tryd.prog) 37 37 23 iN _ 16 Tryd.underlying37 hiN zN0 zN1 zN2 rfl base b2 (.slice aU t.length cU) vN t.length nw.length _ _ oN hN (svs_one _) (by omega) hl hb
  obtain ⟨a1, c1, rfl⟩ := own_form O1
  obtain ⟨aP, cP, rfl⟩ := own_form oP
  have H1 : Has w1 g 40 #[.slice aU t.length cU, .slice aP t.length cP] := hH.grown G1 (has_not_own hH oN (by decide))
  have hsz1 := G1.size
  obtain ⟨W1, hW1⟩ : ∃ W1, w1.setCell ⟨g, 0, none⟩ (.slice a1 (t.length + nw.length) c1) = W1 := ⟨_, rfl⟩
  have H2 : Has W1 g 40 #[.slice a1 (t.length + nw.length) c1, .slice aP t.length cP] := by rw [← hW1]; exact H1.set 0 _
  have GG : w1.grownBy W1 (some g) := by rw [← hW1]; exact gr_set _ _ _ _
  have hO1 : W1.ownsRow base 23 1 (.slice a1 (t.length + nw.length) c1) (t.length + nw.length) (svs (t.map (·.1)) ++ svs (nw.map (·.1))) := O1.kept GG (.inr (has_not_own H1 O1 (by decide)).symm)
  have oP1 : W1.ownsRow base 3 1 (.slice aP t.length cP) t.length (ints (t.map (·.2))) := by
    have k := own_still oN oP (by decide) G1
    exact k.kept GG (.inr (has_not_own H1 k (by decide)).symm)
  have hP1 : W1.ownsRow b2 3 1 vP nw.length (ints (nw.map (·.2))) := by
    have k := own_still oN hP (by decide) G1
    refine k.kept GG ?_
    rcases k.2 with ⟨rfl, _⟩ | ⟨g', cap, cur, rfl, _, hgb, _⟩
    · exact .inl rfl
    · exact .inr (has_not_own H1 k (by decide)).symm
  have hszW : w1.heap.size ≤ W1.heap.size := GG.size
  obtain ⟨v2, w2, hr2, O2, G2⟩ := append_rows (P := Tryd.prog) 38 38 3 iP _ 8 Tryd.underlying38 hiP zP0 zP1 zP2 rfl base b2 (.slice aP t.length cP) vP t.length nw.length _ _ oP1 hP1 (ints_one _) (by omega) (by omega) (by omega)
  obtain ⟨a2, c2, rfl⟩ := own_form O2
  have H3 : Has w2 g 40 #[.slice a1 (t.length + nw.length) c1, .slice aP t.length cP] := H2.grown G2 (has_not_own H2 oP1 (by decide))
  have H4 : Has (w2.setCell ⟨g, 1, none⟩ (.slice a2 (t.length + nw.length) c2)) g 40 #[.slice a1 (t.length + nw.length) c1, .slice a2 (t.length + nw.length) c2] := H3.set 1 _
  have GG2 := gr_set w2 g 1 (.slice a2 (t.length + nw.length) c2)
  have hend : RT (w2.setCell ⟨g, 1, none⟩ (.slice a2 (t.length + nw.length) c2)) g base (t ++ nw) := by
    refine ⟨_, _, H4, ?_, ?_⟩
    · have k := own_still oP1 hO1 (by decide) G2
      exact own_to (k.kept GG2 (.inr (has_not_own H3 k (by decide)).symm)) (by simp) (by rw [List.map_append, svs_append])
    · exact own_to (O2.kept GG2 (.inr (has_not_own H3 O2 (by decide)).symm)) (by simp) (by rw [List.map_append, ints_append])
  have hrk : Rk base w (w2.setCell ⟨g, 1, none⟩ (.slice a2 (t.length + nw.length) c2)) := by
    have k1 : Rk base w w1 := Rk.of_grown G1 (fun r hr => own_obj oN hr rfl) hb
    have k2 : Rk base w1 W1 := Rk.of_grown GG (fun r hr => by cases hr; exact ⟨hg, _, H1, rfl⟩) (by omega)
    have k3 : Rk base W1 w2 := Rk.of_grown G2 (fun r hr => own_obj oP1 hr rfl) (by omega)
    have k4 : Rk base w2 (w2.setCell ⟨g, 1, none⟩ (.slice a2 (t.length + nw.length) c2)) := Rk.of_grown GG2 (fun r hr => by cases hr; exact ⟨hg, _, H3, rfl⟩) (by have := G2.size; omega)
    exact ((k1.trans k2).trans k3).trans k4
  have f0 : w1.frozen? ⟨g, 0, none⟩ = false := H1.free 0
  have f1 : w2.frozen? ⟨g, 1, none⟩ = false := H3.free 1
  have e0 : w.cell? ⟨g, 0, none⟩ = some (.slice aU t.length cU) := by rw [hH.cell]; rfl
  have e1 : w1.cell? ⟨g, 0, none⟩ = some (.slice aU t.length cU) := by rw [H1.cell]; rfl
  have e2 : W1.cell? ⟨g, 1, none⟩ = some (.slice aP t.length cP) := by rw [H2.cell]; rfl
  have e3 : w2.cell? ⟨g, 1, none⟩ = some (.slice aP t.length cP) := by rw [H3.cell]; rfl
  have HE := Lib.hid hend
  have HK := Lib.hid hrk
  have R1 := Lib.hid hr1
  have R2 := Lib.hid hr2
  rw [← hW1] at R2 e2
  clear hend hrk hr1 hr2 O1 O2 hO1 oP1 hP1 H1 H2 H3 H4 GG GG2 G1 G2 hH oN oP hN hP hW1
  go_enter Tryd.func95, Tryd.ntmps95
  go_wp2_with (first
    | (at_builtin; refine wpList_append_run rfl (.tmp 10) (.tmp 11) _ _ rfl _ _ rfl rfl (R := fun v' w' => v' = .slice a1 (t.length + nw.length) c1 ∧ w' = w1) ⟨_, _, R1.out, rfl, rfl⟩ ?_; rintro v' w' ⟨rfl, rfl⟩)
    | (at_builtin; refine wpList_append_run rfl (.tmp 19) (.tmp 20) _ _ rfl _ _ rfl rfl (R := fun v' w' => v' = .slice a2 (t.length + nw.length) c2 ∧ w' = w2) ⟨_, _, R2.out, rfl, rfl⟩ ?_; rintro v' w' ⟨rfl, rfl⟩))
  go_end0
  exact ⟨rfl, HE.out, HK.out⟩
end Go.Proofs.YtalghgaadcdhhaaDoor
/- The document's answer to writing a name. -/
namespace Go.Proofs.YtalghgaadcdhhaaDoor
open Go.RowKit

theorem rSplit_no (s : ByteArray) (w : World) (hs : s.size ≤ 140737488355328) (h : Nm.split s.data.toList = none) :
    Calls Tryd.prog 63 #[.string s] w fun e w' => ∃ v, e = .returned (.tuple #[v, .bool false]) ∧ Below w.heap.size w w' :=
  (Split_any s w hs).mono fun _ _ hp => by rw [h] at hp; obtain ⟨v, hb, he⟩ := hp; exact ⟨v, he, hb⟩
theorem rSplit_yes (s : ByteArray) (ls : List (List UInt8)) (w : World) (hs : s.size ≤ 140737488355328) (h : Nm.split s.data.toList = some ls) :
    Calls Tryd.prog 63 #[.string s] w fun e w' => ∃ ad cp, e = .returned (.tuple #[.slice ad ls.length cp, .bool true]) ∧ w'.ownsRow w.heap.size 9 1 (.slice ad ls.length cp) ls.length (svs ls) ∧ Below w.heap.size w w' :=
  (Split_any s w hs).mono fun _ _ hp => by
    rw [h] at hp
    obtain ⟨v, hb, he, ho⟩ := hp
    obtain ⟨ad, cp, rfl⟩ := own_form ho
    exact ⟨ad, cp, he, ho, hb⟩
theorem own_tail {w : World} {b n g c m : Nat} {e : TypeId} {ls : List (List UInt8)} (h : w.ownsRow b e 1 (.slice (some ⟨g, 0, none⟩) n c) n (svs ls)) (hn : n = ls.length) (hm : m ≤ n) :
    Rd w w.heap.size (.slice (some ⟨g, m, none⟩) (n - m) (c - m)) (ls.drop m) := by
  subst hn
  have hg : g < w.heap.size := (h.lt g rfl).2
  have hc := own_le h
  refine ⟨_, _, by rw [List.length_drop], by rw [List.length_drop]; omega, fun _ => ⟨g, m, rfl, hg, fun j hj => ?_⟩⟩
  rw [List.length_drop] at hj
  exact own_cells h (m + j) _ (by simp [svs, show m + j < ls.length by omega])
theorem Rk.grown_new {base : Nat} {w w' w2 : World} {row : Option Nat} (h : Rk base w w') (hg : w'.grownBy w2 row) (hr : ∀ r, row = some r → w.heap.size ≤ r) (hb : base ≤ w.heap.size) : Rk base w w2 := by
  refine ⟨h.below.grown hg (by have := h.below.size; omega) (fun k hk => by have := hr k hk; omega), fun k o hk hn => ?_⟩
  have h1 := h.same k o hk hn
  have hlt := (Array.getElem?_eq_some_iff.1 hk).1
  exact (hg.block k (Array.getElem?_eq_some_iff.1 h1).1 (fun e => by have := hr k e.symm; omega)).trans h1
theorem Rk.more {base : Nat} {w w' w2 : World} (h : Rk base w w') (hb : Below w.heap.size w' w2) (hbs : base ≤ w.heap.size) : Rk base w w2 :=
  ⟨h.below.trans (hb.mono hbs), fun k o hk hn => (hb.block k (Array.getElem?_eq_some_iff.1 hk).1).trans (h.same k o hk hn)⟩
theorem RT.below {w w' : World} {g base : Nat} {t : Tab} (h : RT w g base t) (hb : Below w.heap.size w w') : RT w' g base t := by
  obtain ⟨vN, vP, h1, h2, h3⟩ := h
  exact ⟨vN, vP, h1.below hb h1.lt, own_below h2 hb (Nat.le_refl _), own_below h3 hb (Nat.le_refl _)⟩
theorem RT.still {w w' : World} {g base b n : Nat} {t : Tab} {v : Value} {xs : List Value} (h : RT w g base t) (ho : w.ownsRow b 5 1 v n xs) (hg : w.grownBy w' v.ownBlock) : RT w' g base t := by
  obtain ⟨vN, vP, h1, h2, h3⟩ := h
  exact ⟨vN, vP, h1.grown hg (has_not_own h1 ho (by decide)), own_still ho h2 (by decide) hg, own_still ho h3 (by decide) hg⟩
theorem RT.alloc {w : World} {g base : Nat} {t : Tab} (h : RT w g base t) (o : Obj) : RT (w.alloc o) g base t := h.below ((Below.refl _ _).alloc (Nat.le_refl _) _)
/-- what a writing by the document leaves. -/
def RefDone (plain : Bool) (g base : Nat) (t : Tab) (l : List UInt8) (ls : List (List UInt8)) (w : World) (e : Ending) (w' : World) : Prop :=
  ∃ v, e = .returned (.tuple #[v, .int .i64 0]) ∧ w'.ownsRow w.heap.size 5 1 v (l ++ (Pr.pw plain t l.length ls).2).length (bv (l ++ (Pr.pw plain t l.length ls).2)) ∧ RT w' g base (Pr.pw plain t l.length ls).1 ∧ Rk base w w'

theorem rput_no (g : Nat) (A : Option Addr) (n c : Nat) (s : ByteArray) (plain : Bool) (w : World) (hs : s.size ≤ 140737488355328) (hn : Nm.split s.data.toList = none) :
    Calls Tryd.prog 74 #[.pointer (some ⟨g, 0, none⟩), .slice A n c, .string s, .bool plain] w fun e w' => e = .returned (.tuple #[.slice none 0 0, .int .i64 11]) ∧ Below w.heap.size w w' := by
  have HC := Lib.hid (rSplit_no s w hs hn)
  clear hn
  go_enter Tryd.func74, Tryd.ntmps74
  go_wp2_with (go_at_call 63; refine HC.out.mono ?_; rintro e w1 ⟨v, rfl, hb1⟩)
  go_ret2
  exact ⟨rfl, hb1⟩

/-- how far it has come. -/
def RpI (plain : Bool) (t : Tab) (l : List UInt8) (ls : List (List UInt8)) (w : World) (vL : Value) (k : Nat) (nw : Tab) (vO vN vP : Value) (wr : World) : Prop :=
  wr.ownsRow w.heap.size 5 1 vO (l ++ Nm.body (ls.take k)).length (bv (l ++ Nm.body (ls.take k))) ∧ wr.ownsRow w.heap.size 23 1 vN nw.length (svs (nw.map (·.1))) ∧ wr.ownsRow w.heap.size 3 1 vP nw.length (ints (nw.map (·.2))) ∧
  wr.ownsRow w.heap.size 9 1 vL ls.length (svs ls) ∧ Below w.heap.size w wr ∧ Pr.Cont plain t l.length ls k (t ++ nw) ∧ Pr.Ahead t (t ++ nw) ls k ∧ nw.length ≤ k

/-- one byte, then a label: the row of bytes is a label longer. -/
theorem lab_bytes (l : List UInt8) {ls : List (List UInt8)} {k : Nat} (hk : k < ls.length) : l ++ Nm.body (ls.take (k + 1)) = (l ++ Nm.body (ls.take k)) ++ [UInt8.ofNat (ls[k]'hk).length] ++ (ls[k]'hk) := by
  rw [List.take_succ_eq_append_getElem hk, Nm.body_append]
  simp [Nm.body, Nm.lab]
theorem bv_one8 (n : Nat) (h : n < 256) : [Value.int .u8 (n : Int)] = bv [UInt8.ofNat n] := by
  simp [bv]; omega

set_option maxHeartbeats 4000000 in
set_option maxRecDepth 100000 in
theorem rput_in (g base : Nat) (t : Tab) (A : Option Addr) (l : List UInt8) (c : Nat) (s : ByteArray) (plain : Bool) (ls : List (List UInt8)) (w : World) (hT : RT w g base t) (hg : base ≤ g) (hbase : base ≤ w.heap.size) (hmax : ∀ x ∈ t, x.2 ≤ 16383)
    (hs : Nm.split s.data.toList = some ls) (hnil : A = none → c = 0) (hm : l.length ≤ 140737488355000) (hr : Bs w 0 w.heap.size A l) (ht : t.length ≤ 8796093022000) :
    Calls Tryd.prog 74 #[.pointer (some ⟨g, 0, none⟩), .slice A l.length c, .string s, .bool plain] w (RefDone plain g base t l ls w) := by
  obtain ⟨hgl, hgd, h255⟩ := Nm.split_some.1 hs
  have hbl : (Nm.body ls).length + 1 ≤ 255 := by rw [← Nm.glue_length, ← hgl]; exact h255
  have hcnt := Nm.good_count hgd
  have hsz : s.size ≤ 255 := by have : s.size = s.data.toList.length := by simp
                                omega
  obtain ⟨i0, hi, hz0, hz1, hz2⟩ := info_parts Tryd.infoByte
  obtain ⟨iN, hiN, zN0, zN1, zN2⟩ := info_parts Tryd.infoApiName
  obtain ⟨iP, hiP, zP0, zP1, zP2⟩ := info_parts Tryd.infoIntT
  have HC := Lib.hid (rSplit_yes s ls w (by omega) hs)
  have HT := Lib.hid hT
  have HR := Lib.hid hr
  have HN := Lib.hid hnil
  have HG := Lib.hid hgd
  have HM := Lib.hid hmax
  clear hT hr hnil hgl h255 hs hgd hmax
  go_enter Tryd.func74, Tryd.ntmps74
  go_wp2_with (first
    | (go_at_call 63; refine HC.out.mono ?_; rintro e w1 ⟨aL, cL, rfl, oL, hb1⟩; have HL := Lib.hid oL; have HB1 := Lib.hid hb1; have hsz1 := hb1.size; clear oL hb1)
    | (at_builtin; refine wpList_append_bs rfl (.const (.slice none 0 0)) (.tmp 25) _ rfl w.heap.size _ i0 _ Tryd.underlying41 hi hz0 hz1 hz2 rfl (.slice none 0 0) 0 [] rfl (World.ownsRow_nil _ _ _ _) 0 w.heap.size A c l rfl (HR.out.keep HB1.out) HN.out (by omega) hsz1 ?_; intro v2 w2 O2 G2))
  have hL2 := own_still (World.ownsRow_nil w1 w.heap.size 5 1) HL.out (by decide) G2
  have hB2 : Below w.heap.size w w2 := HB1.out.grown G2 hsz1 (fun k hk => by simp [Value.ownBlock] at hk)
  have H0 : Hid (RpI plain t l ls w (.slice aL ls.length cL) 0 [] v2 (.slice none 0 0) (.slice none 0 0) w2) := by
    refine ⟨own_to O2 (by simp [Nm.body]) (by simp [Nm.body]), World.ownsRow_nil _ _ _ _, World.ownsRow_nil _ _ _ _, hL2, hB2, ?_, ?_, Nat.le_refl _⟩
    · rw [List.append_nil]; exact Pr.Cont.zero _ _ _ _
    · rw [List.append_nil]; exact Pr.Ahead.zero _ _
  clear hL2 hB2 O2 G2 HL HB1 hsz1 HC
  go_loopw [12, 13, 14, 15] (fun vO vN vP i wr => ∃ (k : Nat) (nw : Tab), i = .int .i64 k ∧ k ≤ ls.length ∧ Hid (RpI plain t l ls w (.slice aL ls.length cL) k nw vO vN vP wr)) (fun _ _ _ i _ => ls.length - (intOf i).toNat)
  case atStart => exact ⟨0, [], rfl, Nat.zero_le _, H0.out⟩
  case round =>
    obtain ⟨k, nw, rfl, hk, HI⟩ := hrel
    obtain ⟨oO, oN, oP, oL, hbw, hcont, hah, hnl⟩ := HI.out
    have hszw := hbw.size
    obtain ⟨nO, hnO⟩ : ∃ nO, (l ++ Nm.body (ls.take k)).length = nO := ⟨_, rfl⟩
    have hnO2 : nO ≤ l.length + 255 := by rw [← hnO, List.length_append]; have := Nm.body_take_le (ls := ls) (i := k); omega
    obtain ⟨aO, cO, rfl⟩ := own_form oO
    obtain ⟨aN, cN, rfl⟩ := own_form oN
    obtain ⟨aP, cP, rfl⟩ := own_form oP
    by_cases hlt : k < ls.length
    · obtain ⟨gL, rfl, hcL, hcell⟩ := own_at oL hlt
      have hrd := own_tail oL rfl (m := k) (by omega)
      have hGL := Glue_any wr.heap.size _ (ls.drop k) wr hrd (Nat.le_refl _) (by rw [List.length_drop]; omega) (fun x hx => by have := HG.out x (List.mem_of_mem_drop hx); omega)
      have hcLk : ¬ cL = k := by omega
      have HGL := Lib.hid hGL
      clear hrd hGL
      have hgl255 : (Nm.glue (ls.drop k)).length ≤ 255 := by
        have h1 := Nm.glue_length (ls.drop k)
        have h2 : (Nm.body ls).length = (Nm.body (ls.take k)).length + (Nm.body (ls.drop k)).length := by rw [← List.length_append, ← Nm.body_append, List.take_append_drop]
        omega
      have hfind : ∀ W, Below w.heap.size w W → Calls Tryd.prog 94 #[.pointer (some ⟨g, 0, none⟩), sv (Nm.glue (ls.drop k))] W fun e w' => e = .returned (.int .i64 (findI t (Nm.glue (ls.drop k)))) ∧ W = w' := fun W hW =>
        find_any W g base t ⟨(Nm.glue (ls.drop k)).toArray⟩ (HT.out.below hW) (by omega)
      have hmx := findI_max (n := Nm.glue (ls.drop k)) HM.out
      have hah2 := hah k (Nat.le_refl _) hlt
      obtain ⟨R, hR⟩ : ∃ R, Nm.glue (ls.drop k) = R := ⟨_, rfl⟩
      rw [hR] at HGL hfind hmx hah2 hgl255
      have HR2 := Lib.hid hR
      have HF := Lib.hid hfind
      have HO := Lib.hid oO
      have HON := Lib.hid oN
      have HOP := Lib.hid oP
      have HOL := Lib.hid oL
      have HBW := Lib.hid hbw
      have HCO := Lib.hid hcont
      have HAH := Lib.hid hah
      have HNO := Lib.hid hnO
      rw [HNO.out] at HO
      clear hfind hR oO oN oP oL hbw hcont hah hcell hnO
      by_cases hf : 0 ≤ findI t R
      · obtain ⟨p, hp⟩ : ∃ p : Nat, findI t R = p := ⟨(findI t R).toNat, by omega⟩
        have hp16 : p ≤ 16383 := by omega
        rw [hp] at HF hah2
        cases plain with
        | false =>
          have hpw := HCO.out.ptr hlt (by rw [HR2.out, hah2]; omega)
          rw [HR2.out, hah2] at hpw
          have HPW := Lib.hid hpw
          clear hpw hp hf hmx hah2
          rw [HNO.out]
          go_wp2_with (first
            | (go_at_call 93; refine HGL.out.mono ?_; rintro e w5 ⟨rfl, hb5⟩; have HB5 := Lib.hid (HBW.out.trans (hb5.mono hszw)); have OO5 := Lib.hid (own_below HO.out hb5 (Nat.le_refl _)); have ON5 := Lib.hid (own_below HON.out hb5 (Nat.le_refl _)); have OP5 := Lib.hid (own_below HOP.out hb5 (Nat.le_refl _)); have OL5 := Lib.hid (own_below HOL.out hb5 (Nat.le_refl _)); have hs5 := hb5.size; have c5 := own_cells OL5.out k (sv (ls[k]'hlt)) (by simp [svs, hlt]); clear hb5)
            | (go_at_call 94; refine (HF.out _ HB5.out).mono ?_; rintro e w' ⟨rfl, rfl⟩)
            | (go_at_call 95; refine (keep_any _ g base w.heap.size t nw _ _ (HT.out.below HB5.out) hg ON5.out OP5.out (by omega) (by omega)).mono ?_; rintro e w6 ⟨rfl, hT6, hK6⟩; have HK6 := Lib.hid hK6; have HT6 := Lib.hid hT6; have hs6 := hK6.below.size; have OO6 := Lib.hid (hK6.own OO5.out rfl); clear hK6 hT6)
            | (at_builtin; refine wpList_append_new rfl (.tmp 50) (.tmp 58) _ rfl _ i0 _ 1 Tryd.underlying41 hi hz0 hz1 hz2 rfl w.heap.size w6 _ nO _ rfl OO6.out (Below.refl _ _) (by omega) [.int .u8 (192 + (p : Int) / 256), .int .u8 ((p : Int) % 256)] (by simp [Value.oneCell']) _ 2 rfl rfl (by omega) (by omega) ?_; intro v9 w9 O9 B9 G9))
          go_ret2
          have hbe := bv_beb2 (49152 + p) (a := 192 + (p : Int) / 256) (b := (p : Int) % 256) (by omega) (by omega)
          refine ⟨_, rfl, ?_, ?_, ?_⟩
          · rw [HPW.out]
            refine own_to O9 ?_ ?_
            · rw [← List.append_assoc, List.length_append, HNO.out]; simp [Oc.beb]
            · rw [hbe, ← bv_append, List.append_assoc]; rfl
          · rw [HPW.out]
            exact (HT6.out.alloc _).still (own_alloc OO6.out _) G9
          · exact ((Rk.of_below HB5.out hbase).trans HK6.out).more B9 hbase
        | true =>
          have hlk := HG.out (ls[k]'hlt) (List.getElem_mem hlt)
          have hst := HCO.out.step hlt (fun h => by cases h.2)
          have hsa := HAH.out.step (p := l.length + (Nm.body (ls.take k)).length) hlt
          rw [HR2.out, Pr.rem_there (by rw [hah2]; omega)] at hst hsa
          have HST := Lib.hid hst
          have HSA := Lib.hid hsa
          have hlk2 := hlk.2
          clear hp hf hmx hah2 hst hsa hlk
          rw [HNO.out]
          go_wp2_with (first
            | (go_at_call 93; refine HGL.out.mono ?_; rintro e w5 ⟨rfl, hb5⟩; have HB5 := Lib.hid (HBW.out.trans (hb5.mono hszw)); have OO5 := Lib.hid (own_below HO.out hb5 (Nat.le_refl _)); have ON5 := Lib.hid (own_below HON.out hb5 (Nat.le_refl _)); have OP5 := Lib.hid (own_below HOP.out hb5 (Nat.le_refl _)); have OL5 := Lib.hid (own_below HOL.out hb5 (Nat.le_refl _)); have hs5 := hb5.size; have c5 := own_cells OL5.out k (sv (ls[k]'hlt)) (by simp [svs, hlt]); clear hb5)
            | (go_at_call 94; refine (HF.out _ HB5.out).mono ?_; rintro e w' ⟨rfl, rfl⟩)
            | (at_builtin; refine wpList_append_new rfl (.tmp 76) (.tmp 83) _ rfl _ i0 _ 1 Tryd.underlying41 hi hz0 hz1 hz2 rfl w.heap.size w _ nO _ rfl OO5.out HB5.out (Nat.le_refl _) [.int .u8 ((ls[k]'hlt).length : Nat)] (by simp [Value.oneCell']) _ 1 rfl rfl (by omega) (by omega) ?_; intro v7 w7 O7 B7 G7; have OL7 := Lib.hid (own_still (own_alloc OO5.out _) (own_alloc OL5.out _) (by decide) G7); have c7 := own_cells OL7.out k (sv (ls[k]'hlt)) (by simp [svs, hlt]); have HO7 := Lib.hid O7; have HB7 := Lib.hid B7; have HG7 := Lib.hid G7; have hs7 := B7.size; clear O7 B7 G7)
            | (at_builtin; refine Lib.wpList_append_own_string _ rfl (.tmp 85) (.tmp 89) _ _ rfl w.heap.size _ i0 Tryd.underlying41 Tryd.underlying9 hi hz0 hz1 hz2 _ (nO + 1) _ rfl HO7.out ⟨(ls[k]'hlt).toArray⟩ rfl (by rw [mk_size]; unfold maxLen; omega) (by rw [mk_size]; omega) hs7 ?_; intro v8 w8 O8 G8 _))
          go_roundw
          case rel =>
            have hB8 : Below w.heap.size w w8 := HB7.out.grown G8 hs7 (fun r hr => (HO7.out.lt r hr).1)
            refine ⟨k + 1, nw, by go_num, by omega, ?_, own_still HO7.out (own_still (own_alloc OO5.out _) (own_alloc ON5.out _) (by decide) HG7.out) (by decide) G8, own_still HO7.out (own_still (own_alloc OO5.out _) (own_alloc OP5.out _) (by decide) HG7.out) (by decide) G8, own_still HO7.out OL7.out (by decide) G8, hB8, HST.out, HSA.out, by omega⟩
            refine own_to O8 ?_ ?_
            · rw [lab_bytes l hlt, mk_size, List.length_append, List.length_append, HNO.out]; rfl
            · rw [lab_bytes l hlt, strCells_bv, bv_one8 _ (by omega)]; simp only [bv_append]
          case measure => simp [intOf]; omega
      · have hlk := HG.out (ls[k]'hlt) (List.getElem_mem hlt)
        have hst := HCO.out.step hlt (fun h => absurd h.1 (by rw [HR2.out, hah2]; exact hf))
        have hsa := HAH.out.step (p := l.length + (Nm.body (ls.take k)).length) hlt
        have hneg := findI_neg hf
        have hnO3 := HNO.out
        rw [List.length_append] at hnO3
        rw [HR2.out, hnO3] at hst hsa
        rw [hneg] at HF
        have hlk2 := hlk.2
        by_cases hfar : 16383 < nO
        · rw [Pr.rem_far hfar] at hst hsa
          have HST := Lib.hid hst
          have HSA := Lib.hid hsa
          clear hf hmx hah2 hst hsa hlk hneg hnO3
          rw [HNO.out]
          go_wp2_with (first
            | (go_at_call 93; refine HGL.out.mono ?_; rintro e w5 ⟨rfl, hb5⟩; have HB5 := Lib.hid (HBW.out.trans (hb5.mono hszw)); have OO5 := Lib.hid (own_below HO.out hb5 (Nat.le_refl _)); have ON5 := Lib.hid (own_below HON.out hb5 (Nat.le_refl _)); have OP5 := Lib.hid (own_below HOP.out hb5 (Nat.le_refl _)); have OL5 := Lib.hid (own_below HOL.out hb5 (Nat.le_refl _)); have hs5 := hb5.size; have c5 := own_cells OL5.out k (sv (ls[k]'hlt)) (by simp [svs, hlt]); clear hb5)
            | (go_at_call 94; refine (HF.out _ HB5.out).mono ?_; rintro e w' ⟨rfl, rfl⟩)
            | (at_builtin; refine wpList_append_new rfl (.tmp 76) (.tmp 83) _ rfl _ i0 _ 1 Tryd.underlying41 hi hz0 hz1 hz2 rfl w.heap.size w _ nO _ rfl OO5.out HB5.out (Nat.le_refl _) [.int .u8 ((ls[k]'hlt).length : Nat)] (by simp [Value.oneCell']) _ 1 rfl rfl (by omega) (by omega) ?_; intro v7 w7 O7 B7 G7; have OL7 := Lib.hid (own_still (own_alloc OO5.out _) (own_alloc OL5.out _) (by decide) G7); have c7 := own_cells OL7.out k (sv (ls[k]'hlt)) (by simp [svs, hlt]); have HO7 := Lib.hid O7; have HB7 := Lib.hid B7; have HG7 := Lib.hid G7; have hs7 := B7.size; clear O7 B7 G7)
            | (at_builtin; refine Lib.wpList_append_own_string _ rfl (.tmp 85) (.tmp 89) _ _ rfl w.heap.size _ i0 Tryd.underlying41 Tryd.underlying9 hi hz0 hz1 hz2 _ (nO + 1) _ rfl HO7.out ⟨(ls[k]'hlt).toArray⟩ rfl (by rw [mk_size]; unfold maxLen; omega) (by rw [mk_size]; omega) hs7 ?_; intro v8 w8 O8 G8 _))
          go_roundw
          case rel =>
            have hB8 : Below w.heap.size w w8 := HB7.out.grown G8 hs7 (fun r hr => (HO7.out.lt r hr).1)
            refine ⟨k + 1, nw, by go_num, by omega, ?_, own_still HO7.out (own_still (own_alloc OO5.out _) (own_alloc ON5.out _) (by decide) HG7.out) (by decide) G8, own_still HO7.out (own_still (own_alloc OO5.out _) (own_alloc OP5.out _) (by decide) HG7.out) (by decide) G8, own_still HO7.out OL7.out (by decide) G8, hB8, HST.out, HSA.out, by omega⟩
            refine own_to O8 ?_ ?_
            · rw [lab_bytes l hlt, mk_size, List.length_append, List.length_append, HNO.out]; rfl
            · rw [lab_bytes l hlt, strCells_bv, bv_one8 _ (by omega)]; simp only [bv_append]
          case measure => simp [intOf]; omega
        · rw [Pr.rem_new (by rw [hah2]; exact hf) (by omega), List.append_assoc] at hst hsa
          have HST := Lib.hid hst
          have HSA := Lib.hid hsa
          clear hf hmx hah2 hst hsa hlk hneg hnO3
          rw [HNO.out]
          go_wp2_with (first
            | (go_at_call 93; refine HGL.out.mono ?_; rintro e w5 ⟨rfl, hb5⟩; have HB5 := Lib.hid (HBW.out.trans (hb5.mono hszw)); have OO5 := Lib.hid (own_below HO.out hb5 (Nat.le_refl _)); have ON5 := Lib.hid (own_below HON.out hb5 (Nat.le_refl _)); have OP5 := Lib.hid (own_below HOP.out hb5 (Nat.le_refl _)); have OL5 := Lib.hid (own_below HOL.out hb5 (Nat.le_refl _)); have hs5 := hb5.size; have c5 := own_cells OL5.out k (sv (ls[k]'hlt)) (by simp [svs, hlt]); clear hb5)
            | (go_at_call 94; refine (HF.out _ HB5.out).mono ?_; rintro e w' ⟨rfl, rfl⟩)
            | (at_builtin; refine wpList_append_new rfl (.tmp 67) (.tmp 69) _ rfl _ iN _ 16 Tryd.underlying37 hiN zN0 zN1 zN2 rfl w.heap.size w _ nw.length _ rfl ON5.out HB5.out (Nat.le_refl _) [sv R] (by simp [Value.oneCell']) _ 1 rfl rfl (by omega) (by omega) ?_; intro vN6 wN6 O6 B6 G6; have OO6 := Lib.hid (own_still (own_alloc ON5.out _) (own_alloc OO5.out _) (by decide) G6); have OP6 := Lib.hid (own_still (own_alloc ON5.out _) (own_alloc OP5.out _) (by decide) G6); have OL6 := Lib.hid (own_still (own_alloc ON5.out _) (own_alloc OL5.out _) (by decide) G6); have ON6 := Lib.hid O6; have HB6 := Lib.hid B6; have hs6 := B6.size; have c6 := own_cells OL6.out k (sv (ls[k]'hlt)) (by simp [svs, hlt]); clear O6 B6 G6)
            | (at_builtin; refine wpList_append_new rfl (.tmp 71) (.tmp 74) _ rfl _ iP _ 8 Tryd.underlying38 hiP zP0 zP1 zP2 rfl w.heap.size w _ nw.length _ rfl OP6.out HB6.out (Nat.le_refl _) [.int .i64 (nO : Nat)] (by simp [Value.oneCell']) _ 1 rfl rfl (by omega) (by omega) ?_; intro vP9 w9 O9 B9 G9; have OO9 := Lib.hid (own_still (own_alloc OP6.out _) (own_alloc OO6.out _) (by decide) G9); have ON9 := Lib.hid (own_still (own_alloc OP6.out _) (own_alloc ON6.out _) (by decide) G9); have OL9 := Lib.hid (own_still (own_alloc OP6.out _) (own_alloc OL6.out _) (by decide) G9); have OP9 := Lib.hid O9; have HB9 := Lib.hid B9; have hs9 := B9.size; have c9 := own_cells OL9.out k (sv (ls[k]'hlt)) (by simp [svs, hlt]); clear O9 B9 G9)
            | (at_builtin; refine wpList_append_new rfl (.tmp 76) (.tmp 83) _ rfl _ i0 _ 1 Tryd.underlying41 hi hz0 hz1 hz2 rfl w.heap.size w _ nO _ rfl OO9.out HB9.out (Nat.le_refl _) [.int .u8 ((ls[k]'hlt).length : Nat)] (by simp [Value.oneCell']) _ 1 rfl rfl (by omega) (by omega) ?_; intro v7 w7 O7 B7 G7; have OL7 := Lib.hid (own_still (own_alloc OO9.out _) (own_alloc OL9.out _) (by decide) G7); have c7 := own_cells OL7.out k (sv (ls[k]'hlt)) (by simp [svs, hlt]); have HO7 := Lib.hid O7; have HB7 := Lib.hid B7; have HG7 := Lib.hid G7; have hs7 := B7.size; clear O7 B7 G7)
            | (at_builtin; refine Lib.wpList_append_own_string _ rfl (.tmp 85) (.tmp 89) _ _ rfl w.heap.size _ i0 Tryd.underlying41 Tryd.underlying9 hi hz0 hz1 hz2 _ (nO + 1) _ rfl HO7.out ⟨(ls[k]'hlt).toArray⟩ rfl (by rw [mk_size]; unfold maxLen; omega) (by rw [mk_size]; omega) hs7 ?_; intro v8 w8 O8 G8 _))
          go_roundw
          case rel =>
            have hB8 : Below w.heap.size w w8 := HB7.out.grown G8 hs7 (fun r hr => (HO7.out.lt r hr).1)
            refine ⟨k + 1, nw ++ [(R, nO)], by go_num, by omega, ?_, own_to (own_still HO7.out (own_still (own_alloc OO9.out _) (own_alloc ON9.out _) (by decide) HG7.out) (by decide) G8) (by simp) (by rw [List.map_append, svs_append]; rfl), own_to (own_still HO7.out (own_still (own_alloc OO9.out _) (own_alloc OP9.out _) (by decide) HG7.out) (by decide) G8) (by simp) (by rw [List.map_append, ints_append]; rfl), own_still HO7.out OL7.out (by decide) G8, hB8, HST.out, HSA.out, by simp; omega⟩
            refine own_to O8 ?_ ?_
            · rw [lab_bytes l hlt, mk_size, List.length_append, List.length_append, HNO.out]; rfl
            · rw [lab_bytes l hlt, strCells_bv, bv_one8 _ (by omega)]; simp only [bv_append]
          case measure => simp [intOf]; omega
    · obtain rfl : k = ls.length := by omega
      have hpw := hcont.done
      have HPW := Lib.hid hpw
      have HO := Lib.hid oO
      have HON := Lib.hid oN
      have HOP := Lib.hid oP
      have HBW := Lib.hid hbw
      have HNO := Lib.hid hnO
      rw [HNO.out] at HO
      clear hpw oO oN oP oL hbw hcont hah hnO
      rw [HNO.out]
      go_wp2_with (first
        | (go_at_call 95; refine (keep_any _ g base w.heap.size t nw _ _ (HT.out.below HBW.out) hg HON.out HOP.out (by omega) (by omega)).mono ?_; rintro e w6 ⟨rfl, hT6, hK6⟩; have HK6 := Lib.hid hK6; have HT6 := Lib.hid hT6; have hs6 := hK6.below.size; have OO6 := Lib.hid (hK6.own HO.out rfl); clear hK6 hT6)
        | (at_builtin; refine wpList_append_new rfl (.tmp 95) (.tmp 96) _ rfl _ i0 _ 1 Tryd.underlying41 hi hz0 hz1 hz2 rfl w.heap.size w6 _ nO _ rfl OO6.out (Below.refl _ _) (by omega) [.int .u8 0] (by simp [Value.oneCell']) _ 1 rfl rfl (by omega) (by omega) ?_; intro v9 w9 O9 B9 G9))
      go_ret2
      refine ⟨_, rfl, ?_, ?_, ?_⟩
      · rw [HPW.out]
        have e1 := HNO.out
        rw [List.take_length] at e1
        refine own_to O9 ?_ ?_
        · show nO + 1 = (l ++ Nm.glue ls).length
          rw [Nm.glue, ← List.append_assoc, List.length_append, e1]; rfl
        · show _ = bv (l ++ Nm.glue ls)
          rw [List.take_length, Nm.glue, ← List.append_assoc, bv_append (l ++ Nm.body ls)]; rfl
      · rw [HPW.out]
        exact (HT6.out.alloc _).still (own_alloc OO6.out _) G9
      · exact ((Rk.of_below HBW.out hbase).trans HK6.out).more B9 hbase
end Go.Proofs.YtalghgaadcdhhaaDoor
/- Tables made, sizes, and the known names of each statement. -/
namespace Go.Proofs.YtalghgaadcdhhaaDoor
open Go.RowKit

set_option maxHeartbeats 400000 in
theorem pnew_any (w : World) :
    Calls Tryd.prog 13 #[] w fun e w' => e = .returned (.pointer (some ⟨w.heap.size, 0, none⟩)) ∧ w' = w.alloc (.cells #[.map none] 71) := by
  go_enter Tryd.func13, Tryd.ntmps13
  go_wp2
  go_ret
  exact ⟨rfl, rfl⟩
theorem Tb.new (w : World) {base : Nat} (hb : base ≤ w.heap.size) : Tb (w.alloc (.cells #[.map none] 71)) w.heap.size base none [] :=
  ⟨hb, Has.fresh w _ _, (fun x hx => by cases hx), fun _ => rfl, fun m e => by cases e⟩
theorem rIs_any (s : ByteArray) (w : World) (hs : s.size ≤ 140737488355328) :
    Calls Tryd.prog 30 #[.string s] w fun e w' => e = .returned (.bool (Nm.split s.data.toList).isSome) ∧ Below w.heap.size w w' := by
  cases h : Nm.split s.data.toList with
  | none =>
    have HC := Lib.hid (rSplit_no s w hs h)
    clear h
    go_enter Tryd.func30, Tryd.ntmps30
    go_wp2_with (go_at_call 63; refine HC.out.mono ?_; rintro e w1 ⟨v, rfl, hb1⟩)
    go_ret
    exact ⟨rfl, hb1⟩
  | some ls =>
    have HC := Lib.hid (rSplit_yes s ls w hs h)
    clear h
    go_enter Tryd.func30, Tryd.ntmps30
    go_wp2_with (go_at_call 63; refine HC.out.mono ?_; rintro e w1 ⟨ad, cp, rfl, ho, hb1⟩)
    go_ret
    exact ⟨rfl, hb1⟩
def ab : List (List UInt8) := [[97], [98]]
def cb : List (List UInt8) := [[99], [98]]
def tab1 : Tab := [([1, 97, 1, 98, 0], 0), ([1, 98, 0], 2)]
theorem ab_split : Nm.split [1, 97, 1, 98, 0] = some ab := by rfl
theorem cb_split : Nm.split [1, 99, 1, 98, 0] = some cb := by rfl
theorem ab_put : Pr.pw false [] 0 ab = (tab1, [1, 97, 1, 98, 0]) := by rfl
theorem cb_put : Pr.pw false tab1 5 cb = (tab1 ++ [([1, 99, 1, 98, 0], 5)], [1, 99, 192, 2]) := by rfl
theorem cb_take : Pr.tk [1, 97, 1, 98, 0, 1, 99, 192, 2] 5 5 1 = .ok cb 9 := by
  have h1 := Pr.pw_sound (ls := ab) (t := []) (b := []) false (Nm.split_some.1 ab_split).2.1 (by decide) (Pr.Snd.nil _)
  rw [show ([] : List UInt8).length = 0 from rfl, ab_put] at h1
  have h2 := Pr.pw_sound (ls := cb) (t := tab1) (b := [1, 97, 1, 98, 0]) false (Nm.split_some.1 cb_split).2.1 (by decide) h1.2
  rw [show ([1, 97, 1, 98, 0] : List UInt8).length = 5 from rfl, cb_put] at h2
  exact h2.1 [] 5 1 (Nat.le_refl _) (by decide)
theorem wput1 (g base : Nat) (w : World) (hT : Tb w g base none []) (hb : base ≤ w.heap.size) :
    Calls Tryd.prog 34 #[.pointer (some ⟨g, 0, none⟩), .slice none 0 0, .string ⟨#[1, 97, 1, 98, 0]⟩] w fun e w' => ∃ A c mp, e = .returned (.tuple #[.slice A 5 c, .int .i64 0]) ∧ w'.ownsRow w.heap.size 5 1 (.slice A 5 c) 5 (bv [1, 97, 1, 98, 0]) ∧ Tb w' g base mp tab1 ∧ Rg g base w w' := by
  refine (put_in g base none [] none [] 0 ⟨#[1, 97, 1, 98, 0]⟩ ab w hT hb ab_split (by simp) (fun _ => rfl) (by simp) Bs.nil (by simp)).mono ?_
  rintro e w' ⟨v, mp, rfl, h1, h2, h3⟩
  rw [show ([] : List UInt8).length = 0 from rfl, ab_put] at h1 h2
  obtain ⟨A, c, rfl⟩ := own_form h1
  exact ⟨A, c, mp, rfl, h1, h2, h3⟩
theorem wput2 (g base : Nat) (mp : Option Nat) (A : Option Addr) (c : Nat) (w : World) (hT : Tb w g base mp tab1) (hb : base ≤ w.heap.size) (ho : w.ownsRow base 5 1 (.slice A 5 c) 5 (bv [1, 97, 1, 98, 0])) :
    Calls Tryd.prog 34 #[.pointer (some ⟨g, 0, none⟩), .slice A 5 c, .string ⟨#[1, 99, 1, 98, 0]⟩] w fun e w' => ∃ A c, e = .returned (.tuple #[.slice A 9 c, .int .i64 0]) ∧ w'.ownsRow w.heap.size 5 1 (.slice A 9 c) 9 (bv [1, 97, 1, 98, 0, 1, 99, 192, 2]) ∧ Below base w w' := by
  obtain ⟨g0, hA, hc, _⟩ := own_at ho (by omega : 0 < 5)
  refine (put_in g base mp tab1 A [1, 97, 1, 98, 0] c ⟨#[1, 99, 1, 98, 0]⟩ cb w hT hb cb_split hc (fun e => by rw [hA] at e; cases e) (by simp) ((Bs.of_own ho).more (Nat.zero_le _) (Nat.le_refl _)) (by simp [tab1])).mono ?_
  rintro e w' ⟨v, mp, rfl, h1, h2, h3⟩
  rw [show ([1, 97, 1, 98, 0] : List UInt8).length = 5 from rfl, cb_put] at h1 h2
  obtain ⟨A, c, rfl⟩ := own_form h1
  exact ⟨A, c, rfl, h1, h3.below⟩
theorem wtake (A : Option Addr) (c b : Nat) (w : World) (ho : w.ownsRow b 5 1 (.slice A 9 c) 9 (bv [1, 97, 1, 98, 0, 1, 99, 192, 2])) :
    Calls Tryd.prog 108 #[.slice A 9 c, .int .i64 5] w fun e w' => e = .returned (.tuple #[.string ⟨#[1, 99, 1, 98, 0]⟩, .int .i64 9, .int .i64 0]) ∧ Below w.heap.size w w' := by
  obtain ⟨g0, hA, hc, _⟩ := own_at ho (by omega : 0 < 9)
  refine (prTake_any A [1, 97, 1, 98, 0, 1, 99, 192, 2] c 5 w hc (by simp) 0 ((Bs.of_own ho).more (Nat.zero_le _) (Nat.le_refl _))).mono ?_
  rintro e w' ⟨rfl, h⟩
  refine ⟨?_, h⟩
  unfold prTakeV
  rw [if_neg (by simp), show ((5 : Int).toNat) = 5 from rfl, cb_take]
  rfl
end Go.Proofs.YtalghgaadcdhhaaDoor
