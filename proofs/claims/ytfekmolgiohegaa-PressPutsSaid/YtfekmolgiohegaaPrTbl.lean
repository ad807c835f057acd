/- The program's table of names: a map in a field. -/
import Derived.Test.YtfekmolgiohegaaPrPut
import Derived.Test.YtfekmolgiohegaaLabels
import Derived.Test.YtfekmolgiohegaaRangeF
import Derived.Maps.OwnSet
import Derived.Maps.Views
namespace Go.Proofs.Ytfekmolgiohegaa
open Go.RowKit Go.Maps

theorem nameKey : Keyed Try.prog 32 := string_keyed Try.underlying32
theorem zero16 (w : World) : (zeroValue 56).run Try.prog w = .ok (.int .u16 0) w := by kernel_rfl
theorem key_name {s : ByteArray} (hs : s.size ≤ 140737488355328) : keyOf Try.prog 32 (.string s) = some (.string s.data.toList) := WideMaps.keyOf_string_mk Try.underlying32 (by unfold maxLen; omega)
theorem lit_key (l : List UInt8) : WideAt.IsKeyLit (.string l) := trivial
theorem lit16 {p : Int} (h0 : 0 ≤ p) (h : p ≤ 16383) : (Lit.int .u16 p).wf = true := by
  have h1 : IntKind.u16.min = 0 := rfl
  have h2 : IntKind.u16.max = 65535 := rfl
  simp [Lit.wf, h1, h2]; omega

/-- what a map's datum holds is what a table finds. -/
def Hold (D : DataW Unit) (t : Tab) : Prop :=
  IsMap D ∧ ∀ k : List UInt8, Maps.has D (.string k) = decide (0 ≤ findI t k) ∧ (0 ≤ findI t k → ∀ z, D.atKey (.string k) z = .lit (.int .u16 (findI t k)))
theorem Hold.nil : Hold (.map []) [] := ⟨isMap_empty, fun k => ⟨rfl, fun h => absurd h (by simp [findI])⟩⟩
theorem Hold.put {D : DataW Unit} {t : Tab} (h : Hold D t) (k : List UInt8) (p : Nat) (hn : ¬ 0 ≤ findI t k) : Hold (D.put (.string k) (.lit (.int .u16 p))) (t ++ [(k, p)]) := by
  refine ⟨h.1.put _ _, fun x => ?_⟩
  rw [findI_snoc]
  by_cases hx : k = x
  · subst hx
    rw [has_put_same h.1 (lit_key k), if_neg hn, if_pos rfl]
    exact ⟨by simp, fun _ z => atKey_put_same h.1 (lit_key k) _ _⟩
  · have hne : Lit.string x ≠ Lit.string k := fun e => hx (by injection e with e; exact e.symm)
    rw [has_put_other hne, (h.2 x).1, if_neg hx]
    by_cases h9 : 0 ≤ findI t x
    · rw [if_pos h9]
      exact ⟨rfl, fun _ z => by rw [atKey_put_other hne]; exact (h.2 x).2 h9 z⟩
    · rw [if_neg h9]
      exact ⟨by simp [h9], fun h8 => absurd h8 (by omega)⟩
def MapIs (w : World) (m : Nat) (t : Tab) : Prop := ∃ D : DataW Unit, w.ownsMap Try.prog 32 (plainElem Try.prog 56) m t.length D ∧ Hold D t
/-- the table in memory. -/
def Tb (w : World) (g base : Nat) (mp : Option Nat) (t : Tab) : Prop :=
  base ≤ g ∧ Has w g 49 #[.map mp] ∧ (∀ x ∈ t, x.2 ≤ 16383) ∧ (mp = none → t = []) ∧ (∀ m, mp = some m → base ≤ m ∧ MapIs w m t)
theorem Tb.cell {w : World} {g base : Nat} {mp : Option Nat} {t : Tab} (h : Tb w g base mp t) : w.cell? ⟨g, 0, none⟩ = some (.map mp) := by rw [h.2.1.cell]; rfl

/-- whatever is no map lies as it lay, but for block g; and all that lies below base. -/
structure Rg (g base : Nat) (w w' : World) : Prop where
  below : Below base w w'
  same : ∀ (k : Nat) (o : Obj), k ≠ g → w.heap[k]? = some o → isMapO o = false → w'.heap[k]? = some o
section
variable {g base : Nat} {w w' w2 : World}
theorem Rg.refl (g base : Nat) (w : World) : Rg g base w w := ⟨Below.refl _ _, fun _ _ _ h _ => h⟩
theorem Rg.trans (h : Rg g base w w') (k : Rg g base w' w2) : Rg g base w w2 := ⟨h.below.trans k.below, fun i o hi ho hn => k.same i o hi (h.same i o hi ho hn) hn⟩
theorem Rg.of_below (h : Below w.heap.size w w') (hb : base ≤ w.heap.size) : Rg g base w w' := ⟨⟨h.os, h.tape, h.output, h.size, fun k hk => h.block k (by omega)⟩, fun k o _ hk _ => (h.block k (Array.getElem?_eq_some_iff.1 hk).1).trans hk⟩
theorem Rg.of_grown {row : Option Nat} (h : w.grownBy w' row) (hr : ∀ r, row = some r → base ≤ r ∧ (r = g ∨ ∃ o, w.heap[r]? = some o ∧ isMapO o = true)) (hb : base ≤ w.heap.size) : Rg g base w w' :=
  ⟨⟨h.os, h.tape, h.output, h.size, fun k hk => h.block k (by omega) (fun e => by have := (hr k e.symm).1; omega)⟩, fun k o hg hk hn => (h.block k (Array.getElem?_eq_some_iff.1 hk).1 (fun e => by
    rcases (hr k e.symm).2 with h1 | ⟨o', h1, h2⟩
    · exact hg h1
    · rw [hk] at h1; cases h1; rw [hn] at h2; cases h2)).trans hk⟩
theorem Rg.keeps (h : Rg g base w w') {lo : Nat} (hl : g < lo) : Keeps lo w w' := ⟨h.below.size, fun k o hk ho hn => h.same k o (by omega) ho hn⟩
theorem Rg.has (h : Rg g base w w') {k : Nat} {t : TypeId} {cs : Array Value} (hk : Has w k t cs) (hn : k ≠ g) : Has w' k t cs := h.same k _ hn hk rfl
end
theorem ownsMap_obj {w : World} {m n : Nat} {D : DataW Unit} {R : Value → Option (DataW Unit × List MemPlace)} {k : TypeId} (h : w.ownsMap Try.prog k R m n D) : ∃ o, w.heap[m]? = some o ∧ isMapO o = true := by
  obtain ⟨es, c, hb, _⟩ := h
  exact ⟨_, hb, rfl⟩
theorem map_obj {w : World} {m : Nat} {t : Tab} (h : MapIs w m t) : ∃ o, w.heap[m]? = some o ∧ isMapO o = true := by
  obtain ⟨D, h1, _⟩ := h
  exact ownsMap_obj h1
theorem MapIs.grown {w w' : World} {m : Nat} {t : Tab} {row : Option Nat} (h : MapIs w m t) (hg : w.grownBy w' row) (hne : some m ≠ row) : MapIs w' m t := by
  obtain ⟨D, h1, h2⟩ := h
  exact ⟨D, h1.kept hg hne, h2⟩
/-- the table lies as it lay, where its two blocks do. -/
theorem Tb.grown {w w' : World} {g base : Nat} {mp : Option Nat} {t : Tab} {row : Option Nat} (h : Tb w g base mp t) (hg : w.grownBy w' row) (h1 : some g ≠ row) (h2 : ∀ r, row = some r → ∀ o, w.heap[r]? = some o → isMapO o = false) : Tb w' g base mp t := by
  obtain ⟨a, b, c, d, e⟩ := h
  refine ⟨a, b.grown hg h1, c, d, fun m hm => ⟨(e m hm).1, (e m hm).2.grown hg (fun e2 => ?_)⟩⟩
  obtain ⟨o, ho, ho2⟩ := map_obj (e m hm).2
  rw [h2 m e2.symm o ho] at ho2
  cases ho2
theorem Tb.below {w w' : World} {g base : Nat} {mp : Option Nat} {t : Tab} (h : Tb w g base mp t) (hb : Below w.heap.size w w') : Tb w' g base mp t := h.grown (row := none) ⟨hb.os, hb.tape, hb.output, hb.size, fun k hk _ => hb.block k hk⟩ (by simp) (fun r e => by cases e)
theorem Tb.set {w : World} {g base k i : Nat} {mp : Option Nat} {t : Tab} {u : Value} {e : TypeId} {cs : Array Value} (h : Tb w g base mp t) (hk : k ≠ g) (hc : Has w k e cs) : Tb (w.setCell ⟨k, i, none⟩ u) g base mp t :=
  h.grown (row := some k) ⟨rfl, rfl, rfl, by simp, fun j _ hj => heap_setCell_other w ⟨k, i, none⟩ j u (fun e => hj (by rw [e]))⟩ (fun e => hk (by cases e; rfl)) (fun r e o ho => by cases e; rw [show w.heap[k]? = _ from hc] at ho; cases ho; rfl)

/-- what the map answers. -/
theorem look_tb {w : World} {g base : Nat} {mp : Option Nat} {t : Tab} (h : Tb w g base mp t) {s : ByteArray} (hs : s.size ≤ 140737488355328) :
    (Instr.lookup 47 (.map mp) (.string s) true).run Try.prog w = .ok (.tuple #[.int .u16 (if 0 ≤ findI t s.data.toList then findI t s.data.toList else 0), .bool (decide (0 ≤ findI t s.data.toList))]) w := by
  obtain ⟨_, _, _, d, e⟩ := h
  rcases mp with _ | m
  · have := look_nil (w := w) true nameKey Try.underlying47 (zero16 w) (key_name hs)
    rw [this, d rfl]
    rfl
  · obtain ⟨_, D, h1, h2, h3⟩ := e m rfl
    obtain ⟨v, ps, hrun, hv⟩ := h1.look_ok nameKey Try.underlying47 (zero16 w) (plainElem_int Try.underlying56 (by decide)) (key_name hs)
    obtain ⟨c, rfl, hc, hwc⟩ := plainElem_int_inv Try.underlying56 hv
    rw [hrun, (h3 _).1]
    have hc1 := congrArg Prod.fst hc
    simp only at hc1
    by_cases h9 : 0 ≤ findI t s.data.toList
    · rw [(h3 _).2 h9] at hc1
      rw [if_pos h9]
      injection hc1 with hc1
      injection hc1 with _ hc1
      rw [hc1]
    · rw [atKey_of_not_has (by rw [(h3 _).1]; simp [h9])] at hc1
      rw [if_neg h9]
      injection hc1 with hc1
      injection hc1 with _ hc1
      rw [hc1]
/-- a store into the map. -/
theorem store_tb {w : World} {m : Nat} {t : Tab} (h : MapIs w m t) {s : ByteArray} (hs : s.size ≤ 140737488355328) (hn : ¬ 0 ≤ findI t s.data.toList) (hl : t.length ≤ 140737488355000) {p : Nat} (hp : p ≤ 16383) :
    ∃ w', (Instr.mapUpdate 47 (.map (some m)) (.string s) (.int .u16 p)).run Try.prog w = .ok () w' ∧ MapIs w' m (t ++ [(s.data.toList, p)]) ∧ w.grownBy w' (some m) := by
  obtain ⟨D, h1, h2⟩ := h
  obtain ⟨w', hr, a, b⟩ := h1.update nameKey Try.underlying47 (by unfold maxLen; omega) (key_name hs) (plainElem_int (H := Unit) Try.underlying56 (lit16 (p := p) (by omega) (by omega)))
  exact ⟨w', hr, ⟨_, by rw [List.length_append]; exact a, h2.put _ _ hn⟩, b⟩

theorem pcheck_any (g : Nat) (s : ByteArray) (w : World) (hs : s.size ≤ 140737488355328) :
    Calls Try.prog 21 #[.pointer (some ⟨g, 0, none⟩), .string s] w fun e w' => e = .returned (.int .i64 (if (Nm.split s.data.toList).isSome then 0 else 11)) ∧ Below w.heap.size w w' := by
  have HC := Lib.hid (Check_any s w hs)
  go_enter Try.func21, Try.ntmps21
  generalize (if (Nm.split s.data.toList).isSome then (0 : Int) else 11) = r at *
  go_wp2_with (go_at_call 20; refine HC.out.mono ?_; rintro e w1 ⟨rfl, hb1⟩)
  go_ret
  exact ⟨rfl, hb1⟩
theorem pcheck_nil (s : ByteArray) (w : World) :
    Calls Try.prog 21 #[.pointer none, .string s] w fun e w' => e = .returned (.int .i64 8) ∧ w = w' := by
  go_enter Try.func21, Try.ntmps21
  go_wp2
  go_ret
  exact ⟨rfl, rfl⟩

set_option maxHeartbeats 800000 in
theorem remember_any (g base : Nat) (mp : Option Nat) (t : Tab) (s : ByteArray) (p : Nat) (w : World) (h : Tb w g base mp t) (hb : base ≤ w.heap.size) (hs : s.size ≤ 140737488355328) (hl : t.length ≤ 140737488355000) (hp : p ≤ 281474976710656) :
    Calls Try.prog 23 #[.pointer (some ⟨g, 0, none⟩), .string s, .int .i64 p] w fun e w' => e = .returned (.tuple #[]) ∧ ∃ mp', Tb w' g base mp' (Pr.rem t s.data.toList p) ∧ Rg g base w w' := by
  have c0 := h.cell
  have f0 := h.2.1.free 0
  have hlk := look_tb h hs
  have HT := Lib.hid h
  have hq := fun (w : World) (r : Option Nat) => run_eql_map_nil (P := Try.prog) w 47 32 56 r Try.underlying47
  clear h
  by_cases hf : 0 ≤ findI t s.data.toList
  · have HR := Lib.hid (Pr.rem_there (p := p) hf)
    rw [if_pos hf, decide_eq_true hf] at hlk
    clear hf
    go_enter Try.func23, Try.ntmps23
    go_wp2
    refine bodyPost_ret (results_none rfl _ _ _) rfl ?_
    exact ⟨rfl, mp, by rw [HR.out]; exact HT.out, Rg.refl _ _ _⟩
  · rw [if_neg hf, decide_eq_false hf] at hlk
    by_cases hfar : 16383 < p
    · have HR := Lib.hid (Pr.rem_far (t := t) (k := s.data.toList) hfar)
      clear hf
      go_enter Try.func23, Try.ntmps23
      go_wp2
      refine bodyPost_ret (results_none rfl _ _ _) rfl ?_
      exact ⟨rfl, mp, by rw [HR.out]; exact HT.out, Rg.refl _ _ _⟩
    · have HR := Lib.hid (Pr.rem_new hf (by omega : p ≤ 16383))
      have HF := Lib.hid hf
      have hw16 : IntKind.u16.wrap (p : Int) = p := by rw [IntKind.wrap_u16]; omega
      clear hf
      rcases mp with _ | m
      · have hnil := HT.out.2.2.2.1 rfl
        have hmk := @run_makeMap Try.prog
        have hM : MapIs ((w.alloc (.map #[] 0)).setCell ⟨g, 0, none⟩ (.map (some w.heap.size))) w.heap.size [] := by
          refine MapIs.grown (w := w.alloc (.map #[] 0)) (row := some g) ⟨_, World.ownsMap_made _ _ _ _, Hold.nil⟩ ⟨rfl, rfl, rfl, by simp, fun j _ hj => heap_setCell_other _ ⟨g, 0, none⟩ j _ (fun e => hj (by rw [e]))⟩ (fun e => by have := HT.out.2.1.lt; injection e with e; omega)
        obtain ⟨w2, hr2, hM2, hg2⟩ := store_tb hM hs (by simp [findI]) (by simp) (p := p) (by omega)
        have hH1 := HT.out.2.1.alloc (.map #[] 0)
        have c1 : (w.alloc (.map #[] 0)).cell? ⟨g, 0, none⟩ = some (.map none) := by rw [hH1.cell]; rfl
        have f1 : (w.alloc (.map #[] 0)).frozen? ⟨g, 0, none⟩ = false := hH1.free 0
        have c2 : ((w.alloc (.map #[] 0)).setCell ⟨g, 0, none⟩ (.map (some w.heap.size))).cell? ⟨g, 0, none⟩ = some (.map (some w.heap.size)) := by rw [(hH1.set 0 _).cell]; rfl
        clear hH1
        have HM := Lib.hid hM
        have HM2 := Lib.hid hM2
        have HG2 := Lib.hid hg2
        have HN := Lib.hid hnil
        clear hM hM2 hg2 hnil
        go_enter Try.func23, Try.ntmps23
        go_wp2
        go_end0
        have hlt := HT.out.2.1.lt
        have hH : Has ((w.alloc (.map #[] 0)).setCell ⟨g, 0, none⟩ (.map (some w.heap.size))) g 49 #[.map (some w.heap.size)] := (HT.out.2.1.alloc _).set 0 _
        refine ⟨rfl, ⟨some w.heap.size, HT.out.1, hH.grown HG2.out (fun e => by injection e with e; omega), ?_, (fun e => by cases e), fun m' e => ?_⟩, ?_⟩
        · exact Pr.rem_max HT.out.2.2.1
        · cases e
          exact ⟨hb, by rw [HR.out, HN.out]; exact HM2.out⟩
        · refine Rg.trans (w' := (w.alloc (.map #[] 0)).setCell ⟨g, 0, none⟩ (.map (some w.heap.size))) ?_ (Rg.of_grown HG2.out (fun r e => by cases e; exact ⟨hb, .inr (map_obj HM.out)⟩) (by simp; omega))
          refine Rg.trans (w' := w.alloc (.map #[] 0)) (Rg.of_below ((Below.refl _ _).alloc (Nat.le_refl _) _) hb) (Rg.of_grown (row := some g) ⟨rfl, rfl, rfl, by simp, fun j _ hj => heap_setCell_other _ ⟨g, 0, none⟩ j _ (fun e => hj (by rw [e]))⟩ (fun r e => by cases e; exact ⟨HT.out.1, .inl rfl⟩) (by simp; omega))
      · obtain ⟨hbm, hMI⟩ := HT.out.2.2.2.2 m rfl
        obtain ⟨w2, hr2, hM2, hg2⟩ := store_tb hMI hs HF.out hl (p := p) (by omega)
        have HMI := Lib.hid hMI
        have HM2 := Lib.hid hM2
        have HG2 := Lib.hid hg2
        clear hM2 hg2 hMI
        go_enter Try.func23, Try.ntmps23
        go_wp2
        go_end0
        obtain ⟨om, hom, hom2⟩ := map_obj HMI.out
        refine ⟨rfl, ⟨some m, HT.out.1, HT.out.2.1.grown HG2.out (fun e => ?_), Pr.rem_max HT.out.2.2.1, (fun e => by cases e), fun m' e => ?_⟩, Rg.of_grown HG2.out (fun r e => by cases e; exact ⟨hbm, .inr ⟨om, hom, hom2⟩⟩) hb⟩
        · injection e with e
          subst e
          rw [show w.heap[g]? = _ from HT.out.2.1] at hom
          cases hom
          cases hom2
        · cases e
          exact ⟨hbm, by rw [HR.out]; exact HM2.out⟩
end Go.Proofs.Ytfekmolgiohegaa
