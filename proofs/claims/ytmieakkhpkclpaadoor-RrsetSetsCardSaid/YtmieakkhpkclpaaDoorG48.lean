/- Texts of the proofs, merged. -/
import Derived.Test.YtmieakkhpkclpaaDoorG46
import Derived.Test.YtmieakkhpkclpaaDoorG7
import Derived.Deep.RegionHeld3
import Derived.BigQuiet
import Derived.Test.YtmieakkhpkclpaaDoorG33
import Derived.Test.YtmieakkhpkclpaaDoorG22
import Derived.Test.YtmieakkhpkclpaaDoorG36
import Derived.Test.YtmieakkhpkclpaaDoorG37
/- Alike: are two records alike, as the document says. -/
namespace Go.Proofs.YtmieakkhpkclpaaDoor
open Go.RowKit

def kvB (a b : Kv) : Bool := (a.nm.toList == b.nm.toList) && (((a.ty : Int) == b.ty) && ((a.cl : Int) == b.cl))
def Kv.cells (k : Kv) : Array Value := #[.string k.nm, .int .u16 k.ty, .int .u16 k.cl]
set_option maxRecDepth 100000 in
theorem kvRun (W : World) (a b : Kv) (d : Nat) : (Op.equalIn (d + 5) 26 (.agg a.cells) (.agg b.cells)).run Tryd.prog W = .ok (kvB a b) W := by
  rw [run_equalIn_agg W (d + 4) _ _ _ (by kernel_rfl) Tryd.stoodInHeld26]
  have hf : (Tryd.prog.fieldsOf 26).toList.map (fun f => (f.name != "_", f.type, f.offset)) = [(true, 23, 0), (true, 24, 1), (true, 24, 2)] := by kernel_rfl
  have hlen : (Tryd.prog.fieldsOf 26).toList.length = 3 := by kernel_rfl
  generalize (Tryd.prog.fieldsOf 26).toList = fs at *
  match fs, hlen, hf with
  | [f0, f1, f2], _, hf =>
    simp only [List.map_cons, List.map_nil, List.cons.injEq, Prod.mk.injEq] at hf
    obtain ⟨⟨n0, t0, o0⟩, ⟨n1, t1, o1⟩, ⟨n2, t2, o2⟩, _⟩ := hf
    have p0 : ∀ x : Kv, (part 23 x.cells 0).run Tryd.prog W = .ok (.string x.nm) W := fun _ => rfl
    have p1 : ∀ x : Kv, (part 24 x.cells 1).run Tryd.prog W = .ok (.int .u16 x.ty) W := fun _ => rfl
    have p2 : ∀ x : Kv, (part 24 x.cells 2).run Tryd.prog W = .ok (.int .u16 x.cl) W := fun _ => rfl
    have m0 : ¬ (f0.name = "_") := by simpa using n0
    have m1 : ¬ (f1.name = "_") := by simpa using n1
    have m2 : ¬ (f2.name = "_") := by simpa using n2
    have st : ∀ (f : Field) (va vb : Value) (x y : Bool) (fs : List Field), ¬ (f.name = "_") → (part f.type a.cells f.offset).run Tryd.prog W = .ok va W → (part f.type b.cells f.offset).run Tryd.prog W = .ok vb W →
        (Op.equalIn (d + 4) f.type va vb).run Tryd.prog W = .ok x W → (Op.eqFields (d + 4) a.cells b.cells fs).run Tryd.prog W = .ok y W → (Op.eqFields (d + 4) a.cells b.cells (f :: fs)).run Tryd.prog W = .ok (x && y) W := fun f va vb x y fs hn ha hb he hr => by
      simp only [Op.eqFields, ne_eq, hn, not_false_eq_true, if_true, Sem.run_bind, ha, hb, he, Result.andThen_ok]
      exact and_run W (fun _ => Op.eqFields (d + 4) a.cells b.cells fs) _ hr
    have h2 := st f2 _ _ _ true [] m2 (by rw [t2, o2]; exact p2 a) (by rw [t2, o2]; exact p2 b) (by rw [t2]; exact run_equalIn_int W _ _ _ _ _ _ Tryd.underlying24) rfl
    rw [Bool.and_true] at h2
    exact st f0 _ _ _ _ _ m0 (by rw [t0, o0]; exact p0 a) (by rw [t0, o0]; exact p0 b) (by rw [t0]; exact run_equalIn_string W _ _ _ _ Tryd.underlying23)
      (st f1 _ _ _ _ _ m1 (by rw [t1, o1]; exact p1 a) (by rw [t1, o1]; exact p1 b) (by rw [t1]; exact run_equalIn_int W _ _ _ _ _ _ Tryd.underlying24) h2)
theorem kvB_iff (a b : Kv) : kvB a b = true ↔ a = b := by
  obtain ⟨nm, ty, cl⟩ := a
  obtain ⟨nm', ty', cl'⟩ := b
  unfold kvB
  rw [strB]
  simp only [Bool.and_eq_true, decide_eq_true_eq, beq_iff_eq, Kv.mk.injEq, Int.ofNat_inj]
/-- are two records alike? -/
def alB (a b : Rv) : Bool := kvB a.fold.kv b.fold.kv && dvB a.fold.d b.fold.d
theorem alB_iff (a b : Rv) : alB a b = true ↔ a.fold.kv = b.fold.kv ∧ a.fold.d = b.fold.d := by
  unfold alB
  rw [Bool.and_eq_true, kvB_iff, dvB_iff]
end Go.Proofs.YtmieakkhpkclpaaDoor
/- within, Same: have two lists the same records, as the document says; a list of its own. -/
namespace Go.Proofs.YtmieakkhpkclpaaDoor
open Go.RowKit Go.Sort Go.Shelf

def anyA (r : Rv) (rb : List Rv) : Bool := rb.any fun b => alB r b
def withA (ra rb : List Rv) : Bool := ra.all fun a => anyA a rb
theorem anyA_take {r : Rv} {rb : List Rv} {k : Nat} (h : k < rb.length) : anyA r (rb.take (k + 1)) = (anyA r (rb.take k) || alB r rb[k]) := by
  unfold anyA
  rw [List.take_succ_eq_append_getElem h, List.any_append]
  simp
theorem withA_take {ra rb : List Rv} {k : Nat} (h : k < ra.length) : withA (ra.take (k + 1)) rb = (withA (ra.take k) rb && anyA ra[k] rb) := by
  unfold withA
  rw [List.take_succ_eq_append_getElem h, List.all_append]
  simp
theorem withA_no {ra rb : List Rv} {k : Nat} (h : k < ra.length) (hn : anyA ra[k] rb = false) : withA ra rb = false := by
  unfold withA
  rw [List.all_eq_false]
  exact ⟨ra[k], List.getElem_mem h, by simp [hn]⟩
end Go.Proofs.YtmieakkhpkclpaaDoor
/- Same: the document's; a list of its own; the walk of RrsetSame. -/
namespace Go.Proofs.YtmieakkhpkclpaaDoor
open Go.RowKit Go.Sort Go.Shelf

set_option maxHeartbeats 2000000 in
set_option maxRecDepth 100000 in
theorem owned_any (rs : List Rv) (A : Option Addr) (c : Nat) (w : World) (hS : Srow rcl 12 w 0 w.heap.size A rs) (hnil : A = none → c = 0) (hn : rs.length ≤ 4294967296) :
    Calls Tryd.prog 5 #[.slice A rs.length c] w fun e w' => ∃ A' c', e = .returned (.slice A' rs.length c') ∧ rs.length ≤ c' ∧ Srow rcl 12 w' w.heap.size w'.heap.size A' rs ∧ Below w.heap.size w w' := by
  obtain ⟨ti, ht1, ht2, ht3, ht4⟩ : ∃ i, Tryd.prog.info? 43 = some i ∧ i.zero = some (.agg (rcl default).toArray) ∧ i.size = 12 ∧ i.bytes = 96 := ⟨_, rfl, by kernel_rfl, by kernel_rfl, by kernel_rfl⟩
  have HT := Lib.hid (And.intro ht1 (And.intro ht2 (And.intro ht3 ht4)))
  clear ht1 ht2 ht3 ht4
  have ho : w.ownsRow w.heap.size 43 12 (.slice none 0 0) 0 [] := ⟨rfl, .inl ⟨rfl, rfl⟩⟩
  have fin : ∀ v w', w'.ownsRow w.heap.size 43 12 v rs.length (fl rcl rs) → w.grownBy w' (Value.slice none 0 0).ownBlock → ∃ A' c', v = .slice A' rs.length c' ∧ rs.length ≤ c' ∧ Srow rcl 12 w' w.heap.size w'.heap.size A' rs ∧ Below w.heap.size w w' := fun v w' h hg => by
    obtain ⟨A', c', e, hc, hs⟩ := Own.srow rcl_len (e := 43) h
    exact ⟨A', c', e, hc, hs, (Below.refl _ _).grown hg (Nat.le_refl _) (fun k e => by cases e)⟩
  have HO := Lib.hid ho
  have HFIN := Lib.hid fin
  clear ho fin
  rcases A with _ | ⟨g, o, sp⟩
  · have h0 : rs = [] := by
      rcases rs with _ | ⟨x, r⟩
      · rfl
      · obtain ⟨g, o, hA, _⟩ := hS (by simp); cases hA
    subst h0
    have := hnil rfl
    subst this
    clear hS hnil
    go_enter Tryd.func5, Tryd.ntmps5
    go_wp2_with (at_builtin; refine wpList_append_own_none rfl (.const (.slice none 0 0)) (.tmp 3) _ rfl w.heap.size 43 ti 12 Tryd.underlying22 HT.out.1 (.slice none 0 0) 0 [] rfl HO.out rfl ?_)
    go_ret
    exact ⟨none, 0, rfl, Nat.le_refl _, Srow.nil, Below.refl _ _⟩
  · have HFL : Hid (∀ j u, (fl rcl rs)[j]? = some u → w.cell? ((⟨g, o, sp⟩ : Addr).add j) = some u) := by
      rcases rs with _ | ⟨x, r⟩
      · intro j u hu; cases hu
      · obtain ⟨g', o', hA, _⟩ := id (hS (by simp))
        injection hA with hA
        injection hA with e1 e2 e3
        subst e1 e2 e3
        exact srow_flat rcl_len hS
    have HLN : Hid ((fl rcl rs).length = rs.length * 12) := fl_len rcl_len rs
    clear hS hnil
    go_enter Tryd.func5, Tryd.ntmps5
    go_wp2_with (at_builtin
                 refine wpList_append_own _ rfl (.const (.slice none 0 0)) (.tmp 3) _ rfl w.heap.size 43 ti _ 12 96 Tryd.underlying22 HT.out.1 HT.out.2.1 HT.out.2.2.1 HT.out.2.2.2 rfl (by decide) (.slice none 0 0) 0 [] rfl HO.out ⟨g, o, sp⟩ rs.length c (fl rcl rs) rfl HLN.out HFL.out (rcl_flat_one rs) (by unfold maxLen; omega) (by omega) (Nat.le_refl _) ?_
                 intro v1 w1 ho1 hg1 _
                 rw [Nat.zero_add, List.nil_append] at ho1
                 obtain ⟨A', c', rfl, hc', hs', hb'⟩ := HFIN.out _ _ ho1 hg1
                 have HS' := Lib.hid hs'
                 have HB' := Lib.hid hb'
                 have HC' := Lib.hid hc'
                 clear ho1 hg1 hs' hb' hc')
    go_ret
    exact ⟨A', c', rfl, HC'.out, HS'.out, HB'.out⟩
theorem in_with {ra rb : List Rv} : withA ra rb = true ↔ Rr.In (fcs ra) (fcs rb) := by
  unfold withA anyA Rr.In fcs
  simp only [List.all_eq_true, List.any_eq_true, List.mem_map, alB_iff]
  constructor
  · rintro h _ ⟨_, ⟨a, ha, rfl⟩, rfl⟩
    obtain ⟨b, hb, h1, h2⟩ := h a ha
    exact ⟨_, ⟨_, ⟨b, hb, rfl⟩, rfl⟩, congrArg Kv.ky h1, congrArg Dv.dt h2⟩
  · intro h a ha
    obtain ⟨_, ⟨_, ⟨b, hb, rfl⟩, rfl⟩, h1, h2⟩ := h _ ⟨_, ⟨a, ha, rfl⟩, rfl⟩
    exact ⟨b, hb, kv_ky h1, dv_dt h2⟩
theorem same_eq (ra rb : List Rv) : decide ((Rr.sets (fcs ra)).map Rr.hd = (Rr.sets (fcs rb)).map Rr.hd) = (withA ra rb && withA rb ra) := by
  rw [Bool.eq_iff_iff, decide_eq_true_eq, Rr.same_iff, Bool.and_eq_true, in_with, in_with]
end Go.Proofs.YtmieakkhpkclpaaDoor
