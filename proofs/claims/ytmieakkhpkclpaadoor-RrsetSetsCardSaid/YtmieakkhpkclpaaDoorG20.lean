/- Texts of the proofs, merged. -/
import Derived.Test.YtmieakkhpkclpaaDoorG19
import Derived.DeepKeys4
import Derived.WideKeyEntry
import Derived.Maps.RangeRun
/- A map by keys of records, as it lies in memory: looked up, written, gone through. -/
namespace Go.Proofs.YtmieakkhpkclpaaDoor
open Go.RowKit Go.WideMaps Go.MapKept
open Go.ChangeMaps (setBlock)

theorem kLaid : laidOutB Tryd.prog = true := by kernel_rfl
theorem kLaw : KeyLaw Tryd.prog 26 := deep_law_laid kLaid (m := 2) (by omega) (of_decide_eq_true (by kernel_rfl)) (by kernel_rfl) (by kernel_rfl)
/-- a key that a map can have. -/
def Kv.ok (k : Kv) : Prop := k.nm.size ≤ 140737488355328 ∧ k.ty ≤ 65535 ∧ k.cl ≤ 65535
theorem Kv.val_inj {a b : Kv} (h : a.val = b.val) : a = b := by
  obtain ⟨n, t, c⟩ := a
  obtain ⟨n', t', c'⟩ := b
  unfold Kv.val at h
  injection h with h
  injection h with h
  simp only [List.cons.injEq, Value.string.injEq, Value.int.injEq, true_and, and_true] at h
  obtain ⟨rfl, h1, h2⟩ := h
  have : t = t' := by omega
  have : c = c' := by omega
  subst_vars
  rfl
set_option maxRecDepth 100000 in
theorem kv_key (k : Kv) (h : k.ok) : ∃ l, keyOf Tryd.prog 26 k.val = some l := by
  have hk : Tryd.prog.keyType 26 = true := by kernel_rfl
  have hc : Tryd.prog.cellsOf 26 = 3 := by kernel_rfl
  have hc1 : Tryd.prog.cellsOf 23 = 1 := by kernel_rfl
  have hc2 : Tryd.prog.cellsOf 24 = 1 := by kernel_rfl
  obtain ⟨n, hn⟩ : ∃ n, Tryd.prog.types.size = n + 1 := by
    have : 0 < Tryd.prog.types.size := of_decide_eq_true (by kernel_rfl)
    exact ⟨Tryd.prog.types.size - 1, by omega⟩
  have hf : (Tryd.prog.fieldsOf 26).toList.map (fun f => (f.name != "_", f.type, f.offset)) = [(true, 23, 0), (true, 24, 1), (true, 24, 2)] := by kernel_rfl
  have hlen : (Tryd.prog.fieldsOf 26).toList.length = 3 := by kernel_rfl
  have hu : Tryd.prog.underlying 26 = some (.struct (Tryd.prog.fieldsOf 26)) := by kernel_rfl
  have hall : (Tryd.prog.fieldsOf 26).all (·.name != "_") = true := by kernel_rfl
  generalize Tryd.prog.fieldsOf 26 = fa at *
  obtain ⟨nm, ty, cl⟩ := k
  obtain ⟨h1, h2, h3⟩ := h
  have e1 : IntKind.u16.min = 0 := rfl
  have e2 : IntKind.u16.max = 65535 := rfl
  have l1 : (Lit.int .u16 (ty : Int)).wf = true := by simp only [Lit.wf, Bool.and_eq_true, decide_eq_true_eq]; simp only at h2; omega
  have l2 : (Lit.int .u16 (cl : Int)).wf = true := by simp only [Lit.wf, Bool.and_eq_true, decide_eq_true_eq]; simp only at h3; omega
  have hm : nm.size ≤ maxLen := by unfold maxLen; simp only at h1; omega
  have hform : (Kv.val ⟨nm, ty, cl⟩).formed Tryd.prog 26 = true := by simp [Kv.val, Value.formed, hu, hc]
  have hlits : Tryd.prog.keyLits (Tryd.prog.types.size + 1) 26 (Kv.val ⟨nm, ty, cl⟩).cells.toList = some [.string nm.data.toList, .int .u16 ty, .int .u16 cl] := by
    rw [hn]
    unfold Program.keyLits
    obtain ⟨fs⟩ := fa
    simp only at hf hlen
    match fs, hlen, hf with
    | [f0, f1, f2], _, hf =>
      simp only [List.map_cons, List.map_nil, List.cons.injEq, Prod.mk.injEq] at hf
      obtain ⟨⟨_, t0, o0⟩, ⟨_, t1, o1⟩, ⟨_, t2, o2⟩, _⟩ := hf
      have a0 : Tryd.prog.keyLits (n + 1) f0.type (List.take (Tryd.prog.cellsOf f0.type) (List.drop f0.offset [Value.string nm, .int .u16 ty, .int .u16 cl])) = some [.string nm.data.toList] := by
        rw [t0, o0, hc1]
        unfold Program.keyLits
        simp [Tryd.underlying23, hm]
      have a1 : Tryd.prog.keyLits (n + 1) f1.type (List.take (Tryd.prog.cellsOf f1.type) (List.drop f1.offset [Value.string nm, .int .u16 ty, .int .u16 cl])) = some [.int .u16 ty] := by
        rw [t1, o1, hc2]
        unfold Program.keyLits
        simp [Tryd.underlying24, l1]
      have a2 : Tryd.prog.keyLits (n + 1) f2.type (List.take (Tryd.prog.cellsOf f2.type) (List.drop f2.offset [Value.string nm, .int .u16 ty, .int .u16 cl])) = some [.int .u16 cl] := by
        rw [t2, o2, hc2]
        unfold Program.keyLits
        simp [Tryd.underlying24, l2]
      have hal : (#[f0, f1, f2] : Array Field).all (·.name != "_") = true := hall
      simp only [hu, Kv.val, Value.cells]
      rw [if_pos ⟨by rw [hc]; rfl, hal⟩]
      simp [a0, a1, a2]
  unfold keyOf
  simp only [hu, hk, hform, hlits]
  exact ⟨_, rfl⟩
def ents (L : List (Kv × Value)) : Array MapEntry := (L.mapIdx fun i p => (⟨p.1.val, p.2, i⟩ : MapEntry)).toArray
theorem ents_get (L : List (Kv × Value)) (i : Nat) : (ents L).toList[i]? = (L[i]?).map fun p => ⟨p.1.val, p.2, i⟩ := by simp [ents]
theorem ents_push (L : List (Kv × Value)) (p : Kv × Value) : (ents L).push ⟨p.1.val, p.2, L.length⟩ = ents (L ++ [p]) := by
  apply Array.ext'
  simp [ents, List.mapIdx_concat]
theorem ents_set (L : List (Kv × Value)) (j : Nat) (k : Kv) (v v0 : Value) (h : L[j]? = some (k, v0)) : (ents L).modify j (fun e => { e with val := v }) = ents (L.set j (k, v)) := by
  apply Array.ext'
  apply List.ext_getElem?
  intro i
  rw [Array.toList_modify, List.getElem?_modify, ents_get, ents_get, List.getElem?_set]
  have hj : j < L.length := (List.getElem?_eq_some_iff.1 h).1
  by_cases e : j = i
  · subst e
    rw [h, if_pos rfl, if_pos hj]
    simp
  · rw [if_neg e]
    cases L[i]? <;> simp [e]
theorem ents_born (L : List (Kv × Value)) : ((ents L).toList.map (·.born)).Nodup := by
  have : (ents L).toList.map (·.born) = List.range L.length := by
    apply List.ext_getElem?
    intro i
    rw [List.getElem?_map, ents_get]
    by_cases hi : i < L.length
    · rw [List.getElem?_eq_getElem hi, List.getElem?_range hi]
      rfl
    · rw [List.getElem?_eq_none (by omega), List.getElem?_eq_none (by simp; omega)]
      rfl
  rw [this]
  exact List.nodup_range
/-- the map of block m. -/
def Mp (w : World) (m : Nat) (L : List (Kv × Value)) : Prop := w.heap[m]? = some (.map (ents L) L.length)
section
variable {w : World} {m : Nat} {L : List (Kv × Value)}
theorem mem_ents {e : MapEntry} (h : e ∈ (ents L).toList) : ∃ j p, L[j]? = some p ∧ e = ⟨p.1.val, p.2, j⟩ := by
  obtain ⟨j, hj⟩ := List.mem_iff_getElem?.1 h
  rw [ents_get] at hj
  obtain ⟨p, hp, rfl⟩ := Option.map_eq_some_iff.1 hj
  exact ⟨j, p, hp, rfl⟩
theorem setBlock_heap {o o' : Obj} (h : w.heap[m]? = some o) : (setBlock w m o').heap[m]? = some o' ∧ w.grownBy (setBlock w m o') (some m) := by
  have hs := heap_set (o' := o') h
  exact ⟨hs.1, ⟨rfl, rfl, rfl, by simp [setBlock], fun k _ hne => hs.2 k (fun e => hne (by rw [e]))⟩⟩
theorem setBlock_self {o : Obj} (h : w.heap[m]? = some o) : setBlock w m o = w := by
  have : w.heap.setIfInBounds m o = w.heap := by
    apply Array.ext_getElem?
    intro i
    rw [Array.getElem?_setIfInBounds]
    split
    · rename_i e
      subst e
      split
      · exact h.symm
      · rename_i hn
        exact absurd (Array.getElem?_eq_some_iff.1 h).1 hn
    · rfl
  unfold setBlock
  rw [this]
set_option maxRecDepth 100000 in
/-- the entry of a key: it is there, or it is laid. -/
theorem mp_entry (h : Mp w m L) (hL : ∀ p ∈ L, p.1.ok) (k : Kv) (hk : k.ok) :
    (∃ j v0, L[j]? = some (k, v0) ∧ (Instr.mapEntry 45 (.map (some m)) k.val).run Tryd.prog w = .ok (.tuple #[v0, .int .i64 (j : Nat)]) w) ∨
    ((∀ p ∈ L, p.1 ≠ k) ∧ (Instr.mapEntry 45 (.map (some m)) k.val).run Tryd.prog w = .ok (.tuple #[.slice none 0 0, .int .i64 (L.length : Nat)]) (setBlock w m (.map (ents (L ++ [(k, .slice none 0 0)])) (L.length + 1)))) := by
  obtain ⟨l, hl⟩ := kv_key k hk
  have hz : ∀ u : World, (zeroValue 22).run Tryd.prog u = .ok (.slice none 0 0) u := fun u => by kernel_rfl
  have hkeys : ∀ e ∈ (ents L).toList, ∃ l, keyOf Tryd.prog 26 e.key = some l := fun e he => by
    obtain ⟨j, p, hp, rfl⟩ := mem_ents he
    exact kv_key p.1 (hL p (List.mem_of_getElem? hp))
  rcases kLaw.find w hl (ents L).toList hkeys with ⟨h1, h2⟩ | ⟨j, e0, h1, h2, h3⟩
  · right
    refine ⟨fun p hp e => ?_, ?_⟩
    · obtain ⟨j, hj⟩ := List.mem_iff_getElem?.1 hp
      have := h2 ⟨p.1.val, p.2, j⟩ (List.mem_of_getElem? (i := j) (by rw [ents_get, hj]; rfl))
      exact this (by rw [e])
    · rw [← ents_push]
      simp [Instr.mapEntry, run_underlying Tryd.underlying45, MapKept.run_getObj_map h, kLaw.check w false hl, h1, hz, MapKept.run_setObj_map _ h, Result.andThen, setBlock, goInt]
  · left
    rw [ents_get] at h2
    obtain ⟨p, hp, rfl⟩ := Option.map_eq_some_iff.1 h2
    have hpk : p.1 = k := Kv.val_inj h3
    refine ⟨j, p.2, by rw [hp, ← hpk], ?_⟩
    have hj : (ents L)[j]? = some ⟨p.1.val, p.2, j⟩ := by rw [← Array.getElem?_toList, ents_get, hp]; rfl
    have hsame : (ents L).modify j (fun e => { e with key := k.val }) = ents L := by
      apply Array.ext'
      rw [Array.toList_modify, ChangeMaps.modify_eq_set _ _ _ _ (by rw [Array.getElem?_toList]; exact hj)]
      rw [hpk]
      exact WideElems.set_self _ _ _ (by rw [Array.getElem?_toList, hj, hpk])
    have hw := setBlock_self h
    unfold setBlock at hw
    simp [Instr.mapEntry, run_underlying Tryd.underlying45, MapKept.run_getObj_map h, kLaw.check w false hl, h1, hj, hpk, kLaw.stays w hl, hsame, MapKept.run_setObj_map _ h, Result.andThen, goInt, hw]
set_option maxRecDepth 100000 in
/-- a store into an entry. -/
theorem mp_store (h : Mp w m L) {j : Nat} {k : Kv} {v0 : Value} (hj : L[j]? = some (k, v0)) (v : Value) :
    (Instr.entryStore 45 (.map (some m)) (.int .i64 (j : Nat)) v).run Tryd.prog w = .ok () (setBlock w m (.map (ents (L.set j (k, v))) L.length)) := by
  have hidx : (ents L).findIdx? (fun e => ((e.born : Nat) : Int) == ((j : Nat) : Int)) = some j := by
    rw [WideElems.findIdx_arr]
    exact WideElems.findIdx_born (e0 := ⟨k.val, v0, j⟩) (ents_born L) (by rw [ents_get, hj]; rfl)
  simp [Instr.entryStore, MapKept.run_getObj_map h, asInt, asIntOf, hidx, ents_set L j k v v0 hj, MapKept.run_setObj_map _ h, Result.andThen, setBlock]
theorem mp_stored (h : Mp w m L) {j : Nat} (k : Kv) (v : Value) : Mp (setBlock w m (.map (ents (L.set j (k, v))) L.length)) m (L.set j (k, v)) ∧ w.grownBy (setBlock w m (.map (ents (L.set j (k, v))) L.length)) (some m) := by
  have := setBlock_heap (o' := .map (ents (L.set j (k, v))) L.length) h
  refine ⟨?_, this.2⟩
  unfold Mp
  rw [this.1, List.length_set]
theorem mp_laid (h : Mp w m L) (p : Kv × Value) : Mp (setBlock w m (.map (ents (L ++ [p])) (L.length + 1))) m (L ++ [p]) ∧ w.grownBy (setBlock w m (.map (ents (L ++ [p])) (L.length + 1))) (some m) := by
  have := setBlock_heap (o' := .map (ents (L ++ [p])) (L.length + 1)) h
  refine ⟨?_, this.2⟩
  unfold Mp
  rw [this.1, List.length_append]
  rfl
theorem mp_len (h : Mp w m L) (ty : TypeId) : (Builtin.len_ #[45] ty #[.map (some m)]).run Tryd.prog w = .ok (.int .i64 (L.length : Nat)) w := by
  simp [Builtin.len_, run_underlying Tryd.underlying45, MapKept.run_getObj_map h, goInt, ents]
theorem mp_kept {w' : World} {row : Option Nat} (h : Mp w m L) (hg : w.grownBy w' row) (hne : some m ≠ row) : Mp w' m L := (hg.block m (Array.getElem?_eq_some_iff.1 h).1 hne).trans h
set_option maxRecDepth 100000 in
theorem mp_range (h : Mp w m L) : (Instr.range 45 (.map (some m))).run Tryd.prog w = .ok (.pointer (some ⟨w.heap.size, 0, none⟩)) (w.alloc (.mapIter (some m) L.length #[] L.length)) :=
  run_range_map w _ _ _ m _ _ Tryd.underlying45 h
/-- the next entry, whichever. -/
theorem mp_next {r : Nat} {seen : List Nat} (ty : TypeId) (h : Mp w m L) (hi : w.heap[r]? = some (.mapIter (some m) L.length seen.toArray L.length)) :
    ((∀ j, j < L.length → j ∈ seen) ∧ (Instr.next (.pointer (some ⟨r, 0, none⟩)) false ty).run Tryd.prog w = .ok (.tuple #[.bool false]) w) ∨
    ∃ j p, L[j]? = some p ∧ j ∉ seen ∧ ∃ w', (Instr.next (.pointer (some ⟨r, 0, none⟩)) false ty).run Tryd.prog w = .ok (.tuple #[.bool true, p.1.val, p.2]) w' ∧
      w'.heap[r]? = some (.mapIter (some m) L.length (seen ++ [j]).toArray L.length) ∧ w.grownBy w' (some r) ∧ w'.heap.size = w.heap.size ∧ (Instr.entry (.pointer (some ⟨r, 0, none⟩))).run Tryd.prog w' = .ok (.tuple #[p.1.val, p.2]) w' := by
  have hold : ∀ x ∈ (ents L).toList, x.born < L.length := fun x hx => by
    obtain ⟨j, p, hp, rfl⟩ := mem_ents hx
    exact (List.getElem?_eq_some_iff.1 hp).1
  have hne : r ≠ m := fun e => by rw [e, show w.heap[m]? = _ from h] at hi; cases hi
  rcases run_next_at (P := Tryd.prog) w ty r m L.length L.length seen.toArray (ents L) L.length hi h hold (Nat.le_refl _) with ⟨h0, hrun⟩ | ⟨e, he, w1, hal, hrun⟩
  · refine .inl ⟨fun j hj => ?_, hrun⟩
    have := all_seen (ents L) seen.toArray h0 ⟨L[j].1.val, L[j].2, j⟩ (List.mem_of_getElem? (i := j) (by rw [ents_get, List.getElem?_eq_getElem hj]; rfl))
    simpa using this
  · obtain ⟨hem, hes⟩ := mem_left he
    obtain ⟨j, p, hp, rfl⟩ := mem_ents hem
    have hr1 : w1.heap[r]? = some (.mapIter (some m) L.length seen.toArray L.length) := by rcases hal with rfl | rfl <;> exact hi
    have hb1 : w1.heap[m]? = some (.map (ents L) L.length) := by rcases hal with rfl | rfl <;> exact h
    have hset := heap_set (o' := .mapIter (some m) L.length (seen.toArray.push j) L.length) hr1
    have hpush : seen.toArray.push j = (seen ++ [j]).toArray := by simp
    refine .inr ⟨j, p, hp, by simpa using hes, _, hrun, ?_, ?_, ?_, ?_⟩
    · rw [← hpush]; exact hset.1
    · rcases hal with rfl | rfl <;> exact ⟨rfl, rfl, rfl, by simp [setBlock], fun i _ hi => hset.2 i (fun e1 => hi (by rw [e1]))⟩
    · rcases hal with rfl | rfl <;> simp [setBlock]
    · exact run_entry_at _ r m L.length seen.toArray (ents L) L.length ⟨p.1.val, p.2, j⟩ hset.1 ((hset.2 m (fun e1 => hne e1.symm)).trans hb1) hem (ents_born L)
end
end Go.Proofs.YtmieakkhpkclpaaDoor
