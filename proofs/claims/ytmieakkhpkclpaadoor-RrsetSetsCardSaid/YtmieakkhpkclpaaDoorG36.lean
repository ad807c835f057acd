/- Texts of the proofs, merged. -/
import Derived.Test.YtmieakkhpkclpaaDoorG33
import Derived.Test.YtmieakkhpkclpaaDoorG35
/- The known records of the statements on sets are as they say. -/
namespace Go.Proofs.YtmieakkhpkclpaaDoor
open Go.RowKit Go.Sort Go.Shelf

def ra0 : Rv := ⟨⟨#[1, 65, 0]⟩, 1, 1, 5, ⟨⟨#[97, 98, 99, 100]⟩, ⟨#[]⟩, ⟨#[]⟩, 0, 0, 0, 0, 0⟩⟩
def rb0 : Rv := ⟨⟨#[1, 65, 0]⟩, 1, 1, 3, ⟨⟨#[97, 98, 99, 100]⟩, ⟨#[]⟩, ⟨#[]⟩, 0, 0, 0, 0, 0⟩⟩
theorem ra0_ok : ra0.nums ∧ ra0.short := by
  refine ⟨⟨?_, ?_⟩, ?_, ?_, ?_⟩ <;> decide
theorem rb0_ok : rb0.nums ∧ rb0.short := by
  refine ⟨⟨?_, ?_⟩, ?_, ?_, ?_⟩ <;> decide
theorem cmp0 : Rr.cmpR ra0.fold.rc rb0.fold.rc = 1 := by kernel_rfl
theorem sets0 : Rr.sets (fcs [ra0, rb0]) = [⟨⟨[1, 97, 0], 1, 1⟩, 3, [⟨[97, 98, 99, 100], [], [], 0, 0, 0, 0, 0⟩]⟩] := by
  have hp : (fcs [ra0, rb0]).Perm (fcs [rb0, ra0]) := List.Perm.swap _ _ _
  have hu : Rr.Up Rr.cmpR (fcs [rb0, ra0]) := by
    refine List.pairwise_cons.2 ⟨fun x hx => ?_, List.pairwise_singleton _ _⟩
    rw [List.mem_singleton.1 hx]
    have : Rr.cmpR rb0.fold.rc ra0.fold.rc = -1 := by kernel_rfl
    omega
  have h1 := (Rr.sets_perm hp).trans (Rr.sets_up hu)
  have h2 : ((Rr.cpt ((fcs [rb0, ra0]).map Rr.Rc.ky)).map fun k => Rr.grpU k (Rr.ofKey (fcs [rb0, ra0]) k)) = [⟨⟨[1, 97, 0], 1, 1⟩, 3, [⟨[97, 98, 99, 100], [], [], 0, 0, 0, 0, 0⟩]⟩] := by kernel_rfl
  exact h1.trans h2
theorem same0 : decide ((Rr.sets (fcs [ra0])).map Rr.hd = (Rr.sets (fcs [rb0, rb0])).map Rr.hd) = true := by
  rw [decide_eq_true_eq, Rr.same_iff]
  refine ⟨fun r hr => ?_, fun r hr => ?_⟩
  · refine ⟨rb0.fold.rc, by simp [fcs], ?_⟩
    have : r = ra0.fold.rc := by simpa [fcs] using hr
    rw [this]
    exact ⟨rfl, rfl⟩
  · refine ⟨ra0.fold.rc, by simp [fcs], ?_⟩
    have : r = rb0.fold.rc := by simpa [fcs] using hr
    rw [this]
    exact ⟨rfl, rfl⟩
theorem sets0_at {w : World} {lo : Nat} {v : Value} {l : List Sx} (hl : l.map Sx.st = Rr.sets (fcs [ra0, rb0])) (h : SetsAt w lo w.heap.size v l) : ∃ g o c gd cd, v = .slice (some ⟨g, o, none⟩) 1 c ∧ w.cell? ⟨g, o, none⟩ = some (.string ⟨#[1, 97, 0]⟩) ∧ w.cell? ⟨g, o + 1, none⟩ = some (.int .u16 1) ∧ w.cell? ⟨g, o + 2, none⟩ = some (.int .u16 1) ∧ w.cell? ⟨g, o + 3, none⟩ = some (.int .u32 3) ∧ w.cell? ⟨g, o + 4, none⟩ = some (.slice (some ⟨gd, 0, none⟩) 1 cd) := by
  rw [sets0] at hl
  obtain ⟨s, rfl⟩ : ∃ s, l = [s] := List.length_eq_one_iff.1 (by have := congrArg List.length hl; simpa using this)
  · injection hl with hl _
    obtain ⟨A, c, h1, h2, h3, h4⟩ := h
    obtain ⟨g, o, rfl, _, _, hc⟩ := h3 (by simp)
    obtain ⟨⟨gd, cd, e1, _⟩, _⟩ := h4 s (by simp)
    obtain ⟨⟨nm, ty, cl⟩, ttl, v', ds⟩ := s
    unfold Sx.st Kv.ky at hl
    injection hl with hk ht hd
    injection hk with hn hty hcl
    simp only at hn hty hcl ht hd e1
    have hnm : nm = ⟨#[1, 97, 0]⟩ := ba_list hn
    have hdl : ds.length = 1 := by have := congrArg List.length hd; simpa using this
    subst hnm hty hcl ht
    have q := hc 0 (by simp)
    rw [Nat.zero_mul, Nat.add_zero] at q
    refine ⟨g, o, c, gd, cd, h1, q 0 _ rfl, q 1 _ rfl, q 2 _ rfl, q 3 _ rfl, ?_⟩
    have := q 4 _ rfl
    rw [this]
    show some v' = _
    rw [e1, hdl]
section
variable {P : Program} {w : World} {ops : Array Oper} {rest : List Oper} {o : Oper} {a : Act} {Q : Exit → Act → World → Prop}
theorem wpList_build_many (hgd : o.guard = none) (t e : TypeId) (n : Nat) (parts : Array (Nat × Operand)) (ho : o.op = .buildSlice t n parts) (k : Nat) (cells : Array Value) (ie : TypeInfo) (z : Value) (hu : P.underlying t = some (.slice e)) (hie : P.info? e = some ie) (hz : ie.zero = some z) (hk : ie.size = k) (h0 : 0 < n * k) (hk2 : n * k ≤ 1000)
    (hf : Instr.fill (fun i => some (i * k, k)) ((Array.range (n * k)).map (z.cells[· % z.cells.size]!)) (parts.map fun (i, x) => (i, a.eval x)).toList = some cells)
    (h : ∀ w2, Has w2 w.heap.size e cells → w.grownBy w2 none → w2.heap.size = w.heap.size + 1 → wpList P ops Q rest (a.put o.dst (.slice (some ⟨w.heap.size, 0, none⟩) n n)) w2) : wpList P ops Q (o :: rest) a w := by
  subst hk
  refine wpList_buildSlice hgd t e n parts ho cells ie z hu hie hz (by omega) (by omega) hf ?_
  exact h _ (Has.fresh w e cells) (World.grownBy_alloc w _ none) (by simp)
/-- the same of an operation behind a guard that is met. -/
theorem wpList_load_rowG (hw : Region.wanted o (yielded ops a.tmps) = true) (ty : TypeId) (x : Operand) (ho : o.op = .load ty x)
    (g : Nat) (hx : a.eval x = .pointer (some ⟨g, 0, none⟩)) (t : TypeId) (cs : Array Value) (fr : Nat × Nat) (d : TypeDesc) (hg : w.heap[g]? = some (.cells cs t fr))
    (hu : P.underlying ty = some d) (hd : (match d with | .struct _ | .array _ _ => true | _ => false) = true) (hi : (P.info? ty).map (·.size) = some cs.size)
    (h : wpList P ops Q rest (a.put o.dst (.agg cs)) w) : wpList P ops Q (o :: rest) a w :=
  wpList_step fun K hK => by
    rw [if_pos hw]
    exact wp_load_row ty x ho g hx t cs fr d hg hu hd hi (hK _ _ h)
theorem wpList_build_manyG (hw : Region.wanted o (yielded ops a.tmps) = true) (t e : TypeId) (n : Nat) (parts : Array (Nat × Operand)) (ho : o.op = .buildSlice t n parts) (k : Nat) (cells : Array Value) (ie : TypeInfo) (z : Value) (hu : P.underlying t = some (.slice e)) (hie : P.info? e = some ie) (hz : ie.zero = some z) (hk : ie.size = k) (h0 : 0 < n * k) (hk2 : n * k ≤ 1000)
    (hf : Instr.fill (fun i => some (i * k, k)) ((Array.range (n * k)).map (z.cells[· % z.cells.size]!)) (parts.map fun (i, x) => (i, a.eval x)).toList = some cells)
    (h : ∀ w2, Has w2 w.heap.size e cells → w.grownBy w2 none → w2.heap.size = w.heap.size + 1 → wpList P ops Q rest (a.put o.dst (.slice (some ⟨w.heap.size, 0, none⟩) n n)) w2) : wpList P ops Q (o :: rest) a w := by
  subst hk
  exact wpList_step fun K hK => by
    rw [if_pos hw]
    exact wp_buildSlice t e n parts ho cells ie z hu hie hz (by omega) (by omega) hf (hK _ _ (h _ (Has.fresh w e cells) (World.grownBy_alloc w _ none) (by simp)))
end
theorem ab_ok : ∀ r ∈ [ra0, rb0], r.nums ∧ r.short := fun r hr => by
  rcases List.mem_cons.1 hr with rfl | hr
  · exact ra0_ok
  · rw [List.mem_singleton.1 hr]; exact rb0_ok
theorem bb_ok : ∀ r ∈ [rb0, rb0], r.nums ∧ r.short := fun r hr => by
  rcases List.mem_cons.1 hr with rfl | hr
  · exact rb0_ok
  · rw [List.mem_singleton.1 hr]; exact rb0_ok
theorem a_ok : ∀ r ∈ [ra0], r.nums ∧ r.short := fun r hr => by
  rw [List.mem_singleton.1 hr]; exact ra0_ok
theorem srow_list {w : World} {g : Nat} {l : List Rv} (h : Has w g 43 (flatK rcl 12 l.toArray)) : Srow rcl 12 w 0 w.heap.size (some ⟨g, 0, none⟩) l := fun _ =>
  ⟨g, 0, rfl, Nat.zero_le _, h.lt, fun j hj => by rw [Nat.zero_add]; exact row_at rcl_len h (i := j) (by simpa using hj)⟩
theorem sets_known (W : World) (hL : LayR W) (g : Nat) (h : Has W g 43 (flatK rcl 12 #[ra0, rb0])) : Calls Tryd.prog 7 #[.slice (some ⟨g, 0, none⟩) 2 2] W fun e w' => ∃ (l : List Sx) (v : Value), e = .returned v ∧ l.map Sx.st = Rr.sets (fcs [ra0, rb0]) ∧ SetsAt w' W.heap.size w'.heap.size v l ∧ Below W.heap.size W w' :=
  sets_any [ra0, rb0] (some ⟨g, 0, none⟩) 2 W hL (srow_list h) ab_ok (by decide)
theorem same_known (W : World) (hL : LayR W) (g g2 : Nat) (h : Has W g 43 (flatK rcl 12 #[ra0])) (h2 : Has W g2 43 (flatK rcl 12 #[rb0, rb0])) : Calls Tryd.prog 12 #[.slice (some ⟨g, 0, none⟩) 1 1, .slice (some ⟨g2, 0, none⟩) 2 2] W fun e w' => e = .returned (.bool true) ∧ Below W.heap.size W w' := by
  have h9 := same_any [ra0] [rb0, rb0] (some ⟨g, 0, none⟩) (some ⟨g2, 0, none⟩) 1 2 W hL (srow_list h) (srow_list h2) a_ok bb_ok (by decide) (by decide)
  rw [same0] at h9
  exact h9
set_option maxHeartbeats 4000000 in
set_option maxRecDepth 100000 in
theorem rrWakes (w : World) (hL : LayR w) : Calls Tryd.prog 4 #[] w fun e w' => e = .returned (.bool true) ∧ Below w.heap.size w w' := by
  have HL := Lib.hid hL
  clear hL
  obtain ⟨ti, ht1, ht2, ht3, ht4⟩ : ∃ i, Tryd.prog.info? 43 = some i ∧ i.zero = some (.agg (rcl default).toArray) ∧ i.size = 12 ∧ i.bytes = 96 := ⟨_, rfl, by kernel_rfl, by kernel_rfl, by kernel_rfl⟩
  have HT := Lib.hid (And.intro ht1 (And.intro ht2 (And.intro ht3 ht4)))
  clear ht1 ht2 ht3 ht4
  go_enter Tryd.func4, Tryd.ntmps4
  have HA0 : Hid (Has ((w.alloc (.cells #[.string ⟨#[1, 65, 0]⟩, .int .u16 1, .int .u16 1, .int .u32 5, .string ⟨#[97, 98, 99, 100]⟩, .string ⟨#[]⟩, .string ⟨#[]⟩, .int .u32 0, .int .u32 0, .int .u32 0, .int .u32 0, .int .u32 0] 43)).alloc (.cells #[.string ⟨#[1, 65, 0]⟩, .int .u16 1, .int .u16 1, .int .u32 3, .string ⟨#[97, 98, 99, 100]⟩, .string ⟨#[]⟩, .string ⟨#[]⟩, .int .u32 0, .int .u32 0, .int .u32 0, .int .u32 0, .int .u32 0] 43)) w.heap.size 43 ra0.cells) := (Has.fresh w _ _).alloc _
  have HC0 : Hid (Has ((w.alloc (.cells #[.string ⟨#[1, 65, 0]⟩, .int .u16 1, .int .u16 1, .int .u32 5, .string ⟨#[97, 98, 99, 100]⟩, .string ⟨#[]⟩, .string ⟨#[]⟩, .int .u32 0, .int .u32 0, .int .u32 0, .int .u32 0, .int .u32 0] 43)).alloc (.cells #[.string ⟨#[1, 65, 0]⟩, .int .u16 1, .int .u16 1, .int .u32 3, .string ⟨#[97, 98, 99, 100]⟩, .string ⟨#[]⟩, .string ⟨#[]⟩, .int .u32 0, .int .u32 0, .int .u32 0, .int .u32 0, .int .u32 0] 43)) (w.heap.size + 1) 43 rb0.cells) := by
    have h := Has.fresh (w.alloc (.cells #[.string ⟨#[1, 65, 0]⟩, .int .u16 1, .int .u16 1, .int .u32 5, .string ⟨#[97, 98, 99, 100]⟩, .string ⟨#[]⟩, .string ⟨#[]⟩, .int .u32 0, .int .u32 0, .int .u32 0, .int .u32 0, .int .u32 0] 43)) 43 rb0.cells
    have e : (w.alloc (.cells #[.string ⟨#[1, 65, 0]⟩, .int .u16 1, .int .u16 1, .int .u32 5, .string ⟨#[97, 98, 99, 100]⟩, .string ⟨#[]⟩, .string ⟨#[]⟩, .int .u32 0, .int .u32 0, .int .u32 0, .int .u32 0, .int .u32 0] 43)).heap.size = w.heap.size + 1 := by simp
    rw [e] at h
    exact h
  have HB0 : Hid (Below w.heap.size w ((w.alloc (.cells #[.string ⟨#[1, 65, 0]⟩, .int .u16 1, .int .u16 1, .int .u32 5, .string ⟨#[97, 98, 99, 100]⟩, .string ⟨#[]⟩, .string ⟨#[]⟩, .int .u32 0, .int .u32 0, .int .u32 0, .int .u32 0, .int .u32 0] 43)).alloc (.cells #[.string ⟨#[1, 65, 0]⟩, .int .u16 1, .int .u16 1, .int .u32 3, .string ⟨#[97, 98, 99, 100]⟩, .string ⟨#[]⟩, .string ⟨#[]⟩, .int .u32 0, .int .u32 0, .int .u32 0, .int .u32 0, .int .u32 0] 43))) := ((Below.refl _ _).alloc (Nat.le_refl _) _).alloc (by simp) _
  have hi12 : (Tryd.prog.info? 43).map (·.size) = some 12 := by kernel_rfl
  have HI := Lib.hid hi12
  clear hi12
  have HSE := Lib.hid (fun (W : World) (hb : Below w.heap.size w W) => sets_known W (HL.out.below hb (Nat.le_refl _)))
  have HSA := Lib.hid (fun (W : World) (hb : Below w.heap.size w W) => same_known W (HL.out.below hb (Nat.le_refl _)))
  have HCM := Lib.hid (fun (W : World) (hb : Below w.heap.size w W) => (show Calls Tryd.prog 13 #[.agg ra0.cells, .agg rb0.cells] W (fun e w' => e = .returned (.int .i64 1) ∧ Below W.heap.size W w') from by have h := rrCmp_any ra0 rb0 W (HL.out.below hb (Nat.le_refl _)) ra0_ok rb0_ok; rw [cmp0] at h; exact h))
  have hq : ((⟨#[1, 97, 0]⟩ : ByteArray).toList == (⟨#[1, 97, 0]⟩ : ByteArray).toList) = true := beq_self_eq_true _
  go_wp2_with (first
    | (refine wpList_build_many rfl 22 43 2 #[(0, .tmp 8), (1, .tmp 9)] rfl 12 (flatK rcl 12 #[ra0, rb0]) ti _ Tryd.underlying22 HT.out.1 HT.out.2.1 HT.out.2.2.1 (by omega) (by omega) (by kernel_rfl) ?_; generalize ((w.alloc (.cells #[.string ⟨#[1, 65, 0]⟩, .int .u16 1, .int .u16 1, .int .u32 5, .string ⟨#[97, 98, 99, 100]⟩, .string ⟨#[]⟩, .string ⟨#[]⟩, .int .u32 0, .int .u32 0, .int .u32 0, .int .u32 0, .int .u32 0] 43)).alloc (.cells #[.string ⟨#[1, 65, 0]⟩, .int .u16 1, .int .u16 1, .int .u32 3, .string ⟨#[97, 98, 99, 100]⟩, .string ⟨#[]⟩, .string ⟨#[]⟩, .int .u32 0, .int .u32 0, .int .u32 0, .int .u32 0, .int .u32 0] 43)) = wa at HA0 HC0 HB0 ⊢; intro w2 hN g2 hs2; have HN2 := Lib.hid hN; have HA2 := Lib.hid (HA0.out.grown g2 (by simp)); have HC2 := Lib.hid (HC0.out.grown g2 (by simp)); have HB2 := Lib.hid (grown_none g2 HB0.out HB0.out.size); clear hN g2 hs2)
    | (go_at_call 7; refine (HSE.out _ HB2.out _ HN2.out).mono ?_; rintro e w3 ⟨l, v, rfl, hl, hat, B3⟩; obtain ⟨g3, o3, c3, gd, cd, rfl, r0, r1, r2, r3, r4⟩ := sets0_at hl hat; have HA3 := Lib.hid (HA2.out.below B3 HA2.out.lt); have HC3 := Lib.hid (HC2.out.below B3 HC2.out.lt); have HB3 := Lib.hid (HB2.out.trans (B3.mono HB2.out.size)); clear B3 hl hat)
    | (refine wpList_load_rowG (by rfl) 43 (.tmp 1) rfl w.heap.size rfl 43 ra0.cells (0, 0) _ HA3.out Tryd.underlying43 rfl HI.out ?_)
    | (refine wpList_build_manyG (by rfl) 22 43 1 #[(0, .tmp 39)] rfl 12 (flatK rcl 12 #[ra0]) ti _ Tryd.underlying22 HT.out.1 HT.out.2.1 HT.out.2.2.1 (by omega) (by omega) (by kernel_rfl) ?_; intro w4 hN g4 hs4; have HN4 := Lib.hid hN; have HA4 := Lib.hid (HA3.out.grown g4 (by simp)); have HC4 := Lib.hid (HC3.out.grown g4 (by simp)); have HB4 := Lib.hid (grown_none g4 HB3.out HB3.out.size); clear hN g4 hs4)
    | (refine wpList_load_rowG (by rfl) 43 (.tmp 2) rfl (w.heap.size + 1) rfl 43 rb0.cells (0, 0) _ HC4.out Tryd.underlying43 rfl HI.out ?_)
    | (refine wpList_build_manyG (by rfl) 22 43 2 #[(0, .tmp 41), (1, .tmp 42)] rfl 12 (flatK rcl 12 #[rb0, rb0]) ti _ Tryd.underlying22 HT.out.1 HT.out.2.1 HT.out.2.2.1 (by omega) (by omega) (by kernel_rfl) ?_; intro w5 hN g5 hs5; have HN5 := Lib.hid hN; have HN45 := Lib.hid (HN4.out.grown g5 (by simp)); have HA5 := Lib.hid (HA4.out.grown g5 (by simp)); have HC5 := Lib.hid (HC4.out.grown g5 (by simp)); have HB5 := Lib.hid (grown_none g5 HB4.out HB4.out.size); clear hN g5 hs5)
    | (go_at_call 12; refine (HSA.out _ HB5.out _ _ HN45.out HN5.out).mono ?_; rintro e w6 ⟨rfl, B6⟩; have HA6 := Lib.hid (HA5.out.below B6 HA5.out.lt); have HC6 := Lib.hid (HC5.out.below B6 HC5.out.lt); have HB6 := Lib.hid (HB5.out.trans (B6.mono HB5.out.size)); clear B6)
    | (refine wpList_load_rowG (by rfl) 43 (.tmp 1) rfl w.heap.size rfl 43 ra0.cells (0, 0) _ HA6.out Tryd.underlying43 rfl HI.out ?_)
    | (refine wpList_load_rowG (by rfl) 43 (.tmp 2) rfl (w.heap.size + 1) rfl 43 rb0.cells (0, 0) _ HC6.out Tryd.underlying43 rfl HI.out ?_)
    | (go_at_call 13; refine (HCM.out _ HB6.out).mono ?_; rintro e w7 ⟨rfl, B7⟩; have HB7 := Lib.hid (HB6.out.trans (B7.mono HB6.out.size)); clear B7))
  go_ret
  exact ⟨rfl, HB7.out⟩
end Go.Proofs.YtmieakkhpkclpaaDoor
