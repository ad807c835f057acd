/- Texts of the proofs, merged. -/
import Derived.Test.YtpnfkgjcnofjnaaMgSb
import Derived.Test.YtpnfkgjcnofjnaaTrBack
import Derived.Test.YtpnfkgjcnofjnaaHeldIn
import Derived.StillTailTactics
/- Down from a node by labels, as far as there are nodes. -/
namespace Go.Proofs.Ytpnfkgjcnofjnaa.Ts
open Go.RowKit Go.Shelf Tr
attribute [local go_sem] Oper.semAt_some

theorem dep_next : ∀ {q : List By} {n : No TV} {k : Nat}, k ≤ dep q n → ∀ (hq : k < q.length), (((atq (q.take k) n).2.sel q[k]).isSome = true → k + 1 ≤ dep q n) ∧ ((atq (q.take k) n).2.sel q[k] = none → dep q n = k)
  | [], _, _, _, hq => by simp at hq
  | x :: q, n, 0, _, _ => by
    simp only [List.take_zero, atq, List.getElem_cons_zero]
    rw [dep]
    cases n.2.sel x <;> simp
  | x :: q, n, k + 1, hk, hq => by
    rw [dep] at hk ⊢
    simp only [List.take_succ_cons, atq, List.getElem_cons_succ, Fo.kid]
    cases hs : n.2.sel x with
    | none => rw [hs] at hk; simp at hk
    | some m =>
      rw [hs] at hk
      have := dep_next (q := q) (n := m) (k := k) (by simpa using hk) (by simpa using hq)
      simpa using this
/-- down's own variables, in their boxes. -/
structure DnB (W : World) (z b1 : Nat) (v r c : Value) : Prop where
  b0 : Has W z 100 #[ptr b1]
  b1 : Has W (z + 1) 75 #[v]
  b2 : Has W (z + 1 + 1) 100 #[r]
  b3 : Has W (z + 1 + 1 + 1) 3 #[c]
section
variable {W W' : World} {z b1 : Nat} {v r c : Value}
theorem DnB.new (w : World) (b : Nat) (v : Value) : DnB ((((w.alloc (.cells #[ptr b] 100)).alloc (.cells #[v] 75)).alloc (.cells #[.pointer none] 100)).alloc (.cells #[.int .i64 0] 3)) w.heap.size b v (.pointer none) (.int .i64 0) := by
  have f1 := Has.fresh (w.alloc (.cells #[ptr b] 100)) 75 #[v]
  have f2 := Has.fresh ((w.alloc (.cells #[ptr b] 100)).alloc (.cells #[v] 75)) 100 #[.pointer none]
  have f3 := Has.fresh (((w.alloc (.cells #[ptr b] 100)).alloc (.cells #[v] 75)).alloc (.cells #[.pointer none] 100)) 3 #[.int .i64 0]
  simp only [World.size_alloc] at f1 f2 f3
  exact ⟨(((Has.fresh w _ _).alloc _).alloc _).alloc _, (f1.alloc _).alloc _, f2.alloc _, f3⟩
theorem DnB.c0 (h : DnB W z b1 v r c) : W.cell? ⟨z, 0, none⟩ = some (ptr b1) := by rw [h.b0.cell]; rfl
theorem DnB.c1 (h : DnB W z b1 v r c) : W.cell? ⟨z + 1, 0, none⟩ = some v := by rw [h.b1.cell]; rfl
theorem DnB.c2 (h : DnB W z b1 v r c) : W.cell? ⟨z + 1 + 1, 0, none⟩ = some r := by rw [h.b2.cell]; rfl
theorem DnB.c3 (h : DnB W z b1 v r c) : W.cell? ⟨z + 1 + 1 + 1, 0, none⟩ = some c := by rw [h.b3.cell]; rfl
theorem DnB.put0 (h : DnB W z b1 v r c) (b2 : Nat) : DnB (W.setCell ⟨z, 0, none⟩ (ptr b2)) z b2 v r c := ⟨h.b0.set 0 _, h.b1.far (by simp) _, h.b2.far (by simp <;> omega) _, h.b3.far (by simp <;> omega) _⟩
theorem DnB.put2 (h : DnB W z b1 v r c) (r' c' : Value) : DnB ((W.setCell ⟨z + 1 + 1, 0, none⟩ r').setCell ⟨z + 1 + 1 + 1, 0, none⟩ c') z b1 v r' c' :=
  ⟨(h.b0.far (by simp <;> omega) _).far (by simp <;> omega) _, (h.b1.far (by simp <;> omega) _).far (by simp <;> omega) _, (h.b2.set 0 _).far (by simp) _, (h.b3.far (by simp) _).set 0 _⟩
theorem set_grown (W : World) (b i : Nat) (u : Value) : W.grownBy (W.setCell ⟨b, i, none⟩ u) (some b) := ⟨rfl, rfl, rfl, by simp, fun j _ hj => heap_setCell_other W ⟨b, i, none⟩ j u (fun e => hj (by rw [e]))⟩
theorem DnB.drew (h : DnB W z b1 v r c) : DnB W.drew z b1 v r c := ⟨h.b0, h.b1, h.b2, h.b3⟩
theorem DnB.below (h : DnB W z b1 v r c) {B : Nat} (hb : Below B W W') (hB : z + 4 ≤ B) : DnB W' z b1 v r c := ⟨h.b0.below hb (by omega), h.b1.below hb (by omega), h.b2.below hb (by omega), h.b3.below hb (by omega)⟩
theorem Has.grownB {w w' : World} {g : Nat} {t : TypeId} {cs : Array Value} (h : Has w g t cs) {row : Option Nat} (hg : w.grownBy w' row) (hr : ∀ r, row = some r → r ≠ g) : Has w' g t cs := (hg.block g h.lt (fun e => hr g e.symm rfl)).trans h
theorem DnB.grown (h : DnB W z b1 v r c) {row : Option Nat} (hg : W.grownBy W' row) (hr : ∀ r, row = some r → z + 4 ≤ r) : DnB W' z b1 v r c :=
  ⟨Has.grownB h.b0 hg (fun r e => by have := hr r e; omega), Has.grownB h.b1 hg (fun r e => by have := hr r e; omega), Has.grownB h.b2 hg (fun r e => by have := hr r e; omega), Has.grownB h.b3 hg (fun r e => by have := hr r e; omega)⟩
end
/-- between two rounds. -/
def DnI (w : World) (top : Option Nat) (b : Nat) (n : No TV) (F : List Nat) (v : Value) (ls : List By) (k : Nat) (W : World) : Prop :=
  ∃ t1 b1 A1 F1 B1, Lens W top b n (ls.reverse.take k) t1 b1 A1 F1 B1 ∧ A1 ++ (F1 ++ B1) = F ∧ k ≤ dep ls.reverse n ∧ DnB W w.heap.size b1 v (.pointer none) (.int .i64 0) ∧ (Has W (w.heap.size + 4) 75 #[v] ∧ Rd W w.heap.size v ls) ∧ Below w.heap.size w W
def DnX (w : World) (top : Option Nat) (b : Nat) (n : No TV) (F : List Nat) (v : Value) (ls : List By) (c : Code) (_ : Nat) (W : World) : Prop :=
  c = .ret ∧ ∃ t1 b1 A1 F1 B1 b0, Lens W top b n (ls.reverse.take (dep ls.reverse n)) t1 b1 A1 F1 B1 ∧ A1 ++ (F1 ++ B1) = F ∧ DnB W w.heap.size b0 v (ptr b1) (.int .i64 (dep ls.reverse n : Nat)) ∧ Below w.heap.size w W
section
variable {w : World} {top : Option Nat} {b : Nat} {n : No TV} {F : List Nat} {v : Value} {ls : List By}
theorem below_row {a W W' : World} {B : Nat} (h : Below B a W) {row : Option Nat} (hg : W.grownBy W' row) (hr : ∀ r, row = some r → B ≤ r) (hB : B ≤ W.heap.size) : Below B a W' := h.grown hg hB hr
theorem rd_grown {W W' : World} {B : Nat} {v : Value} {ls : List By} (h : Rd W B v ls) {row : Option Nat} (hg : W.grownBy W' row) (hr : ∀ r, row = some r → ∃ o : Obj, W.heap[r]? = some o ∧ isBook o = true) : Rd W' B v ls := by
  obtain ⟨A, c, e, hc, hcell⟩ := h
  refine ⟨A, c, e, hc, fun h0 => ?_⟩
  obtain ⟨g, o, rfl, hgB, hcs⟩ := hcell h0
  refine ⟨g, o, rfl, hgB, fun j hj => ?_⟩
  have h1 := hcs j hj
  refine hg.cell h1 (fun e => ?_)
  obtain ⟨o', ho, hb⟩ := hr g e.symm
  unfold World.cell? at h1
  rw [ho] at h1
  cases o' <;> simp_all [isBook]
theorem DnI.book {C : Nat} (hC : w.heap.size + 5 ≤ C) (hF : ∀ k ∈ F, k < w.heap.size) : Book C (DnI w top b n F v ls) := by
  rintro k W W' row ⟨t1, b1, A1, F1, B1, h1, rfl, h3, h4, ⟨h5, h6⟩, h7⟩ hg hr
  have hz := h7.size
  exact ⟨t1, b1, A1, F1, B1, h1.grown hg (fun r e => (hr r e).1) (fun k hk => by have := hF k hk; omega), rfl, h3, h4.grown hg (fun r e => by have := (hr r e).1; omega), ⟨Has.grownB h5 hg (fun r e => by have := (hr r e).1; omega), rd_grown h6 hg fun r e => (hr r e).2⟩, below_row h7 hg (fun r e => by have := (hr r e).1; omega) hz⟩
theorem DnX.book {C : Nat} (hC : w.heap.size + 5 ≤ C) (hF : ∀ k ∈ F, k < w.heap.size) (c : Code) : Book C (DnX w top b n F v ls c) := by
  rintro k W W' row ⟨hc, t1, b1, A1, F1, B1, b0, h1, rfl, h4, h7⟩ hg hr
  exact ⟨hc, t1, b1, A1, F1, B1, b0, h1.grown hg (fun r e => (hr r e).1) (fun k hk => by have := hF k hk; omega), rfl, h4.grown hg (fun r e => by have := (hr r e).1; omega), below_row h7 hg (fun r e => by have := (hr r e).1; omega) h7.size⟩
end
theorem down_results {w : World} {tmps : Array Value} {b2 b3 : Nat} {p i : Value} {b0 : Nat} {k : Int} (h4 : tmps[4]? = some (.pointer (some ⟨b2, 0, none⟩))) (h5 : tmps[5]? = some (.pointer (some ⟨b3, 0, none⟩))) (hp : p = ptr b0) (hi : i = .int .i64 k)
    (c4 : w.cell? ⟨b2, 0, none⟩ = some p) (c5 : w.cell? ⟨b3, 0, none⟩ = some i) : (results Try.f70 tmps).run Try.prog w = .ok (.tuple #[p, i]) w := by
  subst hp hi
  simp [results, Try.results70, go_sem, h4, h5, c4, c5]
set_option maxRecDepth 100000 in
set_option maxHeartbeats 2000000 in
theorem down_any {w : World} {top : Option Nat} {b : Nat} {n : No TV} {F : List Nat} (h : NodeM w top b n F) (hok : ok n) (hN : (nents n).length ≤ 1099511627776) {A : Option Addr} {c : Nat} {ls : List By} (hv : Rd w w.heap.size (.slice A ls.length c) ls) (hls : ls.length ≤ 1099511627776) :
    Calls Try.prog 70 #[ptr b, .slice A ls.length c] w fun e w' => ∃ t1 b1 A1 F1 B1, e = .returned (.tuple #[ptr b1, .int .i64 (dep ls.reverse n : Nat)]) ∧ Lens w' top b n (ls.reverse.take (dep ls.reverse n)) t1 b1 A1 F1 B1 ∧ A1 ++ (F1 ++ B1) = F ∧ Below w.heap.size w w' := by
  have hF := h.lt
  have hb0 : Below w.heap.size w ((((w.alloc (.cells #[ptr b] 100)).alloc (.cells #[.slice A ls.length c] 75)).alloc (.cells #[.pointer none] 100)).alloc (.cells #[.int .i64 0] 3)) :=
    ((((Below.refl _ w).alloc (Nat.le_refl _) _).alloc (by simp) _).alloc (by simp; omega) _).alloc (by simp; omega) _
  have hz0 : ((((w.alloc (.cells #[ptr b] 100)).alloc (.cells #[.slice A ls.length c] 75)).alloc (.cells #[.pointer none] 100)).alloc (.cells #[.int .i64 0] 3)).heap.size = w.heap.size + 4 := by simp
  have hnew := DnB.new w b (.slice A ls.length c)
  have HF := Lib.hid hF
  have HV := Lib.hid (hv.keep hb0)
  have HH := Lib.hid (Lens.root (h.below hb0 (Nat.le_refl _)))
  have HOK := Lib.hid hok
  have HB0 := Lib.hid hb0
  have HNW := Lib.hid hnew
  have HK := Lib.hid (fun q : List By => Nat.le_trans (atq_kids_le (q := q) hok) hN)
  have HLS := Lib.hid hls
  have mixed : Try.prog.follows .mixedOrders = true := by kernel_rfl
  refine (callsIn_wide (n := 4)).1 ?_
  refine callsIn_of_wp_marks Try.func70 rfl trivial ?_ rfl
  simp only [Try.ntmps70, List.size_toArray, List.length_cons, List.length_nil, Nat.reduceAdd, Nat.reduceSub, Array.replicate_succ, Array.replicate_zero, List.push_toArray, List.append_toArray, List.nil_append, List.cons_append]
  have hc1 : ((((w.alloc (.cells #[ptr b] 100)).alloc (.cells #[.slice A ls.length c] 75)).alloc (.cells #[.pointer none] 100)).alloc (.cells #[.int .i64 0] 3)).cell? ⟨w.heap.size + 1, 0, none⟩ = some (.slice A ls.length c) := by rw [hnew.b1.cell]; rfl
  clear hv h hok hN hb0 hnew hF hls
  gi_wp2_with (refine ⟨trivial, ?_⟩; gi_at_call 74; refine (callsIn_wide.2 (backward_any _ _ _ _)).mono ?_; rintro e w3 ⟨rfl, rfl⟩)
  obtain ⟨W4, hW4⟩ : ∃ W4, W4 = ((((w.alloc (.cells #[ptr b] 100)).alloc (.cells #[.slice A ls.length c] 75)).alloc (.cells #[.pointer none] 100)).alloc (.cells #[.int .i64 0] 3)) := ⟨_, rfl⟩
  rw [← hW4] at HV HH HB0 HNW hz0 hc1 ⊢
  clear hW4 hc1
  refine wpIn_rangeFunc_R rfl (by omega) (gf := 92) (lb := #[.pointer (some ⟨w.heap.size + 4, 0, none⟩)]) rfl trivial (enters_of Try.func92 (by kernel_rfl) rfl)
    (back_seq 3 (w.heap.size + 4) (.slice A ls.length c) ls (Nat.le_trans HLS.out (by decide)) _) (fun _ => rfl)
    (DnI w top b n F (.slice A ls.length c) ls) (DnX w top b n F (.slice A ls.length c) ls)
    (DnI.book (by simp; omega) HF.out) (DnX.book (by simp; omega) HF.out)
    (fun i W ⟨_, _, _, _, _, _, _, _, _, h, _⟩ => ⟨h.1, _, h.2⟩)
    ⟨top, b, [], F, [], HH.out.below ((Below.refl _ W4).alloc (Nat.le_refl _) _) (Nat.le_refl _), by simp, Nat.zero_le _, HNW.out.below ((Below.refl _ W4).alloc (Nat.le_refl _) _) (by omega),
      ⟨by have := Has.fresh W4 75 #[.slice A ls.length c]; rwa [hz0] at this, HV.out.keep ((Below.refl _ W4).alloc (by omega) _)⟩, HB0.out.alloc (by omega) _⟩
    (fun i => { tmps := #[ptr b, .slice A ls.length c, .pointer (some ⟨w.heap.size, 0, none⟩), .pointer (some ⟨w.heap.size + 1, 0, none⟩), .pointer (some ⟨w.heap.size + 1 + 1, 0, none⟩), .pointer (some ⟨w.heap.size + 1 + 1 + 1, 0, none⟩), .int .i64 ((ls.length : Int) - 1 - i), sv (ls.getD (ls.length - 1 - i) []), undef, undef, .slice A ls.length c, .func (.func 92) #[] #[.pointer (some ⟨w.heap.size + 4, 0, none⟩)],
      .int .i64 ((ls.length : Int) - 1 - i), sv (ls.getD (ls.length - 1 - i) []), undef, undef, undef, undef, undef, undef, undef, undef, undef, undef, undef, undef, undef, undef, undef, undef, undef, undef, undef, undef, undef, undef, undef, undef], defers := [] }) ?assign ?body ?done ?stop
  case assign =>
    intro l2 i W K hK
    unfold backV
    gi_wp2
    exact hK
  case body =>
    rintro l2 i W ⟨t1, b1, A1, F1, B1, hL, hF1, hk, hD, ⟨hbx, hrd⟩, hbl⟩ hi
    have hir : i < ls.reverse.length := by simpa using hi
    have hnext := dep_next hk hir
    have hlab : ls.getD (ls.length - 1 - i) [] = ls.reverse[i] := by rw [List.getElem_reverse]; simp [List.getD, show ls.length - 1 - i < ls.length by omega]
    have hwr : IntKind.i64.wrap ((ls.length : Int) - 1) = (ls.length : Int) - 1 := by have := HLS.out; rw [IntKind.wrap_i64]; omega
    have hwr2 : IntKind.i64.wrap ((ls.length : Int) - 1 - ((ls.length : Int) - 1 - (i : Int))) = (i : Int) := by
      have := HLS.out
      rw [show (ls.length : Int) - 1 - ((ls.length : Int) - 1 - (i : Int)) = (i : Int) by omega, IntKind.wrap_i64]; omega
    rw [hlab]
    obtain ⟨x, hx⟩ : ∃ x : By, x = ls.reverse[i] := ⟨_, rfl⟩
    rw [← hx] at hnext ⊢
    have htk : ls.reverse.take (i + 1) = ls.reverse.take i ++ [x] := by rw [List.take_succ_eq_append_getElem hir, hx]
    have hpl := place_any hL.node (ok_atq _ HOK.out).1 (⟨x.toArray⟩ : ByteArray) (by have := HK.out (ls.reverse.take i); omega)
    have c0 : W.cell? ⟨w.heap.size, 0, none⟩ = some (ptr b1) := by rw [hD.b0.cell]; rfl
    have HP := Lib.hid hpl
    have HL := Lib.hid hL
    have HD := Lib.hid hD
    have HBL := Lib.hid hbl
    have HBX : Hid (Has W (w.heap.size + 4) 75 #[.slice A ls.length c] ∧ Rd W w.heap.size (.slice A ls.length c) ls) := ⟨hbx, hrd⟩
    have HTK := Lib.hid htk
    have HNX := Lib.hid hnext
    have HI := Lib.hid hi
    have HKD := Lib.hid hk
    have hzW := hbl.size
    clear hpl hL hD hbl hbx hrd htk hnext hi hk hir hlab hx
    simp only at HP
    cases hs : (atq (ls.reverse.take i) n).2.sel x with
    | none =>
      have hdep := HNX.out.2 hs
      have HDEP := Lib.hid hdep
      rw [hs] at HP
      simp only [Option.isSome_none] at HP
      clear hs hdep HNX HTK HKD
      gi_wp2_with (refine ⟨trivial, ?_⟩; gi_at_call 84; refine (CallsIn.inRound l2 (callsIn_wide.2 HP.out)).mono ?_; rintro e w5 ⟨rfl, hb5⟩; have HD5 := Lib.hid (HD.out.below hb5 (by have := HD.out.b3.lt; omega)); have c0 := HD5.out.c0; have c1 := HD5.out.c1; have c2 := HD5.out.c2; have c3 := HD5.out.c3; have f2 := HD5.out.b2.free 0; have f3 := HD5.out.b3.free 0)
      have hS0 : (fun W' : World => W'.cell? ⟨w.heap.size, 0, none⟩ = some (ptr b1) ∧ W'.cell? ⟨w.heap.size + 1, 0, none⟩ = some (.slice A ls.length c)) w5.drew := ⟨c0, c1⟩
      refine wpIn_region_S2 (S := fun W' => W'.cell? ⟨w.heap.size, 0, none⟩ = some (ptr b1) ∧ W'.cell? ⟨w.heap.size + 1, 0, none⟩ = some (.slice A ls.length c)) mixed 8 #[false, false, false, false, false, false, false, false] rfl rfl ?_
      refine wpAnyS_take (i := 0) (v := ptr b1) rfl (by kernel_rfl) (by kernel_rfl) (by kernel_rfl) (by kernel_rfl) (fun _ _ _ h => h) ⟨Or.inl ⟨by rfl, fun W' hW' => (by have := hW'.1; go_simp)⟩, rfl, fun _ => rfl⟩ hS0 ?_
      simp only [Act.put, List.setIfInBounds_toArray, List.set_cons_zero]
      refine wpAnyS_take (i := 1) (v := .slice A ls.length c) rfl (by kernel_rfl) (by kernel_rfl) (by kernel_rfl) (by kernel_rfl) (fun _ _ _ h => h) ⟨Or.inl ⟨by rfl, fun W' hW' => (by have := hW'.2; go_simp)⟩, rfl, fun _ => rfl⟩ hS0 ?_
      simp only [Act.put, List.setIfInBounds_toArray, List.set_cons_zero, List.set_cons_succ]
      refine wpAnyS_take (i := 2) (v := .int .i64 (ls.length : Nat)) rfl (by kernel_rfl) (by kernel_rfl) (by kernel_rfl) (by kernel_rfl) (fun _ _ _ h => h) ⟨Or.inl ⟨by rfl, fun W' hW' => (by go_simp)⟩, rfl, fun _ => rfl⟩ hS0 ?_
      simp only [Act.put, List.setIfInBounds_toArray, List.set_cons_zero, List.set_cons_succ]
      refine wpAnyS_take (i := 3) (v := .int .i64 ((ls.length : Int) - 1)) rfl (by kernel_rfl) (by kernel_rfl) (by kernel_rfl) (by kernel_rfl) (fun _ _ _ h => h) ⟨Or.inl ⟨by rfl, fun W' hW' => (by go_simp)⟩, rfl, fun _ => rfl⟩ hS0 ?_
      simp only [Act.put, List.setIfInBounds_toArray, List.set_cons_zero, List.set_cons_succ]
      refine wpAnyS_take (i := 4) (v := .int .i64 ((ls.length : Int) - 1 - (i : Int))) rfl (by kernel_rfl) (by kernel_rfl) (by kernel_rfl) (by kernel_rfl) (fun _ _ _ h => h) ⟨Or.inl ⟨by rfl, fun W' hW' => (by go_simp)⟩, rfl, fun _ => rfl⟩ hS0 ?_
      simp only [Act.put, List.setIfInBounds_toArray, List.set_cons_zero, List.set_cons_succ]
      refine wpAnyS_take (i := 5) (v := .int .i64 (i : Nat)) rfl (by kernel_rfl) (by kernel_rfl) (by kernel_rfl) (by kernel_rfl) (fun _ _ _ h => h) ⟨Or.inl ⟨by rfl, fun W' hW' => (by go_simp)⟩, rfl, fun _ => rfl⟩ hS0 ?_
      simp only [Act.put, List.setIfInBounds_toArray, List.set_cons_zero, List.set_cons_succ]
      refine wpAnyS_ready (rs := [6]) (by kernel_rfl) (by simp) (AllS.cons rfl rfl (fun K hK => ?_) AllS.nil)
      go_simp
      have hq := HD5.out.put2 (ptr b1) (.int .i64 (i : Nat))
      have hs6 : (w5.setCell ⟨w.heap.size + 1 + 1, 0, none⟩ (ptr b1)).cell? ⟨w.heap.size, 0, none⟩ = some (ptr b1) ∧ (w5.setCell ⟨w.heap.size + 1 + 1, 0, none⟩ (ptr b1)).cell? ⟨w.heap.size + 1, 0, none⟩ = some (.slice A ls.length c) :=
        ⟨by rw [(HD5.out.b0.far (p := ⟨w.heap.size + 1 + 1, 0, none⟩) (show w.heap.size ≠ w.heap.size + 1 + 1 by omega) _).cell]; rfl, by rw [(HD5.out.b1.far (p := ⟨w.heap.size + 1 + 1, 0, none⟩) (by simp) _).cell]; rfl⟩
      refine hK _ _ hs6 ?_
      clear hK K
      refine wpAnyS_ready (rs := [7]) (by kernel_rfl) (by simp) (AllS.cons rfl rfl (fun K hK => ?_) AllS.nil)
      go_simp
      refine hK _ _ ⟨hq.c0, hq.c1⟩ ?_
      clear hK K
      refine wpAnyS_done (by kernel_rfl) ?_ _
      gi_wp2
      have hbs := hb5.mono hzW
      have hFF : ∀ k ∈ A1 ++ (F1 ++ B1), k < w.heap.size := fun k hk => HF.out k (by rw [hF1] at hk; exact hk)
      refine ⟨(((KeepsR.of_below hb5 (Nat.le_refl _)).trans (KeepsR.has HD5.out.b2 _)).trans (KeepsR.has (HD5.out.b3.far (p := ⟨w.heap.size + 1 + 1, 0, none⟩) (by simp) _) (.int .i64 (i : Nat)))).drew, rfl, t1, b1, A1, F1, B1, b1, ?_, hF1, ?_, (((HBL.out.trans hbs).setCell (p := ⟨w.heap.size + 1 + 1, 0, none⟩) (by simp; omega) _).setCell (p := ⟨w.heap.size + 1 + 1 + 1, 0, none⟩) (by simp; omega) _).drew⟩
      · rw [HDEP.out]
        exact (((HL.out.below hb5 (Nat.le_refl _)).grown (set_grown _ (w.heap.size + 1 + 1) 0 (ptr b1)) (fun r e => by cases e; exact Nat.le_refl _) (fun k hk => by have := hFF k hk; omega)).grown (set_grown _ (w.heap.size + 1 + 1 + 1) 0 (.int .i64 (i : Nat))) (fun r e => by cases e; exact Nat.le_refl _) (fun k hk => by have := hFF k hk; omega)).drew
      · rw [HDEP.out]; exact hq.drew
    | some m =>
      have hdep := HNX.out.1 (by rw [hs]; rfl)
      obtain ⟨g, cap, b2, A2, F2, B2, k4, kl, ki, hL2, hF2⟩ := HL.out.down HOK.out hs
      have hgW : g < W.heap.size := World.block_lt_of_cell? _ _ ki
      have hbW : b1 < W.heap.size := World.block_lt_of_cell? _ _ k4
      have HL2 := Lib.hid hL2
      have HF2 := Lib.hid hF2
      have HDEP := Lib.hid hdep
      have HK4 := Lib.hid k4
      have HKI := Lib.hid ki
      rw [hs] at HP
      simp only [Option.isSome_some] at HP
      clear hs hdep HNX HKD hL2 hF2 k4 ki
      generalize (atq (ls.reverse.take i) n).2.idx x = ix at *
      generalize (atq (ls.reverse.take i) n).2.kids.length = kn at *
      have hi0 : (0 : Int) ≤ (ix : Int) := by omega
      have hi1 : (ix : Int) < (kn : Int) := by omega
      gi_wp2_with (refine ⟨trivial, ?_⟩; gi_at_call 84; refine (CallsIn.inRound l2 (callsIn_wide.2 HP.out)).mono ?_; rintro e w5 ⟨rfl, hb5⟩; have HD5 := Lib.hid (HD.out.below hb5 (by have := HD.out.b3.lt; omega)); have c0 := HD5.out.c0; have f0 := HD5.out.b0.free 0; have k4 := (hb5.cell (p := ⟨b1, 4, none⟩) hbW).trans HK4.out; have ki := (hb5.cell (p := ⟨g, ix, none⟩) hgW).trans HKI.out)
      have hbs := hb5.mono hzW
      have hFF : ∀ k ∈ A2 ++ (F2 ++ B2), k < w.heap.size := fun k hk => HF.out k (by rw [HF2.out, hF1] at hk; exact hk)
      refine ⟨(KeepsR.of_below hb5 (Nat.le_refl _)).trans (KeepsR.has HD5.out.b0 _), none, b2, A2, F2, B2, ?_, by rw [HF2.out]; exact hF1, HDEP.out, HD5.out.put0 b2, ⟨?_, ?_⟩, (HBL.out.trans hbs).setCell (Nat.le_refl _) _⟩
      · rw [HTK.out]
        exact (HL2.out.below hb5 (Nat.le_refl _)).grown (set_grown _ _ _ _) (fun r e => by cases e; exact Nat.le_refl _) hFF
      · exact (HBX.out.1.below hb5 HBX.out.1.lt).far (by simp) _
      · exact (HBX.out.2.keep hbs).keep ((Below.refl w.heap.size w5).setCell (p := ⟨w.heap.size, 0, none⟩) (Nat.le_refl _) _)
  case done =>
    rintro D W hD0 ⟨t1, b1, A1, F1, B1, hL, hF1, hk, hD, _, hbl⟩ hKd
    have hdep : dep ls.reverse n = ls.length := by have := dep_le ls.reverse n; simp at this; omega
    have htk : ls.reverse.take ls.length = ls.reverse := List.take_of_length_le (by simp)
    have c0 := hD.c0
    have c1 := hD.c1
    have c2 := hD.c2
    have c3 := hD.c3
    have f2 := hD.b2.free 0
    have f3 := hD.b3.free 0
    have HL2 := Lib.hid hL
    have HD2 := Lib.hid hD
    have HBL := Lib.hid hbl
    have HTK := Lib.hid htk
    have HDEP := Lib.hid hdep
    clear hL hD hbl htk hdep hk
    gi_wp2
    gi_big_region
    gi_wp2
    simp only [World.size_alloc] at hD0
    have hq := (HD2.out.put2 (ptr b1) (.int .i64 (ls.length : Nat))).drew
    have hKq : ((W.setCell ⟨w.heap.size + 1 + 1, 0, none⟩ (ptr b1)).setCell ⟨w.heap.size + 1 + 1 + 1, 0, none⟩ (.int .i64 (ls.length : Nat))).drew.heap[D]? = some (.deferred (some [])) := by
      show ((W.setCell ⟨w.heap.size + 1 + 1, 0, none⟩ (ptr b1)).setCell ⟨w.heap.size + 1 + 1 + 1, 0, none⟩ (.int .i64 (ls.length : Nat))).heap[D]? = _
      rw [heap_setCell_other _ _ _ _ (by show D ≠ w.heap.size + 1 + 1 + 1; omega), heap_setCell_other _ _ _ _ (by show D ≠ w.heap.size + 1 + 1; omega)]
      exact hKd
    have hFF : ∀ k ∈ A1 ++ (F1 ++ B1), k < w.heap.size := fun k hk => HF.out k (by rw [hF1] at hk; exact hk)
    refine ⟨by simp, .inl ⟨_, _, rfl, run_takeDeferred hKq, ?_⟩⟩
    have hqg := hq.grown (grownBy_putObj' _ D (.deferred none)) (fun r e => by cases e; omega)
    refine ⟨_, down_results rfl rfl rfl rfl hqg.c2 hqg.c3, t1, b1, A1, F1, B1, by rw [HDEP.out], ?_, hF1, ?_⟩
    · rw [HDEP.out]
      exact ((((HL2.out.grown (set_grown _ (w.heap.size + 1 + 1) 0 (ptr b1)) (fun r e => by cases e; exact Nat.le_refl _) (fun k hk => by have := hFF k hk; omega)).grown (set_grown _ (w.heap.size + 1 + 1 + 1) 0 (.int .i64 (ls.length : Nat))) (fun r e => by cases e; exact Nat.le_refl _) (fun k hk => by have := hFF k hk; omega)).drew).grown (grownBy_putObj' _ D (.deferred none)) (fun r e => by cases e; exact hD0) (fun k hk => by have := hFF k hk; omega))
    · exact (((HBL.out.setCell (p := ⟨w.heap.size + 1 + 1, 0, none⟩) (by simp; omega) _).setCell (p := ⟨w.heap.size + 1 + 1 + 1, 0, none⟩) (by simp; omega) _).drew).grown (grownBy_putObj' _ D (.deferred none)) (by have := HBL.out.size; simpa using this) (fun r e => by cases e; omega)
  case stop =>
    rintro D cd i W hD0 ⟨rfl, t1, b1, A1, F1, B1, b0, hL, hF1, hD, hbl⟩ hKd
    simp only [World.size_alloc] at hD0
    have hFF : ∀ k ∈ A1 ++ (F1 ++ B1), k < w.heap.size := fun k hk => HF.out k (by rw [hF1] at hk; exact hk)
    gi_wp2
    refine ⟨by simp, .inl ⟨_, _, rfl, run_takeDeferred hKd, ?_⟩⟩
    have hqg := hD.grown (grownBy_putObj' _ D (.deferred none)) (fun r e => by cases e; omega)
    refine ⟨_, down_results rfl rfl rfl rfl hqg.c2 hqg.c3, t1, b1, A1, F1, B1, rfl, ?_, hF1, ?_⟩
    · exact hL.grown (grownBy_putObj' _ D (.deferred none)) (fun r e => by cases e; exact hD0) (fun k hk => by have := hFF k hk; omega)
    · exact hbl.grown (grownBy_putObj' _ D (.deferred none)) hbl.size (fun r e => by cases e; omega)
end Go.Proofs.Ytpnfkgjcnofjnaa.Ts
/- The node at a path of labels, which is made if there is none. -/
namespace Go.Proofs.Ytpnfkgjcnofjnaa.Ts
open Go.RowKit Go.Shelf Tr
attribute [local go_sem] Oper.semAt_some

theorem at_none {q : List By} {n : No TV} : ∀ {j : Nat}, dep q n ≤ j → ∀ (hj : j < q.length), (atq (q.take j) n).2.sel q[j] = none
  | 0, hd, hj => by
    have := dep_next (q := q) (n := n) (k := 0) (Nat.zero_le _) hj
    cases h : (atq (q.take 0) n).2.sel q[0] with
    | none => rfl
    | some m => have := this.1 (by rw [h]; rfl); omega
  | j + 1, hd, hj => by
    by_cases he : dep q n = j + 1
    · have := dep_next (q := q) (n := n) (k := j + 1) (by omega) hj
      cases h : (atq (q.take (j + 1)) n).2.sel q[j + 1] with
      | none => rfl
      | some m => have := this.1 (by rw [h]; rfl); omega
    · have h0 := at_none (q := q) (n := n) (j := j) (by omega) (by omega)
      rw [List.take_succ_eq_append_getElem (by omega : j < q.length), atq_snoc]
      unfold Fo.kid
      rw [h0]
      rfl
theorem nodup_made {A B A0 B0 R R' : List Nat} {b1 b2 M N : Nat} (h : (A ++ ((b1 :: R ++ (A0 ++ B0)) ++ B)).Nodup) (hR : R'.Nodup) (hn : ∀ k ∈ R', k ∈ R ∨ N ≤ k) (hM : ∀ k ∈ A ++ ((b1 :: R ++ (A0 ++ B0)) ++ B), k < M) (hb : M ≤ b2) (hN : b2 < N) :
    (A ++ (b1 :: R' ++ A0) ++ ([b2] ++ (B0 ++ B))).Nodup := by
  have hp : (A ++ (b1 :: R' ++ A0) ++ ([b2] ++ (B0 ++ B))).Perm (R' ++ b2 :: (A ++ b1 :: (A0 ++ (B0 ++ B)))) := List.perm_iff_count.2 fun a => by simp [List.count_append, List.count_cons]; omega
  have hp2 : (A ++ ((b1 :: R ++ (A0 ++ B0)) ++ B)).Perm (R ++ (A ++ b1 :: (A0 ++ (B0 ++ B)))) := List.perm_iff_count.2 fun a => by simp [List.count_append, List.count_cons]; omega
  have hL : ∀ k ∈ A ++ b1 :: (A0 ++ (B0 ++ B)), k < M := fun k hk => hM k (hp2.mem_iff.2 (by simp [hk]))
  have h2 := List.nodup_append.1 (hp2.nodup_iff.1 h)
  rw [hp.nodup_iff, List.nodup_append]
  refine ⟨hR, List.nodup_cons.2 ⟨fun hm => by have := hL b2 hm; omega, h2.2.1⟩, fun k hk j hj e => ?_⟩
  subst e
  rcases List.mem_cons.1 hj with rfl | hj
  · rcases hn _ hk with h3 | h3
    · have := hM _ (hp2.mem_iff.2 (List.mem_append_left _ h3)); omega
    · omega
  · rcases hn _ hk with h3 | h3
    · exact h2.2.2 _ h3 _ hj rfl
    · have := hL _ hj; omega
theorem rowB_nodup (v : Value) : (rowB v).Nodup := by unfold rowB; cases v.ownBlock <;> simp
theorem rd_only {W W' : World} {C : Nat} {A : Option Addr} {m c : Nat} {ls : List By} {S : List Nat} (h : Rd W C (.slice A m c) ls) (ho : Only S W W') (ha : ∀ g o, A = some ⟨g, o, none⟩ → g ∉ S) : Rd W' C (.slice A m c) ls := by
  obtain ⟨A', c', e, hc, hcell⟩ := h
  injection e with e1 e2 e3
  subst e1 e2 e3
  refine ⟨A, c, rfl, hc, fun h0 => ?_⟩
  obtain ⟨g, o, rfl, hg, hcs⟩ := hcell h0
  refine ⟨g, o, rfl, hg, fun j hj => ?_⟩
  have h1 := hcs j hj
  have hlt : g < W.heap.size := World.block_lt_of_cell? _ _ h1
  rw [← h1]
  exact World.cell?_of_block (ho.block g hlt (ha g o rfl))
theorem take_lab {ls : List By} {d0 m i : Nat} (hm : m = ls.length - d0) (hi : i < m) (h : d0 + i < ls.reverse.length) : (ls.take m).getD (m - 1 - i) [] = ls.reverse[d0 + i] := by
  have hl : m - 1 - i < ls.length := by omega
  have e1 : (ls.take m)[m - 1 - i]? = some (ls[m - 1 - i]'hl) := by rw [List.getElem?_take, if_pos (by omega), List.getElem?_eq_getElem hl]
  rw [List.getD, e1, List.getElem_reverse, Option.getD_some]
  congr 1
  omega
/-- between two rounds. -/
def AtI (w w3 : World) (top : Option Nat) (b : Nat) (n : No TV) (F : List Nat) (q : List By) (d0 zb : Nat) (v : Value) (ls : List By) (k : Nat) (W : World) : Prop :=
  ∃ t1 b1 A1 F1 B1, Lens W top b n (q.take (d0 + k)) t1 b1 A1 F1 B1 ∧ (A1 ++ (F1 ++ B1)).Nodup ∧ New w3 F (A1 ++ (F1 ++ B1)) ∧ Only F w W ∧ Has W w.heap.size 100 #[ptr b1] ∧ (Has W zb 75 #[v] ∧ Rd W w.heap.size v ls) ∧ w3.heap.size ≤ W.heap.size
theorem Only.book {S : List Nat} {a W W' : World} {C : Nat} (h : Only S a W) {row : Option Nat} (hg : W.grownBy W' row) (hr : ∀ r, row = some r → C ≤ r) (hC : a.heap.size ≤ C) : Only S a W' := h.grown hg fun r e => .inr (by have := hr r e; omega)
theorem AtI.book {w w3 : World} {top : Option Nat} {b : Nat} {n : No TV} {F : List Nat} {q : List By} {d0 zb : Nat} {v : Value} {ls : List By} {C : Nat} (hC : w.heap.size < C) (hz : zb < C) : Book C (AtI w w3 top b n F q d0 zb v ls) := by
  rintro k W W' row ⟨t1, b1, A1, F1, B1, h1, h2, h3, h4, h5, ⟨h6, h7⟩, h8⟩ hg hr
  exact ⟨t1, b1, A1, F1, B1, h1.book hg fun r e => (hr r e).2, h2, h3, h4.book hg (fun r e => (hr r e).1) (by omega), Has.grownB h5 hg (fun r e => by have := (hr r e).1; omega), ⟨Has.grownB h6 hg (fun r e => by have := (hr r e).1; omega), rd_grown h7 hg fun r e => (hr r e).2⟩, Nat.le_trans h8 hg.size⟩
/-- what a round has laid. -/
theorem at_round {w w3 W w5 W7 W8 : World} {top t1 : Option Nat} {b b1 : Nat} {n : No TV} {F A1 F1 B1 : List Nat} {q : List By} {x : By} {d0 zb m c k ix : Nat} {A : Option Addr} {ls : List By} {kv kv' : Value} {ks F0 A0 B0 : List Nat}
    (hL : Lens W top b n (q.take (d0 + k)) t1 b1 A1 F1 B1) (hnd : (A1 ++ (F1 ++ B1)).Nodup) (hnew : New w3 F (A1 ++ (F1 ++ B1))) (hon : Only F w W) (hbox : Has W w.heap.size 100 #[ptr b1]) (hzb : Has W zb 75 #[.slice A m c]) (hrd : Rd W w.heap.size (.slice A m c) ls)
    (hsz : w3.heap.size ≤ W.heap.size) (hw3 : w.heap.size < w3.heap.size ∧ zb < w3.heap.size ∧ w.heap.size < zb) (hF : ∀ j ∈ F, j < w.heap.size) (hap : ∀ g o, A = some ⟨g, o, none⟩ → g < w.heap.size ∧ g ∉ F)
    (htk : q.take (d0 + (k + 1)) = q.take (d0 + k) ++ [x]) (hb5 : Below W.heap.size W w5)
    (hF1 : F1 = b1 :: rowB kv ++ F0) (hF0 : F0 = A0 ++ B0) (hb1 : Has W b1 (nty t1) (ncs t1 (atq (q.take (d0 + k)) n).1 kv))
    (hmade : ∀ (w' : World) (kv' : Value) (b2 : Nat), (∀ k, k ∈ A1 ∨ k ∈ F0 ∨ k ∈ B1 → w'.heap[k]? = W.heap[k]?) → Has w' b1 (nty t1) (ncs t1 (atq (q.take (d0 + k)) n).1 kv') → Row w' kv' (ks.take ix ++ b2 :: ks.drop ix) → Has w' b2 (nty none) (ncs none (fresh x : No TV).1 (.slice none 0 0)) →
      Lens w' top b n (q.take (d0 + k) ++ [x]) none b2 (A1 ++ (b1 :: rowB kv' ++ A0)) [b2] (B0 ++ B1))
    (h7 : Below w5.heap.size w5 W7) (hz7 : w5.heap.size < W7.heap.size) (hn7 : Has W7 w5.heap.size (nty none) (ncs none (fresh x : No TV).1 (.slice none 0 0)))
    (hrow : Row W8 kv' (ks.take ix ++ w5.heap.size :: ks.drop ix)) (ho8 : Only (rowB kv) W7 W8) (hk8 : ∀ j ∈ rowB kv', j ∈ rowB kv ∨ W7.heap.size ≤ j) (lo : Nat) :
    KeepsR lo W ((W8.setCell ⟨b1, 4, none⟩ kv').setCell ⟨w.heap.size, 0, none⟩ (ptr w5.heap.size)) ∧
    AtI w w3 top b n F q d0 zb (.slice A m c) ls (k + 1) ((W8.setCell ⟨b1, 4, none⟩ kv').setCell ⟨w.heap.size, 0, none⟩ (ptr w5.heap.size)) := by
  have hlt := hL.lt
  have hrB : ∀ j ∈ rowB kv, j ∈ A1 ++ (F1 ++ B1) := fun j hj => by rw [hF1]; simp [hj]
  have hb1m : b1 ∈ A1 ++ (F1 ++ B1) := by rw [hF1]; simp
  have hfp : ∀ j ∈ A1 ++ (F1 ++ B1), j ≠ w.heap.size ∧ j ≠ zb := fun j hj => by
    rcases hnew j hj with h | h
    · have := hF j h; omega
    · omega
  have hb1r : b1 ∉ rowB kv := fun hm => by
    rw [hF1] at hnd
    have h1 := (List.nodup_append.1 hnd).2.1
    have h2 := (List.nodup_append.1 h1).1
    have h3 := (List.nodup_cons.1 h2).1
    exact h3 (by simp [hm])
  have hsz5 := hb5.size
  have hwl : w.heap.size < w5.heap.size := by omega
  have hoth : ∀ j, j < W.heap.size → j ∉ rowB kv → j ≠ b1 → j ≠ w.heap.size → ((W8.setCell ⟨b1, 4, none⟩ kv').setCell ⟨w.heap.size, 0, none⟩ (ptr w5.heap.size)).heap[j]? = W.heap[j]? := fun j hj h1 h2 h3 => by
    rw [heap_setCell_other _ _ _ _ h3]
    show (W8.setCell ⟨b1, 4, none⟩ kv').heap[j]? = _
    rw [heap_setCell_other _ _ _ _ h2, ho8.block j (by omega) h1]
    exact (h7.block j (by omega)).trans (hb5.block j hj)
  have hbx8 : Has W8 w.heap.size 100 #[ptr b1] := ho8.has (fun h => (hfp _ (hrB _ h)).1 rfl) ((hbox.below hb5 hbox.lt).below h7 (by omega))
  have hb18 : Has W8 b1 (nty t1) (ncs t1 (atq (q.take (d0 + k)) n).1 kv) := ho8.has hb1r ((hb1.below hb5 hb1.lt).below h7 (by have := hb1.lt; omega))
  have hrow' : Row ((W8.setCell ⟨b1, 4, none⟩ kv').setCell ⟨w.heap.size, 0, none⟩ (ptr w5.heap.size)) kv' (ks.take ix ++ w5.heap.size :: ks.drop ix) := row_same hrow fun j hj => by
    have h1 : j ≠ b1 ∧ j ≠ w.heap.size := by
      rcases hk8 j hj with h | h
      · exact ⟨fun e => hb1r (e ▸ h), (hfp j (hrB j h)).1⟩
      · have := hlt b1 hb1m; omega
    rw [heap_setCell_other _ _ _ _ h1.2]
    show (W8.setCell ⟨b1, 4, none⟩ kv').heap[j]? = _
    rw [heap_setCell_other _ _ _ _ h1.1]
  have hb1' : Has ((W8.setCell ⟨b1, 4, none⟩ kv').setCell ⟨w.heap.size, 0, none⟩ (ptr w5.heap.size)) b1 (nty t1) (ncs t1 (atq (q.take (d0 + k)) n).1 kv') := by
    have := hb18.set 4 kv'
    have h2 : Has (W8.setCell ⟨b1, 4, none⟩ kv') b1 (nty t1) (ncs t1 (atq (q.take (d0 + k)) n).1 kv') := by cases t1 <;> exact this
    exact h2.far (hfp b1 hb1m).1 _
  have hn' : Has ((W8.setCell ⟨b1, 4, none⟩ kv').setCell ⟨w.heap.size, 0, none⟩ (ptr w5.heap.size)) w5.heap.size (nty none) (ncs none (fresh x : No TV).1 (.slice none 0 0)) := by
    have h1 : Has W8 w5.heap.size (nty none) (ncs none (fresh x : No TV).1 (.slice none 0 0)) := ho8.has (fun h => by have := hlt _ (hrB _ h); omega) hn7
    have h2 : Has (W8.setCell ⟨b1, 4, none⟩ kv') w5.heap.size (nty none) (ncs none (fresh x : No TV).1 (.slice none 0 0)) := h1.far (p := ⟨b1, 4, none⟩) (by have := hlt b1 hb1m; show w5.heap.size ≠ b1; omega) _
    exact h2.far (by show w5.heap.size ≠ w.heap.size; omega) _
  have honly : Only (b1 :: w.heap.size :: rowB kv) W ((W8.setCell ⟨b1, 4, none⟩ kv').setCell ⟨w.heap.size, 0, none⟩ (ptr w5.heap.size)) := by
    have h1 : Only (b1 :: w.heap.size :: rowB kv) W W8 := ((Only.of_below hb5 (Nat.le_refl _) _).trans (Only.of_below h7 (Nat.le_refl _) _)).trans (ho8.mono fun i hi => by simp [hi])
    have h2 : Only (b1 :: w.heap.size :: rowB kv) W (W8.setCell ⟨b1, 4, none⟩ kv') := (h1.setCell (p := ⟨b1, 4, none⟩) (.inl (by simp)) _)
    exact h2.setCell (p := ⟨w.heap.size, 0, none⟩) (.inl (by simp)) _
  have hz8 : w5.heap.size < ((W8.setCell ⟨b1, 4, none⟩ kv').setCell ⟨w.heap.size, 0, none⟩ (ptr w5.heap.size)).heap.size := hn'.lt
  have hcells : ∀ j ∈ b1 :: w.heap.size :: rowB kv, ∀ o, W.heap[j]? = some o → isBook o = false := fun j hj o ho => by
    simp only [List.mem_cons] at hj
    rcases hj with rfl | rfl | hj
    · rw [hb1] at ho; cases ho; rfl
    · rw [hbox] at ho; cases ho; rfl
    · obtain ⟨o', ho', hb'⟩ := hL.plain j (hrB j hj)
      rw [ho] at ho'; cases ho'; exact hb'
  refine ⟨KeepsR.of_cells honly.size honly.block hcells, none, w5.heap.size, A1 ++ (b1 :: rowB kv' ++ A0), [w5.heap.size], B0 ++ B1, ?_, ?_, ?_, ?_, ?_, ⟨?_, ?_⟩, ?_⟩
  · rw [htk]
    refine hmade _ kv' _ (fun j hj => hoth j (hlt j ?_) ?_ ?_ ?_) hb1' hrow' hn'
    · rw [hF1]; rcases hj with hj | hj | hj <;> simp [hj]
    all_goals
      have hjm : j ∈ A1 ++ (F1 ++ B1) := by rw [hF1]; rcases hj with hj | hj | hj <;> simp [hj]
    · intro hm
      rw [hF1] at hnd
      have e : (A1 ++ (b1 :: rowB kv ++ F0 ++ B1)).Perm (rowB kv ++ (b1 :: (A1 ++ (F0 ++ B1)))) := List.perm_iff_count.2 fun a => by simp [List.count_append, List.count_cons]; omega
      exact (List.nodup_append.1 (e.nodup_iff.1 hnd)).2.2 _ hm _ (by rcases hj with hj | hj | hj <;> simp [hj]) rfl
    · rintro rfl
      rw [hF1] at hnd
      have e : (A1 ++ (j :: rowB kv ++ F0 ++ B1)).Perm (j :: (rowB kv ++ (A1 ++ (F0 ++ B1)))) := List.perm_iff_count.2 fun a => by simp [List.count_append, List.count_cons]; omega
      exact (List.nodup_cons.1 (e.nodup_iff.1 hnd)).1 (by rcases hj with hj | hj | hj <;> simp [hj])
    · exact (hfp j hjm).1
  · rw [hF1, hF0] at hnd hlt
    have := nodup_made hnd (rowB_nodup kv') hk8 hlt hsz5 hz7
    simpa using this
  · intro j hj
    simp only [List.mem_append, List.mem_cons, List.not_mem_nil, or_false] at hj
    have old : j ∈ A1 ++ (F1 ++ B1) → j ∈ F ∨ w3.heap.size ≤ j := hnew j
    rw [hF1, hF0] at old
    rcases hj with (hj | (hj | hj) | hj) | hj | hj | hj
    · exact old (by simp [hj])
    · exact old (by simp [hj])
    · rcases hk8 j hj with h | h
      · exact old (by simp [h])
      · exact .inr (by omega)
    · exact old (by simp [hj])
    · exact .inr (by omega)
    · exact old (by simp [hj])
    · exact old (by simp [hj])
  · refine hon.trans' honly fun j hj => ?_
    simp only [List.mem_cons] at hj
    rcases hj with rfl | rfl | hj
    · rcases hnew _ hb1m with h | h
      · exact .inl h
      · exact .inr (by omega)
    · exact .inr (Nat.le_refl _)
    · rcases hnew _ (hrB _ hj) with h | h
      · exact .inl h
      · exact .inr (by omega)
  · have h2 : Has (W8.setCell ⟨b1, 4, none⟩ kv') w.heap.size 100 #[ptr b1] := hbx8.far (p := ⟨b1, 4, none⟩) (fun e => (hfp b1 hb1m).1 e.symm) _
    exact h2.set 0 _
  · refine honly.has (fun h => ?_) hzb
    simp only [List.mem_cons] at h
    rcases h with h | h | h
    · exact (hfp b1 hb1m).2 h.symm
    · omega
    · exact (hfp _ (hrB _ h)).2 rfl
  · refine rd_only hrd honly fun g o e h => ?_
    obtain ⟨hg1, hg2⟩ := hap g o e
    simp only [List.mem_cons] at h
    rcases h with h | h | h
    · rcases hnew _ hb1m with h' | h'
      · exact hg2 (h ▸ h')
      · omega
    · omega
    · rcases hnew _ (hrB _ h) with h' | h'
      · exact hg2 h'
      · omega
  · have := honly.size; omega
set_option maxRecDepth 100000 in
set_option maxHeartbeats 2000000 in
theorem at_any {w : World} {top : Option Nat} {b : Nat} {n : No TV} {F : List Nat} (h : NodeM w top b n F) (hd : F.Nodup) (hok : ok n) (hN : (nents n).length ≤ 1099511627776) {A : Option Addr} {c : Nat} {ls : List By} (hv : Rd w w.heap.size (.slice A ls.length c) ls) (hap : ∀ g o, A = some ⟨g, o, none⟩ → g ∉ F) (hls : ls.length ≤ 1099511627776) :
    Calls Try.prog 65 #[ptr b, .slice A ls.length c] w fun e w' => ∃ t1 b1 A1 F1 B1, e = .returned (ptr b1) ∧ Lens w' top b n ls.reverse t1 b1 A1 F1 B1 ∧ (A1 ++ (F1 ++ B1)).Nodup ∧ New w F (A1 ++ (F1 ++ B1)) ∧ Only F w w' := by
  have hF := h.lt
  have hcl : ls.length ≤ c := by obtain ⟨_, _, e, hc, _⟩ := hv; injection e with _ _ e3; subst e3; exact hc
  have hdle := dep_le ls.reverse n
  rw [List.length_reverse] at hdle
  have hb0 : Below w.heap.size w (w.alloc (.cells #[ptr b] 100)) := (Below.refl _ w).alloc (Nat.le_refl _) _
  have hdown := down_any (h.below hb0 (Nat.le_refl _)) hok hN ((hv.keep hb0).mono (by simp : w.heap.size ≤ (w.alloc (.cells #[ptr b] 100)).heap.size)) hls
  have hbox := Has.fresh w 100 #[ptr b]
  have HDN := Lib.hid hdown
  have HBX := Lib.hid hbox
  have HV := Lib.hid (hv.keep hb0)
  have HOK := Lib.hid hok
  have HND := Lib.hid hd
  have HF := Lib.hid hF
  have HAP := Lib.hid hap
  have HK := Lib.hid (fun q : List By => Nat.le_trans (atq_kids_le (q := q) hok) hN)
  have HB0 := Lib.hid hb0
  obtain ⟨q, hq⟩ : ∃ q, q = ls.reverse := ⟨_, rfl⟩
  obtain ⟨d0, hd0⟩ : ∃ d0, d0 = dep ls.reverse n := ⟨_, rfl⟩
  have hwr : IntKind.i64.wrap ((ls.length : Int) - (d0 : Int)) = (ls.length : Int) - (d0 : Int) := by rw [IntKind.wrap_i64]; omega
  rw [← hd0, ← hq] at HDN
  rw [← hd0] at hdle
  rw [← hq]
  have HQ := Lib.hid hq
  have HD0 := Lib.hid hd0
  have HLS := Lib.hid hls
  have hs1 : (0 : Int) ≤ (ls.length : Int) - (d0 : Int) := by omega
  have hs2 : (ls.length : Int) - (d0 : Int) ≤ (c : Int) := by omega
  have hs3 : ((ls.length : Int) - (d0 : Int)).toNat = ls.length - d0 := by omega
  have mixed : Try.prog.follows .mixedOrders = true := by kernel_rfl
  refine (callsIn_wide (n := 4)).1 ?_
  refine callsIn_of_wp_marks Try.func65 rfl trivial ?_ rfl
  simp only [Try.ntmps65, List.size_toArray, List.length_cons, List.length_nil, Nat.reduceAdd, Nat.reduceSub, Array.replicate_succ, Array.replicate_zero, List.push_toArray, List.append_toArray, List.nil_append, List.cons_append]
  have hc1 : (w.alloc (.cells #[ptr b] 100)).cell? ⟨w.heap.size, 0, none⟩ = some (ptr b) := by rw [hbox.cell]; rfl
  have hf1 : (w.alloc (.cells #[ptr b] 100)).frozen? ⟨w.heap.size, 0, none⟩ = false := hbox.free 0
  clear hv h hok hN hb0 hF hls hd hap hdown hbox hq hd0
  gi_wp2_with (refine ⟨trivial, ?_⟩; gi_at_call 70; refine (callsIn_wide.2 HDN.out).mono ?_; rintro e w1 ⟨t1, b1, A1, F1, B1, rfl, hL1, hF1, hb1⟩; have HL1 := Lib.hid hL1; have HB1 := Lib.hid hb1; have hbx1 := HBX.out.below hb1 HBX.out.lt; have hc2 : w1.cell? ⟨w.heap.size, 0, none⟩ = some (ptr b) := (by rw [hbx1.cell]; rfl); have hf2 := hbx1.free 0; have HBX1 := Lib.hid hbx1; clear hL1 hb1 hbx1)
  gi_wp2_with (refine ⟨trivial, ?_⟩; gi_at_call 74; refine (callsIn_wide.2 (backward_any _ _ _ _)).mono ?_; rintro e w3 ⟨rfl, rfl⟩)
  have hz1 : w.heap.size + 1 ≤ w1.heap.size := by have := HB1.out.size; simpa using this
  have hb01 : Below w.heap.size w w1 := HB0.out.trans (HB1.out.mono (by simp))
  obtain ⟨m, hm⟩ : ∃ m, m = ls.length - d0 := ⟨_, rfl⟩
  obtain ⟨l', hl'⟩ : ∃ l', l' = ls.take m := ⟨_, rfl⟩
  have hll : l'.length = m := by rw [hl', List.length_take]; omega
  have hlab : ∀ i, i < m → ∀ h : d0 + i < q.length, l'.getD (m - 1 - i) [] = q[d0 + i] := fun i hi h => by
    have hq := HQ.out
    clear HQ HDN HL1 hll
    subst hq hl'
    exact take_lab hm hi h
  have hrd2 : Rd (w1.setCell ⟨w.heap.size, 0, none⟩ (ptr b1)) w.heap.size (.slice A l'.length c) l' := by
    have h1 := ((HV.out.keep (HB1.out.mono (by simp))).keep ((Below.refl w.heap.size w1).setCell (p := ⟨w.heap.size, 0, none⟩) (Nat.le_refl _) (ptr b1)))
    obtain ⟨A', c', e, hc, hcell⟩ := h1
    injection e with e1 e2 e3
    subst e1 e3
    refine ⟨A, c, rfl, by omega, fun h0 => ?_⟩
    obtain ⟨g, o, rfl, hg, hcs⟩ := hcell (by omega)
    refine ⟨g, o, rfl, hg, fun j hj => ?_⟩
    rw [hcs j (by omega)]
    simp [hl']
  have hap2 : ∀ g o, A = some ⟨g, o, none⟩ → 0 < l'.length → g < w.heap.size ∧ g ∉ F := fun g o e h0 => by
    obtain ⟨A', c', e', hc, hcell⟩ := hrd2
    injection e' with e1 e2 e3
    subst e1
    obtain ⟨g', o', e2, hg, _⟩ := hcell h0
    rw [e] at e2
    injection e2 with e2
    injection e2 with e2
    subst e2
    exact ⟨hg, HAP.out g o e⟩
  rw [← hm, ← hll]
  obtain ⟨w2, hw2⟩ : ∃ w2, w2 = w1.setCell ⟨w.heap.size, 0, none⟩ (ptr b1) := ⟨_, rfl⟩
  have hz2 : w2.heap.size = w1.heap.size := by rw [hw2]; simp
  have hbx2 : Has w2 w.heap.size 100 #[ptr b1] := by rw [hw2]; exact HBX1.out.set 0 _
  have hbl2 : Below w.heap.size w w2 := by rw [hw2]; exact hb01.setCell (p := ⟨w.heap.size, 0, none⟩) (Nat.le_refl _) _
  have hL2 : Lens w2 top b n (q.take d0) t1 b1 A1 F1 B1 := by rw [hw2]; exact HL1.out.grown (set_grown _ _ _ _) (fun r e => by cases e; exact Nat.le_refl _) (fun k hk => HF.out k (by rw [hF1] at hk; exact hk))
  rw [← hw2] at hrd2 ⊢
  have HRD := Lib.hid hrd2
  have HAP2 := Lib.hid hap2
  have HLAB := Lib.hid hlab
  have HLL := Lib.hid hll
  have HL2 := Lib.hid hL2
  have HBX2 := Lib.hid hbx2
  have HBL2 := Lib.hid hbl2
  have hqm : d0 + m = q.length := by have := HQ.out; rw [this, List.length_reverse]; omega
  have HQM := Lib.hid hqm
  have hm40 : m ≤ 1099511627776 := by have := HLS.out; omega
  clear hrd2 hap2 hlab hL2 hbx2 hbl2 hw2 hc1 hf1 hc2 hf2 hl' hb01 HBX1 HL1 HB1 HB0 HDN HV HBX hqm hm
  have hzb : w1.heap.size < (w2.alloc (.cells #[.slice A l'.length c] 75)).heap.size := by simp; omega
  refine wpIn_rangeFunc_R rfl (by omega) (gf := 92) (lb := #[.pointer (some ⟨w1.heap.size, 0, none⟩)]) rfl trivial (enters_of Try.func92 (by kernel_rfl) rfl)
    (back_seq 3 w1.heap.size (.slice A l'.length c) l' (by rw [hll]; omega) _) (fun _ => rfl)
    (AtI w (w2.alloc (.cells #[.slice A l'.length c] 75)) top b n F q d0 w1.heap.size (.slice A l'.length c) l') (fun _ _ _ => False)
    (AtI.book (by simp; omega) hzb) (fun _ _ _ _ _ h _ _ => h)
    (fun i W ⟨_, _, _, _, _, _, _, _, _, _, h, _⟩ => ⟨h.1, _, h.2⟩)
    ⟨t1, b1, A1, F1, B1, HL2.out.below ((Below.refl _ w2).alloc (Nat.le_refl _) _) (Nat.le_refl _), by rw [hF1]; exact HND.out, by rw [hF1]; exact New.refl _ _, Only.of_below (HBL2.out.alloc (by omega) _) (Nat.le_refl _) _, HBX2.out.alloc _,
      ⟨by have := Has.fresh w2 75 #[.slice A l'.length c]; rwa [hz2] at this, HRD.out.keep ((Below.refl _ w2).alloc (by omega) _)⟩, Nat.le_refl _⟩
    (fun i => { tmps := #[ptr b, .slice A ls.length c, .pointer (some ⟨w.heap.size, 0, none⟩), undef, .pointer none, .int .i64 d0, undef, sv (l'.getD (l'.length - 1 - i) []), undef, undef, undef, .tuple #[ptr b1, .int .i64 d0], ptr b, .slice A ls.length c, .tuple #[ptr b1, .int .i64 d0], ptr b1, .int .i64 d0, .slice A ls.length c, .slice A ls.length c, .int .i64 ls.length, .int .i64 d0, .int .i64 ((ls.length : Int) - d0), .slice A l'.length c, .func (.func 92) #[] #[.pointer (some ⟨w1.heap.size, 0, none⟩)],
      .int .i64 ((l'.length : Int) - 1 - i), sv (l'.getD (l'.length - 1 - i) []), undef, undef, undef, undef, undef, undef, undef, undef, undef, undef, undef, undef, undef, undef, undef, undef, undef, undef, undef, undef, undef, undef], defers := [] }) ?assign ?body ?done ?stop
  case assign =>
    clear hll
    intro l2 i W K hK
    unfold backV
    gi_wp2
    exact hK
  case body =>
    rintro l2 i W ⟨t1', b1', A1', F1', B1', hL, hnd, hnew, hon, hbox, ⟨hzb', hrd⟩, hsz⟩ hi
    rw [hll] at hi hzb' hrd hnew hsz
    have hqi : d0 + i < q.length := by have := HQM.out; omega
    have hlb := HLAB.out i hi hqi
    obtain ⟨x, hx⟩ : ∃ x : By, x = q[d0 + i] := ⟨_, rfl⟩
    rw [hll, hlb, ← hx]
    have hsel : (atq (q.take (d0 + i)) n).2.sel x = none := by
      rw [hx]
      exact at_none (by have := HD0.out; have := HQ.out; subst this; omega) hqi
    have htk : q.take (d0 + (i + 1)) = q.take (d0 + i) ++ [x] := by rw [show d0 + (i + 1) = d0 + i + 1 by omega, List.take_succ_eq_append_getElem hqi, hx]
    have hpl := place_any hL.node (ok_atq _ HOK.out).1 (⟨x.toArray⟩ : ByteArray) (by have := HK.out (q.take (d0 + i)); omega)
    simp only [hsel, Option.isSome_none] at hpl
    obtain ⟨kv, ks, F0, hF1', hks, k4, kf, hrow, hb1, A0, B0, hF0, hmade⟩ := hL.made hsel
    have c0 : W.cell? ⟨w.heap.size, 0, none⟩ = some (ptr b1') := by rw [hbox.cell]; rfl
    have HP := Lib.hid hpl
    have HL := Lib.hid hL
    have HND' := Lib.hid hnd
    have HNEW := Lib.hid hnew
    have HON := Lib.hid hon
    have HBOX := Lib.hid hbox
    have HZB := Lib.hid hzb'
    have HR := Lib.hid hrd
    have HK4 := Lib.hid k4
    have HROW := Lib.hid hrow
    have HB1 := Lib.hid hb1
    have HMADE := Lib.hid hmade
    have HTK := Lib.hid htk
    have HF1 := Lib.hid hF1'
    have HF0 := Lib.hid hF0
    have HSZ := Lib.hid hsz
    clear hpl hL hnd hnew hon hbox hzb' hrd k4 hrow hb1 hmade htk hF1' hF0 hsel hlb hx hsz hqi
    gi_wp2_with (refine ⟨trivial, ?_⟩; gi_at_call 84; refine (CallsIn.inRound l2 (callsIn_wide.2 HP.out)).mono ?_; rintro e w5 ⟨rfl, hb5⟩)
    obtain ⟨A4, cp4, rfl⟩ := own_form HROW.out
    generalize hix : (atq (q.take (d0 + i)) n).2.idx x = ix at *
    have hb1W : b1' < W.heap.size := HB1.out.lt
    have hk5 := (hb5.cell (p := ⟨b1', 4, none⟩) hb1W).trans HK4.out
    have c5 := (hb5.cell (p := ⟨w.heap.size, 0, none⟩) HBOX.out.lt).trans c0
    have HB5 := Lib.hid hb5
    obtain ⟨W6, hW6⟩ : ∃ W6, W6 = (w5.alloc (.cells #[sv x, .string ⟨#[]⟩, .string ⟨#[]⟩, .bool false, .slice none 0 0] 97)).drew := ⟨_, rfl⟩
    have hS0 : (fun W' : World => W'.cell? ⟨w.heap.size, 0, none⟩ = some (ptr b1')) W6 := by
      have := (((Below.refl w5.heap.size w5).alloc (Nat.le_refl _) (.cells #[sv x, .string ⟨#[]⟩, .string ⟨#[]⟩, .bool false, .slice none 0 0] 97)).cell (p := ⟨w.heap.size, 0, none⟩) (by have := HBOX.out.lt; have := hb5.size; show w.heap.size < w5.heap.size; omega)).trans c5
      rw [hW6]; exact this
    have hk6 : W6.cell? ⟨b1', 4, none⟩ = some (.slice A4 ks.length cp4) := by
      have := (((Below.refl w5.heap.size w5).alloc (Nat.le_refl _) (.cells #[sv x, .string ⟨#[]⟩, .string ⟨#[]⟩, .bool false, .slice none 0 0] 97)).cell (p := ⟨b1', 4, none⟩) (by have := hb5.size; show b1' < w5.heap.size; omega)).trans hk5
      rw [hW6]; exact this
    have hz6 : W6.heap.size = w5.heap.size + 1 := by rw [hW6]; simp
    refine wpIn_region_S2 (S := fun W' => W'.cell? ⟨w.heap.size, 0, none⟩ = some (ptr b1')) mixed 12 #[false, false, false, false, false, false, false, false, false, false, false, false] rfl rfl ?_
    rw [← hW6]
    have HW6 := Lib.hid hW6
    clear hW6 hk5 c5 hb5
    refine wpAnyS_take (i := 0) (v := ptr b1') rfl (by kernel_rfl) (by kernel_rfl) (by kernel_rfl) (by kernel_rfl) (fun _ _ _ h => h) ⟨Or.inl ⟨by rfl, fun W' hW' => (by have := hW'; go_simp)⟩, rfl, fun _ => rfl⟩ hS0 ?_
    simp only [Act.put, List.setIfInBounds_toArray, List.set_cons_zero]
    refine wpAnyS_take (i := 1) (v := ptr b1') rfl (by kernel_rfl) (by kernel_rfl) (by kernel_rfl) (by kernel_rfl) (fun _ _ _ h => h) ⟨Or.inl ⟨by rfl, fun W' hW' => (by have := hW'; go_simp)⟩, rfl, fun _ => rfl⟩ hS0 ?_
    simp only [Act.put, List.setIfInBounds_toArray, List.set_cons_zero, List.set_cons_succ]
    refine wpAnyS_take (i := 2) (v := .pointer (some ⟨b1', 0, none⟩)) rfl (by kernel_rfl) (by kernel_rfl) (by kernel_rfl) (by kernel_rfl) (fun _ _ _ h => h) ⟨Or.inl ⟨by rfl, fun W' hW' => (by go_simp)⟩, rfl, fun _ => rfl⟩ hS0 ?_
    simp only [Act.put, List.setIfInBounds_toArray, List.set_cons_zero, List.set_cons_succ]
    refine wpAnyS_take (i := 3) (v := .pointer (some ⟨b1', 4, none⟩)) rfl (by kernel_rfl) (by kernel_rfl) (by kernel_rfl) (by kernel_rfl) (fun _ _ _ h => h) ⟨Or.inl ⟨by rfl, fun W' hW' => (by go_simp)⟩, rfl, fun _ => rfl⟩ hS0 ?_
    simp only [Act.put, List.setIfInBounds_toArray, List.set_cons_zero, List.set_cons_succ]
    refine wpAnyS_take (i := 5) (v := .int .i64 (ix : Nat)) rfl (by kernel_rfl) (by kernel_rfl) (by kernel_rfl) (by kernel_rfl) (fun _ _ _ h => h) ⟨Or.inl ⟨by rfl, fun W' hW' => (by go_simp)⟩, rfl, fun _ => rfl⟩ hS0 ?_
    simp only [Act.put, List.setIfInBounds_toArray, List.set_cons_zero, List.set_cons_succ]
    refine wpAnyS_take (i := 6) (v := ptr w5.heap.size) rfl (by kernel_rfl) (by kernel_rfl) (by kernel_rfl) (by kernel_rfl) (fun _ _ _ h => h) ⟨Or.inl ⟨by rfl, fun W' hW' => (by go_simp)⟩, rfl, fun _ => rfl⟩ hS0 ?_
    simp only [Act.put, List.setIfInBounds_toArray, List.set_cons_zero, List.set_cons_succ]
    have hixl : ix ≤ ks.length := by rw [hks, ← hix]; exact idx_le _ _
    have hF7 : Has (W6.alloc (.cells #[ptr w5.heap.size] 100)) (w5.heap.size + 1) 100 #[ptr w5.heap.size] := by have := Has.fresh W6 100 #[ptr w5.heap.size]; rwa [hz6] at this
    have h67 : Below w5.heap.size w5 (W6.alloc (.cells #[ptr w5.heap.size] 100)) := by rw [HW6.out]; exact (((Below.refl w5.heap.size w5).alloc (Nat.le_refl _) _).drew).alloc (by simp) _
    have hrow7 : Row (W6.alloc (.cells #[ptr w5.heap.size] 100)) (.slice A4 ks.length cp4) ks := row_same HROW.out fun j hj => (h67.block j (by have := row_lt HROW.out j hj; have := HB5.out.size; omega)).trans (HB5.out.block j (row_lt HROW.out j hj))
    have hins := insert_any hrow7 w5.heap.size hixl hF7 (fun h => by have := row_lt HROW.out _ h; have := HB5.out.size; omega) (by rw [hks]; exact HK.out _)
    have hS7 : (W6.alloc (.cells #[ptr w5.heap.size] 100)).cell? ⟨w.heap.size, 0, none⟩ = some (ptr b1') := by
      have := ((Below.refl W6.heap.size W6).alloc (Nat.le_refl _) (.cells #[ptr w5.heap.size] 100)).cell (p := ⟨w.heap.size, 0, none⟩) (World.block_lt_of_cell? _ _ hS0)
      exact this.trans hS0
    have hk7 : (W6.alloc (.cells #[ptr w5.heap.size] 100)).cell? ⟨b1', 4, none⟩ = some (.slice A4 ks.length cp4) := by
      have := ((Below.refl W6.heap.size W6).alloc (Nat.le_refl _) (.cells #[ptr w5.heap.size] 100)).cell (p := ⟨b1', 4, none⟩) (World.block_lt_of_cell? _ _ hk6)
      exact this.trans hk6
    have HINS := Lib.hid hins
    have HS7 := Lib.hid hS7
    have H67 := Lib.hid h67
    have hfp : ∀ j ∈ A1' ++ (F1' ++ B1'), j ≠ w.heap.size := fun j hj => by
      rcases HNEW.out j hj with h | h
      · have := HF.out j h; omega
      · have h2 : w2.heap.size + 1 ≤ j := by simpa using h
        omega
    have hb1m : b1' ∈ A1' ++ (F1' ++ B1') := by rw [HF1.out]; simp
    have HB1N : Hid (w.heap.size ≠ b1') := fun e => hfp b1' hb1m e.symm
    have HBR : Hid (w.heap.size ∉ rowB (.slice A4 ks.length cp4)) := fun hm => hfp _ (by rw [HF1.out]; simp [hm]) rfl
    have HB1R : Hid (b1' ∉ rowB (.slice A4 ks.length cp4)) := fun hm => by
      have h := HND'.out
      rw [HF1.out] at h
      have h3 := (List.nodup_cons.1 (List.nodup_append.1 (List.nodup_append.1 h).2.1).1).1
      exact h3 (by simp [hm])
    have HBX7 := Lib.hid ((HBOX.out.below HB5.out HBOX.out.lt).below h67 (by have := HBOX.out.lt; have := HB5.out.size; omega))
    have HB17 := Lib.hid ((HB1.out.below HB5.out HB1.out.lt).below h67 (by have := HB1.out.lt; have := HB5.out.size; omega))
    have hxe := hix
    have HIX := Lib.hid hxe
    clear hins hrow7 hF7 h67 hks hix hxe hfp hb1m
    refine wpAnyS_ready (rs := [4, 7]) (by kernel_rfl) (by simp) ?_
    refine AllS.cons rfl rfl (fun K hK => ?_) (AllS.cons rfl rfl (fun K hK => ?_) AllS.nil)
    · go_simp
      refine hK _ _ hS0 ?_
      clear hK K
      refine wpAnyS_ready (rs := [7]) (by kernel_rfl) (by simp) (AllS.cons rfl rfl (fun K hK => ?_) AllS.nil)
      go_simp
      refine hK _ _ HS7.out ?_
      clear hK K
      refine wpAnyS_ready (rs := [8]) (by kernel_rfl) (by simp) (AllS.cons rfl rfl (fun K hK => ?_) AllS.nil)
      go_simp
      refine ⟨trivial, (CallsIn.inRound l2 (callsIn_wide.2 HINS.out)).mono ?_⟩
      rintro e w8 ⟨kv', rfl, hrow8, ho8, hk8⟩
      obtain ⟨A8, cp8, hkv⟩ := own_form hrow8
      obtain ⟨n8, hn8⟩ : ∃ n8, n8 = (ks.take ix ++ w5.heap.size :: ks.drop ix).length := ⟨_, rfl⟩
      rw [← hn8] at hkv
      subst hkv
      clear hn8
      have hbx8 := ho8.has HBR.out (HBX7.out)
      have hb18 := ho8.has HB1R.out HB17.out
      have c8 : w8.cell? ⟨w.heap.size, 0, none⟩ = some (ptr b1') := by rw [hbx8.cell]; rfl
      have k8 : w8.cell? ⟨b1', 4, none⟩ = some (.slice A4 ks.length cp4) := by rw [hb18.cell]; cases t1' <;> rfl
      have f8 := hb18.free 4
      have HR8 := Lib.hid hrow8
      have HO8 := Lib.hid ho8
      have HK8 := Lib.hid hk8
      have hbx9 : Has (w8.setCell ⟨b1', 4, none⟩ (.slice A8 n8 cp8)) w.heap.size 100 #[ptr b1'] := hbx8.far (p := ⟨b1', 4, none⟩) HB1N.out _
      have c9 : (w8.setCell ⟨b1', 4, none⟩ (.slice A8 n8 cp8)).cell? ⟨w.heap.size, 0, none⟩ = some (ptr b1') := by rw [hbx9.cell]; rfl
      have f9 := hbx9.free 0
      clear hrow8 ho8 hk8 hbx8 hb18 hbx9
      refine hK _ _ c8 ?_
      clear hK K
      refine wpAnyS_ready (rs := [9]) (by kernel_rfl) (by simp) (AllS.cons rfl rfl (fun K hK => ?_) AllS.nil)
      go_simp
      refine hK _ _ c8 ?_
      clear hK K
      refine wpAnyS_ready (rs := [10]) (by kernel_rfl) (by simp) (AllS.cons rfl rfl (fun K hK => ?_) AllS.nil)
      go_simp
      refine hK _ _ c8 ?_
      clear hK K
      refine wpAnyS_ready (rs := [11]) (by kernel_rfl) (by simp) (AllS.cons rfl rfl (fun K hK => ?_) AllS.nil)
      go_simp
      refine hK _ _ c9 ?_
      clear hK K
      refine wpAnyS_done (by kernel_rfl) ?_ _
      gi_wp2
      exact at_round HL.out HND'.out HNEW.out HON.out HBOX.out HZB.out HR.out HSZ.out ⟨by simp; omega, by simp; omega, by omega⟩ HF.out (fun g o e => HAP2.out g o e (by rw [hll]; omega)) HTK.out HB5.out HF1.out HF0.out HB1.out HMADE.out H67.out (by simp; omega) (by have := Has.fresh w5 97 #[sv x, .string ⟨#[]⟩, .string ⟨#[]⟩, .bool false, .slice none 0 0]; rw [HW6.out]; exact this.alloc _) HR8.out HO8.out HK8.out _
    · go_simp
      refine hK _ _ HS7.out ?_
      clear hK K
      refine wpAnyS_ready (rs := [4]) (by kernel_rfl) (by simp) (AllS.cons rfl rfl (fun K hK => ?_) AllS.nil)
      go_simp
      refine hK _ _ HS7.out ?_
      clear hK K
      refine wpAnyS_ready (rs := [8]) (by kernel_rfl) (by simp) (AllS.cons rfl rfl (fun K hK => ?_) AllS.nil)
      go_simp
      refine ⟨trivial, (CallsIn.inRound l2 (callsIn_wide.2 HINS.out)).mono ?_⟩
      rintro e w8 ⟨kv', rfl, hrow8, ho8, hk8⟩
      obtain ⟨A8, cp8, hkv⟩ := own_form hrow8
      obtain ⟨n8, hn8⟩ : ∃ n8, n8 = (ks.take ix ++ w5.heap.size :: ks.drop ix).length := ⟨_, rfl⟩
      rw [← hn8] at hkv
      subst hkv
      clear hn8
      have hbx8 := ho8.has HBR.out (HBX7.out)
      have hb18 := ho8.has HB1R.out HB17.out
      have c8 : w8.cell? ⟨w.heap.size, 0, none⟩ = some (ptr b1') := by rw [hbx8.cell]; rfl
      have k8 : w8.cell? ⟨b1', 4, none⟩ = some (.slice A4 ks.length cp4) := by rw [hb18.cell]; cases t1' <;> rfl
      have f8 := hb18.free 4
      have HR8 := Lib.hid hrow8
      have HO8 := Lib.hid ho8
      have HK8 := Lib.hid hk8
      have hbx9 : Has (w8.setCell ⟨b1', 4, none⟩ (.slice A8 n8 cp8)) w.heap.size 100 #[ptr b1'] := hbx8.far (p := ⟨b1', 4, none⟩) HB1N.out _
      have c9 : (w8.setCell ⟨b1', 4, none⟩ (.slice A8 n8 cp8)).cell? ⟨w.heap.size, 0, none⟩ = some (ptr b1') := by rw [hbx9.cell]; rfl
      have f9 := hbx9.free 0
      clear hrow8 ho8 hk8 hbx8 hb18 hbx9
      refine hK _ _ c8 ?_
      clear hK K
      refine wpAnyS_ready (rs := [9]) (by kernel_rfl) (by simp) (AllS.cons rfl rfl (fun K hK => ?_) AllS.nil)
      go_simp
      refine hK _ _ c8 ?_
      clear hK K
      refine wpAnyS_ready (rs := [10]) (by kernel_rfl) (by simp) (AllS.cons rfl rfl (fun K hK => ?_) AllS.nil)
      go_simp
      refine hK _ _ c8 ?_
      clear hK K
      refine wpAnyS_ready (rs := [11]) (by kernel_rfl) (by simp) (AllS.cons rfl rfl (fun K hK => ?_) AllS.nil)
      go_simp
      refine hK _ _ c9 ?_
      clear hK K
      refine wpAnyS_done (by kernel_rfl) ?_ _
      gi_wp2
      exact at_round HL.out HND'.out HNEW.out HON.out HBOX.out HZB.out HR.out HSZ.out ⟨by simp; omega, by simp; omega, by omega⟩ HF.out (fun g o e => HAP2.out g o e (by rw [hll]; omega)) HTK.out HB5.out HF1.out HF0.out HB1.out HMADE.out H67.out (by simp; omega) (by have := Has.fresh w5 97 #[sv x, .string ⟨#[]⟩, .string ⟨#[]⟩, .bool false, .slice none 0 0]; rw [HW6.out]; exact this.alloc _) HR8.out HO8.out HK8.out _
  case done =>
    rintro D W hD0 ⟨t1', b1', A1', F1', B1', hL, hnd, hnew, hon, hbox, _, hsz⟩ hKd
    have hq : q.take (d0 + l'.length) = q := by rw [hll, HQM.out]; exact List.take_length
    rw [hq] at hL
    have c0 : W.cell? ⟨w.heap.size, 0, none⟩ = some (ptr b1') := by rw [hbox.cell]; rfl
    simp only [World.size_alloc] at hD0
    have HL := Lib.hid hL
    have HNEW := Lib.hid hnew
    have HON := Lib.hid hon
    have HND' := Lib.hid hnd
    clear hL hnew hon hbox hnd hq
    gi_wp2
    refine ⟨by simp, .inl ⟨_, _, rfl, run_takeDeferred hKd, ?_⟩⟩
    refine ⟨_, results_tmp rfl _ _ _, t1', b1', A1', F1', B1', rfl, HL.out.book (grownBy_putObj' _ D (.deferred none)) (fun r e => by cases e; exact ⟨_, hKd, rfl⟩), HND'.out, fun k hk => ?_, HON.out.book (C := D) (grownBy_putObj' _ D (.deferred none)) (fun r e => by cases e; exact Nat.le_refl _) (by omega)⟩
    · rcases HNEW.out k hk with h | h
      · exact .inl h
      · exact .inr (by have : w2.heap.size + 1 ≤ k := by simpa using h
                       omega)
  case stop =>
    rintro D cd i W _ h _
    exact h.elim
end Go.Proofs.Ytpnfkgjcnofjnaa.Ts
/- A key of these labels is taken away: the program's drop. -/
namespace Go.Proofs.Ytpnfkgjcnofjnaa.Ts
open Go.RowKit Go.Shelf Tr

/-- a node whose row of kids has lost one. -/
theorem node_del {w w1 : World} {top : Option Nat} {b : Nat} {n : No TV} {kv kv' : Value} {ks F1 : List Nat} {i : Nat} {f' : Fo TV} (hb : Has w b (nty top) (ncs top n.1 kv)) (hk : KidsM w n.2 ks F1) (hi : i < n.2.kids.length) (hf : f'.kids = n.2.kids.take i ++ n.2.kids.drop (i + 1)) (hd : (b :: rowB kv ++ F1).Nodup)
    (hr : Row w1 kv' (ks.take i ++ ks.drop (i + 1))) (ho : Only (rowB kv) w w1) (hq : rowB kv' = rowB kv) :
    ∃ F', NodeM (w1.setCell ⟨b, 4, none⟩ kv') top b (n.1, f') F' ∧ F'.Nodup ∧ (∀ k ∈ F', k ∈ b :: rowB kv ++ F1) ∧ Only (b :: rowB kv ++ F1) w (w1.setCell ⟨b, 4, none⟩ kv') := by
  have hp : (b :: rowB kv ++ F1).Perm (rowB kv ++ b :: F1) := List.perm_iff_count.2 fun a => by simp [List.count_append, List.count_cons]; omega
  have hd2 := List.nodup_append.1 (hp.nodup_iff.1 hd)
  have hbr : b ∉ rowB kv := fun h => hd2.2.2 b h b (by simp) rfl
  have hbF : b ∉ F1 := (List.nodup_cons.1 hd2.2.1).1
  have hrF : ∀ k ∈ F1, k ∉ rowB kv := fun k h1 h2 => hd2.2.2 k h2 k (by simp [h1]) rfl
  obtain ⟨A, G, B, hF, hk'⟩ := hk.del hi hf
  have hs : ∀ k ∈ F1, (w1.setCell ⟨b, 4, none⟩ kv').heap[k]? = w.heap[k]? := fun k hk1 => by
    rw [heap_setCell_other _ _ _ _ (fun e => hbF (by rw [← show k = b from e]; exact hk1))]
    exact ho.block k (hk.lt k hk1) (hrF k hk1)
  refine ⟨b :: rowB kv' ++ (A ++ B), ⟨kv', _, _, rfl, ?_, row_same hr (fun k hk1 => ?_), hk'.same fun k hk1 => hs k (by rw [hF]; simp at hk1 ⊢; rcases hk1 with h | h <;> simp [h])⟩, ?_, ?_, ?_⟩
  · have := (ho.has hbr hb).set 4 kv'
    cases top <;> exact this
  · rw [hq] at hk1
    exact heap_setCell_other _ _ _ _ (fun e => hbr (by rw [← show k = b from e]; exact hk1))
  · rw [hq]
    rw [hF] at hd
    refine hd.sublist ?_
    refine List.Sublist.append (List.Sublist.refl _) (List.Sublist.append (List.Sublist.refl _) (List.sublist_append_right _ _))
  · intro k hk1
    rw [hq] at hk1
    rw [hF]
    simp only [List.cons_append, List.mem_cons, List.mem_append] at hk1 ⊢
    rcases hk1 with h | h | h | h <;> simp [h]
  · exact (ho.mono fun i hi => by simp [hi]).setCell (p := ⟨b, 4, none⟩) (.inl (by simp)) _
/-- a node's row, and one of its kids. -/
theorem NodeM.rowAt {w : World} {top : Option Nat} {b : Nat} {n : No TV} {F : List Nat} (h : NodeM w top b n F) {i : Nat} {m : No TV} (hm : n.2.kids[i]? = some m) :
    ∃ g cap ks F1 b1 G, F = b :: rowB (.slice (some ⟨g, 0, none⟩) ks.length cap) ++ F1 ∧ Has w b (nty top) (ncs top n.1 (.slice (some ⟨g, 0, none⟩) ks.length cap)) ∧ Row w (.slice (some ⟨g, 0, none⟩) ks.length cap) ks ∧ KidsM w n.2 ks F1 ∧ w.cell? ⟨b, 4, none⟩ = some (.slice (some ⟨g, 0, none⟩) ks.length cap) ∧ i < ks.length ∧ w.cell? ⟨g, i, none⟩ = some (ptr b1) ∧ NodeM w none b1 m G := by
  obtain ⟨kv, ks, F0, hF, h3, h4, h5⟩ := h
  obtain ⟨b1, A, F1, B, _, h6, h7, _⟩ := h5.kid hm
  have hi : i < ks.length := (List.getElem?_eq_some_iff.1 h6).1
  obtain ⟨g, cp, rfl, hc, _⟩ := own_pos h4 (by omega)
  refine ⟨g, cp, ks, F0, b1, F1, hF, h3, h4, h5, ?_, hi, own_cells h4 i (ptr b1) (by simp [ptrs, h6]), h7⟩
  rw [h3.cell]; cases top <;> rfl
theorem blk_notin {b : Nat} {R F1 F : List Nat} (hF : F = b :: R ++ F1) (hd : F.Nodup) : b ∉ R := fun hm => by
  rw [hF] at hd
  exact (List.nodup_cons.1 hd).1 (by simp [hm])
theorem getElem?_set_self' {l : List (No TV)} {i : Nat} {m : No TV} (h : i < l.length) : (l.set i m)[i]? = some m := by simp [h]
set_option maxRecDepth 100000 in
set_option maxHeartbeats 2000000 in
theorem drop_any : ∀ (q : List By) {w : World} {top : Option Nat} {b : Nat} {n : No TV} {F : List Nat} {A : Option Addr} {c C : Nat} {ls : List By}, ls.reverse = q → NodeM w top b n F → F.Nodup → ok n → (nents n).length ≤ 1099511627776 →
    Rd w C (.slice A ls.length c) ls → (∀ g o, A = some ⟨g, o, none⟩ → g ∉ F) → ls.length ≤ 1099511627776 →
    Calls Try.prog 71 #[ptr b, .slice A ls.length c] w fun e w' => ∃ F', e = .returned (.bool (drop q n).2) ∧ NodeM w' top b (drop q n).1 F' ∧ F'.Nodup ∧ (∀ k ∈ F', k ∈ F) ∧ Only F w w'
  | [], w, top, b, n, F, A, c, C, ls, hq, h, hd, hok, hN, hv, hap, hls => by
    have e : ls = [] := by simpa using hq
    subst e
    have HU := Lib.hid (unset_any h hd)
    have hbF := h.blk
    clear hv hap
    go_enter Try.func71, Try.ntmps71
    go_wp2_with (go_at_call 87; refine HU.out.mono ?_; rintro e w1 ⟨rfl, h1, h2⟩)
    go_ret
    exact ⟨F, rfl, h1, hd, fun k hk => hk, h2.mono fun i hi => by simp at hi; subst hi; exact hbF⟩
  | x :: q, w, top, b, n, F, A, c, C, ls, hq, h, hd, hok, hN, hv, hap, hls => by
    obtain ⟨l', hl'⟩ : ∃ l', ls = l' ++ [x] := ⟨q.reverse, by rw [← List.reverse_reverse ls, hq]; simp⟩
    subst hl'
    have hq' : l'.reverse = q := by simpa using hq
    obtain ⟨k, hk⟩ : ∃ k, l'.length = k := ⟨_, rfl⟩
    have hll : (l' ++ [x]).length = k + 1 := by simp [hk]
    have hv' := hv
    obtain ⟨A', c', e0, hc, hcell⟩ := hv'
    injection e0 with e1 _ e3
    subst e1 e3
    obtain ⟨gl, ol, rfl, hgC, hcs⟩ := hcell (by simp)
    have hcx : w.cell? ⟨gl, ol + k, none⟩ = some (sv x) := by
      rw [hcs k (by omega)]
      simp [← hk]
    have hrd' : Rd w C (.slice (some ⟨gl, ol, none⟩) l'.length c) l' := ⟨_, _, rfl, by rw [hk]; omega, fun h0 => ⟨gl, ol, rfl, hgC, fun j hj => by rw [hcs j (by simp; omega)]; simp [hj]⟩⟩
    have hpl := place_any h hok.1 (⟨x.toArray⟩ : ByteArray) (by have := kids_le hok.1; unfold nents at hN; simp at hN; omega)
    simp only at hpl
    rw [hll] at hc hls ⊢
    have hwr : IntKind.i64.wrap ((k : Int) + 1 - 1) = (k : Int) := by rw [IntKind.wrap_i64]; omega
    have hne : (((k : Int) + 1) == 0) = false := beq_eq_false_iff_ne.2 (by omega)
    have hi0 : (0 : Int) ≤ (k : Int) := by omega
    have hi1 : (k : Int) < (k : Int) + 1 := by omega
    have hi2 : (k : Int) ≤ (c : Int) := by omega
    cases hs : n.2.sel x with
    | none =>
      rw [hs] at hpl
      simp only [Option.isSome_none] at hpl
      have HP := Lib.hid hpl
      have hdr : drop (x :: q) n = (n, false) := by rw [drop, hs]
      rw [hdr]
      have H := Lib.hid h
      clear hpl hs hdr h hcell hcs hrd' hv hll hq hq' hk
      go_enter Try.func71, Try.ntmps71
      go_wp2_with (go_at_call 84; refine HP.out.mono ?_; rintro e w1 ⟨rfl, hb1⟩)
      go_quiet (fail)
      go_wp2
      go_ret
      exact ⟨F, rfl, H.out.below (below_drewN hb1 _) (Nat.le_refl _), hd, fun k hk => hk, Only.of_below (below_drewN hb1 _) (Nat.le_refl _) _⟩
    | some m =>
      rw [hs] at hpl
      simp only [Option.isSome_some] at hpl
      have HP := Lib.hid hpl
      obtain ⟨g, cap, b2, A', F2, B', c4, hil, ci, hL2, hFe⟩ := (Lens.root h).down hok hs
      simp only [List.nil_append, List.append_nil] at hFe hL2
      have hatq : atq [x] n = m := by simp [atq, Fo.kid, hs]
      simp only [atq] at c4 hil ci
      have hm := hL2.node
      rw [hatq] at hm
      have hokm := ok_sel hok.1 hs
      have hd2 : F2.Nodup := by rw [← hFe] at hd; exact (List.nodup_append.1 (List.nodup_append.1 hd).2.1).1
      have hNm : (nents m).length ≤ 1099511627776 := by have := sel_ents_le hs; unfold nents at hN this ⊢; simp at hN this ⊢; omega
      have hap2 : ∀ g o, some (⟨gl, ol, none⟩ : Addr) = some ⟨g, o, none⟩ → g ∉ F2 := fun g o e hm => hap g o e (by rw [← hFe]; simp [hm])
      have hgw : gl < w.heap.size := World.block_lt_of_cell? _ _ hcx
      have HI := Lib.hid (fun (W : World) (hb : Below w.heap.size w W) => drop_any q (w := W) (C := W.heap.size) hq' (hm.below hb (Nat.le_refl _)) hd2 hokm.1 hNm ((by
        refine ⟨_, _, rfl, by rw [hk]; omega, fun h0 => ⟨gl, ol, rfl, Nat.lt_of_lt_of_le hgw hb.size, fun j hj => ?_⟩⟩
        rw [hb.cell (p := ⟨gl, ol + j, none⟩) hgw, hcs j (by simp; omega)]; simp [hj]) : Rd W W.heap.size (.slice (some ⟨gl, ol, none⟩) l'.length c) l') hap2 (by rw [hk]; omega))
      have hgW : g < w.heap.size := World.block_lt_of_cell? _ _ ci
      have hbW : b < w.heap.size := h.blk_lt
      have hkl := kids_le hok.1
      have hidx : n.2.kids[n.2.idx x]? = some m := by
        rcases idx_sel hok.1 x with ⟨m', e1, e2⟩ | ⟨e1, _⟩
        · rw [hs] at e1; injection e1 with e1; rw [e1]; exact e2
        · rw [hs] at e1; cases e1
      have hdr : drop (x :: q) n = if (drop q m).2 then ((n.1, if bare (drop q m).1 then n.2.del1 x else n.2.put1 x (drop q m).1), true) else ((n.1, n.2.put1 x (drop q m).1), false) := by rw [drop, hs]
      rw [hdr]
      rw [hk] at HI
      generalize drop q m = r at *
      obtain ⟨m', bd⟩ := r
      have HL := Lib.hid hL2
      have H := Lib.hid h
      have hcx' := hcx
      clear hpl hdr h hcell hcs hrd' hv hll hq hq' hk hL2 hm
      go_enter Try.func71, Try.ntmps71
      go_wp2_with (go_at_call 84; refine HP.out.mono ?_; rintro e w1 ⟨rfl, hb1⟩; have c4' := (hb1.cell (p := ⟨b, 4, none⟩) hbW).trans c4; have ci' := (hb1.cell (p := ⟨g, n.2.idx x, none⟩) hgW).trans ci)
      have hx0 : (0 : Int) ≤ ((n.2.idx x : Nat) : Int) := by omega
      have hx1 : ((n.2.idx x : Nat) : Int) < ((n.2.kids.length : Nat) : Int) := by omega
      have HB1 := Lib.hid hb1
      clear c4 ci hb1
      have hput : ∀ (w2 : World) (F2' : List Nat), NodeM w2 none b2 m' F2' → (∀ j ∈ F2', j ∈ F2) → F2'.Nodup → Only F2 w1.drew w2 → NodeM w2 top b (n.1, n.2.put1 x m') (A' ++ (F2' ++ B')) ∧ (A' ++ (F2' ++ B')).Nodup ∧ (∀ j ∈ A' ++ (F2' ++ B'), j ∈ F) ∧ Only F w w2 := fun w2 F2' h1 h2 h3 h4 => by
        have hd' := hd
        rw [← hFe] at hd'
        obtain ⟨n1, n2, n3⟩ := List.nodup_append.1 hd'
        obtain ⟨n4, n5, n6⟩ := List.nodup_append.1 n2
        refine ⟨?_, ?_, fun j hj => ?_, ?_⟩
        · have := HL.out.2.2 w2 m' F2' (fun j hj => ?_) h1
          · simpa [upd] using this
          · have hjl : j < w.heap.size := HL.out.lt j (by rcases hj with hj | hj <;> simp [hj])
            have hz := HB1.out.size
            refine (h4.block j (by show j < w1.heap.size; omega) ?_).trans (HB1.out.block j hjl)
            intro hm
            rcases hj with hj | hj
            · exact n3 j hj j (by simp [hm]) rfl
            · exact n6 j hm j hj rfl
        · refine List.nodup_append.2 ⟨n1, List.nodup_append.2 ⟨h3, n5, fun a ha b hb => n6 a (h2 a ha) b hb⟩, fun a ha b hb => n3 a ha b ?_⟩
          simp only [List.mem_append] at hb ⊢
          rcases hb with hb | hb
          · exact .inl (h2 b hb)
          · exact .inr hb
        · rw [← hFe]
          simp only [List.mem_append] at hj ⊢
          rcases hj with hj | hj | hj
          · exact .inl hj
          · exact .inr (.inl (h2 j hj))
          · exact .inr (.inr hj)
        · exact (Only.of_below HB1.out.drew (Nat.le_refl _) F).trans (h4.mono fun j hj => by rw [← hFe]; simp [hj])
      have HPUT := Lib.hid hput
      have HKM : Hid ((n.2.put1 x m').kids[n.2.idx x]? = some m') := by rw [Hid, kids_put_some hok.1 hs]; exact getElem?_set_self' hil
      have hwr2 : IntKind.i64.wrap (((n.2.idx x : Nat) : Int) + 1) = ((n.2.idx x : Nat) : Int) + 1 := by
        unfold nents at hN
        simp at hN
        rw [IntKind.wrap_i64]; omega
      have HDK : Hid ((n.2.del1 x).kids = (n.2.put1 x m').kids.take (n.2.idx x) ++ (n.2.put1 x m').kids.drop (n.2.idx x + 1)) := by
        rw [Hid, kids_put_some hok.1 hs, kids_del hok.1 hs, List.take_set_of_le (Nat.le_refl _), List.drop_set_of_lt (Nat.lt_succ_self _)]
      have HIL : Hid (n.2.idx x < (n.2.put1 x m').kids.length) := by rw [Hid, kids_put_some hok.1 hs]; simpa using hil
      clear hput hs hidx hok hokm hN hNm hkl hatq hap hap2
      cases bd with
      | false =>
        go_still_tail 13, (by kernel_rfl)
        go_wp2_with (go_at_call 71; refine (HI.out w1.drew HB1.out.drew).mono ?_; rintro e w2 ⟨F2', rfl, hm2, hd2', hs2, ho2⟩; have hp2 := HPUT.out w2 F2' hm2 hs2 hd2' ho2)
        go_ret
        exact ⟨rfl, _, hp2.1, hp2.2.1, hp2.2.2.1, hp2.2.2.2⟩
      | true =>
        cases hbm : bare m' with
        | false =>
          go_still_tail 13, (by kernel_rfl)
          go_wp2_with (first
            | (go_at_call 71; refine (HI.out w1.drew HB1.out.drew).mono ?_; rintro e w2 ⟨F2', rfl, hm2, hd2', hs2, ho2⟩; have hp2 := HPUT.out w2 F2' hm2 hs2 hd2' ho2; obtain ⟨g4, cap4, ks4, F4, b4, G4, hF4, hb4, hr4, hk4, e4, hi4, ei4, hn4⟩ := hp2.1.rowAt HKM.out; have HP2 := Lib.hid hp2; have HN4 := Lib.hid hn4; have hi4' : ((n.2.idx x : Nat) : Int) < ((ks4.length : Nat) : Int) := (by omega); clear hm2 hd2' hs2 ho2 hp2 hF4 hb4 hr4 hk4 hn4)
            | (go_at_call 69; refine (bare_any HN4.out).mono ?_; rintro e w3 ⟨rfl, rfl⟩))
          go_ret
          exact ⟨rfl, _, HP2.out.1, HP2.out.2.1, HP2.out.2.2.1, HP2.out.2.2.2⟩
        | true =>
          go_still_tail 13, (by kernel_rfl)
          go_wp2_with (first
            | (go_at_call 71; refine (HI.out w1.drew HB1.out.drew).mono ?_; rintro e w2 ⟨F2', rfl, hm2, hd2', hs2, ho2⟩; have hp2 := HPUT.out w2 F2' hm2 hs2 hd2' ho2; obtain ⟨g4, cap4, ks4, F4, b4, G4, hF4, hb4, hr4, hk4, e4, hi4, ei4, hn4⟩ := hp2.1.rowAt HKM.out; have HP2 := Lib.hid hp2; have HF4 := Lib.hid hF4; have HB4 := Lib.hid hb4; have HR4 := Lib.hid hr4; have HK4 := Lib.hid hk4; have HN4 := Lib.hid hn4; have hi4' : ((n.2.idx x : Nat) : Int) < ((ks4.length : Nat) : Int) := (by omega); clear hm2 hd2' hs2 ho2 hp2 hF4 hb4 hr4 hk4 hn4)
            | (go_at_call 69; refine (bare_any HN4.out).mono ?_; rintro e w3 ⟨rfl, rfl⟩)
            | (go_at_call 88; refine (delete_any HR4.out hi4).mono ?_; rintro e w5 ⟨kv5, rfl, hr5, ho5, hq5⟩; obtain ⟨A5, cp5, hkv⟩ := own_form hr5; obtain ⟨n5, hn5⟩ : ∃ n5, n5 = (ks4.take (n.2.idx x) ++ ks4.drop (n.2.idx x + 1)).length := ⟨_, rfl⟩; rw [← hn5] at hkv; subst hkv; clear hn5; have hb5 := ho5.has (blk_notin HF4.out HP2.out.2.1) HB4.out; have k5 : w5.cell? ⟨b, 4, none⟩ = some (.slice (some ⟨g4, 0, none⟩) ks4.length cap4) := (by rw [hb5.cell]; cases top <;> rfl); have f5 := hb5.free 4; have HR5 := Lib.hid hr5; have HO5 := Lib.hid ho5; have HQ5 := Lib.hid hq5; clear hr5 ho5 hq5 hb5))
          go_ret
          have hd4 := HP2.out.2.1
          rw [HF4.out] at hd4
          obtain ⟨F6, h1, h2, h3, h4⟩ := node_del (n := (n.1, n.2.put1 x m')) HB4.out HK4.out HIL.out HDK.out hd4 HR5.out HO5.out HQ5.out
          exact ⟨rfl, F6, h1, h2, fun j hj => HP2.out.2.2.1 j (by rw [HF4.out]; exact h3 j hj), HP2.out.2.2.2.trans (h4.mono fun j hj => HP2.out.2.2.1 j (by rw [HF4.out]; exact hj))⟩
end Go.Proofs.Ytpnfkgjcnofjnaa.Ts
