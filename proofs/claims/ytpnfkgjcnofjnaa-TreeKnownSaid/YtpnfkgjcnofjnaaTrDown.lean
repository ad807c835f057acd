/- Down from a node by labels, as far as there are nodes. -/
import Derived.Test.YtpnfkgjcnofjnaaTrLens
import Derived.Test.YtpnfkgjcnofjnaaTrBack
import Derived.Test.YtpnfkgjcnofjnaaHeldIn
namespace Go.Proofs.Ytpnfkgjcnofjnaa.Ti
open Go.RowKit Go.Shelf Tr
attribute [local go_sem] Oper.semAt_some

theorem dep_next : ∀ {q : List By} {n : No TV} {k : Nat}, k ≤ dep q n → ∀ (hq : k < q.length), (((atq (q.take k) n).2.sel q[k]).isSome = true → k + 1 ≤ dep q n) ∧ ((atq (q.take k) n).2.sel q[k] = none → dep q n = k)
  | [], _, _, _, hq => by simp at hq
  | x :: q, n, 0, _, _ => by
    simp only [List.take_zero, atq, List.getElem_cons_zero]
    rw [dep]
    cases n.2.sel x <;> simp
  | x :: q, n, k + 1, hk, hq => by
    rw [dep] at hk ⊢
    simp only [List.take_succ_cons, atq, List.getElem_cons_succ, Fo.kid]
    cases hs : n.2.sel x with
    | none => rw [hs] at hk; simp at hk
    | some m =>
      rw [hs] at hk
      have := dep_next (q := q) (n := m) (k := k) (by simpa using hk) (by simpa using hq)
      simpa using this
/-- down's own variables, in their boxes. -/
structure DnB (W : World) (z b1 : Nat) (v r c : Value) : Prop where
  b0 : Has W z 73 #[ptr b1]
  b1 : Has W (z + 1) 75 #[v]
  b2 : Has W (z + 1 + 1) 73 #[r]
  b3 : Has W (z + 1 + 1 + 1) 3 #[c]
section
variable {W W' : World} {z b1 : Nat} {v r c : Value}
theorem DnB.new (w : World) (b : Nat) (v : Value) : DnB ((((w.alloc (.cells #[ptr b] 73)).alloc (.cells #[v] 75)).alloc (.cells #[.pointer none] 73)).alloc (.cells #[.int .i64 0] 3)) w.heap.size b v (.pointer none) (.int .i64 0) := by
  have f1 := Has.fresh (w.alloc (.cells #[ptr b] 73)) 75 #[v]
  have f2 := Has.fresh ((w.alloc (.cells #[ptr b] 73)).alloc (.cells #[v] 75)) 73 #[.pointer none]
  have f3 := Has.fresh (((w.alloc (.cells #[ptr b] 73)).alloc (.cells #[v] 75)).alloc (.cells #[.pointer none] 73)) 3 #[.int .i64 0]
  simp only [World.size_alloc] at f1 f2 f3
  exact ⟨(((Has.fresh w _ _).alloc _).alloc _).alloc _, (f1.alloc _).alloc _, f2.alloc _, f3⟩
theorem DnB.c0 (h : DnB W z b1 v r c) : W.cell? ⟨z, 0, none⟩ = some (ptr b1) := by rw [h.b0.cell]; rfl
theorem DnB.c1 (h : DnB W z b1 v r c) : W.cell? ⟨z + 1, 0, none⟩ = some v := by rw [h.b1.cell]; rfl
theorem DnB.c2 (h : DnB W z b1 v r c) : W.cell? ⟨z + 1 + 1, 0, none⟩ = some r := by rw [h.b2.cell]; rfl
theorem DnB.c3 (h : DnB W z b1 v r c) : W.cell? ⟨z + 1 + 1 + 1, 0, none⟩ = some c := by rw [h.b3.cell]; rfl
theorem DnB.put0 (h : DnB W z b1 v r c) (b2 : Nat) : DnB (W.setCell ⟨z, 0, none⟩ (ptr b2)) z b2 v r c := ⟨h.b0.set 0 _, h.b1.far (by simp) _, h.b2.far (by simp <;> omega) _, h.b3.far (by simp <;> omega) _⟩
theorem DnB.put2 (h : DnB W z b1 v r c) (r' c' : Value) : DnB ((W.setCell ⟨z + 1 + 1, 0, none⟩ r').setCell ⟨z + 1 + 1 + 1, 0, none⟩ c') z b1 v r' c' :=
  ⟨(h.b0.far (by simp <;> omega) _).far (by simp <;> omega) _, (h.b1.far (by simp <;> omega) _).far (by simp <;> omega) _, (h.b2.set 0 _).far (by simp) _, (h.b3.far (by simp) _).set 0 _⟩
theorem set_grown (W : World) (b i : Nat) (u : Value) : W.grownBy (W.setCell ⟨b, i, none⟩ u) (some b) := ⟨rfl, rfl, rfl, by simp, fun j _ hj => heap_setCell_other W ⟨b, i, none⟩ j u (fun e => hj (by rw [e]))⟩
theorem DnB.drew (h : DnB W z b1 v r c) : DnB W.drew z b1 v r c := ⟨h.b0, h.b1, h.b2, h.b3⟩
theorem DnB.below (h : DnB W z b1 v r c) {B : Nat} (hb : Below B W W') (hB : z + 4 ≤ B) : DnB W' z b1 v r c := ⟨h.b0.below hb (by omega), h.b1.below hb (by omega), h.b2.below hb (by omega), h.b3.below hb (by omega)⟩
theorem Has.grownB {w w' : World} {g : Nat} {t : TypeId} {cs : Array Value} (h : Has w g t cs) {row : Option Nat} (hg : w.grownBy w' row) (hr : ∀ r, row = some r → r ≠ g) : Has w' g t cs := (hg.block g h.lt (fun e => hr g e.symm rfl)).trans h
theorem DnB.grown (h : DnB W z b1 v r c) {row : Option Nat} (hg : W.grownBy W' row) (hr : ∀ r, row = some r → z + 4 ≤ r) : DnB W' z b1 v r c :=
  ⟨Has.grownB h.b0 hg (fun r e => by have := hr r e; omega), Has.grownB h.b1 hg (fun r e => by have := hr r e; omega), Has.grownB h.b2 hg (fun r e => by have := hr r e; omega), Has.grownB h.b3 hg (fun r e => by have := hr r e; omega)⟩
end
/-- between two rounds. -/
def DnI (w : World) (top : Option Nat) (b : Nat) (n : No TV) (F : List Nat) (v : Value) (ls : List By) (k : Nat) (W : World) : Prop :=
  ∃ t1 b1 A1 F1 B1, Lens W top b n (ls.reverse.take k) t1 b1 A1 F1 B1 ∧ A1 ++ (F1 ++ B1) = F ∧ k ≤ dep ls.reverse n ∧ DnB W w.heap.size b1 v (.pointer none) (.int .i64 0) ∧ (Has W (w.heap.size + 4) 75 #[v] ∧ Rd W w.heap.size v ls) ∧ Below w.heap.size w W
def DnX (w : World) (top : Option Nat) (b : Nat) (n : No TV) (F : List Nat) (v : Value) (ls : List By) (c : Code) (_ : Nat) (W : World) : Prop :=
  c = .ret ∧ ∃ t1 b1 A1 F1 B1 b0, Lens W top b n (ls.reverse.take (dep ls.reverse n)) t1 b1 A1 F1 B1 ∧ A1 ++ (F1 ++ B1) = F ∧ DnB W w.heap.size b0 v (ptr b1) (.int .i64 (dep ls.reverse n : Nat)) ∧ Below w.heap.size w W
section
variable {w : World} {top : Option Nat} {b : Nat} {n : No TV} {F : List Nat} {v : Value} {ls : List By}
theorem below_row {a W W' : World} {B : Nat} (h : Below B a W) {row : Option Nat} (hg : W.grownBy W' row) (hr : ∀ r, row = some r → B ≤ r) (hB : B ≤ W.heap.size) : Below B a W' := h.grown hg hB hr
theorem rd_grown {W W' : World} {B : Nat} {v : Value} {ls : List By} (h : Rd W B v ls) {row : Option Nat} (hg : W.grownBy W' row) (hr : ∀ r, row = some r → ∃ o : Obj, W.heap[r]? = some o ∧ isBook o = true) : Rd W' B v ls := by
  obtain ⟨A, c, e, hc, hcell⟩ := h
  refine ⟨A, c, e, hc, fun h0 => ?_⟩
  obtain ⟨g, o, rfl, hgB, hcs⟩ := hcell h0
  refine ⟨g, o, rfl, hgB, fun j hj => ?_⟩
  have h1 := hcs j hj
  refine hg.cell h1 (fun e => ?_)
  obtain ⟨o', ho, hb⟩ := hr g e.symm
  unfold World.cell? at h1
  rw [ho] at h1
  cases o' <;> simp_all [isBook]
theorem DnI.book {C : Nat} (hC : w.heap.size + 5 ≤ C) (hF : ∀ k ∈ F, k < w.heap.size) : Book C (DnI w top b n F v ls) := by
  rintro k W W' row ⟨t1, b1, A1, F1, B1, h1, rfl, h3, h4, ⟨h5, h6⟩, h7⟩ hg hr
  have hz := h7.size
  exact ⟨t1, b1, A1, F1, B1, h1.grown hg (fun r e => (hr r e).1) (fun k hk => by have := hF k hk; omega), rfl, h3, h4.grown hg (fun r e => by have := (hr r e).1; omega), ⟨Has.grownB h5 hg (fun r e => by have := (hr r e).1; omega), rd_grown h6 hg fun r e => (hr r e).2⟩, below_row h7 hg (fun r e => by have := (hr r e).1; omega) hz⟩
theorem DnX.book {C : Nat} (hC : w.heap.size + 5 ≤ C) (hF : ∀ k ∈ F, k < w.heap.size) (c : Code) : Book C (DnX w top b n F v ls c) := by
  rintro k W W' row ⟨hc, t1, b1, A1, F1, B1, b0, h1, rfl, h4, h7⟩ hg hr
  exact ⟨hc, t1, b1, A1, F1, B1, b0, h1.grown hg (fun r e => (hr r e).1) (fun k hk => by have := hF k hk; omega), rfl, h4.grown hg (fun r e => by have := (hr r e).1; omega), below_row h7 hg (fun r e => by have := (hr r e).1; omega) h7.size⟩
end
theorem down_results {w : World} {tmps : Array Value} {b2 b3 : Nat} {p i : Value} {b0 : Nat} {k : Int} (h4 : tmps[4]? = some (.pointer (some ⟨b2, 0, none⟩))) (h5 : tmps[5]? = some (.pointer (some ⟨b3, 0, none⟩))) (hp : p = ptr b0) (hi : i = .int .i64 k)
    (c4 : w.cell? ⟨b2, 0, none⟩ = some p) (c5 : w.cell? ⟨b3, 0, none⟩ = some i) : (results Try.f61 tmps).run Try.prog w = .ok (.tuple #[p, i]) w := by
  subst hp hi
  simp [results, Try.results61, go_sem, h4, h5, c4, c5]
set_option maxRecDepth 100000 in
set_option maxHeartbeats 2000000 in
theorem down_any {w : World} {top : Option Nat} {b : Nat} {n : No TV} {F : List Nat} (h : NodeM w top b n F) (hok : ok n) (hN : (nents n).length ≤ 1099511627776) {A : Option Addr} {c : Nat} {ls : List By} (hv : Rd w w.heap.size (.slice A ls.length c) ls) (hls : ls.length ≤ 1099511627776) :
    Calls Try.prog 61 #[ptr b, .slice A ls.length c] w fun e w' => ∃ t1 b1 A1 F1 B1, e = .returned (.tuple #[ptr b1, .int .i64 (dep ls.reverse n : Nat)]) ∧ Lens w' top b n (ls.reverse.take (dep ls.reverse n)) t1 b1 A1 F1 B1 ∧ A1 ++ (F1 ++ B1) = F ∧ Below w.heap.size w w' := by
  have hF := h.lt
  have hb0 : Below w.heap.size w ((((w.alloc (.cells #[ptr b] 73)).alloc (.cells #[.slice A ls.length c] 75)).alloc (.cells #[.pointer none] 73)).alloc (.cells #[.int .i64 0] 3)) :=
    ((((Below.refl _ w).alloc (Nat.le_refl _) _).alloc (by simp) _).alloc (by simp; omega) _).alloc (by simp; omega) _
  have hz0 : ((((w.alloc (.cells #[ptr b] 73)).alloc (.cells #[.slice A ls.length c] 75)).alloc (.cells #[.pointer none] 73)).alloc (.cells #[.int .i64 0] 3)).heap.size = w.heap.size + 4 := by simp
  have hnew := DnB.new w b (.slice A ls.length c)
  have HF := Lib.hid hF
  have HV := Lib.hid (hv.keep hb0)
  have HH := Lib.hid (Lens.root (h.below hb0 (Nat.le_refl _)))
  have HOK := Lib.hid hok
  have HB0 := Lib.hid hb0
  have HNW := Lib.hid hnew
  have HK := Lib.hid (fun q : List By => Nat.le_trans (atq_kids_le (q := q) hok) hN)
  have HLS := Lib.hid hls
  have mixed : Try.prog.follows .mixedOrders = true := by kernel_rfl
  refine (callsIn_wide (n := 4)).1 ?_
  refine callsIn_of_wp_marks Try.func61 rfl trivial ?_ rfl
  simp only [Try.ntmps61, List.size_toArray, List.length_cons, List.length_nil, Nat.reduceAdd, Nat.reduceSub, Array.replicate_succ, Array.replicate_zero, List.push_toArray, List.append_toArray, List.nil_append, List.cons_append]
  have hc1 : ((((w.alloc (.cells #[ptr b] 73)).alloc (.cells #[.slice A ls.length c] 75)).alloc (.cells #[.pointer none] 73)).alloc (.cells #[.int .i64 0] 3)).cell? ⟨w.heap.size + 1, 0, none⟩ = some (.slice A ls.length c) := by rw [hnew.b1.cell]; rfl
  clear hv h hok hN hb0 hnew hF hls
  gi_wp2_with (refine ⟨trivial, ?_⟩; gi_at_call 74; refine (callsIn_wide.2 (backward_any _ _ _ _)).mono ?_; rintro e w3 ⟨rfl, rfl⟩)
  obtain ⟨W4, hW4⟩ : ∃ W4, W4 = ((((w.alloc (.cells #[ptr b] 73)).alloc (.cells #[.slice A ls.length c] 75)).alloc (.cells #[.pointer none] 73)).alloc (.cells #[.int .i64 0] 3)) := ⟨_, rfl⟩
  rw [← hW4] at HV HH HB0 HNW hz0 hc1 ⊢
  clear hW4 hc1
  refine wpIn_rangeFunc_R rfl (by omega) (gf := 92) (lb := #[.pointer (some ⟨w.heap.size + 4, 0, none⟩)]) rfl trivial (enters_of Try.func92 (by kernel_rfl) rfl)
    (back_seq 3 (w.heap.size + 4) (.slice A ls.length c) ls (Nat.le_trans HLS.out (by decide)) _) (fun _ => rfl)
    (DnI w top b n F (.slice A ls.length c) ls) (DnX w top b n F (.slice A ls.length c) ls)
    (DnI.book (by simp; omega) HF.out) (DnX.book (by simp; omega) HF.out)
    (fun i W ⟨_, _, _, _, _, _, _, _, _, h, _⟩ => ⟨h.1, _, h.2⟩)
    ⟨top, b, [], F, [], HH.out.below ((Below.refl _ W4).alloc (Nat.le_refl _) _) (Nat.le_refl _), by simp, Nat.zero_le _, HNW.out.below ((Below.refl _ W4).alloc (Nat.le_refl _) _) (by omega),
      ⟨by have := Has.fresh W4 75 #[.slice A ls.length c]; rwa [hz0] at this, HV.out.keep ((Below.refl _ W4).alloc (by omega) _)⟩, HB0.out.alloc (by omega) _⟩
    (fun i => { tmps := #[ptr b, .slice A ls.length c, .pointer (some ⟨w.heap.size, 0, none⟩), .pointer (some ⟨w.heap.size + 1, 0, none⟩), .pointer (some ⟨w.heap.size + 1 + 1, 0, none⟩), .pointer (some ⟨w.heap.size + 1 + 1 + 1, 0, none⟩), .int .i64 ((ls.length : Int) - 1 - i), sv (ls.getD (ls.length - 1 - i) []), undef, undef, .slice A ls.length c, .func (.func 92) #[] #[.pointer (some ⟨w.heap.size + 4, 0, none⟩)],
      .int .i64 ((ls.length : Int) - 1 - i), sv (ls.getD (ls.length - 1 - i) []), undef, undef, undef, undef, undef, undef, undef, undef, undef, undef, undef, undef, undef, undef, undef, undef, undef, undef, undef, undef, undef, undef, undef, undef], defers := [] }) ?assign ?body ?done ?stop
  case assign =>
    intro l2 i W K hK
    unfold backV
    gi_wp2
    exact hK
  case body =>
    rintro l2 i W ⟨t1, b1, A1, F1, B1, hL, hF1, hk, hD, ⟨hbx, hrd⟩, hbl⟩ hi
    have hir : i < ls.reverse.length := by simpa using hi
    have hnext := dep_next hk hir
    have hlab : ls.getD (ls.length - 1 - i) [] = ls.reverse[i] := by rw [List.getElem_reverse]; simp [List.getD, show ls.length - 1 - i < ls.length by omega]
    have hwr : IntKind.i64.wrap ((ls.length : Int) - 1) = (ls.length : Int) - 1 := by have := HLS.out; rw [IntKind.wrap_i64]; omega
    have hwr2 : IntKind.i64.wrap ((ls.length : Int) - 1 - ((ls.length : Int) - 1 - (i : Int))) = (i : Int) := by
      have := HLS.out
      rw [show (ls.length : Int) - 1 - ((ls.length : Int) - 1 - (i : Int)) = (i : Int) by omega, IntKind.wrap_i64]; omega
    rw [hlab]
    obtain ⟨x, hx⟩ : ∃ x : By, x = ls.reverse[i] := ⟨_, rfl⟩
    rw [← hx] at hnext ⊢
    have htk : ls.reverse.take (i + 1) = ls.reverse.take i ++ [x] := by rw [List.take_succ_eq_append_getElem hir, hx]
    have hpl := place_any hL.node (ok_atq _ HOK.out).1 (⟨x.toArray⟩ : ByteArray) (by have := HK.out (ls.reverse.take i); omega)
    have c0 : W.cell? ⟨w.heap.size, 0, none⟩ = some (ptr b1) := by rw [hD.b0.cell]; rfl
    have HP := Lib.hid hpl
    have HL := Lib.hid hL
    have HD := Lib.hid hD
    have HBL := Lib.hid hbl
    have HBX : Hid (Has W (w.heap.size + 4) 75 #[.slice A ls.length c] ∧ Rd W w.heap.size (.slice A ls.length c) ls) := ⟨hbx, hrd⟩
    have HTK := Lib.hid htk
    have HNX := Lib.hid hnext
    have HI := Lib.hid hi
    have HKD := Lib.hid hk
    have hzW := hbl.size
    clear hpl hL hD hbl hbx hrd htk hnext hi hk hir hlab hx
    simp only at HP
    cases hs : (atq (ls.reverse.take i) n).2.sel x with
    | none =>
      have hdep := HNX.out.2 hs
      have HDEP := Lib.hid hdep
      rw [hs] at HP
      simp only [Option.isSome_none] at HP
      clear hs hdep HNX HTK HKD
      gi_wp2_with (refine ⟨trivial, ?_⟩; gi_at_call 75; refine (CallsIn.inRound l2 (callsIn_wide.2 HP.out)).mono ?_; rintro e w5 ⟨rfl, hb5⟩; have HD5 := Lib.hid (HD.out.below hb5 (by have := HD.out.b3.lt; omega)); have c0 := HD5.out.c0; have c1 := HD5.out.c1; have c2 := HD5.out.c2; have c3 := HD5.out.c3; have f2 := HD5.out.b2.free 0; have f3 := HD5.out.b3.free 0)
      have hS0 : (fun W' : World => W'.cell? ⟨w.heap.size, 0, none⟩ = some (ptr b1) ∧ W'.cell? ⟨w.heap.size + 1, 0, none⟩ = some (.slice A ls.length c)) w5.drew := ⟨c0, c1⟩
      refine wpIn_region_S2 (S := fun W' => W'.cell? ⟨w.heap.size, 0, none⟩ = some (ptr b1) ∧ W'.cell? ⟨w.heap.size + 1, 0, none⟩ = some (.slice A ls.length c)) mixed 8 #[false, false, false, false, false, false, false, false] rfl rfl ?_
      refine wpAnyS_take (i := 0) (v := ptr b1) rfl (by kernel_rfl) (by kernel_rfl) (by kernel_rfl) (by kernel_rfl) (fun _ _ _ h => h) ⟨Or.inl ⟨by rfl, fun W' hW' => (by have := hW'.1; go_simp)⟩, rfl, fun _ => rfl⟩ hS0 ?_
      simp only [Act.put, List.setIfInBounds_toArray, List.set_cons_zero]
      refine wpAnyS_take (i := 1) (v := .slice A ls.length c) rfl (by kernel_rfl) (by kernel_rfl) (by kernel_rfl) (by kernel_rfl) (fun _ _ _ h => h) ⟨Or.inl ⟨by rfl, fun W' hW' => (by have := hW'.2; go_simp)⟩, rfl, fun _ => rfl⟩ hS0 ?_
      simp only [Act.put, List.setIfInBounds_toArray, List.set_cons_zero, List.set_cons_succ]
      refine wpAnyS_take (i := 2) (v := .int .i64 (ls.length : Nat)) rfl (by kernel_rfl) (by kernel_rfl) (by kernel_rfl) (by kernel_rfl) (fun _ _ _ h => h) ⟨Or.inl ⟨by rfl, fun W' hW' => (by go_simp)⟩, rfl, fun _ => rfl⟩ hS0 ?_
      simp only [Act.put, List.setIfInBounds_toArray, List.set_cons_zero, List.set_cons_succ]
      refine wpAnyS_take (i := 3) (v := .int .i64 ((ls.length : Int) - 1)) rfl (by kernel_rfl) (by kernel_rfl) (by kernel_rfl) (by kernel_rfl) (fun _ _ _ h => h) ⟨Or.inl ⟨by rfl, fun W' hW' => (by go_simp)⟩, rfl, fun _ => rfl⟩ hS0 ?_
      simp only [Act.put, List.setIfInBounds_toArray, List.set_cons_zero, List.set_cons_succ]
      refine wpAnyS_take (i := 4) (v := .int .i64 ((ls.length : Int) - 1 - (i : Int))) rfl (by kernel_rfl) (by kernel_rfl) (by kernel_rfl) (by kernel_rfl) (fun _ _ _ h => h) ⟨Or.inl ⟨by rfl, fun W' hW' => (by go_simp)⟩, rfl, fun _ => rfl⟩ hS0 ?_
      simp only [Act.put, List.setIfInBounds_toArray, List.set_cons_zero, List.set_cons_succ]
      refine wpAnyS_take (i := 5) (v := .int .i64 (i : Nat)) rfl (by kernel_rfl) (by kernel_rfl) (by kernel_rfl) (by kernel_rfl) (fun _ _ _ h => h) ⟨Or.inl ⟨by rfl, fun W' hW' => (by go_simp)⟩, rfl, fun _ => rfl⟩ hS0 ?_
      simp only [Act.put, List.setIfInBounds_toArray, List.set_cons_zero, List.set_cons_succ]
      refine wpAnyS_ready (rs := [6]) (by kernel_rfl) (by simp) (AllS.cons rfl rfl (fun K hK => ?_) AllS.nil)
      go_simp
      have hq := HD5.out.put2 (ptr b1) (.int .i64 (i : Nat))
      have hs6 : (w5.setCell ⟨w.heap.size + 1 + 1, 0, none⟩ (ptr b1)).cell? ⟨w.heap.size, 0, none⟩ = some (ptr b1) ∧ (w5.setCell ⟨w.heap.size + 1 + 1, 0, none⟩ (ptr b1)).cell? ⟨w.heap.size + 1, 0, none⟩ = some (.slice A ls.length c) :=
        ⟨by rw [(HD5.out.b0.far (p := ⟨w.heap.size + 1 + 1, 0, none⟩) (show w.heap.size ≠ w.heap.size + 1 + 1 by omega) _).cell]; rfl, by rw [(HD5.out.b1.far (p := ⟨w.heap.size + 1 + 1, 0, none⟩) (by simp) _).cell]; rfl⟩
      refine hK _ _ hs6 ?_
      clear hK K
      refine wpAnyS_ready (rs := [7]) (by kernel_rfl) (by simp) (AllS.cons rfl rfl (fun K hK => ?_) AllS.nil)
      go_simp
      refine hK _ _ ⟨hq.c0, hq.c1⟩ ?_
      clear hK K
      refine wpAnyS_done (by kernel_rfl) ?_ _
      gi_wp2
      have hbs := hb5.mono hzW
      have hFF : ∀ k ∈ A1 ++ (F1 ++ B1), k < w.heap.size := fun k hk => HF.out k (by rw [hF1] at hk; exact hk)
      refine ⟨(((KeepsR.of_below hb5 (Nat.le_refl _)).trans (KeepsR.has HD5.out.b2 _)).trans (KeepsR.has (HD5.out.b3.far (p := ⟨w.heap.size + 1 + 1, 0, none⟩) (by simp) _) (.int .i64 (i : Nat)))).drew, rfl, t1, b1, A1, F1, B1, b1, ?_, hF1, ?_, (((HBL.out.trans hbs).setCell (p := ⟨w.heap.size + 1 + 1, 0, none⟩) (by simp; omega) _).setCell (p := ⟨w.heap.size + 1 + 1 + 1, 0, none⟩) (by simp; omega) _).drew⟩
      · rw [HDEP.out]
        exact (((HL.out.below hb5 (Nat.le_refl _)).grown (set_grown _ (w.heap.size + 1 + 1) 0 (ptr b1)) (fun r e => by cases e; exact Nat.le_refl _) (fun k hk => by have := hFF k hk; omega)).grown (set_grown _ (w.heap.size + 1 + 1 + 1) 0 (.int .i64 (i : Nat))) (fun r e => by cases e; exact Nat.le_refl _) (fun k hk => by have := hFF k hk; omega)).drew
      · rw [HDEP.out]; exact hq.drew
    | some m =>
      have hdep := HNX.out.1 (by rw [hs]; rfl)
      obtain ⟨g, cap, b2, A2, F2, B2, k4, kl, ki, hL2, hF2⟩ := HL.out.down HOK.out hs
      have hgW : g < W.heap.size := World.block_lt_of_cell? _ _ ki
      have hbW : b1 < W.heap.size := World.block_lt_of_cell? _ _ k4
      have HL2 := Lib.hid hL2
      have HF2 := Lib.hid hF2
      have HDEP := Lib.hid hdep
      have HK4 := Lib.hid k4
      have HKI := Lib.hid ki
      rw [hs] at HP
      simp only [Option.isSome_some] at HP
      clear hs hdep HNX HKD hL2 hF2 k4 ki
      generalize (atq (ls.reverse.take i) n).2.idx x = ix at *
      generalize (atq (ls.reverse.take i) n).2.kids.length = kn at *
      have hi0 : (0 : Int) ≤ (ix : Int) := by omega
      have hi1 : (ix : Int) < (kn : Int) := by omega
      gi_wp2_with (refine ⟨trivial, ?_⟩; gi_at_call 75; refine (CallsIn.inRound l2 (callsIn_wide.2 HP.out)).mono ?_; rintro e w5 ⟨rfl, hb5⟩; have HD5 := Lib.hid (HD.out.below hb5 (by have := HD.out.b3.lt; omega)); have c0 := HD5.out.c0; have f0 := HD5.out.b0.free 0; have k4 := (hb5.cell (p := ⟨b1, 4, none⟩) hbW).trans HK4.out; have ki := (hb5.cell (p := ⟨g, ix, none⟩) hgW).trans HKI.out)
      have hbs := hb5.mono hzW
      have hFF : ∀ k ∈ A2 ++ (F2 ++ B2), k < w.heap.size := fun k hk => HF.out k (by rw [HF2.out, hF1] at hk; exact hk)
      refine ⟨(KeepsR.of_below hb5 (Nat.le_refl _)).trans (KeepsR.has HD5.out.b0 _), none, b2, A2, F2, B2, ?_, by rw [HF2.out]; exact hF1, HDEP.out, HD5.out.put0 b2, ⟨?_, ?_⟩, (HBL.out.trans hbs).setCell (Nat.le_refl _) _⟩
      · rw [HTK.out]
        exact (HL2.out.below hb5 (Nat.le_refl _)).grown (set_grown _ _ _ _) (fun r e => by cases e; exact Nat.le_refl _) hFF
      · exact (HBX.out.1.below hb5 HBX.out.1.lt).far (by simp) _
      · exact (HBX.out.2.keep hbs).keep ((Below.refl w.heap.size w5).setCell (p := ⟨w.heap.size, 0, none⟩) (Nat.le_refl _) _)
  case done =>
    rintro D W hD0 ⟨t1, b1, A1, F1, B1, hL, hF1, hk, hD, _, hbl⟩ hKd
    have hdep : dep ls.reverse n = ls.length := by have := dep_le ls.reverse n; simp at this; omega
    have htk : ls.reverse.take ls.length = ls.reverse := List.take_of_length_le (by simp)
    have c0 := hD.c0
    have c1 := hD.c1
    have c2 := hD.c2
    have c3 := hD.c3
    have f2 := hD.b2.free 0
    have f3 := hD.b3.free 0
    have HL2 := Lib.hid hL
    have HD2 := Lib.hid hD
    have HBL := Lib.hid hbl
    have HTK := Lib.hid htk
    have HDEP := Lib.hid hdep
    clear hL hD hbl htk hdep hk
    gi_wp2
    gi_big_region
    gi_wp2
    simp only [World.size_alloc] at hD0
    have hq := (HD2.out.put2 (ptr b1) (.int .i64 (ls.length : Nat))).drew
    have hKq : ((W.setCell ⟨w.heap.size + 1 + 1, 0, none⟩ (ptr b1)).setCell ⟨w.heap.size + 1 + 1 + 1, 0, none⟩ (.int .i64 (ls.length : Nat))).drew.heap[D]? = some (.deferred (some [])) := by
      show ((W.setCell ⟨w.heap.size + 1 + 1, 0, none⟩ (ptr b1)).setCell ⟨w.heap.size + 1 + 1 + 1, 0, none⟩ (.int .i64 (ls.length : Nat))).heap[D]? = _
      rw [heap_setCell_other _ _ _ _ (by show D ≠ w.heap.size + 1 + 1 + 1; omega), heap_setCell_other _ _ _ _ (by show D ≠ w.heap.size + 1 + 1; omega)]
      exact hKd
    have hFF : ∀ k ∈ A1 ++ (F1 ++ B1), k < w.heap.size := fun k hk => HF.out k (by rw [hF1] at hk; exact hk)
    refine ⟨by simp, .inl ⟨_, _, rfl, run_takeDeferred hKq, ?_⟩⟩
    have hqg := hq.grown (grownBy_putObj' _ D (.deferred none)) (fun r e => by cases e; omega)
    refine ⟨_, down_results rfl rfl rfl rfl hqg.c2 hqg.c3, t1, b1, A1, F1, B1, by rw [HDEP.out], ?_, hF1, ?_⟩
    · rw [HDEP.out]
      exact ((((HL2.out.grown (set_grown _ (w.heap.size + 1 + 1) 0 (ptr b1)) (fun r e => by cases e; exact Nat.le_refl _) (fun k hk => by have := hFF k hk; omega)).grown (set_grown _ (w.heap.size + 1 + 1 + 1) 0 (.int .i64 (ls.length : Nat))) (fun r e => by cases e; exact Nat.le_refl _) (fun k hk => by have := hFF k hk; omega)).drew).grown (grownBy_putObj' _ D (.deferred none)) (fun r e => by cases e; exact hD0) (fun k hk => by have := hFF k hk; omega))
    · exact (((HBL.out.setCell (p := ⟨w.heap.size + 1 + 1, 0, none⟩) (by simp; omega) _).setCell (p := ⟨w.heap.size + 1 + 1 + 1, 0, none⟩) (by simp; omega) _).drew).grown (grownBy_putObj' _ D (.deferred none)) (by have := HBL.out.size; simpa using this) (fun r e => by cases e; omega)
  case stop =>
    rintro D cd i W hD0 ⟨rfl, t1, b1, A1, F1, B1, b0, hL, hF1, hD, hbl⟩ hKd
    simp only [World.size_alloc] at hD0
    have hFF : ∀ k ∈ A1 ++ (F1 ++ B1), k < w.heap.size := fun k hk => HF.out k (by rw [hF1] at hk; exact hk)
    gi_wp2
    refine ⟨by simp, .inl ⟨_, _, rfl, run_takeDeferred hKd, ?_⟩⟩
    have hqg := hD.grown (grownBy_putObj' _ D (.deferred none)) (fun r e => by cases e; omega)
    refine ⟨_, down_results rfl rfl rfl rfl hqg.c2 hqg.c3, t1, b1, A1, F1, B1, rfl, ?_, hF1, ?_⟩
    · exact hL.grown (grownBy_putObj' _ D (.deferred none)) (fun r e => by cases e; exact hD0) (fun k hk => by have := hFF k hk; omega)
    · exact hbl.grown (grownBy_putObj' _ D (.deferred none)) hbl.size (fun r e => by cases e; omega)
end Go.Proofs.Ytpnfkgjcnofjnaa.Ti
