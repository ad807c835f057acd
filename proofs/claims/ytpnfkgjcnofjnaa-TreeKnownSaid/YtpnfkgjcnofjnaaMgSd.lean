/- Texts of the proofs, merged. -/
import Derived.Test.YtpnfkgjcnofjnaaTrAllP
import Derived.Test.YtpnfkgjcnofjnaaHeldIn
import Derived.Test.YtpnfkgjcnofjnaaMgSa
import Derived.Test.YtpnfkgjcnofjnaaMgSc
import Derived.Test.YtpnfkgjcnofjnaaFold
import Derived.Test.YtpnfkgjcnofjnaaLabels
import Derived.Test.YtpnfkgjcnofjnaaTrKey
import Derived.Test.YtpnfkgjcnofjnaaLasts
import Derived.StillTailTactics
/- All that a node's keys tell, in order: the program's iterator. -/
namespace Go.Proofs.Ytpnfkgjcnofjnaa.Ts
open Go.RowKit Go.Shelf Tr
attribute [local go_sem] Oper.semAt_some

theorem allS_on {F : Fence} {n : Nat} {P : Program} {md : Region.Mode} {ops : Array Oper} {Q : Exit → Act → World → Prop} {S : World → Prop} {fuel : Nat} {listed : Array Bool} {a : Act} {w : World} {i : Nat} {o : Oper} {rs : List Nat} (ho : ops[i]? = some o) (hg : Region.wanted o (yielded ops a.tmps) = true)
    (h : ∀ K' : Act → World → Prop, (∀ a w, S w → wpAnyS F n P md ops Q S fuel (listed.setIfInBounds i true) a w → K' a w) → Oper.wpIn F n P o a w K' Q)
    (hs : AllS F n P md ops Q S fuel listed a w rs) : AllS F n P md ops Q S fuel listed a w (i :: rs) := fun j hj => by
  rcases List.mem_cons.1 hj with rfl | hj
  · exact wpOpIn_step ho (fun K' hK => by simp only [hg, if_true]; exact h K' (fun a w hS hW => hK a w ⟨hS, hW⟩))
  · exact hs j hj
def encL (L : List (By × TV)) (i : Nat) : Array Value := #[sv (L.getD i ([], [])).1, tz (L.getD i ([], [])).2]
theorem encL_at {L M : List (By × TV)} {i j : Nat} (h : L[i]? = M[j]?) : encL L i = encL M j := by
  simp [encL, List.getD, h]
/-- what the iterator reads. -/
def AllD (bx b : Nat) (F : List Nat) (w0 W : World) : Prop := Has W bx 100 #[ptr b] ∧ ∀ k ∈ F, W.heap[k]? = w0.heap[k]?
theorem all_any (b : Nat) (w : World) :
    Calls Try.prog 86 #[ptr b] w fun e w' => e = .returned (.func (.func 101) #[] #[.pointer (some ⟨w.heap.size, 0, none⟩)]) ∧ w' = w.alloc (.cells #[ptr b] 100) := by
  go_enter Try.func86, Try.ntmps86
  go_wp2
  go_ret
  exact ⟨rfl, rfl⟩
def AllP (n : No TV) : Prop := ∀ (m : Nat) (w0 w : World) (top : Option Nat) (b bx : Nat) (F : List Nat), NodeM w0 top b n F → n.2.ok → (nkv n).length ≤ 1099511627776 →
  SeqS Fence.wide m Try.prog 101 #[.pointer (some ⟨bx, 0, none⟩)] (encL (nkv n)) (AllD bx b F w0) (nkv n).length w
/-- between two things: k things are told. -/
structure AtS (J : Nat → Bl → World → Prop) (S : Bl) (l : Nat) (W : World) (k : Nat) (ds : List Nat) (S' : Bl) (W' : World) : Prop where
  at_ : J k S' W'
  fr : FrS (fun j => S j ∨ j = l) W W'
  sub : ∀ j, S' j → S j ∨ W.heap.size ≤ j
  box : Has W' W.heap.size 102 #[.func (.yield l) #[] #[]]
  own : ¬ S' W.heap.size
  nd : ds.Nodup
  mks : ∀ D ∈ ds, W.heap.size < D ∧ ¬ S' D ∧ W'.heap[D]? = some (.deferred (some []))
/-- behind the first region. -/
def AllQ (J Jx : Nat → Bl → World → Prop) (S : Bl) (l : Nat) (W : World) (k bx : Nat) (e : Exit) (a : Act) (W' : World) : Prop :=
  e = .normal ∧ ∃ u7 u8 u9 u10 u11 u12 u13 u14 u15 u16 u17 u18 u19 u20 u21 u22, ∃ bd, a = { tmps := #[.func (.yield l) #[] #[], .pointer (some ⟨bx, 0, none⟩), .pointer (some ⟨W.heap.size, 0, none⟩), undef, undef, undef, undef, u7, u8, u9, u10, u11, u12, u13, u14, u15, u16, u17, u18, u19, u20, u21, u22, .bool bd, undef, undef, undef, undef, undef, undef, undef, undef, undef, undef, undef, undef, undef, undef, undef, undef, undef, undef, undef], defers := [] } ∧
    (bd = false → ∃ S', AtS J S l W k [] S' W') ∧ (bd = true → ∃ i S', AtS Jx S l W i [] S' W')
theorem AtS.drew {J : Nat → Bl → World → Prop} {S : Bl} {l : Nat} {W : World} {k : Nat} {ds : List Nat} {S' : Bl} {W' : World} (h : AtS J S l W k ds S' W') (hJ : Abides W.heap.size J) : AtS J S l W k ds S' W'.drew :=
  ⟨hJ _ _ _ _ h.at_ Chg.drew, h.fr.drew, h.sub, h.box, h.own, h.nd, h.mks⟩
theorem AtS.step {J J2 : Nat → Bl → World → Prop} {S : Bl} {l : Nat} {W : World} {k k2 : Nat} {ds : List Nat} {S' S2 : Bl} {W' W2 : World} (h : AtS J S l W k ds S' W') (hl : l < W.heap.size) (hj : J2 k2 S2 W2) (hf : FrS (fun j => S' j ∨ j = l) W' W2) (hs : ∀ j, S2 j → S' j ∨ W'.heap.size ≤ j) : AtS J2 S l W k2 ds S2 W2 := by
  have hz := h.fr.size
  have hB := h.box.lt
  refine ⟨hj, h.fr.trans hf (fun i hi => ?_), fun j hj => ?_, hf.has (fun hi => ?_) h.box, fun hi => ?_, h.nd, fun D hD => ?_⟩
  · rcases hi with hi | hi
    · rcases h.sub i hi with h1 | h1
      · exact .inl (.inl h1)
      · exact .inr h1
    · exact .inl (.inr hi)
  · rcases hs j hj with h1 | h1
    · exact h.sub j h1
    · exact .inr (by omega)
  · rcases hi with hi | hi
    · exact h.own hi
    · omega
  · rcases hs _ hi with h1 | h1
    · exact h.own h1
    · omega
  · obtain ⟨h1, h2, h3⟩ := h.mks D hD
    have hlt := (Array.getElem?_eq_some_iff.1 h3).1
    refine ⟨h1, fun hi => ?_, (hf.block D hlt (fun hi => ?_)).trans h3⟩
    · rcases hs _ hi with h1 | h1
      · exact h2 h1
      · omega
    · rcases hi with hi | hi
      · exact h2 hi
      · omega
section
variable {J : Nat → Bl → World → Prop} {S : Bl} {l : Nat} {W : World} {k : Nat} {ds : List Nat} {S' : Bl} {W' : World}
theorem AtS.nil (h : AtS J S l W k ds S' W') : AtS J S l W k [] S' W' := ⟨h.at_, h.fr, h.sub, h.box, h.own, List.nodup_nil, by simp⟩
theorem AtS.chg {n : Nat} {X : World} (h : AtS J S l W k ds S' W') (hJ : Abides W.heap.size J) (hc : Chg n S' W' X) (hn : W.heap.size < n) (hd : ∀ D ∈ ds, D < n) : AtS J S l W k ds S' X :=
  ⟨hJ _ _ _ _ h.at_ (hc.mono (by omega) fun _ h => h), ⟨hc.os.trans h.fr.os, hc.tape.trans h.fr.tape, hc.output.trans h.fr.output, Nat.le_trans h.fr.size hc.size, fun i hi hS => (hc.block i (Nat.lt_of_lt_of_le hi h.fr.size) (.inl (by omega))).trans (h.fr.block i hi hS)⟩, h.sub,
   (hc.block _ h.box.lt (.inl hn)).trans h.box, h.own, h.nd, fun D hD => ⟨(h.mks D hD).1, (h.mks D hD).2.1, (hc.block D (Array.getElem?_eq_some_iff.1 (h.mks D hD).2.2).1 (.inl (hd D hD))).trans (h.mks D hD).2.2⟩⟩
theorem AtS.shut (h : AtS J S l W k [] S' W') (hJ : Abides W.heap.size J) {D : Nat} (hD : W.heap.size < D) (hn : ¬ S' D) (o : Obj) : AtS J S l W k [] S' (W'.putObj D o) := by
  have hc : Chg (W.heap.size + 1) S' W' (W'.putObj D o) := Chg.putObj o (by omega) hn
  exact h.chg hJ hc (by omega) (by simp)
theorem AtS.more {D : Nat} (h : AtS J S l W k ds S' W') (hD : W.heap.size < D) (hn : ¬ S' D) (hd : D ∉ ds) (hk : W'.heap[D]? = some (.deferred (some []))) : AtS J S l W k (D :: ds) S' W' :=
  ⟨h.at_, h.fr, h.sub, h.box, h.own, List.nodup_cons.2 ⟨hd, h.nd⟩, fun E hE => by
    rcases List.mem_cons.1 hE with rfl | hE
    · exact ⟨hD, hn, hk⟩
    · exact h.mks E hE⟩
theorem AtS.ds_lt (h : AtS J S l W k ds S' W') : ∀ D ∈ ds, D < W'.heap.size := fun D hD => (Array.getElem?_eq_some_iff.1 (h.mks D hD).2.2).1
/-- the function is left: the marks are shut. -/
theorem AtS.leaves {F : Fence} {n : Nat} {P : Program} {fn : Func} {tmps : Array Value} {R : Ending → World → Prop} {u : FrameMode} (h : AtS J S l W k ds S' W') (hJ : Abides W.heap.size J) (hu : u ≠ .run) (hR : ∀ X, AtS J S l W k [] S' X → LeavesInM F n P fn tmps R [] u X) : LeavesInM F n P fn tmps R (ds.map mark) u W' :=
  leaves_marks (fun X => AtS J S l W k [] S' X) ds W' hu h.nd (fun D hD => (h.mks D hD).2.2) h.nil (fun D hD _ hA => hA.shut hJ (h.mks D hD).1 (h.mks D hD).2.1 _) hR
end
set_option maxRecDepth 100000 in
set_option maxHeartbeats 2000000 in
theorem all_node (n : No TV) (ih : ∀ m ∈ n.2.kids, AllP m) : AllP n := by
  intro m0 w0 w top b bx F h hok hN l J Jx W S hbel hl hJ hJx hD hDx hS hY h0
  have HS := Lib.hid hS
  obtain ⟨kv, ks, F1, hF, hb, hr, hk⟩ := h
  refine callsIn_any (n := 9) ?_
  obtain ⟨A, c, hkv⟩ := own_form hr
  subst hkv
  have hkn := hk.len
  generalize hkl : ks.length = kn at *
  have HKN := Lib.hid hkn
  have HKL := Lib.hid hkl
  clear hkn hkl
  have hbF : b ∈ F := by rw [hF]; simp
  have HY := Lib.hid (fun i S W1 h hi => yieldAt_wide 8 (hY i S W1 h hi))
  have HD := Lib.hid hD
  have HDX := Lib.hid hDx
  have HJ := Lib.hid hJ
  have HJX := Lib.hid hJx
  have H0 := Lib.hid h0
  have hc : ∀ {X : World}, AllD bx b F w0 X → X.cell? ⟨bx, 0, none⟩ = some (ptr b) ∧ X.cell? ⟨b, 1, none⟩ = some (sv n.1.key) ∧ X.cell? ⟨b, 2, none⟩ = some (tz n.1.val) ∧ X.cell? ⟨b, 3, none⟩ = some (.bool n.1.held) ∧ X.cell? ⟨b, 4, none⟩ = some (.slice A kn c) := fun hX => by
    have hb' : Has _ b (nty top) _ := (hX.2 b hbF).trans hb
    refine ⟨by rw [hX.1.cell]; rfl, ?_, ?_, ?_, ?_⟩ <;> (rw [hb'.cell]; cases top <;> rfl)
  obtain ⟨W1, hW1⟩ : ∃ W1, W1 = W.alloc (.cells #[.func (.yield l) #[] #[]] 102) := ⟨_, rfl⟩
  have h1 : J 0 S W1 := by rw [hW1]; exact hJ _ _ _ _ h0 (Chg.alloc _)
  have hx1 : Has W1 W.heap.size 102 #[.func (.yield l) #[] #[]] := by rw [hW1]; exact Has.fresh _ _ _
  have hf1 : FrS (fun j => S j ∨ j = l) W W1 := by rw [hW1]; exact FrS.of_below ((Below.refl _ W).alloc (Nat.le_refl _) _) (Nat.le_refl _) _
  have HA := Lib.hid (show AtS J S l W 0 [] S W1 from ⟨h1, hf1, fun j hj => .inl hj, hx1, fun hj => by have := hS _ _ _ h0 _ hj; omega, List.nodup_nil, by simp⟩)
  obtain ⟨c00, c01, c02, c03, c04⟩ := hc (hD _ _ _ h1)
  have cx : W1.cell? ⟨W.heap.size, 0, none⟩ = some (.func (.yield l) #[] #[]) := by rw [hx1.cell]; rfl
  clear hY hD hDx hJ hJx hS h0 h1 hx1 hf1
  refine callsIn_of_wp_marks Try.func101 rfl trivial ?_ rfl
  simp only [Try.ntmps101, List.size_toArray, List.length_cons, List.length_nil, Nat.reduceAdd, Nat.reduceSub, Array.replicate_succ, Array.replicate_zero, List.push_toArray, List.append_toArray, List.nil_append, List.cons_append]
  gi_wp2
  rw [← hW1]
  have mixed : Try.prog.follows .mixedOrders = true := by kernel_rfl
  refine wpIn_mono (Q := AllQ J Jx S l W (kvo n.1).length bx) ?_ ?_
  · cases hh : n.1.held with
    | false =>
      rw [hh] at c03
      have hk0 : (kvo n.1).length = 0 := by simp [kvo, hh]
      rw [hk0]
      clear hW1
      have hS0 : (fun X : World => X.cell? ⟨bx, 0, none⟩ = some (ptr b) ∧ X.cell? ⟨b, 1, none⟩ = some (sv n.1.key) ∧ X.cell? ⟨b, 2, none⟩ = some (tz n.1.val) ∧ X.cell? ⟨b, 3, none⟩ = some (.bool false) ∧ X.cell? ⟨W.heap.size, 0, none⟩ = some (.func (.yield l) #[] #[])) W1.drew := ⟨c00, c01, c02, c03, cx⟩
      refine wpIn_region_S2 (S := (fun X : World => X.cell? ⟨bx, 0, none⟩ = some (ptr b) ∧ X.cell? ⟨b, 1, none⟩ = some (sv n.1.key) ∧ X.cell? ⟨b, 2, none⟩ = some (tz n.1.val) ∧ X.cell? ⟨b, 3, none⟩ = some (.bool false) ∧ X.cell? ⟨W.heap.size, 0, none⟩ = some (.func (.yield l) #[] #[]))) mixed 17 #[false, false, false, false, false, false, false, false, false, false, false, false, false, false, false, false, false] rfl rfl ?_
      refine wpAnyS_take (i := 0) (v := ptr b) rfl (by kernel_rfl) (by kernel_rfl) (by kernel_rfl) (by kernel_rfl) (fun _ _ _ h => by cases h.1) ⟨Or.inl ⟨by rfl, fun W' hW' => (by have := hW'.1; go_simp)⟩, rfl, fun _ => rfl⟩ hS0 ?_
      simp only [Act.put, List.getElem_toArray, List.getElem_cons_zero, List.setIfInBounds_toArray, List.set_cons_zero, List.set_cons_succ]
      refine wpAnyS_take (i := 1) (v := ptr b) rfl (by kernel_rfl) (by kernel_rfl) (by kernel_rfl) (by kernel_rfl) (fun _ _ _ h => by cases h.1) ⟨Or.inl ⟨by rfl, fun W' hW' => (by go_simp)⟩, rfl, fun _ => rfl⟩ hS0 ?_
      simp only [Act.put, List.getElem_toArray, List.getElem_cons_zero, List.getElem_cons_succ, List.setIfInBounds_toArray, List.set_cons_zero, List.set_cons_succ]
      refine wpAnyS_take (i := 2) (v := .pointer (some ⟨b, 3, none⟩)) rfl (by kernel_rfl) (by kernel_rfl) (by kernel_rfl) (by kernel_rfl) (fun _ _ _ h => by cases h.1) ⟨Or.inl ⟨by rfl, fun W' hW' => (by go_simp)⟩, rfl, fun _ => rfl⟩ hS0 ?_
      simp only [Act.put, List.getElem_toArray, List.getElem_cons_zero, List.getElem_cons_succ, List.setIfInBounds_toArray, List.set_cons_zero, List.set_cons_succ]
      refine wpAnyS_take (i := 3) (v := .bool false) rfl (by kernel_rfl) (by kernel_rfl) (by kernel_rfl) (by kernel_rfl) (fun _ _ _ h => by cases h.1) ⟨Or.inl ⟨by rfl, fun W' hW' => (by have := hW'.2.2.2.1; go_simp)⟩, rfl, fun _ => rfl⟩ hS0 ?_
      simp only [Act.put, List.getElem_toArray, List.getElem_cons_zero, List.getElem_cons_succ, List.setIfInBounds_toArray, List.set_cons_zero, List.set_cons_succ]
      refine wpAnyS_take (i := 4) (v := .bool false) rfl (by kernel_rfl) (by kernel_rfl) (by kernel_rfl) (by kernel_rfl) (fun _ _ _ h => by cases h.1) ⟨Or.inl ⟨by rfl, fun W' hW' => (by go_simp)⟩, rfl, fun _ => rfl⟩ hS0 ?_
      simp only [Act.put, List.getElem_toArray, List.getElem_cons_zero, List.getElem_cons_succ, List.setIfInBounds_toArray, List.set_cons_zero, List.set_cons_succ]
      refine wpAnyS_take (i := 5) (v := undef) rfl (by kernel_rfl) (by kernel_rfl) (by kernel_rfl) (by kernel_rfl) (fun _ _ _ h => by cases h.1) ⟨Or.inr ⟨by rfl, rfl⟩, rfl, fun _ => rfl⟩ hS0 ?_
      simp only [Act.put, List.getElem_toArray, List.getElem_cons_zero, List.getElem_cons_succ, List.setIfInBounds_toArray, List.set_cons_zero, List.set_cons_succ]
      refine wpAnyS_take (i := 6) (v := undef) rfl (by kernel_rfl) (by kernel_rfl) (by kernel_rfl) (by kernel_rfl) (fun _ _ _ h => by cases h.1) ⟨Or.inr ⟨by rfl, rfl⟩, rfl, fun _ => rfl⟩ hS0 ?_
      simp only [Act.put, List.getElem_toArray, List.getElem_cons_zero, List.getElem_cons_succ, List.setIfInBounds_toArray, List.set_cons_zero, List.set_cons_succ]
      refine wpAnyS_take (i := 7) (v := undef) rfl (by kernel_rfl) (by kernel_rfl) (by kernel_rfl) (by kernel_rfl) (fun _ _ _ h => by cases h.1) ⟨Or.inr ⟨by rfl, rfl⟩, rfl, fun _ => rfl⟩ hS0 ?_
      simp only [Act.put, List.getElem_toArray, List.getElem_cons_zero, List.getElem_cons_succ, List.setIfInBounds_toArray, List.set_cons_zero, List.set_cons_succ]
      refine wpAnyS_take (i := 8) (v := undef) rfl (by kernel_rfl) (by kernel_rfl) (by kernel_rfl) (by kernel_rfl) (fun _ _ _ h => by cases h.1) ⟨Or.inr ⟨by rfl, rfl⟩, rfl, fun _ => rfl⟩ hS0 ?_
      simp only [Act.put, List.getElem_toArray, List.getElem_cons_zero, List.getElem_cons_succ, List.setIfInBounds_toArray, List.set_cons_zero, List.set_cons_succ]
      refine wpAnyS_take (i := 9) (v := undef) rfl (by kernel_rfl) (by kernel_rfl) (by kernel_rfl) (by kernel_rfl) (fun _ _ _ h => by cases h.1) ⟨Or.inr ⟨by rfl, rfl⟩, rfl, fun _ => rfl⟩ hS0 ?_
      simp only [Act.put, List.getElem_toArray, List.getElem_cons_zero, List.getElem_cons_succ, List.setIfInBounds_toArray, List.set_cons_zero, List.set_cons_succ]
      refine wpAnyS_take (i := 10) (v := undef) rfl (by kernel_rfl) (by kernel_rfl) (by kernel_rfl) (by kernel_rfl) (fun _ _ _ h => by cases h.1) ⟨Or.inr ⟨by rfl, rfl⟩, rfl, fun _ => rfl⟩ hS0 ?_
      simp only [Act.put, List.getElem_toArray, List.getElem_cons_zero, List.getElem_cons_succ, List.setIfInBounds_toArray, List.set_cons_zero, List.set_cons_succ]
      refine wpAnyS_take (i := 11) (v := undef) rfl (by kernel_rfl) (by kernel_rfl) (by kernel_rfl) (by kernel_rfl) (fun _ _ _ h => by cases h.1) ⟨Or.inr ⟨by rfl, rfl⟩, rfl, fun _ => rfl⟩ hS0 ?_
      simp only [Act.put, List.getElem_toArray, List.getElem_cons_zero, List.getElem_cons_succ, List.setIfInBounds_toArray, List.set_cons_zero, List.set_cons_succ]
      refine wpAnyS_take (i := 12) (v := undef) rfl (by kernel_rfl) (by kernel_rfl) (by kernel_rfl) (by kernel_rfl) (fun _ _ _ h => by cases h.1) ⟨Or.inr ⟨by rfl, rfl⟩, rfl, fun _ => rfl⟩ hS0 ?_
      simp only [Act.put, List.getElem_toArray, List.getElem_cons_zero, List.getElem_cons_succ, List.setIfInBounds_toArray, List.set_cons_zero, List.set_cons_succ]
      refine wpAnyS_take (i := 13) (v := undef) rfl (by kernel_rfl) (by kernel_rfl) (by kernel_rfl) (by kernel_rfl) (fun _ _ _ h => by cases h.1) ⟨Or.inr ⟨by rfl, rfl⟩, rfl, fun _ => rfl⟩ hS0 ?_
      simp only [Act.put, List.getElem_toArray, List.getElem_cons_zero, List.getElem_cons_succ, List.setIfInBounds_toArray, List.set_cons_zero, List.set_cons_succ]
      refine wpAnyS_take (i := 14) (v := undef) rfl (by kernel_rfl) (by kernel_rfl) (by kernel_rfl) (by kernel_rfl) (fun _ _ _ h => by cases h.1) ⟨Or.inr ⟨by rfl, rfl⟩, rfl, fun _ => rfl⟩ hS0 ?_
      simp only [Act.put, List.getElem_toArray, List.getElem_cons_zero, List.getElem_cons_succ, List.setIfInBounds_toArray, List.set_cons_zero, List.set_cons_succ]
      refine wpAnyS_take (i := 15) (v := undef) rfl (by kernel_rfl) (by kernel_rfl) (by kernel_rfl) (by kernel_rfl) (fun _ _ _ h => by cases h.1) ⟨Or.inr ⟨by rfl, rfl⟩, rfl, fun _ => rfl⟩ hS0 ?_
      simp only [Act.put, List.getElem_toArray, List.getElem_cons_zero, List.getElem_cons_succ, List.setIfInBounds_toArray, List.set_cons_zero, List.set_cons_succ]
      refine wpAnyS_take (i := 16) (v := .bool false) rfl (by kernel_rfl) (by kernel_rfl) (by kernel_rfl) (by kernel_rfl) (fun _ _ _ h => by cases h.1) ⟨Or.inl ⟨by rfl, fun W' hW' => (by go_simp)⟩, rfl, fun _ => rfl⟩ hS0 ?_
      simp only [Act.put, List.getElem_toArray, List.getElem_cons_zero, List.getElem_cons_succ, List.setIfInBounds_toArray, List.set_cons_zero, List.set_cons_succ]
      refine wpAnyS_done (by kernel_rfl) ?_ _
      exact ⟨rfl, _, _, _, _, _, _, _, _, _, _, _, _, _, _, _, _, _, rfl, fun _ => ⟨S, HA.out.drew HJ.out⟩, fun h => by cases h⟩
    | true =>
      rw [hh] at c03
      have hk0 : kvo n.1 = [(n.1.key, n.1.val)] := by simp [kvo, hh]
      have he : encL (nkv n) 0 = #[sv n.1.key, tz n.1.val] := by simp [encL, nkv, hk0]
      have hl0 : 0 < (nkv n).length := by simp [nkv, hk0]
      rw [hk0]
      have hY := HY.out 0 S W1.drew (HA.out.drew HJ.out).at_ hl0
      rw [he] at hY
      obtain ⟨fn, tmps, assign, body, hy, hR⟩ := hY
      clear hW1
      have hS0 : (fun X : World => X.cell? ⟨bx, 0, none⟩ = some (ptr b) ∧ X.cell? ⟨b, 1, none⟩ = some (sv n.1.key) ∧ X.cell? ⟨b, 2, none⟩ = some (tz n.1.val) ∧ X.cell? ⟨b, 3, none⟩ = some (.bool true) ∧ X.cell? ⟨W.heap.size, 0, none⟩ = some (.func (.yield l) #[] #[])) W1.drew := ⟨c00, c01, c02, c03, cx⟩
      refine wpIn_region_S2 (S := (fun X : World => X.cell? ⟨bx, 0, none⟩ = some (ptr b) ∧ X.cell? ⟨b, 1, none⟩ = some (sv n.1.key) ∧ X.cell? ⟨b, 2, none⟩ = some (tz n.1.val) ∧ X.cell? ⟨b, 3, none⟩ = some (.bool true) ∧ X.cell? ⟨W.heap.size, 0, none⟩ = some (.func (.yield l) #[] #[]))) mixed 17 #[false, false, false, false, false, false, false, false, false, false, false, false, false, false, false, false, false] rfl rfl ?_
      refine wpAnyS_take (i := 0) (v := ptr b) rfl (by kernel_rfl) (by kernel_rfl) (by kernel_rfl) (by kernel_rfl) (fun _ _ _ h => by cases h.1) ⟨Or.inl ⟨by rfl, fun W' hW' => (by have := hW'.1; go_simp)⟩, rfl, fun _ => rfl⟩ hS0 ?_
      simp only [Act.put, List.getElem_toArray, List.getElem_cons_zero, List.setIfInBounds_toArray, List.set_cons_zero, List.set_cons_succ]
      refine wpAnyS_take (i := 1) (v := ptr b) rfl (by kernel_rfl) (by kernel_rfl) (by kernel_rfl) (by kernel_rfl) (fun _ _ _ h => by cases h.1) ⟨Or.inl ⟨by rfl, fun W' hW' => (by go_simp)⟩, rfl, fun _ => rfl⟩ hS0 ?_
      simp only [Act.put, List.getElem_toArray, List.getElem_cons_zero, List.getElem_cons_succ, List.setIfInBounds_toArray, List.set_cons_zero, List.set_cons_succ]
      refine wpAnyS_take (i := 2) (v := .pointer (some ⟨b, 3, none⟩)) rfl (by kernel_rfl) (by kernel_rfl) (by kernel_rfl) (by kernel_rfl) (fun _ _ _ h => by cases h.1) ⟨Or.inl ⟨by rfl, fun W' hW' => (by go_simp)⟩, rfl, fun _ => rfl⟩ hS0 ?_
      simp only [Act.put, List.getElem_toArray, List.getElem_cons_zero, List.getElem_cons_succ, List.setIfInBounds_toArray, List.set_cons_zero, List.set_cons_succ]
      refine wpAnyS_take (i := 3) (v := .bool true) rfl (by kernel_rfl) (by kernel_rfl) (by kernel_rfl) (by kernel_rfl) (fun _ _ _ h => by cases h.1) ⟨Or.inl ⟨by rfl, fun W' hW' => (by have := hW'.2.2.2.1; go_simp)⟩, rfl, fun _ => rfl⟩ hS0 ?_
      simp only [Act.put, List.getElem_toArray, List.getElem_cons_zero, List.getElem_cons_succ, List.setIfInBounds_toArray, List.set_cons_zero, List.set_cons_succ]
      refine wpAnyS_take (i := 4) (v := .bool true) rfl (by kernel_rfl) (by kernel_rfl) (by kernel_rfl) (by kernel_rfl) (fun _ _ _ h => by cases h.1) ⟨Or.inl ⟨by rfl, fun W' hW' => (by go_simp)⟩, rfl, fun _ => rfl⟩ hS0 ?_
      simp only [Act.put, List.getElem_toArray, List.getElem_cons_zero, List.getElem_cons_succ, List.setIfInBounds_toArray, List.set_cons_zero, List.set_cons_succ]
      refine wpAnyS_take (i := 5) (v := .func (.yield l) #[] #[]) rfl (by kernel_rfl) (by kernel_rfl) (by kernel_rfl) (by kernel_rfl) (fun _ _ _ h => by cases h.1) ⟨Or.inl ⟨by rfl, fun W' hW' => (by have := hW'.2.2.2.2; go_simp)⟩, rfl, fun _ => rfl⟩ hS0 ?_
      simp only [Act.put, List.getElem_toArray, List.getElem_cons_zero, List.getElem_cons_succ, List.setIfInBounds_toArray, List.set_cons_zero, List.set_cons_succ]
      refine wpAnyS_take (i := 6) (v := ptr b) rfl (by kernel_rfl) (by kernel_rfl) (by kernel_rfl) (by kernel_rfl) (fun _ _ _ h => by cases h.1) ⟨Or.inl ⟨by rfl, fun W' hW' => (by have := hW'.1; go_simp)⟩, rfl, fun _ => rfl⟩ hS0 ?_
      simp only [Act.put, List.getElem_toArray, List.getElem_cons_zero, List.getElem_cons_succ, List.setIfInBounds_toArray, List.set_cons_zero, List.set_cons_succ]
      refine wpAnyS_take (i := 7) (v := ptr b) rfl (by kernel_rfl) (by kernel_rfl) (by kernel_rfl) (by kernel_rfl) (fun _ _ _ h => by cases h.1) ⟨Or.inl ⟨by rfl, fun W' hW' => (by go_simp)⟩, rfl, fun _ => rfl⟩ hS0 ?_
      simp only [Act.put, List.getElem_toArray, List.getElem_cons_zero, List.getElem_cons_succ, List.setIfInBounds_toArray, List.set_cons_zero, List.set_cons_succ]
      refine wpAnyS_take (i := 8) (v := .pointer (some ⟨b, 1, none⟩)) rfl (by kernel_rfl) (by kernel_rfl) (by kernel_rfl) (by kernel_rfl) (fun _ _ _ h => by cases h.1) ⟨Or.inl ⟨by rfl, fun W' hW' => (by go_simp)⟩, rfl, fun _ => rfl⟩ hS0 ?_
      simp only [Act.put, List.getElem_toArray, List.getElem_cons_zero, List.getElem_cons_succ, List.setIfInBounds_toArray, List.set_cons_zero, List.set_cons_succ]
      refine wpAnyS_take (i := 9) (v := sv n.1.key) rfl (by kernel_rfl) (by kernel_rfl) (by kernel_rfl) (by kernel_rfl) (fun _ _ _ h => by cases h.1) ⟨Or.inl ⟨by rfl, fun W' hW' => (by have := hW'.2.1; go_simp)⟩, rfl, fun _ => rfl⟩ hS0 ?_
      simp only [Act.put, List.getElem_toArray, List.getElem_cons_zero, List.getElem_cons_succ, List.setIfInBounds_toArray, List.set_cons_zero, List.set_cons_succ]
      refine wpAnyS_take (i := 10) (v := ptr b) rfl (by kernel_rfl) (by kernel_rfl) (by kernel_rfl) (by kernel_rfl) (fun _ _ _ h => by cases h.1) ⟨Or.inl ⟨by rfl, fun W' hW' => (by have := hW'.1; go_simp)⟩, rfl, fun _ => rfl⟩ hS0 ?_
      simp only [Act.put, List.getElem_toArray, List.getElem_cons_zero, List.getElem_cons_succ, List.setIfInBounds_toArray, List.set_cons_zero, List.set_cons_succ]
      refine wpAnyS_take (i := 11) (v := ptr b) rfl (by kernel_rfl) (by kernel_rfl) (by kernel_rfl) (by kernel_rfl) (fun _ _ _ h => by cases h.1) ⟨Or.inl ⟨by rfl, fun W' hW' => (by go_simp)⟩, rfl, fun _ => rfl⟩ hS0 ?_
      simp only [Act.put, List.getElem_toArray, List.getElem_cons_zero, List.getElem_cons_succ, List.setIfInBounds_toArray, List.set_cons_zero, List.set_cons_succ]
      refine wpAnyS_take (i := 12) (v := .pointer (some ⟨b, 2, none⟩)) rfl (by kernel_rfl) (by kernel_rfl) (by kernel_rfl) (by kernel_rfl) (fun _ _ _ h => by cases h.1) ⟨Or.inl ⟨by rfl, fun W' hW' => (by go_simp)⟩, rfl, fun _ => rfl⟩ hS0 ?_
      simp only [Act.put, List.getElem_toArray, List.getElem_cons_zero, List.getElem_cons_succ, List.setIfInBounds_toArray, List.set_cons_zero, List.set_cons_succ]
      refine wpAnyS_take (i := 13) (v := tz n.1.val) rfl (by kernel_rfl) (by kernel_rfl) (by kernel_rfl) (by kernel_rfl) (fun _ _ _ h => by cases h.1) ⟨Or.inl ⟨by rfl, fun W' hW' => (by have := hW'.2.2.1; go_simp)⟩, rfl, fun _ => rfl⟩ hS0 ?_
      simp only [Act.put, List.getElem_toArray, List.getElem_cons_zero, List.getElem_cons_succ, List.setIfInBounds_toArray, List.set_cons_zero, List.set_cons_succ]
      refine wpAnyS_ready (rs := [14]) (by kernel_rfl) (by simp) (allS_on rfl rfl (fun K hK => ?_) AllS.nil)
      go_simp
      refine hR.mono ?_
      rintro e W2 (⟨rfl, S2, hj2, hf2, hs2⟩ | ⟨rfl, S2, hj2, hf2, hs2⟩)
      · dsimp only
        have hA2 := (HA.out.drew HJ.out).step hl hj2 hf2 hs2
        obtain ⟨d0, d1, d2, d3, d4⟩ := hc (HD.out _ _ _ hj2)
        rw [hh] at d3
        have dx : W2.cell? ⟨W.heap.size, 0, none⟩ = some (.func (.yield l) #[] #[]) := by rw [hA2.box.cell]; rfl
        refine hK _ _ ⟨d0, d1, d2, d3, dx⟩ ?_
        clear hK K hS0
        have HA2 := Lib.hid hA2
        clear hA2 hj2 hf2 hs2
        have hS2 : (fun X : World => X.cell? ⟨bx, 0, none⟩ = some (ptr b) ∧ X.cell? ⟨b, 1, none⟩ = some (sv n.1.key) ∧ X.cell? ⟨b, 2, none⟩ = some (tz n.1.val) ∧ X.cell? ⟨b, 3, none⟩ = some (.bool true) ∧ X.cell? ⟨W.heap.size, 0, none⟩ = some (.func (.yield l) #[] #[])) W2 := ⟨d0, d1, d2, d3, dx⟩
        refine wpAnyS_take (i := 15) (v := .bool false) rfl (by kernel_rfl) (by kernel_rfl) (by kernel_rfl) (by kernel_rfl) (fun _ _ _ h => by cases h.1) ⟨Or.inl ⟨by rfl, fun W' hW' => (by go_simp)⟩, rfl, fun _ => rfl⟩ hS2 ?_
        simp only [Act.put, List.getElem_toArray, List.getElem_cons_zero, List.getElem_cons_succ, List.setIfInBounds_toArray, List.set_cons_zero, List.set_cons_succ]
        refine wpAnyS_take (i := 16) (v := .bool false) rfl (by kernel_rfl) (by kernel_rfl) (by kernel_rfl) (by kernel_rfl) (fun _ _ _ h => by cases h.1) ⟨Or.inl ⟨by rfl, fun W' hW' => (by go_simp)⟩, rfl, fun _ => rfl⟩ hS2 ?_
        simp only [Act.put, List.getElem_toArray, List.getElem_cons_zero, List.getElem_cons_succ, List.setIfInBounds_toArray, List.set_cons_zero, List.set_cons_succ]
        refine wpAnyS_done (by kernel_rfl) ?_ _
        exact ⟨rfl, _, _, _, _, _, _, _, _, _, _, _, _, _, _, _, _, _, rfl, fun _ => ⟨S2, HA2.out⟩, fun h => by cases h⟩
      · dsimp only
        have hA2 := (HA.out.drew HJ.out).step hl hj2 hf2 hs2
        obtain ⟨d0, d1, d2, d3, d4⟩ := hc (HDX.out _ _ _ hj2)
        rw [hh] at d3
        have dx : W2.cell? ⟨W.heap.size, 0, none⟩ = some (.func (.yield l) #[] #[]) := by rw [hA2.box.cell]; rfl
        refine hK _ _ ⟨d0, d1, d2, d3, dx⟩ ?_
        clear hK K hS0
        have HA2 := Lib.hid hA2
        clear hA2 hj2 hf2 hs2
        have hS2 : (fun X : World => X.cell? ⟨bx, 0, none⟩ = some (ptr b) ∧ X.cell? ⟨b, 1, none⟩ = some (sv n.1.key) ∧ X.cell? ⟨b, 2, none⟩ = some (tz n.1.val) ∧ X.cell? ⟨b, 3, none⟩ = some (.bool true) ∧ X.cell? ⟨W.heap.size, 0, none⟩ = some (.func (.yield l) #[] #[])) W2 := ⟨d0, d1, d2, d3, dx⟩
        refine wpAnyS_take (i := 15) (v := .bool true) rfl (by kernel_rfl) (by kernel_rfl) (by kernel_rfl) (by kernel_rfl) (fun _ _ _ h => by cases h.1) ⟨Or.inl ⟨by rfl, fun W' hW' => (by go_simp)⟩, rfl, fun _ => rfl⟩ hS2 ?_
        simp only [Act.put, List.getElem_toArray, List.getElem_cons_zero, List.getElem_cons_succ, List.setIfInBounds_toArray, List.set_cons_zero, List.set_cons_succ]
        refine wpAnyS_take (i := 16) (v := .bool true) rfl (by kernel_rfl) (by kernel_rfl) (by kernel_rfl) (by kernel_rfl) (fun _ _ _ h => by cases h.1) ⟨Or.inl ⟨by rfl, fun W' hW' => (by go_simp)⟩, rfl, fun _ => rfl⟩ hS2 ?_
        simp only [Act.put, List.getElem_toArray, List.getElem_cons_zero, List.getElem_cons_succ, List.setIfInBounds_toArray, List.set_cons_zero, List.set_cons_succ]
        refine wpAnyS_done (by kernel_rfl) ?_ _
        exact ⟨rfl, _, _, _, _, _, _, _, _, _, _, _, _, _, _, _, _, _, rfl, (fun h => by cases h), fun _ => ⟨_, S2, HA2.out⟩⟩
  · rintro e a W2 ⟨rfl, u7, u8, u9, u10, u11, u12, u13, u14, u15, u16, u17, u18, u19, u20, u21, u22, bd, rfl, hb0, hb1⟩
    cases bd with
    | true =>
      obtain ⟨i, S2, hA2⟩ := hb1 rfl
      gi_wp2
      refine hA2.leaves HJX.out (by simp) (fun X hX => ⟨_, results_none rfl _ _ _, ⟨_, rfl⟩, .inr ⟨i, S2, hX.at_, hX.fr, hX.sub⟩⟩)
    | false =>
      obtain ⟨S2, hA2⟩ := hb0 rfl
      have HA2 := Lib.hid hA2
      obtain ⟨d0, d1, d2, d3, d4⟩ := hc (HD.out _ _ _ hA2.at_)
      clear hb0 hb1 hA2 c00 c01 c02 c03 c04 cx HA hW1
      gi_wp2
      refine wpIn_loop (fun a X => ∃ (i : Nat) (ds : List Nat) (S3 : Bl) (u4 u5 u6 u30 u31 u32 u33 u34 u35 u36 u37 u38 u39 u40 u41 u42 : Value), a = { tmps := #[.func (.yield l) #[] #[], .pointer (some ⟨bx, 0, none⟩), .pointer (some ⟨W.heap.size, 0, none⟩), undef, u4, u5, u6, u7, u8, u9, u10, u11, u12, u13, u14, u15, u16, u17, u18, u19, u20, u21, u22, .bool false, ptr b, ptr b, .pointer (some ⟨b, 4, none⟩), .slice A kn c, .int .i64 kn, .int .i64 i, u30, u31, u32, u33, u34, u35, u36, u37, u38, u39, u40, u41, u42], defers := ds.map mark } ∧
        i ≤ kn ∧ AtS J S l W (pre n i) ds S3 X) (fun a _ => kn - (intOf (a.tmps.getD 29 undef)).toNat) ?_ ?_
      · exact ⟨0, [], S2, _, _, _, _, _, _, _, _, _, _, _, _, _, _, _, _, rfl, Nat.zero_le _, by rw [pre_zero]; exact HA2.out⟩
      · rintro a X ⟨i, ds, S3, u4, u5, u6, u30, u31, u32, u33, u34, u35, u36, u37, u38, u39, u40, u41, u42, rfl, hi, hA3⟩
        have HA3 := Lib.hid hA3
        rcases Nat.lt_or_ge i kn with hlt | hge
        · obtain ⟨m, hm⟩ : ∃ m, n.2.kids[i]? = some m := ⟨_, List.getElem?_eq_getElem (by have := HKN.out; omega)⟩
          obtain ⟨b1, FA, F2, FB, hF1, h6, h7, _⟩ := hk.kid hm
          have hAD := HD.out _ _ _ hA3.at_
          have hrX : X.ownsRow 0 100 1 (.slice A kn c) kn (ptrs ks) := by
            have := row_same hr (fun j hj => hAD.2 j (by rw [hF]; simp [hj]))
            unfold Row at this
            rwa [HKL.out] at this
          obtain ⟨g, cp, hkv, hcg, _⟩ := own_pos hrX (by omega)
          injection hkv with e1 _ e3
          subst e1 e3
          have ci := own_cells hrX i (ptr b1) (by simp [ptrs, h6])
          gi_wp2_with (refine ⟨trivial, ?_⟩; gi_at_call 86; refine (callsIn_wide.2 (all_any _ _)).mono ?_; rintro e w5 ⟨rfl, rfl⟩)
          have hmm : m ∈ n.2.kids := List.mem_of_getElem? hm
          have hdl := hA3.ds_lt
          have hzX : W.heap.size < X.heap.size := hA3.box.lt
          have hF2 : ∀ j ∈ F2, j ∈ F := fun j hj => by rw [hF, hF1]; simp [hj]
          have hpl : ∀ j, j < (nkv m).length → pre n i + j < (nkv n).length := fun j hj => pre_lt hm hj
          have hpe : ∀ j, j < (nkv m).length → encL (nkv n) (pre n i + j) = encL (nkv m) j := fun j hj => encL_at (nkv_at hm hj)
          have hps : pre n (i + 1) = pre n i + (nkv m).length := pre_succ hm
          have hNm : (nkv m).length ≤ 1099511627776 := Nat.le_trans (kid_le hmm) (by unfold nkv at hN; simp at hN; omega)
          have hseq := ih m hmm 8 w0 (X.alloc (.cells #[ptr b1] 100)) none b1 X.heap.size F2 h7 (kid_ok hok hmm) hNm
          obtain ⟨X5, hX5⟩ : ∃ X5, X5 = X.alloc (.cells #[ptr b1] 100) := ⟨_, rfl⟩
          rw [← hX5] at hseq ⊢
          have hA5 : AtS J S l W (pre n i) ds S3 X5 := hA3.chg HJ.out (by rw [hX5]; exact Chg.alloc (n := X.heap.size) _) hzX hdl
          have hb5 : Has X5 X.heap.size 100 #[ptr b1] := by rw [hX5]; exact Has.fresh _ _ _
          have hz5 : X5.heap.size = X.heap.size + 1 := by rw [hX5]; simp
          have hnb : ¬ S3 X.heap.size := fun hj => by have := HS.out _ _ _ hA3.at_ _ hj; omega
          have hkd : ∀ {Y : World}, AllD bx b F w0 Y → Has Y X.heap.size 100 #[ptr b1] → AllD X.heap.size b1 F2 w0 Y := fun hY hb => ⟨hb, fun j hj => hY.2 j (hF2 j hj)⟩
          clear hX5 HA3 hAD ci hrX hcg
          refine wpIn_rangeFunc_S (D := AllD X.heap.size b1 F2 w0) (N := (nkv m).length) rfl (by omega) (gf := 101) (lb := #[.pointer (some ⟨X.heap.size, 0, none⟩)]) rfl trivial (enters_of Try.func101 (by kernel_rfl) rfl)
            hseq (fun _ => rfl)
            (fun j T Y => ∃ S4, (∀ q, T q ↔ S4 q ∨ q = l) ∧ AtS J S l W (pre n i + j) ds S4 Y ∧ Has Y X.heap.size 100 #[ptr b1] ∧ ¬ S4 X.heap.size)
            (fun cd j T Y => cd = .ret ∧ ∃ S4, (∀ q, T q ↔ S4 q ∨ q = l) ∧ AtS Jx S l W (pre n i + j) ds S4 Y ∧ Has Y X.heap.size 100 #[ptr b1] ∧ ¬ S4 X.heap.size)
            (fun q => S3 q ∨ q = l) ?hI ?hIx ?hD ?hDx ?hB ?h0
            (fun j => { tmps := #[.func (.yield l) #[] #[], .pointer (some ⟨bx, 0, none⟩), .pointer (some ⟨W.heap.size, 0, none⟩), undef, ptr b1, sv ((nkv m).getD j ([], [])).1, tz ((nkv m).getD j ([], [])).2, u7, u8, u9, u10, u11, u12, u13, u14, u15, u16, u17, u18, u19, u20, u21, u22, .bool false, ptr b, ptr b, .pointer (some ⟨b, 4, none⟩), .slice (some ⟨g, 0, none⟩) kn c, .int .i64 kn, .int .i64 i, .bool true, .pointer (some ⟨g, i, none⟩), ptr b1, ptr b1, .func (.func 101) #[] #[.pointer (some ⟨X.heap.size, 0, none⟩)], sv ((nkv m).getD j ([], [])).1, tz ((nkv m).getD j ([], [])).2, u37, u38, u39, u40, u41, u42], defers := [] }) ?assign ?body ?done ?stop
          case hI =>
            rintro j T Y Z ⟨S4, hT, hA, hb, hn⟩ hc
            have hc' : Chg X5.heap.size S4 Y Z := hc.mono (Nat.le_refl _) fun q hq => (hT q).2 (.inl hq)
            exact ⟨S4, hT, hA.chg HJ.out hc' (by omega) (fun D hD => by have := hdl D hD; omega), (hc'.block _ hb.lt (.inl (by omega))).trans hb, hn⟩
          case hIx =>
            rintro cd j T Y Z ⟨hcd, S4, hT, hA, hb, hn⟩ hc
            have hc' : Chg X5.heap.size S4 Y Z := hc.mono (Nat.le_refl _) fun q hq => (hT q).2 (.inl hq)
            exact ⟨hcd, S4, hT, hA.chg HJX.out hc' (by omega) (fun D hD => by have := hdl D hD; omega), (hc'.block _ hb.lt (.inl (by omega))).trans hb, hn⟩
          case hD =>
            rintro j T Y ⟨S4, hT, hA, hb, hn⟩
            exact hkd (HD.out _ _ _ hA.at_) hb
          case hDx =>
            rintro cd j T Y ⟨_, S4, hT, hA, hb, hn⟩
            exact hkd (HDX.out _ _ _ hA.at_) hb
          case hB =>
            rintro j T Y ⟨S4, hT, hA, hb, hn⟩ q hq
            rcases (hT q).1 hq with h1 | h1
            · exact HS.out _ _ _ hA.at_ q h1
            · have := hA.box.lt; omega
          case h0 => exact ⟨S3, fun q => Iff.rfl, hA5, hb5, hnb⟩
          case assign =>
            intro l2 j Y K hK
            unfold encL
            gi_wp2
            exact hK
          case body =>
            rintro l2 j T Y ⟨S4, hT, hA4, hb4, hn4⟩ hj hl2
            have cx : Y.cell? ⟨W.heap.size, 0, none⟩ = some (.func (.yield l) #[] #[]) := by rw [hA4.box.cell]; rfl
            have hY := yieldAt_in (l' := l2) (yieldAt_wide 6 (HY.out _ _ _ hA4.at_ (hpl j hj)))
            rw [hpe j hj] at hY
            unfold encL at hY
            obtain ⟨fn, tmps, assign, body, hy, hR⟩ := hY
            have HA4 := Lib.hid hA4
            have HPJ := Lib.hid (hpl j hj)
            obtain ⟨kv, hkv⟩ : ∃ kv, (nkv m).getD j ([], []) = kv := ⟨_, rfl⟩
            rw [hkv] at hy ⊢
            clear hA4 hA5 hseq hkv hpl hpe hj
            gi_wp2
            refine RoundIn.mono hR ?_
            have hfin : ∀ (J2 : Nat → Bl → World → Prop) (Y2 : World) (S5 : Bl), J2 (pre n i + j + 1) S5 Y2 → FrS (fun q => S4 q ∨ q = l) Y Y2 → (∀ q, S5 q → S4 q ∨ Y.heap.size ≤ q) →
                AtS J2 S l W (pre n i + (j + 1)) ds S5 Y2 ∧ Has Y2 X.heap.size 100 #[ptr b1] ∧ ¬ S5 X.heap.size ∧ FrS T Y Y2 ∧ ∀ q, S5 q ∨ q = l → T q ∨ Y.heap.size ≤ q := fun J2 Y2 S5 h1 h2 h3 => by
              refine ⟨HA4.out.step hl h1 h2 h3, h2.has (fun h => ?_) hb4, fun h => ?_, h2.mono (fun q hq => (hT q).2 hq), fun q hq => ?_⟩
              · rcases h with h | h
                · exact hn4 h
                · omega
              · rcases h3 _ h with h | h
                · exact hn4 h
                · have := hb4.lt; omega
              · rcases hq with hq | hq
                · rcases h3 q hq with h | h
                  · exact .inl ((hT q).2 (.inl h))
                  · exact .inr h
                · exact .inl ((hT q).2 (.inr hq))
            have HFIN := Lib.hid hfin
            clear hfin
            rintro e Y2 (⟨rfl, S5, hj5, hf5, hs5⟩ | ⟨rfl, S5, hj5, hf5, hs5⟩)
            · obtain ⟨r1, r2, r3, r4, r5⟩ := HFIN.out J Y2 S5 hj5 hf5 hs5
              have HR1 := Lib.hid r1
              have HR2 := Lib.hid r2
              clear r1 r2 hj5 hf5 hs5
              gi_wp2
              exact ⟨_, ⟨S5, fun q => Iff.rfl, HR1.out, HR2.out, r3⟩, r4, r5⟩
            · obtain ⟨r1, r2, r3, r4, r5⟩ := HFIN.out Jx Y2 S5 hj5 hf5 hs5
              have HR1 := Lib.hid r1
              have HR2 := Lib.hid r2
              clear r1 r2 hj5 hf5 hs5
              gi_wp2
              exact ⟨_, ⟨rfl, S5, fun q => Iff.rfl, HR1.out, HR2.out, r3⟩, r4, r5⟩
          case done =>
            rintro D T Y hD0 ⟨S4, hT, hA4, hb4, hn4⟩ hfr hsub hnD hKd
            have hA6 : AtS J S l W (pre n (i + 1)) (D :: ds) S4 Y := by
              rw [hps]
              exact hA4.more (by omega) (fun h => hnD ((hT D).2 (.inl h))) (fun h => by have := hdl D h; omega) hKd
            have HA6 := Lib.hid hA6
            have hwr : IntKind.i64.wrap ((i : Int) + 1) = ((i + 1 : Nat) : Int) := by
              have h1 := kids_le hok
              have h2 := HKN.out
              rw [nkv_ents] at hN
              simp [nents] at hN
              rw [IntKind.wrap_i64]; omega
            clear hA4 hA5 hA6 hseq
            gi_wp2
            refine ⟨⟨i + 1, D :: ds, S4, _, _, _, _, _, _, _, _, _, _, _, _, _, _, _, _, rfl, by omega, HA6.out⟩, ?_⟩
            simp [intOf]
            omega
          case stop =>
            rintro D cd j T Y hD0 ⟨rfl, S4, hT, hA4, hb4, hn4⟩ hfr hsub hnD hKd
            have hA6 : AtS Jx S l W (pre n i + j) (D :: ds) S4 Y := hA4.more (by omega) (fun h => hnD ((hT D).2 (.inl h))) (fun h => by have := hdl D h; omega) hKd
            clear hA4 hA5 hseq
            gi_wp2
            exact hA6.leaves HJX.out (by simp) (fun X hX => ⟨_, results_none rfl _ _ _, ⟨_, rfl⟩, .inr ⟨_, S4, hX.at_, hX.fr, hX.sub⟩⟩)
        · obtain rfl : i = kn := by omega
          have hneg : ¬ ((i : Int) < (i : Int)) := by omega
          gi_wp2
          have hN' := pre_all n (Nat.le_of_eq HKN.out.symm)
          rw [hN'] at hA3
          refine hA3.leaves HJ.out (by simp) (fun X hX => ⟨_, results_none rfl _ _ _, ⟨_, rfl⟩, .inl ⟨S3, hX.at_, hX.fr, hX.sub⟩⟩)
theorem all_fo (f : Fo TV) : ∀ m ∈ f.kids, AllP m := by
  induction f with
  | nl => simp [Fo.kids]
  | cons r s n ihs ihn =>
    intro m hm
    simp only [Fo.kids, List.mem_cons] at hm
    rcases hm with rfl | hm
    · exact all_node (r, s) ihs
    · exact ihn m hm
theorem all_seq (n : No TV) : AllP n := all_node n (all_fo n.2)
end Go.Proofs.Ytpnfkgjcnofjnaa.Ts
/- A tree's keys: names in small letters; the node of a name. -/
namespace Go.Proofs.Ytpnfkgjcnofjnaa.Ts
open Go.RowKit Go.Shelf Tr

theorem keyOf_any (s : ByteArray) (w : World) (hs : s.size ≤ 140737488355328) :
    Calls Try.prog 42 #[.string s] w fun e w' => e = .returned (.tuple #[.string ⟨(if isN s.data.toList then Nm.fold s.data.toList else []).toArray⟩, .bool (isN s.data.toList)]) ∧ Below w.heap.size w w' := by
  have HC := Lib.hid (Check_any s w hs)
  have HF := Lib.hid (fun w => Fold_any s w hs)
  unfold isN
  cases hn : (Nm.split s.data.toList).isSome with
  | false =>
    rw [hn] at HC
    clear hn
    go_enter Try.func42, Try.ntmps42
    go_wp2_with (go_at_call 72; refine HC.out.mono ?_; rintro e w1 ⟨rfl, hb1⟩)
    go_ret2
    exact ⟨rfl, hb1⟩
  | true =>
    rw [hn] at HC
    clear hn
    go_enter Try.func42, Try.ntmps42
    go_wp2_with (first | (go_at_call 72; refine HC.out.mono ?_; rintro e w1 ⟨rfl, hb1⟩) | (go_at_call 73; refine (HF.out _).mono ?_; rintro e w2 ⟨rfl, hb2⟩))
    go_ret2
    exact ⟨rfl, hb1.trans (hb2.mono hb1.size)⟩
theorem arr_list (l : List UInt8) : (⟨l.toArray⟩ : ByteArray).data.toList = l := by simp
theorem arr_size (l : List UInt8) : (⟨l.toArray⟩ : ByteArray).size = l.length := rfl
theorem fold_size (s : ByteArray) : (⟨(Nm.fold s.data.toList).toArray⟩ : ByteArray).size = s.size := by rw [arr_size, Nm.fold_length, Array.length_toList]; rfl
/-- a name's key and its labels. -/
theorem key_labels (s : ByteArray) (hs : s.size ≤ 140737488355328) (w : World) :
    Calls Try.prog 44 #[.string ⟨(Nm.fold s.data.toList).toArray⟩] w fun e w' => ∃ A c, e = .returned (.slice A (labelsOf (Nm.fold s.data.toList)).length c) ∧ Rd w' w'.heap.size (.slice A (labelsOf (Nm.fold s.data.toList)).length c) (labelsOf (Nm.fold s.data.toList)) ∧ (∀ g o, A = some ⟨g, o, none⟩ → w.heap.size ≤ g) ∧ Below w.heap.size w w' := by
  have h := Labels_any ⟨(Nm.fold s.data.toList).toArray⟩ w (by rw [fold_size]; exact hs)
  rw [arr_list] at h
  refine h.mono ?_
  rintro e w' ⟨v, rfl, hr, hb⟩
  have hrd := Rd.of_own hr
  obtain ⟨A, c, rfl⟩ := own_form hr
  refine ⟨A, c, rfl, hrd, fun g o hg => ?_, hb⟩
  rcases hr.2 with ⟨e0, _⟩ | ⟨g', cap, cur, e0, hb', _⟩
  · injection e0 with e1; rw [hg] at e1; cases e1
  · injection e0 with e1; rw [hg] at e1; injection e1 with e1; injection e1 with e1; omega
theorem getN_dep {q : List By} {n : No TV} : getN q n = if dep q n < q.length then none else some (atq q n) := by
  split
  · rename_i h
    have := getN_none q n q.length (Nat.le_refl _) h
    rwa [List.take_of_length_le (Nat.le_refl _)] at this
  · rename_i h
    have := getN_take q n q.length (by omega)
    rwa [List.take_of_length_le (Nat.le_refl _)] at this
/-- what find tells. -/
def FindR (w' : World) (sz b : Nat) (n : No TV) (F : List Nat) (s : By) (p : Value) : Prop :=
  match if isN s then getN (pth s) n else none with
  | none => p = .pointer none
  | some _ => ∃ t1 b1 A1 F1 B1, p = ptr b1 ∧ Lens w' (some sz) b n (pth s) t1 b1 A1 F1 B1 ∧ A1 ++ (F1 ++ B1) = F
theorem find_any {w : World} {sz b : Nat} {n : No TV} {F : List Nat} (h : NodeM w (some sz) b n F) (hok : ok n) (hN : (nents n).length ≤ 1099511627776) (s : ByteArray) (hs : s.size ≤ 140737488355328) :
    Calls Try.prog 67 #[ptr b, .string s] w fun e w' => ∃ p, e = .returned p ∧ FindR w' sz b n F s.data.toList p ∧ Below w.heap.size w w' := by
  have HK := Lib.hid (keyOf_any s w hs)
  have HL := Lib.hid (key_labels s hs)
  have H := Lib.hid h
  have HOK := Lib.hid hok
  have HN := Lib.hid hN
  unfold FindR
  cases hn : isN s.data.toList with
  | false =>
    simp only [hn, Bool.false_eq_true, if_false] at HK ⊢
    clear hn h hok hN
    go_enter Try.func67, Try.ntmps67
    go_wp2_with (go_at_call 42; refine HK.out.mono ?_; rintro e w1 ⟨rfl, hb1⟩)
    go_ret
    exact ⟨_, rfl, rfl, hb1⟩
  | true =>
    simp only [hn, if_true] at HK ⊢
    have hq : (labelsOf (Nm.fold s.data.toList)).reverse = pth s.data.toList := rfl
    have hfew := labs_few (Nm.fold s.data.toList)
    have hd := getN_dep (q := pth s.data.toList) (n := n)
    have hqe : (pth s.data.toList).length = (labelsOf (Nm.fold s.data.toList)).length := by unfold pth; simp
    generalize labelsOf (Nm.fold s.data.toList) = ls at *
    generalize pth s.data.toList = q at *
    have HDN := Lib.hid (fun (w1 : World) (A : Option Addr) (c : Nat) (hr : Rd w1 w1.heap.size (.slice A ls.length c) ls) (hb : Below w.heap.size w w1) => down_any (H.out.below hb (Nat.le_refl _)) hok hN hr (by omega))
    have hle := dep_le q n
    rw [hq] at HDN
    generalize hdp : dep q n = d at *
    generalize hgn : getN q n = g at *
    subst hd
    rw [hqe]
    by_cases hlt : d < ls.length
    · have hlt' : (d : Int) < (ls.length : Int) := by omega
      simp only [hlt, if_true]
      clear hn h hok hN hq hgn hdp
      go_enter Try.func67, Try.ntmps67
      go_wp2_with (first
        | (go_at_call 42; refine HK.out.mono ?_; rintro e w1 ⟨rfl, hb1⟩)
        | (go_at_call 44; refine (HL.out _).mono ?_; rintro e w2 ⟨A, c, rfl, hr2, _, hb2⟩; have HR2 := Lib.hid hr2; have hb12 := hb1.trans (hb2.mono hb1.size); clear hr2)
        | (go_at_call 70; refine (HDN.out _ _ _ HR2.out hb12).mono ?_; rintro e w3 ⟨t1, b1, A1, F1, B1, rfl, hL, hF, hb3⟩; have HL3 := Lib.hid hL; clear hL))
      go_ret
      exact ⟨_, rfl, rfl, hb12.trans (hb3.mono hb12.size)⟩
    · have hlt' : ¬ (d : Int) < (ls.length : Int) := by omega
      have hdq : q.take d = q := List.take_of_length_le (by omega)
      rw [hdq] at HDN
      simp only [hlt, if_false]
      clear hn h hok hN hq hgn hdp hdq
      go_enter Try.func67, Try.ntmps67
      go_wp2_with (first
        | (go_at_call 42; refine HK.out.mono ?_; rintro e w1 ⟨rfl, hb1⟩)
        | (go_at_call 44; refine (HL.out _).mono ?_; rintro e w2 ⟨A, c, rfl, hr2, _, hb2⟩; have HR2 := Lib.hid hr2; have hb12 := hb1.trans (hb2.mono hb1.size); clear hr2)
        | (go_at_call 70; refine (HDN.out _ _ _ HR2.out hb12).mono ?_; rintro e w3 ⟨t1, b1, A1, F1, B1, rfl, hL, hF, hb3⟩; have HL3 := Lib.hid hL; clear hL))
      go_ret
      exact ⟨_, rfl, ⟨t1, b1, A1, F1, B1, rfl, HL3.out, hF⟩, hb12.trans (hb3.mono hb12.size)⟩
end Go.Proofs.Ytpnfkgjcnofjnaa.Ts
/- A tree is asked: New, Len, Get, Exists, Encloser. -/
namespace Go.Proofs.Ytpnfkgjcnofjnaa.Ts
open Go.RowKit Go.Shelf Tr

/-- a tree at block b, its blocks F. -/
structure TM (w : World) (b : Nat) (n : No TV) (F : List Nat) : Prop where
  node : NodeM w (some (nents n).length) b n F
  nd : F.Nodup
  ok : ok n
  few : (nents n).length ≤ 1000000
theorem TM.below {w w' : World} {b : Nat} {n : No TV} {F : List Nat} {B : Nat} (h : TM w b n F) (hb : Below B w w') (hB : w.heap.size ≤ B) : TM w' b n F := ⟨h.node.below hb hB, h.nd, h.ok, h.few⟩
theorem TM.same {w w' : World} {b : Nat} {n : No TV} {F : List Nat} (h : TM w b n F) (hs : ∀ k ∈ F, w'.heap[k]? = w.heap[k]?) : TM w' b n F := ⟨h.node.same hs, h.nd, h.ok, h.few⟩
def rootN : No TV := (⟨[], [], [], false⟩, .nl)
theorem New_any (w : World) : Calls Try.prog 34 #[] w fun e w' => e = .returned (ptr w.heap.size) ∧ TM w' w.heap.size rootN [w.heap.size] ∧ Below w.heap.size w w' := by
  go_enter Try.func34, Try.ntmps34
  go_wp2
  go_ret
  exact ⟨rfl, ⟨⟨.slice none 0 0, [], [], rfl, Has.fresh _ _ _, ⟨by simp [ptrs], .inl ⟨rfl, rfl⟩⟩, rfl, rfl⟩, by simp, ⟨trivial, fun _ => ⟨rfl, rfl⟩⟩, by decide⟩, (Below.refl _ w).alloc (Nat.le_refl _) _⟩
theorem Len_any {w : World} {b : Nat} {n : No TV} {F : List Nat} (h : TM w b n F) : Calls Try.prog 36 #[ptr b] w fun e w' => e = .returned (.int .i64 ((nents n).length : Nat)) ∧ w' = w := by
  obtain ⟨kv, ks, F1, _, hb, _⟩ := h.node
  have c5 : w.cell? ⟨b, 5, none⟩ = some (.int .i64 ((nents n).length : Nat)) := by rw [hb.cell]; rfl
  go_enter Try.func36, Try.ntmps36
  go_wp2
  go_ret
  exact ⟨rfl, rfl⟩
/-- what Get tells. -/
def getR (n : No TV) (s : By) : Option (TV) := if isN s then (getE (pth s) (nents n)).map (·.v) else none
theorem getR_eq {n : No TV} (h : ok n) (s : By) : getR n s = match (if isN s then getN (pth s) n else none) with
    | none => none
    | some m => if m.1.held then some m.1.val else none := by
  unfold getR
  cases isN s with
  | false => rfl
  | true =>
    simp only [if_true]
    rw [get_ents h]
    cases getN (pth s) n with
    | none => rfl
    | some m => dsimp only; split <;> rfl
theorem Get_any {w : World} {b : Nat} {n : No TV} {F : List Nat} (h : TM w b n F) (s : ByteArray) (hs : s.size ≤ 140737488355328) :
    Calls Try.prog 37 #[ptr b, .string s] w fun e w' => e = .returned (.tuple #[tz ((getR n s.data.toList).getD []), .bool (getR n s.data.toList).isSome]) ∧ Below w.heap.size w w' := by
  have HF := Lib.hid (find_any h.node h.ok (Nat.le_trans h.few (by decide)) s hs)
  have hg := getR_eq h.ok s.data.toList
  unfold FindR at HF
  have hat : ∀ m, (if isN s.data.toList then getN (pth s.data.toList) n else none) = some m → atq (pth s.data.toList) n = m := fun m hm => by
    split at hm
    · exact atq_getN hm
    · cases hm
  generalize (if isN s.data.toList then getN (pth s.data.toList) n else none) = g at *
  rw [hg]
  cases g with
  | none =>
    simp only at HF hg ⊢
    clear hat hg
    go_enter Try.func37, Try.ntmps37
    go_wp2_with (go_at_call 67; refine HF.out.mono ?_; rintro e w1 ⟨p, rfl, rfl, hb1⟩)
    go_ret2
    exact ⟨rfl, hb1⟩
  | some m =>
    have hm := hat m rfl
    have hok := ok_atq (pth s.data.toList) h.ok
    rw [hm] at hok
    have e1 : ((if m.1.held then some m.1.val else none).getD [] : TV) = m.1.val := by
      cases hh : m.1.held with
      | true => rfl
      | false => exact (hok.2 hh).2.symm
    have e2 : (if m.1.held then some m.1.val else none).isSome = m.1.held := by cases m.1.held <;> rfl
    simp only [e1, e2] at HF hg ⊢
    clear hat hg e1 e2 hok
    go_enter Try.func37, Try.ntmps37
    go_wp2_with (go_at_call 67; refine HF.out.mono ?_; rintro e w1 ⟨p, rfl, ⟨t1, b1, A1, F1, B1, rfl, hL, hF⟩, hb1⟩; obtain ⟨kv, ks, G, _, hbk, _⟩ := hL.node; rw [hm] at hbk; have c2 : w1.cell? ⟨b1, 2, none⟩ = some (tz m.1.val) := (by rw [hbk.cell]; cases t1 <;> rfl); have c3 : w1.cell? ⟨b1, 3, none⟩ = some (.bool m.1.held) := (by rw [hbk.cell]; cases t1 <;> rfl); clear hbk hL hF)
    go_region
    go_wp2
    go_ret2
    exact ⟨rfl, hb1.drew⟩
theorem Exists_any {w : World} {b : Nat} {n : No TV} {F : List Nat} (h : TM w b n F) (s : ByteArray) (hs : s.size ≤ 140737488355328) :
    Calls Try.prog 39 #[ptr b, .string s] w fun e w' => e = .returned (.bool (isN s.data.toList && exE (pth s.data.toList) (nents n))) ∧ Below w.heap.size w w' := by
  have HF := Lib.hid (find_any h.node h.ok (Nat.le_trans h.few (by decide)) s hs)
  have hg : (isN s.data.toList && exE (pth s.data.toList) (nents n)) = match (if isN s.data.toList then getN (pth s.data.toList) n else none) with
      | none => false
      | some m => !bare m := by
    rw [ex_ents h.ok]
    cases isN s.data.toList with
    | false => rfl
    | true => simp only [Bool.true_and, if_true]; cases getN (pth s.data.toList) n <;> rfl
  unfold FindR at HF
  have hat : ∀ m, (if isN s.data.toList then getN (pth s.data.toList) n else none) = some m → atq (pth s.data.toList) n = m := fun m hm => by
    split at hm
    · exact atq_getN hm
    · cases hm
  generalize (if isN s.data.toList then getN (pth s.data.toList) n else none) = g at *
  rw [hg]
  cases g with
  | none =>
    simp only at HF hg ⊢
    clear hat hg
    go_enter Try.func39, Try.ntmps39
    go_wp2_with (go_at_call 67; refine HF.out.mono ?_; rintro e w1 ⟨p, rfl, rfl, hb1⟩)
    go_ret
    exact ⟨rfl, hb1⟩
  | some m =>
    have hm := hat m rfl
    simp only at HF hg ⊢
    clear hat hg
    generalize hbm : (!bare m) = bm
    go_enter Try.func39, Try.ntmps39
    go_wp2_with (first
      | (go_at_call 67; refine HF.out.mono ?_; rintro e w1 ⟨p, rfl, ⟨t1, b1, A1, F1, B1, rfl, hL, hF⟩, hb1⟩; have HND := Lib.hid hL.node; rw [hm] at HND; clear hL hF)
      | (go_at_call 69; refine (bare_any HND.out).mono ?_; rintro e w3 ⟨rfl, rfl⟩))
    go_ret
    exact ⟨by rw [← hbm]; rfl, hb1⟩
end Go.Proofs.Ytpnfkgjcnofjnaa.Ts
/- A tree is asked for what encloses a name. -/
namespace Go.Proofs.Ytpnfkgjcnofjnaa.Ts
open Go.RowKit Go.Shelf Tr

/-- what Encloser tells. -/
def encR (n : No TV) (s : By) : Option By := if isN s && !(nents n).isEmpty then some (Nm.glue ((pth s).take (dep (pth s) n)).reverse) else none
def optB (o : Option By) : Value := .tuple #[.string ⟨(o.getD []).toArray⟩, .bool o.isSome]
theorem last_of_key {s : By} (h : isN s = true) {k : Nat} (hk : k ≤ (pth s).length) : lastR (Nm.fold s) (k : Int) = optB (some (Nm.glue ((pth s).take k).reverse)) := by
  obtain ⟨ls, hs⟩ := Option.isSome_iff_exists.1 h
  have hf := split_fold hs
  have hl : (pth s).length = (ls.map Nm.fold).length := by rw [pth_of hs]; simp
  rw [lastR]
  simp only [hf]
  rw [if_neg (by omega)]
  unfold yes_ optB
  rw [pth_of hs, List.take_reverse, List.reverse_reverse, hl.symm]
  simp [hl]
set_option maxRecDepth 100000 in
set_option maxHeartbeats 1000000 in
theorem Encloser_any {w : World} {b : Nat} {n : No TV} {F : List Nat} (h : TM w b n F) (s : ByteArray) (hs : s.size ≤ 140737488355328) :
    Calls Try.prog 40 #[ptr b, .string s] w fun e w' => e = .returned (optB (encR n s.data.toList)) ∧ Below w.heap.size w w' := by
  have HK := Lib.hid (keyOf_any s w hs)
  have HL := Lib.hid (key_labels s hs)
  have H := Lib.hid h
  obtain ⟨z, hz⟩ : ∃ z, (nents n).length = z := ⟨_, rfl⟩
  have HLN := Lib.hid (fun (w1 : World) (hb : Below w.heap.size w w1) => Len_any (h.below hb (Nat.le_refl _)))
  rw [hz] at HLN
  have hemp : (nents n).isEmpty = decide (z = 0) := by rw [← hz]; cases nents n <;> simp
  cases hn : isN s.data.toList with
  | false =>
    have he : encR n s.data.toList = none := by simp [encR, hn]
    rw [he]
    simp only [hn, Bool.false_eq_true, if_false] at HK
    clear hn h hz hemp
    by_cases h0 : z = 0
    · subst h0
      go_enter Try.func40, Try.ntmps40
      go_wp2_with (first
        | (go_at_call 42; refine HK.out.mono ?_; rintro e w1 ⟨rfl, hb1⟩)
        | (go_at_call 36; refine (HLN.out _ hb1).mono ?_; rintro e w2 ⟨rfl, rfl⟩))
      go_ret2
      exact ⟨rfl, hb1⟩
    · have h0' : ((z : Int) == 0) = false := beq_eq_false_iff_ne.2 (by omega)
      go_enter Try.func40, Try.ntmps40
      go_wp2_with (first
        | (go_at_call 42; refine HK.out.mono ?_; rintro e w1 ⟨rfl, hb1⟩)
        | (go_at_call 36; refine (HLN.out _ hb1).mono ?_; rintro e w2 ⟨rfl, rfl⟩))
      go_ret2
      exact ⟨rfl, hb1⟩
  | true =>
    simp only [hn, if_true] at HK
    by_cases h0 : z = 0
    · have he : encR n s.data.toList = none := by simp [encR, hemp, h0]
      rw [he]
      subst h0
      clear hn h hz hemp
      go_enter Try.func40, Try.ntmps40
      go_wp2_with (first
        | (go_at_call 42; refine HK.out.mono ?_; rintro e w1 ⟨rfl, hb1⟩)
        | (go_at_call 36; refine (HLN.out _ hb1).mono ?_; rintro e w2 ⟨rfl, rfl⟩))
      go_ret2
      exact ⟨rfl, hb1⟩
    · have he : encR n s.data.toList = some (Nm.glue ((pth s.data.toList).take (dep (pth s.data.toList) n)).reverse) := by simp [encR, hn, hemp, h0]
      rw [he]
      have h0' : ((z : Int) == 0) = false := beq_eq_false_iff_ne.2 (by omega)
      have hle := dep_le (pth s.data.toList) n
      have HLA := Lib.hid (fun w => Last_any ⟨(Nm.fold s.data.toList).toArray⟩ (dep (pth s.data.toList) n : Nat) w (by rw [fold_size]; exact hs))
      rw [arr_list, last_of_key hn hle] at HLA
      simp only [optB, Option.getD_some, Option.isSome_some] at HLA
      have hq : (labelsOf (Nm.fold s.data.toList)).reverse = pth s.data.toList := rfl
      have hfew := labs_few (Nm.fold s.data.toList)
      generalize labelsOf (Nm.fold s.data.toList) = ls at *
      have HDN := Lib.hid (fun (w1 : World) (A : Option Addr) (c : Nat) (hr : Rd w1 w1.heap.size (.slice A ls.length c) ls) (hb : Below w.heap.size w w1) => down_any (h.node.below hb (Nat.le_refl _)) h.ok (Nat.le_trans h.few (by decide)) hr (by omega))
      rw [hq] at HDN
      generalize Nm.glue ((pth s.data.toList).take (dep (pth s.data.toList) n)).reverse = r at *
      generalize pth s.data.toList = q at *
      generalize dep q n = d at *
      obtain ⟨z', hz'⟩ : ∃ z' : Option Nat, z' = some (nents n).length := ⟨_, rfl⟩
      rw [← hz'] at HDN
      clear hn h hz hemp he hz' hle hq hfew
      go_enter Try.func40, Try.ntmps40
      go_wp2_with (first
        | (go_at_call 42; refine HK.out.mono ?_; rintro e w1 ⟨rfl, hb1⟩)
        | (go_at_call 36; refine (HLN.out _ hb1).mono ?_; rintro e w2 ⟨rfl, rfl⟩))
      have hb1d := hb1.drew
      go_region_with (first
        | (go_at_call 44; refine (HL.out _).mono ?_; rintro e w3 ⟨A, c, rfl, hr2, _, hb2⟩; have HR2 := Lib.hid hr2; have hb12 := hb1d.trans (hb2.mono hb1.size); clear hr2)
        | (go_at_call 70; refine (HDN.out _ _ _ HR2.out hb12).mono ?_; rintro e w4 ⟨t1, b1, A1, F1, B1, rfl, _, _, hb3⟩; have hb14 := hb12.trans (hb3.mono hb12.size)))
      go_wp2_with (go_at_call 62; refine (HLA.out _).mono ?_; rintro e w5 ⟨rfl, hb5⟩)
      go_ret2
      exact ⟨rfl, hb14.trans (hb5.mono hb14.size)⟩
end Go.Proofs.Ytpnfkgjcnofjnaa.Ts
