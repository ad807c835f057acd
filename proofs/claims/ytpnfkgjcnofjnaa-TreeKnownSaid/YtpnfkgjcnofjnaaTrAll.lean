/- All that a node's keys tell, in order: the program's iterator. -/
import Derived.Test.YtpnfkgjcnofjnaaTrAllP
import Derived.Test.YtpnfkgjcnofjnaaHeldIn
namespace Go.Proofs.Ytpnfkgjcnofjnaa.Ti
open Go.RowKit Go.Shelf Tr
attribute [local go_sem] Oper.semAt_some

theorem allS_on {F : Fence} {n : Nat} {P : Program} {md : Region.Mode} {ops : Array Oper} {Q : Exit → Act → World → Prop} {S : World → Prop} {fuel : Nat} {listed : Array Bool} {a : Act} {w : World} {i : Nat} {o : Oper} {rs : List Nat} (ho : ops[i]? = some o) (hg : Region.wanted o (yielded ops a.tmps) = true)
    (h : ∀ K' : Act → World → Prop, (∀ a w, S w → wpAnyS F n P md ops Q S fuel (listed.setIfInBounds i true) a w → K' a w) → Oper.wpIn F n P o a w K' Q)
    (hs : AllS F n P md ops Q S fuel listed a w rs) : AllS F n P md ops Q S fuel listed a w (i :: rs) := fun j hj => by
  rcases List.mem_cons.1 hj with rfl | hj
  · exact wpOpIn_step ho (fun K' hK => by simp only [hg, if_true]; exact h K' (fun a w hS hW => hK a w ⟨hS, hW⟩))
  · exact hs j hj
def encL (L : List (By × TV)) (i : Nat) : Array Value := #[sv (L.getD i ([], 0)).1, tz (L.getD i ([], 0)).2]
theorem encL_at {L M : List (By × TV)} {i j : Nat} (h : L[i]? = M[j]?) : encL L i = encL M j := by
  simp [encL, List.getD, h]
/-- what the iterator reads. -/
def AllD (bx b : Nat) (F : List Nat) (w0 W : World) : Prop := Has W bx 73 #[ptr b] ∧ ∀ k ∈ F, W.heap[k]? = w0.heap[k]?
theorem all_any (b : Nat) (w : World) :
    Calls Try.prog 83 #[ptr b] w fun e w' => e = .returned (.func (.func 97) #[] #[.pointer (some ⟨w.heap.size, 0, none⟩)]) ∧ w' = w.alloc (.cells #[ptr b] 73) := by
  go_enter Try.func83, Try.ntmps83
  go_wp2
  go_ret
  exact ⟨rfl, rfl⟩
def AllP (n : No TV) : Prop := ∀ (m : Nat) (w0 w : World) (top : Option Nat) (b bx : Nat) (F : List Nat), NodeM w0 top b n F → n.2.ok → (nkv n).length ≤ 1099511627776 →
  SeqS Fence.wide m Try.prog 97 #[.pointer (some ⟨bx, 0, none⟩)] (encL (nkv n)) (AllD bx b F w0) (nkv n).length w
/-- between two things: k things are told. -/
structure AtS (J : Nat → Bl → World → Prop) (S : Bl) (l : Nat) (W : World) (k : Nat) (ds : List Nat) (S' : Bl) (W' : World) : Prop where
  at_ : J k S' W'
  fr : FrS (fun j => S j ∨ j = l) W W'
  sub : ∀ j, S' j → S j ∨ W.heap.size ≤ j
  box : Has W' W.heap.size 77 #[.func (.yield l) #[] #[]]
  own : ¬ S' W.heap.size
  nd : ds.Nodup
  mks : ∀ D ∈ ds, W.heap.size < D ∧ ¬ S' D ∧ W'.heap[D]? = some (.deferred (some []))
/-- behind the first region. -/
def AllQ (J Jx : Nat → Bl → World → Prop) (S : Bl) (l : Nat) (W : World) (k bx : Nat) (e : Exit) (a : Act) (W' : World) : Prop :=
  e = .normal ∧ ∃ u7 u8 u9 u10 u11 u12 u13 u14 u15 u16 u17 u18 u19 u20 u21 u22, ∃ bd, a = { tmps := #[.func (.yield l) #[] #[], .pointer (some ⟨bx, 0, none⟩), .pointer (some ⟨W.heap.size, 0, none⟩), undef, undef, undef, undef, u7, u8, u9, u10, u11, u12, u13, u14, u15, u16, u17, u18, u19, u20, u21, u22, .bool bd, undef, undef, undef, undef, undef, undef, undef, undef, undef, undef, undef, undef, undef, undef, undef, undef, undef, undef, undef], defers := [] } ∧
    (bd = false → ∃ S', AtS J S l W k [] S' W') ∧ (bd = true → ∃ i S', AtS Jx S l W i [] S' W')
theorem AtS.drew {J : Nat → Bl → World → Prop} {S : Bl} {l : Nat} {W : World} {k : Nat} {ds : List Nat} {S' : Bl} {W' : World} (h : AtS J S l W k ds S' W') (hJ : Abides W.heap.size J) : AtS J S l W k ds S' W'.drew :=
  ⟨hJ _ _ _ _ h.at_ Chg.drew, h.fr.drew, h.sub, h.box, h.own, h.nd, h.mks⟩
theorem AtS.step {J J2 : Nat → Bl → World → Prop} {S : Bl} {l : Nat} {W : World} {k k2 : Nat} {ds : List Nat} {S' S2 : Bl} {W' W2 : World} (h : AtS J S l W k ds S' W') (hl : l < W.heap.size) (hj : J2 k2 S2 W2) (hf : FrS (fun j => S' j ∨ j = l) W' W2) (hs : ∀ j, S2 j → S' j ∨ W'.heap.size ≤ j) : AtS J2 S l W k2 ds S2 W2 := by
  have hz := h.fr.size
  have hB := h.box.lt
  refine ⟨hj, h.fr.trans hf (fun i hi => ?_), fun j hj => ?_, hf.has (fun hi => ?_) h.box, fun hi => ?_, h.nd, fun D hD => ?_⟩
  · rcases hi with hi | hi
    · rcases h.sub i hi with h1 | h1
      · exact .inl (.inl h1)
      · exact .inr h1
    · exact .inl (.inr hi)
  · rcases hs j hj with h1 | h1
    · exact h.sub j h1
    · exact .inr (by omega)
  · rcases hi with hi | hi
    · exact h.own hi
    · omega
  · rcases hs _ hi with h1 | h1
    · exact h.own h1
    · omega
  · obtain ⟨h1, h2, h3⟩ := h.mks D hD
    have hlt := (Array.getElem?_eq_some_iff.1 h3).1
    refine ⟨h1, fun hi => ?_, (hf.block D hlt (fun hi => ?_)).trans h3⟩
    · rcases hs _ hi with h1 | h1
      · exact h2 h1
      · omega
    · rcases hi with hi | hi
      · exact h2 hi
      · omega
section
variable {J : Nat → Bl → World → Prop} {S : Bl} {l : Nat} {W : World} {k : Nat} {ds : List Nat} {S' : Bl} {W' : World}
theorem AtS.nil (h : AtS J S l W k ds S' W') : AtS J S l W k [] S' W' := ⟨h.at_, h.fr, h.sub, h.box, h.own, List.nodup_nil, by simp⟩
theorem AtS.chg {n : Nat} {X : World} (h : AtS J S l W k ds S' W') (hJ : Abides W.heap.size J) (hc : Chg n S' W' X) (hn : W.heap.size < n) (hd : ∀ D ∈ ds, D < n) : AtS J S l W k ds S' X :=
  ⟨hJ _ _ _ _ h.at_ (hc.mono (by omega) fun _ h => h), ⟨hc.os.trans h.fr.os, hc.tape.trans h.fr.tape, hc.output.trans h.fr.output, Nat.le_trans h.fr.size hc.size, fun i hi hS => (hc.block i (Nat.lt_of_lt_of_le hi h.fr.size) (.inl (by omega))).trans (h.fr.block i hi hS)⟩, h.sub,
   (hc.block _ h.box.lt (.inl hn)).trans h.box, h.own, h.nd, fun D hD => ⟨(h.mks D hD).1, (h.mks D hD).2.1, (hc.block D (Array.getElem?_eq_some_iff.1 (h.mks D hD).2.2).1 (.inl (hd D hD))).trans (h.mks D hD).2.2⟩⟩
theorem AtS.shut (h : AtS J S l W k [] S' W') (hJ : Abides W.heap.size J) {D : Nat} (hD : W.heap.size < D) (hn : ¬ S' D) (o : Obj) : AtS J S l W k [] S' (W'.putObj D o) := by
  have hc : Chg (W.heap.size + 1) S' W' (W'.putObj D o) := Chg.putObj o (by omega) hn
  exact h.chg hJ hc (by omega) (by simp)
theorem AtS.more {D : Nat} (h : AtS J S l W k ds S' W') (hD : W.heap.size < D) (hn : ¬ S' D) (hd : D ∉ ds) (hk : W'.heap[D]? = some (.deferred (some []))) : AtS J S l W k (D :: ds) S' W' :=
  ⟨h.at_, h.fr, h.sub, h.box, h.own, List.nodup_cons.2 ⟨hd, h.nd⟩, fun E hE => by
    rcases List.mem_cons.1 hE with rfl | hE
    · exact ⟨hD, hn, hk⟩
    · exact h.mks E hE⟩
theorem AtS.ds_lt (h : AtS J S l W k ds S' W') : ∀ D ∈ ds, D < W'.heap.size := fun D hD => (Array.getElem?_eq_some_iff.1 (h.mks D hD).2.2).1
/-- the function is left: the marks are shut. -/
theorem AtS.leaves {F : Fence} {n : Nat} {P : Program} {fn : Func} {tmps : Array Value} {R : Ending → World → Prop} {u : FrameMode} (h : AtS J S l W k ds S' W') (hJ : Abides W.heap.size J) (hu : u ≠ .run) (hR : ∀ X, AtS J S l W k [] S' X → LeavesInM F n P fn tmps R [] u X) : LeavesInM F n P fn tmps R (ds.map mark) u W' :=
  leaves_marks (fun X => AtS J S l W k [] S' X) ds W' hu h.nd (fun D hD => (h.mks D hD).2.2) h.nil (fun D hD _ hA => hA.shut hJ (h.mks D hD).1 (h.mks D hD).2.1 _) hR
end
set_option maxRecDepth 100000 in
set_option maxHeartbeats 2000000 in
theorem all_node (n : No TV) (ih : ∀ m ∈ n.2.kids, AllP m) : AllP n := by
  intro m0 w0 w top b bx F h hok hN l J Jx W S hbel hl hJ hJx hD hDx hS hY h0
  have HS := Lib.hid hS
  obtain ⟨kv, ks, F1, hF, hb, hr, hk⟩ := h
  refine callsIn_any (n := 9) ?_
  obtain ⟨A, c, hkv⟩ := own_form hr
  subst hkv
  have hkn := hk.len
  generalize hkl : ks.length = kn at *
  have HKN := Lib.hid hkn
  have HKL := Lib.hid hkl
  clear hkn hkl
  have hbF : b ∈ F := by rw [hF]; simp
  have HY := Lib.hid (fun i S W1 h hi => yieldAt_wide 8 (hY i S W1 h hi))
  have HD := Lib.hid hD
  have HDX := Lib.hid hDx
  have HJ := Lib.hid hJ
  have HJX := Lib.hid hJx
  have H0 := Lib.hid h0
  have hc : ∀ {X : World}, AllD bx b F w0 X → X.cell? ⟨bx, 0, none⟩ = some (ptr b) ∧ X.cell? ⟨b, 1, none⟩ = some (sv n.1.key) ∧ X.cell? ⟨b, 2, none⟩ = some (tz n.1.val) ∧ X.cell? ⟨b, 3, none⟩ = some (.bool n.1.held) ∧ X.cell? ⟨b, 4, none⟩ = some (.slice A kn c) := fun hX => by
    have hb' : Has _ b (nty top) _ := (hX.2 b hbF).trans hb
    refine ⟨by rw [hX.1.cell]; rfl, ?_, ?_, ?_, ?_⟩ <;> (rw [hb'.cell]; cases top <;> rfl)
  obtain ⟨W1, hW1⟩ : ∃ W1, W1 = W.alloc (.cells #[.func (.yield l) #[] #[]] 77) := ⟨_, rfl⟩
  have h1 : J 0 S W1 := by rw [hW1]; exact hJ _ _ _ _ h0 (Chg.alloc _)
  have hx1 : Has W1 W.heap.size 77 #[.func (.yield l) #[] #[]] := by rw [hW1]; exact Has.fresh _ _ _
  have hf1 : FrS (fun j => S j ∨ j = l) W W1 := by rw [hW1]; exact FrS.of_below ((Below.refl _ W).alloc (Nat.le_refl _) _) (Nat.le_refl _) _
  have HA := Lib.hid (show AtS J S l W 0 [] S W1 from ⟨h1, hf1, fun j hj => .inl hj, hx1, fun hj => by have := hS _ _ _ h0 _ hj; omega, List.nodup_nil, by simp⟩)
  obtain ⟨c00, c01, c02, c03, c04⟩ := hc (hD _ _ _ h1)
  have cx : W1.cell? ⟨W.heap.size, 0, none⟩ = some (.func (.yield l) #[] #[]) := by rw [hx1.cell]; rfl
  clear hY hD hDx hJ hJx hS h0 h1 hx1 hf1
  refine callsIn_of_wp_marks Try.func97 rfl trivial ?_ rfl
  simp only [Try.ntmps97, List.size_toArray, List.length_cons, List.length_nil, Nat.reduceAdd, Nat.reduceSub, Array.replicate_succ, Array.replicate_zero, List.push_toArray, List.append_toArray, List.nil_append, List.cons_append]
  gi_wp2
  rw [← hW1]
  have mixed : Try.prog.follows .mixedOrders = true := by kernel_rfl
  refine wpIn_mono (Q := AllQ J Jx S l W (kvo n.1).length bx) ?_ ?_
  · cases hh : n.1.held with
    | false =>
      rw [hh] at c03
      have hk0 : (kvo n.1).length = 0 := by simp [kvo, hh]
      rw [hk0]
      clear hW1
      have hS0 : (fun X : World => X.cell? ⟨bx, 0, none⟩ = some (ptr b) ∧ X.cell? ⟨b, 1, none⟩ = some (sv n.1.key) ∧ X.cell? ⟨b, 2, none⟩ = some (tz n.1.val) ∧ X.cell? ⟨b, 3, none⟩ = some (.bool false) ∧ X.cell? ⟨W.heap.size, 0, none⟩ = some (.func (.yield l) #[] #[])) W1.drew := ⟨c00, c01, c02, c03, cx⟩
      refine wpIn_region_S2 (S := (fun X : World => X.cell? ⟨bx, 0, none⟩ = some (ptr b) ∧ X.cell? ⟨b, 1, none⟩ = some (sv n.1.key) ∧ X.cell? ⟨b, 2, none⟩ = some (tz n.1.val) ∧ X.cell? ⟨b, 3, none⟩ = some (.bool false) ∧ X.cell? ⟨W.heap.size, 0, none⟩ = some (.func (.yield l) #[] #[]))) mixed 17 #[false, false, false, false, false, false, false, false, false, false, false, false, false, false, false, false, false] rfl rfl ?_
      refine wpAnyS_take (i := 0) (v := ptr b) rfl (by kernel_rfl) (by kernel_rfl) (by kernel_rfl) (by kernel_rfl) (fun _ _ _ h => by cases h.1) ⟨Or.inl ⟨by rfl, fun W' hW' => (by have := hW'.1; go_simp)⟩, rfl, fun _ => rfl⟩ hS0 ?_
      simp only [Act.put, List.getElem_toArray, List.getElem_cons_zero, List.setIfInBounds_toArray, List.set_cons_zero, List.set_cons_succ]
      refine wpAnyS_take (i := 1) (v := ptr b) rfl (by kernel_rfl) (by kernel_rfl) (by kernel_rfl) (by kernel_rfl) (fun _ _ _ h => by cases h.1) ⟨Or.inl ⟨by rfl, fun W' hW' => (by go_simp)⟩, rfl, fun _ => rfl⟩ hS0 ?_
      simp only [Act.put, List.getElem_toArray, List.getElem_cons_zero, List.getElem_cons_succ, List.setIfInBounds_toArray, List.set_cons_zero, List.set_cons_succ]
      refine wpAnyS_take (i := 2) (v := .pointer (some ⟨b, 3, none⟩)) rfl (by kernel_rfl) (by kernel_rfl) (by kernel_rfl) (by kernel_rfl) (fun _ _ _ h => by cases h.1) ⟨Or.inl ⟨by rfl, fun W' hW' => (by go_simp)⟩, rfl, fun _ => rfl⟩ hS0 ?_
      simp only [Act.put, List.getElem_toArray, List.getElem_cons_zero, List.getElem_cons_succ, List.setIfInBounds_toArray, List.set_cons_zero, List.set_cons_succ]
      refine wpAnyS_take (i := 3) (v := .bool false) rfl (by kernel_rfl) (by kernel_rfl) (by kernel_rfl) (by kernel_rfl) (fun _ _ _ h => by cases h.1) ⟨Or.inl ⟨by rfl, fun W' hW' => (by have := hW'.2.2.2.1; go_simp)⟩, rfl, fun _ => rfl⟩ hS0 ?_
      simp only [Act.put, List.getElem_toArray, List.getElem_cons_zero, List.getElem_cons_succ, List.setIfInBounds_toArray, List.set_cons_zero, List.set_cons_succ]
      refine wpAnyS_take (i := 4) (v := .bool false) rfl (by kernel_rfl) (by kernel_rfl) (by kernel_rfl) (by kernel_rfl) (fun _ _ _ h => by cases h.1) ⟨Or.inl ⟨by rfl, fun W' hW' => (by go_simp)⟩, rfl, fun _ => rfl⟩ hS0 ?_
      simp only [Act.put, List.getElem_toArray, List.getElem_cons_zero, List.getElem_cons_succ, List.setIfInBounds_toArray, List.set_cons_zero, List.set_cons_succ]
      refine wpAnyS_take (i := 5) (v := undef) rfl (by kernel_rfl) (by kernel_rfl) (by kernel_rfl) (by kernel_rfl) (fun _ _ _ h => by cases h.1) ⟨Or.inr ⟨by rfl, rfl⟩, rfl, fun _ => rfl⟩ hS0 ?_
      simp only [Act.put, List.getElem_toArray, List.getElem_cons_zero, List.getElem_cons_succ, List.setIfInBounds_toArray, List.set_cons_zero, List.set_cons_succ]
      refine wpAnyS_take (i := 6) (v := undef) rfl (by kernel_rfl) (by kernel_rfl) (by kernel_rfl) (by kernel_rfl) (fun _ _ _ h => by cases h.1) ⟨Or.inr ⟨by rfl, rfl⟩, rfl, fun _ => rfl⟩ hS0 ?_
      simp only [Act.put, List.getElem_toArray, List.getElem_cons_zero, List.getElem_cons_succ, List.setIfInBounds_toArray, List.set_cons_zero, List.set_cons_succ]
      refine wpAnyS_take (i := 7) (v := undef) rfl (by kernel_rfl) (by kernel_rfl) (by kernel_rfl) (by kernel_rfl) (fun _ _ _ h => by cases h.1) ⟨Or.inr ⟨by rfl, rfl⟩, rfl, fun _ => rfl⟩ hS0 ?_
      simp only [Act.put, List.getElem_toArray, List.getElem_cons_zero, List.getElem_cons_succ, List.setIfInBounds_toArray, List.set_cons_zero, List.set_cons_succ]
      refine wpAnyS_take (i := 8) (v := undef) rfl (by kernel_rfl) (by kernel_rfl) (by kernel_rfl) (by kernel_rfl) (fun _ _ _ h => by cases h.1) ⟨Or.inr ⟨by rfl, rfl⟩, rfl, fun _ => rfl⟩ hS0 ?_
      simp only [Act.put, List.getElem_toArray, List.getElem_cons_zero, List.getElem_cons_succ, List.setIfInBounds_toArray, List.set_cons_zero, List.set_cons_succ]
      refine wpAnyS_take (i := 9) (v := undef) rfl (by kernel_rfl) (by kernel_rfl) (by kernel_rfl) (by kernel_rfl) (fun _ _ _ h => by cases h.1) ⟨Or.inr ⟨by rfl, rfl⟩, rfl, fun _ => rfl⟩ hS0 ?_
      simp only [Act.put, List.getElem_toArray, List.getElem_cons_zero, List.getElem_cons_succ, List.setIfInBounds_toArray, List.set_cons_zero, List.set_cons_succ]
      refine wpAnyS_take (i := 10) (v := undef) rfl (by kernel_rfl) (by kernel_rfl) (by kernel_rfl) (by kernel_rfl) (fun _ _ _ h => by cases h.1) ⟨Or.inr ⟨by rfl, rfl⟩, rfl, fun _ => rfl⟩ hS0 ?_
      simp only [Act.put, List.getElem_toArray, List.getElem_cons_zero, List.getElem_cons_succ, List.setIfInBounds_toArray, List.set_cons_zero, List.set_cons_succ]
      refine wpAnyS_take (i := 11) (v := undef) rfl (by kernel_rfl) (by kernel_rfl) (by kernel_rfl) (by kernel_rfl) (fun _ _ _ h => by cases h.1) ⟨Or.inr ⟨by rfl, rfl⟩, rfl, fun _ => rfl⟩ hS0 ?_
      simp only [Act.put, List.getElem_toArray, List.getElem_cons_zero, List.getElem_cons_succ, List.setIfInBounds_toArray, List.set_cons_zero, List.set_cons_succ]
      refine wpAnyS_take (i := 12) (v := undef) rfl (by kernel_rfl) (by kernel_rfl) (by kernel_rfl) (by kernel_rfl) (fun _ _ _ h => by cases h.1) ⟨Or.inr ⟨by rfl, rfl⟩, rfl, fun _ => rfl⟩ hS0 ?_
      simp only [Act.put, List.getElem_toArray, List.getElem_cons_zero, List.getElem_cons_succ, List.setIfInBounds_toArray, List.set_cons_zero, List.set_cons_succ]
      refine wpAnyS_take (i := 13) (v := undef) rfl (by kernel_rfl) (by kernel_rfl) (by kernel_rfl) (by kernel_rfl) (fun _ _ _ h => by cases h.1) ⟨Or.inr ⟨by rfl, rfl⟩, rfl, fun _ => rfl⟩ hS0 ?_
      simp only [Act.put, List.getElem_toArray, List.getElem_cons_zero, List.getElem_cons_succ, List.setIfInBounds_toArray, List.set_cons_zero, List.set_cons_succ]
      refine wpAnyS_take (i := 14) (v := undef) rfl (by kernel_rfl) (by kernel_rfl) (by kernel_rfl) (by kernel_rfl) (fun _ _ _ h => by cases h.1) ⟨Or.inr ⟨by rfl, rfl⟩, rfl, fun _ => rfl⟩ hS0 ?_
      simp only [Act.put, List.getElem_toArray, List.getElem_cons_zero, List.getElem_cons_succ, List.setIfInBounds_toArray, List.set_cons_zero, List.set_cons_succ]
      refine wpAnyS_take (i := 15) (v := undef) rfl (by kernel_rfl) (by kernel_rfl) (by kernel_rfl) (by kernel_rfl) (fun _ _ _ h => by cases h.1) ⟨Or.inr ⟨by rfl, rfl⟩, rfl, fun _ => rfl⟩ hS0 ?_
      simp only [Act.put, List.getElem_toArray, List.getElem_cons_zero, List.getElem_cons_succ, List.setIfInBounds_toArray, List.set_cons_zero, List.set_cons_succ]
      refine wpAnyS_take (i := 16) (v := .bool false) rfl (by kernel_rfl) (by kernel_rfl) (by kernel_rfl) (by kernel_rfl) (fun _ _ _ h => by cases h.1) ⟨Or.inl ⟨by rfl, fun W' hW' => (by go_simp)⟩, rfl, fun _ => rfl⟩ hS0 ?_
      simp only [Act.put, List.getElem_toArray, List.getElem_cons_zero, List.getElem_cons_succ, List.setIfInBounds_toArray, List.set_cons_zero, List.set_cons_succ]
      refine wpAnyS_done (by kernel_rfl) ?_ _
      exact ⟨rfl, _, _, _, _, _, _, _, _, _, _, _, _, _, _, _, _, _, rfl, fun _ => ⟨S, HA.out.drew HJ.out⟩, fun h => by cases h⟩
    | true =>
      rw [hh] at c03
      have hk0 : kvo n.1 = [(n.1.key, n.1.val)] := by simp [kvo, hh]
      have he : encL (nkv n) 0 = #[sv n.1.key, tz n.1.val] := by simp [encL, nkv, hk0]
      have hl0 : 0 < (nkv n).length := by simp [nkv, hk0]
      rw [hk0]
      have hY := HY.out 0 S W1.drew (HA.out.drew HJ.out).at_ hl0
      rw [he] at hY
      obtain ⟨fn, tmps, assign, body, hy, hR⟩ := hY
      clear hW1
      have hS0 : (fun X : World => X.cell? ⟨bx, 0, none⟩ = some (ptr b) ∧ X.cell? ⟨b, 1, none⟩ = some (sv n.1.key) ∧ X.cell? ⟨b, 2, none⟩ = some (tz n.1.val) ∧ X.cell? ⟨b, 3, none⟩ = some (.bool true) ∧ X.cell? ⟨W.heap.size, 0, none⟩ = some (.func (.yield l) #[] #[])) W1.drew := ⟨c00, c01, c02, c03, cx⟩
      refine wpIn_region_S2 (S := (fun X : World => X.cell? ⟨bx, 0, none⟩ = some (ptr b) ∧ X.cell? ⟨b, 1, none⟩ = some (sv n.1.key) ∧ X.cell? ⟨b, 2, none⟩ = some (tz n.1.val) ∧ X.cell? ⟨b, 3, none⟩ = some (.bool true) ∧ X.cell? ⟨W.heap.size, 0, none⟩ = some (.func (.yield l) #[] #[]))) mixed 17 #[false, false, false, false, false, false, false, false, false, false, false, false, false, false, false, false, false] rfl rfl ?_
      refine wpAnyS_take (i := 0) (v := ptr b) rfl (by kernel_rfl) (by kernel_rfl) (by kernel_rfl) (by kernel_rfl) (fun _ _ _ h => by cases h.1) ⟨Or.inl ⟨by rfl, fun W' hW' => (by have := hW'.1; go_simp)⟩, rfl, fun _ => rfl⟩ hS0 ?_
      simp only [Act.put, List.getElem_toArray, List.getElem_cons_zero, List.setIfInBounds_toArray, List.set_cons_zero, List.set_cons_succ]
      refine wpAnyS_take (i := 1) (v := ptr b) rfl (by kernel_rfl) (by kernel_rfl) (by kernel_rfl) (by kernel_rfl) (fun _ _ _ h => by cases h.1) ⟨Or.inl ⟨by rfl, fun W' hW' => (by go_simp)⟩, rfl, fun _ => rfl⟩ hS0 ?_
      simp only [Act.put, List.getElem_toArray, List.getElem_cons_zero, List.getElem_cons_succ, List.setIfInBounds_toArray, List.set_cons_zero, List.set_cons_succ]
      refine wpAnyS_take (i := 2) (v := .pointer (some ⟨b, 3, none⟩)) rfl (by kernel_rfl) (by kernel_rfl) (by kernel_rfl) (by kernel_rfl) (fun _ _ _ h => by cases h.1) ⟨Or.inl ⟨by rfl, fun W' hW' => (by go_simp)⟩, rfl, fun _ => rfl⟩ hS0 ?_
      simp only [Act.put, List.getElem_toArray, List.getElem_cons_zero, List.getElem_cons_succ, List.setIfInBounds_toArray, List.set_cons_zero, List.set_cons_succ]
      refine wpAnyS_take (i := 3) (v := .bool true) rfl (by kernel_rfl) (by kernel_rfl) (by kernel_rfl) (by kernel_rfl) (fun _ _ _ h => by cases h.1) ⟨Or.inl ⟨by rfl, fun W' hW' => (by have := hW'.2.2.2.1; go_simp)⟩, rfl, fun _ => rfl⟩ hS0 ?_
      simp only [Act.put, List.getElem_toArray, List.getElem_cons_zero, List.getElem_cons_succ, List.setIfInBounds_toArray, List.set_cons_zero, List.set_cons_succ]
      refine wpAnyS_take (i := 4) (v := .bool true) rfl (by kernel_rfl) (by kernel_rfl) (by kernel_rfl) (by kernel_rfl) (fun _ _ _ h => by cases h.1) ⟨Or.inl ⟨by rfl, fun W' hW' => (by go_simp)⟩, rfl, fun _ => rfl⟩ hS0 ?_
      simp only [Act.put, List.getElem_toArray, List.getElem_cons_zero, List.getElem_cons_succ, List.setIfInBounds_toArray, List.set_cons_zero, List.set_cons_succ]
      refine wpAnyS_take (i := 5) (v := .func (.yield l) #[] #[]) rfl (by kernel_rfl) (by kernel_rfl) (by kernel_rfl) (by kernel_rfl) (fun _ _ _ h => by cases h.1) ⟨Or.inl ⟨by rfl, fun W' hW' => (by have := hW'.2.2.2.2; go_simp)⟩, rfl, fun _ => rfl⟩ hS0 ?_
      simp only [Act.put, List.getElem_toArray, List.getElem_cons_zero, List.getElem_cons_succ, List.setIfInBounds_toArray, List.set_cons_zero, List.set_cons_succ]
      refine wpAnyS_take (i := 6) (v := ptr b) rfl (by kernel_rfl) (by kernel_rfl) (by kernel_rfl) (by kernel_rfl) (fun _ _ _ h => by cases h.1) ⟨Or.inl ⟨by rfl, fun W' hW' => (by have := hW'.1; go_simp)⟩, rfl, fun _ => rfl⟩ hS0 ?_
      simp only [Act.put, List.getElem_toArray, List.getElem_cons_zero, List.getElem_cons_succ, List.setIfInBounds_toArray, List.set_cons_zero, List.set_cons_succ]
      refine wpAnyS_take (i := 7) (v := ptr b) rfl (by kernel_rfl) (by kernel_rfl) (by kernel_rfl) (by kernel_rfl) (fun _ _ _ h => by cases h.1) ⟨Or.inl ⟨by rfl, fun W' hW' => (by go_simp)⟩, rfl, fun _ => rfl⟩ hS0 ?_
      simp only [Act.put, List.getElem_toArray, List.getElem_cons_zero, List.getElem_cons_succ, List.setIfInBounds_toArray, List.set_cons_zero, List.set_cons_succ]
      refine wpAnyS_take (i := 8) (v := .pointer (some ⟨b, 1, none⟩)) rfl (by kernel_rfl) (by kernel_rfl) (by kernel_rfl) (by kernel_rfl) (fun _ _ _ h => by cases h.1) ⟨Or.inl ⟨by rfl, fun W' hW' => (by go_simp)⟩, rfl, fun _ => rfl⟩ hS0 ?_
      simp only [Act.put, List.getElem_toArray, List.getElem_cons_zero, List.getElem_cons_succ, List.setIfInBounds_toArray, List.set_cons_zero, List.set_cons_succ]
      refine wpAnyS_take (i := 9) (v := sv n.1.key) rfl (by kernel_rfl) (by kernel_rfl) (by kernel_rfl) (by kernel_rfl) (fun _ _ _ h => by cases h.1) ⟨Or.inl ⟨by rfl, fun W' hW' => (by have := hW'.2.1; go_simp)⟩, rfl, fun _ => rfl⟩ hS0 ?_
      simp only [Act.put, List.getElem_toArray, List.getElem_cons_zero, List.getElem_cons_succ, List.setIfInBounds_toArray, List.set_cons_zero, List.set_cons_succ]
      refine wpAnyS_take (i := 10) (v := ptr b) rfl (by kernel_rfl) (by kernel_rfl) (by kernel_rfl) (by kernel_rfl) (fun _ _ _ h => by cases h.1) ⟨Or.inl ⟨by rfl, fun W' hW' => (by have := hW'.1; go_simp)⟩, rfl, fun _ => rfl⟩ hS0 ?_
      simp only [Act.put, List.getElem_toArray, List.getElem_cons_zero, List.getElem_cons_succ, List.setIfInBounds_toArray, List.set_cons_zero, List.set_cons_succ]
      refine wpAnyS_take (i := 11) (v := ptr b) rfl (by kernel_rfl) (by kernel_rfl) (by kernel_rfl) (by kernel_rfl) (fun _ _ _ h => by cases h.1) ⟨Or.inl ⟨by rfl, fun W' hW' => (by go_simp)⟩, rfl, fun _ => rfl⟩ hS0 ?_
      simp only [Act.put, List.getElem_toArray, List.getElem_cons_zero, List.getElem_cons_succ, List.setIfInBounds_toArray, List.set_cons_zero, List.set_cons_succ]
      refine wpAnyS_take (i := 12) (v := .pointer (some ⟨b, 2, none⟩)) rfl (by kernel_rfl) (by kernel_rfl) (by kernel_rfl) (by kernel_rfl) (fun _ _ _ h => by cases h.1) ⟨Or.inl ⟨by rfl, fun W' hW' => (by go_simp)⟩, rfl, fun _ => rfl⟩ hS0 ?_
      simp only [Act.put, List.getElem_toArray, List.getElem_cons_zero, List.getElem_cons_succ, List.setIfInBounds_toArray, List.set_cons_zero, List.set_cons_succ]
      refine wpAnyS_take (i := 13) (v := tz n.1.val) rfl (by kernel_rfl) (by kernel_rfl) (by kernel_rfl) (by kernel_rfl) (fun _ _ _ h => by cases h.1) ⟨Or.inl ⟨by rfl, fun W' hW' => (by have := hW'.2.2.1; go_simp)⟩, rfl, fun _ => rfl⟩ hS0 ?_
      simp only [Act.put, List.getElem_toArray, List.getElem_cons_zero, List.getElem_cons_succ, List.setIfInBounds_toArray, List.set_cons_zero, List.set_cons_succ]
      refine wpAnyS_ready (rs := [14]) (by kernel_rfl) (by simp) (allS_on rfl rfl (fun K hK => ?_) AllS.nil)
      go_simp
      refine hR.mono ?_
      rintro e W2 (⟨rfl, S2, hj2, hf2, hs2⟩ | ⟨rfl, S2, hj2, hf2, hs2⟩)
      · dsimp only
        have hA2 := (HA.out.drew HJ.out).step hl hj2 hf2 hs2
        obtain ⟨d0, d1, d2, d3, d4⟩ := hc (HD.out _ _ _ hj2)
        rw [hh] at d3
        have dx : W2.cell? ⟨W.heap.size, 0, none⟩ = some (.func (.yield l) #[] #[]) := by rw [hA2.box.cell]; rfl
        refine hK _ _ ⟨d0, d1, d2, d3, dx⟩ ?_
        clear hK K hS0
        have HA2 := Lib.hid hA2
        clear hA2 hj2 hf2 hs2
        have hS2 : (fun X : World => X.cell? ⟨bx, 0, none⟩ = some (ptr b) ∧ X.cell? ⟨b, 1, none⟩ = some (sv n.1.key) ∧ X.cell? ⟨b, 2, none⟩ = some (tz n.1.val) ∧ X.cell? ⟨b, 3, none⟩ = some (.bool true) ∧ X.cell? ⟨W.heap.size, 0, none⟩ = some (.func (.yield l) #[] #[])) W2 := ⟨d0, d1, d2, d3, dx⟩
        refine wpAnyS_take (i := 15) (v := .bool false) rfl (by kernel_rfl) (by kernel_rfl) (by kernel_rfl) (by kernel_rfl) (fun _ _ _ h => by cases h.1) ⟨Or.inl ⟨by rfl, fun W' hW' => (by go_simp)⟩, rfl, fun _ => rfl⟩ hS2 ?_
        simp only [Act.put, List.getElem_toArray, List.getElem_cons_zero, List.getElem_cons_succ, List.setIfInBounds_toArray, List.set_cons_zero, List.set_cons_succ]
        refine wpAnyS_take (i := 16) (v := .bool false) rfl (by kernel_rfl) (by kernel_rfl) (by kernel_rfl) (by kernel_rfl) (fun _ _ _ h => by cases h.1) ⟨Or.inl ⟨by rfl, fun W' hW' => (by go_simp)⟩, rfl, fun _ => rfl⟩ hS2 ?_
        simp only [Act.put, List.getElem_toArray, List.getElem_cons_zero, List.getElem_cons_succ, List.setIfInBounds_toArray, List.set_cons_zero, List.set_cons_succ]
        refine wpAnyS_done (by kernel_rfl) ?_ _
        exact ⟨rfl, _, _, _, _, _, _, _, _, _, _, _, _, _, _, _, _, _, rfl, fun _ => ⟨S2, HA2.out⟩, fun h => by cases h⟩
      · dsimp only
        have hA2 := (HA.out.drew HJ.out).step hl hj2 hf2 hs2
        obtain ⟨d0, d1, d2, d3, d4⟩ := hc (HDX.out _ _ _ hj2)
        rw [hh] at d3
        have dx : W2.cell? ⟨W.heap.size, 0, none⟩ = some (.func (.yield l) #[] #[]) := by rw [hA2.box.cell]; rfl
        refine hK _ _ ⟨d0, d1, d2, d3, dx⟩ ?_
        clear hK K hS0
        have HA2 := Lib.hid hA2
        clear hA2 hj2 hf2 hs2
        have hS2 : (fun X : World => X.cell? ⟨bx, 0, none⟩ = some (ptr b) ∧ X.cell? ⟨b, 1, none⟩ = some (sv n.1.key) ∧ X.cell? ⟨b, 2, none⟩ = some (tz n.1.val) ∧ X.cell? ⟨b, 3, none⟩ = some (.bool true) ∧ X.cell? ⟨W.heap.size, 0, none⟩ = some (.func (.yield l) #[] #[])) W2 := ⟨d0, d1, d2, d3, dx⟩
        refine wpAnyS_take (i := 15) (v := .bool true) rfl (by kernel_rfl) (by kernel_rfl) (by kernel_rfl) (by kernel_rfl) (fun _ _ _ h => by cases h.1) ⟨Or.inl ⟨by rfl, fun W' hW' => (by go_simp)⟩, rfl, fun _ => rfl⟩ hS2 ?_
        simp only [Act.put, List.getElem_toArray, List.getElem_cons_zero, List.getElem_cons_succ, List.setIfInBounds_toArray, List.set_cons_zero, List.set_cons_succ]
        refine wpAnyS_take (i := 16) (v := .bool true) rfl (by kernel_rfl) (by kernel_rfl) (by kernel_rfl) (by kernel_rfl) (fun _ _ _ h => by cases h.1) ⟨Or.inl ⟨by rfl, fun W' hW' => (by go_simp)⟩, rfl, fun _ => rfl⟩ hS2 ?_
        simp only [Act.put, List.getElem_toArray, List.getElem_cons_zero, List.getElem_cons_succ, List.setIfInBounds_toArray, List.set_cons_zero, List.set_cons_succ]
        refine wpAnyS_done (by kernel_rfl) ?_ _
        exact ⟨rfl, _, _, _, _, _, _, _, _, _, _, _, _, _, _, _, _, _, rfl, (fun h => by cases h), fun _ => ⟨_, S2, HA2.out⟩⟩
  · rintro e a W2 ⟨rfl, u7, u8, u9, u10, u11, u12, u13, u14, u15, u16, u17, u18, u19, u20, u21, u22, bd, rfl, hb0, hb1⟩
    cases bd with
    | true =>
      obtain ⟨i, S2, hA2⟩ := hb1 rfl
      gi_wp2
      refine hA2.leaves HJX.out (by simp) (fun X hX => ⟨_, results_none rfl _ _ _, ⟨_, rfl⟩, .inr ⟨i, S2, hX.at_, hX.fr, hX.sub⟩⟩)
    | false =>
      obtain ⟨S2, hA2⟩ := hb0 rfl
      have HA2 := Lib.hid hA2
      obtain ⟨d0, d1, d2, d3, d4⟩ := hc (HD.out _ _ _ hA2.at_)
      clear hb0 hb1 hA2 c00 c01 c02 c03 c04 cx HA hW1
      gi_wp2
      refine wpIn_loop (fun a X => ∃ (i : Nat) (ds : List Nat) (S3 : Bl) (u4 u5 u6 u30 u31 u32 u33 u34 u35 u36 u37 u38 u39 u40 u41 u42 : Value), a = { tmps := #[.func (.yield l) #[] #[], .pointer (some ⟨bx, 0, none⟩), .pointer (some ⟨W.heap.size, 0, none⟩), undef, u4, u5, u6, u7, u8, u9, u10, u11, u12, u13, u14, u15, u16, u17, u18, u19, u20, u21, u22, .bool false, ptr b, ptr b, .pointer (some ⟨b, 4, none⟩), .slice A kn c, .int .i64 kn, .int .i64 i, u30, u31, u32, u33, u34, u35, u36, u37, u38, u39, u40, u41, u42], defers := ds.map mark } ∧
        i ≤ kn ∧ AtS J S l W (pre n i) ds S3 X) (fun a _ => kn - (intOf (a.tmps.getD 29 undef)).toNat) ?_ ?_
      · exact ⟨0, [], S2, _, _, _, _, _, _, _, _, _, _, _, _, _, _, _, _, rfl, Nat.zero_le _, by rw [pre_zero]; exact HA2.out⟩
      · rintro a X ⟨i, ds, S3, u4, u5, u6, u30, u31, u32, u33, u34, u35, u36, u37, u38, u39, u40, u41, u42, rfl, hi, hA3⟩
        have HA3 := Lib.hid hA3
        rcases Nat.lt_or_ge i kn with hlt | hge
        · obtain ⟨m, hm⟩ : ∃ m, n.2.kids[i]? = some m := ⟨_, List.getElem?_eq_getElem (by have := HKN.out; omega)⟩
          obtain ⟨b1, FA, F2, FB, hF1, h6, h7, _⟩ := hk.kid hm
          have hAD := HD.out _ _ _ hA3.at_
          have hrX : X.ownsRow 0 73 1 (.slice A kn c) kn (ptrs ks) := by
            have := row_same hr (fun j hj => hAD.2 j (by rw [hF]; simp [hj]))
            unfold Row at this
            rwa [HKL.out] at this
          obtain ⟨g, cp, hkv, hcg, _⟩ := own_pos hrX (by omega)
          injection hkv with e1 _ e3
          subst e1 e3
          have ci := own_cells hrX i (ptr b1) (by simp [ptrs, h6])
          gi_wp2_with (refine ⟨trivial, ?_⟩; gi_at_call 83; refine (callsIn_wide.2 (all_any _ _)).mono ?_; rintro e w5 ⟨rfl, rfl⟩)
          have hmm : m ∈ n.2.kids := List.mem_of_getElem? hm
          have hdl := hA3.ds_lt
          have hzX : W.heap.size < X.heap.size := hA3.box.lt
          have hF2 : ∀ j ∈ F2, j ∈ F := fun j hj => by rw [hF, hF1]; simp [hj]
          have hpl : ∀ j, j < (nkv m).length → pre n i + j < (nkv n).length := fun j hj => pre_lt hm hj
          have hpe : ∀ j, j < (nkv m).length → encL (nkv n) (pre n i + j) = encL (nkv m) j := fun j hj => encL_at (nkv_at hm hj)
          have hps : pre n (i + 1) = pre n i + (nkv m).length := pre_succ hm
          have hNm : (nkv m).length ≤ 1099511627776 := Nat.le_trans (kid_le hmm) (by unfold nkv at hN; simp at hN; omega)
          have hseq := ih m hmm 8 w0 (X.alloc (.cells #[ptr b1] 73)) none b1 X.heap.size F2 h7 (kid_ok hok hmm) hNm
          obtain ⟨X5, hX5⟩ : ∃ X5, X5 = X.alloc (.cells #[ptr b1] 73) := ⟨_, rfl⟩
          rw [← hX5] at hseq ⊢
          have hA5 : AtS J S l W (pre n i) ds S3 X5 := hA3.chg HJ.out (by rw [hX5]; exact Chg.alloc (n := X.heap.size) _) hzX hdl
          have hb5 : Has X5 X.heap.size 73 #[ptr b1] := by rw [hX5]; exact Has.fresh _ _ _
          have hz5 : X5.heap.size = X.heap.size + 1 := by rw [hX5]; simp
          have hnb : ¬ S3 X.heap.size := fun hj => by have := HS.out _ _ _ hA3.at_ _ hj; omega
          have hkd : ∀ {Y : World}, AllD bx b F w0 Y → Has Y X.heap.size 73 #[ptr b1] → AllD X.heap.size b1 F2 w0 Y := fun hY hb => ⟨hb, fun j hj => hY.2 j (hF2 j hj)⟩
          clear hX5 HA3 hAD ci hrX hcg
          refine wpIn_rangeFunc_S (D := AllD X.heap.size b1 F2 w0) (N := (nkv m).length) rfl (by omega) (gf := 97) (lb := #[.pointer (some ⟨X.heap.size, 0, none⟩)]) rfl trivial (enters_of Try.func97 (by kernel_rfl) rfl)
            hseq (fun _ => rfl)
            (fun j T Y => ∃ S4, (∀ q, T q ↔ S4 q ∨ q = l) ∧ AtS J S l W (pre n i + j) ds S4 Y ∧ Has Y X.heap.size 73 #[ptr b1] ∧ ¬ S4 X.heap.size)
            (fun cd j T Y => cd = .ret ∧ ∃ S4, (∀ q, T q ↔ S4 q ∨ q = l) ∧ AtS Jx S l W (pre n i + j) ds S4 Y ∧ Has Y X.heap.size 73 #[ptr b1] ∧ ¬ S4 X.heap.size)
            (fun q => S3 q ∨ q = l) ?hI ?hIx ?hD ?hDx ?hB ?h0
            (fun j => { tmps := #[.func (.yield l) #[] #[], .pointer (some ⟨bx, 0, none⟩), .pointer (some ⟨W.heap.size, 0, none⟩), undef, ptr b1, sv ((nkv m).getD j ([], 0)).1, tz ((nkv m).getD j ([], 0)).2, u7, u8, u9, u10, u11, u12, u13, u14, u15, u16, u17, u18, u19, u20, u21, u22, .bool false, ptr b, ptr b, .pointer (some ⟨b, 4, none⟩), .slice (some ⟨g, 0, none⟩) kn c, .int .i64 kn, .int .i64 i, .bool true, .pointer (some ⟨g, i, none⟩), ptr b1, ptr b1, .func (.func 97) #[] #[.pointer (some ⟨X.heap.size, 0, none⟩)], sv ((nkv m).getD j ([], 0)).1, tz ((nkv m).getD j ([], 0)).2, u37, u38, u39, u40, u41, u42], defers := [] }) ?assign ?body ?done ?stop
          case hI =>
            rintro j T Y Z ⟨S4, hT, hA, hb, hn⟩ hc
            have hc' : Chg X5.heap.size S4 Y Z := hc.mono (Nat.le_refl _) fun q hq => (hT q).2 (.inl hq)
            exact ⟨S4, hT, hA.chg HJ.out hc' (by omega) (fun D hD => by have := hdl D hD; omega), (hc'.block _ hb.lt (.inl (by omega))).trans hb, hn⟩
          case hIx =>
            rintro cd j T Y Z ⟨hcd, S4, hT, hA, hb, hn⟩ hc
            have hc' : Chg X5.heap.size S4 Y Z := hc.mono (Nat.le_refl _) fun q hq => (hT q).2 (.inl hq)
            exact ⟨hcd, S4, hT, hA.chg HJX.out hc' (by omega) (fun D hD => by have := hdl D hD; omega), (hc'.block _ hb.lt (.inl (by omega))).trans hb, hn⟩
          case hD =>
            rintro j T Y ⟨S4, hT, hA, hb, hn⟩
            exact hkd (HD.out _ _ _ hA.at_) hb
          case hDx =>
            rintro cd j T Y ⟨_, S4, hT, hA, hb, hn⟩
            exact hkd (HDX.out _ _ _ hA.at_) hb
          case hB =>
            rintro j T Y ⟨S4, hT, hA, hb, hn⟩ q hq
            rcases (hT q).1 hq with h1 | h1
            · exact HS.out _ _ _ hA.at_ q h1
            · have := hA.box.lt; omega
          case h0 => exact ⟨S3, fun q => Iff.rfl, hA5, hb5, hnb⟩
          case assign =>
            intro l2 j Y K hK
            unfold encL
            gi_wp2
            exact hK
          case body =>
            rintro l2 j T Y ⟨S4, hT, hA4, hb4, hn4⟩ hj hl2
            have cx : Y.cell? ⟨W.heap.size, 0, none⟩ = some (.func (.yield l) #[] #[]) := by rw [hA4.box.cell]; rfl
            have hY := yieldAt_in (l' := l2) (yieldAt_wide 6 (HY.out _ _ _ hA4.at_ (hpl j hj)))
            rw [hpe j hj] at hY
            unfold encL at hY
            obtain ⟨fn, tmps, assign, body, hy, hR⟩ := hY
            have HA4 := Lib.hid hA4
            have HPJ := Lib.hid (hpl j hj)
            obtain ⟨kv, hkv⟩ : ∃ kv, (nkv m).getD j ([], 0) = kv := ⟨_, rfl⟩
            rw [hkv] at hy ⊢
            clear hA4 hA5 hseq hkv hpl hpe hj
            gi_wp2
            refine RoundIn.mono hR ?_
            have hfin : ∀ (J2 : Nat → Bl → World → Prop) (Y2 : World) (S5 : Bl), J2 (pre n i + j + 1) S5 Y2 → FrS (fun q => S4 q ∨ q = l) Y Y2 → (∀ q, S5 q → S4 q ∨ Y.heap.size ≤ q) →
                AtS J2 S l W (pre n i + (j + 1)) ds S5 Y2 ∧ Has Y2 X.heap.size 73 #[ptr b1] ∧ ¬ S5 X.heap.size ∧ FrS T Y Y2 ∧ ∀ q, S5 q ∨ q = l → T q ∨ Y.heap.size ≤ q := fun J2 Y2 S5 h1 h2 h3 => by
              refine ⟨HA4.out.step hl h1 h2 h3, h2.has (fun h => ?_) hb4, fun h => ?_, h2.mono (fun q hq => (hT q).2 hq), fun q hq => ?_⟩
              · rcases h with h | h
                · exact hn4 h
                · omega
              · rcases h3 _ h with h | h
                · exact hn4 h
                · have := hb4.lt; omega
              · rcases hq with hq | hq
                · rcases h3 q hq with h | h
                  · exact .inl ((hT q).2 (.inl h))
                  · exact .inr h
                · exact .inl ((hT q).2 (.inr hq))
            have HFIN := Lib.hid hfin
            clear hfin
            rintro e Y2 (⟨rfl, S5, hj5, hf5, hs5⟩ | ⟨rfl, S5, hj5, hf5, hs5⟩)
            · obtain ⟨r1, r2, r3, r4, r5⟩ := HFIN.out J Y2 S5 hj5 hf5 hs5
              have HR1 := Lib.hid r1
              have HR2 := Lib.hid r2
              clear r1 r2 hj5 hf5 hs5
              gi_wp2
              exact ⟨_, ⟨S5, fun q => Iff.rfl, HR1.out, HR2.out, r3⟩, r4, r5⟩
            · obtain ⟨r1, r2, r3, r4, r5⟩ := HFIN.out Jx Y2 S5 hj5 hf5 hs5
              have HR1 := Lib.hid r1
              have HR2 := Lib.hid r2
              clear r1 r2 hj5 hf5 hs5
              gi_wp2
              exact ⟨_, ⟨rfl, S5, fun q => Iff.rfl, HR1.out, HR2.out, r3⟩, r4, r5⟩
          case done =>
            rintro D T Y hD0 ⟨S4, hT, hA4, hb4, hn4⟩ hfr hsub hnD hKd
            have hA6 : AtS J S l W (pre n (i + 1)) (D :: ds) S4 Y := by
              rw [hps]
              exact hA4.more (by omega) (fun h => hnD ((hT D).2 (.inl h))) (fun h => by have := hdl D h; omega) hKd
            have HA6 := Lib.hid hA6
            have hwr : IntKind.i64.wrap ((i : Int) + 1) = ((i + 1 : Nat) : Int) := by
              have h1 := kids_le hok
              have h2 := HKN.out
              rw [nkv_ents] at hN
              simp [nents] at hN
              rw [IntKind.wrap_i64]; omega
            clear hA4 hA5 hA6 hseq
            gi_wp2
            refine ⟨⟨i + 1, D :: ds, S4, _, _, _, _, _, _, _, _, _, _, _, _, _, _, _, _, rfl, by omega, HA6.out⟩, ?_⟩
            simp [intOf]
            omega
          case stop =>
            rintro D cd j T Y hD0 ⟨rfl, S4, hT, hA4, hb4, hn4⟩ hfr hsub hnD hKd
            have hA6 : AtS Jx S l W (pre n i + j) (D :: ds) S4 Y := hA4.more (by omega) (fun h => hnD ((hT D).2 (.inl h))) (fun h => by have := hdl D h; omega) hKd
            clear hA4 hA5 hseq
            gi_wp2
            exact hA6.leaves HJX.out (by simp) (fun X hX => ⟨_, results_none rfl _ _ _, ⟨_, rfl⟩, .inr ⟨_, S4, hX.at_, hX.fr, hX.sub⟩⟩)
        · obtain rfl : i = kn := by omega
          have hneg : ¬ ((i : Int) < (i : Int)) := by omega
          gi_wp2
          have hN' := pre_all n (Nat.le_of_eq HKN.out.symm)
          rw [hN'] at hA3
          refine hA3.leaves HJ.out (by simp) (fun X hX => ⟨_, results_none rfl _ _ _, ⟨_, rfl⟩, .inl ⟨S3, hX.at_, hX.fr, hX.sub⟩⟩)
theorem all_fo (f : Fo TV) : ∀ m ∈ f.kids, AllP m := by
  induction f with
  | nl => simp [Fo.kids]
  | cons r s n ihs ihn =>
    intro m hm
    simp only [Fo.kids, List.mem_cons] at hm
    rcases hm with rfl | hm
    · exact all_node (r, s) ihs
    · exact ihn m hm
theorem all_seq (n : No TV) : AllP n := all_node n (all_fo n.2)
end Go.Proofs.Ytpnfkgjcnofjnaa.Ti
