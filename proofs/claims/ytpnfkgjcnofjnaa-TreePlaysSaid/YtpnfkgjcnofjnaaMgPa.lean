/- Texts of the proofs, merged. -/
import Derived.Test.YtpnfkgjcnofjnaaMgG
/- Lists of keys and numbers: what is asked of them by definition, and what the tree's entries tell. Pure facts. -/
namespace Go.Proofs.Ytpnfkgjcnofjnaa.Tr
open Nm (fold)

abbrev KV := By × Int
def kvs (E : List (En Int)) : List KV := E.map fun e => (e.k, e.v)
/-- where a key stands, or belongs. -/
def plc (M : List KV) (s : By) : Nat := (M.takeWhile fun x => decide (Nm.cmpN x.1 s < 0)).length
/-- is a key there? -/
def thr (M : List KV) (i : Nat) (k : By) : Bool := match M[i]? with
  | some x => x.1 == k
  | none => false
theorem plc_le (M : List KV) (s : By) : plc M s ≤ M.length := by
  unfold plc; exact (List.takeWhile_sublist _).length_le
theorem kvs_append (A R : List (En Int)) : kvs (A ++ R) = kvs A ++ kvs R := by simp [kvs]
theorem kvs_len (E : List (En Int)) : (kvs E).length = E.length := by simp [kvs]
theorem key_cmp {E : List (En Int)} (hk : KeyOk E) {e : En Int} (he : e ∈ E) {s : By} (hs : isN s = true) : Nm.cmpN e.k s = cmpP e.p (pth s) := by
  obtain ⟨t, ht, h1, h2⟩ := hk e he
  rw [h1, h2, cmpN_path (isN_fold ht) hs, pth_fold]
theorem key_eq {E : List (En Int)} (hk : KeyOk E) {e : En Int} (he : e ∈ E) {s : By} (hs : isN s = true) : e.k = fold s ↔ e.p = pth s := by
  obtain ⟨t, ht, h1, h2⟩ := hk e he
  rw [h1, h2]
  exact (fold_pth ht hs).symm
theorem split_at {E : List (En Int)} (ha : Asc E) (q : List By) : ∃ A R, E = A ++ R ∧ (∀ a ∈ A, cmpP a.p q < 0) ∧ (∀ r ∈ R, ¬ cmpP r.p q < 0) := by
  induction E with
  | nil => exact ⟨[], [], rfl, by simp, by simp⟩
  | cons e E ih =>
    have ha' := List.pairwise_cons.1 ha
    by_cases h : cmpP e.p q < 0
    · obtain ⟨A, R, rfl, h1, h2⟩ := ih ha'.2
      refine ⟨e :: A, R, rfl, fun a hm => ?_, h2⟩
      rcases List.mem_cons.1 hm with rfl | hm
      · exact h
      · exact h1 a hm
    · refine ⟨[], e :: E, rfl, by simp, fun r hr => ?_⟩
      rcases List.mem_cons.1 hr with rfl | hr
      · exact h
      · exact fun h3 => h (cmpP_lt_trans (ha'.1 r hr) h3)
theorem plc_at {A R : List (En Int)} {s : By} (hk : KeyOk (A ++ R)) (hs : isN s = true) (h1 : ∀ a ∈ A, cmpP a.p (pth s) < 0) (h2 : ∀ r ∈ R, ¬ cmpP r.p (pth s) < 0) : plc (kvs (A ++ R)) (fold s) = A.length := by
  have hc : ∀ e ∈ A ++ R, Nm.cmpN e.k (fold s) = cmpP e.p (pth s) := fun e he => by rw [key_cmp hk he (isN_fold hs), pth_fold]
  unfold plc
  rw [kvs_append, List.takeWhile_append_of_pos]
  · have : (kvs R).takeWhile (fun x => decide (Nm.cmpN x.1 (fold s) < 0)) = [] := by
      cases R with
      | nil => rfl
      | cons r R =>
        unfold kvs
        rw [List.map_cons, List.takeWhile_cons_of_neg]
        have := hc r (by simp)
        have h3 := h2 r (by simp)
        simp only [this, decide_eq_true_eq]
        exact h3
    rw [this, List.append_nil, kvs_len]
  · intro x hx
    obtain ⟨e, he, rfl⟩ := List.mem_map.1 hx
    simp only [hc e (by simp [he]), decide_eq_true_eq]
    exact h1 e he
/-- the list's place parts it: all that is known of it. -/
theorem part_at {E : List (En Int)} (ha : Asc E) (hk : KeyOk E) {s : By} (hs : isN s = true) : ∃ A R, E = A ++ R ∧ plc (kvs E) (fold s) = A.length ∧ (∀ a ∈ A, a.p ≠ pth s) ∧ (∀ a ∈ A, cmpP a.p (pth s) < 0) ∧
    ((thr (kvs E) A.length (fold s) = false ∧ hasE (pth s) E = false ∧ (∀ r ∈ R, cmpP (pth s) r.p < 0)) ∨ (∃ r R', R = r :: R' ∧ r.p = pth s ∧ r.k = fold s ∧ thr (kvs E) A.length (fold s) = true ∧ hasE (pth s) E = true ∧ (∀ x ∈ R', cmpP (pth s) x.p < 0))) := by
  obtain ⟨A, R, rfl, h1, h2⟩ := split_at ha (pth s)
  have hne : ∀ a ∈ A, a.p ≠ pth s := fun a hm => cmpP_ne (h1 a hm)
  refine ⟨A, R, rfl, plc_at hk hs h1 h2, hne, h1, ?_⟩
  have hA : hasE (pth s) (A ++ R) = hasE (pth s) R := by
    unfold hasE
    rw [List.any_append]
    have : A.any (fun e => e.p == pth s) = false := by
      rw [List.any_eq_false]; intro a hm; simpa using hne a hm
    rw [this, Bool.false_or]
  have hget : (kvs (A ++ R))[A.length]? = (kvs R)[0]? := by
    rw [kvs_append, List.getElem?_append_right (by rw [kvs_len]; exact Nat.le_refl _), kvs_len, Nat.sub_self]
  rw [hA]
  unfold thr
  rw [hget]
  have ha2 : Asc R := (List.pairwise_append.1 ha).2.1
  cases R with
  | nil => exact .inl ⟨rfl, rfl, by simp⟩
  | cons r R =>
    have hr := List.pairwise_cons.1 ha2
    by_cases h : r.p = pth s
    · have hk2 := (key_eq hk (e := r) (by simp) hs).2 h
      refine .inr ⟨r, R, rfl, h, hk2, by simp [kvs, hk2], by simp [hasE, h], fun x hx => ?_⟩
      rw [← h]; exact hr.1 x hx
    · have hgt : ∀ x ∈ r :: R, cmpP (pth s) x.p < 0 := fun x hx => by
        rcases List.mem_cons.1 hx with rfl | hx
        · exact cmpP_gt (h2 _ (by simp)) h
        · exact cmpP_lt_trans (cmpP_gt (h2 r (by simp)) h) (hr.1 x hx)
      refine .inl ⟨?_, ?_, hgt⟩
      · have : r.k ≠ fold s := fun e => h ((key_eq hk (e := r) (by simp) hs).1 e)
        simpa [kvs] using this
      · unfold hasE
        rw [List.any_eq_false]
        intro x hx
        have := cmpP_ne (hgt x hx)
        simpa using fun e => this e.symm
theorem kvs_take (A R : List (En Int)) : (kvs (A ++ R)).take A.length = kvs A := by
  rw [kvs_append, List.take_left' (kvs_len A)]
theorem kvs_drop (A R : List (En Int)) : (kvs (A ++ R)).drop A.length = kvs R := by
  rw [kvs_append, List.drop_left' (kvs_len A)]
theorem kvs_drop1 (A R : List (En Int)) (r : En Int) : (kvs (A ++ r :: R)).drop (A.length + 1) = kvs R := by
  rw [← List.drop_drop, kvs_drop]; rfl
theorem put_list {E : List (En Int)} (ha : Asc E) (hk : KeyOk E) {s : By} (hs : isN s = true) (v : Int) :
    kvs (insE ⟨pth s, fold s, v⟩ E) = (kvs E).take (plc (kvs E) (fold s)) ++ (fold s, v) :: (kvs E).drop (if thr (kvs E) (plc (kvs E) (fold s)) (fold s) then plc (kvs E) (fold s) + 1 else plc (kvs E) (fold s)) ∧
      thr (kvs E) (plc (kvs E) (fold s)) (fold s) = hasE (pth s) E := by
  obtain ⟨A, R, rfl, hp, hne, hlt, h⟩ := part_at ha hk hs
  rw [hp, insE_pass hlt, kvs_append, kvs_take]
  rcases h with ⟨h1, h2, h3⟩ | ⟨r, R', rfl, h0, _, h1, h2, h3⟩
  · rw [h1, h2]
    refine ⟨?_, rfl⟩
    rw [insE_front h3, if_neg (by simp), kvs_drop]
    rfl
  · rw [h1, h2]
    refine ⟨?_, rfl⟩
    rw [if_pos rfl, kvs_drop1, insE, if_neg (by rw [h0, cmpP_self]; omega), if_pos h0]
    rfl
theorem del_list {E : List (En Int)} (ha : Asc E) (hk : KeyOk E) {s : By} (hs : isN s = true) :
    kvs (E.filter fun e => !(e.p == pth s)) = if thr (kvs E) (plc (kvs E) (fold s)) (fold s) then (kvs E).take (plc (kvs E) (fold s)) ++ (kvs E).drop (plc (kvs E) (fold s) + 1) else kvs E := by
  obtain ⟨A, R, rfl, hp, hne, hlt, h⟩ := part_at ha hk hs
  have hA : A.filter (fun e => !(e.p == pth s)) = A := by
    rw [List.filter_eq_self]; intro a hm; simpa using hne a hm
  rw [hp, List.filter_append, hA]
  rcases h with ⟨h1, h2, h3⟩ | ⟨r, R', rfl, h0, _, h1, h2, h3⟩
  · rw [h1, if_neg (by simp)]
    have : R.filter (fun e => !(e.p == pth s)) = R := by
      rw [List.filter_eq_self]; intro a hm
      have := cmpP_ne (h3 a hm)
      simpa using fun e => this e.symm
    rw [this]
  · rw [h1, if_pos rfl, kvs_take, kvs_drop1, kvs_append]
    congr 2
    rw [List.filter_cons_of_neg (by simp [h0])]
    rw [List.filter_eq_self]; intro a hm
    have := cmpP_ne (h3 a hm)
    simpa using fun e => this e.symm
theorem get_list {E : List (En Int)} (ha : Asc E) (hk : KeyOk E) {s : By} (hs : isN s = true) :
    (getE (pth s) E).map (·.v) = if thr (kvs E) (plc (kvs E) (fold s)) (fold s) then some ((kvs E).getD (plc (kvs E) (fold s)) ([], 0)).2 else none := by
  obtain ⟨A, R, rfl, hp, hne, hlt, h⟩ := part_at ha hk hs
  have hA : getE (pth s) (A ++ R) = getE (pth s) R := by
    unfold getE
    rw [List.find?_append]
    have : A.find? (fun e => e.p == pth s) = none := by
      rw [List.find?_eq_none]; intro a hm; simpa using hne a hm
    rw [this]; rfl
  rw [hp, hA]
  rcases h with ⟨h1, h2, h3⟩ | ⟨r, R', rfl, h0, _, h1, h2, h3⟩
  · rw [h1, if_neg (by simp)]
    have : getE (pth s) R = none := by
      unfold getE
      rw [List.find?_eq_none]; intro a hm
      have := cmpP_ne (h3 a hm)
      simpa using fun e => this e.symm
    rw [this]; rfl
  · rw [h1, if_pos rfl]
    have : (kvs (A ++ r :: R')).getD A.length ([], 0) = (r.k, r.v) := by
      unfold List.getD
      rw [kvs_append, List.getElem?_append_right (by rw [kvs_len]; exact Nat.le_refl _), kvs_len, Nat.sub_self]
      rfl
    rw [this]
    unfold getE
    rw [List.find?_cons_of_pos (by simp [h0])]
    rfl
theorem below_list {E : List (En Int)} (hk : KeyOk E) (s : By) : (kvs E).filter (fun x => Nm.underB x.1 s) = if isN s then kvs (E.filter fun e => (pth s).isPrefixOf e.p) else [] := by
  cases hs : isN s with
  | false =>
    rw [if_neg (by simp), List.filter_eq_nil_iff]
    intro x _
    rw [under_no hs]; simp
  | true =>
    rw [if_pos rfl]
    unfold kvs
    rw [List.filter_map]
    congr 1
    refine List.filter_congr fun e he => ?_
    obtain ⟨t, ht, h1, h2⟩ := hk e he
    show Nm.underB e.k s = _
    rw [h1, h2, under_path (isN_fold ht) hs, pth_fold]
theorem next_list {E : List (En Int)} (hk : KeyOk E) {s : By} (hs : isN s = true) : (gtE (pth s) E).map (·.k) = ((kvs E).find? fun x => decide (0 < Nm.cmpN x.1 s)).map (·.1) := by
  unfold gtE kvs
  rw [List.find?_map, Option.map_map]
  have : E.find? ((fun x : KV => decide (0 < Nm.cmpN x.1 s)) ∘ fun e : En Int => (e.k, e.v)) = E.find? fun e => decide (cmpP (pth s) e.p < 0) := by
    induction E with
    | nil => rfl
    | cons e E ih =>
      have h1 := key_cmp hk (e := e) (by simp) hs
      have h2 := cmpP_neg e.p (pth s)
      have h3 : decide (0 < Nm.cmpN e.k s) = decide (cmpP (pth s) e.p < 0) := by rw [h1, h2]; congr 1; rw [eq_iff_iff]; omega
      rw [List.find?_cons, List.find?_cons]
      simp only [Function.comp_apply, h3]
      rw [ih fun x hx => hk x (by simp [hx])]
  rw [this]
  rfl
theorem ex_list {E : List (En Int)} (hk : KeyOk E) (s : By) : (isN s && exE (pth s) E) = decide (0 < ((kvs E).filter (fun x => Nm.underB x.1 s)).length) := by
  rw [below_list hk]
  cases hs : isN s with
  | false => rfl
  | true =>
    rw [if_pos rfl, kvs_len, Bool.true_and, Bool.eq_iff_iff, decide_eq_true_eq, List.length_pos_iff_exists_mem]
    unfold exE
    rw [List.any_eq_true]
    simp only [List.mem_filter]
end Go.Proofs.Ytpnfkgjcnofjnaa.Tr
/- The document's lists: where a key stands, what is told of it. -/
namespace Go.Proofs.Ytpnfkgjcnofjnaa.Ti
open Go.RowKit Go.Shelf Tr

/-- a list's cells, in any later world. -/
theorem prow_at {w : World} {base : Nat} {v : Value} {M : List KV} (h : PRow w base v M) {j : Nat} (hj : j < M.length) :
    ∃ g cp, v = .slice (some ⟨g, 0, none⟩) M.length cp ∧ M.length ≤ cp ∧ ∀ X, Below w.heap.size w X → X.cell? ⟨g, j * 2, none⟩ = some (sv (M.getD j ([], 0)).1) ∧ X.cell? ⟨g, j * 2 + 1, none⟩ = some (tz (M.getD j ([], 0)).2) := by
  obtain ⟨g, cp, cur, hv, hc, _, _, _, _⟩ := ownK_pos h (by omega)
  refine ⟨g, cp, hv, hc, fun X hb => ?_⟩
  obtain ⟨g', cp', cur', hv', _, _, _, hg, ht⟩ := ownK_pos (ownK_below h hb (Nat.le_refl _)) (by omega)
  rw [hv] at hv'
  injection hv' with e1 _ _
  injection e1 with e1
  injection e1 with e1 _
  subst e1
  rw [Ti.getD_in hj]
  constructor
  · rw [cell_of_row X g _ cur' _ (0, 0) hg]
    exact take_at ht (by have := fl_get pc_len M hj (i := 0) (by decide); simpa [pc] using this)
  · rw [cell_of_row X g _ cur' _ (0, 0) hg]
    exact take_at ht (by rw [fl_get pc_len M hj (i := 1) (by decide)]; rfl)
/-- how great a list is. -/
structure Sml (M : List KV) : Prop where
  few : M.length ≤ 1000
  short : ∀ i, (M.getD i ([], 0)).1.length ≤ 255
theorem takeW_lt {α : Type} (p : α → Bool) (d : α) : ∀ (l : List α) (j : Nat), j < (l.takeWhile p).length → j < l.length ∧ p (l.getD j d) = true
  | [], j, h => by simp at h
  | a :: l, j, h => by
    rw [List.takeWhile_cons] at h
    split at h
    · rename_i hp
      cases j with
      | zero => exact ⟨by simp, by simpa using hp⟩
      | succ j =>
        have := takeW_lt p d l j (by simpa using h)
        exact ⟨by simpa using this.1, by simpa using this.2⟩
    · simp at h
theorem plc_lt {M : List KV} {s : By} {j : Nat} (hj : j < plc M s) : j < M.length ∧ Nm.cmpN (M.getD j ([], 0)).1 s < 0 := by
  have := takeW_lt (fun x : KV => decide (Nm.cmpN x.1 s < 0)) ([], 0) M j hj
  exact ⟨this.1, of_decide_eq_true this.2⟩
theorem plc_stop {M : List KV} {s : By} (hj : plc M s < M.length) : ¬ Nm.cmpN (M.getD (plc M s) ([], 0)).1 s < 0 := by
  rw [Ti.getD_in hj]
  have h2 : M.takeWhile (fun x => decide (Nm.cmpN x.1 s < 0)) ++ M.dropWhile (fun x => decide (Nm.cmpN x.1 s < 0)) = M := List.takeWhile_append_dropWhile
  have h3 : M[plc M s]? = (M.dropWhile fun x => decide (Nm.cmpN x.1 s < 0))[0]? := by
    conv => lhs; rw [← h2]
    unfold plc
    rw [List.getElem?_append_right (by simp [h2]), h2, Nat.sub_self]
  rw [List.getElem?_eq_getElem hj] at h3
  intro h
  cases hd : M.dropWhile (fun x => decide (Nm.cmpN x.1 s < 0)) with
  | nil => rw [hd] at h3; cases h3
  | cons r R =>
    rw [hd] at h3
    simp only [List.getElem?_cons_zero, Option.some.injEq] at h3
    have := List.head?_dropWhile_not (fun x : KV => decide (Nm.cmpN x.1 s < 0)) M
    rw [hd] at this
    simp only [List.head?_cons] at this
    rw [← h3] at this
    simp [h] at this
set_option maxRecDepth 100000 in
theorem refPlace_any {w : World} {base : Nat} {v : Value} {M : List KV} (h : PRow w base v M) (hm : Sml M) (k : By) (hk : k.length ≤ 100000) :
    Calls Try.prog 46 #[v, .string ⟨k.toArray⟩] w fun e w' => e = .returned (.int .i64 (plc M k : Nat)) ∧ Below w.heap.size w w' := by
  obtain ⟨A, c, hv, hc⟩ := ownK_form h
  subst hv
  have HW := Lib.hid h
  obtain ⟨N, hN⟩ : ∃ N, M.length = N := ⟨_, rfl⟩
  obtain ⟨p, hp⟩ : ∃ p, plc M k = p := ⟨_, rfl⟩
  have hpl := plc_le M k
  have HLT : Hid (∀ j, j < p → Nm.cmpN (M.getD j ([], 0)).1 k < 0) := fun j hj => (plc_lt (by rw [hp]; exact hj)).2
  have HST : Hid (p < N → ¬ Nm.cmpN (M.getD p ([], 0)).1 k < 0) := fun h => by have := plc_stop (M := M) (s := k) (by rw [hp, hN]; exact h); rwa [hp] at this
  have HAT : Hid (∀ j, j < N → ∃ g, A = some ⟨g, 0, none⟩ ∧ ∀ X, Below w.heap.size w X → X.cell? ⟨g, j * 2, none⟩ = some (sv (M.getD j ([], 0)).1)) := fun j hj => by
    obtain ⟨g, cp, e, _, hx⟩ := prow_at HW.out (j := j) (by omega)
    injection e with e _ _
    exact ⟨g, e, fun X hb => (hx X hb).1⟩
  have HCM : Hid (∀ j X, Calls Try.prog 24 #[.string ⟨(M.getD j ([], 0)).1.toArray⟩, .string ⟨k.toArray⟩] X fun e w' => e = .returned (.int .i64 (Nm.cmpN (M.getD j ([], 0)).1 k)) ∧ Below X.heap.size X w') := fun j X => by
    have := refCmp_any ⟨(M.getD j ([], 0)).1.toArray⟩ ⟨k.toArray⟩ X (by rw [arr_size]; have := hm.short j; omega) (by rw [arr_size]; omega)
    rwa [arr_list, arr_list] at this
  have hfew := hm.few
  rw [hN] at hfew hpl hc ⊢
  rw [hp] at hpl ⊢
  clear h hm hN hp HW
  go_enter Try.func46, Try.ntmps46
  go_wp2
  go_loopw [5] (fun i wz => ∃ j : Nat, j ≤ p ∧ i = .int .i64 j ∧ Hid (Below w.heap.size w wz)) (fun i _ => p + 1 - (intOf i).toNat)
  case atStart => exact ⟨0, Nat.zero_le _, rfl, Below.refl _ _⟩
  case round =>
    obtain ⟨j, hj, rfl, HB⟩ := hrel
    rcases Nat.lt_or_ge j p with hjt | hjge
    · obtain ⟨g, rfl, hx⟩ := HAT.out j (by omega)
      have cj := hx _ HB.out
      have hu := HCM.out j
      have hlt := HLT.out j hjt
      obtain ⟨y, hy⟩ : ∃ y, (M.getD j ([], 0)).1 = y := ⟨_, rfl⟩
      rw [hy] at cj hu hlt
      obtain ⟨z, hz⟩ : ∃ z, Nm.cmpN y k = z := ⟨_, rfl⟩
      rw [hz] at hu hlt
      have HU := Lib.hid hu
      have j0 : (0 : Int) ≤ (j : Int) := by omega
      have j1 : (j : Int) < (N : Int) := by omega
      have hwj : IntKind.i64.wrap ((j : Int) + 1) = ((j + 1 : Nat) : Int) := by rw [IntKind.wrap_i64]; omega
      clear hu hy hx hz
      go_wp2_with (go_at_call 24; refine (HU.out _).mono ?_; rintro e w7 ⟨rfl, hb7⟩; have B7 := Lib.hid (HB.out.trans (hb7.mono HB.out.size)); clear hb7)
      go_roundw
      case rel => exact ⟨j + 1, by omega, rfl, B7.out⟩
      case measure => simp [intOf]; omega
    · obtain rfl : p = j := by omega
      rcases Nat.lt_or_ge p N with hpn | hpn
      · obtain ⟨g, rfl, hx⟩ := HAT.out p hpn
        have cj := hx _ HB.out
        have hu := HCM.out p
        have hlt := HST.out hpn
        obtain ⟨y, hy⟩ : ∃ y, (M.getD p ([], 0)).1 = y := ⟨_, rfl⟩
        rw [hy] at cj hu hlt
        obtain ⟨z, hz⟩ : ∃ z, Nm.cmpN y k = z := ⟨_, rfl⟩
        rw [hz] at hu hlt
        have HU := Lib.hid hu
        have j0 : (0 : Int) ≤ (p : Int) := by omega
        have j1 : (p : Int) < (N : Int) := by omega
        clear hu hy hx hz
        go_wp2_with (go_at_call 24; refine (HU.out _).mono ?_; rintro e w7 ⟨rfl, hb7⟩; have B7 := Lib.hid (HB.out.trans (hb7.mono HB.out.size)); clear hb7)
        go_ret
        exact ⟨rfl, B7.out⟩
      · have hnn : ¬ ((p : Int) < (N : Int)) := by omega
        go_wp2
        go_ret
        exact ⟨rfl, HB.out⟩
theorem refThere_any {w : World} {base : Nat} {v : Value} {M : List KV} (h : PRow w base v M) (i : Nat) (hi : i ≤ 1000000) (k : By) :
    Calls Try.prog 47 #[v, .int .i64 (i : Nat), .string ⟨k.toArray⟩] w fun e w' => e = .returned (.bool (thr M i k)) ∧ w' = w := by
  unfold thr
  rcases Nat.lt_or_ge i M.length with hlt | hge
  · obtain ⟨g, c, rfl, _, hx⟩ := prow_at h hlt
    have c0 := (hx w (Below.refl _ _)).1
    rw [List.getElem?_eq_getElem hlt]
    rw [Ti.getD_in hlt] at c0
    generalize M[i] = x at *
    have HI : Hid (((⟨x.1.toArray⟩ : ByteArray).toList == (⟨k.toArray⟩ : ByteArray).toList) = (x.1 == k)) := by
      rw [Hid, Bool.eq_iff_iff, str_iff, arr_list, arr_list, beq_iff_eq]
    obtain ⟨N, hN⟩ : ∃ N, M.length = N := ⟨_, rfl⟩
    rw [hN] at hlt ⊢
    have j0 : (0 : Int) ≤ (i : Int) := by omega
    have j1 : (i : Int) < (N : Int) := by omega
    clear hx h hN
    go_enter Try.func47, Try.ntmps47
    go_wp2
    go_ret
    simp
  · obtain ⟨A, c, rfl, _⟩ := ownK_form h
    rw [List.getElem?_eq_none hge]
    obtain ⟨N, hN⟩ : ∃ N, M.length = N := ⟨_, rfl⟩
    rw [hN] at hge ⊢
    have j1 : ¬ (i : Int) < (N : Int) := by omega
    clear h hN
    go_enter Try.func47, Try.ntmps47
    go_wp2
    go_ret
    exact ⟨rfl, rfl⟩
end Go.Proofs.Ytpnfkgjcnofjnaa.Ti
/- The document's lists: what is told of a key: Get, Below, Exists, Next, Encloser. -/
namespace Go.Proofs.Ytpnfkgjcnofjnaa.Ti
open Go.RowKit Go.Shelf Tr

theorem Sml.sub {M : List KV} (h : Sml M) {x : KV} (hx : x ∈ M) : x.1.length ≤ 255 := by
  obtain ⟨i, hi, rfl⟩ := List.mem_iff_getElem.1 hx
  have := h.short i
  rwa [Ti.getD_in hi] at this
def getM (M : List KV) (s : By) : Option Int := if isN s then (if thr M (plc M (Nm.fold s)) (Nm.fold s) then some (M.getD (plc M (Nm.fold s)) ([], 0)).2 else none) else none
def nextM (M : List KV) (s : By) : Option By := if isN s then (M.find? fun x => decide (0 < Nm.cmpN x.1 s)).map (·.1) else none
theorem thr_lt {M : List KV} {i : Nat} {k : By} (h : thr M i k = true) : i < M.length := by
  unfold thr at h
  cases hm : M[i]? with
  | none => rw [hm] at h; cases h
  | some x => exact (List.getElem?_eq_some_iff.1 hm).1
set_option maxRecDepth 100000 in
theorem refGet_any {w : World} {base : Nat} {v : Value} {M : List KV} (h : PRow w base v M) (hm : Sml M) (s : ByteArray) (hs : s.size ≤ 100000) :
    Calls Try.prog 49 #[v, .string s] w fun e w' => e = .returned (.tuple #[tz ((getM M s.data.toList).getD 0), .bool (getM M s.data.toList).isSome]) ∧ Below w.heap.size w w' := by
  have HF := Lib.hid (refFold_any s w (by omega))
  have HI : Hid (∀ X, Calls Try.prog 27 #[.string s] X fun e w' => e = .returned (.bool (isN s.data.toList)) ∧ Below X.heap.size X w') := fun X => refIs_any s X (by omega)
  obtain ⟨k, hk⟩ : ∃ k, Nm.fold s.data.toList = k := ⟨_, rfl⟩
  have hkl : k.length ≤ 100000 := by rw [← hk, Nm.fold_length]; simpa using hs
  have HP : Hid (∀ X, Below w.heap.size w X → Calls Try.prog 46 #[v, .string ⟨k.toArray⟩] X fun e w' => e = .returned (.int .i64 (plc M k : Nat)) ∧ Below X.heap.size X w') := fun X hb => refPlace_any (ownK_below h hb (Nat.le_refl _)) hm k hkl
  have hpl := plc_le M k
  have hfew := hm.few
  have HT : Hid (∀ X, Below w.heap.size w X → Calls Try.prog 47 #[v, .int .i64 (plc M k : Nat), .string ⟨k.toArray⟩] X fun e w' => e = .returned (.bool (thr M (plc M k) k)) ∧ w' = X) := fun X hb => refThere_any (ownK_below h hb (Nat.le_refl _)) _ (by omega) k
  have HTL : Hid (thr M (plc M k) k = true → plc M k < M.length) := fun h => thr_lt h
  unfold getM
  rw [hk] at HF ⊢
  obtain ⟨p, hp⟩ : ∃ p, plc M k = p := ⟨_, rfl⟩
  rw [hp] at HP HT HTL hpl ⊢
  obtain ⟨tt, htt⟩ : ∃ tt, thr M p k = tt := ⟨_, rfl⟩
  obtain ⟨nn, hnn⟩ : ∃ nn, isN s.data.toList = nn := ⟨_, rfl⟩
  rw [htt] at HT HTL ⊢
  rw [hnn] at HI ⊢
  have H := Lib.hid h
  clear h hk hkl hp htt hnn
  have p0 : (0 : Int) ≤ (p : Int) := by omega
  cases nn with
  | false =>
    go_enter Try.func49, Try.ntmps49
    go_wp2_with (first
      | (go_at_call 23; refine HF.out.mono ?_; rintro e w1 ⟨rfl, hb1⟩; have B1 := Lib.hid hb1; clear hb1 HF)
      | (go_at_call 46; refine (HP.out _ B1.out).mono ?_; rintro e w2 ⟨rfl, hb2⟩; have B2 := Lib.hid (B1.out.trans (hb2.mono B1.out.size)); clear hb2)
      | (go_at_call 27; refine (HI.out _).mono ?_; rintro e w3 ⟨rfl, hb3⟩; have B3 := Lib.hid (B2.out.trans (hb3.mono B2.out.size)); clear hb3))
    go_ret2
    exact ⟨rfl, B3.out⟩
  | true =>
    cases tt with
    | false =>
      go_enter Try.func49, Try.ntmps49
      go_wp2_with (first
        | (go_at_call 23; refine HF.out.mono ?_; rintro e w1 ⟨rfl, hb1⟩; have B1 := Lib.hid hb1; clear hb1 HF)
        | (go_at_call 46; refine (HP.out _ B1.out).mono ?_; rintro e w2 ⟨rfl, hb2⟩; have B2 := Lib.hid (B1.out.trans (hb2.mono B1.out.size)); clear hb2)
        | (go_at_call 47; refine (HT.out _ B3.out).mono ?_; rintro e w4 ⟨rfl, rfl⟩)
        | (go_at_call 27; refine (HI.out _).mono ?_; rintro e w3 ⟨rfl, hb3⟩; have B3 := Lib.hid (B2.out.trans (hb3.mono B2.out.size)); clear hb3))
      go_ret2
      exact ⟨rfl, B3.out⟩
    | true =>
      obtain ⟨g, cp, rfl, _, hx⟩ := prow_at H.out (HTL.out rfl)
      have HX := Lib.hid hx
      obtain ⟨N, hN⟩ : ∃ N, M.length = N := ⟨_, rfl⟩
      have hlt := HTL.out rfl
      rw [hN] at HP HT hlt ⊢
      have p1 : (p : Int) < (N : Int) := by omega
      obtain ⟨y, hy⟩ : ∃ y, (M.getD p ([], 0)).2 = y := ⟨_, rfl⟩
      rw [hy] at HX ⊢
      clear hx hN H HTL hy hpl
      go_enter Try.func49, Try.ntmps49
      go_wp2_with (first
        | (go_at_call 23; refine HF.out.mono ?_; rintro e w1 ⟨rfl, hb1⟩; have B1 := Lib.hid hb1; clear hb1 HF)
        | (go_at_call 46; refine (HP.out _ B1.out).mono ?_; rintro e w2 ⟨rfl, hb2⟩; have B2 := Lib.hid (B1.out.trans (hb2.mono B1.out.size)); clear hb2)
        | (go_at_call 47; refine (HT.out _ B3.out).mono ?_; rintro e w4 ⟨rfl, rfl⟩)
        | (go_at_call 27; refine (HI.out _).mono ?_; rintro e w3 ⟨rfl, hb3⟩; have B3 := Lib.hid (B2.out.trans (hb3.mono B2.out.size)); have c3 := (HX.out _ B3.out).2; clear hb3))
      go_ret2
      exact ⟨rfl, B3.out⟩
theorem app_src {W : World} {base : Nat} {v : Value} {L : List KV} (h : PRow W base v L) (hb : base ≤ W.heap.size) {S : List KV} {A : Option Addr} {c : Nat}
    (hS : (S = [] ∧ (A = none → c = 0)) ∨ ∃ a, A = some a ∧ ∀ j u, (fl pc S)[j]? = some u → W.cell? (a.add j) = some u) (hl : L.length + S.length ≤ 1000000) :
    ∃ A2 c2 w2, (Builtin.append_ #[27, 27] 27 #[v, .slice A S.length c]).run Try.prog W = .ok (.slice A2 (L.length + S.length) c2) w2 ∧ PRow w2 base (.slice A2 (L.length + S.length) c2) (L ++ S) ∧ Below base W w2 := by
  obtain ⟨i4, z4, hi4, hz4, hs4, hb4, hc4⟩ := info_rpair
  have hfin : ∀ a, A = some a → (∀ j u, (fl pc S)[j]? = some u → W.cell? (a.add j) = some u) → ∃ A2 c2 w2, (Builtin.append_ #[27, 27] 27 #[v, .slice A S.length c]).run Try.prog W = .ok (.slice A2 (L.length + S.length) c2) w2 ∧ PRow w2 base (.slice A2 (L.length + S.length) c2) (L ++ S) ∧ Below base W w2 := fun a ha hc => by
    subst ha
    obtain ⟨v2, w2, hr, ho, hgw, _⟩ := run_append_own (P := Try.prog) W base 27 27 48 i4 z4 2 24 Try.underlying27 hi4 hz4 hs4 hb4 hc4 (by decide) v L.length (fl pc L) h a S.length c (fl pc S) (fl_len pc_len S) hc (fun u hu => by
      obtain ⟨x, _, hx⟩ := List.mem_flatMap.1 hu
      exact pc_one x u hx) (by unfold maxLen; omega) (by omega) hb
    obtain ⟨A2, c2, hv2, _⟩ := ownK_form ho
    subst hv2
    refine ⟨A2, c2, w2, hr, ?_, (Below.refl _ W).grown hgw hb (fun q e => (h.lt q e).1)⟩
    unfold PRow
    rw [List.length_append, fl_append]
    exact ho
  cases A with
  | some a =>
    refine hfin a rfl ?_
    rcases hS with ⟨rfl, _⟩ | ⟨a', e, hc⟩
    · intro j u hu; simp [fl] at hu
    · injection e with e; subst e; exact hc
  | none =>
    rcases hS with ⟨rfl, hc⟩ | ⟨a', e, _⟩
    · obtain rfl := hc rfl
      obtain ⟨A2, c2, hv2, _⟩ := ownK_form h
      subst hv2
      refine ⟨A2, c2, W, ?_, ?_, Below.refl _ W⟩
      · simpa using run_append_owned_none (P := Try.prog) (w := W) base 27 27 48 i4 2 Try.underlying27 hi4 _ L.length (fl pc L) h
      · simpa using h
    · cases e
end Go.Proofs.Ytpnfkgjcnofjnaa.Ti
/- The document's lists: Below, Exists, Next, Encloser. -/
namespace Go.Proofs.Ytpnfkgjcnofjnaa.Ti
open Go.RowKit Go.Shelf Tr

set_option maxRecDepth 100000 in
theorem refBelow_any {w : World} {base : Nat} {v : Value} {M : List KV} (h : PRow w base v M) (hm : Sml M) (s : ByteArray) (hs : s.size ≤ 100000) :
    Calls Try.prog 19 #[v, .string s] w fun e w' => ∃ v', e = .returned v' ∧ PRow w' w.heap.size v' (M.filter fun x => Nm.underB x.1 s.data.toList) ∧ Below w.heap.size w w' := by
  obtain ⟨A, c, hv, hc⟩ := ownK_form h
  subst hv
  have HW := Lib.hid h
  obtain ⟨N, hN⟩ : ∃ N, M.length = N := ⟨_, rfl⟩
  have HN := Lib.hid hN
  have HAT : Hid (∀ j, j < N → ∃ g, A = some ⟨g, 0, none⟩ ∧ ∀ X, Below w.heap.size w X → X.cell? ⟨g, j * 2, none⟩ = some (sv (M.getD j ([], 0)).1) ∧ X.cell? ⟨g, j * 2 + 1, none⟩ = some (tz (M.getD j ([], 0)).2)) := fun j hj => by
    obtain ⟨g, cp, e, _, hx⟩ := prow_at HW.out (j := j) (by omega)
    injection e with e _ _
    exact ⟨g, e, hx⟩
  have HUN : Hid (∀ j X, Calls Try.prog 28 #[.string ⟨(M.getD j ([], 0)).1.toArray⟩, .string s] X fun e w' => e = .returned (.bool (Nm.underB (M.getD j ([], 0)).1 s.data.toList)) ∧ Below X.heap.size X w') := fun j X => by
    have := refUnder_any ⟨(M.getD j ([], 0)).1.toArray⟩ s X (by rw [arr_size]; have := hm.short j; omega) (by omega)
    rwa [arr_list] at this
  have hfew := hm.few
  rw [hN] at hfew hc ⊢
  have HTK : Hid (∀ j, j < N → M.take (j + 1) = M.take j ++ [M.getD j ([], 0)]) := fun j hj => by
    rw [List.take_succ_eq_append_getElem (by omega), Ti.getD_in (by omega)]
  clear h hm hN HW
  go_enter Try.func19, Try.ntmps19
  go_wp2
  go_loopw [5, 6] (fun o i wz => ∃ (j : Nat) (A2 : Option Addr) (n2 c2 : Nat), j ≤ N ∧ o = .slice A2 n2 c2 ∧ i = .int .i64 j ∧ Hid (Below w.heap.size w wz ∧ n2 = ((M.take j).filter fun x => Nm.underB x.1 s.data.toList).length ∧ PRow wz w.heap.size (.slice A2 n2 c2) ((M.take j).filter fun x => Nm.underB x.1 s.data.toList))) (fun _ i _ => N - (intOf i).toNat)
  case atStart => exact ⟨0, none, 0, 0, Nat.zero_le _, rfl, rfl, Below.refl _ _, rfl, ⟨by simp [fl], .inl ⟨rfl, rfl⟩⟩⟩
  case round =>
    obtain ⟨j, A2, n2, c2, hj, rfl, rfl, HB⟩ := hrel
    rcases Nat.lt_or_ge j N with hjt | hjge
    · obtain ⟨g, rfl, hx⟩ := HAT.out j hjt
      have hu := HUN.out j
      have htk := HTK.out j hjt
      have cj := (hx _ HB.out.1).1
      have HX := Lib.hid hx
      obtain ⟨x, hxx⟩ : ∃ x, M.getD j ([], 0) = x := ⟨_, rfl⟩
      rw [hxx] at cj hu htk HX
      obtain ⟨y, z⟩ := x
      have HTJ := Lib.hid htk
      have j0 : (0 : Int) ≤ (j : Int) := by omega
      have j1 : (j : Int) < (N : Int) := by omega
      have hwj : IntKind.i64.wrap ((j : Int) + 1) = ((j + 1 : Nat) : Int) := by rw [IntKind.wrap_i64]; omega
      obtain ⟨tt, htt⟩ : ∃ tt, Nm.underB y s.data.toList = tt := ⟨_, rfl⟩
      simp only at hu cj HX
      rw [htt] at hu
      have HTT := Lib.hid htt
      have HU := Lib.hid hu
      have hi2 : (Try.prog.info? 48).map (·.size) = some 2 := by kernel_rfl
      clear hu hx htk hxx htt
      cases tt with
      | false =>
        go_wp2_with (go_at_call 28; refine (HU.out _).mono ?_; rintro e w7 ⟨rfl, hb7⟩; have B7 := Lib.hid hb7; clear hb7)
        go_roundw
        case rel =>
          refine ⟨j + 1, A2, n2, c2, by omega, rfl, rfl, HB.out.1.trans (B7.out.mono HB.out.1.size), ?_⟩
          have e : (M.take (j + 1)).filter (fun x => Nm.underB x.1 s.data.toList) = (M.take j).filter (fun x => Nm.underB x.1 s.data.toList) := by
            rw [HTJ.out, List.filter_append]; simp [HTT.out]
          rw [e]
          exact ⟨HB.out.2.1, ownK_below HB.out.2.2 B7.out (Nat.le_refl _)⟩
        case measure => simp [intOf]; omega
      | true =>
        have HAP : Hid (∀ X, Below wr.heap.size wr X → ∃ A3 c3 w3, (Builtin.append_ #[27, 27] 27 #[.slice A2 n2 c2, .slice (some ⟨X.heap.size, 0, none⟩) 1 1]).run Try.prog (X.alloc (.cells #[sv y, tz z] 48)) = .ok (.slice A3 (n2 + 1) c3) w3 ∧ PRow w3 w.heap.size (.slice A3 (n2 + 1) c3) ((M.take (j + 1)).filter fun x => Nm.underB x.1 s.data.toList) ∧ Below w.heap.size w w3 ∧ n2 + 1 = ((M.take (j + 1)).filter fun x => Nm.underB x.1 s.data.toList).length) := fun X hb => by
          have e : (M.take (j + 1)).filter (fun x => Nm.underB x.1 s.data.toList) = (M.take j).filter (fun x => Nm.underB x.1 s.data.toList) ++ [(y, z)] := by
            rw [HTJ.out, List.filter_append]; simp [HTT.out]
          have h0 := HB.out.1.size
          have hX := hb.size
          have hl : ((M.take j).filter fun x => Nm.underB x.1 s.data.toList).length ≤ 1000 := by
            refine Nat.le_trans (List.length_filter_le _ _) ?_
            rw [List.length_take]; have := HN.out; omega
          have h1 : PRow (X.alloc (.cells #[sv y, tz z] 48)) w.heap.size (.slice A2 n2 c2) ((M.take j).filter fun x => Nm.underB x.1 s.data.toList) :=
            (ownK_below HB.out.2.2 hb (Nat.le_refl _)).alloc _
          obtain ⟨A3, c3, w3, hr, ho, hb3⟩ := app_src h1 (by simp; omega) (S := [(y, z)]) (A := some ⟨X.heap.size, 0, none⟩) (c := 1) (.inr ⟨_, rfl, fun i u hu => by
            rw [addr_add, Nat.zero_add, (Has.fresh X 48 #[sv y, tz z]).cell i]
            simpa [fl, pc] using hu⟩) (Nat.le_trans (Nat.add_le_add_right hl 1) (by decide))
          rw [← HB.out.2.1] at hr ho
          refine ⟨A3, c3, w3, hr, ?_, ((HB.out.1.trans (hb.mono h0)).alloc (by omega) _).trans hb3, ?_⟩
          · rw [e]; exact ho
          · rw [e, List.length_append, ← HB.out.2.1]; rfl
        go_wp2_with (first
          | (go_at_call 28; refine (HU.out _).mono ?_; rintro e w7 ⟨rfl, hb7⟩; have B7 := Lib.hid hb7; have c7 := HX.out _ (HB.out.1.trans (hb7.mono HB.out.1.size)); obtain ⟨c7a, c7b⟩ := c7; obtain ⟨A3, c3, w3, hr, h3⟩ := HAP.out _ hb7; have H3 := Lib.hid h3; have HR := Lib.hid hr; clear hb7 hr h3)
          | (at_builtin; refine wpList_append_at rfl (.tmp 20) (.tmp 25) 27 rfl _ _ rfl rfl HR.out ?_; clear HR))
        go_roundw
        case rel => exact ⟨j + 1, A3, n2 + 1, c3, by omega, rfl, rfl, H3.out.2.1, H3.out.2.2, H3.out.1⟩
        case measure => simp [intOf]; omega
    · obtain rfl : N = j := by omega
      have hnn : ¬ ((N : Int) < (N : Int)) := by omega
      have HE : Hid ((M.take N).filter (fun x => Nm.underB x.1 s.data.toList) = M.filter (fun x => Nm.underB x.1 s.data.toList)) := by
        rw [Hid, List.take_of_length_le (by have := HN.out; omega)]
      go_wp2
      go_ret
      refine ⟨_, rfl, ?_, HB.out.1⟩
      rw [← HE.out]
      have h2 := HB.out.2.2
      exact h2
end Go.Proofs.Ytpnfkgjcnofjnaa.Ti
