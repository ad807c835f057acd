/- Texts of the proofs, merged. -/
import Derived.Test.YtpnfkgjcnofjnaaMgTe
/- The first key behind labels: the program's after. -/
namespace Go.Proofs.Ytpnfkgjcnofjnaa.Ti
open Go.RowKit Go.Shelf Tr
attribute [local go_sem] Oper.semAt_some

/-- the first key of the kids from one on. -/
def fromK (n : No TV) (fr : Nat) : Option By := fstK (n.2.kids.drop fr)
theorem fromK_lt {n : No TV} (hok : ok n) {fr : Nat} {m : No TV} (hm : n.2.kids[fr]? = some m) : 0 < (nkv m).length ∧ fromK n fr = some ((nkv m).getD 0 ([], 0)).1 := by
  have ⟨h1, h2⟩ := List.getElem?_eq_some_iff.1 hm
  have hk := ok_kid hok.1 m (List.mem_of_getElem? hm)
  have hne : nents m ≠ [] := fun e => by have := (nents_nil hk.1).1 e; rw [hk.2] at this; cases this
  unfold fromK fstK
  rw [List.drop_eq_getElem_cons h1, h2, List.findSome?_cons, nkv_ents]
  cases hl : nents m with
  | nil => exact absurd hl hne
  | cons e l => simp
theorem fromK_ge {n : No TV} {fr : Nat} (h : n.2.kids.length ≤ fr) : fromK n fr = none := by
  unfold fromK fstK; rw [List.drop_eq_nil_of_le h]; rfl
/-- after's results, in their boxes. -/
structure AfB (w W : World) (x : By) (y : Bool) : Prop where
  b0 : Has W w.heap.size 28 #[sv x]
  b1 : Has W (w.heap.size + 1) 4 #[.bool y]
  bel : Below w.heap.size w W
theorem AfB.chg {w A B : World} {x : By} {y : Bool} {m : Nat} {S : Bl} (h : AfB w A x y) (hc : Chg m S A B) (hm : w.heap.size + 1 < m) : AfB w B x y :=
  ⟨(hc.block _ h.b0.lt (.inl (by omega))).trans h.b0, (hc.block _ h.b1.lt (.inl (by omega))).trans h.b1, hc.os.trans h.bel.os, hc.tape.trans h.bel.tape, hc.output.trans h.bel.output, Nat.le_trans h.bel.size hc.size, fun k hk => (hc.block k (Nat.lt_of_lt_of_le hk h.bel.size) (.inl (by omega))).trans (h.bel.block k hk)⟩
theorem AfB.put {w A : World} {x : By} {y : Bool} (h : AfB w A x y) (x' : By) (y' : Bool) : AfB w ((A.setCell ⟨w.heap.size, 0, none⟩ (sv x')).setCell ⟨w.heap.size + 1, 0, none⟩ (.bool y')) x' y' :=
  ⟨(h.b0.set 0 _).far (by simp) _, (h.b1.far (by simp) _).set 0 _, (h.bel.setCell (p := ⟨w.heap.size, 0, none⟩) (Nat.le_refl _) _).setCell (p := ⟨w.heap.size + 1, 0, none⟩) (by simp) _⟩
theorem AfB.shut {w A : World} {x : By} {y : Bool} (h : AfB w A x y) {D : Nat} (hD : w.heap.size + 1 < D) (o : Obj) : AfB w (A.putObj D o) x y := h.chg (Chg.putObj (S := fun _ => False) (n := D) o (Nat.le_refl _) (fun h => h)) (by omega)
theorem AfB.c0 {w A : World} {x : By} {y : Bool} (h : AfB w A x y) : A.cell? ⟨w.heap.size, 0, none⟩ = some (sv x) := by rw [h.b0.cell]; rfl
theorem AfB.c1 {w A : World} {x : By} {y : Bool} (h : AfB w A x y) : A.cell? ⟨w.heap.size + 1, 0, none⟩ = some (.bool y) := by rw [h.b1.cell]; rfl
theorem AfB.drew {w A : World} {x : By} {y : Bool} (h : AfB w A x y) : AfB w A.drew x y := ⟨h.b0, h.b1, h.bel.drew⟩
theorem after_results {w : World} {tmps : Array Value} {b2 b3 : Nat} {x : ByteArray} {y : Bool} (h4 : tmps[4]? = some (.pointer (some ⟨b2, 0, none⟩))) (h5 : tmps[5]? = some (.pointer (some ⟨b3, 0, none⟩)))
    (c4 : w.cell? ⟨b2, 0, none⟩ = some (.string x)) (c5 : w.cell? ⟨b3, 0, none⟩ = some (.bool y)) : (results Try.f57 tmps).run Try.prog w = .ok (.tuple #[.string x, .bool y]) w := by
  simp [results, Try.results57, go_sem, h4, h5, c4, c5]
def AftP (q : List By) : Prop := ∀ {w : World} {top : Option Nat} {b : Nat} {n : No TV} {F : List Nat} {A : Option Addr} {c C : Nat} {ls : List By}, ls.reverse = q → NodeM w top b n F → ok n → (nents n).length ≤ 1099511627776 →
    Rd w C (.slice A ls.length c) ls → ls.length ≤ 1099511627776 →
    Calls Try.prog 57 #[ptr b, .slice A ls.length c] w fun e w' => e = .returned (optB (aft q n)) ∧ Below w.heap.size w w'
set_option maxRecDepth 100000 in
set_option maxHeartbeats 2000000 in
theorem after_step (q : List By) (IH : ∀ (x : By) (q' : List By), q = x :: q' → AftP q') : AftP q := by
  intro w top b n F A c C ls hq h hok hN hv hls
  refine (callsIn_wide (n := 9)).1 ?_
  obtain ⟨r, hr0⟩ : ∃ r, r = aft q n := ⟨_, rfl⟩
  rw [← hr0]
  obtain ⟨vv, hvv⟩ : ∃ vv, vv = Value.slice A ls.length c := ⟨_, rfl⟩
  rw [← hvv]
  refine callsIn_of_wp_marks Try.func57 rfl trivial ?_ rfl
  simp only [Try.ntmps57, List.size_toArray, List.length_cons, List.length_nil, Nat.reduceAdd, Nat.reduceSub, Array.replicate_succ, Array.replicate_zero, List.push_toArray, List.append_toArray, List.nil_append, List.cons_append]
  refine wpIn_seq_k (fun K hK => ?_)
  have HK := Lib.hid hK
  clear hK
  gi_wp2
  refine HK.out _ _ ?_
  clear HK K
  refine wpIn_seq_k (fun K hK => ?_)
  have HK := Lib.hid hK
  clear hK
  gi_wp2
  refine HK.out _ _ ?_
  clear HK K
  refine wpIn_seq_k (fun K hK => ?_)
  have HT : ∀ (fr : Nat) (u7 u8 u9 u10 u11 u12 u13 u14 u15 u16 u17 u18 u19 u20 u21 u22 u23 u24 u25 u26 u27 u28 u29 u30 u31 u32 u33 u34 u35 u36 u37 u38 u39 u40 u41 u42 u43 u44 u45 u46 u47 u48 : Value) (W : World), fr ≤ n.2.kids.length → fromK n fr = r → AfB w W [] false → K { tmps := #[ptr b, vv, undef, undef, .pointer (some ⟨w.heap.size, 0, none⟩), .pointer (some ⟨w.heap.size + 1, 0, none⟩), .int .i64 fr, u7, u8, u9, u10, u11, u12, u13, u14, u15, u16, u17, u18, u19, u20, u21, u22, u23, u24, u25, u26, u27, u28, u29, u30, u31, u32, u33, u34, u35, u36, u37, u38, u39, u40, u41, u42, u43, u44, u45, u46, u47, u48, undef, undef, undef, undef, undef, undef, undef, undef, undef, undef, undef, undef, undef, undef, undef, undef, undef], defers := [] } W := by
    intro fr u7 u8 u9 u10 u11 u12 u13 u14 u15 u16 u17 u18 u19 u20 u21 u22 u23 u24 u25 u26 u27 u28 u29 u30 u31 u32 u33 u34 u35 u36 u37 u38 u39 u40 u41 u42 u43 u44 u45 u46 u47 u48 W hfr hres hB
    refine hK _ _ ?_
    clear hK K
    dsimp only
    obtain ⟨kv, ks, F1, hF, hb, hr, hk⟩ := h.below hB.bel (Nat.le_refl _)
    have hkn := hk.len
    have hkle := kids_le hok.1
    have hkb : n.2.kids.length ≤ 1099511627776 := by unfold nents at hN; simp at hN; omega
    have c4 : W.cell? ⟨b, 4, none⟩ = some kv := by rw [hb.cell]; cases top <;> rfl
    have c0 : W.cell? ⟨w.heap.size, 0, none⟩ = some (sv []) := by rw [hB.b0.cell]; rfl
    have c1 : W.cell? ⟨w.heap.size + 1, 0, none⟩ = some (.bool false) := by rw [hB.b1.cell]; rfl
    have f0 := hB.b0.free 0
    have f1 := hB.b1.free 0
    rcases Nat.lt_or_ge fr n.2.kids.length with hlt | hge
    · obtain ⟨g, c, hkv, hcg, _⟩ := own_pos hr (by omega)
      subst hkv
      generalize hkl : ks.length = kn at *
      have hrX : W.ownsRow 0 73 1 (.slice (some ⟨g, 0, none⟩) kn c) kn (ptrs ks) := by
        have := hr
        unfold Row at this
        rwa [hkl] at this
      have i4 : ¬ c = fr := by omega
      have HKN := Lib.hid hkn
      have HKL := Lib.hid hkl
      have i1 : (0 : Int) ≤ (fr : Int) := by omega
      have i2 : (fr : Int) ≤ (kn : Int) := by omega
      have i3 : (kn : Int) ≤ (c : Int) := by omega
      clear hkn hkl
      obtain ⟨m, hm⟩ : ∃ m, n.2.kids[fr]? = some m := ⟨_, List.getElem?_eq_getElem hlt⟩
      obtain ⟨b1, FA, F2, FB, hF1, h6, h7, _⟩ := hk.kid hm
      have ci := own_cells hrX fr (ptr b1) (by simp [ptrs, h6])
      obtain ⟨hpos, hfk⟩ := fromK_lt hok hm
      gi_wp2
      generalize hkd : kn - fr = kd
      generalize c - fr = cd
      have hkd0 : (0 : Int) < (kd : Int) := by have := HKN.out; omega
      refine wpIn_loop_once ?_
      gi_wp2_with (refine ⟨trivial, ?_⟩; gi_at_call 83; refine (callsIn_wide.2 (all_any _ _)).mono ?_; rintro e w5 ⟨rfl, rfl⟩)
      have hmm : m ∈ n.2.kids := List.mem_of_getElem? hm
      have hNm : (nkv m).length ≤ 1099511627776 := Nat.le_trans (kid_le hmm) (by rw [kvs_ents]; unfold nents at hN; simp at hN ⊢; omega)
      have hseq := all_seq m 8 W (W.alloc (.cells #[ptr b1] 73)) none b1 W.heap.size F2 h7 (kid_ok hok.1 hmm) hNm
      have hF2 : ∀ j ∈ F2, j < w.heap.size := fun j hj => h.lt j (by rw [hF, hF1]; simp [hj])
      obtain ⟨X5, hX5⟩ : ∃ X5, X5 = W.alloc (.cells #[ptr b1] 73) := ⟨_, rfl⟩
      rw [← hX5] at hseq ⊢
      have hzW := hB.b1.lt
      have hB5 : AfB w X5 [] false := by rw [hX5]; exact ⟨hB.b0.alloc _, hB.b1.alloc _, hB.bel.alloc hB.bel.size _⟩
      have hb5 : Has X5 W.heap.size 73 #[ptr b1] := by rw [hX5]; exact Has.fresh _ _ _
      have hz5 : X5.heap.size = W.heap.size + 1 := by rw [hX5]; simp
      obtain ⟨bx, hbx⟩ : ∃ bx, bx = W.heap.size := ⟨_, rfl⟩
      have hW0 : ∀ j ∈ F2, W.heap[j]? = w.heap[j]? := fun j hj => hB.bel.block j (hF2 j hj)
      rw [← hbx] at hseq hb5 hz5 hzW ⊢
      have hkd : ∀ {Y : World}, Below w.heap.size w Y → Has Y bx 73 #[ptr b1] → AllD bx b1 F2 W Y := fun hY hb => ⟨hb, fun j hj => (hY.block j (hF2 j hj)).trans (hW0 j hj).symm⟩
      obtain ⟨key, hkey⟩ : ∃ key, key = ((nkv m).getD 0 ([], 0)).1 := ⟨_, rfl⟩
      rw [← hkey] at hfk
      clear hX5 c4 c0 c1 f0 f1 hr hrX hb ci h6 h7 hk hF hF1 hW0 hbx hB
      refine wpIn_rangeFunc_S (D := AllD bx b1 F2 W) (N := (nkv m).length) rfl (by omega) (gf := 97) (lb := #[.pointer (some ⟨bx, 0, none⟩)]) rfl trivial (enters_of Try.func97 (by kernel_rfl) rfl)
        hseq (fun _ => rfl)
        (fun j T Y => j = 0 ∧ (∀ q, T q ↔ q = w.heap.size ∨ q = w.heap.size + 1) ∧ AfB w Y [] false ∧ Has Y bx 73 #[ptr b1])
        (fun cd j T Y => cd = .ret ∧ AfB w Y key true ∧ (∀ q, T q ↔ q = w.heap.size ∨ q = w.heap.size + 1) ∧ Has Y bx 73 #[ptr b1])
        (fun q => q = w.heap.size ∨ q = w.heap.size + 1) ?hI ?hIx ?hD ?hDx ?hB ?h0 ?a1 ?assign ?body ?done ?stop
      case hI =>
        rintro j T Y Z ⟨hj, hT, hA, hb⟩ hc
        exact ⟨hj, hT, hA.chg hc (by omega), (hc.block _ hb.lt (.inl (by omega))).trans hb⟩
      case hIx =>
        rintro cd j T Y Z ⟨hcd, hA, hT, hb⟩ hc
        exact ⟨hcd, hA.chg hc (by omega), hT, (hc.block _ hb.lt (.inl (by omega))).trans hb⟩
      case hD =>
        rintro j T Y ⟨_, _, hA, hb⟩
        exact hkd hA.bel hb
      case hDx =>
        rintro cd j T Y ⟨_, hA, _, hb⟩
        exact hkd hA.bel hb
      case hB =>
        rintro j T Y ⟨_, hT, hA, _⟩ q hq
        rcases (hT q).1 hq with h1 | h1
        · have := hA.b0.lt; omega
        · have := hA.b1.lt; omega
      case h0 => exact ⟨rfl, fun q => Iff.rfl, hB5, hb5⟩
      case assign =>
        intro l2 j Y K hK
        unfold encL
        gi_wp2
        exact hK
      case body =>
        rintro l2 j T Y ⟨rfl, hT, hA, hb⟩ hj hl2
        have hkey2 : ((nkv m)[0]?.getD ([], 0)).1 = key := by rw [hkey]; simp [List.getD]
        simp only [hkey2]
        generalize ((nkv m)[0]?.getD ([], 0)).2 = val
        have c0 := hA.c0
        have c1 := hA.c1
        have f0 := hA.b0.free 0
        have f1 := hA.b1.free 0
        have hp := hA.put key true
        have HP := Lib.hid hp
        have HA := Lib.hid hA
        have HT2 := Lib.hid hT
        have HB2 := Lib.hid hb
        clear hp hA hkey hkey2 hj hT hb
        gi_wp2
        refine ⟨T, ⟨rfl, HP.out, HT2.out, ?_⟩, ?_, fun q hq => .inl hq⟩
        · exact (HB2.out.far (p := ⟨w.heap.size, 0, none⟩) (by show bx ≠ w.heap.size; omega) _).far (p := ⟨w.heap.size + 1, 0, none⟩) (by show bx ≠ w.heap.size + 1; omega) _
        · exact ((FrS.refl T Y).setCell (p := ⟨w.heap.size, 0, none⟩) (.inl ((HT2.out _).2 (.inl rfl))) _).setCell (p := ⟨w.heap.size + 1, 0, none⟩) (.inl ((HT2.out _).2 (.inr rfl))) _
      case done =>
        rintro D T Y hD0 ⟨h0, _⟩ _ _ _ _
        omega
      case stop =>
        rintro D cd j T Y hD0 ⟨rfl, hA, hT, hb⟩ hfr' hsub hnD hKd
        have hA6 := hA.shut (D := D) (by omega) (.deferred none)
        clear hseq hA
        gi_wp2
        refine ⟨by simp, .inl ⟨_, _, rfl, run_takeDeferred hKd, ?_⟩⟩
        refine ⟨_, after_results rfl rfl hA6.c0 hA6.c1, ?_, hA6.bel⟩
        rw [← hres, hfk]; rfl
    · obtain ⟨A, c, hkv⟩ := own_form hr
      subst hkv
      have hk0 : fr = n.2.kids.length := by omega
      have hks : ks.length = fr := by omega
      have hcl : fr ≤ c := by rcases hr.2 with ⟨e, h0⟩ | ⟨g', cap, cur, e, _, _, hc, _⟩ <;> injection e with e1 e2 e3 <;> omega
      rw [hks] at c4
      have i1 : (0 : Int) ≤ (fr : Int) := by omega
      have i3 : (fr : Int) ≤ (c : Int) := by omega
      have hP := hB.put [] false
      have HP := Lib.hid hP
      have HN := Lib.hid (fromK_ge (n := n) (fr := fr) (by omega))
      clear hr hb hk hkn hP hB hks hk0 hge hfr hkle hkb
      gi_wp2
      all_goals
        refine wpIn_loop_once ?_
        gi_wp2
        exact ⟨_, after_results rfl rfl HP.out.c0 HP.out.c1, by rw [← hres, HN.out]; rfl, HP.out.bel⟩
  clear hK
  obtain ⟨W, hW⟩ : ∃ W, W = (w.alloc (.cells #[sv []] 28)).alloc (.cells #[.bool false] 4) := ⟨_, rfl⟩
  have hB : AfB w W [] false := by
    have f1 := Has.fresh (w.alloc (.cells #[sv []] 28)) 4 #[.bool false]
    simp only [World.size_alloc] at f1
    rw [hW]
    exact ⟨(Has.fresh w _ _).alloc _, f1, ((Below.refl _ w).alloc (Nat.le_refl _) _).alloc (by simp) _⟩
  rw [show (Value.string { data := #[] }) = sv [] from rfl, ← hW]
  clear hW
  subst hvv
  have HT' := Lib.hid HT
  have HB := Lib.hid hB
  cases q with
  | nil =>
    have e : ls = [] := by simpa using hq
    subst e
    have hres : fromK n 0 = r := by rw [hr0]; rfl
    clear HT hB IH hv hr0
    gi_wp2
    exact HT'.out 0 _ _ _ _ _ _ _ _ _ _ _ _ _ _ _ _ _ _ _ _ _ _ _ _ _ _ _ _ _ _ _ _ _ _ _ _ _ _ _ _ _ _ W (Nat.zero_le _) hres HB.out
  | cons x q' =>
    obtain ⟨l', hl'⟩ : ∃ l', ls = l' ++ [x] := ⟨q'.reverse, by rw [← List.reverse_reverse ls, hq]; simp⟩
    subst hl'
    have hq' : l'.reverse = q' := by simpa using hq
    obtain ⟨k, hk⟩ : ∃ k, l'.length = k := ⟨_, rfl⟩
    have hll : (l' ++ [x]).length = k + 1 := by simp [hk]
    have hv' := hv
    obtain ⟨A', c', e0, hc, hcell⟩ := hv'
    injection e0 with e1 _ e3
    subst e1 e3
    obtain ⟨gl, ol, rfl, hgC, hcs⟩ := hcell (by simp)
    have hcx : w.cell? ⟨gl, ol + k, none⟩ = some (sv x) := by
      rw [hcs k (by omega)]
      simp [← hk]
    have hgw : gl < w.heap.size := World.block_lt_of_cell? _ _ hcx
    have hcx' : W.cell? ⟨gl, ol + k, none⟩ = some (sv x) := (hB.bel.cell (p := ⟨gl, ol + k, none⟩) hgw).trans hcx
    have hnW := h.below hB.bel (Nat.le_refl _)
    have hpl := place_any hnW hok.1 (⟨x.toArray⟩ : ByteArray) (by have := kids_le hok.1; unfold nents at hN; simp at hN; omega)
    simp only at hpl
    rw [hll] at hc hls
    have HF : ∀ Q : Value → Prop, Q (.slice (some ⟨gl, ol, none⟩) (k + 1) c) → Q (.slice (some ⟨gl, ol, none⟩) (l' ++ [x]).length c) := fun Q hQ => by rw [hll]; exact hQ
    rw [hll] at HT' ⊢
    have hwr : IntKind.i64.wrap ((k : Int) + 1 - 1) = (k : Int) := by rw [IntKind.wrap_i64]; omega
    have hi0 : (0 : Int) ≤ (k : Int) := by omega
    have hi1 : (k : Int) < (k : Int) + 1 := by omega
    have hi2 : (k : Int) ≤ (c : Int) := by omega
    cases hs : n.2.sel x with
    | none =>
      rw [hs] at hpl
      simp only [Option.isSome_none] at hpl
      have HP := Lib.hid hpl
      have hres : fromK n (n.2.idx x) = r := by rw [hr0, aft, hs]; rfl
      have hidx := idx_le n.2 x
      clear HT hB IH hv hr0 hpl hs hcell hcs hll hq hq' hk HF h hnW
      gi_wp2_with (refine ⟨trivial, ?_⟩; gi_at_call 75; refine (callsIn_wide.2 HP.out).mono ?_; rintro e w5 ⟨rfl, hb5⟩)
      exact HT'.out (n.2.idx x) _ _ _ _ _ _ _ _ _ _ _ _ _ _ _ _ _ _ _ _ _ _ _ _ _ _ _ _ _ _ _ _ _ _ _ _ _ _ _ _ _ _ w5 hidx hres (HB.out.chg (Chg.of_below (n := W.heap.size) (S := fun _ => False) hb5 (Nat.le_refl _)) (by have := HB.out.b1.lt; omega))
    | some m =>
      rw [hs] at hpl
      simp only [Option.isSome_some] at hpl
      have HP := Lib.hid hpl
      have hidx : n.2.kids[n.2.idx x]? = some m := by
        rcases idx_sel hok.1 x with ⟨m', e1, e2⟩ | ⟨e1, _⟩
        · rw [hs] at e1; injection e1 with e1; rw [e1]; exact e2
        · rw [hs] at e1; cases e1
      have hilt := (List.getElem?_eq_some_iff.1 hidx).1
      obtain ⟨g, cap, ks, F1, b1, F2, hF1, hb, hr, hk2, c4, hil, ci, hnm⟩ := hnW.rowAt hidx
      have hokm := ok_sel hok.1 hs
      have hNm : (nents m).length ≤ 1099511627776 := by have := sel_ents_le hs; unfold nents at hN this ⊢; simp at hN this ⊢; omega
      have HI := Lib.hid (fun (Y : World) (hb : Below W.heap.size W Y) => IH x q' rfl (w := Y) (C := Y.heap.size) hq' (hnm.below hb (Nat.le_refl _)) hokm.1 hNm ((by
        refine ⟨_, _, rfl, by rw [hk]; omega, fun h0 => ⟨gl, ol, rfl, Nat.lt_of_lt_of_le hgw (Nat.le_trans hB.bel.size hb.size), fun j hj => ?_⟩⟩
        rw [hb.cell (p := ⟨gl, ol + j, none⟩) (Nat.lt_of_lt_of_le hgw hB.bel.size), hB.bel.cell (p := ⟨gl, ol + j, none⟩) hgw, hcs j (by simp; omega)]; simp [hj]) : Rd Y Y.heap.size (.slice (some ⟨gl, ol, none⟩) l'.length c) l') (by rw [hk]; omega))
      rw [hk] at HI
      have hr1 : r = (aft q' m).or (fromK n (n.2.idx x + 1)) := by rw [hr0, aft, hs]; rfl
      have hgW : g < W.heap.size := World.block_lt_of_cell? _ _ ci
      have hbW : b < W.heap.size := hnW.blk_lt
      have hklen : ks.length = n.2.kids.length := hk2.len
      have hkle := kids_le hok.1
      have hix : n.2.idx x < 1099511627776 := by unfold nents at hN; simp at hN; omega
      generalize aft q' m = r1 at *
      generalize n.2.idx x = ix at *
      have hx0 : (0 : Int) ≤ (ix : Int) := by omega
      have hx1 : (ix : Int) < (ks.length : Int) := by omega
      generalize ks.length = kn at *
      clear HT hB IH hv hr0 hpl hs hcell hcs hll hq hq' hk HF h hnW hidx hr hb hF1 hk2 hnm hokm hN hNm hklen hkle
      gi_wp2_with (refine ⟨trivial, ?_⟩; gi_at_call 75; refine (callsIn_wide.2 HP.out).mono ?_; rintro e w5 ⟨rfl, hb5⟩; have c4' := (hb5.cell (p := ⟨b, 4, none⟩) hbW).trans c4; have ci' := (hb5.cell (p := ⟨g, ix, none⟩) hgW).trans ci; have HB5 := Lib.hid hb5; clear c4 ci hb5)
      refine wpIn_mono (Q := fun e a' W' => e = .normal ∧ ∃ u7 u9 u12 u13 u14 u15 u16 u17 u18 u19 u20 u21 u22 u23 u24 u25 u26 u27 u28 u29 u30 u31 u32 u33 u34 u35 u36 u37 u38 u39 u40 u41 u42 u43 u44 u45 u46 u47 u48, a' = { tmps := #[ptr b, .slice (some ⟨gl, ol, none⟩) (k + 1) c, undef, undef, .pointer (some ⟨w.heap.size, 0, none⟩), .pointer (some ⟨w.heap.size + 1, 0, none⟩), .int .i64 0, u7, .int .i64 ix, u9, .string ⟨(r1.getD []).toArray⟩, .bool r1.isSome, u12, u13, u14, u15, u16, u17, u18, u19, u20, u21, u22, u23, u24, u25, u26, u27, u28, u29, u30, u31, u32, u33, u34, u35, u36, u37, u38, u39, u40, u41, u42, u43, u44, u45, u46, u47, u48, undef, undef, undef, undef, undef, undef, undef, undef, undef, undef, undef, undef, undef, undef, undef, undef, undef], defers := [] } ∧ AfB w W' [] false) ?_ ?_
      rotate_left
      · rintro e a' W' ⟨rfl, u7, u9, u12, u13, u14, u15, u16, u17, u18, u19, u20, u21, u22, u23, u24, u25, u26, u27, u28, u29, u30, u31, u32, u33, u34, u35, u36, u37, u38, u39, u40, u41, u42, u43, u44, u45, u46, u47, u48, rfl, hB6⟩
        have HB6 := Lib.hid hB6
        have c0 := hB6.c0
        have c1 := hB6.c1
        have f0 := hB6.b0.free 0
        have f1 := hB6.b1.free 0
        clear hB6
        dsimp only
        cases r1 with
        | none =>
          have hwr2 : IntKind.i64.wrap ((ix : Int) + 1) = ((ix + 1 : Nat) : Int) := by rw [IntKind.wrap_i64]; omega
          have hres : fromK n (ix + 1) = r := by rw [hr1]; rfl
          gi_wp2
          exact HT'.out (ix + 1) _ _ _ _ _ _ _ _ _ _ _ _ _ _ _ _ _ _ _ _ _ _ _ _ _ _ _ _ _ _ _ _ _ _ _ _ _ _ _ _ _ _ W' (by omega) hres HB6.out
        | some key =>
          have HP6 := Lib.hid (HB6.out.put key true)
          gi_wp2
          exact ⟨_, after_results rfl rfl HP6.out.c0 HP6.out.c1, by rw [hr1]; rfl, HP6.out.bel⟩
      have mixed : Try.prog.follows .mixedOrders = true := by kernel_rfl
      have hS0 : (fun X : World => X.cell? ⟨b, 4, none⟩ = some (.slice (some ⟨g, 0, none⟩) kn cap) ∧ X.cell? ⟨g, ix, none⟩ = some (ptr b1)) w5.drew := ⟨c4', ci'⟩
      refine wpIn_region_S2 (S := fun X : World => X.cell? ⟨b, 4, none⟩ = some (.slice (some ⟨g, 0, none⟩) kn cap) ∧ X.cell? ⟨g, ix, none⟩ = some (ptr b1)) mixed 16 #[false, false, false, false, false, false, false, false, false, false, false, false, false, false, false, false] rfl rfl ?_
      refine wpAnyS_take (i := 0) (v := ptr b) rfl (by kernel_rfl) (by kernel_rfl) (by kernel_rfl) (by kernel_rfl) (fun _ _ _ h => by cases h.1) ⟨Or.inl ⟨by rfl, fun W' hW' => (by go_simp)⟩, rfl, fun _ => rfl⟩ hS0 ?_
      simp only [Act.put, List.getElem_toArray, List.getElem_cons_zero, List.setIfInBounds_toArray, List.set_cons_zero, List.set_cons_succ]
      refine wpAnyS_take (i := 1) (v := ptr b) rfl (by kernel_rfl) (by kernel_rfl) (by kernel_rfl) (by kernel_rfl) (fun _ _ _ h => by cases h.1) ⟨Or.inl ⟨by rfl, fun W' hW' => (by go_simp)⟩, rfl, fun _ => rfl⟩ hS0 ?_
      simp only [Act.put, List.getElem_toArray, List.getElem_cons_zero, List.getElem_cons_succ, List.setIfInBounds_toArray, List.set_cons_zero, List.set_cons_succ]
      refine wpAnyS_take (i := 2) (v := .pointer (some ⟨b, 4, none⟩)) rfl (by kernel_rfl) (by kernel_rfl) (by kernel_rfl) (by kernel_rfl) (fun _ _ _ h => by cases h.1) ⟨Or.inl ⟨by rfl, fun W' hW' => (by go_simp)⟩, rfl, fun _ => rfl⟩ hS0 ?_
      simp only [Act.put, List.getElem_toArray, List.getElem_cons_zero, List.getElem_cons_succ, List.setIfInBounds_toArray, List.set_cons_zero, List.set_cons_succ]
      refine wpAnyS_take (i := 3) (v := .slice (some ⟨g, 0, none⟩) kn cap) rfl (by kernel_rfl) (by kernel_rfl) (by kernel_rfl) (by kernel_rfl) (fun _ _ _ h => by cases h.1) ⟨Or.inl ⟨by rfl, fun W' hW' => (by have := hW'.1; go_simp)⟩, rfl, fun _ => rfl⟩ hS0 ?_
      simp only [Act.put, List.getElem_toArray, List.getElem_cons_zero, List.getElem_cons_succ, List.setIfInBounds_toArray, List.set_cons_zero, List.set_cons_succ]
      refine wpAnyS_take (i := 4) (v := .int .i64 ix) rfl (by kernel_rfl) (by kernel_rfl) (by kernel_rfl) (by kernel_rfl) (fun _ _ _ h => by cases h.1) ⟨Or.inl ⟨by rfl, fun W' hW' => (by go_simp)⟩, rfl, fun _ => rfl⟩ hS0 ?_
      simp only [Act.put, List.getElem_toArray, List.getElem_cons_zero, List.getElem_cons_succ, List.setIfInBounds_toArray, List.set_cons_zero, List.set_cons_succ]
      refine wpAnyS_take (i := 5) (v := .pointer (some ⟨g, ix, none⟩)) rfl (by kernel_rfl) (by kernel_rfl) (by kernel_rfl) (by kernel_rfl) (fun _ _ _ h => by cases h.1) ⟨Or.inl ⟨by rfl, fun W' hW' => (by go_simp)⟩, rfl, fun _ => rfl⟩ hS0 ?_
      simp only [Act.put, List.getElem_toArray, List.getElem_cons_zero, List.getElem_cons_succ, List.setIfInBounds_toArray, List.set_cons_zero, List.set_cons_succ]
      refine wpAnyS_take (i := 6) (v := ptr b1) rfl (by kernel_rfl) (by kernel_rfl) (by kernel_rfl) (by kernel_rfl) (fun _ _ _ h => by cases h.1) ⟨Or.inl ⟨by rfl, fun W' hW' => (by have := hW'.2; go_simp)⟩, rfl, fun _ => rfl⟩ hS0 ?_
      simp only [Act.put, List.getElem_toArray, List.getElem_cons_zero, List.getElem_cons_succ, List.setIfInBounds_toArray, List.set_cons_zero, List.set_cons_succ]
      refine wpAnyS_take (i := 7) (v := .slice (some ⟨gl, ol, none⟩) (k + 1) c) rfl (by kernel_rfl) (by kernel_rfl) (by kernel_rfl) (by kernel_rfl) (fun _ _ _ h => by cases h.1) ⟨Or.inl ⟨by rfl, fun W' hW' => (by go_simp)⟩, rfl, fun _ => rfl⟩ hS0 ?_
      simp only [Act.put, List.getElem_toArray, List.getElem_cons_zero, List.getElem_cons_succ, List.setIfInBounds_toArray, List.set_cons_zero, List.set_cons_succ]
      refine wpAnyS_take (i := 8) (v := .int .i64 k) rfl (by kernel_rfl) (by kernel_rfl) (by kernel_rfl) (by kernel_rfl) (fun _ _ _ h => by cases h.1) ⟨Or.inl ⟨by rfl, fun W' hW' => (by go_simp)⟩, rfl, fun _ => rfl⟩ hS0 ?_
      simp only [Act.put, List.getElem_toArray, List.getElem_cons_zero, List.getElem_cons_succ, List.setIfInBounds_toArray, List.set_cons_zero, List.set_cons_succ]
      refine wpAnyS_take (i := 9) (v := .slice (some ⟨gl, ol, none⟩) k c) rfl (by kernel_rfl) (by kernel_rfl) (by kernel_rfl) (by kernel_rfl) (fun _ _ _ h => by cases h.1) ⟨Or.inl ⟨by rfl, fun W' hW' => (by go_simp)⟩, rfl, fun _ => rfl⟩ hS0 ?_
      simp only [Act.put, List.getElem_toArray, List.getElem_cons_zero, List.getElem_cons_succ, List.setIfInBounds_toArray, List.set_cons_zero, List.set_cons_succ]
      refine wpAnyS_ready (rs := [10]) (by kernel_rfl) (by simp) (AllS.cons rfl rfl (fun K2 hK2 => ?_) AllS.nil)
      go_simp
      refine ⟨trivial, ?_⟩
      refine (callsIn_wide.2 (HI.out w5.drew HB5.out.drew)).mono ?_
      rintro e w6 ⟨rfl, hb6⟩
      dsimp only
      have hS2 : (fun X : World => X.cell? ⟨b, 4, none⟩ = some (.slice (some ⟨g, 0, none⟩) kn cap) ∧ X.cell? ⟨g, ix, none⟩ = some (ptr b1)) w6 := ⟨(hb6.cell (p := ⟨b, 4, none⟩) (Nat.lt_of_lt_of_le hbW HB5.out.size)).trans c4', (hb6.cell (p := ⟨g, ix, none⟩) (Nat.lt_of_lt_of_le hgW HB5.out.size)).trans ci'⟩
      refine hK2 _ _ hS2 ?_
      clear hK2 K2 hS0
      have HB6 := Lib.hid ((HB.out.chg (Chg.of_below (n := W.heap.size) (S := fun _ => False) HB5.out.drew (Nat.le_refl _)) (by have := HB.out.b1.lt; omega)).chg (Chg.of_below (n := w5.drew.heap.size) (S := fun _ => False) hb6 (Nat.le_refl _)) (by have := HB.out.b1.lt; have := HB5.out.size; show _ < w5.heap.size; omega))
      clear hb6
      unfold optB
      refine wpAnyS_take (i := 11) (v := .tuple #[.string ⟨(r1.getD []).toArray⟩, .bool r1.isSome]) rfl (by kernel_rfl) (by kernel_rfl) (by kernel_rfl) (by kernel_rfl) (fun _ _ _ h => by cases h.1) ⟨Or.inl ⟨by rfl, fun W' hW' => (by go_simp)⟩, rfl, fun _ => rfl⟩ hS2 ?_
      simp only [Act.put, List.getElem_toArray, List.getElem_cons_zero, List.getElem_cons_succ, List.setIfInBounds_toArray, List.set_cons_zero, List.set_cons_succ]
      refine wpAnyS_take (i := 12) (v := .string ⟨(r1.getD []).toArray⟩) rfl (by kernel_rfl) (by kernel_rfl) (by kernel_rfl) (by kernel_rfl) (fun _ _ _ h => by cases h.1) ⟨Or.inl ⟨by rfl, fun W' hW' => (by go_simp)⟩, rfl, fun _ => rfl⟩ hS2 ?_
      simp only [Act.put, List.getElem_toArray, List.getElem_cons_zero, List.getElem_cons_succ, List.setIfInBounds_toArray, List.set_cons_zero, List.set_cons_succ]
      refine wpAnyS_take (i := 13) (v := .bool r1.isSome) rfl (by kernel_rfl) (by kernel_rfl) (by kernel_rfl) (by kernel_rfl) (fun _ _ _ h => by cases h.1) ⟨Or.inl ⟨by rfl, fun W' hW' => (by go_simp)⟩, rfl, fun _ => rfl⟩ hS2 ?_
      simp only [Act.put, List.getElem_toArray, List.getElem_cons_zero, List.getElem_cons_succ, List.setIfInBounds_toArray, List.set_cons_zero, List.set_cons_succ]
      refine wpAnyS_take (i := 14) (v := .string ⟨(r1.getD []).toArray⟩) rfl (by kernel_rfl) (by kernel_rfl) (by kernel_rfl) (by kernel_rfl) (fun _ _ _ h => by cases h.1) ⟨Or.inl ⟨by rfl, fun W' hW' => (by go_simp)⟩, rfl, fun _ => rfl⟩ hS2 ?_
      simp only [Act.put, List.getElem_toArray, List.getElem_cons_zero, List.getElem_cons_succ, List.setIfInBounds_toArray, List.set_cons_zero, List.set_cons_succ]
      refine wpAnyS_take (i := 15) (v := .bool r1.isSome) rfl (by kernel_rfl) (by kernel_rfl) (by kernel_rfl) (by kernel_rfl) (fun _ _ _ h => by cases h.1) ⟨Or.inl ⟨by rfl, fun W' hW' => (by go_simp)⟩, rfl, fun _ => rfl⟩ hS2 ?_
      simp only [Act.put, List.getElem_toArray, List.getElem_cons_zero, List.getElem_cons_succ, List.setIfInBounds_toArray, List.set_cons_zero, List.set_cons_succ]
      refine wpAnyS_done (by kernel_rfl) ?_ _
      exact ⟨rfl, _, _, _, _, _, _, _, _, _, _, _, _, _, _, _, _, _, _, _, _, _, _, _, _, _, _, _, _, _, _, _, _, _, _, _, _, _, _, _, rfl, HB6.out⟩
theorem after_any : ∀ (q : List By), AftP q
  | [] => after_step [] (fun x q' e => by cases e)
  | x :: q => after_step (x :: q) (fun y q' e => by injection e with _ e; exact e ▸ after_any q)
end Go.Proofs.Ytpnfkgjcnofjnaa.Ti
/- A tree is asked for the key behind a name. -/
namespace Go.Proofs.Ytpnfkgjcnofjnaa.Ti
open Go.RowKit Go.Shelf Tr

/-- what Next tells. -/
def nextR (n : No TV) (s : By) : Option By := if isN s then (gtE (pth s) (nents n)).map (·.k) else none
set_option maxRecDepth 100000 in
set_option maxHeartbeats 1000000 in
theorem Next_any {w : World} {b : Nat} {n : No TV} {F : List Nat} (h : TM w b n F) (s : ByteArray) (hs : s.size ≤ 140737488355328) :
    Calls Try.prog 25 #[ptr b, .string s] w fun e w' => e = .returned (optB (nextR n s.data.toList)) ∧ Below w.heap.size w w' := by
  have HK := Lib.hid (keyOf_any s w hs)
  have HL := Lib.hid (key_labels s hs)
  unfold nextR
  cases hn : isN s.data.toList with
  | false =>
    simp only [hn, Bool.false_eq_true, if_false] at HK ⊢
    clear hn h
    go_enter Try.func25, Try.ntmps25
    go_wp2_with (go_at_call 42; refine HK.out.mono ?_; rintro e w1 ⟨rfl, hb1⟩)
    go_ret2
    exact ⟨rfl, hb1⟩
  | true =>
    simp only [hn, if_true] at HK ⊢
    rw [← aft_ents h.ok]
    have hq : (labelsOf (Nm.fold s.data.toList)).reverse = pth s.data.toList := rfl
    have hfew := labs_few (Nm.fold s.data.toList)
    generalize labelsOf (Nm.fold s.data.toList) = ls at *
    have HAF := Lib.hid (fun (w1 : World) (A : Option Addr) (c : Nat) (hr : Rd w1 w1.heap.size (.slice A ls.length c) ls) (hb : Below w.heap.size w w1) => after_any _ hq (h.node.below hb (Nat.le_refl _)) h.ok (Nat.le_trans h.few (by decide)) hr (by omega))
    generalize aft (pth s.data.toList) n = r at *
    simp only [optB] at HAF ⊢
    clear hn h hq hfew
    go_enter Try.func25, Try.ntmps25
    go_wp2_with (go_at_call 42; refine HK.out.mono ?_; rintro e w1 ⟨rfl, hb1⟩)
    have hb1d := hb1.drew
    go_region_held3 (fun W => w.heap.size ≤ W.heap.size) (first | exact hb14.size | exact hb12.size | exact hb1d.size) (first
      | (go_at_call 44; refine (HL.out _).mono ?_; rintro e w2 ⟨A, c, rfl, hr2, hg2, hb2⟩; have HR2 := Lib.hid hr2; have hb12 := hb1d.trans (hb2.mono hb1.size); clear hr2 hg2)
      | (go_at_call 57; refine (HAF.out _ _ _ HR2.out hb12).mono ?_; rintro e w3 ⟨rfl, hb3⟩; have hb14 := hb12.trans (hb3.mono hb12.size)))
    go_wp2
    go_ret2
    exact ⟨rfl, hb14⟩
end Go.Proofs.Ytpnfkgjcnofjnaa.Ti
