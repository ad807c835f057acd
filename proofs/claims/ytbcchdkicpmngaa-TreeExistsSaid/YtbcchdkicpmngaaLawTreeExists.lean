/- TreeExists. -/
import Derived.Test.YtbcchdkicpmngaaLwIs
namespace Go.Proofs.Ytbcchdkicpmngaa
open Go.RowKit Go.Shelf Tr Ti

/-- what a statement asks of a tree, whatever has been laid behind it. -/
structure Asks (w1 : World) (b : Nat) (m : No TV) : Prop where
  len : ∀ X, Below w1.heap.size w1 X → Calls Try.prog 11 #[ptr b] X fun e w' => e = .returned (.int .i64 ((nents m).length : Nat)) ∧ w' = X
  exi : ∀ X (s : ByteArray), Below w1.heap.size w1 X → s.size ≤ 140737488355328 → Calls Try.prog 31 #[ptr b, .string s] X fun e w' => e = .returned (.bool (isN s.data.toList && exE (pth s.data.toList) (nents m))) ∧ Below X.heap.size X w'
  enc : ∀ X (s : ByteArray), Below w1.heap.size w1 X → s.size ≤ 140737488355328 → Calls Try.prog 30 #[ptr b, .string s] X fun e w' => e = .returned (optB (encR m s.data.toList)) ∧ Below X.heap.size X w'
  get : ∀ X (s : ByteArray), Below w1.heap.size w1 X → s.size ≤ 140737488355328 → Calls Try.prog 26 #[ptr b, .string s] X fun e w' => e = .returned (.tuple #[tz ((getR m s.data.toList).getD 0), .bool (getR m s.data.toList).isSome]) ∧ Below X.heap.size X w'
  nxt : ∀ X (s : ByteArray), Below w1.heap.size w1 X → s.size ≤ 140737488355328 → Calls Try.prog 25 #[ptr b, .string s] X fun e w' => e = .returned (optB (nextR m s.data.toList)) ∧ Below X.heap.size X w'
theorem TM.asks {w1 : World} {b : Nat} {m : No TV} {F : List Nat} (h : TM w1 b m F) : Asks w1 b m :=
  ⟨fun _ hb => Len_any (h.below hb (Nat.le_refl _)), fun _ s hb hs => Exists_any (h.below hb (Nat.le_refl _)) s hs, fun _ s hb hs => Encloser_any (h.below hb (Nat.le_refl _)) s hs, fun _ s hb hs => Get_any (h.below hb (Nat.le_refl _)) s hs, fun _ s hb hs => Next_any (h.below hb (Nat.le_refl _)) s hs⟩
def moreL : Value → Value → Nat
  | .string s, .bool true => s.size + 1
  | _, _ => 0
/-- all that the statement asks, told by letters. -/
structure Exs (w2 : World) (b : Nat) (s : ByteArray) (q : List By) (gv : Int) (g : Bool) (r : Option By) (u t : Bool) (es : By) (d z : Nat) : Prop where
  get : ∀ X, Below w2.heap.size w2 X → Calls Try.prog 26 #[ptr b, .string s] X fun e w' => e = .returned (.tuple #[tz gv, .bool g]) ∧ Below X.heap.size X w'
  nxt : ∀ X, Below w2.heap.size w2 X → Calls Try.prog 25 #[ptr b, .string s] X fun e w' => e = .returned (.tuple #[.string ⟨(r.getD []).toArray⟩, .bool r.isSome]) ∧ Below X.heap.size X w'
  exi : ∀ X, Below w2.heap.size w2 X → Calls Try.prog 31 #[ptr b, .string s] X fun e w' => e = .returned (.bool (g || u)) ∧ Below X.heap.size X w'
  non : r = none → u = false
  und : ∀ k, r = some k → ∀ X, Calls Try.prog 28 #[.string ⟨k.toArray⟩, .string s] X fun e w' => e = .returned (.bool u) ∧ Below X.heap.size X w'
  enc : ∀ X, Below w2.heap.size w2 X → Calls Try.prog 30 #[ptr b, .string s] X fun e w' => e = .returned (.tuple #[.string ⟨es.toArray⟩, .bool t]) ∧ Below X.heap.size X w'
  len : ∀ X, Below w2.heap.size w2 X → Calls Try.prog 11 #[ptr b] X fun e w' => e = .returned (.int .i64 (z : Nat)) ∧ w' = X
  pos : t = decide (0 < z)
  est : t = true → es = kn q d
  esf : t = false → es = []
  dle : d ≤ q.length
  fol : ∀ X, Calls Try.prog 23 #[.string s] X fun e w' => e = .returned (.string ⟨(kn q q.length).toArray⟩) ∧ Below X.heap.size X w'
  up : ∀ a, a ≤ q.length → ∀ X, Below w2.heap.size w2 X → Calls Try.prog 31 #[ptr b, .string ⟨(kn q a).toArray⟩] X fun e w' => e = .returned (.bool (t && decide (a ≤ d))) ∧ Below X.heap.size X w'
  root : ∀ X, Calls Try.prog 32 #[.string ⟨(kn q 0).toArray⟩] X fun e w' => e = .returned (.tuple #[.string ⟨#[]⟩, .bool false]) ∧ Below X.heap.size X w'
  par : ∀ a, a < q.length → ∀ X, Calls Try.prog 32 #[.string ⟨(kn q (a + 1)).toArray⟩] X fun e w' => e = .returned (.tuple #[.string ⟨(kn q a).toArray⟩, .bool true]) ∧ Below X.heap.size X w'
theorem key_short {s : By} (h : isN s = true) : (Nm.fold s).length ≤ 255 := by
  obtain ⟨x, hx⟩ := isN_some h
  rw [Nm.fold_length]
  exact (Nm.split_some.1 hx).2.2
theorem kn_short {s : By} (h : isN s = true) {a : Nat} (ha : a ≤ (pth s).length) : (kn (pth s) a).length ≤ 255 := by
  have h1 := key_short h
  rw [← kn_all h] at h1
  rcases Nat.lt_or_ge a (pth s).length with h2 | h2
  · have := kn_mono h2 (Nat.le_refl _); omega
  · rw [show a = (pth s).length by omega]; exact h1
theorem exs_any {w2 : World} {b : Nat} {m : No TV} (hA : Asks w2 b m) (hok : ok m) (hk : KeyOk (nents m)) (s : ByteArray) (hs : s.size ≤ 140737488355328) (hn : isN s.data.toList = true) :
    ∃ gv g r u t es d z, Exs w2 b s (pth s.data.toList) gv g r u t es d z := by
  have hxe := ex_next (q := pth s.data.toList) (asc_nents hok)
  have hemp : (!(nents m).isEmpty) = decide (0 < (nents m).length) := by cases nents m <;> simp
  refine ⟨_, (getE (pth s.data.toList) (nents m)).isSome, (gtE (pth s.data.toList) (nents m)).map (·.k), (match gtE (pth s.data.toList) (nents m) with
    | some e => (pth s.data.toList).isPrefixOf e.p
    | none => false), !(nents m).isEmpty, if (nents m).isEmpty then [] else kn (pth s.data.toList) (dep (pth s.data.toList) m), dep (pth s.data.toList) m, (nents m).length,
    fun X hb => (hA.get X s hb hs).mono fun e w' h => ⟨by rw [h.1]; simp only [getR, hn, if_true]; rw [Option.isSome_map], h.2⟩, fun X hb => (hA.nxt X s hb hs).mono fun e w' h => ⟨by rw [h.1]; simp only [nextR, hn, if_true, optB], h.2⟩, fun X hb => (hA.exi X s hb hs).mono fun e w' h => ⟨by rw [h.1, hn, Bool.true_and, hxe]; cases gtE (pth s.data.toList) (nents m) <;> rfl, h.2⟩,
    fun h => ?_, fun k hk2 X => ?_, fun X hb => (hA.enc X s hb hs).mono fun e w' h => ⟨?_, h.2⟩, fun X hb => hA.len X hb, hemp, fun h => ?_, fun h => ?_, dep_le _ _, fun X => (refFold_any s X hs).mono fun e w' h => ⟨by rw [h.1, kn_all hn], h.2⟩, fun a ha X hb => ?_, fun X => ?_, fun a ha X => ?_⟩
  · cases hg : gtE (pth s.data.toList) (nents m) with
    | none => rfl
    | some e => rw [hg] at h; cases h
  · cases hg : gtE (pth s.data.toList) (nents m) with
    | none => rw [hg] at hk2; cases hk2
    | some e =>
      rw [hg] at hk2
      obtain ⟨t, ht, h1, h2⟩ := hk e (List.mem_of_find?_eq_some hg)
      injection hk2 with hk2
      have hk3 : e.k = k := hk2
      have hsz := key_short ht
      rw [← h1, hk3] at hsz
      refine (refUnder_any ⟨k.toArray⟩ s X (by rw [arr_size]; omega) hs).mono fun e' w' h => ⟨?_, h.2⟩
      rw [h.1, arr_list, ← hk3, h1, under_path (isN_fold ht) hn, pth_fold, ← h2]
  · rw [h.1]
    unfold encR optB
    rw [hn, Bool.true_and]
    cases hE : (nents m).isEmpty <;> rfl
  · cases hE : (nents m).isEmpty with
    | true => rw [hE] at h; cases h
    | false => rfl
  · cases hE : (nents m).isEmpty with
    | true => rfl
    | false => rw [hE] at h; cases h
  · obtain ⟨h1, h2, _⟩ := up_name hn a
    refine (hA.exi X ⟨(kn (pth s.data.toList) a).toArray⟩ hb (by rw [arr_size]; have := kn_short hn ha; omega)).mono fun e w' h => ⟨?_, h.2⟩
    rw [h.1, arr_list]
    unfold kn
    rw [h1, h2, Bool.true_and]
    cases hE : (nents m).isEmpty with
    | true =>
      have : nents m = [] := by simpa using hE
      rw [this]; rfl
    | false =>
      have hb2 : bare m = false := by
        cases hbm : bare m with
        | false => rfl
        | true => rw [(nents_nil hok).2 hbm] at hE; cases hE
      rw [ex_take hok hb2 ha]; rfl
  · refine (refParent_any ⟨(kn (pth s.data.toList) 0).toArray⟩ X (by rw [arr_size]; have := kn_short hn (Nat.zero_le (pth s.data.toList).length); omega)).mono fun e w' h => ⟨?_, h.2⟩
    rw [h.1, arr_list, kn_parent hn (Nat.zero_le _)]
  · refine (refParent_any ⟨(kn (pth s.data.toList) (a + 1)).toArray⟩ X (by rw [arr_size]; have := kn_short hn (show a + 1 ≤ (pth s.data.toList).length by omega); omega)).mono fun e w' h => ⟨?_, h.2⟩
    rw [h.1, arr_list, kn_parent hn (by omega)]
set_option maxRecDepth 100000 in
set_option maxHeartbeats 4000000 in
theorem exists_main {w : World} {A : Option Addr} {nl c b : Nat} {m : No TV} (s : ByteArray) (hs : s.size ≤ 2000) (hh : Calls Try.prog 21 #[.slice A nl c] w fun e w' => e = .returned (.bool false) ∧ w' = w)
    (hg : Calls Try.prog 22 #[.slice A nl c] w fun e w' => e = .returned (ptr b) ∧ Asks w' b m ∧ Below w.heap.size w w') (hok : ok m) (hk : KeyOk (nents m)) (hn : isN s.data.toList = true) :
    Calls Try.prog 5 #[.slice A nl c, .string s] w fun e w' => e = .returned (.bool true) ∧ Below w.heap.size w w' := by
  have HH := Lib.hid hh
  have HG := Lib.hid hg
  have hs' : ¬ (2000 : Int) < (s.size : Int) := by omega
  have hsb : s.size ≤ 140737488355328 := by omega
  have HI := Lib.hid (fun w => refIs_any s w hsb)
  rw [hn] at HI
  clear hh hg
  go_enter Try.func5, Try.ntmps5
  refine wp_seq_k (fun K hK => ?_)
  have HK := Lib.hid hK
  clear hK
  go_wp2
  refine HK.out _ _ ?_
  clear HK K
  refine wp_seq_k (fun K hK => ?_)
  have HK := Lib.hid hK
  clear hK
  go_wp2_with (first
    | (go_at_call 21; refine HH.out.mono ?_; rintro e w1 ⟨rfl, rfl⟩))
  refine HK.out _ _ ?_
  clear HK K
  refine wp_seq_k (fun K hK => ?_)
  have HK := Lib.hid hK
  clear hK
  go_wp2_with (first
    | (go_at_call 22; refine HG.out.mono ?_; rintro e w2 ⟨rfl, hA, hb2⟩; have HA := Lib.hid hA; clear hA))
  refine HK.out _ _ ?_
  clear HK K
  refine wp_seq_k (fun K hK => ?_)
  have HK := Lib.hid hK
  clear hK
  go_wp2
  refine HK.out _ _ ?_
  clear HK K
  refine wp_seq_k (fun K hK => ?_)
  have HK := Lib.hid hK
  clear hK
  go_wp2_with (first
    | (go_at_call 27; refine (HI.out _).mono ?_; rintro e w3 ⟨rfl, hb3⟩))
  refine HK.out _ _ ?_
  clear HK K
  obtain ⟨gv, g, r, u, t, es, d, z, hE⟩ := exs_any HA.out hok hk s hsb hn
  generalize pth s.data.toList = q at *
  have HE := Lib.hid hE
  have B3 := Lib.hid hb3
  have B2 := Lib.hid hb2
  clear hE HA hok hk hn HI HH HG hb3 hb2
  refine wp_seq_k (fun K hK => ?_)
  have HK := Lib.hid hK
  clear hK
  go_wp2_with (first
    | (go_at_call 26; refine (HE.out.get _ B3.out).mono ?_; rintro e w4 ⟨rfl, hb4⟩; have B4 := Lib.hid (B3.out.trans (hb4.mono B3.out.size)); clear hb4))
  refine HK.out _ _ ?_
  clear HK K
  refine wp_seq_k (fun K hK => ?_)
  have HK := Lib.hid hK
  clear hK
  go_wp2_with (first
    | (go_at_call 25; refine (HE.out.nxt _ B4.out).mono ?_; rintro e w5 ⟨rfl, hb5⟩; have B5 := Lib.hid (B4.out.trans (hb5.mono B4.out.size)); clear hb5))
  refine HK.out _ _ ?_
  clear HK K
  refine wp_seq_k (fun K hK => ?_)
  have HT : ∀ (u17 u18 u19 u20 u21 u22 u23 u24 u25 u26 u27 u28 u29 u30 u31 u32 u33 u34 u35 u36 u37 u38 u39 u40 u41 u42 u43 u44 u45 u46 u47 u48 u49 u50 u51 u52 u53 u54 u55 u56 u57 u58 u59 u60 u61 u62 u63 u64 u65 u66 u67 u68 u69 u70 u71 u72 : Value) (X : World), Below w2.heap.size w2 X → K { tmps := #[.slice A nl c, .string s, undef, undef, .bool false, ptr b, undef, undef, tz gv, .bool g, .string ⟨(r.getD []).toArray⟩, .bool r.isSome, undef, undef, undef, undef, undef, u17, u18, u19, u20, u21, u22, u23, u24, u25, u26, u27, u28, u29, u30, u31, u32, u33, u34, u35, u36, u37, u38, u39, u40, u41, u42, u43, u44, u45, u46, u47, u48, u49, u50, u51, u52, u53, u54, u55, u56, u57, u58, u59, u60, u61, u62, u63, u64, u65, u66, u67, u68, u69, u70, u71, u72, undef, undef, undef, undef, undef, undef, undef, undef, undef, undef, undef, undef, undef, undef, undef, undef, undef, undef, undef, undef, undef, undef, undef, undef, undef, undef, undef, undef, undef, undef, undef, undef, undef, undef, undef, undef, undef, undef, undef, undef, undef, undef, undef, undef, undef], defers := [] } X := by
    intro u17 u18 u19 u20 u21 u22 u23 u24 u25 u26 u27 u28 u29 u30 u31 u32 u33 u34 u35 u36 u37 u38 u39 u40 u41 u42 u43 u44 u45 u46 u47 u48 u49 u50 u51 u52 u53 u54 u55 u56 u57 u58 u59 u60 u61 u62 u63 u64 u65 u66 u67 u68 u69 u70 u71 u72 X hX
    refine hK _ _ ?_
    clear hK K
    dsimp only
    have BX := Lib.hid hX
    clear hX
    refine wp_seq_k (fun K hK => ?_)
    have HK := Lib.hid hK
    clear hK
    go_wp2_with (first
      | (go_at_call 30; refine (HE.out.enc _ BX.out).mono ?_; rintro e w8 ⟨rfl, hb8⟩; have B8 := Lib.hid (BX.out.trans (hb8.mono BX.out.size)); clear hb8))
    refine HK.out _ _ ?_
    clear HK K
    refine wp_seq_k (fun K hK => ?_)
    have HT2 : ∀ (u17 u18 u19 u20 u21 u22 u23 u24 u25 u26 u27 u28 u29 u30 u31 u32 u33 u34 u35 u36 u37 u38 u39 u40 u41 u42 u43 u44 u45 u46 u47 u48 u49 u50 u51 u52 u53 u54 u55 u56 u57 u58 u59 u60 u61 u62 u63 u64 u65 u66 u67 u68 u69 u70 u71 u72 u73 u74 u75 u76 u77 u78 u79 u80 u81 u82 u83 u84 u85 u86 u87 u88 u89 u90 u91 : Value) (X : World), Below w2.heap.size w2 X → K { tmps := #[.slice A nl c, .string s, undef, undef, .bool false, ptr b, undef, undef, tz gv, .bool g, .string ⟨(r.getD []).toArray⟩, .bool r.isSome, .string ⟨es.toArray⟩, .bool t, undef, undef, undef, u17, u18, u19, u20, u21, u22, u23, u24, u25, u26, u27, u28, u29, u30, u31, u32, u33, u34, u35, u36, u37, u38, u39, u40, u41, u42, u43, u44, u45, u46, u47, u48, u49, u50, u51, u52, u53, u54, u55, u56, u57, u58, u59, u60, u61, u62, u63, u64, u65, u66, u67, u68, u69, u70, u71, u72, u73, u74, u75, u76, u77, u78, u79, u80, u81, u82, u83, u84, u85, u86, u87, u88, u89, u90, u91, undef, undef, undef, undef, undef, undef, undef, undef, undef, undef, undef, undef, undef, undef, undef, undef, undef, undef, undef, undef, undef, undef, undef, undef, undef, undef], defers := [] } X := by
      intro u17 u18 u19 u20 u21 u22 u23 u24 u25 u26 u27 u28 u29 u30 u31 u32 u33 u34 u35 u36 u37 u38 u39 u40 u41 u42 u43 u44 u45 u46 u47 u48 u49 u50 u51 u52 u53 u54 u55 u56 u57 u58 u59 u60 u61 u62 u63 u64 u65 u66 u67 u68 u69 u70 u71 u72 u73 u74 u75 u76 u77 u78 u79 u80 u81 u82 u83 u84 u85 u86 u87 u88 u89 u90 u91 X hX
      refine hK _ _ ?_
      clear hK K
      dsimp only
      have BX2 := Lib.hid hX
      clear hX
      refine wp_seq_k (fun K hK => ?_)
      have HK := Lib.hid hK
      clear hK
      go_wp2_with (first
        | (go_at_call 23; refine (HE.out.fol _).mono ?_; rintro e w9 ⟨rfl, hb9⟩; have B9 := Lib.hid (BX2.out.trans (hb9.mono BX2.out.size)); clear hb9))
      refine HK.out _ _ ?_
      clear HK K
      refine wp_seq_k (fun K hK => ?_)
      have HK := Lib.hid hK
      clear hK
      go_wp2
      refine HK.out _ _ ?_
      clear HK K
      refine wp_seq_k (fun K hK => ?_)
      have HK := Lib.hid hK
      clear hK
      go_wp2
      refine HK.out _ _ ?_
      clear HK K
      obtain ⟨ke, hke⟩ : ∃ ke : ByteArray, ke = ⟨es.toArray⟩ := ⟨_, rfl⟩
      rw [← hke]
      have hst : (t && decide (d ≤ q.length)) = t := by rw [decide_eq_true HE.out.dle, Bool.and_true]
      go_wp2
      go_loopw [14, 15, 16] (fun k mo bl wr => Hid (Below w2.heap.size w2 wr) ∧ ((∃ a, a ≤ q.length ∧ k = .string ⟨(kn q a).toArray⟩ ∧ mo = .bool true ∧ bl = .bool (t && decide (d ≤ a))) ∨ (mo = .bool false ∧ bl = .bool false))) (fun k mo _ _ => moreL k mo)
      case atStart => exact ⟨B9, .inl ⟨q.length, Nat.le_refl _, rfl, rfl, by rw [hst]⟩⟩
      case round =>
        obtain ⟨BR, ⟨a, ha, rfl, rfl, rfl⟩ | ⟨rfl, rfl⟩⟩ := hrel
        · obtain ⟨ka, hka⟩ : ∃ ka : ByteArray, ka = ⟨(kn q a).toArray⟩ := ⟨_, rfl⟩
          have HX := Lib.hid (fun X hX => HE.out.up a ha X hX)
          have HP : Hid (∀ X, Calls Try.prog 32 #[.string ka] X fun e w' => (∃ k2 mo2, e = .returned (.tuple #[.string k2, .bool mo2]) ∧ ((a = 0 ∧ mo2 = false) ∨ ∃ a2, a = a2 + 1 ∧ mo2 = true ∧ k2 = ⟨(kn q a2).toArray⟩)) ∧ Below X.heap.size X w') := fun X => by
            rw [hka]
            cases a with
            | zero => exact (HE.out.root X).mono fun e w' h => ⟨⟨_, _, h.1, .inl ⟨rfl, rfl⟩⟩, h.2⟩
            | succ a2 => exact (HE.out.par a2 (by omega) X).mono fun e w' h => ⟨⟨_, _, h.1, .inr ⟨a2, rfl, rfl, rfl⟩⟩, h.2⟩
          rw [← hka] at HX ⊢
          have HME : Hid (∀ a2, a = a2 + 1 → (kn q a2).length < ka.size) := fun a2 e => by
            subst e; rw [hka, arr_size]; exact kn_len (by omega)
          have HEQ : Hid (t = true → (ka.toList == ke.toList) = decide (a = d)) := fun ht => by
            rw [Lib.toList_data, Lib.toList_data, hka, hke, HE.out.est ht, arr_list, arr_list, Bool.eq_iff_iff, beq_iff_eq, decide_eq_true_eq]
            exact kn_inj ha HE.out.dle
          have HEF : Hid (t = false → (ka.toList == ke.toList) = false) := fun ht => by
            rw [Lib.toList_data, Lib.toList_data, hka, hke, HE.out.esf ht, arr_list, arr_list, beq_eq_false_iff_ne]
            exact kn_ne
          clear hka hke hst
          cases t with
          | false =>
            have heq := HEF.out rfl
            simp only [Bool.false_and] at HX ⊢
            go_wp2_with (first
              | (go_at_call 31; refine (HX.out _ BR.out).mono ?_; rintro e x1 ⟨rfl, hx1⟩; have X1 := Lib.hid (BR.out.trans (hx1.mono BR.out.size)); clear hx1)
              | (go_at_call 32; refine (HP.out _).mono ?_; rintro e x2 ⟨⟨k2, mo2, rfl, hd2⟩, hx2⟩; have X2 := Lib.hid (X1.out.trans (hx2.mono X1.out.size)); have HD2 := Lib.hid hd2; clear hx2 hd2))
            go_roundw
            case rel =>
              refine ⟨X2, ?_⟩
              rcases HD2.out with ⟨_, h2⟩ | ⟨a2, h1, h2, h3⟩
              · exact .inr ⟨by rw [h2], rfl⟩
              · exact .inl ⟨a2, by omega, by rw [h3], by rw [h2], rfl⟩
            case measure =>
              rcases HD2.out with ⟨_, h2⟩ | ⟨a2, h1, h2, h3⟩
              · subst h2; simp [moreL]
              · subst h2 h3; have := HME.out a2 h1; simp [moreL, arr_size]; omega
          | true =>
            have heq := HEQ.out rfl
            simp only [Bool.true_and] at HX ⊢
            rcases Nat.lt_trichotomy a d with hlt | hae | hgt
            · have h1 : decide (a ≤ d) = true := decide_eq_true (by omega)
              have h2 : decide (d ≤ a) = false := decide_eq_false (by omega)
              have h3 : decide (a = d) = false := decide_eq_false (by omega)
              rw [h1] at HX
              rw [h3] at heq
              rw [h2]
              clear h1 h2 h3
              go_wp2_with (first
                | (go_at_call 31; refine (HX.out _ BR.out).mono ?_; rintro e x1 ⟨rfl, hx1⟩; have X1 := Lib.hid (BR.out.trans (hx1.mono BR.out.size)); clear hx1)
                | (go_at_call 32; refine (HP.out _).mono ?_; rintro e x2 ⟨⟨k2, mo2, rfl, hd2⟩, hx2⟩; have X2 := Lib.hid (X1.out.trans (hx2.mono X1.out.size)); have HD2 := Lib.hid hd2; clear hx2 hd2))
              go_roundw
              case rel =>
                refine ⟨X2, ?_⟩
                rcases HD2.out with ⟨_, h2⟩ | ⟨a2, h1, h2, h3⟩
                · exact .inr ⟨by rw [h2], rfl⟩
                · exact .inl ⟨a2, by omega, by rw [h3], by rw [h2], by rw [decide_eq_false (show ¬ d ≤ a2 by omega)]⟩
              case measure =>
                rcases HD2.out with ⟨_, h2⟩ | ⟨a2, h1, h2, h3⟩
                · subst h2; simp [moreL]
                · subst h2 h3; have := HME.out a2 h1; simp [moreL, arr_size]; omega
            · have h1 : decide (a ≤ d) = true := decide_eq_true (by omega)
              have h2 : decide (d ≤ a) = true := decide_eq_true (by omega)
              have h3 : decide (a = d) = true := decide_eq_true hae
              rw [h1] at HX
              rw [h3] at heq
              rw [h2]
              clear h1 h2 h3
              go_wp2_with (first
                | (go_at_call 31; refine (HX.out _ BR.out).mono ?_; rintro e x1 ⟨rfl, hx1⟩; have X1 := Lib.hid (BR.out.trans (hx1.mono BR.out.size)); clear hx1)
                | (go_at_call 32; refine (HP.out _).mono ?_; rintro e x2 ⟨⟨k2, mo2, rfl, hd2⟩, hx2⟩; have X2 := Lib.hid (X1.out.trans (hx2.mono X1.out.size)); have HD2 := Lib.hid hd2; clear hx2 hd2))
              go_roundw
              case rel =>
                refine ⟨X2, ?_⟩
                rcases HD2.out with ⟨_, h2⟩ | ⟨a2, h1, h2, h3⟩
                · exact .inr ⟨by rw [h2], rfl⟩
                · exact .inl ⟨a2, by omega, by rw [h3], by rw [h2], by rw [decide_eq_false (show ¬ d ≤ a2 by omega)]⟩
              case measure =>
                rcases HD2.out with ⟨_, h2⟩ | ⟨a2, h1, h2, h3⟩
                · subst h2; simp [moreL]
                · subst h2 h3; have := HME.out a2 h1; simp [moreL, arr_size]; omega
            · have h1 : decide (a ≤ d) = false := decide_eq_false (by omega)
              have h2 : decide (d ≤ a) = true := decide_eq_true (by omega)
              have h3 : decide (a = d) = false := decide_eq_false (by omega)
              rw [h1] at HX
              rw [h3] at heq
              rw [h2]
              clear h1 h2 h3
              go_wp2_with (first
                | (go_at_call 31; refine (HX.out _ BR.out).mono ?_; rintro e x1 ⟨rfl, hx1⟩; have X1 := Lib.hid (BR.out.trans (hx1.mono BR.out.size)); clear hx1)
                | (go_at_call 32; refine (HP.out _).mono ?_; rintro e x2 ⟨⟨k2, mo2, rfl, hd2⟩, hx2⟩; have X2 := Lib.hid (X1.out.trans (hx2.mono X1.out.size)); have HD2 := Lib.hid hd2; clear hx2 hd2))
              go_roundw
              case rel =>
                refine ⟨X2, ?_⟩
                rcases HD2.out with ⟨h0, _⟩ | ⟨a2, h1, h2, h3⟩
                · omega
                · exact .inl ⟨a2, by omega, by rw [h3], by rw [h2], by rw [decide_eq_true (show d ≤ a2 by omega)]⟩
              case measure =>
                rcases HD2.out with ⟨_, h2⟩ | ⟨a2, h1, h2, h3⟩
                · subst h2; simp [moreL]
                · subst h2 h3; have := HME.out a2 h1; simp [moreL, arr_size]; omega
        · go_wp2_with (go_at_call 29; refine (grows_any _).mono ?_; rintro e x1 ⟨rfl, hx1⟩; have X1 := Lib.hid (BR.out.trans (hx1.mono BR.out.size)); clear hx1)
          go_ret
          exact ⟨rfl, B2.out.trans (X1.out.mono B2.out.size)⟩
    have HT2' := Lib.hid HT2
    clear hK HT2
    have HPOS := Lib.hid HE.out.pos
    have HEF := Lib.hid HE.out.esf
    cases t with
    | true =>
      have hz : (0 : Int) < (z : Int) := by have := HPOS.out; simp at this; omega
      go_wp2_with (go_at_call 11; refine (HE.out.len _ B8.out).mono ?_; rintro e w6 ⟨rfl, rfl⟩)
      exact HT2'.out _ _ _ _ _ _ _ _ _ _ _ _ _ _ _ _ _ _ _ _ _ _ _ _ _ _ _ _ _ _ _ _ _ _ _ _ _ _ _ _ _ _ _ _ _ _ _ _ _ _ _ _ _ _ _ _ _ _ _ _ _ _ _ _ _ _ _ _ _ _ _ _ _ _ _ _ B8.out
    | false =>
      have hz : ¬ (0 : Int) < (z : Int) := by have := HPOS.out; simp at this; omega
      have he : es = [] := HEF.out rfl
      subst he
      go_wp2_with (go_at_call 11; refine (HE.out.len _ B8.out).mono ?_; rintro e w6 ⟨rfl, rfl⟩)
      exact HT2'.out _ _ _ _ _ _ _ _ _ _ _ _ _ _ _ _ _ _ _ _ _ _ _ _ _ _ _ _ _ _ _ _ _ _ _ _ _ _ _ _ _ _ _ _ _ _ _ _ _ _ _ _ _ _ _ _ _ _ _ _ _ _ _ _ _ _ _ _ _ _ _ _ _ _ _ _ B8.out
  have HT' := Lib.hid HT
  clear hK HT
  have HN0 := Lib.hid HE.out.non
  have HUN := Lib.hid HE.out.und
  cases r with
  | none =>
    have hu : u = false := HN0.out rfl
    subst hu
    cases g <;>
    · go_wp2_with (go_at_call 31; refine (HE.out.exi _ B5.out).mono ?_; rintro e w6 ⟨rfl, hb6⟩; have B6 := Lib.hid (B5.out.trans (hb6.mono B5.out.size)); clear hb6)
      exact HT'.out _ _ _ _ _ _ _ _ _ _ _ _ _ _ _ _ _ _ _ _ _ _ _ _ _ _ _ _ _ _ _ _ _ _ _ _ _ _ _ _ _ _ _ _ _ _ _ _ _ _ _ _ _ _ _ _ _ B6.out
  | some k =>
    have HU := Lib.hid (HUN.out k rfl)
    clear HUN HN0
    cases g <;> cases u <;>
    · go_wp2_with (first
        | (go_at_call 31; refine (HE.out.exi _ B5.out).mono ?_; rintro e w6 ⟨rfl, hb6⟩; have B6 := Lib.hid (B5.out.trans (hb6.mono B5.out.size)); clear hb6)
        | (go_at_call 28; refine (HU.out _).mono ?_; rintro e w7 ⟨rfl, hb7⟩; have B7 := Lib.hid (B6.out.trans (hb7.mono B6.out.size)); clear hb7))
      first
        | exact HT'.out _ _ _ _ _ _ _ _ _ _ _ _ _ _ _ _ _ _ _ _ _ _ _ _ _ _ _ _ _ _ _ _ _ _ _ _ _ _ _ _ _ _ _ _ _ _ _ _ _ _ _ _ _ _ _ _ _ B7.out
        | exact HT'.out _ _ _ _ _ _ _ _ _ _ _ _ _ _ _ _ _ _ _ _ _ _ _ _ _ _ _ _ _ _ _ _ _ _ _ _ _ _ _ _ _ _ _ _ _ _ _ _ _ _ _ _ _ _ _ _ _ B6.out
set_option maxRecDepth 100000 in
set_option maxHeartbeats 1000000 in
theorem exists_no {w : World} {A : Option Addr} {nl c b : Nat} {m : No TV} (s : ByteArray) (hs : s.size ≤ 2000) (hh : Calls Try.prog 21 #[.slice A nl c] w fun e w' => e = .returned (.bool false) ∧ w' = w)
    (hg : Calls Try.prog 22 #[.slice A nl c] w fun e w' => e = .returned (ptr b) ∧ Asks w' b m ∧ Below w.heap.size w w') (hn : isN s.data.toList = false) :
    Calls Try.prog 5 #[.slice A nl c, .string s] w fun e w' => e = .returned (.bool true) ∧ Below w.heap.size w w' := by
  have HH := Lib.hid hh
  have HG := Lib.hid hg
  have hs' : ¬ (2000 : Int) < (s.size : Int) := by omega
  have hsb : s.size ≤ 140737488355328 := by omega
  have HI := Lib.hid (fun w => refIs_any s w hsb)
  rw [hn] at HI
  have HEN : Hid (∀ w2 X, Asks w2 b m → Below w2.heap.size w2 X → Calls Try.prog 30 #[ptr b, .string s] X fun e w' => e = .returned (.tuple #[.string ⟨#[]⟩, .bool false]) ∧ Below X.heap.size X w') := fun w2 X hA hb => (hA.enc X s hb hsb).mono fun e w' h => ⟨by rw [h.1]; simp only [encR, hn, Bool.false_and]; rfl, h.2⟩
  have HEX : Hid (∀ w2 X, Asks w2 b m → Below w2.heap.size w2 X → Calls Try.prog 31 #[ptr b, .string s] X fun e w' => e = .returned (.bool false) ∧ Below X.heap.size X w') := fun w2 X hA hb => (hA.exi X s hb hsb).mono fun e w' h => ⟨by rw [h.1, hn, Bool.false_and], h.2⟩
  clear hh hg hn
  go_enter Try.func5, Try.ntmps5
  go_wp2_with (first
    | (go_at_call 21; refine HH.out.mono ?_; rintro e w1 ⟨rfl, rfl⟩)
    | (go_at_call 22; refine HG.out.mono ?_; rintro e w2 ⟨rfl, hA, hb2⟩; have HA := Lib.hid hA; clear hA)
    | (go_at_call 27; refine (HI.out _).mono ?_; rintro e w3 ⟨rfl, hb3⟩)
    | (go_at_call 30; refine (HEN.out _ _ HA.out hb3).mono ?_; rintro e w4 ⟨rfl, hb4⟩; have hb34 := hb3.trans (hb4.mono hb3.size))
    | (go_at_call 31; refine (HEX.out _ _ HA.out hb34).mono ?_; rintro e w5 ⟨rfl, hb5⟩; have hb35 := hb34.trans (hb5.mono hb34.size))
    | (go_at_call 29; refine (grows_any _).mono ?_; rintro e w6 ⟨rfl, hb6⟩; have hb36 := hb35.trans (hb6.mono hb35.size)))
  go_ret
  exact ⟨rfl, hb2.trans (hb36.mono hb2.size)⟩
set_option maxRecDepth 100000 in
theorem exists_big {w : World} {A : Option Addr} {nl c : Nat} (s : ByteArray) (hv : Bool) (hh : Calls Try.prog 21 #[.slice A nl c] w fun e w' => e = .returned (.bool hv) ∧ w' = w) (hb : hv = false → 2000 < s.size) :
    Calls Try.prog 5 #[.slice A nl c, .string s] w fun e w' => e = .returned (.bool true) ∧ Below w.heap.size w w' := by
  have HH := Lib.hid hh
  clear hh
  cases hv with
  | true =>
    clear hb
    go_enter Try.func5, Try.ntmps5
    go_wp2_with (go_at_call 21; refine HH.out.mono ?_; rintro e w1 ⟨rfl, rfl⟩)
    go_ret
    exact ⟨rfl, Below.refl _ _⟩
  | false =>
    have hs' : (2000 : Int) < (s.size : Int) := by have := hb rfl; omega
    clear hb
    go_enter Try.func5, Try.ntmps5
    go_wp2_with (go_at_call 21; refine HH.out.mono ?_; rintro e w1 ⟨rfl, rfl⟩)
    go_ret
    exact ⟨rfl, Below.refl _ _⟩
theorem root_ok : ok rootN ∧ KeyOk (nents rootN) := ⟨⟨trivial, fun _ => ⟨rfl, rfl⟩⟩, fun e he => by cases he⟩
theorem walk_TreeExists (w : World) (A : Option Addr) (ls : List (List UInt8)) (c : Nat) (hc : ls.length ≤ c) (_ : A = none → c = 0) (hr : Ss w w.heap.size A ls) (_ : c * 16 ≤ 140737488351232 ∧ ∀ l ∈ ls, l.length ≤ 140737488351232) (s : ByteArray) (_ : s.size ≤ 140737488351232) :
    Calls Try.prog 5 #[.slice A ls.length c, .string s] w fun e w' => e = .returned (.bool true) ∧ Below w.heap.size w w' := by
  have hrd := hr.rd hc
  have hh := heavy_any w rfl hrd
  cases hv : heavyL ls with
  | true =>
    rw [hv] at hh
    exact exists_big s true hh (fun h => by cases h)
  | false =>
    rw [hv] at hh
    obtain ⟨h1, h2⟩ := heavy_no hv
    by_cases hs : 2000 < s.size
    · exact exists_big s false hh (fun _ => hs)
    · obtain ⟨k1, k2⟩ := grow_ok ls 0 rootN root_ok.1 root_ok.2
      have hg : Calls Try.prog 22 #[.slice A ls.length c] w fun e w' => e = .returned (ptr w.heap.size) ∧ Asks w' w.heap.size (growN ls 0 rootN) ∧ Below w.heap.size w w' :=
        (grown_any w rfl hrd h1 h2).mono fun e w' h => ⟨h.1, let ⟨F, hT, _⟩ := h.2.1; TM.asks hT, h.2.2.1⟩
      cases hn : isN s.data.toList with
      | false => exact exists_no s (by omega) hh hg hn
      | true => exact exists_main s (by omega) hh hg k1 k2 hn

namespace treeExists
open Go.ChangeShapes Go.WideShapes Go.ChangeAt
open Go.ChangeMaps (open_string shut_string)
set_option maxRecDepth 100000 in
theorem contract (H : Type) (enc : TypeId × Value → H) (W : World) (base : Nat) (args : Array Value) (ds gs : List (DataW H)) (before : List MemPlace)
    (hval : ∀ (j : Nat) t v, Try.f5.params[j]? = some t → args[j]? = some v → Value.okWide Try.prog W .any base t v)
    (hW : DataW.Whole enc Try.prog Try.f5.params.toList Rows.treeExistsSpec.vars false W args.toList ds gs before)
    (hR : (DataW.weightsEach Try.prog (Try.f5.params.toList ++ (OpenSpec.ofChange Rows.treeExistsSpec).bare.plain.varTypes Try.prog) (ds ++ gs)).all (· ≤ reachBytes) = true) :
    Calls Try.prog 5 args W fun e W' => ∃ v, e = .returned v ∧ Rows.treeExistsSpec.post enc Try.prog Try.f5 false true false false W args v W' := by
  have hW' := hW
  obtain ⟨p, q, hA0, hV, rfl, hfz, hnd⟩ := hW
  have hA : DataW.TrodAll enc Try.prog W 0 (fun _ => true) true Try.f5.params.toList args.toList ds p := hA0
  have HS := trodAll_stays (W' := W) (sp := fun _ => true) out (by kernel_rfl) hA
  have HA := Lib.hid hA
  rw [Try.params5] at hA hval hR
  obtain ⟨v0, vs0, d0, ds0, p0, q0, hargs0, rfl, rfl, h0, r0⟩ := trodAll_cons hA
  obtain ⟨v1, vs1, d1, ds1, p1, q1, hargs1, rfl, rfl, h1, r1⟩ := trodAll_cons r0
  obtain ⟨rfl, rfl, rfl⟩ := trodAll_nil r1
  obtain rfl : args = #[v0, v1] := by cases args; simp_all
  obtain ⟨rfl, rfl⟩ := trodVars_none hV
  obtain ⟨A0, l, c0, rfl, hc0, hn0, hb0, hm0⟩ := open_strs Try.underlying44 Try.underlying28 (by kernel_rfl) (by kernel_rfl) (hval 0 44 v0 rfl rfl) h0
  obtain ⟨s, rfl, rfl, rfl, z1⟩ := open_string Try.underlying28 (hval 1 28 v1 rfl rfl) h1
  clear hA0 HS
  obtain ⟨k0, s0⟩ := reach_cons hR
  obtain ⟨k1, s1⟩ := reach_cons s0
  refine (walk_TreeExists W A0 l c0 hc0 hn0 hb0 (hm0 k0) s (reach_str k1)).mono fun e W' ⟨he, hb⟩ => ?_
  subst he
  have hlt := hW'.lt
  refine ⟨_, rfl, post_low hW' (pa := _) (pv := []) rfl hb (fun _ _ _ => trodAll_cons_mk (shut_bool Try.underlying4 _) trodAll_mk0) (fun sp hsp => ?_) (fun _ _ => rfl) (ok_one (by kernel_rfl) rfl (okWide_bool_mk Try.underlying4 _))⟩
  exact trodAll_stays out (by kernel_rfl) HA.out (fun x hx => hb.same (hlt x (List.mem_append_left _ hx))) (fun x hx => hsp x (List.mem_append_left _ hx))

noncomputable def wargs : Array Value := #[.slice none 0 0, .string ByteArray.empty]
noncomputable def lw (os : Os) : World := World.settled Try.prog os
theorem reads (os : Os) {H : Type} (enc : TypeId × Value → H) : ∃ places, DataW.whole enc Try.prog ((lw os).forCall (fun _ _ => 0) ⟨#[], wargs, []⟩).memory Try.f5.params.toList Rows.treeExistsSpec.vars false wargs.toList 8 = some ([.nil, .lit (.string [])], [], places) :=
  ⟨[], by kernel_rfl⟩
set_option maxRecDepth 100000 in
theorem lifted (os : Os) (started : os.Started) (H : Type) (enc : TypeId × Value → H) (G : Stop.Interp) :
    ReturnsInHanded {} Try.checked os 5 .any ((OpenSpec.ofChange Rows.treeExistsSpec).preRow enc Try.prog Try.f5 Rows.treeExistsRow.domain false Rows.treeExistsRow.laid) (((OpenSpec.ofChange Rows.treeExistsSpec).at G).post enc Try.prog Try.f5 false true false false) := by
  obtain ⟨places, hx⟩ := reads os enc
  refine returnsInHanded_of_row (C := Try.checked) (s := OpenSpec.ofChange Rows.treeExistsSpec) own started (by kernel_rfl) Try.func5
    (witness_row_atRef (enc := enc) (C := Try.checked) false (lw os) wargs rfl (by kernel_rfl) (by kernel_rfl) (by kernel_rfl)
      (OpenSpec.preRow_of_cond 8 hx (by kernel_rfl) (fun k hk => by cases hk) (by kernel_rfl) (laidMetH_nil _ _))) ?_
  intro W base args ds gs before hval hW _ _ hR _ _ _
  exact contract H enc W base args ds gs before hval hW hR
/-- THE STATEMENT. -/
theorem said : Rows.TreeExistsSaid :=
  OpenClaim.holds_of_cond 5 Try.f5 rfl rfl rfl rfl rfl rfl rfl ⟨rfl, rfl, rfl, rfl, rfl⟩ rfl rfl rfl rfl rfl (by kernel_rfl) Try.func5 (by kernel_rfl)
    (of_decide_eq_true (by kernel_rfl)) (by unfold Func.isWrapper; first | (rw [if_pos (by decide +kernel)]; kernel_rfl) | (rw [if_neg (by decide +kernel)]; exact ⟨rfl, rfl⟩))
    (fun os started H enc _ G => by rw [OpenClaim.pre_eq_preRow]; exact lifted os started H enc G)
end treeExists
end Go.Proofs.Ytbcchdkicpmngaa
