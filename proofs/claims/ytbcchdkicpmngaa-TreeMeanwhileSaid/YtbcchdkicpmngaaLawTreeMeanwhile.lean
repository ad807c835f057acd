/- TreeMeanwhile. -/
import Derived.Test.YtbcchdkicpmngaaLwMean
namespace Go.Proofs.Ytbcchdkicpmngaa
open Go.RowKit Go.Shelf Tr Ti
attribute [local go_sem] Oper.semAt_some

theorem inBlock_either {R : Exit → Act → World → Prop} {e : Exit} {a : Act} {Y : World} (he : e = .normal ∨ e = .exit 0) (h : Exit.inBlock 0 R .normal a Y) : Exit.inBlock 0 R e a Y := by
  rcases he with rfl | rfl
  · exact h
  · simpa [Exit.inBlock] using h
/-- how many are held against what there was. -/
def kf (stop : Int) (N : Nat) : Nat := if 1 ≤ stop ∧ stop < N then stop.toNat else N
theorem kf_le (stop : Int) (N : Nat) : kf stop N ≤ N := by unfold kf; split <;> omega
/-- the first loop, between two rounds. -/
def MwI (w0 : World) (bs b5 bi b bg : Nat) (stop : Int) (vw : Value) (L : List (By × Int)) (j : Nat) (T : Bl) (Y : World) : Prop :=
  ∃ v m' F', (∀ q, T q ↔ ClT bg v q ∨ q ∈ F') ∧ MwS w0 Y bs b5 bi b stop vw L m' F' ∧ ClB w0 Y bg v (L.take j) ∧ (∀ q, ClT bg v q → q ∉ F') ∧ (nents m').length ≤ 60 + j
theorem MwI.abides {w0 : World} {bs b5 bi b bg n : Nat} {stop : Int} {vw : Value} {L : List (By × Int)} (hk : ∀ k, Kp bs b5 bi vw k → k < n) (hb : bg < n) (hw : w0.heap.size ≤ n) : Abides n (MwI w0 bs b5 bi b bg stop vw L) := by
  rintro j T A B ⟨v, m', F', hT, h, hc, ha, hf⟩ hch
  have hbl : Below w0.heap.size w0 B := ⟨hch.os.trans h.bel.os, hch.tape.trans h.bel.tape, hch.output.trans h.bel.output, Nat.le_trans h.bel.size hch.size, fun k hk' => (hch.block k (Nat.lt_of_lt_of_le hk' h.bel.size) (.inl (by omega))).trans (h.bel.block k hk')⟩
  refine ⟨v, m', F', hT, h.same hbl fun k hk' => ?_, hc.chg' hch hb hw fun q hq => (hT q).2 (.inl hq), ha, hf⟩
  rcases hk' with hk' | hk'
  · exact hch.block k (h.lt k hk') (.inl (hk k hk'))
  · exact hch.block k (h.tm.node.lt k hk') (.inr ((hT k).2 (.inr hk')))
/-- behind the first loop. -/
def MwQ (w0 : World) (bs b5 bi b bg z5 : Nat) (stop : Int) (vw : Value) (L : List (By × Int)) (tmps : Array Value) (e : Exit) (a : Act) (Y : World) : Prop :=
  (e = .normal ∨ e = .exit 0) ∧ ∃ (D : Nat) (v : Value) (m' : No TV) (F' : List Nat), a = { tmps := tmps, defers := [{ target := .collected D, args := #[] }] } ∧ MwS w0 Y bs b5 bi b stop vw L m' F' ∧ ClB w0 Y bg v (L.take (kf stop L.length)) ∧ (nents m').length ≤ 1000 ∧
    z5 ≤ D ∧ Y.heap[D]? = some (.deferred (some [])) ∧ ¬ ClT bg v D ∧ D ∉ F'
set_option maxRecDepth 100000 in
set_option maxHeartbeats 4000000 in
theorem mean_main {w0 : World} {A : Option Addr} {nl c : Nat} {ls : List (List UInt8)} (stop : Int)
    (hh : ∀ w, Below w0.heap.size w0 w → Calls Try.prog 21 #[.slice A nl c] w fun e w' => e = .returned (.bool false) ∧ w' = w)
    (hls : ls.length = nl) (hl : Rd w0 w0.heap.size (.slice A nl c) ls) (h1 : nl ≤ 60) (hz1 : ∀ s ∈ ls, s.length ≤ 2000) :
    Calls Try.prog 7 #[.slice A nl c, .int .i64 stop] w0 fun e w' => e = .returned (.bool true) ∧ Below w0.heap.size w0 w' := by
  obtain ⟨m, hmm⟩ : ∃ m, m = growN ls 0 rootN := ⟨_, rfl⟩
  have hW1 : Below w0.heap.size w0 (w0.alloc (.cells #[.int .i64 stop] 3)) := (Below.refl _ w0).alloc (Nat.le_refl _) _
  have HH := Lib.hid (hh _ hW1)
  have hg := grown_any (w0.alloc (.cells #[.int .i64 stop] 3)) hls ((hl.keep hW1).mono (by simp)) h1 hz1
  simp only [World.size_alloc] at hg
  rw [← hmm] at hg
  have HG := Lib.hid hg
  obtain ⟨hok, hkey⟩ := grow_ok ls 0 rootN root_okG.1 root_okG.2
  rw [← hmm] at hok hkey
  have HOK := Lib.hid hok
  have HKEY := Lib.hid hkey
  clear hh hg hls hl hz1 hmm hok hkey hW1
  refine (callsIn_wide (n := 9)).1 ?_
  refine callsIn_of_wp_marks Try.func7 rfl trivial ?_ rfl
  simp only [Try.ntmps7, List.size_toArray, List.length_cons, List.length_nil, Nat.reduceAdd, Nat.reduceSub, Array.replicate_succ, Array.replicate_zero, List.push_toArray, List.append_toArray, List.nil_append, List.cons_append]
  gi_wp2_with (first
    | (refine ⟨trivial, ?_⟩; gi_at_call 21; refine (callsIn_wide.2 HH.out).mono ?_; rintro e w1 ⟨rfl, rfl⟩)
    | (refine ⟨trivial, ?_⟩; gi_at_call 22; refine (callsIn_wide.2 HG.out).mono ?_; rintro e w2 ⟨rfl, ⟨F, hT, hF⟩, hb2, hlen⟩; have HT := Lib.hid hT; have HF := Lib.hid hF; have HB2 := Lib.hid hb2; have HT' := Lib.hid (hT.below ((Below.refl w2.heap.size w2).alloc (Nat.le_refl _) (.cells #[ptr (w0.heap.size + 1)] 24)) (Nat.le_refl _)); clear hT hF hb2)
    | (refine ⟨trivial, ?_⟩; gi_at_call 20; refine (callsIn_wide.2 (lawAll_any HT'.out)).mono ?_; rintro e w3 ⟨vw, rfl, hr3, hb3⟩; have HR3 := Lib.hid hr3; have HB3 := Lib.hid hb3; have hbx : Has w3 w2.heap.size 24 #[ptr (w0.heap.size + 1)] := (Has.fresh w2 _ _).below hb3 (by simp); have HBX := Lib.hid hbx; have c5 : w3.cell? ⟨w2.heap.size, 0, none⟩ = some (ptr (w0.heap.size + 1)) := (by rw [hbx.cell]; rfl); clear hr3 hb3 hbx)
    | (refine ⟨trivial, ?_⟩; gi_at_call 33; refine (callsIn_wide.2 (All_any (w0.heap.size + 1) _)).mono ?_; rintro e w4 ⟨rfl, hw4⟩; have HW4 := Lib.hid hw4; clear hw4))
  have hw4 := HW4.out
  have hz4 : w4.heap.size = w3.heap.size + 2 := by rw [hw4]; simp
  obtain ⟨bi, hbi⟩ : ∃ bi, bi = w3.heap.size := ⟨_, rfl⟩
  obtain ⟨b5, hb5⟩ : ∃ b5, b5 = w2.heap.size := ⟨_, rfl⟩
  obtain ⟨bg, hbg⟩ : ∃ bg, bg = w4.heap.size := ⟨_, rfl⟩
  obtain ⟨L, hL⟩ : ∃ L, L = belowL m [0] := ⟨_, rfl⟩
  have hKL : L.length ≤ 60 ∧ ∀ kv ∈ L, kv.1.length ≤ 255 := by
    rw [hL]
    unfold belowL
    split
    · refine ⟨?_, fun kv hkv => ?_⟩
      · rw [List.length_map]; exact Nat.le_trans (List.length_filter_le _ _) (by omega)
      · obtain ⟨e, he, rfl⟩ := List.mem_map.1 hkv
        obtain ⟨t, ht, h1, _⟩ := HKEY.out e (List.mem_filter.1 he).1
        simp only [h1]
        obtain ⟨x, hx⟩ := isN_some ht
        rw [Nm.fold_length]
        exact (Nm.split_some.1 hx).2.2
    · simp
  obtain ⟨X5, hX5⟩ : ∃ X5, X5 = w4.alloc (.cells #[.slice none 0 0] 27) := ⟨_, rfl⟩
  have h24 : Below w2.heap.size w2 w4 := by
    have h23 : Below w2.heap.size w2 w3 := ((Below.refl w2.heap.size w2).alloc (Nat.le_refl _) _).trans (HB3.out.mono (by simp))
    rw [hw4]; exact (h23.alloc h23.size _).alloc (by have := h23.size; simp; omega) _
  have h45 : Below w4.heap.size w4 X5 := by rw [hX5]; exact (Below.refl _ w4).alloc (Nat.le_refl _) _
  have h25 := h24.trans (h45.mono h24.size)
  have h02 : Below w0.heap.size w0 w2 := ((Below.refl w0.heap.size w0).alloc (Nat.le_refl _) _).trans (HB2.out.mono (by omega))
  have hz2 := HB2.out.size
  simp only [World.size_alloc] at hz2
  have hz3 := HB3.out.size
  simp only [World.size_alloc] at hz3
  have hwas5 : PRow X5 (w2.heap.size + 1) vw L := by
    have := HR3.out
    simp only [World.size_alloc] at this
    rw [hL]
    have h34 : Below w3.heap.size w3 w4 := by rw [hw4]; exact ((Below.refl _ w3).alloc (Nat.le_refl _) _).alloc (by simp) _
    exact ownK_below (ownK_below this h34 (Nat.le_refl _)) h45 (Nat.le_refl _)
  have hvw : ∀ q, vw.ownBlock = some q → w2.heap.size + 1 ≤ q ∧ q < w3.heap.size := fun q hq => by
    have := HR3.out.lt q hq
    simp only [World.size_alloc] at this
    exact this
  have HMW : Hid (MwS w0 X5 w0.heap.size b5 bi (w0.heap.size + 1) stop vw L m F) := by
    refine ⟨HT.out.below h25 (Nat.le_refl _), fun q hq => by have := HF.out q hq; omega, h02.trans (h25.mono h02.size), ?_, ?_, ?_, ?_, own_mono hwas5 (by omega), fun k hk hm => ?_⟩
    · have h1 : Has w2 w0.heap.size 3 #[.int .i64 stop] := (Has.fresh w0 _ _).below HB2.out (by omega)
      exact h1.below h25 h1.lt
    · rw [hb5]
      have h34 : Below w3.heap.size w3 w4 := by rw [hw4]; exact ((Below.refl _ w3).alloc (Nat.le_refl _) _).alloc (by simp) _
      exact (HBX.out.below h34 HBX.out.lt).below h45 (Nat.lt_of_lt_of_le HBX.out.lt h34.size)
    · rw [hbi]
      have h1 : Has w4 w3.heap.size 24 #[ptr (w0.heap.size + 1)] := by rw [hw4]; exact (Has.fresh w3 _ _).alloc _
      exact h1.below h45 h1.lt
    · rw [hbi]
      have h1 : Has w4 (w3.heap.size + 1) 28 #[.string ⟨#[0]⟩] := by
        have := Has.fresh (w3.alloc (.cells #[ptr (w0.heap.size + 1)] 24)) 28 #[.string ⟨#[0]⟩]
        rw [World.size_alloc] at this
        rw [hw4]; exact this
      exact h1.below h45 h1.lt
    · have h1 := HT.out.node.lt k hm
      have h2 := HF.out k hm
      rcases hk with rfl | rfl | rfl | rfl | hk
      · omega
      · omega
      · omega
      · omega
      · have := hvw k hk; omega
  have HCL : Hid (ClB w0 X5 bg (.slice none 0 0) []) := by
    rw [hbg, hX5]
    exact ⟨Has.fresh w4 _ _, ⟨by simp [fl], .inl ⟨rfl, rfl⟩⟩, ((h02.trans (h24.mono h02.size))).alloc (by have := h02.size; have := h24.size; omega) _⟩
  have hKp : ∀ k, Kp w0.heap.size b5 bi vw k → k < bg := fun k hk => by
    rcases hk with rfl | rfl | rfl | rfl | hk
    · omega
    · omega
    · omega
    · omega
    · have := hvw k hk; omega
  have hz5 : X5.heap.size = bg + 1 := by rw [hX5, hbg]; simp
  have hFb : ∀ q ∈ F, q < bg := fun q hq => by have := HT.out.node.lt q hq; have := h24.size; omega
  rw [← hX5, ← hbi, ← hb5, ← hbg]
  have hseq := below_seq HMW.out.tm ⟨#[0]⟩ (by decide) HMW.out.it HMW.out.it2 8 L hL
  have HL := Lib.hid hL
  have HKP := Lib.hid hKp
  have HZ5 := Lib.hid hz5
  have hbg0 : w0.heap.size ≤ bg := by omega
  clear hX5 hw4 hbi hb5 hbg hL h24 h45 h25 h02 hwas5 HW4 HR3 HB3 HBX HT HT' HF HB2 hz2 hz3 hz4 c5 hKp hvw HH HG
  refine wpIn_mono (Q := MwQ w0 w0.heap.size b5 bi (w0.heap.size + 1) bg X5.heap.size stop vw L #[.slice A nl c, .int .i64 stop, undef, .pointer (some ⟨w0.heap.size, 0, none⟩), .bool false, .pointer (some ⟨b5, 0, none⟩), vw, .func (.func 81) #[] #[.pointer (some ⟨bi, 0, none⟩), .pointer (some ⟨bi + 1, 0, none⟩)], .pointer (some ⟨bg, 0, none⟩), undef, undef, undef, undef, undef, undef, .slice A nl c, .bool false, .slice A nl c, ptr (w0.heap.size + 1), .pointer (some ⟨w0.heap.size + 1, 0, none⟩), .bool false, .pointer (some ⟨w0.heap.size + 1, 0, none⟩), vw, ptr (w0.heap.size + 1), .func (.func 81) #[] #[.pointer (some ⟨bi, 0, none⟩), .pointer (some ⟨bi + 1, 0, none⟩)], .func (.func 81) #[] #[.pointer (some ⟨bi, 0, none⟩), .pointer (some ⟨bi + 1, 0, none⟩)], undef, undef, undef, undef, undef, undef, undef, undef, undef, undef, undef, undef, undef, undef, undef, undef, undef, undef, undef, undef, undef, undef, undef, undef, undef, undef, undef, undef, undef, undef, undef, undef, undef, undef, undef, undef, undef, undef, undef, undef, undef, undef, undef, undef, undef, undef, undef, undef, undef]) ?_ ?_
  · refine wpIn_rangeFunc_S (D := fun _ => True) (N := L.length) rfl (by omega) (gf := 81) (lb := #[.pointer (some ⟨bi, 0, none⟩), .pointer (some ⟨bi + 1, 0, none⟩)]) rfl trivial (enters_of Try.func81 (by kernel_rfl) rfl)
      hseq (fun _ => rfl)
      (fun j T Y => MwI w0 w0.heap.size b5 bi (w0.heap.size + 1) bg stop vw L j T Y ∧ j ≤ L.length ∧ ∀ i : Nat, 1 ≤ i → i ≤ j → stop ≠ i)
      (fun cd j T Y => cd = .exit 0 ∧ MwI w0 w0.heap.size b5 bi (w0.heap.size + 1) bg stop vw L j T Y ∧ j ≤ L.length ∧ 1 ≤ j ∧ stop = j)
      (fun q => ClT bg (.slice none 0 0) q ∨ q ∈ F) ?hI ?hIx ?hD ?hDx ?hB ?h0 ?a1 ?assign ?body ?done ?stop
    case hI =>
      rintro j T Y Z ⟨h, h2⟩ hc
      exact ⟨MwI.abides (fun k hk => by have := HKP.out k hk; have := HZ5.out; omega) (by have := HZ5.out; omega) (by have := HZ5.out; omega) j T Y Z h hc, h2⟩
    case hIx =>
      rintro cd j T Y Z ⟨h0, h, h2⟩ hc
      exact ⟨h0, MwI.abides (fun k hk => by have := HKP.out k hk; have := HZ5.out; omega) (by have := HZ5.out; omega) (by have := HZ5.out; omega) j T Y Z h hc, h2⟩
    case hD => exact fun _ _ _ _ => trivial
    case hDx => exact fun _ _ _ _ _ => trivial
    case hB =>
      rintro j T Y ⟨⟨v, m', F', hT, h, hc, _⟩, _⟩ q hq
      rcases (hT q).1 hq with h1 | h1
      · exact (hc.ge h1).2
      · exact h.tm.node.lt q h1
    case h0 => exact ⟨⟨_, m, F, fun q => Iff.rfl, HMW.out, HCL.out, fun q hq hm => by have := (HCL.out.ge hq).1; have := hFb q hm; omega, by omega⟩, Nat.zero_le _, fun i h1 h2 => by omega⟩
    case assign =>
      intro l2 j Y K hK
      unfold encL
      gi_wp2
      exact hK
    case body =>
      rintro l2 j T Y ⟨⟨v, m', F', hT, h, hc, ha, hf⟩, hjN, hno⟩ hj hl2
      obtain ⟨kv, hkv⟩ : ∃ kv : By × Int, L[j]?.getD ([], 0) = kv := ⟨_, rfl⟩
      have hkv2 : L[j] = kv := by rw [← hkv]; simp [hj]
      have htk : L.take (j + 1) = L.take j ++ [kv] := by rw [List.take_succ_eq_append_getElem hj, hkv2]
      simp only [hkv]
      have HJL : Hid (j + 1 ≤ L.length) := hj
      have hkl := hKL.2 kv (by rw [← hkv2]; exact List.getElem_mem hj)
      have hlj : (L.take j).length = j := by rw [List.length_take]; omega
      have hj60 : j < 60 := by have := hKL.1; omega
      have c0 : Y.cell? ⟨bg, 0, none⟩ = some v := by rw [hc.box.cell]; rfl
      have hA : MwA w0 Y w0.heap.size b5 bi (w0.heap.size + 1) bg stop vw L m' F' v (L.take j) := ⟨h, hc, ha⟩
      obtain ⟨A2, c2, w6, hr, c6, f6, hA6, hfr, hsub⟩ := hA.more HKP.out hbg0 (by omega) kv
      obtain ⟨n2, hn2⟩ : ∃ n2, n2 = (L.take j).length + 1 := ⟨_, rfl⟩
      rw [← hn2] at hr hA6 hfr hsub
      have hn3 : n2 = j + 1 := by omega
      have HA6 := Lib.hid hA6
      have HTK := Lib.hid htk
      have HFR := Lib.hid hfr
      have HSUB := Lib.hid hsub
      have HT := Lib.hid hT
      have HNO := Lib.hid hno
      have hsz : (⟨kv.1.toArray⟩ : ByteArray).size ≤ 140737488355328 := by rw [arr_size]; omega
      have d5 : (w6.setCell ⟨bg, 0, none⟩ (.slice A2 n2 c2)).cell? ⟨b5, 0, none⟩ = some (ptr (w0.heap.size + 1)) := by rw [hA6.mw.box.cell]; rfl
      have HDEL := Lib.hid (DelX_any hA6.mw.tm ⟨kv.1.toArray⟩ hsz)
      have HHA := Lib.hid hA
      have HF := Lib.hid hf
      clear hkv hkv2 hc h hA htk hA6 hfr hsub hT hno hkl hj ha hlj hn2 hf
      have HN3 := Lib.hid hn3
      clear hn3
      have hfin : ∀ (w7 w8 : World) (m7 m8 : No TV) (F7 F8 : List Nat), MwA w0 w7 w0.heap.size b5 bi (w0.heap.size + 1) bg stop vw L m7 F7 (.slice A2 n2 c2) (L.take j ++ [kv]) → MwA w0 w8 w0.heap.size b5 bi (w0.heap.size + 1) bg stop vw L m8 F8 (.slice A2 n2 c2) (L.take j ++ [kv]) →
          New (w6.setCell ⟨bg, 0, none⟩ (.slice A2 n2 c2)) F' F7 → Only F' (w6.setCell ⟨bg, 0, none⟩ (.slice A2 n2 c2)) w7 → New w7 F7 F8 → Only F7 w7 w8 → (nents m7).length ≤ (nents m').length → (nents m8).length ≤ (nents m7).length + 1 →
          ∃ T' : Bl, MwI w0 w0.heap.size b5 bi (w0.heap.size + 1) bg stop vw L (j + 1) T' w8 ∧ FrS T Y w8 ∧ ∀ q, T' q → T q ∨ Y.heap.size ≤ q := fun w7 w8 m7 m8 F7 F8 hA7 hA8 hn7 ho7 hn8 ho8 hl7 hl8 => by
        have hz6 := HFR.out.size
        refine ⟨fun q => ClT bg (.slice A2 n2 c2) q ∨ q ∈ F8, ⟨_, m8, F8, fun q => Iff.rfl, hA8.mw, by rw [HTK.out]; exact hA8.cl, hA8.ap, by have := HF.out; omega⟩, ?_, fun q hq => ?_⟩
        · refine ⟨ho8.os.trans (ho7.os.trans HFR.out.os), ho8.tape.trans (ho7.tape.trans HFR.out.tape), ho8.output.trans (ho7.output.trans HFR.out.output), Nat.le_trans hz6 (Nat.le_trans ho7.size ho8.size), fun k hk hS => ?_⟩
          have hS1 : k ∉ F' := fun h => hS ((HT.out k).2 (.inr h))
          have hS2 : k ∉ F7 := fun h => by
            rcases hn7 k h with h1 | h1
            · exact hS1 h1
            · omega
          exact (ho8.block k (Nat.lt_of_lt_of_le hk (Nat.le_trans hz6 ho7.size)) hS2).trans ((ho7.block k (Nat.lt_of_lt_of_le hk hz6) hS1).trans (HFR.out.block k hk (fun h => hS ((HT.out k).2 (.inl h)))))
        · rcases hq with hq | hq
          · rcases HSUB.out q hq with h1 | h1
            · exact .inl ((HT.out q).2 (.inl h1))
            · exact .inr h1
          · rcases hn8 q hq with h1 | h1
            · rcases hn7 q h1 with h2 | h2
              · exact .inl ((HT.out q).2 (.inr h2))
              · exact .inr (Nat.le_trans hz6 h2)
            · exact .inr (Nat.le_trans hz6 (Nat.le_trans ho7.size h1))
      have HFIN := Lib.hid hfin
      clear hfin
      by_cases hst : (n2 : Int) = stop
      · have hq : ((n2 : Int) == stop) = true := by rw [hst]; simp
        have HST := Lib.hid hst
        clear hst
        gi_wp2_with (first
          | (gi_at_builtin; refine wpListIn_append_at rfl (.tmp 28) (.tmp 32) _ rfl _ _ rfl rfl hr ?_; clear hr c0)
          | (refine ⟨trivial, ?_⟩; gi_at_call 14; refine (CallsIn.inRound l2 (callsIn_wide.2 HDEL.out)).mono ?_; rintro e w7 ⟨r7, m7, F7, rfl, hT7, hn7, ho7, hl7⟩; have HA7 := Lib.hid (HA6.out.only hT7 hn7 ho7); have HO7 := Lib.hid ho7; have HN7 := Lib.hid hn7; have HL7 := Lib.hid hl7; have d7 : w7.cell? ⟨b5, 0, none⟩ = some (ptr (w0.heap.size + 1)) := (by rw [HA7.out.mw.box.cell]; rfl); clear hT7 hn7 ho7 hl7)
          | (refine ⟨trivial, ?_⟩; gi_at_call 12; refine (CallsIn.inRound l2 (callsIn_wide.2 (PutX_any HA7.out.mw.tm (by have := HL7.out; have := HF.out; omega) ⟨#[2, 122, 122, 0]⟩ 7 (by decide) (by decide)))).mono ?_; rintro e w8 ⟨r8, m8, F8, rfl, hT8, hn8, ho8, hl8⟩; have HA8 := Lib.hid (HA7.out.only hT8 hn8 ho8); have HO8 := Lib.hid ho8; have HN8 := Lib.hid hn8; have HL8 := Lib.hid hl8; have d8 : w8.cell? ⟨bg, 0, none⟩ = some (.slice A2 n2 c2) := (by rw [HA8.out.cl.box.cell]; rfl); have d9 : w8.cell? ⟨w0.heap.size, 0, none⟩ = some (.int .i64 stop) := (by rw [HA8.out.mw.stp.cell]; rfl); clear hT8 hn8 ho8 hl8))
        obtain ⟨T', h1, h2, h3⟩ := HFIN.out w7 w8 m7 m8 F7 F8 HA7.out HA8.out HN7.out HO7.out HN8.out HO8.out HL7.out HL8.out
        exact ⟨T', ⟨rfl, h1, HJL.out, by omega, by have := HST.out; have := HN3.out; omega⟩, h2, h3⟩
      · have hq : ((n2 : Int) == stop) = false := beq_eq_false_iff_ne.2 hst
        have HST := Lib.hid hst
        clear hst
        gi_wp2_with (first
          | (gi_at_builtin; refine wpListIn_append_at rfl (.tmp 28) (.tmp 32) _ rfl _ _ rfl rfl hr ?_; clear hr c0)
          | (refine ⟨trivial, ?_⟩; gi_at_call 14; refine (CallsIn.inRound l2 (callsIn_wide.2 HDEL.out)).mono ?_; rintro e w7 ⟨r7, m7, F7, rfl, hT7, hn7, ho7, hl7⟩; have HA7 := Lib.hid (HA6.out.only hT7 hn7 ho7); have HO7 := Lib.hid ho7; have HN7 := Lib.hid hn7; have HL7 := Lib.hid hl7; have d7 : w7.cell? ⟨b5, 0, none⟩ = some (ptr (w0.heap.size + 1)) := (by rw [HA7.out.mw.box.cell]; rfl); clear hT7 hn7 ho7 hl7)
          | (refine ⟨trivial, ?_⟩; gi_at_call 12; refine (CallsIn.inRound l2 (callsIn_wide.2 (PutX_any HA7.out.mw.tm (by have := HL7.out; have := HF.out; omega) ⟨#[2, 122, 122, 0]⟩ 7 (by decide) (by decide)))).mono ?_; rintro e w8 ⟨r8, m8, F8, rfl, hT8, hn8, ho8, hl8⟩; have HA8 := Lib.hid (HA7.out.only hT8 hn8 ho8); have HO8 := Lib.hid ho8; have HN8 := Lib.hid hn8; have HL8 := Lib.hid hl8; have d8 : w8.cell? ⟨bg, 0, none⟩ = some (.slice A2 n2 c2) := (by rw [HA8.out.cl.box.cell]; rfl); have d9 : w8.cell? ⟨w0.heap.size, 0, none⟩ = some (.int .i64 stop) := (by rw [HA8.out.mw.stp.cell]; rfl); clear hT8 hn8 ho8 hl8))
        obtain ⟨T', h1, h2, h3⟩ := HFIN.out w7 w8 m7 m8 F7 F8 HA7.out HA8.out HN7.out HO7.out HN8.out HO8.out HL7.out HL8.out
        refine ⟨T', ⟨h1, HJL.out, fun i hi1 hi2 e => ?_⟩, h2, h3⟩
        rcases Nat.lt_or_ge i (j + 1) with h4 | h4
        · exact HNO.out i hi1 (by omega) e
        · have h5 : i = j + 1 := by omega
          have h6 := HN3.out
          exact HST.out (by rw [e, h6, h5])
    case done =>
      rintro D T Y hD0 ⟨⟨v, m', F', hT, h, hc, ha, hf⟩, _, hno⟩ hfr hsub hnD hKd
      have hkf : kf stop L.length = L.length := by
        unfold kf
        rw [if_neg]
        rintro ⟨h1, h2⟩
        exact hno stop.toNat (by omega) (by omega) (by omega)
      exact ⟨.inl rfl, D, v, m', F', rfl, h, by rw [hkf]; exact hc, by omega, hD0, hKd, fun h1 => hnD ((hT D).2 (.inl h1)), fun h1 => hnD ((hT D).2 (.inr h1))⟩
    case stop =>
      rintro D cd j T Y hD0 ⟨rfl, ⟨v, m', F', hT, h, hc, ha, hf⟩, hjN, hj1, hst⟩ hfr hsub hnD hKd
      have hkf : L.take (kf stop L.length) = L.take j := by
        unfold kf
        by_cases hjl : j < L.length
        · rw [if_pos ⟨by omega, by omega⟩, hst]; simp
        · rw [if_neg (by omega), show j = L.length by omega]
      exact wpIn_exit ⟨.inr rfl, D, v, m', F', rfl, h, by rw [hkf]; exact hc, by have := hKL.1; omega, hD0, hKd, fun h1 => hnD ((hT D).2 (.inl h1)), fun h1 => hnD ((hT D).2 (.inr h1))⟩
  · rintro e a Y ⟨he, D, v, m', F', rfl, h, hc, hf, hD0, hKd, hD1, hD2⟩
    refine inBlock_either he ?_
    dsimp only
    obtain ⟨A3, c3, hvw, hN3⟩ := ownK_form h.was
    obtain ⟨Av, cv, hv, _⟩ := ownK_form hc.row
    have HWAS : Hid (PRd Y (.slice A3 L.length c3) L) := by have := h.was.rd; rw [hvw] at this; exact this
    have HGOT : Hid (PRd Y v (L.take (kf stop L.length))) := PRow.rd (base := bg + 1) hc.row
    have HKF := kf_le stop L.length
    obtain ⟨nv, hnv⟩ : ∃ nv, nv = (L.take (kf stop L.length)).length := ⟨_, rfl⟩
    rw [← hnv] at hv
    have c8 : Y.cell? ⟨bg, 0, none⟩ = some (.slice Av nv cv) := by rw [hc.box.cell, hv]; rfl
    have c3' : Y.cell? ⟨w0.heap.size, 0, none⟩ = some (.int .i64 stop) := by rw [h.stp.cell]; rfl
    have HMW2 := Lib.hid h
    have HCL2 := Lib.hid hc
    have HVW := Lib.hid hvw
    have hL60 := hKL.1
    have hkfd : kf stop L.length = if 1 ≤ stop ∧ stop < L.length then stop.toNat else L.length := rfl
    rw [hvw]
    subst hv
    clear h hc HMW HCL hseq hFb hnv
    generalize L.length = N at *
    by_cases hst : 1 ≤ stop ∧ stop < N
    · obtain ⟨k1, rfl⟩ := Int.eq_ofNat_of_zero_le (show 0 ≤ stop by omega)
      have hkk : kf (k1 : Int) N = k1 := by rw [hkfd, if_pos hst]; simp
      have s1 : (1 : Int) ≤ (k1 : Int) := hst.1
      have s2 : (k1 : Int) < (N : Int) := hst.2
      have HKK := Lib.hid hkk
      clear hkfd hkk
      have h2s := HWAS.out.take (k := k1) (by omega) c3
      have HSM := Lib.hid h2s
      rw [HKK.out] at HGOT
      clear h2s
      gi_wp2
      refine wpIn_mono (Q := fun e a' W' => e = .normal ∧ ∃ u44 u45 u46 u47 u48 u49 u50 u51 u52 u53 u54 u55 u56 u57, a' = { tmps := #[.slice A nl c, .int .i64 k1, undef, .pointer (some ⟨w0.heap.size, 0, none⟩), .bool false, .pointer (some ⟨b5, 0, none⟩), .slice A3 N c3, .func (.func 81) #[] #[.pointer (some ⟨bi, 0, none⟩), .pointer (some ⟨bi + 1, 0, none⟩)], .pointer (some ⟨bg, 0, none⟩), undef, undef, .int .i64 k1, undef, undef, undef, .slice A nl c, .bool false, .slice A nl c, ptr (w0.heap.size + 1), .pointer (some ⟨w0.heap.size + 1, 0, none⟩), .bool false, .pointer (some ⟨w0.heap.size + 1, 0, none⟩), .slice A3 N c3, ptr (w0.heap.size + 1), .func (.func 81) #[] #[.pointer (some ⟨bi, 0, none⟩), .pointer (some ⟨bi + 1, 0, none⟩)], .func (.func 81) #[] #[.pointer (some ⟨bi, 0, none⟩), .pointer (some ⟨bi + 1, 0, none⟩)], undef, undef, undef, undef, undef, undef, undef, undef, undef, undef, undef, undef, undef, undef, undef, undef, undef, .slice A3 N c3, u44, u45, u46, u47, u48, u49, u50, u51, u52, u53, u54, u55, u56, u57, .bool false, undef, undef, undef, undef, undef, undef, undef, undef, undef, undef, undef, undef, undef, undef, undef, undef], defers := [{ target := .collected D, args := #[] }] } ∧ Below Y.heap.size Y W') ?_ ?_
      rotate_left
      · rintro e a' W' ⟨rfl, u44, u45, u46, u47, u48, u49, u50, u51, u52, u53, u54, u55, u56, u57, rfl, hbW⟩
        dsimp only
        have HMW7 := Lib.hid ((HMW2.out.below hbW (Nat.le_refl _)).below ((Below.refl W'.heap.size W').alloc (Nat.le_refl _) (.cells #[.slice none 0 0] 27)) (Nat.le_refl _))
        have HDW : Hid (W'.heap[D]? = some (.deferred (some []))) := (hbW.block D (Array.getElem?_eq_some_iff.1 hKd).1).trans hKd
        have HBW := Lib.hid hbW
        have HBL : Hid (Below w0.heap.size w0 W') := HMW2.out.bel.trans (hbW.mono HMW2.out.bel.size)
        have HLT : Hid (∀ k, Kp w0.heap.size b5 bi vw k ∨ k ∈ F' → k < W'.heap.size) := fun k hk => by
          have h5 := HMW2.out.below hbW (Nat.le_refl _)
          rcases hk with hk | hk
          · exact h5.lt k hk
          · exact h5.tm.node.lt k hk
        clear hKd HSM HGOT HWAS HMW2 HCL2 c8 c3' hbW
        gi_wp2
        obtain ⟨L2, hL2⟩ : ∃ L2, L2 = belowL m' [0] := ⟨_, rfl⟩
        have hseq2 := below_seq HMW7.out.tm ⟨#[0]⟩ (by decide) HMW7.out.it HMW7.out.it2 8 L2 hL2
        have hL2n : L2.length ≤ 1000000 := by
          rw [hL2]; unfold belowL
          split
          · rw [List.length_map]; exact Nat.le_trans (List.length_filter_le _ _) (by omega)
          · simp
        have HCL7 : Hid (ClB W' (W'.alloc (.cells #[.slice none 0 0] 27)) W'.heap.size (.slice none 0 0) []) := ⟨Has.fresh W' _ _, ⟨by simp [fl], .inl ⟨rfl, rfl⟩⟩, (Below.refl _ _).alloc (Nat.le_refl _) _⟩
        obtain ⟨X7, hX7⟩ : ∃ X7, X7 = W'.alloc (.cells #[.slice none 0 0] 27) := ⟨_, rfl⟩
        have hz7 : X7.heap.size = W'.heap.size + 1 := by rw [hX7]; simp
        rw [← hX7] at hseq2 HMW7 HCL7 ⊢
        have HL2 := Lib.hid hL2
        clear hX7 hL2
        refine wpIn_rangeFunc_S (D := fun _ => True) (N := L2.length) rfl (by omega) (gf := 81) (lb := #[.pointer (some ⟨bi, 0, none⟩), .pointer (some ⟨bi + 1, 0, none⟩)]) rfl trivial (enters_of Try.func81 (by kernel_rfl) rfl)
          hseq2 (fun _ => rfl)
          (fun j T Y => ∃ v, (∀ q, T q ↔ ClT W'.heap.size v q) ∧ ClB W' Y W'.heap.size v (L2.take j))
          (fun _ _ _ _ => False)
          (ClT W'.heap.size (.slice none 0 0)) ?hI2 ?hIx2 ?hD2 ?hDx2 ?hB2 ?h02 ?a12 ?assign2 ?body2 ?done2 ?stop2
        case hI2 =>
          rintro j T Y Z ⟨v, hT, hB⟩ hc
          exact ⟨v, hT, hB.chg hc (by omega) (by omega) hT⟩
        case hIx2 => exact fun _ _ _ _ _ h _ => h
        case hD2 => exact fun _ _ _ _ => trivial
        case hDx2 => exact fun _ _ _ _ _ => trivial
        case hB2 =>
          rintro j T Y ⟨v, hT, hB⟩ q hq
          rcases (hT q).1 hq with h1 | h1
          · have := hB.box.lt; omega
          · exact (hB.row.lt q h1).2
        case h02 => exact ⟨_, fun q => Iff.rfl, HCL7.out⟩
        case assign2 =>
          intro l2 j Y K hK
          unfold encL
          gi_wp2
          exact hK
        case body2 =>
          rintro l2 j T Y ⟨v, hT, hB⟩ hj hl2
          obtain ⟨kv, hkv⟩ : ∃ kv : By × Int, L2[j]?.getD ([], 0) = kv := ⟨_, rfl⟩
          have hkv2 : L2[j] = kv := by rw [← hkv]; simp [hj]
          have htk : L2.take (j + 1) = L2.take j ++ [kv] := by rw [List.take_succ_eq_append_getElem hj, hkv2]
          simp only [hkv]
          have hlj : (L2.take j).length ≤ 1000000 := by rw [List.length_take]; omega
          have c0 : Y.cell? ⟨W'.heap.size, 0, none⟩ = some v := by rw [hB.box.cell]; rfl
          obtain ⟨A2, c2, w2, hr, c2', f2, hB2, hfr, hsub⟩ := hB.more (Nat.le_refl _) hlj kv hT
          obtain ⟨n2, hn2⟩ : ∃ n2, n2 = (L2.take j).length + 1 := ⟨_, rfl⟩
          rw [← hn2] at hr hB2 hfr hsub
          have HB2 := Lib.hid hB2
          have HTK := Lib.hid htk
          have HFR := Lib.hid hfr
          have HSUB := Lib.hid hsub
          clear hkv hkv2 hB htk hB2 hfr hn2 hlj hT hj hsub
          gi_wp2_with (gi_at_builtin; refine wpListIn_append_at rfl (.tmp 62) (.tmp 66) _ rfl _ _ rfl rfl hr ?_; clear hr c0)
          exact ⟨_, ⟨_, fun q => Iff.rfl, by rw [HTK.out]; exact HB2.out⟩, HFR.out, HSUB.out⟩
        case done2 =>
          rintro D2 T Y2 hE0 ⟨v, hT, hB⟩ hfr hsub hnD hKd2
          obtain ⟨A2, c2, hv2, _⟩ := ownK_form hB.row
          obtain ⟨n2, hn2⟩ : ∃ n2, n2 = (L2.take L2.length).length := ⟨_, rfl⟩
          rw [← hn2] at hv2
          have c0 : Y2.cell? ⟨W'.heap.size, 0, none⟩ = some (.slice A2 n2 c2) := by rw [hB.box.cell, hv2]; rfl
          have hM : MwS w0 Y2 w0.heap.size b5 bi (w0.heap.size + 1) (k1 : Int) vw L m' F' := HMW7.out.same (HBL.out.trans (hB.bel.mono HBL.out.size)) fun k hk => by
            have hlt := HLT.out k hk
            exact (hB.bel.block k hlt).trans (HCL7.out.bel.block k hlt).symm
          have c5 : Y2.cell? ⟨b5, 0, none⟩ = some (ptr (w0.heap.size + 1)) := by rw [hM.box.cell]; rfl
          have hDlt : D < W'.heap.size := (Array.getElem?_eq_some_iff.1 HDW.out).1
          have hDY : Y2.heap[D]? = some (.deferred (some [])) := (hB.bel.block D hDlt).trans HDW.out
          have HTM := Lib.hid hM.tm
          have HBY : Hid (Below w0.heap.size w0 Y2) := hM.bel
          have HAG : Hid (PRd Y2 (.slice A2 n2 c2) L2) := by
            have := PRow.rd (base := W'.heap.size + 1) hB.row
            rw [List.take_of_length_le (Nat.le_refl _)] at this
            rwa [← hv2]
          have h5lt : b5 < Y2.heap.size := hM.box.lt
          have hhlt : W'.heap.size < Y2.heap.size := hB.box.lt
          clear hM hB hT hv2 hn2 hfr hsub hnD hseq2 HCL7 HMW7
          gi_wp2
          refine wpIn_mono (Q := fun e a' W2 => e = .normal ∧ a'.tmps[4]? = some (.bool true) ∧ a'.defers = [{ target := .collected D2, args := #[] }, { target := .collected D, args := #[] }] ∧ Below Y2.heap.size Y2 W2) ?_ ?_
          rotate_left
          · rintro e ⟨tm, df⟩ W2 ⟨rfl, h4, hdf, hb2⟩
            simp only at h4 hdf
            subst hdf
            have hk2 := (hb2.block D2 (Array.getElem?_eq_some_iff.1 hKd2).1).trans hKd2
            have hk1 := (hb2.block D (Array.getElem?_eq_some_iff.1 hDY).1).trans hDY
            have HR : Hid (Below w0.heap.size w0 W2) := HBY.out.trans (hb2.mono HBY.out.size)
            clear hb2
            gi_wp2
            refine ⟨by simp, .inl ⟨_, _, rfl, run_takeDeferred hk2, by simp, .inl ⟨_, _, rfl, run_takeDeferred ((World.putObj_heap_other (by omega)).trans hk1), ?_⟩⟩⟩
            have h02 : w0.heap.size ≤ D := by have := HZ5.out; omega
            refine ⟨_, results_tmp rfl _ _ _, by simp [h4], ?_⟩
            exact (HR.out.grown (grownBy_putObj' _ D2 _) HR.out.size (fun r e => by cases e; omega)).grown (grownBy_putObj' _ D _) (by have := HR.out.size; simpa using this) (fun r e => by cases e; omega)
          · have mixed : Try.prog.follows .mixedOrders = true := by kernel_rfl
            have hS0 : (fun X : World => X.cell? ⟨W'.heap.size, 0, none⟩ = some (.slice A2 n2 c2) ∧ X.cell? ⟨b5, 0, none⟩ = some (ptr (w0.heap.size + 1))) Y2.drew := ⟨c0, c5⟩
            refine wpIn_region_S2 (S := fun X : World => X.cell? ⟨W'.heap.size, 0, none⟩ = some (.slice A2 n2 c2) ∧ X.cell? ⟨b5, 0, none⟩ = some (ptr (w0.heap.size + 1))) mixed 8 #[false, false, false, false, false, false, false, false] rfl rfl ?_
            refine wpAnyS_take (i := 0) (v := .slice A2 n2 c2) rfl (by kernel_rfl) (by kernel_rfl) (by kernel_rfl) (by kernel_rfl) (fun _ _ _ h => by cases h.1) ⟨Or.inl ⟨by rfl, fun W' hW' => (by have := hW'.1; go_simp)⟩, rfl, fun _ => rfl⟩ hS0 ?_
            simp only [Act.put, List.getElem_toArray, List.getElem_cons_zero, List.setIfInBounds_toArray, List.set_cons_zero, List.set_cons_succ]
            refine wpAnyS_take (i := 1) (v := ptr (w0.heap.size + 1)) rfl (by kernel_rfl) (by kernel_rfl) (by kernel_rfl) (by kernel_rfl) (fun _ _ _ h => by cases h.1) ⟨Or.inl ⟨by rfl, fun W' hW' => (by have := hW'.2; go_simp)⟩, rfl, fun _ => rfl⟩ hS0 ?_
            simp only [Act.put, List.getElem_toArray, List.getElem_cons_zero, List.getElem_cons_succ, List.setIfInBounds_toArray, List.set_cons_zero, List.set_cons_succ]
            refine wpAnyS_ready (rs := [2]) (by kernel_rfl) (by simp) (AllS.cons rfl rfl (fun K2 hK2 => ?_) AllS.nil)
            go_simp
            refine ⟨trivial, ?_⟩
            have hdr : Below Y2.heap.size Y2 Y2.drew := (Below.refl _ _).drew
            have hal := lawAll_any (HTM.out.below hdr (Nat.le_refl _))
            rw [← HL2.out] at hal
            refine (callsIn_wide.2 hal).mono ?_
            rintro e w6 ⟨v6, rfl, hr6, hb6⟩
            dsimp only
            have hb6' : Below Y2.heap.size Y2 w6 := hdr.trans hb6
            refine hK2 _ _ ⟨(hb6'.cell (p := ⟨W'.heap.size, 0, none⟩) hhlt).trans c0, (hb6'.cell (p := ⟨b5, 0, none⟩) h5lt).trans c5⟩ ?_
            clear hK2 K2
            refine wpAnyS_ready (rs := [3]) (by kernel_rfl) (by simp) (AllS.cons rfl rfl (fun K2 hK2 => ?_) AllS.nil)
            go_simp
            refine ⟨trivial, ?_⟩
            have hsm := Same_any (HAG.out.below hb6' (Nat.le_refl _)) hr6.rd hL2n
            rw [decide_eq_true rfl] at hsm
            refine (callsIn_wide.2 hsm).mono ?_
            rintro e w7 ⟨rfl, hb7⟩
            dsimp only
            have hb7' : Below Y2.heap.size Y2 w7 := hb6'.trans (hb7.mono hb6'.size)
            have hS7 : (fun X : World => X.cell? ⟨W'.heap.size, 0, none⟩ = some (.slice A2 n2 c2) ∧ X.cell? ⟨b5, 0, none⟩ = some (ptr (w0.heap.size + 1))) w7 := ⟨(hb7'.cell (p := ⟨W'.heap.size, 0, none⟩) hhlt).trans c0, (hb7'.cell (p := ⟨b5, 0, none⟩) h5lt).trans c5⟩
            refine hK2 _ _ hS7 ?_
            clear hK2 K2
            refine wpAnyS_take (i := 4) (v := .bool true) rfl (by kernel_rfl) (by kernel_rfl) (by kernel_rfl) (by kernel_rfl) (fun _ _ _ h => by cases h.1) ⟨Or.inl ⟨by rfl, fun W' hW' => (by go_simp)⟩, rfl, fun _ => rfl⟩ hS7 ?_
            simp only [Act.put, List.getElem_toArray, List.getElem_cons_zero, List.getElem_cons_succ, List.setIfInBounds_toArray, List.set_cons_zero, List.set_cons_succ]
            refine wpAnyS_ready (rs := [5]) (by kernel_rfl) (by simp) (allS_on rfl rfl (fun K2 hK2 => ?_) AllS.nil)
            go_simp
            refine ⟨trivial, ?_⟩
            refine (callsIn_wide.2 (grows_any _)).mono ?_
            rintro e w8 ⟨rfl, hb8⟩
            dsimp only
            have hb8' : Below Y2.heap.size Y2 w8 := hb7'.trans (hb8.mono hb7'.size)
            have hS8 : (fun X : World => X.cell? ⟨W'.heap.size, 0, none⟩ = some (.slice A2 n2 c2) ∧ X.cell? ⟨b5, 0, none⟩ = some (ptr (w0.heap.size + 1))) w8 := ⟨(hb8'.cell (p := ⟨W'.heap.size, 0, none⟩) hhlt).trans c0, (hb8'.cell (p := ⟨b5, 0, none⟩) h5lt).trans c5⟩
            refine hK2 _ _ hS8 ?_
            clear hK2 K2
            refine wpAnyS_take (i := 6) (v := .bool true) rfl (by kernel_rfl) (by kernel_rfl) (by kernel_rfl) (by kernel_rfl) (fun _ _ _ h => by cases h.1) ⟨Or.inl ⟨by rfl, fun W' hW' => (by go_simp)⟩, rfl, fun _ => rfl⟩ hS8 ?_
            simp only [Act.put, List.getElem_toArray, List.getElem_cons_zero, List.getElem_cons_succ, List.setIfInBounds_toArray, List.set_cons_zero, List.set_cons_succ]
            refine wpAnyS_take (i := 7) (v := .bool true) rfl (by kernel_rfl) (by kernel_rfl) (by kernel_rfl) (by kernel_rfl) (fun _ _ _ h => by cases h.1) ⟨Or.inl ⟨by rfl, fun W' hW' => (by go_simp)⟩, rfl, fun _ => rfl⟩ hS8 ?_
            simp only [Act.put, List.getElem_toArray, List.getElem_cons_zero, List.getElem_cons_succ, List.setIfInBounds_toArray, List.set_cons_zero, List.set_cons_succ]
            refine wpAnyS_done (by kernel_rfl) ?_ _
            exact ⟨rfl, rfl, rfl, hb8'⟩
        case stop2 => exact fun _ _ _ _ _ _ h => h.elim
      · have mixed : Try.prog.follows .mixedOrders = true := by kernel_rfl
        have hS0 : (fun X : World => X.cell? ⟨bg, 0, none⟩ = some (.slice Av nv cv)) Y.drew := c8
        have i1 : (0 : Int) ≤ (k1 : Int) := by omega
        have i2 : (k1 : Int) ≤ (N : Int) := by omega
        have i3 : (N : Int) ≤ (c3 : Int) := by omega
        have i4 : ¬ c3 < k1 := by omega
        refine wpIn_region_S2 (S := fun X : World => X.cell? ⟨bg, 0, none⟩ = some (.slice Av nv cv)) mixed 6 #[false, false, false, false, false, false] rfl rfl ?_
        refine wpAnyS_take (i := 0) (v := .slice Av nv cv) rfl (by kernel_rfl) (by kernel_rfl) (by kernel_rfl) (by kernel_rfl) (fun _ _ _ h => by cases h.1) ⟨Or.inl ⟨by rfl, fun W' hW' => (by have := hW'; go_simp)⟩, rfl, fun _ => rfl⟩ hS0 ?_
        simp only [Act.put, List.getElem_toArray, List.getElem_cons_zero, List.setIfInBounds_toArray, List.set_cons_zero, List.set_cons_succ]
        refine wpAnyS_take (i := 1) (v := .slice A3 N c3) rfl (by kernel_rfl) (by kernel_rfl) (by kernel_rfl) (by kernel_rfl) (fun _ _ _ h => by cases h.1) ⟨Or.inl ⟨by rfl, fun W' hW' => (by go_simp)⟩, rfl, fun _ => rfl⟩ hS0 ?_
        simp only [Act.put, List.getElem_toArray, List.getElem_cons_zero, List.getElem_cons_succ, List.setIfInBounds_toArray, List.set_cons_zero, List.set_cons_succ]
        refine wpAnyS_take (i := 2) (v := .int .i64 k1) rfl (by kernel_rfl) (by kernel_rfl) (by kernel_rfl) (by kernel_rfl) (fun _ _ _ h => by cases h.1) ⟨Or.inl ⟨by rfl, fun W' hW' => (by go_simp)⟩, rfl, fun _ => rfl⟩ hS0 ?_
        simp only [Act.put, List.getElem_toArray, List.getElem_cons_zero, List.getElem_cons_succ, List.setIfInBounds_toArray, List.set_cons_zero, List.set_cons_succ]
        refine wpAnyS_take (i := 3) (v := .slice A3 k1 c3) rfl (by kernel_rfl) (by kernel_rfl) (by kernel_rfl) (by kernel_rfl) (fun _ _ _ h => by cases h.1) ⟨Or.inl ⟨by rfl, fun W' hW' => (by go_simp)⟩, rfl, fun _ => rfl⟩ hS0 ?_
        simp only [Act.put, List.getElem_toArray, List.getElem_cons_zero, List.getElem_cons_succ, List.setIfInBounds_toArray, List.set_cons_zero, List.set_cons_succ]
        refine wpAnyS_ready (rs := [4]) (by kernel_rfl) (by simp) (AllS.cons rfl rfl (fun K2 hK2 => ?_) AllS.nil)
        go_simp
        refine ⟨trivial, ?_⟩
        have hdr : Below Y.heap.size Y Y.drew := (Below.refl _ _).drew
        have hsm := Same_any (HGOT.out.below hdr (Nat.le_refl _)) (HSM.out.below hdr (Nat.le_refl _)) (by rw [List.length_take]; omega)
        rw [decide_eq_true rfl] at hsm
        refine (callsIn_wide.2 hsm).mono ?_
        rintro e w6 ⟨rfl, hb6⟩
        dsimp only
        have hb6' : Below Y.heap.size Y w6 := hdr.trans hb6
        have hS2 : (fun X : World => X.cell? ⟨bg, 0, none⟩ = some (.slice Av nv cv)) w6 := (hb6'.cell (p := ⟨bg, 0, none⟩) HCL2.out.box.lt).trans c8
        refine hK2 _ _ hS2 ?_
        clear hK2 K2
        refine wpAnyS_take (i := 5) (v := .bool false) rfl (by kernel_rfl) (by kernel_rfl) (by kernel_rfl) (by kernel_rfl) (fun _ _ _ h => by cases h.1) ⟨Or.inl ⟨by rfl, fun W' hW' => (by go_simp)⟩, rfl, fun _ => rfl⟩ hS2 ?_
        simp only [Act.put, List.getElem_toArray, List.getElem_cons_zero, List.getElem_cons_succ, List.setIfInBounds_toArray, List.set_cons_zero, List.set_cons_succ]
        refine wpAnyS_done (by kernel_rfl) ?_ _
        exact ⟨rfl, _, _, _, _, _, _, _, _, _, _, _, _, _, _, rfl, hb6'⟩
    · have hkk : kf stop N = N := by rw [hkfd, if_neg hst]
      have HKK := Lib.hid hkk
      clear hkfd hkk
      have h2s := HWAS.out.take (k := N) (Nat.le_refl _) c3
      have HSM := Lib.hid h2s
      rw [HKK.out] at HGOT
      clear h2s
      by_cases hs1 : 1 ≤ stop
      · have hs2 : ¬ stop < (N : Int) := fun h => hst ⟨hs1, h⟩
        gi_wp2
        refine wpIn_mono (Q := fun e a' W' => e = .normal ∧ ∃ u44 u45 u46 u47 u48 u49 u50 u51 u52 u53 u54 u55 u56 u57, a' = { tmps := #[.slice A nl c, .int .i64 stop, undef, .pointer (some ⟨w0.heap.size, 0, none⟩), .bool false, .pointer (some ⟨b5, 0, none⟩), .slice A3 N c3, .func (.func 81) #[] #[.pointer (some ⟨bi, 0, none⟩), .pointer (some ⟨bi + 1, 0, none⟩)], .pointer (some ⟨bg, 0, none⟩), undef, undef, .int .i64 N, undef, undef, undef, .slice A nl c, .bool false, .slice A nl c, ptr (w0.heap.size + 1), .pointer (some ⟨w0.heap.size + 1, 0, none⟩), .bool false, .pointer (some ⟨w0.heap.size + 1, 0, none⟩), .slice A3 N c3, ptr (w0.heap.size + 1), .func (.func 81) #[] #[.pointer (some ⟨bi, 0, none⟩), .pointer (some ⟨bi + 1, 0, none⟩)], .func (.func 81) #[] #[.pointer (some ⟨bi, 0, none⟩), .pointer (some ⟨bi + 1, 0, none⟩)], undef, undef, undef, undef, undef, undef, undef, undef, undef, undef, undef, undef, undef, undef, undef, undef, undef, .slice A3 N c3, u44, u45, u46, u47, u48, u49, u50, u51, u52, u53, u54, u55, u56, u57, .bool false, undef, undef, undef, undef, undef, undef, undef, undef, undef, undef, undef, undef, undef, undef, undef, undef], defers := [{ target := .collected D, args := #[] }] } ∧ Below Y.heap.size Y W') ?_ ?_
        rotate_left
        · rintro e a' W' ⟨rfl, u44, u45, u46, u47, u48, u49, u50, u51, u52, u53, u54, u55, u56, u57, rfl, hbW⟩
          dsimp only
          have HMW7 := Lib.hid ((HMW2.out.below hbW (Nat.le_refl _)).below ((Below.refl W'.heap.size W').alloc (Nat.le_refl _) (.cells #[.slice none 0 0] 27)) (Nat.le_refl _))
          have HDW : Hid (W'.heap[D]? = some (.deferred (some []))) := (hbW.block D (Array.getElem?_eq_some_iff.1 hKd).1).trans hKd
          have HBW := Lib.hid hbW
          have HBL : Hid (Below w0.heap.size w0 W') := HMW2.out.bel.trans (hbW.mono HMW2.out.bel.size)
          have HLT : Hid (∀ k, Kp w0.heap.size b5 bi vw k ∨ k ∈ F' → k < W'.heap.size) := fun k hk => by
            have h5 := HMW2.out.below hbW (Nat.le_refl _)
            rcases hk with hk | hk
            · exact h5.lt k hk
            · exact h5.tm.node.lt k hk
          clear hKd HSM HGOT HWAS HMW2 HCL2 c8 c3' hbW
          gi_wp2
          obtain ⟨L2, hL2⟩ : ∃ L2, L2 = belowL m' [0] := ⟨_, rfl⟩
          have hseq2 := below_seq HMW7.out.tm ⟨#[0]⟩ (by decide) HMW7.out.it HMW7.out.it2 8 L2 hL2
          have hL2n : L2.length ≤ 1000000 := by
            rw [hL2]; unfold belowL
            split
            · rw [List.length_map]; exact Nat.le_trans (List.length_filter_le _ _) (by omega)
            · simp
          have HCL7 : Hid (ClB W' (W'.alloc (.cells #[.slice none 0 0] 27)) W'.heap.size (.slice none 0 0) []) := ⟨Has.fresh W' _ _, ⟨by simp [fl], .inl ⟨rfl, rfl⟩⟩, (Below.refl _ _).alloc (Nat.le_refl _) _⟩
          obtain ⟨X7, hX7⟩ : ∃ X7, X7 = W'.alloc (.cells #[.slice none 0 0] 27) := ⟨_, rfl⟩
          have hz7 : X7.heap.size = W'.heap.size + 1 := by rw [hX7]; simp
          rw [← hX7] at hseq2 HMW7 HCL7 ⊢
          have HL2 := Lib.hid hL2
          clear hX7 hL2
          refine wpIn_rangeFunc_S (D := fun _ => True) (N := L2.length) rfl (by omega) (gf := 81) (lb := #[.pointer (some ⟨bi, 0, none⟩), .pointer (some ⟨bi + 1, 0, none⟩)]) rfl trivial (enters_of Try.func81 (by kernel_rfl) rfl)
            hseq2 (fun _ => rfl)
            (fun j T Y => ∃ v, (∀ q, T q ↔ ClT W'.heap.size v q) ∧ ClB W' Y W'.heap.size v (L2.take j))
            (fun _ _ _ _ => False)
            (ClT W'.heap.size (.slice none 0 0)) ?hI3 ?hIx3 ?hD3 ?hDx3 ?hB3 ?h03 ?a13 ?assign3 ?body3 ?done3 ?stop3
          case hI3 =>
            rintro j T Y Z ⟨v, hT, hB⟩ hc
            exact ⟨v, hT, hB.chg hc (by omega) (by omega) hT⟩
          case hIx3 => exact fun _ _ _ _ _ h _ => h
          case hD3 => exact fun _ _ _ _ => trivial
          case hDx3 => exact fun _ _ _ _ _ => trivial
          case hB3 =>
            rintro j T Y ⟨v, hT, hB⟩ q hq
            rcases (hT q).1 hq with h1 | h1
            · have := hB.box.lt; omega
            · exact (hB.row.lt q h1).2
          case h03 => exact ⟨_, fun q => Iff.rfl, HCL7.out⟩
          case assign3 =>
            intro l2 j Y K hK
            unfold encL
            gi_wp2
            exact hK
          case body3 =>
            rintro l2 j T Y ⟨v, hT, hB⟩ hj hl2
            obtain ⟨kv, hkv⟩ : ∃ kv : By × Int, L2[j]?.getD ([], 0) = kv := ⟨_, rfl⟩
            have hkv2 : L2[j] = kv := by rw [← hkv]; simp [hj]
            have htk : L2.take (j + 1) = L2.take j ++ [kv] := by rw [List.take_succ_eq_append_getElem hj, hkv2]
            simp only [hkv]
            have hlj : (L2.take j).length ≤ 1000000 := by rw [List.length_take]; omega
            have c0 : Y.cell? ⟨W'.heap.size, 0, none⟩ = some v := by rw [hB.box.cell]; rfl
            obtain ⟨A2, c2, w2, hr, c2', f2, hB2, hfr, hsub⟩ := hB.more (Nat.le_refl _) hlj kv hT
            obtain ⟨n2, hn2⟩ : ∃ n2, n2 = (L2.take j).length + 1 := ⟨_, rfl⟩
            rw [← hn2] at hr hB2 hfr hsub
            have HB2 := Lib.hid hB2
            have HTK := Lib.hid htk
            have HFR := Lib.hid hfr
            have HSUB := Lib.hid hsub
            clear hkv hkv2 hB htk hB2 hfr hn2 hlj hT hj hsub
            gi_wp2_with (gi_at_builtin; refine wpListIn_append_at rfl (.tmp 62) (.tmp 66) _ rfl _ _ rfl rfl hr ?_; clear hr c0)
            exact ⟨_, ⟨_, fun q => Iff.rfl, by rw [HTK.out]; exact HB2.out⟩, HFR.out, HSUB.out⟩
          case done3 =>
            rintro D2 T Y2 hE0 ⟨v, hT, hB⟩ hfr hsub hnD hKd2
            obtain ⟨A2, c2, hv2, _⟩ := ownK_form hB.row
            obtain ⟨n2, hn2⟩ : ∃ n2, n2 = (L2.take L2.length).length := ⟨_, rfl⟩
            rw [← hn2] at hv2
            have c0 : Y2.cell? ⟨W'.heap.size, 0, none⟩ = some (.slice A2 n2 c2) := by rw [hB.box.cell, hv2]; rfl
            have hM : MwS w0 Y2 w0.heap.size b5 bi (w0.heap.size + 1) stop vw L m' F' := HMW7.out.same (HBL.out.trans (hB.bel.mono HBL.out.size)) fun k hk => by
              have hlt := HLT.out k hk
              exact (hB.bel.block k hlt).trans (HCL7.out.bel.block k hlt).symm
            have c5 : Y2.cell? ⟨b5, 0, none⟩ = some (ptr (w0.heap.size + 1)) := by rw [hM.box.cell]; rfl
            have hDlt : D < W'.heap.size := (Array.getElem?_eq_some_iff.1 HDW.out).1
            have hDY : Y2.heap[D]? = some (.deferred (some [])) := (hB.bel.block D hDlt).trans HDW.out
            have HTM := Lib.hid hM.tm
            have HBY : Hid (Below w0.heap.size w0 Y2) := hM.bel
            have HAG : Hid (PRd Y2 (.slice A2 n2 c2) L2) := by
              have := PRow.rd (base := W'.heap.size + 1) hB.row
              rw [List.take_of_length_le (Nat.le_refl _)] at this
              rwa [← hv2]
            have h5lt : b5 < Y2.heap.size := hM.box.lt
            have hhlt : W'.heap.size < Y2.heap.size := hB.box.lt
            clear hM hB hT hv2 hn2 hfr hsub hnD hseq2 HCL7 HMW7
            gi_wp2
            refine wpIn_mono (Q := fun e a' W2 => e = .normal ∧ a'.tmps[4]? = some (.bool true) ∧ a'.defers = [{ target := .collected D2, args := #[] }, { target := .collected D, args := #[] }] ∧ Below Y2.heap.size Y2 W2) ?_ ?_
            rotate_left
            · rintro e ⟨tm, df⟩ W2 ⟨rfl, h4, hdf, hb2⟩
              simp only at h4 hdf
              subst hdf
              have hk2 := (hb2.block D2 (Array.getElem?_eq_some_iff.1 hKd2).1).trans hKd2
              have hk1 := (hb2.block D (Array.getElem?_eq_some_iff.1 hDY).1).trans hDY
              have HR : Hid (Below w0.heap.size w0 W2) := HBY.out.trans (hb2.mono HBY.out.size)
              clear hb2
              gi_wp2
              refine ⟨by simp, .inl ⟨_, _, rfl, run_takeDeferred hk2, by simp, .inl ⟨_, _, rfl, run_takeDeferred ((World.putObj_heap_other (by omega)).trans hk1), ?_⟩⟩⟩
              have h02 : w0.heap.size ≤ D := by have := HZ5.out; omega
              refine ⟨_, results_tmp rfl _ _ _, by simp [h4], ?_⟩
              exact (HR.out.grown (grownBy_putObj' _ D2 _) HR.out.size (fun r e => by cases e; omega)).grown (grownBy_putObj' _ D _) (by have := HR.out.size; simpa using this) (fun r e => by cases e; omega)
            · have mixed : Try.prog.follows .mixedOrders = true := by kernel_rfl
              have hS0 : (fun X : World => X.cell? ⟨W'.heap.size, 0, none⟩ = some (.slice A2 n2 c2) ∧ X.cell? ⟨b5, 0, none⟩ = some (ptr (w0.heap.size + 1))) Y2.drew := ⟨c0, c5⟩
              refine wpIn_region_S2 (S := fun X : World => X.cell? ⟨W'.heap.size, 0, none⟩ = some (.slice A2 n2 c2) ∧ X.cell? ⟨b5, 0, none⟩ = some (ptr (w0.heap.size + 1))) mixed 8 #[false, false, false, false, false, false, false, false] rfl rfl ?_
              refine wpAnyS_take (i := 0) (v := .slice A2 n2 c2) rfl (by kernel_rfl) (by kernel_rfl) (by kernel_rfl) (by kernel_rfl) (fun _ _ _ h => by cases h.1) ⟨Or.inl ⟨by rfl, fun W' hW' => (by have := hW'.1; go_simp)⟩, rfl, fun _ => rfl⟩ hS0 ?_
              simp only [Act.put, List.getElem_toArray, List.getElem_cons_zero, List.setIfInBounds_toArray, List.set_cons_zero, List.set_cons_succ]
              refine wpAnyS_take (i := 1) (v := ptr (w0.heap.size + 1)) rfl (by kernel_rfl) (by kernel_rfl) (by kernel_rfl) (by kernel_rfl) (fun _ _ _ h => by cases h.1) ⟨Or.inl ⟨by rfl, fun W' hW' => (by have := hW'.2; go_simp)⟩, rfl, fun _ => rfl⟩ hS0 ?_
              simp only [Act.put, List.getElem_toArray, List.getElem_cons_zero, List.getElem_cons_succ, List.setIfInBounds_toArray, List.set_cons_zero, List.set_cons_succ]
              refine wpAnyS_ready (rs := [2]) (by kernel_rfl) (by simp) (AllS.cons rfl rfl (fun K2 hK2 => ?_) AllS.nil)
              go_simp
              refine ⟨trivial, ?_⟩
              have hdr : Below Y2.heap.size Y2 Y2.drew := (Below.refl _ _).drew
              have hal := lawAll_any (HTM.out.below hdr (Nat.le_refl _))
              rw [← HL2.out] at hal
              refine (callsIn_wide.2 hal).mono ?_
              rintro e w6 ⟨v6, rfl, hr6, hb6⟩
              dsimp only
              have hb6' : Below Y2.heap.size Y2 w6 := hdr.trans hb6
              refine hK2 _ _ ⟨(hb6'.cell (p := ⟨W'.heap.size, 0, none⟩) hhlt).trans c0, (hb6'.cell (p := ⟨b5, 0, none⟩) h5lt).trans c5⟩ ?_
              clear hK2 K2
              refine wpAnyS_ready (rs := [3]) (by kernel_rfl) (by simp) (AllS.cons rfl rfl (fun K2 hK2 => ?_) AllS.nil)
              go_simp
              refine ⟨trivial, ?_⟩
              have hsm := Same_any (HAG.out.below hb6' (Nat.le_refl _)) hr6.rd hL2n
              rw [decide_eq_true rfl] at hsm
              refine (callsIn_wide.2 hsm).mono ?_
              rintro e w7 ⟨rfl, hb7⟩
              dsimp only
              have hb7' : Below Y2.heap.size Y2 w7 := hb6'.trans (hb7.mono hb6'.size)
              have hS7 : (fun X : World => X.cell? ⟨W'.heap.size, 0, none⟩ = some (.slice A2 n2 c2) ∧ X.cell? ⟨b5, 0, none⟩ = some (ptr (w0.heap.size + 1))) w7 := ⟨(hb7'.cell (p := ⟨W'.heap.size, 0, none⟩) hhlt).trans c0, (hb7'.cell (p := ⟨b5, 0, none⟩) h5lt).trans c5⟩
              refine hK2 _ _ hS7 ?_
              clear hK2 K2
              refine wpAnyS_take (i := 4) (v := .bool true) rfl (by kernel_rfl) (by kernel_rfl) (by kernel_rfl) (by kernel_rfl) (fun _ _ _ h => by cases h.1) ⟨Or.inl ⟨by rfl, fun W' hW' => (by go_simp)⟩, rfl, fun _ => rfl⟩ hS7 ?_
              simp only [Act.put, List.getElem_toArray, List.getElem_cons_zero, List.getElem_cons_succ, List.setIfInBounds_toArray, List.set_cons_zero, List.set_cons_succ]
              refine wpAnyS_ready (rs := [5]) (by kernel_rfl) (by simp) (allS_on rfl rfl (fun K2 hK2 => ?_) AllS.nil)
              go_simp
              refine ⟨trivial, ?_⟩
              refine (callsIn_wide.2 (grows_any _)).mono ?_
              rintro e w8 ⟨rfl, hb8⟩
              dsimp only
              have hb8' : Below Y2.heap.size Y2 w8 := hb7'.trans (hb8.mono hb7'.size)
              have hS8 : (fun X : World => X.cell? ⟨W'.heap.size, 0, none⟩ = some (.slice A2 n2 c2) ∧ X.cell? ⟨b5, 0, none⟩ = some (ptr (w0.heap.size + 1))) w8 := ⟨(hb8'.cell (p := ⟨W'.heap.size, 0, none⟩) hhlt).trans c0, (hb8'.cell (p := ⟨b5, 0, none⟩) h5lt).trans c5⟩
              refine hK2 _ _ hS8 ?_
              clear hK2 K2
              refine wpAnyS_take (i := 6) (v := .bool true) rfl (by kernel_rfl) (by kernel_rfl) (by kernel_rfl) (by kernel_rfl) (fun _ _ _ h => by cases h.1) ⟨Or.inl ⟨by rfl, fun W' hW' => (by go_simp)⟩, rfl, fun _ => rfl⟩ hS8 ?_
              simp only [Act.put, List.getElem_toArray, List.getElem_cons_zero, List.getElem_cons_succ, List.setIfInBounds_toArray, List.set_cons_zero, List.set_cons_succ]
              refine wpAnyS_take (i := 7) (v := .bool true) rfl (by kernel_rfl) (by kernel_rfl) (by kernel_rfl) (by kernel_rfl) (fun _ _ _ h => by cases h.1) ⟨Or.inl ⟨by rfl, fun W' hW' => (by go_simp)⟩, rfl, fun _ => rfl⟩ hS8 ?_
              simp only [Act.put, List.getElem_toArray, List.getElem_cons_zero, List.getElem_cons_succ, List.setIfInBounds_toArray, List.set_cons_zero, List.set_cons_succ]
              refine wpAnyS_done (by kernel_rfl) ?_ _
              exact ⟨rfl, rfl, rfl, hb8'⟩
          case stop3 => exact fun _ _ _ _ _ _ h => h.elim
        · have mixed : Try.prog.follows .mixedOrders = true := by kernel_rfl
          have hS0 : (fun X : World => X.cell? ⟨bg, 0, none⟩ = some (.slice Av nv cv)) Y.drew := c8
          have i1 : (0 : Int) ≤ (N : Int) := by omega
          have i2 : (N : Int) ≤ (N : Int) := by omega
          have i3 : (N : Int) ≤ (c3 : Int) := by omega
          have i4 : ¬ c3 < N := by omega
          refine wpIn_region_S2 (S := fun X : World => X.cell? ⟨bg, 0, none⟩ = some (.slice Av nv cv)) mixed 6 #[false, false, false, false, false, false] rfl rfl ?_
          refine wpAnyS_take (i := 0) (v := .slice Av nv cv) rfl (by kernel_rfl) (by kernel_rfl) (by kernel_rfl) (by kernel_rfl) (fun _ _ _ h => by cases h.1) ⟨Or.inl ⟨by rfl, fun W' hW' => (by have := hW'; go_simp)⟩, rfl, fun _ => rfl⟩ hS0 ?_
          simp only [Act.put, List.getElem_toArray, List.getElem_cons_zero, List.setIfInBounds_toArray, List.set_cons_zero, List.set_cons_succ]
          refine wpAnyS_take (i := 1) (v := .slice A3 N c3) rfl (by kernel_rfl) (by kernel_rfl) (by kernel_rfl) (by kernel_rfl) (fun _ _ _ h => by cases h.1) ⟨Or.inl ⟨by rfl, fun W' hW' => (by go_simp)⟩, rfl, fun _ => rfl⟩ hS0 ?_
          simp only [Act.put, List.getElem_toArray, List.getElem_cons_zero, List.getElem_cons_succ, List.setIfInBounds_toArray, List.set_cons_zero, List.set_cons_succ]
          refine wpAnyS_take (i := 2) (v := .int .i64 N) rfl (by kernel_rfl) (by kernel_rfl) (by kernel_rfl) (by kernel_rfl) (fun _ _ _ h => by cases h.1) ⟨Or.inl ⟨by rfl, fun W' hW' => (by go_simp)⟩, rfl, fun _ => rfl⟩ hS0 ?_
          simp only [Act.put, List.getElem_toArray, List.getElem_cons_zero, List.getElem_cons_succ, List.setIfInBounds_toArray, List.set_cons_zero, List.set_cons_succ]
          refine wpAnyS_take (i := 3) (v := .slice A3 N c3) rfl (by kernel_rfl) (by kernel_rfl) (by kernel_rfl) (by kernel_rfl) (fun _ _ _ h => by cases h.1) ⟨Or.inl ⟨by rfl, fun W' hW' => (by go_simp)⟩, rfl, fun _ => rfl⟩ hS0 ?_
          simp only [Act.put, List.getElem_toArray, List.getElem_cons_zero, List.getElem_cons_succ, List.setIfInBounds_toArray, List.set_cons_zero, List.set_cons_succ]
          refine wpAnyS_ready (rs := [4]) (by kernel_rfl) (by simp) (AllS.cons rfl rfl (fun K2 hK2 => ?_) AllS.nil)
          go_simp
          refine ⟨trivial, ?_⟩
          have hdr : Below Y.heap.size Y Y.drew := (Below.refl _ _).drew
          have hsm := Same_any (HGOT.out.below hdr (Nat.le_refl _)) (HSM.out.below hdr (Nat.le_refl _)) (by rw [List.length_take]; omega)
          rw [decide_eq_true rfl] at hsm
          refine (callsIn_wide.2 hsm).mono ?_
          rintro e w6 ⟨rfl, hb6⟩
          dsimp only
          have hb6' : Below Y.heap.size Y w6 := hdr.trans hb6
          have hS2 : (fun X : World => X.cell? ⟨bg, 0, none⟩ = some (.slice Av nv cv)) w6 := (hb6'.cell (p := ⟨bg, 0, none⟩) HCL2.out.box.lt).trans c8
          refine hK2 _ _ hS2 ?_
          clear hK2 K2
          refine wpAnyS_take (i := 5) (v := .bool false) rfl (by kernel_rfl) (by kernel_rfl) (by kernel_rfl) (by kernel_rfl) (fun _ _ _ h => by cases h.1) ⟨Or.inl ⟨by rfl, fun W' hW' => (by go_simp)⟩, rfl, fun _ => rfl⟩ hS2 ?_
          simp only [Act.put, List.getElem_toArray, List.getElem_cons_zero, List.getElem_cons_succ, List.setIfInBounds_toArray, List.set_cons_zero, List.set_cons_succ]
          refine wpAnyS_done (by kernel_rfl) ?_ _
          exact ⟨rfl, _, _, _, _, _, _, _, _, _, _, _, _, _, _, rfl, hb6'⟩
      · have hs2 := hs1
        gi_wp2
        refine wpIn_mono (Q := fun e a' W' => e = .normal ∧ ∃ u44 u45 u46 u47 u48 u49 u50 u51 u52 u53 u54 u55 u56 u57, a' = { tmps := #[.slice A nl c, .int .i64 stop, undef, .pointer (some ⟨w0.heap.size, 0, none⟩), .bool false, .pointer (some ⟨b5, 0, none⟩), .slice A3 N c3, .func (.func 81) #[] #[.pointer (some ⟨bi, 0, none⟩), .pointer (some ⟨bi + 1, 0, none⟩)], .pointer (some ⟨bg, 0, none⟩), undef, undef, .int .i64 N, undef, undef, undef, .slice A nl c, .bool false, .slice A nl c, ptr (w0.heap.size + 1), .pointer (some ⟨w0.heap.size + 1, 0, none⟩), .bool false, .pointer (some ⟨w0.heap.size + 1, 0, none⟩), .slice A3 N c3, ptr (w0.heap.size + 1), .func (.func 81) #[] #[.pointer (some ⟨bi, 0, none⟩), .pointer (some ⟨bi + 1, 0, none⟩)], .func (.func 81) #[] #[.pointer (some ⟨bi, 0, none⟩), .pointer (some ⟨bi + 1, 0, none⟩)], undef, undef, undef, undef, undef, undef, undef, undef, undef, undef, undef, undef, undef, undef, undef, undef, undef, .slice A3 N c3, u44, u45, u46, u47, u48, u49, u50, u51, u52, u53, u54, u55, u56, u57, .bool false, undef, undef, undef, undef, undef, undef, undef, undef, undef, undef, undef, undef, undef, undef, undef, undef], defers := [{ target := .collected D, args := #[] }] } ∧ Below Y.heap.size Y W') ?_ ?_
        rotate_left
        · rintro e a' W' ⟨rfl, u44, u45, u46, u47, u48, u49, u50, u51, u52, u53, u54, u55, u56, u57, rfl, hbW⟩
          dsimp only
          have HMW7 := Lib.hid ((HMW2.out.below hbW (Nat.le_refl _)).below ((Below.refl W'.heap.size W').alloc (Nat.le_refl _) (.cells #[.slice none 0 0] 27)) (Nat.le_refl _))
          have HDW : Hid (W'.heap[D]? = some (.deferred (some []))) := (hbW.block D (Array.getElem?_eq_some_iff.1 hKd).1).trans hKd
          have HBW := Lib.hid hbW
          have HBL : Hid (Below w0.heap.size w0 W') := HMW2.out.bel.trans (hbW.mono HMW2.out.bel.size)
          have HLT : Hid (∀ k, Kp w0.heap.size b5 bi vw k ∨ k ∈ F' → k < W'.heap.size) := fun k hk => by
            have h5 := HMW2.out.below hbW (Nat.le_refl _)
            rcases hk with hk | hk
            · exact h5.lt k hk
            · exact h5.tm.node.lt k hk
          clear hKd HSM HGOT HWAS HMW2 HCL2 c8 c3' hbW
          gi_wp2
          obtain ⟨L2, hL2⟩ : ∃ L2, L2 = belowL m' [0] := ⟨_, rfl⟩
          have hseq2 := below_seq HMW7.out.tm ⟨#[0]⟩ (by decide) HMW7.out.it HMW7.out.it2 8 L2 hL2
          have hL2n : L2.length ≤ 1000000 := by
            rw [hL2]; unfold belowL
            split
            · rw [List.length_map]; exact Nat.le_trans (List.length_filter_le _ _) (by omega)
            · simp
          have HCL7 : Hid (ClB W' (W'.alloc (.cells #[.slice none 0 0] 27)) W'.heap.size (.slice none 0 0) []) := ⟨Has.fresh W' _ _, ⟨by simp [fl], .inl ⟨rfl, rfl⟩⟩, (Below.refl _ _).alloc (Nat.le_refl _) _⟩
          obtain ⟨X7, hX7⟩ : ∃ X7, X7 = W'.alloc (.cells #[.slice none 0 0] 27) := ⟨_, rfl⟩
          have hz7 : X7.heap.size = W'.heap.size + 1 := by rw [hX7]; simp
          rw [← hX7] at hseq2 HMW7 HCL7 ⊢
          have HL2 := Lib.hid hL2
          clear hX7 hL2
          refine wpIn_rangeFunc_S (D := fun _ => True) (N := L2.length) rfl (by omega) (gf := 81) (lb := #[.pointer (some ⟨bi, 0, none⟩), .pointer (some ⟨bi + 1, 0, none⟩)]) rfl trivial (enters_of Try.func81 (by kernel_rfl) rfl)
            hseq2 (fun _ => rfl)
            (fun j T Y => ∃ v, (∀ q, T q ↔ ClT W'.heap.size v q) ∧ ClB W' Y W'.heap.size v (L2.take j))
            (fun _ _ _ _ => False)
            (ClT W'.heap.size (.slice none 0 0)) ?hI4 ?hIx4 ?hD4 ?hDx4 ?hB4 ?h04 ?a14 ?assign4 ?body4 ?done4 ?stop4
          case hI4 =>
            rintro j T Y Z ⟨v, hT, hB⟩ hc
            exact ⟨v, hT, hB.chg hc (by omega) (by omega) hT⟩
          case hIx4 => exact fun _ _ _ _ _ h _ => h
          case hD4 => exact fun _ _ _ _ => trivial
          case hDx4 => exact fun _ _ _ _ _ => trivial
          case hB4 =>
            rintro j T Y ⟨v, hT, hB⟩ q hq
            rcases (hT q).1 hq with h1 | h1
            · have := hB.box.lt; omega
            · exact (hB.row.lt q h1).2
          case h04 => exact ⟨_, fun q => Iff.rfl, HCL7.out⟩
          case assign4 =>
            intro l2 j Y K hK
            unfold encL
            gi_wp2
            exact hK
          case body4 =>
            rintro l2 j T Y ⟨v, hT, hB⟩ hj hl2
            obtain ⟨kv, hkv⟩ : ∃ kv : By × Int, L2[j]?.getD ([], 0) = kv := ⟨_, rfl⟩
            have hkv2 : L2[j] = kv := by rw [← hkv]; simp [hj]
            have htk : L2.take (j + 1) = L2.take j ++ [kv] := by rw [List.take_succ_eq_append_getElem hj, hkv2]
            simp only [hkv]
            have hlj : (L2.take j).length ≤ 1000000 := by rw [List.length_take]; omega
            have c0 : Y.cell? ⟨W'.heap.size, 0, none⟩ = some v := by rw [hB.box.cell]; rfl
            obtain ⟨A2, c2, w2, hr, c2', f2, hB2, hfr, hsub⟩ := hB.more (Nat.le_refl _) hlj kv hT
            obtain ⟨n2, hn2⟩ : ∃ n2, n2 = (L2.take j).length + 1 := ⟨_, rfl⟩
            rw [← hn2] at hr hB2 hfr hsub
            have HB2 := Lib.hid hB2
            have HTK := Lib.hid htk
            have HFR := Lib.hid hfr
            have HSUB := Lib.hid hsub
            clear hkv hkv2 hB htk hB2 hfr hn2 hlj hT hj hsub
            gi_wp2_with (gi_at_builtin; refine wpListIn_append_at rfl (.tmp 62) (.tmp 66) _ rfl _ _ rfl rfl hr ?_; clear hr c0)
            exact ⟨_, ⟨_, fun q => Iff.rfl, by rw [HTK.out]; exact HB2.out⟩, HFR.out, HSUB.out⟩
          case done4 =>
            rintro D2 T Y2 hE0 ⟨v, hT, hB⟩ hfr hsub hnD hKd2
            obtain ⟨A2, c2, hv2, _⟩ := ownK_form hB.row
            obtain ⟨n2, hn2⟩ : ∃ n2, n2 = (L2.take L2.length).length := ⟨_, rfl⟩
            rw [← hn2] at hv2
            have c0 : Y2.cell? ⟨W'.heap.size, 0, none⟩ = some (.slice A2 n2 c2) := by rw [hB.box.cell, hv2]; rfl
            have hM : MwS w0 Y2 w0.heap.size b5 bi (w0.heap.size + 1) stop vw L m' F' := HMW7.out.same (HBL.out.trans (hB.bel.mono HBL.out.size)) fun k hk => by
              have hlt := HLT.out k hk
              exact (hB.bel.block k hlt).trans (HCL7.out.bel.block k hlt).symm
            have c5 : Y2.cell? ⟨b5, 0, none⟩ = some (ptr (w0.heap.size + 1)) := by rw [hM.box.cell]; rfl
            have hDlt : D < W'.heap.size := (Array.getElem?_eq_some_iff.1 HDW.out).1
            have hDY : Y2.heap[D]? = some (.deferred (some [])) := (hB.bel.block D hDlt).trans HDW.out
            have HTM := Lib.hid hM.tm
            have HBY : Hid (Below w0.heap.size w0 Y2) := hM.bel
            have HAG : Hid (PRd Y2 (.slice A2 n2 c2) L2) := by
              have := PRow.rd (base := W'.heap.size + 1) hB.row
              rw [List.take_of_length_le (Nat.le_refl _)] at this
              rwa [← hv2]
            have h5lt : b5 < Y2.heap.size := hM.box.lt
            have hhlt : W'.heap.size < Y2.heap.size := hB.box.lt
            clear hM hB hT hv2 hn2 hfr hsub hnD hseq2 HCL7 HMW7
            gi_wp2
            refine wpIn_mono (Q := fun e a' W2 => e = .normal ∧ a'.tmps[4]? = some (.bool true) ∧ a'.defers = [{ target := .collected D2, args := #[] }, { target := .collected D, args := #[] }] ∧ Below Y2.heap.size Y2 W2) ?_ ?_
            rotate_left
            · rintro e ⟨tm, df⟩ W2 ⟨rfl, h4, hdf, hb2⟩
              simp only at h4 hdf
              subst hdf
              have hk2 := (hb2.block D2 (Array.getElem?_eq_some_iff.1 hKd2).1).trans hKd2
              have hk1 := (hb2.block D (Array.getElem?_eq_some_iff.1 hDY).1).trans hDY
              have HR : Hid (Below w0.heap.size w0 W2) := HBY.out.trans (hb2.mono HBY.out.size)
              clear hb2
              gi_wp2
              refine ⟨by simp, .inl ⟨_, _, rfl, run_takeDeferred hk2, by simp, .inl ⟨_, _, rfl, run_takeDeferred ((World.putObj_heap_other (by omega)).trans hk1), ?_⟩⟩⟩
              have h02 : w0.heap.size ≤ D := by have := HZ5.out; omega
              refine ⟨_, results_tmp rfl _ _ _, by simp [h4], ?_⟩
              exact (HR.out.grown (grownBy_putObj' _ D2 _) HR.out.size (fun r e => by cases e; omega)).grown (grownBy_putObj' _ D _) (by have := HR.out.size; simpa using this) (fun r e => by cases e; omega)
            · have mixed : Try.prog.follows .mixedOrders = true := by kernel_rfl
              have hS0 : (fun X : World => X.cell? ⟨W'.heap.size, 0, none⟩ = some (.slice A2 n2 c2) ∧ X.cell? ⟨b5, 0, none⟩ = some (ptr (w0.heap.size + 1))) Y2.drew := ⟨c0, c5⟩
              refine wpIn_region_S2 (S := fun X : World => X.cell? ⟨W'.heap.size, 0, none⟩ = some (.slice A2 n2 c2) ∧ X.cell? ⟨b5, 0, none⟩ = some (ptr (w0.heap.size + 1))) mixed 8 #[false, false, false, false, false, false, false, false] rfl rfl ?_
              refine wpAnyS_take (i := 0) (v := .slice A2 n2 c2) rfl (by kernel_rfl) (by kernel_rfl) (by kernel_rfl) (by kernel_rfl) (fun _ _ _ h => by cases h.1) ⟨Or.inl ⟨by rfl, fun W' hW' => (by have := hW'.1; go_simp)⟩, rfl, fun _ => rfl⟩ hS0 ?_
              simp only [Act.put, List.getElem_toArray, List.getElem_cons_zero, List.setIfInBounds_toArray, List.set_cons_zero, List.set_cons_succ]
              refine wpAnyS_take (i := 1) (v := ptr (w0.heap.size + 1)) rfl (by kernel_rfl) (by kernel_rfl) (by kernel_rfl) (by kernel_rfl) (fun _ _ _ h => by cases h.1) ⟨Or.inl ⟨by rfl, fun W' hW' => (by have := hW'.2; go_simp)⟩, rfl, fun _ => rfl⟩ hS0 ?_
              simp only [Act.put, List.getElem_toArray, List.getElem_cons_zero, List.getElem_cons_succ, List.setIfInBounds_toArray, List.set_cons_zero, List.set_cons_succ]
              refine wpAnyS_ready (rs := [2]) (by kernel_rfl) (by simp) (AllS.cons rfl rfl (fun K2 hK2 => ?_) AllS.nil)
              go_simp
              refine ⟨trivial, ?_⟩
              have hdr : Below Y2.heap.size Y2 Y2.drew := (Below.refl _ _).drew
              have hal := lawAll_any (HTM.out.below hdr (Nat.le_refl _))
              rw [← HL2.out] at hal
              refine (callsIn_wide.2 hal).mono ?_
              rintro e w6 ⟨v6, rfl, hr6, hb6⟩
              dsimp only
              have hb6' : Below Y2.heap.size Y2 w6 := hdr.trans hb6
              refine hK2 _ _ ⟨(hb6'.cell (p := ⟨W'.heap.size, 0, none⟩) hhlt).trans c0, (hb6'.cell (p := ⟨b5, 0, none⟩) h5lt).trans c5⟩ ?_
              clear hK2 K2
              refine wpAnyS_ready (rs := [3]) (by kernel_rfl) (by simp) (AllS.cons rfl rfl (fun K2 hK2 => ?_) AllS.nil)
              go_simp
              refine ⟨trivial, ?_⟩
              have hsm := Same_any (HAG.out.below hb6' (Nat.le_refl _)) hr6.rd hL2n
              rw [decide_eq_true rfl] at hsm
              refine (callsIn_wide.2 hsm).mono ?_
              rintro e w7 ⟨rfl, hb7⟩
              dsimp only
              have hb7' : Below Y2.heap.size Y2 w7 := hb6'.trans (hb7.mono hb6'.size)
              have hS7 : (fun X : World => X.cell? ⟨W'.heap.size, 0, none⟩ = some (.slice A2 n2 c2) ∧ X.cell? ⟨b5, 0, none⟩ = some (ptr (w0.heap.size + 1))) w7 := ⟨(hb7'.cell (p := ⟨W'.heap.size, 0, none⟩) hhlt).trans c0, (hb7'.cell (p := ⟨b5, 0, none⟩) h5lt).trans c5⟩
              refine hK2 _ _ hS7 ?_
              clear hK2 K2
              refine wpAnyS_take (i := 4) (v := .bool true) rfl (by kernel_rfl) (by kernel_rfl) (by kernel_rfl) (by kernel_rfl) (fun _ _ _ h => by cases h.1) ⟨Or.inl ⟨by rfl, fun W' hW' => (by go_simp)⟩, rfl, fun _ => rfl⟩ hS7 ?_
              simp only [Act.put, List.getElem_toArray, List.getElem_cons_zero, List.getElem_cons_succ, List.setIfInBounds_toArray, List.set_cons_zero, List.set_cons_succ]
              refine wpAnyS_ready (rs := [5]) (by kernel_rfl) (by simp) (allS_on rfl rfl (fun K2 hK2 => ?_) AllS.nil)
              go_simp
              refine ⟨trivial, ?_⟩
              refine (callsIn_wide.2 (grows_any _)).mono ?_
              rintro e w8 ⟨rfl, hb8⟩
              dsimp only
              have hb8' : Below Y2.heap.size Y2 w8 := hb7'.trans (hb8.mono hb7'.size)
              have hS8 : (fun X : World => X.cell? ⟨W'.heap.size, 0, none⟩ = some (.slice A2 n2 c2) ∧ X.cell? ⟨b5, 0, none⟩ = some (ptr (w0.heap.size + 1))) w8 := ⟨(hb8'.cell (p := ⟨W'.heap.size, 0, none⟩) hhlt).trans c0, (hb8'.cell (p := ⟨b5, 0, none⟩) h5lt).trans c5⟩
              refine hK2 _ _ hS8 ?_
              clear hK2 K2
              refine wpAnyS_take (i := 6) (v := .bool true) rfl (by kernel_rfl) (by kernel_rfl) (by kernel_rfl) (by kernel_rfl) (fun _ _ _ h => by cases h.1) ⟨Or.inl ⟨by rfl, fun W' hW' => (by go_simp)⟩, rfl, fun _ => rfl⟩ hS8 ?_
              simp only [Act.put, List.getElem_toArray, List.getElem_cons_zero, List.getElem_cons_succ, List.setIfInBounds_toArray, List.set_cons_zero, List.set_cons_succ]
              refine wpAnyS_take (i := 7) (v := .bool true) rfl (by kernel_rfl) (by kernel_rfl) (by kernel_rfl) (by kernel_rfl) (fun _ _ _ h => by cases h.1) ⟨Or.inl ⟨by rfl, fun W' hW' => (by go_simp)⟩, rfl, fun _ => rfl⟩ hS8 ?_
              simp only [Act.put, List.getElem_toArray, List.getElem_cons_zero, List.getElem_cons_succ, List.setIfInBounds_toArray, List.set_cons_zero, List.set_cons_succ]
              refine wpAnyS_done (by kernel_rfl) ?_ _
              exact ⟨rfl, rfl, rfl, hb8'⟩
          case stop4 => exact fun _ _ _ _ _ _ h => h.elim
        · have mixed : Try.prog.follows .mixedOrders = true := by kernel_rfl
          have hS0 : (fun X : World => X.cell? ⟨bg, 0, none⟩ = some (.slice Av nv cv)) Y.drew := c8
          have i1 : (0 : Int) ≤ (N : Int) := by omega
          have i2 : (N : Int) ≤ (N : Int) := by omega
          have i3 : (N : Int) ≤ (c3 : Int) := by omega
          have i4 : ¬ c3 < N := by omega
          refine wpIn_region_S2 (S := fun X : World => X.cell? ⟨bg, 0, none⟩ = some (.slice Av nv cv)) mixed 6 #[false, false, false, false, false, false] rfl rfl ?_
          refine wpAnyS_take (i := 0) (v := .slice Av nv cv) rfl (by kernel_rfl) (by kernel_rfl) (by kernel_rfl) (by kernel_rfl) (fun _ _ _ h => by cases h.1) ⟨Or.inl ⟨by rfl, fun W' hW' => (by have := hW'; go_simp)⟩, rfl, fun _ => rfl⟩ hS0 ?_
          simp only [Act.put, List.getElem_toArray, List.getElem_cons_zero, List.setIfInBounds_toArray, List.set_cons_zero, List.set_cons_succ]
          refine wpAnyS_take (i := 1) (v := .slice A3 N c3) rfl (by kernel_rfl) (by kernel_rfl) (by kernel_rfl) (by kernel_rfl) (fun _ _ _ h => by cases h.1) ⟨Or.inl ⟨by rfl, fun W' hW' => (by go_simp)⟩, rfl, fun _ => rfl⟩ hS0 ?_
          simp only [Act.put, List.getElem_toArray, List.getElem_cons_zero, List.getElem_cons_succ, List.setIfInBounds_toArray, List.set_cons_zero, List.set_cons_succ]
          refine wpAnyS_take (i := 2) (v := .int .i64 N) rfl (by kernel_rfl) (by kernel_rfl) (by kernel_rfl) (by kernel_rfl) (fun _ _ _ h => by cases h.1) ⟨Or.inl ⟨by rfl, fun W' hW' => (by go_simp)⟩, rfl, fun _ => rfl⟩ hS0 ?_
          simp only [Act.put, List.getElem_toArray, List.getElem_cons_zero, List.getElem_cons_succ, List.setIfInBounds_toArray, List.set_cons_zero, List.set_cons_succ]
          refine wpAnyS_take (i := 3) (v := .slice A3 N c3) rfl (by kernel_rfl) (by kernel_rfl) (by kernel_rfl) (by kernel_rfl) (fun _ _ _ h => by cases h.1) ⟨Or.inl ⟨by rfl, fun W' hW' => (by go_simp)⟩, rfl, fun _ => rfl⟩ hS0 ?_
          simp only [Act.put, List.getElem_toArray, List.getElem_cons_zero, List.getElem_cons_succ, List.setIfInBounds_toArray, List.set_cons_zero, List.set_cons_succ]
          refine wpAnyS_ready (rs := [4]) (by kernel_rfl) (by simp) (AllS.cons rfl rfl (fun K2 hK2 => ?_) AllS.nil)
          go_simp
          refine ⟨trivial, ?_⟩
          have hdr : Below Y.heap.size Y Y.drew := (Below.refl _ _).drew
          have hsm := Same_any (HGOT.out.below hdr (Nat.le_refl _)) (HSM.out.below hdr (Nat.le_refl _)) (by rw [List.length_take]; omega)
          rw [decide_eq_true rfl] at hsm
          refine (callsIn_wide.2 hsm).mono ?_
          rintro e w6 ⟨rfl, hb6⟩
          dsimp only
          have hb6' : Below Y.heap.size Y w6 := hdr.trans hb6
          have hS2 : (fun X : World => X.cell? ⟨bg, 0, none⟩ = some (.slice Av nv cv)) w6 := (hb6'.cell (p := ⟨bg, 0, none⟩) HCL2.out.box.lt).trans c8
          refine hK2 _ _ hS2 ?_
          clear hK2 K2
          refine wpAnyS_take (i := 5) (v := .bool false) rfl (by kernel_rfl) (by kernel_rfl) (by kernel_rfl) (by kernel_rfl) (fun _ _ _ h => by cases h.1) ⟨Or.inl ⟨by rfl, fun W' hW' => (by go_simp)⟩, rfl, fun _ => rfl⟩ hS2 ?_
          simp only [Act.put, List.getElem_toArray, List.getElem_cons_zero, List.getElem_cons_succ, List.setIfInBounds_toArray, List.set_cons_zero, List.set_cons_succ]
          refine wpAnyS_done (by kernel_rfl) ?_ _
          exact ⟨rfl, _, _, _, _, _, _, _, _, _, _, _, _, _, _, rfl, hb6'⟩
set_option maxRecDepth 100000 in
theorem mean_big {w : World} {A : Option Addr} {nl c : Nat} (stop : Int) (hh : ∀ w1, Below w.heap.size w w1 → Calls Try.prog 21 #[.slice A nl c] w1 fun e w' => e = .returned (.bool true) ∧ w' = w1) :
    Calls Try.prog 7 #[.slice A nl c, .int .i64 stop] w fun e w' => e = .returned (.bool true) ∧ Below w.heap.size w w' := by
  have hb : Below w.heap.size w (w.alloc (.cells #[.int .i64 stop] 3)) := (Below.refl _ w).alloc (Nat.le_refl _) _
  have HH := Lib.hid (hh _ hb)
  have HB := Lib.hid hb
  clear hh hb
  refine (callsIn_wide (n := 9)).1 ?_
  refine callsIn_of_wp_marks Try.func7 rfl trivial ?_ rfl
  simp only [Try.ntmps7, List.size_toArray, List.length_cons, List.length_nil, Nat.reduceAdd, Nat.reduceSub, Array.replicate_succ, Array.replicate_zero, List.push_toArray, List.append_toArray, List.nil_append, List.cons_append]
  gi_wp2_with (refine ⟨trivial, ?_⟩; gi_at_call 21; refine (callsIn_wide.2 HH.out).mono ?_; rintro e w1 ⟨rfl, rfl⟩)
  exact ⟨_, results_tmp rfl _ _ _, rfl, HB.out⟩
theorem walk_TreeMeanwhile (w : World) (A : Option Addr) (ls : List (List UInt8)) (c : Nat) (hc : ls.length ≤ c) (_ : A = none → c = 0) (hr : Ss w w.heap.size A ls) (_ : c * 16 ≤ 140737488351232 ∧ ∀ l ∈ ls, l.length ≤ 140737488351232) (stop : Int) (_ : (Lit.int .i64 stop).wf = true) :
    Calls Try.prog 7 #[.slice A ls.length c, .int .i64 stop] w fun e w' => e = .returned (.bool true) ∧ Below w.heap.size w w' := by
  have hrd := hr.rd hc
  cases hv : heavyL ls with
  | true =>
    refine mean_big stop fun w1 hb => ?_
    have hh := heavy_any w1 rfl (hrd.keep hb)
    rw [hv] at hh
    exact hh
  | false =>
    obtain ⟨h1, h2⟩ := heavy_no hv
    refine mean_main stop (fun w1 hb => ?_) rfl hrd h1 h2
    have hh := heavy_any w1 rfl (hrd.keep hb)
    rw [hv] at hh
    exact hh

namespace treeMeanwhile
open Go.ChangeShapes Go.WideShapes Go.ChangeAt
open Go.ChangeMaps (open_string shut_string)
set_option maxRecDepth 100000 in
theorem contract (H : Type) (enc : TypeId × Value → H) (W : World) (base : Nat) (args : Array Value) (ds gs : List (DataW H)) (before : List MemPlace)
    (hval : ∀ (j : Nat) t v, Try.f7.params[j]? = some t → args[j]? = some v → Value.okWide Try.prog W .any base t v)
    (hW : DataW.Whole enc Try.prog Try.f7.params.toList Rows.treeMeanwhileSpec.vars false W args.toList ds gs before)
    (hR : (DataW.weightsEach Try.prog (Try.f7.params.toList ++ (OpenSpec.ofChange Rows.treeMeanwhileSpec).bare.plain.varTypes Try.prog) (ds ++ gs)).all (· ≤ reachBytes) = true) :
    Calls Try.prog 7 args W fun e W' => ∃ v, e = .returned v ∧ Rows.treeMeanwhileSpec.post enc Try.prog Try.f7 false true false false W args v W' := by
  have hW' := hW
  obtain ⟨p, q, hA0, hV, rfl, hfz, hnd⟩ := hW
  have hA : DataW.TrodAll enc Try.prog W 0 (fun _ => true) true Try.f7.params.toList args.toList ds p := hA0
  have HS := trodAll_stays (W' := W) (sp := fun _ => true) out (by kernel_rfl) hA
  have HA := Lib.hid hA
  rw [Try.params7] at hA hval hR
  obtain ⟨v0, vs0, d0, ds0, p0, q0, hargs0, rfl, rfl, h0, r0⟩ := trodAll_cons hA
  obtain ⟨v1, vs1, d1, ds1, p1, q1, hargs1, rfl, rfl, h1, r1⟩ := trodAll_cons r0
  obtain ⟨rfl, rfl, rfl⟩ := trodAll_nil r1
  obtain rfl : args = #[v0, v1] := by cases args; simp_all
  obtain ⟨rfl, rfl⟩ := trodVars_none hV
  obtain ⟨A0, l, c0, rfl, hc0, hn0, hb0, hm0⟩ := open_strs Try.underlying44 Try.underlying28 (by kernel_rfl) (by kernel_rfl) (hval 0 44 v0 rfl rfl) h0
  obtain ⟨stop, rfl, rfl, rfl, z1⟩ := open_int Try.underlying3 (hval 1 3 v1 rfl rfl) h1
  clear hA0 HS
  obtain ⟨k0, s0⟩ := reach_cons hR
  obtain ⟨k1, s1⟩ := reach_cons s0
  refine (walk_TreeMeanwhile W A0 l c0 hc0 hn0 hb0 (hm0 k0) stop z1).mono fun e W' ⟨he, hb⟩ => ?_
  subst he
  have hlt := hW'.lt
  refine ⟨_, rfl, post_low hW' (pa := _) (pv := []) rfl hb (fun _ _ _ => trodAll_cons_mk (shut_bool Try.underlying4 _) trodAll_mk0) (fun sp hsp => ?_) (fun _ _ => rfl) (ok_one (by kernel_rfl) rfl (okWide_bool_mk Try.underlying4 _))⟩
  exact trodAll_stays out (by kernel_rfl) HA.out (fun x hx => hb.same (hlt x (List.mem_append_left _ hx))) (fun x hx => hsp x (List.mem_append_left _ hx))

noncomputable def wargs : Array Value := #[.slice none 0 0, .int .i64 0]
noncomputable def lw (os : Os) : World := World.settled Try.prog os
theorem reads (os : Os) {H : Type} (enc : TypeId × Value → H) : ∃ places, DataW.whole enc Try.prog ((lw os).forCall (fun _ _ => 0) ⟨#[], wargs, []⟩).memory Try.f7.params.toList Rows.treeMeanwhileSpec.vars false wargs.toList 8 = some ([.nil, .lit (.int .i64 0)], [], places) :=
  ⟨[], by kernel_rfl⟩
set_option maxRecDepth 100000 in
theorem lifted (os : Os) (started : os.Started) (H : Type) (enc : TypeId × Value → H) (G : Stop.Interp) :
    ReturnsInHanded {} Try.checked os 7 .any ((OpenSpec.ofChange Rows.treeMeanwhileSpec).preRow enc Try.prog Try.f7 Rows.treeMeanwhileRow.domain false Rows.treeMeanwhileRow.laid) (((OpenSpec.ofChange Rows.treeMeanwhileSpec).at G).post enc Try.prog Try.f7 false true false false) := by
  obtain ⟨places, hx⟩ := reads os enc
  refine returnsInHanded_of_row (C := Try.checked) (s := OpenSpec.ofChange Rows.treeMeanwhileSpec) own started (by kernel_rfl) Try.func7
    (witness_row_atRef (enc := enc) (C := Try.checked) false (lw os) wargs rfl (by kernel_rfl) (by kernel_rfl) (by kernel_rfl)
      (OpenSpec.preRow_of_cond 8 hx (by kernel_rfl) (fun k hk => by cases hk) (by kernel_rfl) (laidMetH_nil _ _))) ?_
  intro W base args ds gs before hval hW _ _ hR _ _ _
  exact contract H enc W base args ds gs before hval hW hR
/-- THE STATEMENT. -/
theorem said : Rows.TreeMeanwhileSaid :=
  OpenClaim.holds_of_cond 7 Try.f7 rfl rfl rfl rfl rfl rfl rfl ⟨rfl, rfl, rfl, rfl, rfl⟩ rfl rfl rfl rfl rfl (by kernel_rfl) Try.func7 (by kernel_rfl)
    (of_decide_eq_true (by kernel_rfl)) (by unfold Func.isWrapper; first | (rw [if_pos (by decide +kernel)]; kernel_rfl) | (rw [if_neg (by decide +kernel)]; exact ⟨rfl, rfl⟩))
    (fun os started H enc _ G => by rw [OpenClaim.pre_eq_preRow]; exact lifted os started H enc G)
end treeMeanwhile
end Go.Proofs.Ytbcchdkicpmngaa
