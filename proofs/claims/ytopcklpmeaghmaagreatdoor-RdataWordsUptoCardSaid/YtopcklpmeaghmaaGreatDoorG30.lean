/- Texts of the proofs, merged. -/
import Derived.Test.YtopcklpmeaghmaaGreatDoorG8
import Derived.Test.YtopcklpmeaghmaaGreatDoorG5
/- The statement's own cut of a text: the words that it is cut into. -/
namespace Go.Proofs.YtopcklpmeaghmaaGreatDoor
open Go.RowKit

theorem Rd.cutW_quote (r : List UInt8) : Rd.cutW (34 :: r) = (r.take (Rd.scan 34 r), true) :: Rd.cutW (r.drop (Rd.scan 34 r + 1)) := by
  conv => lhs; unfold Rd.cutW
  rw [List.length_cons, Rd.cutF, if_neg (by decide), if_pos rfl, Rd.cutF_cutW (by simp)]
theorem Rd.cutW_plain {c : UInt8} (r : List UInt8) (h1 : c ≠ 32) (h2 : c ≠ 34) : Rd.cutW (c :: r) = ((c :: r).take (Rd.scan 32 (c :: r)), false) :: Rd.cutW ((c :: r).drop (Rd.scan 32 (c :: r) + 1)) := by
  conv => lhs; unfold Rd.cutW
  rw [List.length_cons, Rd.cutF, if_neg h1, if_neg h2, Rd.cutF_cutW (by simp)]
/-- a word's cells, its place 0. -/
def w0 (x : Rd.W2) : List Value := wdC x 0 0
theorem w0_len (x : Rd.W2) : (w0 x).length = 4 := rfl
theorem w0_one (x : Rd.W2) : ∀ v ∈ w0 x, v.oneCell' = true := by
  intro v hv
  simp [w0, wdC] at hv
  rcases hv with rfl | rfl | rfl <;> rfl
theorem info4 : ∃ i, Tryz.prog.info? 57 = some i ∧ i.size = 4 ∧ i.bytes = 40 ∧ ∃ z, i.zero = some z ∧ z.cells.size = 4 := by
  have h : (Tryz.prog.info? 57).map (fun i => (i.size, i.bytes, i.zero.map (·.cells.size))) = some (4, 40, some 4) := by kernel_rfl
  cases hi : Tryz.prog.info? 57 with
  | none => rw [hi] at h; cases h
  | some i =>
    rw [hi] at h
    simp only [Option.map_some, Option.some.injEq, Prod.mk.injEq] at h
    obtain ⟨h1, h2, h3⟩ := h
    cases hz : i.zero with
    | none => rw [hz] at h3; cases h3
    | some z =>
      rw [hz] at h3
      exact ⟨i, rfl, h1, h2, z, hz, by simpa using h3⟩
/-- one step of the scan. -/
theorem scan_step {e : UInt8} (L : List UInt8) {f j : Nat} (hj : j < L.length) (hf : f ≤ j) (hne : L[j] ≠ e) (h : Rd.scan e (L.drop f) = (min j L.length - f) + Rd.scan e (L.drop j)) :
    Rd.scan e (L.drop f) = (min (if L[j] = 92 then j + 2 else j + 1) L.length - f) + Rd.scan e (L.drop (if L[j] = 92 then j + 2 else j + 1)) := by
  rw [h, List.drop_eq_getElem_cons hj]
  by_cases h92 : L[j] = 92
  · rw [if_pos h92]
    by_cases h2 : j + 1 < L.length
    · have e92 : e ≠ 92 := fun x => hne (h92.trans x.symm)
      rw [List.drop_eq_getElem_cons h2, h92, Rd.scan_back e92, show j + 1 + 1 = j + 2 from rfl]
      omega
    · have e1 : Rd.scan e [L[j]] = 1 := by rw [Rd.scan, if_neg hne]
      have e0 : Rd.scan e [] = 0 := rfl
      rw [List.drop_eq_nil_of_le (show L.length ≤ j + 1 by omega), List.drop_eq_nil_of_le (show L.length ≤ j + 2 by omega), e1, e0]
      omega
  · rw [if_neg h92, Rd.scan_plain hne h92]
    omega
theorem word_new (W : World) (p : List UInt8) (q : Bool) : (W.alloc (.cells #[sv p, .bool q, .int .i64 0, .int .i64 0] 57)).rangeAt W.heap.size 0 (w0 (p, q)) := fun i v hi => by
  rw [Nat.zero_add, (Has.fresh W _ _).cell]
  simpa [w0, wdC] using hi
/-- where a word ends. -/
theorem word_end {e : UInt8} {L : List UInt8} {f j M : Nat} {q : Bool} {acc : List Rd.W2} {p : List UInt8} (hM : min j L.length = M) (hf : f ≤ j) (hfL : f ≤ L.length) (hsc : Rd.scan e (L.drop f) = M - f) (hp : (L.drop f).take (M - f) = p)
    (hx : Rd.cutW L = acc ++ ((L.drop f).take (Rd.scan e (L.drop f)), q) :: Rd.cutW ((L.drop f).drop (Rd.scan e (L.drop f) + 1))) : Rd.cutW L = (acc ++ [(p, q)]) ++ Rd.cutW (L.drop (j + 1)) := by
  rw [hsc, hp, List.drop_drop] at hx
  have e : Rd.cutW (L.drop (f + (M - f + 1))) = Rd.cutW (L.drop (j + 1)) := by
    by_cases hj : j ≤ L.length
    · congr 2
      omega
    · rw [List.drop_eq_nil_of_le (by omega), List.drop_eq_nil_of_le (by omega)]
  rw [hx, e]
  simp
set_option maxHeartbeats 2000000 in
set_option maxRecDepth 100000 in
theorem lawCut_any (s : ByteArray) (w : World) (hs : s.size ≤ 140737488355328) (hc : (Rd.cutW s.data.toList).length ≤ 1000000000000) :
    Calls Tryz.prog 7 #[.string s] w fun e w' => ∃ v, e = .returned v ∧ Own w0 4 w' w.heap.size 57 v (Rd.cutW s.data.toList) ∧ Below w.heap.size w w' := by
  obtain ⟨i4, hi4, hs4, hb4, z4, hz4, hzs4⟩ := info4
  obtain ⟨L, hL⟩ : ∃ L, s.data.toList = L := ⟨_, rfl⟩
  have hlen : s.size = L.length := by rw [← hL]; simp
  have hat : ∀ k (hk : k < s.size), s[k] = L[k]'(by omega) := fun k hk => by subst hL; rfl
  rw [hL] at hc ⊢
  have HC := Lib.hid hc
  have HL := Lib.hid hL
  clear hc
  have HAT := Lib.hid hat
  clear hL hat
  go_enter Tryz.func7, Tryz.ntmps7
  go_wp2
  go_loopw [3, 4] (fun v i wr => ∃ (k : Nat) (acc : List Rd.W2), i = .int .i64 k ∧ k ≤ L.length + 2 ∧ Hid (Rd.cutW L = acc ++ Rd.cutW (L.drop k)) ∧ Hid (Own w0 4 wr w.heap.size 57 v acc) ∧ Hid (Below w.heap.size w wr)) (fun _ i _ => L.length + 2 - (intOf i).toNat)
  case atStart => exact ⟨0, [], rfl, by omega, by simp [Hid], World.ownsRow_nil _ _ _ _, Below.refl _ _⟩
  case round =>
    obtain ⟨k, acc, rfl, hk, HX, HO, HB⟩ := hrel
    have hka : acc.length ≤ 1000000000000 := by
      have h1 := HC.out
      rw [HX.out, List.length_append] at h1
      omega
    by_cases hlt : k < s.size
    · have hkL : k < L.length := by omega
      have hx := HX.out
      rw [List.drop_eq_getElem_cons hkL] at hx
      have hsk := HAT.out k hlt
      have hc8 := (L[k]).toNat_lt
      by_cases h32 : L[k] = 32
      · rw [h32, Rd.cutW_blank] at hx
        have HX2 := Lib.hid hx
        rw [h32] at hsk
        have hb : ((s[k]'hlt).toNat : Int) = 32 := by rw [hsk]; rfl
        clear hx hsk
        go_wp2
        exact ⟨⟨k + 1, acc, by go_num, by omega, HX2.out, HO.out, HB.out⟩, by simp [intOf]; omega⟩
      by_cases hq : L[k] = 34
      · rw [hq, Rd.cutW_quote] at hx
        rw [hq] at hsk
        have hb : ((s[k]'hlt).toNat : Int) = 34 := by rw [hsk]; rfl
        clear hsk
        have HX2 := Lib.hid hx
        clear hx
        go_wp2
        go_loop [4] (fun i => ∃ j : Nat, i = .int .i64 j ∧ k + 1 ≤ j ∧ j ≤ L.length + 1 ∧ Hid (Rd.scan 34 (L.drop (k + 1)) = (min j L.length - (k + 1)) + Rd.scan 34 (L.drop j))) (fun i => L.length + 1 - (intOf i).toNat)
        case atStart => exact ⟨k + 1, by go_num, by omega, by omega, by rw [Hid]; omega⟩
        case round =>
          obtain ⟨j, rfl, hkj, hj, HJ⟩ := hrel
          by_cases hjl : j < s.size
          · have hjL : j < L.length := by omega
            have hsj := HAT.out j hjl
            by_cases hej : L[j] = 34
            · rw [hej] at hsj
              have hbj : ((s[j]'hjl).toNat : Int) = 34 := by rw [hsj]; rfl
              have hsc : Rd.scan 34 (L.drop (k + 1)) = min j L.length - (k + 1) := by
                rw [HJ.out, List.drop_eq_getElem_cons hjL, hej, Rd.scan_end]
                omega
              clear hsj
              obtain ⟨M, hM⟩ : ∃ M, min j L.length = M := ⟨_, rfl⟩
              have hmin : min (j : Int) (L.length : Int) = (M : Int) := by omega
              obtain ⟨p, hp⟩ : ∃ p, (L.drop (k + 1)).take (M - (k + 1)) = p := ⟨_, rfl⟩
              have hex : s.extract (k + 1) M = ⟨p.toArray⟩ := string_eq (by rw [extract_list, HL.out]; exact hp)
              have hMf : (k + 1 : Nat) ≤ M := by omega
              have hML : M ≤ L.length := by omega
              have HEND := Lib.hid (word_end hM (by omega) (by omega) (by rw [hsc]; omega) hp HX2.out)
              clear hM hp hsc
              go_wp2_with (at_builtin; refine wpList_append_struct rfl (.tmp 57) (.tmp 67) _ rfl w0_len w0_one 57 i4 z4 40 Tryz.underlying34 hi4 hz4 hs4 hb4 hzs4 (by decide) w.heap.size _ acc rfl (ownK_below HO.out ((Below.refl _ _).alloc (Nat.le_refl _) _) (Nat.le_refl _)) (p, true) wr.heap.size 1 rfl (word_new wr p true) (by unfold maxLen; omega) (by omega) (by simp; have := HB.out.size; omega) ?_; intro v4 w4 O4 G4 _; have HO4 := Lib.hid O4; have HB4 := Lib.hid ((HB.out.alloc HB.out.size _).grown G4 (by simp; have := HB.out.size; omega) (fun j hj => (HO.out.lt j hj).1)); clear O4 G4)
              exact ⟨⟨j + 1, acc ++ [(p, true)], by go_num, by omega, HEND.out, HO4.out, HB4.out⟩, by simp [intOf]; omega⟩
            · have hst := scan_step L hjL hkj hej HJ.out
              have hbj : (((s[j]'hjl).toNat : Int) == 34) = false := beq_eq_false_iff_ne.2 (fun h => hej (by rw [← hsj]; exact UInt8.toNat_inj.1 (show (s[j]'hjl).toNat = 34 by omega)))
              have hbn : (((s[j]'hjl).toNat : Int) != 34) = true := by simpa using hbj
              by_cases h92 : L[j] = 92
              · rw [if_pos h92] at hst
                have HST2 := Lib.hid hst
                rw [h92] at hsj
                have hbb : ((s[j]'hjl).toNat : Int) = 92 := by rw [hsj]; rfl
                clear hst hsj hbj hbn
                go_wp2
                go_round
                case rel => exact ⟨j + 2, by go_num, by omega, by omega, HST2.out⟩
                case measure => simp [intOf]; omega
              · rw [if_neg h92] at hst
                have HST2 := Lib.hid hst
                have hbb : (((s[j]'hjl).toNat : Int) == 92) = false := beq_eq_false_iff_ne.2 (fun h => h92 (by rw [← hsj]; exact UInt8.toNat_inj.1 (show (s[j]'hjl).toNat = 92 by omega)))
                clear hst hsj
                go_wp2
                go_round
                case rel => exact ⟨j + 1, by go_num, by omega, by omega, HST2.out⟩
                case measure => simp [intOf]; omega
          · have hsc : Rd.scan 34 (L.drop (k + 1)) = min j L.length - (k + 1) := by
              rw [HJ.out, List.drop_eq_nil_of_le (by omega)]
              show _ + 0 = _
              omega
            obtain ⟨M, hM⟩ : ∃ M, min j L.length = M := ⟨_, rfl⟩
            have hmin : min (j : Int) (L.length : Int) = (M : Int) := by omega
            obtain ⟨p, hp⟩ : ∃ p, (L.drop (k + 1)).take (M - (k + 1)) = p := ⟨_, rfl⟩
            have hex : s.extract (k + 1) M = ⟨p.toArray⟩ := string_eq (by rw [extract_list, HL.out]; exact hp)
            have hMf : (k + 1 : Nat) ≤ M := by omega
            have hML : M ≤ L.length := by omega
            have HEND := Lib.hid (word_end hM (by omega) (by omega) (by rw [hsc]; omega) hp HX2.out)
            clear hM hp hsc
            go_wp2_with (at_builtin; refine wpList_append_struct rfl (.tmp 57) (.tmp 67) _ rfl w0_len w0_one 57 i4 z4 40 Tryz.underlying34 hi4 hz4 hs4 hb4 hzs4 (by decide) w.heap.size _ acc rfl (ownK_below HO.out ((Below.refl _ _).alloc (Nat.le_refl _) _) (Nat.le_refl _)) (p, true) wr.heap.size 1 rfl (word_new wr p true) (by unfold maxLen; omega) (by omega) (by simp; have := HB.out.size; omega) ?_; intro v4 w4 O4 G4 _; have HO4 := Lib.hid O4; have HB4 := Lib.hid ((HB.out.alloc HB.out.size _).grown G4 (by simp; have := HB.out.size; omega) (fun j hj => (HO.out.lt j hj).1)); clear O4 G4)
            exact ⟨⟨j + 1, acc ++ [(p, true)], by go_num, by omega, HEND.out, HO4.out, HB4.out⟩, by simp [intOf]; omega⟩
      · rw [Rd.cutW_plain _ h32 hq, ← List.drop_eq_getElem_cons hkL] at hx
        have hb1 : (((s[k]'hlt).toNat : Int) == 32) = false := beq_eq_false_iff_ne.2 (fun h => h32 (by rw [← hsk]; exact UInt8.toNat_inj.1 (show (s[k]'hlt).toNat = 32 by omega)))
        have hb2 : (((s[k]'hlt).toNat : Int) == 34) = false := beq_eq_false_iff_ne.2 (fun h => hq (by rw [← hsk]; exact UInt8.toNat_inj.1 (show (s[k]'hlt).toNat = 34 by omega)))
        clear hsk
        have HX2 := Lib.hid hx
        clear hx
        go_wp2
        go_loop [4] (fun i => ∃ j : Nat, i = .int .i64 j ∧ k ≤ j ∧ j ≤ L.length + 1 ∧ Hid (Rd.scan 32 (L.drop (k)) = (min j L.length - (k)) + Rd.scan 32 (L.drop j))) (fun i => L.length + 1 - (intOf i).toNat)
        case atStart => exact ⟨k, by go_num, by omega, by omega, by rw [Hid]; omega⟩
        case round =>
          obtain ⟨j, rfl, hkj, hj, HJ⟩ := hrel
          by_cases hjl : j < s.size
          · have hjL : j < L.length := by omega
            have hsj := HAT.out j hjl
            by_cases hej : L[j] = 32
            · rw [hej] at hsj
              have hbj : ((s[j]'hjl).toNat : Int) = 32 := by rw [hsj]; rfl
              have hsc : Rd.scan 32 (L.drop (k)) = min j L.length - (k) := by
                rw [HJ.out, List.drop_eq_getElem_cons hjL, hej, Rd.scan_end]
                omega
              clear hsj
              obtain ⟨M, hM⟩ : ∃ M, min j L.length = M := ⟨_, rfl⟩
              have hmin : min (j : Int) (L.length : Int) = (M : Int) := by omega
              obtain ⟨p, hp⟩ : ∃ p, (L.drop (k)).take (M - (k)) = p := ⟨_, rfl⟩
              have hex : s.extract (k) M = ⟨p.toArray⟩ := string_eq (by rw [extract_list, HL.out]; exact hp)
              have hMf : (k : Nat) ≤ M := by omega
              have hML : M ≤ L.length := by omega
              have HEND := Lib.hid (word_end hM (by omega) (by omega) (by rw [hsc]; omega) hp HX2.out)
              clear hM hp hsc
              go_wp2_with (at_builtin; refine wpList_append_struct rfl (.tmp 57) (.tmp 67) _ rfl w0_len w0_one 57 i4 z4 40 Tryz.underlying34 hi4 hz4 hs4 hb4 hzs4 (by decide) w.heap.size _ acc rfl (ownK_below HO.out ((Below.refl _ _).alloc (Nat.le_refl _) _) (Nat.le_refl _)) (p, false) wr.heap.size 1 rfl (word_new wr p false) (by unfold maxLen; omega) (by omega) (by simp; have := HB.out.size; omega) ?_; intro v4 w4 O4 G4 _; have HO4 := Lib.hid O4; have HB4 := Lib.hid ((HB.out.alloc HB.out.size _).grown G4 (by simp; have := HB.out.size; omega) (fun j hj => (HO.out.lt j hj).1)); clear O4 G4)
              exact ⟨⟨j + 1, acc ++ [(p, false)], by go_num, by omega, HEND.out, HO4.out, HB4.out⟩, by simp [intOf]; omega⟩
            · have hst := scan_step L hjL hkj hej HJ.out
              have hbj : (((s[j]'hjl).toNat : Int) == 32) = false := beq_eq_false_iff_ne.2 (fun h => hej (by rw [← hsj]; exact UInt8.toNat_inj.1 (show (s[j]'hjl).toNat = 32 by omega)))
              have hbn : (((s[j]'hjl).toNat : Int) != 32) = true := by simpa using hbj
              by_cases h92 : L[j] = 92
              · rw [if_pos h92] at hst
                have HST2 := Lib.hid hst
                rw [h92] at hsj
                have hbb : ((s[j]'hjl).toNat : Int) = 92 := by rw [hsj]; rfl
                clear hst hsj hbj hbn
                go_wp2
                go_round
                case rel => exact ⟨j + 2, by go_num, by omega, by omega, HST2.out⟩
                case measure => simp [intOf]; omega
              · rw [if_neg h92] at hst
                have HST2 := Lib.hid hst
                have hbb : (((s[j]'hjl).toNat : Int) == 92) = false := beq_eq_false_iff_ne.2 (fun h => h92 (by rw [← hsj]; exact UInt8.toNat_inj.1 (show (s[j]'hjl).toNat = 92 by omega)))
                clear hst hsj
                go_wp2
                go_round
                case rel => exact ⟨j + 1, by go_num, by omega, by omega, HST2.out⟩
                case measure => simp [intOf]; omega
          · have hsc : Rd.scan 32 (L.drop (k)) = min j L.length - (k) := by
              rw [HJ.out, List.drop_eq_nil_of_le (by omega)]
              show _ + 0 = _
              omega
            obtain ⟨M, hM⟩ : ∃ M, min j L.length = M := ⟨_, rfl⟩
            have hmin : min (j : Int) (L.length : Int) = (M : Int) := by omega
            obtain ⟨p, hp⟩ : ∃ p, (L.drop (k)).take (M - (k)) = p := ⟨_, rfl⟩
            have hex : s.extract (k) M = ⟨p.toArray⟩ := string_eq (by rw [extract_list, HL.out]; exact hp)
            have hMf : (k : Nat) ≤ M := by omega
            have hML : M ≤ L.length := by omega
            have HEND := Lib.hid (word_end hM (by omega) (by omega) (by rw [hsc]; omega) hp HX2.out)
            clear hM hp hsc
            go_wp2_with (at_builtin; refine wpList_append_struct rfl (.tmp 57) (.tmp 67) _ rfl w0_len w0_one 57 i4 z4 40 Tryz.underlying34 hi4 hz4 hs4 hb4 hzs4 (by decide) w.heap.size _ acc rfl (ownK_below HO.out ((Below.refl _ _).alloc (Nat.le_refl _) _) (Nat.le_refl _)) (p, false) wr.heap.size 1 rfl (word_new wr p false) (by unfold maxLen; omega) (by omega) (by simp; have := HB.out.size; omega) ?_; intro v4 w4 O4 G4 _; have HO4 := Lib.hid O4; have HB4 := Lib.hid ((HB.out.alloc HB.out.size _).grown G4 (by simp; have := HB.out.size; omega) (fun j hj => (HO.out.lt j hj).1)); clear O4 G4)
            exact ⟨⟨j + 1, acc ++ [(p, false)], by go_num, by omega, HEND.out, HO4.out, HB4.out⟩, by simp [intOf]; omega⟩
    · have hx := HX.out
      rw [List.drop_eq_nil_of_le (by omega), Rd.cutW_nil, List.append_nil] at hx
      have HX2 := Lib.hid hx
      clear hx
      go_wp2
      go_ret
      exact ⟨_, rfl, by rw [HX2.out]; exact HO.out, HB.out⟩
end Go.Proofs.YtopcklpmeaghmaaGreatDoor
