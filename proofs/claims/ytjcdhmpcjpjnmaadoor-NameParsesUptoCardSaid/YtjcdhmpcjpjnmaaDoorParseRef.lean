/- pieces, Parse, Text: the document's answers. -/
import Derived.Test.YtjcdhmpcjpjnmaaDoorBytesRef
import Derived.Test.YtjcdhmpcjpjnmaaDoorRefs2
import Derived.Test.YtjcdhmpcjpjnmaaDoorCmpRef
namespace Go.Proofs.YtjcdhmpcjpjnmaaDoor
open Go.RowKit

/-- the pieces ps end ahead of f. -/
def Ahead (l : List UInt8) (f : Nat) (ps : List (List UInt8)) : Prop :=
  f ≤ l.length ∧ ps.length ≤ f ∧ (f < l.length ∨ f = 0 → Nm.pieces l = (ps ++ (Nm.pieces (l.drop f)).1, (Nm.pieces (l.drop f)).2)) ∧ (f = l.length → 0 < f → Nm.pieces l = (ps, true))
theorem Ahead.zero (l : List UInt8) : Ahead l 0 [] := ⟨Nat.zero_le _, by simp, fun _ => by simp, fun _ h => by omega⟩
theorem CutAt.dot' {l : List UInt8} {k : Nat} (h : CutAt l k) (hk : k < l.length) (h46 : (l[k]).toNat = 46) : Nm.cutP l = (l.take k, l.drop (k + 1), true) := by
  rcases h with ⟨_, h⟩ | ⟨h, _⟩
  · rw [h, Nm.drop_cons hk, Nm.cutP_dot h46]; simp
  · omega
theorem CutAt.done' {l : List UInt8} {k : Nat} (h : CutAt l k) (hk : l.length ≤ k) : Nm.cutP l = (l, [], false) := by
  rcases h with ⟨h1, h⟩ | ⟨_, h⟩
  · obtain rfl : k = l.length := by omega
    rw [h, List.drop_length, List.take_length]; simp [Nm.cutP]
  · exact h
theorem Ahead.step {l : List UInt8} {f i : Nat} {ps : List (List UInt8)} (h : Ahead l f ps) (hfi : f ≤ i) (hi : i < l.length) (hc : CutAt (l.drop f) (i - f)) (h46 : (l[i]).toNat = 46) :
    Ahead l (i + 1) (ps ++ [(l.drop f).take (i - f)]) := by
  have hlt : i - f < (l.drop f).length := by rw [List.length_drop]; omega
  have hg : ((l.drop f)[i - f]'hlt).toNat = 46 := by rw [List.getElem_drop]; simp only [show f + (i - f) = i by omega]; exact h46
  have hcut := hc.dot' hlt hg
  have hd : (l.drop f).drop (i - f + 1) = l.drop (i + 1) := by rw [List.drop_drop]; congr 1; omega
  rw [hd] at hcut
  have hp := h.2.2.1 (.inl (by omega))
  refine ⟨hi, by have := h.2.1; simp; omega, fun hh => ?_, fun he _ => ?_⟩
  · have hm := Nm.pieces_more (l := l.drop f) (by rw [hcut]) (by rw [hcut]; simp; omega)
    rw [hp, hm, hcut]; simp
  · have hm := Nm.pieces_whole (l := l.drop f) (by rw [hcut]) (by rw [hcut]; simp; omega)
    rw [hp, hm, hcut]
theorem Ahead.rest {l : List UInt8} {f i : Nat} {ps : List (List UInt8)} (h : Ahead l f ps) (hfi : f ≤ i) (hi : l.length ≤ i) (hc : CutAt (l.drop f) (i - f)) (hn : f < l.length ∨ f = 0) : Nm.pieces l = (ps ++ [l.drop f], false) := by
  have hcut := hc.done' (by rw [List.length_drop]; omega)
  rw [h.2.2.1 hn, Nm.pieces_end (by rw [hcut]), hcut]

def PiecesPost (w : World) (l : List UInt8) (e : Ending) (w' : World) : Prop :=
  ∃ v, e = .returned (.tuple #[v, .bool (Nm.pieces l).2]) ∧ w'.ownsRow w.heap.size 9 1 v (Nm.pieces l).1.length (svs (Nm.pieces l).1) ∧ Below w.heap.size w w'
theorem pieces_done {w w' : World} {l : List UInt8} {v x : Value} {ps : List (List UInt8)} {b : Bool} (hp : Nm.pieces l = (ps, b)) (hx : x = .bool b) (ho : w'.ownsRow w.heap.size 9 1 v ps.length (svs ps)) (hb : Below w.heap.size w w') : PiecesPost w l (.returned (.tuple #[v, x])) w' :=
  ⟨v, by rw [hp, hx], by rw [hp]; exact ho, hb⟩

set_option maxHeartbeats 2000000 in
set_option maxRecDepth 100000 in
theorem pieces_any (s : ByteArray) (w : World) (hs : s.size ≤ 4398046511104) :
    Calls Tryd.prog 64 #[.string s] w (PiecesPost w s.data.toList) := by
  obtain ⟨i0, hi, hz0, hz1, hz2⟩ := info_parts Tryd.infoString
  have HSZ : Hid (s.data.toList.length = s.size) := by show _ = _; simp
  go_enter Tryd.func64, Tryd.ntmps64
  go_wp2
  go_loopw [4, 5, 6] (fun v fr i wr => ∃ f k : Nat, ∃ ps, fr = .int .i64 f ∧ i = .int .i64 k ∧ f ≤ k ∧ Ahead s.data.toList f ps ∧ CutAt (s.data.toList.drop f) (k - f) ∧ wr.ownsRow w.heap.size 9 1 v ps.length (svs ps) ∧ Below w.heap.size w wr) (fun _ _ i _ => s.size + 1 - (intOf i).toNat)
  case atStart => exact ⟨0, 0, [], rfl, rfl, Nat.le_refl _, Ahead.zero _, CutAt.zero _, World.ownsRow_nil _ _ _ _, Below.refl _ _⟩
  case round =>
    obtain ⟨f, k, ps, rfl, rfl, hfk, hah, hat, hown, hb⟩ := hrel
    have hle := hat.le
    rw [List.length_drop, HSZ.out] at hle
    have hfl := hah.1
    have hpl := hah.2.1
    rw [HSZ.out] at hfl
    have AT := Lib.hid hat
    have AH := Lib.hid hah
    have HO := Lib.hid hown
    have HB := Lib.hid hb
    have hbs := hb.size
    clear hat hah hown hb
    by_cases hlt : k < s.size
    · have hlt' : k < s.data.toList.length := by rw [HSZ.out]; exact hlt
      have hld : k - f < (s.data.toList.drop f).length := by rw [List.length_drop, HSZ.out]; omega
      have hg : (s.data.toList.drop f)[k - f]'hld = s[k] := by rw [List.getElem_drop]; simp only [show f + (k - f) = k by omega]; rfl
      have HGE := Lib.hid hg
      have h8 := s[k].toNat_lt
      clear hg
      by_cases h92 : s[k].toNat = 92
      · have h92b : ((s[k].toNat : Int) == 92) = true := by simp [h92]
        have HN := Lib.hid (AT.out.back hld (by rw [HGE.out]; exact h92))
        clear h92
        go_wp2
        go_roundw
        case rel => exact ⟨f, k + 1 + 1, ps, rfl, by go_num, by omega, AH.out, by rw [show k + 1 + 1 - f = k - f + 1 + 1 by omega]; exact HN.out, HO.out, HB.out⟩
        case measure => simp [intOf]; omega
      · have h92b : ((s[k].toNat : Int) == 92) = false := beq_eq_false_iff_ne.2 (by omega)
        by_cases h46 : s[k].toNat = 46
        · have h46b : ((s[k].toNat : Int) == 46) = true := by simp [h46]
          have HA := Lib.hid (AH.out.step hfk hlt' AT.out h46)
          have hx : Value.string (s.extract f k) = sv ((s.data.toList.drop f).take (k - f)) := by rw [string_eq (extract_list s f k)]
          have HX := Lib.hid hx
          clear h46 h92 hx
          go_wp2_with (first
            | (at_builtin
               refine wpList_append_own _ rfl (.tmp 23) (.tmp 28) _ rfl w.heap.size 9 i0 _ 1 16 Tryd.underlying23 hi hz0 hz1 hz2 rfl (by decide) _ ps.length (svs ps) rfl (HO.out.alloc _) ⟨wr.heap.size, 0, none⟩ 1 1 [sv ((s.data.toList.drop f).take (k - f))] rfl rfl (by rw [← HX.out]; exact cell_one_new _ _ _) (by simp [Value.oneCell']) (by unfold maxLen; omega) (by omega) (by simp; omega) ?_
               intro v2 w2 hown2 hg2 _))
          go_roundw
          case rel =>
            refine ⟨k + 1, k + 1, _, by go_num, by go_num, Nat.le_refl _, HA.out, by rw [Nat.sub_self]; exact CutAt.zero _, ?_, (HB.out.alloc hbs _).grown hg2 (by simp; omega) (fun j hj => (HO.out.lt j hj).1)⟩
            rw [List.length_append, svs_append]; exact hown2
          case measure => simp [intOf]; omega
        · have h46b : ((s[k].toNat : Int) == 46) = false := beq_eq_false_iff_ne.2 (by omega)
          have HN := Lib.hid (AT.out.plain hld (by rw [HGE.out]; exact h46) (by rw [HGE.out]; exact h92))
          clear h46 h92
          go_wp2
          go_roundw
          case rel => exact ⟨f, k + 1, ps, rfl, by go_num, by omega, AH.out, by rw [show k + 1 - f = k - f + 1 by omega]; exact HN.out, HO.out, HB.out⟩
          case measure => simp [intOf]; omega
    · by_cases hfe : f = s.size ∧ 0 < f
      · have HP := Lib.hid (AH.out.2.2.2 (by rw [HSZ.out]; exact hfe.1) hfe.2)
        have hq : ((f : Int) == (s.size : Int)) = true := beq_iff_eq.2 (by omega)
        have hf0 := hfe.2
        clear hfe
        go_wp2
        go_ret2
        exact pieces_done HP.out rfl HO.out HB.out
      · have HP := Lib.hid (AH.out.rest hfk (by rw [HSZ.out]; omega) AT.out (by rw [HSZ.out]; omega))
        have hx : Value.string (s.extract f s.size) = sv (s.data.toList.drop f) := by rw [string_eq (extract_list s f s.size), List.take_of_length_le (by simp)]
        have HX := Lib.hid hx
        clear hx
        by_cases hf : f = s.size
        · have hq : ((f : Int) == (s.size : Int)) = true := beq_iff_eq.2 (by omega)
          have hf0 : ¬ 0 < f := by omega
          clear hfe hf
          go_wp2_with (first
            | (at_builtin
               refine wpList_append_own _ rfl (.tmp 41) (.tmp 45) _ rfl w.heap.size 9 i0 _ 1 16 Tryd.underlying23 hi hz0 hz1 hz2 rfl (by decide) _ ps.length (svs ps) rfl (HO.out.alloc _) ⟨wr.heap.size, 0, none⟩ 1 1 [sv (s.data.toList.drop f)] rfl rfl (by rw [← HX.out]; exact cell_one_new _ _ _) (by simp [Value.oneCell']) (by unfold maxLen; omega) (by omega) (by simp; omega) ?_
               intro v2 w2 hown2 hg2 _))
          go_ret2
          exact pieces_done HP.out rfl (by rw [List.length_append, svs_append]; exact hown2) ((HB.out.alloc hbs _).grown hg2 (by simp; omega) (fun j hj => (HO.out.lt j hj).1))
        · have hq : ((f : Int) == (s.size : Int)) = false := beq_eq_false_iff_ne.2 (by omega)
          clear hfe hf
          go_wp2_with (first
            | (at_builtin
               refine wpList_append_own _ rfl (.tmp 41) (.tmp 45) _ rfl w.heap.size 9 i0 _ 1 16 Tryd.underlying23 hi hz0 hz1 hz2 rfl (by decide) _ ps.length (svs ps) rfl (HO.out.alloc _) ⟨wr.heap.size, 0, none⟩ 1 1 [sv (s.data.toList.drop f)] rfl rfl (by rw [← HX.out]; exact cell_one_new _ _ _) (by simp [Value.oneCell']) (by unfold maxLen; omega) (by omega) (by simp; omega) ?_
               intro v2 w2 hown2 hg2 _))
          go_ret2
          exact pieces_done HP.out rfl (by rw [List.length_append, svs_append]; exact hown2) ((HB.out.alloc hbs _).grown hg2 (by simp; omega) (fun j hj => (HO.out.lt j hj).1))

theorem piecesF_le : ∀ (f : Nat) (l p : List UInt8), p ∈ (Nm.piecesF f l).1 → p.length ≤ l.length := by
  intro f
  induction f with
  | zero => intro l p h; simp [Nm.piecesF] at h
  | succ f ih =>
    intro l p h
    rw [Nm.piecesF_succ] at h
    have hc := cut_len l
    split at h
    · split at h
      · simp at h; subst h; exact hc.1
      · simp only [List.mem_cons] at h
        rcases h with rfl | h
        · exact hc.1
        · exact Nat.le_trans (ih _ p h) hc.2
    · simp at h; subst h; exact hc.1
theorem piecesF_count : ∀ (f : Nat) (l : List UInt8), (Nm.piecesF f l).1.length ≤ l.length + 1 := by
  intro f
  induction f with
  | zero => intro l; simp [Nm.piecesF]
  | succ f ih =>
    intro l
    rw [Nm.piecesF_succ]
    split
    · rename_i hd
      have hl := Nm.cutP_less _ l (Nat.le_refl _) hd
      split
      · simp
      · have := ih (Nm.cutP l).2.1
        simp only [List.length_cons]; omega
    · simp
theorem refBytes_no (l : List UInt8) (w : World) (hs : l.length ≤ 140737488355328) (h : Nm.unesc l = none) :
    Calls Tryd.prog 36 #[.string ⟨l.toArray⟩] w fun e w' => e = .returned (.tuple #[.string ⟨#[]⟩, .int .i64 12]) ∧ Below w.heap.size w w' :=
  (refBytes_any ⟨l.toArray⟩ w hs).mono fun _ _ ⟨a, b⟩ => ⟨by rw [a]; show Ending.returned (unR l) = _; unfold unR; rw [h], b⟩
theorem refBytes_yes (l r : List UInt8) (w : World) (hs : l.length ≤ 140737488355328) (h : Nm.unesc l = some r) :
    Calls Tryd.prog 36 #[.string ⟨l.toArray⟩] w fun e w' => e = .returned (.tuple #[.string ⟨r.toArray⟩, .int .i64 0]) ∧ Below w.heap.size w w' :=
  (refBytes_any ⟨l.toArray⟩ w hs).mono fun _ _ ⟨a, b⟩ => ⟨by rw [a]; show Ending.returned (unR l) = _; unfold unR; rw [h], b⟩

/-- the first k pieces have told the labels bs. -/
def ToldAt (ps : List (List UInt8)) (k : Nat) (bs : List (List UInt8)) : Prop :=
  k ≤ ps.length ∧ bs.length = k ∧ Nm.Good bs ∧ Nm.labelsP ps = match Nm.labelsP (ps.drop k) with | .error n => .error n | .ok r => .ok (bs ++ r)
theorem ToldAt.zero (ps : List (List UInt8)) : ToldAt ps 0 [] := ⟨Nat.zero_le _, rfl, (fun l hl => by simp at hl), by rw [List.drop_zero]; rcases Nm.labelsP ps <;> rfl⟩
theorem ToldAt.no {ps bs : List (List UInt8)} {k : Nat} (h : ToldAt ps k bs) (hk : k < ps.length) (hu : Nm.unesc ps[k] = none) : Nm.labelsP ps = .error 12 := by
  rw [h.2.2.2, List.drop_eq_getElem_cons hk, labelsP_esc _ _ hu]
theorem ToldAt.bad {ps bs : List (List UInt8)} {k : Nat} {b : List UInt8} (h : ToldAt ps k bs) (hk : k < ps.length) (hu : Nm.unesc ps[k] = some b) (hg : ¬ (1 ≤ b.length ∧ b.length ≤ 63)) : Nm.labelsP ps = .error 10 := by
  rw [h.2.2.2, List.drop_eq_getElem_cons hk, labelsP_bad _ _ _ hu hg]
theorem ToldAt.step {ps bs : List (List UInt8)} {k : Nat} {b : List UInt8} (h : ToldAt ps k bs) (hk : k < ps.length) (hu : Nm.unesc ps[k] = some b) (hg : 1 ≤ b.length ∧ b.length ≤ 63) : ToldAt ps (k + 1) (bs ++ [b]) := by
  refine ⟨hk, by rw [List.length_append, h.2.1]; rfl, good_app h.2.2.1 (fun l hl => by simp at hl; subst hl; exact hg), ?_⟩
  rw [h.2.2.2, List.drop_eq_getElem_cons hk, labelsP_cons _ _ _ hu hg]
  rcases Nm.labelsP (ps.drop (k + 1)) with n | r
  · rfl
  · simp
theorem ToldAt.done {ps bs : List (List UInt8)} (h : ToldAt ps ps.length bs) : Nm.labelsP ps = .ok bs := by
  rw [h.2.2.2, List.drop_length]; simp [Nm.labelsP]
theorem parseR_eq {l o : List UInt8} {os : List (List UInt8)} (ho : Nm.split o = some os) (hd : l ≠ [46]) :
    parseR l o = match Nm.labelsP (Nm.pieces l).1 with | .error e => .tuple #[sv [], .int .i64 (e : Nat)] | .ok ls => nameR (if (Nm.pieces l).2 then ls else ls ++ os) := by
  unfold parseR Nm.parse
  rw [ho]
  simp only [if_neg hd]
  rcases Nm.labelsP (Nm.pieces l).1 with e | ls
  · rfl
  · exact (nameR_eq _).symm

set_option maxHeartbeats 2000000 in
set_option maxRecDepth 100000 in
theorem refParse_any (s o : ByteArray) (w : World) (hs : s.size ≤ 1048576) (ho : o.size ≤ 140737488355328) :
    Calls Tryd.prog 40 #[.string s, .string o] w fun e w' => e = .returned (parseR s.data.toList o.data.toList) ∧ Below w.heap.size w w' := by
  obtain ⟨i0, hi, hz0, hz1, hz2⟩ := info_parts Tryd.infoString
  rcases hn : Nm.split o.data.toList with _ | os
  · have HR : Hid (parseR s.data.toList o.data.toList = .tuple #[sv [], .int .i64 11]) := by show _ = _; unfold parseR Nm.parse; rw [hn]; rfl
    have H1 := Lib.hid (Split_no o w ho hn)
    clear hn
    go_enter Tryd.func40, Tryd.ntmps40
    go_wp2_with (first | (go_at_call 13; refine H1.out.mono ?_; rintro e w1 ⟨v1, rfl, hb1⟩))
    go_ret2
    exact ⟨by rw [HR.out]; rfl, hb1⟩
  · have H1 := Lib.hid (Split_yes o os w ho hn)
    have hfo := few hn
    have HGO := Lib.hid (Nm.split_some.1 hn).2.1
    by_cases hdot : s.data.toList = [46]
    · have HR : Hid (parseR s.data.toList o.data.toList = .tuple #[sv [0], .int .i64 0]) := by show _ = _; unfold parseR Nm.parse; rw [hn, hdot]; rfl
      have hd1 : s.toList = [46] := by rw [Lib.toList_data]; exact hdot
      clear hn hdot
      go_enter Tryd.func40, Tryd.ntmps40
      go_wp2_with (first | (go_at_call 13; refine H1.out.mono ?_; rintro e w1 ⟨ad1, cp1, rfl, ho1, hb1⟩))
      go_ret2
      exact ⟨by rw [HR.out]; rfl, hb1⟩
    · have hd1 : (s.toList == [46]) = false := by rw [Lib.toList_data]; simpa using hdot
      have HP := Lib.hid (parseR_eq hn hdot)
      have H2 := Lib.hid (fun w => pieces_any s w (by omega))
      have hpc : (Nm.pieces s.data.toList).1.length ≤ 1048577 := by
        have := piecesF_count (s.data.toList.length + 1) s.data.toList
        have e : s.data.toList.length = s.size := by simp
        unfold Nm.pieces; omega
      have HPL : Hid (∀ p ∈ (Nm.pieces s.data.toList).1, p.length ≤ 1048576) := fun p hp => by
        have := piecesF_le _ _ p hp
        have e : s.data.toList.length = s.size := by simp
        omega
      unfold PiecesPost at H2
      clear hn hdot
      generalize parseR s.data.toList o.data.toList = res at *
      generalize (Nm.pieces s.data.toList).1 = ps at *
      generalize (Nm.pieces s.data.toList).2 = wh at *
      go_enter Tryd.func40, Tryd.ntmps40
      go_wp2_with (first
        | (go_at_call 13; refine H1.out.mono ?_; rintro e w1 ⟨ad1, cp1, rfl, ho1, hb1⟩; have O1 := Lib.hid ho1; have B1 := Lib.hid hb1; clear ho1 hb1)
        | (go_at_call 64; refine (H2.out _).mono ?_; rintro e w2 ⟨v2, rfl, ho2, hb2⟩; have B2 := Lib.hid (B1.out.trans (hb2.mono B1.out.size)); have N1 := Lib.hid (own_nil O1.out rfl); have R1 := Lib.hid (((Rd.of_own O1.out).keep hb2).mono hb2.size); obtain ⟨ad2, cp2, rfl⟩ := own_form ho2; have O2 := Lib.hid ho2; clear ho2 hb2))
      go_loopw [10, 11] (fun v i wr => ∃ k : Nat, ∃ bs, i = .int .i64 k ∧ ToldAt ps k bs ∧ wr.ownsRow w2.heap.size 9 1 v bs.length (svs bs) ∧ Below w2.heap.size w2 wr) (fun _ i _ => ps.length - (intOf i).toNat)
      case atStart => exact ⟨0, [], rfl, ToldAt.zero _, World.ownsRow_nil _ _ _ _, Below.refl _ _⟩
      case round =>
        obtain ⟨k, bs, rfl, hto, hown, hb⟩ := hrel
        have hk := hto.1
        have hbl := hto.2.1
        have hbl2 : bs.length ≤ 1048577 := by omega
        have HT := Lib.hid hto
        have HO := Lib.hid hown
        have HB := Lib.hid hb
        have hbs := hb.size
        have HBL := Lib.hid hbl
        clear hto hown hb hbl
        by_cases hlt : k < ps.length
        · obtain ⟨g, rfl, hcap, ca⟩ := own_at O2.out hlt
          have hc : wr.cell? ⟨g, k, none⟩ = some (sv ps[k]) := (HB.out.cell (p := ⟨g, k, none⟩) (by have := (O2.out.lt g rfl).2; exact this)).trans (ca k _ (by simp [svs, hlt]))
          have hpl := HPL.out ps[k] (List.getElem_mem hlt)
          clear ca
          rcases hu : Nm.unesc ps[k] with _ | b
          · have HE := Lib.hid (HT.out.no hlt hu)
            have HRE : Hid (res = .tuple #[sv [], .int .i64 12]) := by rw [Hid, HP.out, HE.out]; rfl
            have HU := Lib.hid hu
            clear hu
            generalize ps[k] = p at *
            go_wp2_with (first | (go_at_call 36; refine (refBytes_no p _ (by omega) HU.out).mono ?_; rintro e w3 ⟨rfl, hb3⟩))
            go_ret2
            exact ⟨by rw [HRE.out]; rfl, B2.out.trans ((HB.out.trans (hb3.mono hbs)).mono B2.out.size)⟩
          · have hul := Nm.unesc_len _ _ _ (Nat.le_refl _) hu
            by_cases hg : 1 ≤ b.length ∧ b.length ≤ 63
            · have HS := Lib.hid (HT.out.step hlt hu hg)
              have HU := Lib.hid hu
              obtain ⟨hg1, hg2⟩ := hg
              clear hu
              generalize ps[k] = p at *
              go_wp2_with (first
                | (go_at_call 36; refine (refBytes_yes p b _ (by omega) HU.out).mono ?_; rintro e w3 ⟨rfl, hb3⟩; have O3 := Lib.hid (own_below HO.out hb3 (Nat.le_refl _)); have B3 := Lib.hid (HB.out.trans (hb3.mono hbs)); have hs3 := B3.out.size; clear hb3)
                | (at_builtin
                   refine wpList_append_own _ rfl (.tmp 53) (.tmp 55) _ rfl w2.heap.size 9 i0 _ 1 16 Tryd.underlying23 hi hz0 hz1 hz2 rfl (by decide) _ bs.length (svs bs) rfl (O3.out.alloc _) ⟨w3.heap.size, 0, none⟩ 1 1 [sv b] rfl rfl (cell_one_new _ _ _) (by simp [Value.oneCell']) (by unfold maxLen; omega) (by omega) (by simp; omega) ?_
                   intro v4 w4 hown4 hg4 _))
              go_roundw
              case rel =>
                refine ⟨k + 1, bs ++ [b], by go_num, HS.out, ?_, (B3.out.alloc hs3 _).grown hg4 (by simp; omega) (fun j hj => (O3.out.lt j hj).1)⟩
                rw [List.length_append, svs_append]; exact hown4
              case measure => simp [intOf]; omega
            · have HE := Lib.hid (HT.out.bad hlt hu hg)
              have HRE : Hid (res = .tuple #[sv [], .int .i64 10]) := by rw [Hid, HP.out, HE.out]; rfl
              have HU := Lib.hid hu
              have hg' : b.length < 1 ∨ 63 < b.length := by omega
              clear hu hg
              generalize ps[k] = p at *
              rcases hg' with hg' | hg'
              all_goals
                go_wp2_with (first | (go_at_call 36; refine (refBytes_yes p b _ (by omega) HU.out).mono ?_; rintro e w3 ⟨rfl, hb3⟩))
                go_ret2
                exact ⟨by rw [HRE.out]; rfl, B2.out.trans ((HB.out.trans (hb3.mono hbs)).mono B2.out.size)⟩
        · obtain rfl : k = ps.length := by omega
          have HL := Lib.hid HT.out.done
          have HGB := Lib.hid HT.out.2.2.1
          have B5 := Lib.hid (B2.out.trans (HB.out.mono B2.out.size))
          obtain ⟨ad5, cp5, rfl⟩ := own_form HO.out
          rcases wh with _ | _
          · have HRE : Hid (res = ofR (bs ++ os)) := by rw [Hid, HP.out, HL.out, ofR_ok (any_of_good (good_app HGB.out HGO.out))]; rfl
            have HM : Hid (∀ l ∈ bs ++ os, l.length ≤ 140737488355328) := fun l hl => by have := good_app HGB.out HGO.out l hl; omega
            go_wp2_with (first
              | (at_builtin
                 refine wpList_append_rd rfl (.tmp 59) (.tmp 60) 23 rfl w2.heap.size 9 i0 _ Tryd.underlying23 hi hz0 hz1 hz2 rfl _ bs.length (svs bs) rfl HO.out _ _ os rfl (R1.out.keep HB.out) N1.out (by omega) hbs ?_
                 intro v6 w6 hown6 hg6
                 have B6 := Lib.hid (B5.out.trans (((Below.refl w2.heap.size wr).grown hg6 hbs (fun j hj => (HO.out.lt j hj).1)).mono B2.out.size))
                 have R6 := Lib.hid (Rd.of_own (ls := bs ++ os) (show w6.ownsRow w2.heap.size 9 1 v6 (bs ++ os).length (svs (bs ++ os)) by rw [List.length_append, svs_append]; exact hown6))
                 clear hown6 hg6)
              | (go_at_call 22; refine (refOf_post _ _ (bs ++ os) _ R6.out (Nat.le_refl _) (by rw [List.length_append]; omega) HM.out).mono ?_; rintro e w7 ⟨rx, ry, rfl, hof, hb7⟩; have HO7 := Lib.hid hof; have B7 := Lib.hid (B6.out.trans (hb7.mono B6.out.size)); clear hof hb7))
            go_ret2
            exact ⟨by rw [HRE.out, HO7.out]; rfl, B7.out⟩
          · have HRE : Hid (res = ofR bs) := by rw [Hid, HP.out, HL.out, ofR_ok (any_of_good HGB.out)]; rfl
            have HM : Hid (∀ l ∈ bs, l.length ≤ 140737488355328) := fun l hl => by have := HGB.out l hl; omega
            go_wp2_with (first
              | (go_at_call 22; refine (refOf_post _ _ bs _ (Rd.of_own HO.out) (Nat.le_refl _) (by omega) HM.out).mono ?_; rintro e w7 ⟨rx, ry, rfl, hof, hb7⟩; have HO7 := Lib.hid hof; have B7 := Lib.hid (B5.out.trans (hb7.mono B5.out.size)); clear hof hb7))
            go_ret2
            exact ⟨by rw [HRE.out, HO7.out]; rfl, B7.out⟩
end Go.Proofs.YtjcdhmpcjpjnmaaDoor
