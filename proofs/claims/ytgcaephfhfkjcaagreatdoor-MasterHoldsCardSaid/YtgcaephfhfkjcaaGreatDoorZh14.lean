/- Texts of the proofs, merged. -/
import Derived.Test.YtgcaephfhfkjcaaGreatDoorZh11
import Derived.Test.YtgcaephfhfkjcaaGreatDoorZh13
import Derived.Test.YtgcaephfhfkjcaaGreatDoorZh5
import Derived.Laws.AppendOwnNone
import Derived.Test.YtgcaephfhfkjcaaGreatDoorZh7
import Derived.Deep.RegionHeld3
import Derived.Deep.LoopGhost
import Derived.Test.YtgcaephfhfkjcaaGreatDoorZh8
import Derived.BigQuiet
import Derived.Test.YtgcaephfhfkjcaaGreatDoorZh9
import Derived.Test.YtgcaephfhfkjcaaGreatDoorZh6
import Derived.Deep.MidRow
import Derived.Test.YtgcaephfhfkjcaaGreatDoorZh10
import Derived.Test.YtgcaephfhfkjcaaGreatDoorZh2
import Derived.Test.YtgcaephfhfkjcaaGreatDoorZh12
import Derived.Lib.AppendIntMem
import Derived.Deep.CutRange
namespace Go.Proofs.YtgcaephfhfkjcaaGreatDoor
open Go.RowKit

def cutR (l : List UInt8) : Value := .tuple #[sv (Nm.cutP l).1, sv (Nm.cutP l).2.1, .bool (Nm.cutP l).2.2]
/-- how far cut is. -/
def CutAt (l : List UInt8) (k : Nat) : Prop := (k ≤ l.length ∧ Nm.cutP l = (l.take k ++ (Nm.cutP (l.drop k)).1, (Nm.cutP (l.drop k)).2)) ∨ (k = l.length + 1 ∧ Nm.cutP l = (l, [], false))
theorem CutAt.zero (l : List UInt8) : CutAt l 0 := .inl ⟨Nat.zero_le _, by simp⟩
theorem CutAt.plain {l : List UInt8} {k : Nat} (h : CutAt l k) (hk : k < l.length) (h46 : (l[k]).toNat ≠ 46) (h92 : (l[k]).toNat ≠ 92) : CutAt l (k + 1) := by
  rcases h with ⟨_, h⟩ | ⟨h, _⟩
  · refine .inl ⟨hk, ?_⟩
    rw [h, Nm.drop_cons hk, Nm.cutP_plain h46 h92, List.take_succ_eq_append_getElem hk]; simp only [List.append_assoc, List.cons_append, List.nil_append]
  · omega
theorem CutAt.back {l : List UInt8} {k : Nat} (h : CutAt l k) (hk : k < l.length) (h92 : (l[k]).toNat = 92) : CutAt l (k + 1 + 1) := by
  rcases h with ⟨_, h⟩ | ⟨h, _⟩
  · by_cases h2 : k + 1 < l.length
    · refine .inl ⟨h2, ?_⟩
      rw [h, Nm.drop_cons hk, Nm.drop_cons h2, Nm.cutP_back h92, List.take_succ_eq_append_getElem h2, List.take_succ_eq_append_getElem hk]; simp only [List.append_assoc, List.cons_append, List.nil_append]
    · refine .inr ⟨by omega, ?_⟩
      have e : l.drop k = [l[k]] := by rw [Nm.drop_cons hk, List.drop_eq_nil_of_le (by omega)]
      rw [h, e, Nm.cutP_last (by omega), ← e, List.take_append_drop]
  · omega
theorem CutAt.dot {l : List UInt8} {k : Nat} (h : CutAt l k) (hk : k < l.length) (h46 : (l[k]).toNat = 46) : cutR l = .tuple #[sv (l.take k), sv (l.drop (k + 1)), .bool true] := by
  rcases h with ⟨_, h⟩ | ⟨h, _⟩
  · unfold cutR
    rw [h, Nm.drop_cons hk, Nm.cutP_dot h46]; simp
  · omega
theorem CutAt.done {l : List UInt8} {k : Nat} (h : CutAt l k) (hk : l.length ≤ k) : cutR l = .tuple #[sv l, sv [], .bool false] := by
  unfold cutR
  rcases h with ⟨h1, h⟩ | ⟨_, h⟩
  · obtain rfl : k = l.length := by omega
    rw [h, List.drop_length, List.take_length]; simp [Nm.cutP]
  · rw [h]
theorem CutAt.le {l : List UInt8} {k : Nat} (h : CutAt l k) : k ≤ l.length + 1 := by rcases h with ⟨h, _⟩ | ⟨h, _⟩ <;> omega

set_option maxHeartbeats 1000000 in
set_option maxRecDepth 100000 in
theorem cut_any (s : ByteArray) (w : World) (hs : s.size ≤ 140737488355328) :
    Calls Tryz.prog 154 #[.string s] w fun e w' => e = .returned (cutR s.data.toList) ∧ ∃ n, w' = w.drewN n := by
  have HSZ : Hid (s.data.toList.length = s.size) := by show _ = _; simp
  go_enter Tryz.func154, Tryz.ntmps154
  go_wp2
  go_loopw [5] (fun i wr => ∃ k : Nat, i = .int .i64 k ∧ CutAt s.data.toList k ∧ wr = w) (fun i _ => s.size + 1 - (intOf i).toNat)
  case atStart => exact ⟨0, rfl, CutAt.zero _, rfl⟩
  case round =>
    obtain ⟨k, rfl, hat, rfl⟩ := hrel
    have hle := hat.le
    rw [HSZ.out] at hle
    have AT := Lib.hid hat
    clear hat
    by_cases hlt : k < s.size
    · have hlt' : k < s.data.toList.length := by rw [HSZ.out]; exact hlt
      have he : s.data.toList[k]'hlt' = s[k] := rfl
      have HE := Lib.hid he
      have h8 := s[k].toNat_lt
      clear he
      by_cases h92 : s[k].toNat = 92
      · have h92b : ((s[k].toNat : Int) == 92) = true := by simp [h92]
        have HN := Lib.hid (AT.out.back hlt' h92)
        clear h92
        go_wp2
        go_roundw
        case rel => exact ⟨k + 1 + 1, by go_num, HN.out, trivial⟩
        case measure => simp [intOf]; omega
      · have h92b : ((s[k].toNat : Int) == 92) = false := beq_eq_false_iff_ne.2 (by omega)
        by_cases h46 : s[k].toNat = 46
        · have h46b : ((s[k].toNat : Int) == 46) = true := by simp [h46]
          have HN := Lib.hid (AT.out.dot hlt' h46)
          have e1 : Value.string (s.extract 0 k) = sv (s.data.toList.take k) := by rw [string_eq (extract_list s 0 k)]; rfl
          have e2 : Value.string (s.extract (k + 1) s.size) = sv (s.data.toList.drop (k + 1)) := by
            rw [string_eq (extract_list s (k + 1) s.size), List.take_of_length_le (by simp)]
          have E1 := Lib.hid e1
          have E2 := Lib.hid e2
          clear h92 h46 e1 e2
          go_wp2
          go_quiet (fail)
          go_wp2
          go_ret3
          refine ⟨?_, _, rfl⟩
          rw [HN.out, ← E1.out, ← E2.out]; rfl
        · have h46b : ((s[k].toNat : Int) == 46) = false := beq_eq_false_iff_ne.2 (by omega)
          have HN := Lib.hid (AT.out.plain hlt' h46 h92)
          clear h92 h46
          go_wp2
          go_roundw
          case rel => exact ⟨k + 1, by go_num, HN.out, trivial⟩
          case measure => simp [intOf]; omega
    · have HN := Lib.hid (AT.out.done (by rw [HSZ.out]; omega))
      go_wp2
      go_ret3
      exact ⟨by rw [HN.out]; rfl, 0, rfl⟩

/-- what addText answers, and what stands in the row behind it. -/
def TextPost (w : World) (g B : Nat) (base : List (List UInt8)) (l : List UInt8) (e : Ending) (w' : World) : Prop :=
  Below B w w' ∧ match Nm.labelsP (Nm.pieces l).1 with
    | .error n => ∃ b, e = .returned (.tuple #[.bool b, .int .i64 (n : Nat)]) ∧ (n = 12 ∨ n = 10)
    | .ok ls => e = .returned (.tuple #[.bool (Nm.pieces l).2, .int .i64 0]) ∧ RowIs w' g B (base ++ ls)
/-- the pieces so far have told the labels ls; t is left. -/
def Told (l t : List UInt8) (ls : List (List UInt8)) : Prop :=
  (Nm.pieces l).2 = (Nm.pieces t).2 ∧ Nm.labelsP (Nm.pieces l).1 = match Nm.labelsP (Nm.pieces t).1 with | .error n => .error n | .ok r => .ok (ls ++ r)
theorem Told.start (l : List UInt8) : Told l l [] := ⟨rfl, by rcases Nm.labelsP (Nm.pieces l).1 with n | r <;> rfl⟩
theorem labelsP_one (p b : List UInt8) (h : Nm.unesc p = some b) (hg : 1 ≤ b.length ∧ b.length ≤ 63) : Nm.labelsP [p] = .ok [b] := by
  unfold Nm.labelsP; rw [h]; simp only [if_pos hg]; rfl
theorem labelsP_esc (p : List UInt8) (ps : List (List UInt8)) (h : Nm.unesc p = none) : Nm.labelsP (p :: ps) = .error 12 := by
  unfold Nm.labelsP; rw [h]
theorem labelsP_bad (p b : List UInt8) (ps : List (List UInt8)) (h : Nm.unesc p = some b) (hg : ¬ (1 ≤ b.length ∧ b.length ≤ 63)) : Nm.labelsP (p :: ps) = .error 10 := by
  unfold Nm.labelsP; rw [h]; simp only [if_neg hg]
theorem labelsP_cons (p b : List UInt8) (ps : List (List UInt8)) (h : Nm.unesc p = some b) (hg : 1 ≤ b.length ∧ b.length ≤ 63) :
    Nm.labelsP (p :: ps) = match Nm.labelsP ps with | .error e => .error e | .ok ls => .ok (b :: ls) := by
  conv => lhs; unfold Nm.labelsP
  rw [h]; simp only [if_pos hg]
  rcases Nm.labelsP ps with n | r <;> rfl
theorem pieces_head (t : List UInt8) : ∃ ps, (Nm.pieces t).1 = (Nm.cutP t).1 :: ps := by
  by_cases hd : (Nm.cutP t).2.2 = true
  · by_cases h2 : (Nm.cutP t).2.1.length = 0
    · exact ⟨_, by rw [Nm.pieces_whole hd h2]⟩
    · exact ⟨_, by rw [Nm.pieces_more hd h2]⟩
  · exact ⟨_, by rw [Nm.pieces_end (by simpa using hd)]⟩
theorem Told.esc {l t : List UInt8} {ls : List (List UInt8)} (h : Told l t ls) (hu : Nm.unesc (Nm.cutP t).1 = none) : Nm.labelsP (Nm.pieces l).1 = .error 12 := by
  obtain ⟨ps, hp⟩ := pieces_head t
  rw [h.2, hp, labelsP_esc _ _ hu]
theorem Told.bad {l t b : List UInt8} {ls : List (List UInt8)} (h : Told l t ls) (hu : Nm.unesc (Nm.cutP t).1 = some b) (hg : ¬ (1 ≤ b.length ∧ b.length ≤ 63)) : Nm.labelsP (Nm.pieces l).1 = .error 10 := by
  obtain ⟨ps, hp⟩ := pieces_head t
  rw [h.2, hp, labelsP_bad _ _ _ hu hg]
theorem Told.last {l t b : List UInt8} {ls : List (List UInt8)} (h : Told l t ls) (hu : Nm.unesc (Nm.cutP t).1 = some b) (hg : 1 ≤ b.length ∧ b.length ≤ 63) (hd : (Nm.cutP t).2.2 = false ∨ (Nm.cutP t).2.1.length = 0) :
    Nm.labelsP (Nm.pieces l).1 = .ok (ls ++ [b]) ∧ (Nm.pieces l).2 = (Nm.cutP t).2.2 := by
  rcases hc : (Nm.cutP t).2.2 with _ | _
  · have hp := Nm.pieces_end hc
    rw [h.2, h.1, hp, labelsP_one _ _ hu hg]; exact ⟨rfl, rfl⟩
  · have hp := Nm.pieces_whole hc (by rcases hd with hd | hd; · rw [hd] at hc; cases hc
                                      · exact hd)
    rw [h.2, h.1, hp, labelsP_one _ _ hu hg]; exact ⟨rfl, rfl⟩
theorem Told.step {l t b : List UInt8} {ls : List (List UInt8)} (h : Told l t ls) (hu : Nm.unesc (Nm.cutP t).1 = some b) (hg : 1 ≤ b.length ∧ b.length ≤ 63) (hc : (Nm.cutP t).2.2 = true) (h2 : (Nm.cutP t).2.1.length ≠ 0) :
    Told l (Nm.cutP t).2.1 (ls ++ [b]) := by
  have hp := Nm.pieces_more hc h2
  refine ⟨by rw [h.1, hp], ?_⟩
  rw [h.2, hp, labelsP_cons _ _ _ hu hg]
  rcases Nm.labelsP (Nm.pieces (Nm.cutP t).2.1).1 with n | r
  · rfl
  · simp
theorem cut_len (t : List UInt8) : (Nm.cutP t).1.length ≤ t.length ∧ (Nm.cutP t).2.1.length ≤ t.length := by
  suffices h : ∀ n (t : List UInt8), t.length ≤ n → (Nm.cutP t).1.length ≤ t.length ∧ (Nm.cutP t).2.1.length ≤ t.length from h _ t (Nat.le_refl _)
  intro n
  induction n with
  | zero => intro t h; have : t = [] := List.eq_nil_of_length_eq_zero (by omega); subst this; simp [Nm.cutP]
  | succ n ih =>
    intro t h
    match t with
    | [] => simp [Nm.cutP]
    | [c] => by_cases h46 : c.toNat = 46
             · rw [Nm.cutP_dot h46]; simp
             · rw [Nm.cutP_last h46]; simp
    | c :: d :: t =>
      by_cases h46 : c.toNat = 46
      · rw [Nm.cutP_dot h46]; simp
      · by_cases h92 : c.toNat = 92
        · rw [Nm.cutP_back h92]; have := ih t (by simp at h; omega); simp; omega
        · rw [Nm.cutP_plain h46 h92]; have := ih (d :: t) (by simpa using h); simp at this ⊢; omega

theorem text_err {w w' : World} {g B n : Nat} {base : List (List UInt8)} {l : List UInt8} {x y : Value} (hb : Below B w w') (h : Nm.labelsP (Nm.pieces l).1 = .error n) (hx : ∃ b, x = .bool b) (hy : y = .int .i64 (n : Nat)) (hn : n = 12 ∨ n = 10) :
    TextPost w g B base l (.returned (.tuple #[x, y])) w' := by
  obtain ⟨b, rfl⟩ := hx
  refine ⟨hb, ?_⟩
  rw [h, hy]; exact ⟨b, rfl, hn⟩
theorem text_ok {w w' : World} {g B : Nat} {base ls : List (List UInt8)} {l : List UInt8} {x y : Value} {b : Bool} (hb : Below B w w') (h : Nm.labelsP (Nm.pieces l).1 = .ok ls ∧ (Nm.pieces l).2 = b) (hx : x = .bool b) (hy : y = .int .i64 0) (hr : RowIs w' g B (base ++ ls)) :
    TextPost w g B base l (.returned (.tuple #[x, y])) w' := by
  refine ⟨hb, ?_⟩
  rw [h.1, h.2, hx, hy]; exact ⟨rfl, hr⟩

theorem Bytes_no (l : List UInt8) (w : World) (hL : Lay w) (hs : l.length ≤ 140737488355328) (h : Nm.unesc l = none) :
    Calls Tryz.prog 155 #[.string ⟨l.toArray⟩] w fun e w' => e = .returned (.tuple #[.string ⟨#[]⟩, .int .i64 12]) ∧ Below w.heap.size w w' :=
  (Bytes_any ⟨l.toArray⟩ w hL hs).mono fun _ _ ⟨a, b⟩ => ⟨by rw [a]; show Ending.returned (unR l) = _; unfold unR; rw [h], b⟩
theorem Bytes_yes (l r : List UInt8) (w : World) (hL : Lay w) (hs : l.length ≤ 140737488355328) (h : Nm.unesc l = some r) :
    Calls Tryz.prog 155 #[.string ⟨l.toArray⟩] w fun e w' => e = .returned (.tuple #[.string ⟨r.toArray⟩, .int .i64 0]) ∧ Below w.heap.size w w' :=
  (Bytes_any ⟨l.toArray⟩ w hL hs).mono fun _ _ ⟨a, b⟩ => ⟨by rw [a]; show Ending.returned (unR l) = _; unfold unR; rw [h], b⟩
theorem cut_of (l : List UInt8) (w : World) (hs : l.length ≤ 140737488355328) :
    Calls Tryz.prog 154 #[.string ⟨l.toArray⟩] w fun e w' => e = .returned (.tuple #[.string ⟨(Nm.cutP l).1.toArray⟩, .string ⟨(Nm.cutP l).2.1.toArray⟩, .bool (Nm.cutP l).2.2]) ∧ ∃ n, w' = w.drewN n :=
  cut_any ⟨l.toArray⟩ w hs

set_option maxHeartbeats 1000000 in
set_option maxRecDepth 100000 in
theorem addText_any (w : World) (g B : Nat) (base : List (List UInt8)) (l : List UInt8) (h : RowIs w g B base) (hB : B ≤ g) (h3 : layTop ≤ B) (hL : Lay w) (hs : l.length ≤ 140737488355328) :
    Calls Tryz.prog 130 #[.pointer (some ⟨g, 0, none⟩), .string ⟨l.toArray⟩] w (TextPost w g B base l) := by
  have HR := Lib.hid h
  have HL := Lib.hid hL
  clear h hL
  go_enter Tryz.func130, Tryz.ntmps130
  go_wp2
  go_loopw [1] (fun x wr => ∃ t ls, x = .string ⟨t.toArray⟩ ∧ t.length ≤ l.length ∧ Told l t ls ∧ RowIs wr g B (base ++ ls) ∧ Below B w wr) (fun x _ => match x with | .string s => s.size | _ => 0)
  case atStart => exact ⟨l, [], rfl, Nat.le_refl _, Told.start l, by simpa using HR.out, Below.refl _ _⟩
  case round =>
    obtain ⟨t, ls, rfl, htl, hto, hrow, hb⟩ := hrel
    have HT := Lib.hid hto
    have HW := Lib.hid hrow
    have HB := Lib.hid hb
    have HLW := Lib.hid (HL.out.below hb h3)
    have hgs := hrow.lt
    have hcl := cut_len t
    have hc1 := hcl.1
    have hc2 := hcl.2
    have HC := Lib.hid (cut_of t wr (by omega))
    clear hto hrow hb hcl
    rcases hu : Nm.unesc (Nm.cutP t).1 with _ | b
    · have HE := Lib.hid (HT.out.esc hu)
      have HU := Lib.hid hu
      clear hu
      generalize (Nm.cutP t).1 = p at *
      generalize (Nm.cutP t).2.1 = r at *
      generalize (Nm.cutP t).2.2 = d at *
      go_wp2_with (first
        | (go_at_call 154; refine HC.out.mono ?_; rintro e1 w1 ⟨rfl, nn, rfl⟩)
        | (go_at_call 155; refine (Bytes_no p _ (HLW.out.drewN nn) (by omega) HU.out).mono ?_; rintro e2 w2 ⟨rfl, hb2⟩))
      go_ret2
      exact text_err (HB.out.trans ((below_drewN (Below.refl _ _) nn).trans (hb2.mono (by show B ≤ wr.heap.size; omega)))) HE.out ⟨_, rfl⟩ rfl (.inl rfl)
    · have hul := Nm.unesc_len _ _ _ (Nat.le_refl _) hu
      by_cases hg : 1 ≤ b.length ∧ b.length ≤ 63
      · have hls := fun hd => HT.out.last hu hg hd
        have hst := fun hc h2 => HT.out.step hu hg hc h2
        have hless := Nm.cutP_less _ t (Nat.le_refl _)
        have HLS := Lib.hid hls
        have HST := Lib.hid hst
        have HLE := Lib.hid hless
        have HU := Lib.hid hu
        have HG := Lib.hid hg
        clear hls hst hless hu hg
        generalize (Nm.cutP t).1 = p at *
        generalize (Nm.cutP t).2.1 = r at *
        generalize (Nm.cutP t).2.2 = d at *
        rcases d with _ | _
        · go_wp2_with (first
            | (go_at_call 154; refine HC.out.mono ?_; rintro e1 w1 ⟨rfl, nn, rfl⟩)
            | (go_at_call 155; refine (Bytes_yes p b _ (HLW.out.drewN nn) (by omega) HU.out).mono ?_; rintro e2 w2 ⟨rfl, hb2⟩; have hr2 : RowIs w2 g B (base ++ ls) := RowIs.below (w := wr.drewN nn) HW.out hb2 (Nat.le_refl _))
            | (go_at_call 156; refine (add_ok _ g B _ b hr2 hB HG.out).mono ?_; rintro e3 w3 ⟨rfl, hb3, ht3, hr3⟩))
          go_ret2
          exact text_ok (HB.out.trans (((below_drewN (Below.refl _ _) nn).trans (hb2.mono (by show B ≤ wr.heap.size; omega))).trans hb3)) (HLS.out (.inl trivial)) rfl rfl (by rw [← List.append_assoc]; exact hr3)
        · by_cases hr0 : r.length = 0
          · have h1 : List.isEmpty r = true := by rw [List.isEmpty_iff]; exact List.eq_nil_of_length_eq_zero hr0
            have HR0 := Lib.hid hr0
            clear hr0
            go_wp2_with (first
              | (go_at_call 154; refine HC.out.mono ?_; rintro e1 w1 ⟨rfl, nn, rfl⟩)
              | (go_at_call 155; refine (Bytes_yes p b _ (HLW.out.drewN nn) (by omega) HU.out).mono ?_; rintro e2 w2 ⟨rfl, hb2⟩; have hr2 : RowIs w2 g B (base ++ ls) := RowIs.below (w := wr.drewN nn) HW.out hb2 (Nat.le_refl _))
              | (go_at_call 156; refine (add_ok _ g B _ b hr2 hB HG.out).mono ?_; rintro e3 w3 ⟨rfl, hb3, ht3, hr3⟩))
            go_ret2
            exact text_ok (HB.out.trans (((below_drewN (Below.refl _ _) nn).trans (hb2.mono (by show B ≤ wr.heap.size; omega))).trans hb3)) (HLS.out (.inr HR0.out)) rfl rfl (by rw [← List.append_assoc]; exact hr3)
          · have h1 : List.isEmpty r = false := by
              rcases r with _ | ⟨a, r⟩
              · exact absurd rfl hr0
              · rfl
            have HR0 := Lib.hid hr0
            have hrl := HLE.out rfl
            clear hr0
            go_wp2_with (first
              | (go_at_call 154; refine HC.out.mono ?_; rintro e1 w1 ⟨rfl, nn, rfl⟩)
              | (go_at_call 155; refine (Bytes_yes p b _ (HLW.out.drewN nn) (by omega) HU.out).mono ?_; rintro e2 w2 ⟨rfl, hb2⟩; have hr2 : RowIs w2 g B (base ++ ls) := RowIs.below (w := wr.drewN nn) HW.out hb2 (Nat.le_refl _))
              | (go_at_call 156; refine (add_ok _ g B _ b hr2 hB HG.out).mono ?_; rintro e3 w3 ⟨rfl, hb3, ht3, hr3⟩))
            go_roundw
            case rel => exact ⟨r, ls ++ [b], rfl, by omega, HST.out trivial HR0.out, by rw [← List.append_assoc]; exact hr3, HB.out.trans (((below_drewN (Below.refl _ _) nn).trans (hb2.mono (by show B ≤ wr.heap.size; omega))).trans hb3)⟩
            case measure => simpa [mk_size] using hrl
      · have HE := Lib.hid (HT.out.bad hu hg)
        have HU := Lib.hid hu
        have HG := Lib.hid hg
        clear hu hg
        generalize (Nm.cutP t).1 = p at *
        generalize (Nm.cutP t).2.1 = r at *
        generalize (Nm.cutP t).2.2 = d at *
        go_wp2_with (first
          | (go_at_call 154; refine HC.out.mono ?_; rintro e1 w1 ⟨rfl, nn, rfl⟩)
          | (go_at_call 155; refine (Bytes_yes p b _ (HLW.out.drewN nn) (by omega) HU.out).mono ?_; rintro e2 w2 ⟨rfl, hb2⟩; have hr2 : RowIs w2 g B (base ++ ls) := RowIs.below (w := wr.drewN nn) HW.out hb2 (Nat.le_refl _))
          | (go_at_call 156; refine (add_no _ g B _ b hr2 hB (by omega) HG.out).mono ?_; rintro e3 w3 ⟨rfl, hb3, ht3, hr3⟩))
        go_ret2
        exact text_err (HB.out.trans (((below_drewN (Below.refl _ _) nn).trans (hb2.mono (by show B ≤ wr.heap.size; omega))).trans hb3)) HE.out ⟨_, rfl⟩ rfl (.inr rfl)

theorem nameR_eq (ls : List (List UInt8)) : nameR ls = .tuple #[sv (Nm.glueR ls).1, .int .i64 ((Nm.glueR ls).2 : Nat)] := by
  unfold nameR Nm.glueR
  by_cases h : 255 < (Nm.body ls).length + 1
  · rw [if_pos h, if_pos h]; rfl
  · rw [if_neg h, if_neg h]; rfl

def parseR (l o : List UInt8) : Value := .tuple #[sv (Nm.parse l o).1, .int .i64 ((Nm.parse l o).2 : Nat)]

theorem Check_no (s : ByteArray) (w : World) (hs : s.size ≤ 140737488355328) (h : Nm.split s.data.toList = none) :
    Calls Tryz.prog 19 #[.string s] w fun e w' => e = .returned (.int .i64 11) ∧ Below w.heap.size w w' :=
  (Check_any s w hs).mono fun _ _ ⟨a, b⟩ => ⟨by rw [a, h]; rfl, b⟩
theorem Check_yes (s : ByteArray) (ls : List (List UInt8)) (w : World) (hs : s.size ≤ 140737488355328) (h : Nm.split s.data.toList = some ls) :
    Calls Tryz.prog 19 #[.string s] w fun e w' => e = .returned (.int .i64 0) ∧ Below w.heap.size w w' :=
  (Check_any s w hs).mono fun _ _ ⟨a, b⟩ => ⟨by rw [a, h]; rfl, b⟩

set_option maxHeartbeats 1000000 in
set_option maxRecDepth 100000 in
theorem Parse_any (s o : ByteArray) (w : World) (hL : Lay w) (hs : s.size ≤ 140737488355328) (ho : o.size ≤ 140737488355328) :
    Calls Tryz.prog 111 #[.string s, .string o] w fun e w' => e = .returned (parseR s.data.toList o.data.toList) ∧ Below w.heap.size w w' := by
  have h3 := hL.size
  rcases hn : Nm.split o.data.toList with _ | os
  · have hr : parseR s.data.toList o.data.toList = .tuple #[sv [], .int .i64 11] := by unfold parseR Nm.parse; rw [hn]; rfl
    rw [hr]
    have HC := Lib.hid (Check_no o w ho hn)
    clear hr hn
    go_enter Tryz.func111, Tryz.ntmps111
    go_wp2_with (first | (go_at_call 19; refine HC.out.mono ?_; rintro e1 w1 ⟨rfl, hb1⟩))
    go_ret2
    exact ⟨rfl, hb1⟩
  · have HC := Lib.hid (Check_yes o os w ho hn)
    by_cases hdot : s.data.toList = [46]
    · have hr : parseR s.data.toList o.data.toList = .tuple #[sv [0], .int .i64 0] := by unfold parseR Nm.parse; rw [hn, hdot]; rfl
      rw [hr]
      have hd1 : s.toList = [46] := by rw [Lib.toList_data]; exact hdot
      clear hr hn
      go_enter Tryz.func111, Tryz.ntmps111
      go_wp2_with (first | (go_at_call 19; refine HC.out.mono ?_; rintro e1 w1 ⟨rfl, hb1⟩))
      go_ret2
      exact ⟨rfl, hb1⟩
    · have hd1 : (s.toList == [46]) = false := by rw [Lib.toList_data]; simpa using hdot
      have hgl := (Nm.split_some.1 hn)
      have HN := Lib.hid hn
      have HL1 := fun (w1 : World) (hb : Below w.heap.size w w1) => Lib.hid (hL.below hb h3)
      have hs2 : s = ⟨s.data.toList.toArray⟩ := string_eq rfl
      have hsl : s.data.toList.length ≤ 140737488355328 := by simpa using hs
      have hrow : ∀ w1 : World, Below w.heap.size w w1 → RowIs (w1.alloc (.cells #[.slice none 0 0, .bool false] 185)) w1.heap.size w1.heap.size [] := fun w1 _ => RowIs.start w1 _
      have hT := fun (w1 : World) (hb : Below w.heap.size w w1) => Lib.hid (addText_any _ _ _ [] s.data.toList (hrow w1 hb) (Nat.le_refl _) (by have := hb.size; omega) ((hL.below hb h3).below ((Below.refl _ _).alloc (Nat.le_refl _) _) (by have := hb.size; omega)) hsl)
      rw [← hs2] at hT
      have HT := Lib.hid hT
      have HP : Hid (parseR s.data.toList o.data.toList = match Nm.labelsP (Nm.pieces s.data.toList).1 with
        | .error e => .tuple #[sv [], .int .i64 (e : Nat)]
        | .ok ls => nameR (if (Nm.pieces s.data.toList).2 then ls else ls ++ os)) := by
        unfold parseR Nm.parse
        rw [Hid, hn]
        simp only [if_neg hdot]
        rcases Nm.labelsP (Nm.pieces s.data.toList).1 with e | ls
        · rfl
        · exact (nameR_eq _).symm
      clear hn hdot hT hrow hs2
      rcases hlp : Nm.labelsP (Nm.pieces s.data.toList).1 with n | ls
      · have hne : ∀ n : Nat, (n = 12 ∨ n = 10) → ((n : Int) != 0) = true := fun n h => by rw [bne_iff_ne]; omega
        have HNE := Lib.hid hne
        have HLP := Lib.hid hlp
        rw [hlp] at HP
        clear hlp hne
        go_enter Tryz.func111, Tryz.ntmps111
        go_wp2_with (first
          | (go_at_call 19; refine HC.out.mono ?_; rintro e1 w1 ⟨rfl, hb1⟩)
          | (go_at_call 130; refine (HT.out w1 hb1).out.mono ?_; rintro e2 w2 ⟨hb2, hpost⟩; rw [HLP.out] at hpost; obtain ⟨b, rfl, hnn⟩ := hpost; have hn0 := HNE.out n hnn))
        go_ret2
        exact ⟨by rw [HP.out]; rfl, hb1.trans ((((Below.refl _ _).alloc (Nat.le_refl _) _).trans hb2).mono hb1.size)⟩
      · have HLP := Lib.hid hlp
        rw [hlp] at HP
        rcases hwh : (Nm.pieces s.data.toList).2 with _ | _
        · have HWH := Lib.hid hwh
          rw [hwh] at HP
          clear hlp hwh
          by_cases hlong : 255 < (Nm.body (ls ++ os)).length + 1
          · have HLG := Lib.hid hlong
            have HF : Hid (parseR s.data.toList o.data.toList = .tuple #[.string ⟨#[]⟩, .int .i64 2]) := by rw [HP.out]; show nameR (ls ++ os) = _; unfold nameR; rw [if_pos hlong]
            clear hlong
            go_enter Tryz.func111, Tryz.ntmps111
            go_wp2_with (first
              | (go_at_call 19; refine HC.out.mono ?_; rintro e1 w1 ⟨rfl, hb1⟩)
              | (go_at_call 130; refine (HT.out w1 hb1).out.mono ?_; rintro e2 w2 ⟨hb2, hpost⟩; rw [HLP.out, HWH.out] at hpost; obtain ⟨rfl, hr2⟩ := hpost; have HB12 := Lib.hid (hb1.trans ((((Below.refl _ _).alloc (Nat.le_refl _) _).trans hb2).mono hb1.size)); have HR2 := Lib.hid hr2; clear hr2)
              | (go_at_call 131; refine (addName_any _ w1.heap.size w1.heap.size _ os o HR2.out (Nat.le_refl _) ho HN.out).mono ?_; rintro e3 w3 ⟨rfl, hb3, hr3⟩; have HR3 := Lib.hid hr3; clear hr3)
              | (go_at_call 132; refine (rowName_long _ w1.heap.size w1.heap.size _ HR3.out HLG.out).mono ?_; rintro e4 w4 ⟨rfl, rfl⟩))
            go_ret2
            exact ⟨by rw [HF.out]; rfl, HB12.out.trans (hb3.mono hb1.size)⟩
          · have HLG := Lib.hid hlong
            have HF : Hid (parseR s.data.toList o.data.toList = .tuple #[sv (Nm.glue (ls ++ os)), .int .i64 0]) := by rw [HP.out]; show nameR (ls ++ os) = _; unfold nameR; rw [if_neg hlong]
            clear hlong
            go_enter Tryz.func111, Tryz.ntmps111
            go_wp2_with (first
              | (go_at_call 19; refine HC.out.mono ?_; rintro e1 w1 ⟨rfl, hb1⟩)
              | (go_at_call 130; refine (HT.out w1 hb1).out.mono ?_; rintro e2 w2 ⟨hb2, hpost⟩; rw [HLP.out, HWH.out] at hpost; obtain ⟨rfl, hr2⟩ := hpost; have HB12 := Lib.hid (hb1.trans ((((Below.refl _ _).alloc (Nat.le_refl _) _).trans hb2).mono hb1.size)); have HR2 := Lib.hid hr2; clear hr2)
              | (go_at_call 131; refine (addName_any _ w1.heap.size w1.heap.size _ os o HR2.out (Nat.le_refl _) ho HN.out).mono ?_; rintro e3 w3 ⟨rfl, hb3, hr3⟩; have HR3 := Lib.hid hr3; clear hr3)
              | (go_at_call 132; refine (rowName_ok _ w1.heap.size w1.heap.size _ HR3.out HLG.out).mono ?_; rintro e4 w4 ⟨rfl, rfl⟩))
            go_ret2
            exact ⟨by rw [HF.out]; rfl, HB12.out.trans (hb3.mono hb1.size)⟩
        · have HWH := Lib.hid hwh
          rw [hwh] at HP
          clear hlp hwh
          by_cases hlong : 255 < (Nm.body ls).length + 1
          · have HLG := Lib.hid hlong
            have HF : Hid (parseR s.data.toList o.data.toList = .tuple #[.string ⟨#[]⟩, .int .i64 2]) := by rw [HP.out]; show nameR ls = _; unfold nameR; rw [if_pos hlong]
            clear hlong
            go_enter Tryz.func111, Tryz.ntmps111
            go_wp2_with (first
              | (go_at_call 19; refine HC.out.mono ?_; rintro e1 w1 ⟨rfl, hb1⟩)
              | (go_at_call 130; refine (HT.out w1 hb1).out.mono ?_; rintro e2 w2 ⟨hb2, hpost⟩; rw [HLP.out, HWH.out] at hpost; obtain ⟨rfl, hr2⟩ := hpost; have HB12 := Lib.hid (hb1.trans ((((Below.refl _ _).alloc (Nat.le_refl _) _).trans hb2).mono hb1.size)); have HR2 := Lib.hid hr2; clear hr2)
              | (go_at_call 132; refine (rowName_long _ w1.heap.size w1.heap.size _ HR2.out HLG.out).mono ?_; rintro e4 w4 ⟨rfl, rfl⟩))
            go_ret2
            exact ⟨by rw [HF.out]; rfl, HB12.out⟩
          · have HLG := Lib.hid hlong
            have HF : Hid (parseR s.data.toList o.data.toList = .tuple #[sv (Nm.glue ls), .int .i64 0]) := by rw [HP.out]; show nameR ls = _; unfold nameR; rw [if_neg hlong]
            clear hlong
            go_enter Tryz.func111, Tryz.ntmps111
            go_wp2_with (first
              | (go_at_call 19; refine HC.out.mono ?_; rintro e1 w1 ⟨rfl, hb1⟩)
              | (go_at_call 130; refine (HT.out w1 hb1).out.mono ?_; rintro e2 w2 ⟨hb2, hpost⟩; rw [HLP.out, HWH.out] at hpost; obtain ⟨rfl, hr2⟩ := hpost; have HB12 := Lib.hid (hb1.trans ((((Below.refl _ _).alloc (Nat.le_refl _) _).trans hb2).mono hb1.size)); have HR2 := Lib.hid hr2; clear hr2)
              | (go_at_call 132; refine (rowName_ok _ w1.heap.size w1.heap.size _ HR2.out HLG.out).mono ?_; rintro e4 w4 ⟨rfl, rfl⟩))
            go_ret2
            exact ⟨by rw [HF.out]; rfl, HB12.out⟩
end Go.Proofs.YtgcaephfhfkjcaaGreatDoor
namespace Go.Proofs.YtgcaephfhfkjcaaGreatDoor
open Go.RowKit

theorem ne {c : UInt8} {n : Nat} (h : c.toNat ≠ n) : ((c.toNat : Int) == (n : Int)) = false := beq_eq_false_iff_ne.2 (by omega)
end Go.Proofs.YtgcaephfhfkjcaaGreatDoor
namespace Go.Proofs.YtgcaephfhfkjcaaGreatDoor
open Go.RowKit

section
variable {P : Program} {w : World}
end
theorem good_app {a b : List (List UInt8)} (h : Nm.Good a) (k : Nm.Good b) : Nm.Good (a ++ b) := fun l hl => (List.mem_append.1 hl).elim (h l) (k l)

end Go.Proofs.YtgcaephfhfkjcaaGreatDoor
namespace Go.Proofs.YtgcaephfhfkjcaaGreatDoor
open Go.RowKit

theorem Has.drewN {w : World} {g : Nat} {t : TypeId} {cs : Array Value} (h : Has w g t cs) (n : Nat) : Has (w.drewN n) g t cs := h
end Go.Proofs.YtgcaephfhfkjcaaGreatDoor
namespace Go.Proofs.YtgcaephfhfkjcaaGreatDoor
open Go.RowKit

/-- one part more in small letters. -/
def fold1 (d : Dv) (p : Nat) : Dv :=
  if p = 5 ∨ p = 6 then { d with host := ⟨(Nm.fold d.host.data.toList).toArray⟩ } else if p = 7 then { d with mail := ⟨(Nm.fold d.mail.data.toList).toArray⟩ } else d
theorem fold1_size (d : Dv) (p : Nat) : (fold1 d p).host.size = d.host.size ∧ (fold1 d p).mail.size = d.mail.size := by
  have h : ∀ s : ByteArray, (⟨(Nm.fold s.data.toList).toArray⟩ : ByteArray).size = s.size := fun s => by
    show ((Nm.fold s.data.toList).toArray).size = s.size
    simp [Nm.fold]
  unfold fold1
  split
  · exact ⟨h _, rfl⟩
  split
  · exact ⟨rfl, h _⟩
  · exact ⟨rfl, rfl⟩
theorem dv_one (D : Dv) : (D.cells.all fun x => x.oneCell') = true := by simp [Dv.cells, Value.oneCell']
theorem foldAll (t : Nat) (d : Dv) : (Rd.parts t).foldl fold1 d = d.fold t := by
  refine Rd.by_type (P := fun t => (Rd.parts t).foldl fold1 d = d.fold t) rfl rfl rfl rfl rfl rfl rfl rfl rfl (fun t a b c e f g h i j => ?_) t
  rw [Rd.parts_other a b c e f g h i j]
  have h1 : Rd.isHost t = false := by simp [Rd.isHost, *]
  have h2 : Rd.isMail t = false := by simp [Rd.isMail, *]
  unfold Dv.fold
  rw [h1, h2]
  rfl
set_option maxHeartbeats 4000000 in
set_option maxRecDepth 100000 in
theorem pdFold_any (t : Nat) (d : Dv) (w : World) (ht : t ≤ 65535) (hL : LayR w) (hh : d.host.size ≤ 140737488355328) (hm : d.mail.size ≤ 140737488355328) :
    Calls Tryz.prog 42 #[.int .u16 t, d.val] w fun e w' => e = .returned (d.fold t).val ∧ Below w.heap.size w w' := by
  obtain ⟨R, hR⟩ : ∃ R, (d.fold t).val = R := ⟨_, rfl⟩
  rw [hR]
  have HRES := Lib.hid hR
  clear hR
  have HL := Lib.hid hL
  clear hL
  have hval : d.val = .agg d.cells := rfl
  have HX0 : Hid (Has (w.alloc (.cells d.cells 34)) w.heap.size 34 d.cells) := Has.fresh w _ _
  have HPO : ∀ W : World, LayR W → Hid (Calls Tryz.prog 57 #[.int .u16 t] W fun e w' => e = .returned (.agg (partC t)) ∧ Below W.heap.size W w') := fun W h => partsOf_any t W ht h
  go_enter Tryz.func42, Tryz.ntmps42
  go_wp2_with (go_at_call 57; refine (HPO _ (HL.out.below (((Below.refl _ _).alloc (Nat.le_refl _) _).alloc (by simp) _) (Nat.le_refl _))).out.mono ?_; rintro e w1 ⟨rfl, B1⟩)
  have HB : Hid (Below w.heap.size w w1) := ((((Below.refl _ _).alloc (Nat.le_refl _) _).alloc (by simp) _).trans (B1.mono (by simp; omega)))
  have HD : Hid (Has w1 w.heap.size 34 d.cells) := (HX0.out.alloc _).below B1 (by simp; omega)
  have HG : Hid (Has w1 (w.heap.size + 1) 34 #[.string ⟨#[]⟩, .string ⟨#[]⟩, .string ⟨#[]⟩, .int .u32 0, .int .u32 0, .int .u32 0, .int .u32 0, .int .u32 0]) := by
    have h : Has ((w.alloc (.cells d.cells 34)).alloc (.cells #[.string ⟨#[]⟩, .string ⟨#[]⟩, .string ⟨#[]⟩, .int .u32 0, .int .u32 0, .int .u32 0, .int .u32 0, .int .u32 0] 34)) (w.alloc (.cells d.cells 34)).heap.size 34 _ := Has.fresh _ _ _
    have h2 := h.below B1 (by simp)
    have e : (w.alloc (.cells d.cells 34)).heap.size = w.heap.size + 1 := by simp
    rw [e] at h2
    exact h2
  have hz1 : w.heap.size + 1 < w1.heap.size := by have := B1.size; simp at this; omega
  clear B1 HX0
  go_loopw [9] (fun i wr => ∃ k : Nat, i = .int .i64 k ∧ k ≤ 7 ∧ Hid (Has wr w.heap.size 34 (((Rd.parts t).take k).foldl fold1 d).cells) ∧ Hid (Has wr (w.heap.size + 1) 34 #[.string ⟨#[]⟩, .string ⟨#[]⟩, .string ⟨#[]⟩, .int .u32 0, .int .u32 0, .int .u32 0, .int .u32 0, .int .u32 0]) ∧ Hid (Below w.heap.size w wr) ∧
      (((Rd.parts t).take k).foldl fold1 d).host.size ≤ 140737488355328 ∧ (((Rd.parts t).take k).foldl fold1 d).mail.size ≤ 140737488355328) (fun i _ => 7 - (intOf i).toNat)
  case atStart => exact ⟨0, rfl, by omega, HD, HG, HB, hh, hm⟩
  case round =>
    obtain ⟨k, rfl, hk, HD1, HG1, HB1, hh1, hm1⟩ := hrel
    have hg2 := HG1.out.lt
    by_cases hlt : k < 7
    · have hkl : k < (Rd.parts t).length := by rw [Rd.parts_len]; exact hlt
      have hix := part_at hkl
      have hp9 : (Rd.parts t)[k] ≤ 9 := Rd.parts_lt t _ (List.getElem_mem hkl)
      have htk : (Rd.parts t).take (k + 1) = (Rd.parts t).take k ++ [(Rd.parts t)[k]] := List.take_succ_eq_append_getElem hkl
      have hfo : ((Rd.parts t).take (k + 1)).foldl fold1 d = fold1 (((Rd.parts t).take k).foldl fold1 d) (Rd.parts t)[k] := by rw [htk, List.foldl_append]; rfl
      have hs1 := fold1_size (((Rd.parts t).take k).foldl fold1 d) (Rd.parts t)[k]
      have HFO := Lib.hid hfo
      have HS1 := Lib.hid hs1
      clear hfo htk hs1
      generalize (Rd.parts t)[k] = p at *
      generalize ((Rd.parts t).take k).foldl fold1 d = d1 at *
      obtain ⟨q, hq⟩ : ∃ q : Int, ((p : Nat) : Int) = q := ⟨_, rfl⟩
      rw [hq] at hix
      have HQ := Lib.hid hq
      clear hq
      have hq := HQ.out
      have ch := dv_host HD1.out
      have cm := dv_mail HD1.out
      by_cases p7 : p = 5 ∨ p = 6 ∨ p = 7
      · have HF1 := Lib.hid (fun W : World => Fold_any d1.host W hh1)
        have HF2 := Lib.hid (fun W : World => Fold_any d1.mail W hm1)
        by_cases p5 : p = 7
        · obtain rfl : q = 7 := by omega
          subst p5
          clear hq p7
          go_wp2_with (go_at_call 40; refine (HF2.out _).mono ?_; rintro e w2 ⟨rfl, B2⟩; have hs2 := B2.size; have HD2 := Lib.hid (HD1.out.below B2 (by omega)); have HG2 := Lib.hid (HG1.out.below B2 (by omega)); have HB2 := Lib.hid (HB1.out.trans (B2.mono (by omega))); have cm2 := dv_mail HD2.out; have fm2 := HD2.out.free 2; clear B2)
          go_roundw
          case rel => exact ⟨k + 1, by go_num, by omega, by rw [HFO.out]; exact HD2.out.set 2 _, HG2.out.far (by simp) _, HB2.out.setCell (by simp) _, by rw [HFO.out, HS1.out.1]; exact hh1, by rw [HFO.out, HS1.out.2]; exact hm1⟩
          case measure => simp [intOf]; omega
        · rcases (by omega : (p = 5 ∧ q = 5) ∨ (p = 6 ∧ q = 6)) with ⟨rfl, rfl⟩ | ⟨rfl, rfl⟩
          all_goals
            (clear hq p7 p5
             go_wp2_with (go_at_call 40; refine (HF1.out _).mono ?_; rintro e w2 ⟨rfl, B2⟩; have hs2 := B2.size; have HD2 := Lib.hid (HD1.out.below B2 (by omega)); have HG2 := Lib.hid (HG1.out.below B2 (by omega)); have HB2 := Lib.hid (HB1.out.trans (B2.mono (by omega))); have ch2 := dv_host HD2.out; have fh2 := HD2.out.free 1; clear B2)
             go_roundw
             case rel => exact ⟨k + 1, by go_num, by omega, by rw [HFO.out]; exact HD2.out.set 1 _, HG2.out.far (by simp) _, HB2.out.setCell (by simp) _, by rw [HFO.out, HS1.out.1]; exact hh1, by rw [HFO.out, HS1.out.2]; exact hm1⟩
             case measure => simp [intOf]; omega)
      · have hf1 : fold1 d1 p = d1 := by unfold fold1; rw [if_neg (by omega), if_neg (by omega)]
        have h5 : ((q : Int) == 5) = false := beq_eq_false_iff_ne.2 (by omega)
        have h6 : ((q : Int) == 6) = false := beq_eq_false_iff_ne.2 (by omega)
        have h7 : ((q : Int) == 7) = false := beq_eq_false_iff_ne.2 (by omega)
        have HF0 := Lib.hid hf1
        clear hf1 hq p7
        go_wp2
        go_roundw
        case rel => exact ⟨k + 1, by go_num, by omega, by rw [HFO.out, HF0.out]; exact HD1, HG1, HB1, by rw [HFO.out, HF0.out]; exact hh1, by rw [HFO.out, HF0.out]; exact hm1⟩
        case measure => simp [intOf]; omega
    · obtain rfl : k = 7 := by omega
      have hall : (Rd.parts t).take 7 = Rd.parts t := List.take_of_length_le (by rw [Rd.parts_len]; omega)
      rw [hall, foldAll] at HD1
      have hi8 : (Tryz.prog.info? 34).map (·.size) = some 8 := by kernel_rfl
      have HI := Lib.hid hi8
      clear hi8 hall
      generalize d.fold t = D at *
      go_wp2_with (first
        | (refine wpList_load_row rfl 34 (.tmp 3) rfl w.heap.size rfl 34 D.cells (0, 0) _ HD1.out Tryz.underlying34 rfl HI.out ?_)
        | (refine wpList_store_row rfl 34 (.tmp 4) (.tmp 27) rfl (w.heap.size + 1) D.cells rfl rfl 34 _ HG1.out HI.out rfl (dv_one D) ?_))
      refine bodyPost_ret (results_cell_row rfl _ _ (w.heap.size + 1) 34 D.cells (0, 0) _ rfl (HG1.out.row _) Tryz.underlying34 rfl HI.out) rfl ?_
      exact ⟨by rw [← HRES.out]; rfl, below_setRow HB1.out (by omega) _⟩
end Go.Proofs.YtgcaephfhfkjcaaGreatDoor
namespace Go.Proofs.YtgcaephfhfkjcaaGreatDoor
open Go.RowKit

/-- a record in small letters. -/
def Rv.fold (r : Rv) : Rv := { r with nm := ⟨(Nm.fold r.nm.data.toList).toArray⟩, d := r.d.fold r.ty }
def Rv.nums (r : Rv) : Prop := r.ty ≤ 65535 ∧ r.cl ≤ 65535
theorem rv_one (r : Rv) : (r.cells.all fun x => x.oneCell') = true := by simp [Rv.cells, Value.oneCell']
end Go.Proofs.YtgcaephfhfkjcaaGreatDoor
namespace Go.Proofs.YtgcaephfhfkjcaaGreatDoor
open Go.RowKit Go.Sort Go.Lib

/-- the table of the powers of ten is as its initialiser lays it. -/
def LayP (w : World) : Prop := ∃ t, Has w 1 t ((Lib.pow10Tab.map fun z => Value.int .u64 z).toArray)
theorem LayP.below {w w' : World} {B : Nat} (h : LayP w) (hb : Below B w w') (hB : w.heap.size ≤ B) : LayP w' := h.elim fun t h => ⟨t, h.below hb (Nat.lt_of_lt_of_le h.lt hB)⟩
end Go.Proofs.YtgcaephfhfkjcaaGreatDoor
namespace Go.Proofs.YtgcaephfhfkjcaaGreatDoor
open Go.RowKit

/-- the tables are as their initialisers lay them. -/
def cells64 : Array Value := #[.int .u8 0, .int .u8 1, .int .u8 56, .int .u8 2, .int .u8 57, .int .u8 49, .int .u8 28, .int .u8 3, .int .u8 61, .int .u8 58, .int .u8 42, .int .u8 50, .int .u8 38, .int .u8 29, .int .u8 17, .int .u8 4, .int .u8 62, .int .u8 47, .int .u8 59, .int .u8 36, .int .u8 45, .int .u8 43, .int .u8 51, .int .u8 22, .int .u8 53, .int .u8 39, .int .u8 33, .int .u8 30, .int .u8 24, .int .u8 18, .int .u8 12, .int .u8 5, .int .u8 63, .int .u8 55, .int .u8 48, .int .u8 27, .int .u8 60, .int .u8 41, .int .u8 37, .int .u8 16, .int .u8 46, .int .u8 35, .int .u8 44, .int .u8 21, .int .u8 52, .int .u8 32, .int .u8 23, .int .u8 11, .int .u8 54, .int .u8 26, .int .u8 40, .int .u8 15, .int .u8 34, .int .u8 20, .int .u8 31, .int .u8 10, .int .u8 25, .int .u8 14, .int .u8 19, .int .u8 9, .int .u8 13, .int .u8 8, .int .u8 7, .int .u8 6]
def LayD (w : World) : Prop := ∃ t, Has w 4 t cells64
theorem LayD.below {w w' : World} {B : Nat} (h : LayD w) (hb : Below B w w') (hB : w.heap.size ≤ B) : LayD w' := h.elim fun t h => ⟨t, h.below hb (Nat.lt_of_lt_of_le h.lt hB)⟩
def LayA (w : World) : Prop := LayR w ∧ LayP w ∧ LayD w
theorem LayA.below {w w' : World} {B : Nat} (h : LayA w) (hb : Below B w w') (hB : w.heap.size ≤ B) : LayA w' := ⟨h.1.below hb hB, h.2.1.below hb hB, h.2.2.below hb hB⟩
end Go.Proofs.YtgcaephfhfkjcaaGreatDoor
namespace Go.Proofs.YtgcaephfhfkjcaaGreatDoor
open Go.RowKit

namespace Rd
def showA (s : By) : By := (s.flatMap fun c => 46 :: dec c.toNat).drop 1
def hex2 (c : UInt8) : By := hex (c.toNat / 16) ++ hex (c.toNat % 16)
def showHex (s : By) : By := [92, 35, 32] ++ dec s.length ++ (if s = [] then [] else 32 :: s.flatMap hex2)
theorem flat_take {s : By} {k : Nat} (hk : k < s.length) (f : UInt8 → By) : (s.take (k + 1)).flatMap f = (s.take k).flatMap f ++ f (s[k]'hk) := by
  rw [List.take_add_one, List.getElem?_eq_getElem hk, List.flatMap_append]
  simp
end Rd
end Go.Proofs.YtgcaephfhfkjcaaGreatDoor
