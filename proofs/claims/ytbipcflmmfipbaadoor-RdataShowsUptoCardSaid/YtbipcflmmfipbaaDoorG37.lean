/- Texts of the proofs, merged. -/
import Derived.Test.YtbipcflmmfipbaaDoorG35
import Derived.Test.YtbipcflmmfipbaaDoorG11
import Derived.Test.YtbipcflmmfipbaaDoorG38
/- pieces, Parse, Text: the document's answers. -/
namespace Go.Proofs.YtbipcflmmfipbaaDoor
open Go.RowKit

/-- the pieces ps end ahead of f. -/
def Ahead (l : List UInt8) (f : Nat) (ps : List (List UInt8)) : Prop :=
  f ≤ l.length ∧ ps.length ≤ f ∧ (f < l.length ∨ f = 0 → Nm.pieces l = (ps ++ (Nm.pieces (l.drop f)).1, (Nm.pieces (l.drop f)).2)) ∧ (f = l.length → 0 < f → Nm.pieces l = (ps, true))
theorem Ahead.zero (l : List UInt8) : Ahead l 0 [] := ⟨Nat.zero_le _, by simp, fun _ => by simp, fun _ h => by omega⟩
theorem CutAt.dot' {l : List UInt8} {k : Nat} (h : CutAt l k) (hk : k < l.length) (h46 : (l[k]).toNat = 46) : Nm.cutP l = (l.take k, l.drop (k + 1), true) := by
  rcases h with ⟨_, h⟩ | ⟨h, _⟩
  · rw [h, Nm.drop_cons hk, Nm.cutP_dot h46]; simp
  · omega
theorem CutAt.done' {l : List UInt8} {k : Nat} (h : CutAt l k) (hk : l.length ≤ k) : Nm.cutP l = (l, [], false) := by
  rcases h with ⟨h1, h⟩ | ⟨_, h⟩
  · obtain rfl : k = l.length := by omega
    rw [h, List.drop_length, List.take_length]; simp [Nm.cutP]
  · exact h
theorem Ahead.step {l : List UInt8} {f i : Nat} {ps : List (List UInt8)} (h : Ahead l f ps) (hfi : f ≤ i) (hi : i < l.length) (hc : CutAt (l.drop f) (i - f)) (h46 : (l[i]).toNat = 46) :
    Ahead l (i + 1) (ps ++ [(l.drop f).take (i - f)]) := by
  have hlt : i - f < (l.drop f).length := by rw [List.length_drop]; omega
  have hg : ((l.drop f)[i - f]'hlt).toNat = 46 := by rw [List.getElem_drop]; simp only [show f + (i - f) = i by omega]; exact h46
  have hcut := hc.dot' hlt hg
  have hd : (l.drop f).drop (i - f + 1) = l.drop (i + 1) := by rw [List.drop_drop]; congr 1; omega
  rw [hd] at hcut
  have hp := h.2.2.1 (.inl (by omega))
  refine ⟨hi, by have := h.2.1; simp; omega, fun hh => ?_, fun he _ => ?_⟩
  · have hm := Nm.pieces_more (l := l.drop f) (by rw [hcut]) (by rw [hcut]; simp; omega)
    rw [hp, hm, hcut]; simp
  · have hm := Nm.pieces_whole (l := l.drop f) (by rw [hcut]) (by rw [hcut]; simp; omega)
    rw [hp, hm, hcut]
theorem Ahead.rest {l : List UInt8} {f i : Nat} {ps : List (List UInt8)} (h : Ahead l f ps) (hfi : f ≤ i) (hi : l.length ≤ i) (hc : CutAt (l.drop f) (i - f)) (hn : f < l.length ∨ f = 0) : Nm.pieces l = (ps ++ [l.drop f], false) := by
  have hcut := hc.done' (by rw [List.length_drop]; omega)
  rw [h.2.2.1 hn, Nm.pieces_end (by rw [hcut]), hcut]

def PiecesPost (w : World) (l : List UInt8) (e : Ending) (w' : World) : Prop :=
  ∃ v, e = .returned (.tuple #[v, .bool (Nm.pieces l).2]) ∧ w'.ownsRow w.heap.size 9 1 v (Nm.pieces l).1.length (svs (Nm.pieces l).1) ∧ Below w.heap.size w w'
theorem pieces_done {w w' : World} {l : List UInt8} {v x : Value} {ps : List (List UInt8)} {b : Bool} (hp : Nm.pieces l = (ps, b)) (hx : x = .bool b) (ho : w'.ownsRow w.heap.size 9 1 v ps.length (svs ps)) (hb : Below w.heap.size w w') : PiecesPost w l (.returned (.tuple #[v, x])) w' :=
  ⟨v, by rw [hp, hx], by rw [hp]; exact ho, hb⟩

theorem piecesF_le : ∀ (f : Nat) (l p : List UInt8), p ∈ (Nm.piecesF f l).1 → p.length ≤ l.length := by
  intro f
  induction f with
  | zero => intro l p h; simp [Nm.piecesF] at h
  | succ f ih =>
    intro l p h
    rw [Nm.piecesF_succ] at h
    have hc := cut_len l
    split at h
    · split at h
      · simp at h; subst h; exact hc.1
      · simp only [List.mem_cons] at h
        rcases h with rfl | h
        · exact hc.1
        · exact Nat.le_trans (ih _ p h) hc.2
    · simp at h; subst h; exact hc.1
theorem piecesF_count : ∀ (f : Nat) (l : List UInt8), (Nm.piecesF f l).1.length ≤ l.length + 1 := by
  intro f
  induction f with
  | zero => intro l; simp [Nm.piecesF]
  | succ f ih =>
    intro l
    rw [Nm.piecesF_succ]
    split
    · rename_i hd
      have hl := Nm.cutP_less _ l (Nat.le_refl _) hd
      split
      · simp
      · have := ih (Nm.cutP l).2.1
        simp only [List.length_cons]; omega
    · simp
/-- the first k pieces have told the labels bs. -/
def ToldAt (ps : List (List UInt8)) (k : Nat) (bs : List (List UInt8)) : Prop :=
  k ≤ ps.length ∧ bs.length = k ∧ Nm.Good bs ∧ Nm.labelsP ps = match Nm.labelsP (ps.drop k) with | .error n => .error n | .ok r => .ok (bs ++ r)
theorem ToldAt.zero (ps : List (List UInt8)) : ToldAt ps 0 [] := ⟨Nat.zero_le _, rfl, (fun l hl => by simp at hl), by rw [List.drop_zero]; rcases Nm.labelsP ps <;> rfl⟩
theorem ToldAt.no {ps bs : List (List UInt8)} {k : Nat} (h : ToldAt ps k bs) (hk : k < ps.length) (hu : Nm.unesc ps[k] = none) : Nm.labelsP ps = .error 12 := by
  rw [h.2.2.2, List.drop_eq_getElem_cons hk, labelsP_esc _ _ hu]
theorem ToldAt.bad {ps bs : List (List UInt8)} {k : Nat} {b : List UInt8} (h : ToldAt ps k bs) (hk : k < ps.length) (hu : Nm.unesc ps[k] = some b) (hg : ¬ (1 ≤ b.length ∧ b.length ≤ 63)) : Nm.labelsP ps = .error 10 := by
  rw [h.2.2.2, List.drop_eq_getElem_cons hk, labelsP_bad _ _ _ hu hg]
theorem ToldAt.step {ps bs : List (List UInt8)} {k : Nat} {b : List UInt8} (h : ToldAt ps k bs) (hk : k < ps.length) (hu : Nm.unesc ps[k] = some b) (hg : 1 ≤ b.length ∧ b.length ≤ 63) : ToldAt ps (k + 1) (bs ++ [b]) := by
  refine ⟨hk, by rw [List.length_append, h.2.1]; rfl, good_app h.2.2.1 (fun l hl => by simp at hl; subst hl; exact hg), ?_⟩
  rw [h.2.2.2, List.drop_eq_getElem_cons hk, labelsP_cons _ _ _ hu hg]
  rcases Nm.labelsP (ps.drop (k + 1)) with n | r
  · rfl
  · simp
theorem ToldAt.done {ps bs : List (List UInt8)} (h : ToldAt ps ps.length bs) : Nm.labelsP ps = .ok bs := by
  rw [h.2.2.2, List.drop_length]; simp [Nm.labelsP]
theorem parseR_eq {l o : List UInt8} {os : List (List UInt8)} (ho : Nm.split o = some os) (hd : l ≠ [46]) :
    parseR l o = match Nm.labelsP (Nm.pieces l).1 with | .error e => .tuple #[sv [], .int .i64 (e : Nat)] | .ok ls => nameR (if (Nm.pieces l).2 then ls else ls ++ os) := by
  unfold parseR Nm.parse
  rw [ho]
  simp only [if_neg hd]
  rcases Nm.labelsP (Nm.pieces l).1 with e | ls
  · rfl
  · exact (nameR_eq _).symm

end Go.Proofs.YtbipcflmmfipbaaDoor
/- Text of the reference: the document's answer. -/
namespace Go.Proofs.YtbipcflmmfipbaaDoor
open Go.RowKit

set_option maxHeartbeats 1000000 in
set_option maxRecDepth 100000 in
theorem refText_any (s : ByteArray) (w : World) (hs : s.size ≤ 140737488355328) :
    Calls Tryd.prog 56 #[.string s] w fun e w' => e = .returned (sv (Nm.text s.data.toList)) ∧ Below w.heap.size w w' := by
  rcases hn : Nm.split s.data.toList with _ | ls
  · have HR : Hid (Nm.text s.data.toList = []) := by show _ = _; unfold Nm.text; rw [hn]
    have H1 := Lib.hid (Split_no s w hs hn)
    clear hn
    go_enter Tryd.func56, Tryd.ntmps56
    go_wp2_with (first | (go_at_call 102; refine H1.out.mono ?_; rintro e w1 ⟨v1, rfl, hb1⟩))
    go_ret
    exact ⟨by rw [HR.out]; rfl, hb1⟩
  · have H1 := Lib.hid (Split_yes s ls w hs hn)
    have hf := few hn
    have hgood := (Nm.split_some.1 hn).2.1
    by_cases h0 : ls = []
    · subst h0
      have HR : Hid (Nm.text s.data.toList = [46]) := by show _ = _; unfold Nm.text; rw [hn]
      clear hn
      go_enter Tryd.func56, Tryd.ntmps56
      go_wp2_with (first | (go_at_call 102; refine H1.out.mono ?_; rintro e w1 ⟨ad1, cp1, rfl, ho1, hb1⟩))
      go_ret
      exact ⟨by rw [HR.out]; rfl, hb1⟩
    · have HR : Hid (Nm.text s.data.toList = Nm.textL ls) := by
        show _ = _
        unfold Nm.text; rw [hn]
        rcases ls with _ | ⟨a, ls⟩
        · exact absurd rfl h0
        · rfl
      have HG := Lib.hid hgood
      have hpos : 0 < ls.length := List.length_pos_iff.2 h0
      have hne : ((ls.length : Int) == 0) = false := beq_eq_false_iff_ne.2 (by omega)
      clear hn hgood h0
      generalize Nm.text s.data.toList = tx at *
      go_enter Tryd.func56, Tryd.ntmps56
      go_wp2_with (first | (go_at_call 102; refine H1.out.mono ?_; rintro e w1 ⟨ad1, cp1, rfl, ho1, hb1⟩; have HO := Lib.hid ho1; have B1 := Lib.hid hb1; have hs1 := hb1.size; clear ho1 hb1))
      go_loopw [5, 6] (fun t i wr => ∃ k : Nat, i = .int .i64 k ∧ k ≤ ls.length ∧ t = sv (Nm.textL (ls.take k)) ∧ Below w1.heap.size w1 wr) (fun _ i _ => ls.length - (intOf i).toNat)
      case atStart => exact ⟨0, rfl, Nat.zero_le _, rfl, Below.refl _ _⟩
      case round =>
        obtain ⟨k, rfl, hk, rfl, hbw⟩ := hrel
        have HB := Lib.hid hbw
        have hbs := hbw.size
        have HO2 := Lib.hid (own_below HO.out hbw (Nat.le_refl _))
        clear hbw
        by_cases hlt : k < ls.length
        · obtain ⟨g', rfl, hcap, ca⟩ := own_at HO2.out hlt
          have hc : wr.cell? ⟨g', k, none⟩ = some (sv ls[k]) := ca k _ (by simp [svs, hlt])
          have hgl := HG.out ls[k] (List.getElem_mem hlt)
          have HTS : Hid (Nm.textL (ls.take (k + 1)) = Nm.textL (ls.take k) ++ (Nm.esc false ls[k] ++ [46])) := by rw [Hid, List.take_succ_eq_append_getElem hlt, textL_snoc]
          have hte := textL_len (ls.take k) (fun x hx => HG.out x (List.mem_of_mem_take hx))
          have htl : (ls.take k).length ≤ k := List.length_take_le _ _
          have hte2 : (Nm.textL (ls.take k)).length ≤ 300 * k := by omega
          clear ca hte htl
          generalize ls[k] = l at *
          generalize Nm.textL (ls.take k) = tk at *
          have hel := Nm.esc_len false l
          go_wp2_with (first | (go_at_call 55; refine (refEscape_any ⟨l.toArray⟩ false _ (by rw [mk_size]; omega)).mono ?_; rintro e w2 ⟨rfl, hb2⟩))
          go_roundw
          case rel =>
            refine ⟨k + 1, by go_num, by omega, ?_, HB.out.trans (hb2.mono hbs)⟩
            rw [HTS.out]
            show Value.string ((⟨tk.toArray⟩ ++ ⟨(Nm.esc false l).toArray⟩) ++ ⟨#[46]⟩) = _
            rw [string_eq (s := (⟨tk.toArray⟩ ++ ⟨(Nm.esc false l).toArray⟩) ++ ⟨#[46]⟩) (l := tk ++ (Nm.esc false l ++ [46])) (by rw [cat_list, cat_list, List.append_assoc])]
          case measure => simp [intOf]; omega
        · obtain rfl : k = ls.length := by omega
          have HTS : Hid (Nm.textL (ls.take ls.length) = Nm.textL ls) := by rw [Hid, List.take_length]
          go_wp2
          go_ret
          refine ⟨?_, B1.out.trans (HB.out.mono hs1)⟩
          rw [HR.out, ← HTS.out]; rfl
end Go.Proofs.YtbipcflmmfipbaaDoor
