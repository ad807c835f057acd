/- Text of the reference: the document's answer. -/
import Derived.Test.YtjcdhmpcjpjnmaaDoorParseRef
namespace Go.Proofs.YtjcdhmpcjpjnmaaDoor
open Go.RowKit

set_option maxHeartbeats 1000000 in
set_option maxRecDepth 100000 in
theorem refText_any (s : ByteArray) (w : World) (hs : s.size ≤ 140737488355328) :
    Calls Tryd.prog 42 #[.string s] w fun e w' => e = .returned (sv (Nm.text s.data.toList)) ∧ Below w.heap.size w w' := by
  rcases hn : Nm.split s.data.toList with _ | ls
  · have HR : Hid (Nm.text s.data.toList = []) := by show _ = _; unfold Nm.text; rw [hn]
    have H1 := Lib.hid (Split_no s w hs hn)
    clear hn
    go_enter Tryd.func42, Tryd.ntmps42
    go_wp2_with (first | (go_at_call 13; refine H1.out.mono ?_; rintro e w1 ⟨v1, rfl, hb1⟩))
    go_ret
    exact ⟨by rw [HR.out]; rfl, hb1⟩
  · have H1 := Lib.hid (Split_yes s ls w hs hn)
    have hf := few hn
    have hgood := (Nm.split_some.1 hn).2.1
    by_cases h0 : ls = []
    · subst h0
      have HR : Hid (Nm.text s.data.toList = [46]) := by show _ = _; unfold Nm.text; rw [hn]
      clear hn
      go_enter Tryd.func42, Tryd.ntmps42
      go_wp2_with (first | (go_at_call 13; refine H1.out.mono ?_; rintro e w1 ⟨ad1, cp1, rfl, ho1, hb1⟩))
      go_ret
      exact ⟨by rw [HR.out]; rfl, hb1⟩
    · have HR : Hid (Nm.text s.data.toList = Nm.textL ls) := by
        show _ = _
        unfold Nm.text; rw [hn]
        rcases ls with _ | ⟨a, ls⟩
        · exact absurd rfl h0
        · rfl
      have HG := Lib.hid hgood
      have hpos : 0 < ls.length := List.length_pos_iff.2 h0
      have hne : ((ls.length : Int) == 0) = false := beq_eq_false_iff_ne.2 (by omega)
      clear hn hgood h0
      generalize Nm.text s.data.toList = tx at *
      go_enter Tryd.func42, Tryd.ntmps42
      go_wp2_with (first | (go_at_call 13; refine H1.out.mono ?_; rintro e w1 ⟨ad1, cp1, rfl, ho1, hb1⟩; have HO := Lib.hid ho1; have B1 := Lib.hid hb1; have hs1 := hb1.size; clear ho1 hb1))
      go_loopw [5, 6] (fun t i wr => ∃ k : Nat, i = .int .i64 k ∧ k ≤ ls.length ∧ t = sv (Nm.textL (ls.take k)) ∧ Below w1.heap.size w1 wr) (fun _ i _ => ls.length - (intOf i).toNat)
      case atStart => exact ⟨0, rfl, Nat.zero_le _, rfl, Below.refl _ _⟩
      case round =>
        obtain ⟨k, rfl, hk, rfl, hbw⟩ := hrel
        have HB := Lib.hid hbw
        have hbs := hbw.size
        have HO2 := Lib.hid (own_below HO.out hbw (Nat.le_refl _))
        clear hbw
        by_cases hlt : k < ls.length
        · obtain ⟨g', rfl, hcap, ca⟩ := own_at HO2.out hlt
          have hc : wr.cell? ⟨g', k, none⟩ = some (sv ls[k]) := ca k _ (by simp [svs, hlt])
          have hgl := HG.out ls[k] (List.getElem_mem hlt)
          have HTS : Hid (Nm.textL (ls.take (k + 1)) = Nm.textL (ls.take k) ++ (Nm.esc false ls[k] ++ [46])) := by rw [Hid, List.take_succ_eq_append_getElem hlt, textL_snoc]
          have hte := textL_len (ls.take k) (fun x hx => HG.out x (List.mem_of_mem_take hx))
          have htl : (ls.take k).length ≤ k := List.length_take_le _ _
          have hte2 : (Nm.textL (ls.take k)).length ≤ 300 * k := by omega
          clear ca hte htl
          generalize ls[k] = l at *
          generalize Nm.textL (ls.take k) = tk at *
          have hel := Nm.esc_len false l
          go_wp2_with (first | (go_at_call 38; refine (refEscape_any ⟨l.toArray⟩ false _ (by rw [mk_size]; omega)).mono ?_; rintro e w2 ⟨rfl, hb2⟩))
          go_roundw
          case rel =>
            refine ⟨k + 1, by go_num, by omega, ?_, HB.out.trans (hb2.mono hbs)⟩
            rw [HTS.out]
            show Value.string ((⟨tk.toArray⟩ ++ ⟨(Nm.esc false l).toArray⟩) ++ ⟨#[46]⟩) = _
            rw [string_eq (s := (⟨tk.toArray⟩ ++ ⟨(Nm.esc false l).toArray⟩) ++ ⟨#[46]⟩) (l := tk ++ (Nm.esc false l ++ [46])) (by rw [cat_list, cat_list, List.append_assoc])]
          case measure => simp [intOf]; omega
        · obtain rfl : k = ls.length := by omega
          have HTS : Hid (Nm.textL (ls.take ls.length) = Nm.textL ls) := by rw [Hid, List.take_length]
          go_wp2
          go_ret
          refine ⟨?_, B1.out.trans (HB.out.mono hs1)⟩
          rw [HR.out, ← HTS.out]; rfl
end Go.Proofs.YtjcdhmpcjpjnmaaDoor
