/- Of, Labels, Parent, Last, Under, Join, Wild: the document's answers. -/
import Derived.Test.YtpnfkgjcnofjnaaGlue
import Derived.Test.YtpnfkgjcnofjnaaOf
import Derived.Test.YtpnfkgjcnofjnaaFold
import Derived.Test.YtpnfkgjcnofjnaaEscape
import Derived.Test.YtpnfkgjcnofjnaaSplit
namespace Go.Proofs.Ytpnfkgjcnofjnaa
open Go.RowKit

theorem any_take_false {ls : List (List UInt8)} {k : Nat} (h : (ls.take k).any badL = false) (hk : k < ls.length) (hg : 1 ≤ ls[k].length ∧ ls[k].length ≤ 63) : (ls.take (k + 1)).any badL = false := by
  rw [List.take_succ_eq_append_getElem hk, List.any_append, h]; simp [badL, good_true hg]
theorem any_bad {ls : List (List UInt8)} {k : Nat} (hk : k < ls.length) (hg : ¬ (1 ≤ ls[k].length ∧ ls[k].length ≤ 63)) : ls.any badL = true :=
  List.any_eq_true.2 ⟨_, List.getElem_mem hk, by simp [badL, good_false hg]⟩
theorem good_of_any {ls : List (List UInt8)} (h : ls.any badL = false) : Nm.Good ls := fun l hl => by
  by_cases hg : 1 ≤ l.length ∧ l.length ≤ 63
  · exact hg
  · have hb : badL l = true := by simp [badL, good_false hg]
    rw [List.any_eq_true.2 ⟨l, hl, hb⟩] at h
    cases h
theorem ofR_ok {ls : List (List UInt8)} (h : ls.any badL = false) : ofR ls = nameR ls := by unfold ofR; rw [h]; rfl
theorem nameR_long {ls : List (List UInt8)} (h : 255 < (Nm.body ls).length + 1) : nameR ls = .tuple #[.string ⟨#[]⟩, .int .i64 2] := by unfold nameR; rw [if_pos h]
theorem nameR_short {ls : List (List UInt8)} (h : ¬ 255 < (Nm.body ls).length + 1) : nameR ls = .tuple #[sv (Nm.glue ls), .int .i64 0] := by unfold nameR; rw [if_neg h]
theorem body_mono {ls : List (List UInt8)} (k : Nat) : (Nm.body (ls.take k)).length ≤ (Nm.body ls).length := Nm.body_take_le

theorem own_drop {w : World} {b n g c m : Nat} {e : TypeId} {ls : List (List UInt8)} (h : w.ownsRow b e 1 (.slice (some ⟨g, 0, none⟩) n c) n (svs ls)) (hn : n = ls.length) (hm : m ≤ n) :
    Rd w w.heap.size (.slice (some ⟨g, m, none⟩) (n - m) (c - m)) (ls.drop m) ∧ (c = m → Rd w w.heap.size (.slice (some ⟨g, 0, none⟩) (n - m) 0) (ls.drop m)) := by
  subst hn
  have hg : g < w.heap.size := (h.lt g rfl).2
  have hc : ls.length ≤ c := by
    rcases h.2 with ⟨hv, _⟩ | ⟨g', cap, cur, hv, _, _, hc, _⟩
    · simp at hv
    · injection hv with _ _ h3; omega
  constructor
  · refine ⟨_, _, by rw [List.length_drop], by rw [List.length_drop]; omega, fun _ => ⟨g, m, rfl, hg, fun j hj => ?_⟩⟩
    rw [List.length_drop] at hj
    exact own_cells h (m + j) _ (by simp [svs, show m + j < ls.length by omega])
  · intro he
    refine ⟨_, _, by rw [List.length_drop], by rw [List.length_drop]; omega, fun h0 => ?_⟩
    rw [List.length_drop] at h0; omega

theorem own_cut {w : World} {b n c d m : Nat} {e : TypeId} {ad : Option Addr} {ls : List (List UInt8)} (h : w.ownsRow b e 1 (.slice ad n c) n (svs ls)) (hl : ls.length = n) (hn : n = d + m) :
    Rd w w.heap.size (.slice (ad.map (·.add d)) m (c - d)) (ls.drop d) ∧ (c = d → Rd w w.heap.size (.slice ad m 0) (ls.drop d)) := by
  subst hl
  have hdl : (ls.drop d).length = m := by rw [List.length_drop]; omega
  rcases Nat.eq_zero_or_pos ls.length with h0 | h0
  · have hm : m = 0 := by omega
    subst hm
    exact ⟨⟨_, _, by rw [hdl], by omega, fun h => by omega⟩, fun _ => ⟨_, _, by rw [hdl], by omega, fun h => by omega⟩⟩
  · obtain ⟨g, rfl, hc, _⟩ := own_at h h0
    have h1 := own_drop h rfl (m := d) (by omega)
    have e : ls.length - d = m := by omega
    rw [e] at h1
    refine ⟨?_, h1.2⟩
    have : (⟨g, 0, none⟩ : Addr).add d = ⟨g, d, none⟩ := by unfold Addr.add; split <;> simp_all
    simp only [Option.map_some, this]
    exact h1.1

theorem refLabels_any (s : ByteArray) (w : World) (hs : s.size ≤ 140737488355328) :
    Calls Try.prog 64 #[.string s] w fun e w' => ∃ v, e = .returned v ∧ w'.ownsRow w.heap.size 9 1 v (labelsOf s.data.toList).length (svs (labelsOf s.data.toList)) ∧ Below w.heap.size w w' := by
  have HS := Lib.hid (Split_any s w hs)
  unfold labelsOf
  rcases hn : Nm.split s.data.toList with _ | ls
  · rw [hn] at HS
    clear hn
    go_enter Try.func64, Try.ntmps64
    go_wp2_with (first | (go_at_call 55; refine HS.out.mono ?_; rintro e w1 ⟨v, hb1, rfl⟩))
    go_ret
    exact ⟨_, rfl, World.ownsRow_nil _ _ _ _, hb1⟩
  · rw [hn] at HS
    clear hn
    go_enter Try.func64, Try.ntmps64
    go_wp2_with (first | (go_at_call 55; refine HS.out.mono ?_; rintro e w1 ⟨v, hb1, rfl, hown1⟩; obtain ⟨ad1, cp1, rfl⟩ := own_form hown1))
    go_ret
    exact ⟨_, rfl, hown1, hb1⟩

abbrev yes_ (l : List UInt8) : Value := .tuple #[sv l, .bool true]
abbrev no_ : Value := .tuple #[.string ⟨#[]⟩, .bool false]
/-- the last k labels, if there are so many. -/
def lastR (l : List UInt8) (k : Int) : Value := match Nm.split l with
  | none => no_
  | some ls => if k < 0 ∨ (ls.length : Int) < k then no_ else yes_ (Nm.glue (ls.drop (ls.length - k.toNat)))
def parentR (l : List UInt8) : Value := match labelsOf l with
  | [] => no_
  | _ :: r => yes_ (Nm.glue r)

set_option maxHeartbeats 400000 in
theorem refParent_any (s : ByteArray) (w : World) (hs : s.size ≤ 140737488355328) :
    Calls Try.prog 32 #[.string s] w fun e w' => e = .returned (parentR s.data.toList) ∧ Below w.heap.size w w' := by
  have HL := Lib.hid (refLabels_any s w hs)
  have HG := Lib.hid (labelsOf_good s.data.toList)
  unfold parentR
  generalize labelsOf s.data.toList = ls at *
  rcases ls with _ | ⟨l, r⟩
  · go_enter Try.func32, Try.ntmps32
    go_wp2_with (first | (go_at_call 64; refine HL.out.mono ?_; rintro e w1 ⟨v, rfl, hown1, hb1⟩; obtain ⟨ad1, cp1, rfl⟩ := own_form hown1))
    go_ret2
    exact ⟨rfl, hb1⟩
  · go_enter Try.func32, Try.ntmps32
    go_wp2_with (first | (go_at_call 64; refine HL.out.mono ?_; rintro e w1 ⟨v, rfl, hown1, hb1⟩; obtain ⟨ad1, cp1, rfl⟩ := own_form hown1; obtain ⟨g, rfl, hcap, _⟩ := own_at hown1 (k := 0) (by simp)))
    case' inl => (refine (Glue_any _ _ r _ ((own_drop hown1 rfl (m := 1) (by simp)).2 (by omega)) (Nat.le_refl _) (by have := HG.out.2; simp at this; omega) (fun l hl => by have := HG.out.1 l (by simp [hl]); omega)).mono ?_)
    case' inr => refine (Glue_any _ _ r _ (own_drop hown1 rfl (m := 1) (by simp)).1 (Nat.le_refl _) (by have := HG.out.2; simp at this; omega) (fun l hl => by have := HG.out.1 l (by simp [hl]); omega)).mono ?_
    all_goals
      rintro e w2 ⟨rfl, hb2⟩
      go_wp2
      go_ret2
      exact ⟨rfl, hb1.trans (hb2.mono hb1.size)⟩

end Go.Proofs.Ytpnfkgjcnofjnaa
