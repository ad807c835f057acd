/- The family of a name: its last labels, what lies under what, joins: facts of lists. -/
import Derived.Test.YtjcdhmpcjpjnmaaDoorUnder
import Derived.Test.YtjcdhmpcjpjnmaaDoorLasts
namespace Go.Proofs.YtjcdhmpcjpjnmaaDoor
open Go.RowKit
namespace Nm

def fam (x : List By) (fb : By) (k : Nat) : Bool := (List.range k).any fun j => fold (glue (x.drop (x.length - j))) == fb
theorem fam_zero (x : List By) (fb : By) : fam x fb 0 = false := rfl
theorem fam_succ (x : List By) (fb : By) (k : Nat) : fam x fb (k + 1) = (fam x fb k || (fold (glue (x.drop (x.length - k))) == fb)) := by
  unfold fam; rw [List.range_succ, List.any_append]; simp
theorem body_drop_le {x : List By} (k : Nat) : (body (x.drop k)).length ≤ (body x).length := by
  have h := congrArg List.length (body_append (x.take k) (x.drop k))
  rw [List.take_append_drop, List.length_append] at h; omega
theorem split_drop {a : By} {x : List By} (h : split a = some x) (k : Nat) : split (glue (x.drop k)) = some (x.drop k) := by
  obtain ⟨rfl, g, hl⟩ := split_some.1 h
  refine split_glue (good_drop g k) ?_
  rw [glue_length] at *
  have := body_drop_le (x := x) k; omega
theorem under_drop {a : By} {x : List By} (h : split a = some x) {k : Nat} (hk : k ≤ x.length) : underB a (glue (x.drop (x.length - k))) = true := by
  unfold underB
  rw [h, split_drop h]
  simp only [Bool.and_eq_true, decide_eq_true_eq, List.length_drop, beq_iff_eq]
  exact ⟨by omega, by rw [show x.length - (x.length - (x.length - k)) = x.length - k by omega]⟩
theorem fam_all {a b : By} {x y : List By} (h : split a = some x) (h2 : split b = some y) : fam x (fold b) (x.length + 1) = underB a b := by
  obtain ⟨rfl, ga, _⟩ := split_some.1 h
  obtain ⟨rfl, gb, _⟩ := split_some.1 h2
  rw [Bool.eq_iff_iff]
  unfold fam underB
  rw [h, h2]
  simp only [List.any_eq_true, List.mem_range, beq_iff_eq, Bool.and_eq_true, decide_eq_true_eq]
  constructor
  · rintro ⟨j, hj, hf⟩
    have hm := (fold_glue_iff (good_drop ga _) gb).1 hf
    have hlen := congrArg List.length hm
    simp at hlen
    have e : j = y.length := by omega
    subst e
    exact ⟨by omega, hf⟩
  · rintro ⟨hl, hf⟩
    exact ⟨y.length, by omega, hf⟩
theorem under_join {b : By} {x y : List By} (h2 : split b = some y) (g : Good x) (hl : (glue (x ++ y)).length ≤ 255) : underB (glue (x ++ y)) b = true := by
  have h := h2
  obtain ⟨rfl, gb, _⟩ := split_some.1 h2
  unfold underB
  rw [split_glue (good_app g gb) hl, h]
  simp only [Bool.and_eq_true, decide_eq_true_eq, beq_iff_eq, List.length_append]
  refine ⟨by omega, ?_⟩
  rw [show x.length + y.length - y.length = x.length by omega, List.drop_left]
theorem labels_drop {a : By} {x : List By} (h : split a = some x) {k : Nat} (hk : k ≤ x.length) : (labelsOf (glue (x.drop (x.length - k)))).length = k := by
  unfold labelsOf; rw [split_drop h]; simp; omega
theorem labels_join {x y : List By} (g : Good x) (gb : Good y) (hl : (glue (x ++ y)).length ≤ 255) : (labelsOf (glue (x ++ y))).length = x.length + y.length := by
  unfold labelsOf; rw [split_glue (good_app g gb) hl]; simp
theorem last_of {a : By} {x : List By} (h : split a = some x) {k : Nat} (hk : k ≤ x.length) : lastR a (k : Int) = .tuple #[.string ⟨(glue (x.drop (x.length - k))).toArray⟩, .bool true] := by
  unfold lastR; rw [h]; simp only []; rw [if_neg (by omega)]; rfl
end Nm
end Go.Proofs.YtjcdhmpcjpjnmaaDoor
