/- Are steps more than TreePlays looks at? And the play's state: a tree, the document's list, apart. -/
import Derived.Test.YtpnfkgjcnofjnaaMgPb
import Derived.Test.YtpnfkgjcnofjnaaSteps
namespace Go.Proofs.Ytpnfkgjcnofjnaa
open Go.RowKit Go.Shelf Tr Ti

def longL (ls : List Sp) : Bool := decide (120 < ls.length) || ls.any fun s => decide (2000 < s.name.size)
theorem long_no {ls : List Sp} (h : longL ls = false) : ls.length ≤ 120 ∧ ∀ x ∈ ls, x.name.size ≤ 2000 := by
  unfold longL at h
  rw [Bool.or_eq_false_iff, decide_eq_false_iff_not, List.any_eq_false] at h
  refine ⟨by omega, fun x hx => ?_⟩
  have := h.2 x hx
  simp at this
  omega
theorem long_any {n c : Nat} {A : Option Addr} {ls : List Sp} (w : World) (hn : ls.length = n) (h : Sps w w.heap.size A ls) :
    Calls Try.prog 9 #[.slice A n c] w fun e w' => e = .returned (.bool (longL ls)) ∧ w' = w := by
  by_cases hb : 120 < n
  · have hr : longL ls = true := by simp [longL, hn, hb]
    rw [hr]
    have hb' : (120 : Int) < (n : Int) := by omega
    clear hr
    go_enter Try.func9, Try.ntmps9
    go_wp2
    go_ret
    exact ⟨rfl, rfl⟩
  · have hb' : ¬ (120 : Int) < (n : Int) := by omega
    have H := Lib.hid h
    have HN := Lib.hid hn
    have hr : longL ls = ls.any fun s => decide (2000 < s.name.size) := by simp [longL, hn, hb]
    rw [hr]
    clear h hn hr
    go_enter Try.func9, Try.ntmps9
    go_wp2
    go_loopw [3] (fun i wr => ∃ k : Nat, k ≤ n ∧ i = .int .i64 k ∧ wr = w ∧ Hid ((ls.take k).any (fun s => decide (2000 < s.name.size)) = false)) (fun i _ => n - (intOf i).toNat)
    case atStart => exact ⟨0, Nat.zero_le _, rfl, rfl, rfl⟩
    case round =>
      obtain ⟨k, hk, rfl, rfl, HNO⟩ := hrel
      by_cases hlt : k < n
      · have hl : k < ls.length := by have := HN.out; omega
        obtain ⟨g, o, rfl, _, hcell⟩ := H.out (by omega)
        have hc := (hcell k hl).2.1
        have i0 : (0 : Int) ≤ (k : Int) := by omega
        have i1 : (k : Int) < (n : Int) := by omega
        have htk : (ls.take (k + 1)).any (fun s => decide (2000 < s.name.size)) = decide (2000 < (ls[k]).name.size) := by
          rw [List.take_succ_eq_append_getElem hl, List.any_append, HNO.out]; simp
        have hall : ls.any (fun s => decide (2000 < s.name.size)) = ((ls.take (k + 1)).any (fun s => decide (2000 < s.name.size)) || (ls.drop (k + 1)).any (fun s => decide (2000 < s.name.size))) := by rw [← List.any_append, List.take_append_drop]
        generalize ls[k] = x at *
        obtain ⟨x0, x1, x2⟩ := x
        simp only at hc htk
        have HTK := Lib.hid htk
        have HALL := Lib.hid hall
        have hwr : IntKind.i64.wrap ((k : Int) + 1) = ((k + 1 : Nat) : Int) := by rw [IntKind.wrap_i64]; omega
        clear htk hall hl hcell
        by_cases hx : 2000 < x1.size
        · have hx' : (2000 : Int) < (x1.size : Int) := by omega
          go_wp2
          go_ret
          refine ⟨?_, rfl⟩
          rw [HALL.out, HTK.out, decide_eq_true hx]; rfl
        · have hx' : ¬ (2000 : Int) < (x1.size : Int) := by omega
          go_wp2
          go_roundw
          case rel => exact ⟨k + 1, by omega, rfl, trivial, by rw [Hid, HTK.out, decide_eq_false hx]⟩
          case measure => simp [intOf]; omega
      · obtain rfl : k = n := by omega
        have hneg : ¬ ((k : Int) < (k : Int)) := by omega
        have HE : Hid (ls.any (fun s => decide (2000 < s.name.size)) = false) := by
          have := HNO.out
          rwa [List.take_of_length_le (by have := HN.out; omega)] at this
        go_wp2
        go_ret
        exact ⟨by rw [HE.out]; rfl, rfl⟩
end Go.Proofs.Ytpnfkgjcnofjnaa
namespace Go.Proofs.Ytpnfkgjcnofjnaa.Ti
open Go.RowKit Go.Shelf Tr
structure PlS (w wr : World) (b : Nat) (n : No TV) (F : List Nat) (v : Value) (M : List KV) : Prop where
  tm : TM wr b n F
  low : ∀ q ∈ F, w.heap.size ≤ q
  bel : Below w.heap.size w wr
  row : PRow wr w.heap.size v M
  rowF : ∀ q, v.ownBlock = some q → q ∉ F
section
variable {w wr X : World} {b : Nat} {n n' : No TV} {F F' : List Nat} {v v' : Value} {M M' : List KV}
theorem PlS.below {B : Nat} (h : PlS w wr b n F v M) (hb : Below B wr X) (hB : wr.heap.size ≤ B) : PlS w X b n F v M :=
  ⟨h.tm.below hb hB, h.low, h.bel.trans (hb.mono (Nat.le_trans h.bel.size hB)), ownK_below h.row hb hB, h.rowF⟩
theorem PlS.only (h : PlS w wr b n F v M) (ht : TM X b n' F') (hn : New wr F F') (ho : Only F wr X) : PlS w X b n' F' v M :=
  ⟨ht, fun q hq => by
    rcases hn q hq with h1 | h1
    · exact h.low q h1
    · exact Nat.le_trans h.bel.size h1, h.bel.trans (ho.below h.low h.bel.size), ownK_same h.row fun q hq => ho.block q (h.row.lt q hq).2 (h.rowF q hq), fun q hq hm => by
    rcases hn q hm with h1 | h1
    · exact h.rowF q hq h1
    · have := (h.row.lt q hq).2; omega⟩
theorem PlS.next (h : PlS w wr b n F v M) (hb : Below wr.heap.size wr X) (hr : PRow X wr.heap.size v' M') : PlS w X b n F v' M' :=
  ⟨h.tm.below hb (Nat.le_refl _), h.low, h.bel.trans (hb.mono h.bel.size), own_mono hr h.bel.size, fun q hq hm => by
    have h1 := h.tm.node.lt q hm
    have h2 := (hr.lt q hq).1
    omega⟩
theorem PlS.same (h : PlS w wr b n F v M) (e : M = M') : PlS w wr b n F v M' := e ▸ h
end
end Go.Proofs.Ytpnfkgjcnofjnaa.Ti
