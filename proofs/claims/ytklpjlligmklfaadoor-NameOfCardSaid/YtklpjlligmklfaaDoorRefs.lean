/- Of, Labels, Parent, Last, Under, Join, Wild: the document's answers. -/
import Derived.Test.YtklpjlligmklfaaDoorGlue
import Derived.Test.YtklpjlligmklfaaDoorOf
import Derived.Test.YtklpjlligmklfaaDoorFold
import Derived.Test.YtklpjlligmklfaaDoorEscape
namespace Go.Proofs.YtklpjlligmklfaaDoor
open Go.RowKit

theorem any_take_false {ls : List (List UInt8)} {k : Nat} (h : (ls.take k).any badL = false) (hk : k < ls.length) (hg : 1 ≤ ls[k].length ∧ ls[k].length ≤ 63) : (ls.take (k + 1)).any badL = false := by
  rw [List.take_succ_eq_append_getElem hk, List.any_append, h]; simp [badL, good_true hg]
theorem any_bad {ls : List (List UInt8)} {k : Nat} (hk : k < ls.length) (hg : ¬ (1 ≤ ls[k].length ∧ ls[k].length ≤ 63)) : ls.any badL = true :=
  List.any_eq_true.2 ⟨_, List.getElem_mem hk, by simp [badL, good_false hg]⟩
theorem good_of_any {ls : List (List UInt8)} (h : ls.any badL = false) : Nm.Good ls := fun l hl => by
  by_cases hg : 1 ≤ l.length ∧ l.length ≤ 63
  · exact hg
  · have hb : badL l = true := by simp [badL, good_false hg]
    rw [List.any_eq_true.2 ⟨l, hl, hb⟩] at h
    cases h
theorem ofR_ok {ls : List (List UInt8)} (h : ls.any badL = false) : ofR ls = nameR ls := by unfold ofR; rw [h]; rfl
theorem nameR_long {ls : List (List UInt8)} (h : 255 < (Nm.body ls).length + 1) : nameR ls = .tuple #[.string ⟨#[]⟩, .int .i64 2] := by unfold nameR; rw [if_pos h]
theorem nameR_short {ls : List (List UInt8)} (h : ¬ 255 < (Nm.body ls).length + 1) : nameR ls = .tuple #[sv (Nm.glue ls), .int .i64 0] := by unfold nameR; rw [if_neg h]
theorem body_mono {ls : List (List UInt8)} (k : Nat) : (Nm.body (ls.take k)).length ≤ (Nm.body ls).length := Nm.body_take_le

set_option maxHeartbeats 1000000 in
set_option maxRecDepth 100000 in
theorem refOf_any (B : Nat) (v : Value) (ls : List (List UInt8)) (w : World) (hr : Rd w B v ls) (hB : B ≤ w.heap.size) (hl : ls.length ≤ 140737488355328) (hm : ∀ l ∈ ls, l.length ≤ 140737488355328) :
    Calls Tryd.prog 5 #[v] w fun e w' => e = .returned (ofR ls) ∧ Below w.heap.size w w' := by
  have HR := Lib.hid hr
  obtain ⟨A, c, rfl, _, ra⟩ := hr
  have RA := Lib.hid ra
  have HM := Lib.hid hm
  clear ra hm
  go_enter Tryd.func5, Tryd.ntmps5
  go_wp2
  go_loopw [5] (fun i wr => ∃ k : Nat, i = .int .i64 k ∧ k ≤ ls.length ∧ (ls.take k).any badL = false ∧ w = wr) (fun i _ => ls.length - (intOf i).toNat)
  case atStart => exact ⟨0, rfl, Nat.zero_le _, rfl, rfl⟩
  case round =>
    obtain ⟨k, rfl, hk, hgood, rfl⟩ := hrel
    have HG := Lib.hid hgood
    clear hgood
    by_cases hlt : k < ls.length
    · obtain ⟨g, o, rfl, hg, ca⟩ := RA.out (by omega)
      have hc := ca k hlt
      have hml := HM.out ls[k] (List.getElem_mem hlt)
      have HGS := Lib.hid (any_take_false HG.out hlt)
      have HGN := Lib.hid (@any_bad ls k hlt)
      clear ca
      generalize ls[k] = l at *
      by_cases h1 : l.length < 1
      · have HE : Hid (ofR ls = .tuple #[.string ⟨#[]⟩, .int .i64 10]) := by rw [Hid, ofR, if_pos (HGN.out (by omega))]
        go_wp2
        go_ret2
        exact ⟨by rw [HE.out]; rfl, Below.refl _ _⟩
      · by_cases h2 : 63 < l.length
        · have HE : Hid (ofR ls = .tuple #[.string ⟨#[]⟩, .int .i64 10]) := by rw [Hid, ofR, if_pos (HGN.out (by omega))]
          go_wp2
          go_ret2
          exact ⟨by rw [HE.out]; rfl, Below.refl _ _⟩
        · go_wp2
          go_roundw
          case rel => exact ⟨k + 1, by go_num, by omega, HGS.out (by omega), trivial⟩
          case measure => simp [intOf]; omega
    · obtain rfl : k = ls.length := by omega
      have HGO : Hid (ls.any badL = false) := by have := HG.out; rwa [List.take_length] at this
      have HGG := Lib.hid (good_of_any HGO.out)
      clear HG
      go_wp2
      go_loopw [4, 6] (fun n i wr => ∃ k : Nat, i = .int .i64 k ∧ k ≤ ls.length ∧ n = .int .i64 ((Nm.body (ls.take k)).length + 1 : Nat) ∧ (Nm.body (ls.take k)).length + 1 ≤ 255 ∧ w = wr) (fun _ i _ => ls.length - (intOf i).toNat)
      case atStart => exact ⟨0, rfl, Nat.zero_le _, rfl, by simp [Nm.body], rfl⟩
      case round =>
        obtain ⟨k, rfl, hk, rfl, hle, rfl⟩ := hrel
        by_cases hlt : k < ls.length
        · obtain ⟨g, o, rfl, hg, ca⟩ := RA.out (by omega)
          have hc := ca k hlt
          have hgl := HGG.out ls[k] (List.getElem_mem hlt)
          have hts := Nm.take_succ_body hlt
          have hbm := @body_mono ls (k + 1)
          have HTS := Lib.hid hts
          clear ca
          have hlo : 255 < (Nm.body (ls.take k)).length + 1 + (1 + ls[k].length) → ofR ls = .tuple #[.string ⟨#[]⟩, .int .i64 2] := fun h => by
            rw [ofR_ok HGO.out, nameR_long (by omega)]
          have HLO := Lib.hid hlo
          clear hts hbm hlo
          generalize ls[k] = l at *
          generalize (Nm.body (ls.take k)).length = b at *
          by_cases hbig : 255 < b + 1 + (1 + l.length)
          · have HE := Lib.hid (HLO.out hbig)
            go_wp2
            go_ret2
            exact ⟨by rw [HE.out]; rfl, Below.refl _ _⟩
          · go_wp2
            go_roundw
            case rel => exact ⟨k + 1, by go_num, by omega, by rw [HTS.out]; go_num, by rw [HTS.out]; omega, trivial⟩
            case measure => simp [intOf]; omega
        · obtain rfl : k = ls.length := by omega
          have hle2 : (Nm.body ls).length + 1 ≤ 255 := by rwa [List.take_length] at hle
          have HE : Hid (ofR ls = .tuple #[sv (Nm.glue ls), .int .i64 0]) := by rw [Hid, ofR_ok HGO.out, nameR_short (by omega)]
          have HC := Lib.hid (Glue_any B _ ls w HR.out hB hl (fun l hl => by have := HGG.out l hl; omega))
          go_wp2_with (first | (go_at_call 12; refine HC.out.mono ?_; rintro e w1 ⟨rfl, hb1⟩))
          go_ret2
          exact ⟨by rw [HE.out]; rfl, hb1⟩

theorem own_drop {w : World} {b n g c m : Nat} {e : TypeId} {ls : List (List UInt8)} (h : w.ownsRow b e 1 (.slice (some ⟨g, 0, none⟩) n c) n (svs ls)) (hn : n = ls.length) (hm : m ≤ n) :
    Rd w w.heap.size (.slice (some ⟨g, m, none⟩) (n - m) (c - m)) (ls.drop m) ∧ (c = m → Rd w w.heap.size (.slice (some ⟨g, 0, none⟩) (n - m) 0) (ls.drop m)) := by
  subst hn
  have hg : g < w.heap.size := (h.lt g rfl).2
  have hc : ls.length ≤ c := by
    rcases h.2 with ⟨hv, _⟩ | ⟨g', cap, cur, hv, _, _, hc, _⟩
    · simp at hv
    · injection hv with _ _ h3; omega
  constructor
  · refine ⟨_, _, by rw [List.length_drop], by rw [List.length_drop]; omega, fun _ => ⟨g, m, rfl, hg, fun j hj => ?_⟩⟩
    rw [List.length_drop] at hj
    exact own_cells h (m + j) _ (by simp [svs, show m + j < ls.length by omega])
  · intro he
    refine ⟨_, _, by rw [List.length_drop], by rw [List.length_drop]; omega, fun h0 => ?_⟩
    rw [List.length_drop] at h0; omega

theorem own_cut {w : World} {b n c d m : Nat} {e : TypeId} {ad : Option Addr} {ls : List (List UInt8)} (h : w.ownsRow b e 1 (.slice ad n c) n (svs ls)) (hl : ls.length = n) (hn : n = d + m) :
    Rd w w.heap.size (.slice (ad.map (·.add d)) m (c - d)) (ls.drop d) ∧ (c = d → Rd w w.heap.size (.slice ad m 0) (ls.drop d)) := by
  subst hl
  have hdl : (ls.drop d).length = m := by rw [List.length_drop]; omega
  rcases Nat.eq_zero_or_pos ls.length with h0 | h0
  · have hm : m = 0 := by omega
    subst hm
    exact ⟨⟨_, _, by rw [hdl], by omega, fun h => by omega⟩, fun _ => ⟨_, _, by rw [hdl], by omega, fun h => by omega⟩⟩
  · obtain ⟨g, rfl, hc, _⟩ := own_at h h0
    have h1 := own_drop h rfl (m := d) (by omega)
    have e : ls.length - d = m := by omega
    rw [e] at h1
    refine ⟨?_, h1.2⟩
    have : (⟨g, 0, none⟩ : Addr).add d = ⟨g, d, none⟩ := by unfold Addr.add; split <;> simp_all
    simp only [Option.map_some, this]
    exact h1.1

abbrev yes_ (l : List UInt8) : Value := .tuple #[sv l, .bool true]
abbrev no_ : Value := .tuple #[.string ⟨#[]⟩, .bool false]
/-- the last k labels, if there are so many. -/
def lastR (l : List UInt8) (k : Int) : Value := match Nm.split l with
  | none => no_
  | some ls => if k < 0 ∨ (ls.length : Int) < k then no_ else yes_ (Nm.glue (ls.drop (ls.length - k.toNat)))
def parentR (l : List UInt8) : Value := match labelsOf l with
  | [] => no_
  | _ :: r => yes_ (Nm.glue r)

end Go.Proofs.YtklpjlligmklfaaDoor
