/- Texts of the proofs, merged. -/
import Derived.Test.YtopcklpmeaghmaaGreatDoorG3
import Derived.RegionTactic
import Derived.ChangeAlike
import Derived.BigRegion
import Derived.Test.YtopcklpmeaghmaaGreatDoorG9
import Derived.Test.YtopcklpmeaghmaaGreatDoorG5
import Derived.Test.YtopcklpmeaghmaaGreatDoorG11
import Derived.Laws.AppendOwnNone
/- Glue, Of, Labels: the document's answers that make names of labels. -/
namespace Go.Proofs.YtopcklpmeaghmaaGreatDoor
open Go.RowKit

theorem body_snoc (a : List (List UInt8)) (l : List UInt8) : Nm.body (a ++ [l]) = Nm.body a ++ Nm.lab l := by rw [Nm.body_append]; simp [Nm.body]

theorem body_len {ls : List (List UInt8)} (h : ∀ l ∈ ls, l.length ≤ 255) : (Nm.body ls).length ≤ 256 * ls.length := by
  induction ls with
  | nil => simp [Nm.body]
  | cons a ls ih =>
    have := ih (fun x hx => h x (by simp [hx]))
    have := h a (by simp)
    rw [Nm.body_cons, List.length_append, Nm.lab_length, List.length_cons]; omega

end Go.Proofs.YtopcklpmeaghmaaGreatDoor
/- Of, Labels, Parent, Last, Under, Join, Wild: the document's answers. -/
namespace Go.Proofs.YtopcklpmeaghmaaGreatDoor
open Go.RowKit

theorem any_take_false {ls : List (List UInt8)} {k : Nat} (h : (ls.take k).any badL = false) (hk : k < ls.length) (hg : 1 ≤ ls[k].length ∧ ls[k].length ≤ 63) : (ls.take (k + 1)).any badL = false := by
  rw [List.take_succ_eq_append_getElem hk, List.any_append, h]; simp [badL, good_true hg]
theorem any_bad {ls : List (List UInt8)} {k : Nat} (hk : k < ls.length) (hg : ¬ (1 ≤ ls[k].length ∧ ls[k].length ≤ 63)) : ls.any badL = true :=
  List.any_eq_true.2 ⟨_, List.getElem_mem hk, by simp [badL, good_false hg]⟩
theorem good_of_any {ls : List (List UInt8)} (h : ls.any badL = false) : Nm.Good ls := fun l hl => by
  by_cases hg : 1 ≤ l.length ∧ l.length ≤ 63
  · exact hg
  · have hb : badL l = true := by simp [badL, good_false hg]
    rw [List.any_eq_true.2 ⟨l, hl, hb⟩] at h
    cases h
theorem ofR_ok {ls : List (List UInt8)} (h : ls.any badL = false) : ofR ls = nameR ls := by unfold ofR; rw [h]; rfl
theorem nameR_long {ls : List (List UInt8)} (h : 255 < (Nm.body ls).length + 1) : nameR ls = .tuple #[.string ⟨#[]⟩, .int .i64 2] := by unfold nameR; rw [if_pos h]
theorem nameR_short {ls : List (List UInt8)} (h : ¬ 255 < (Nm.body ls).length + 1) : nameR ls = .tuple #[sv (Nm.glue ls), .int .i64 0] := by unfold nameR; rw [if_neg h]
theorem body_mono {ls : List (List UInt8)} (k : Nat) : (Nm.body (ls.take k)).length ≤ (Nm.body ls).length := Nm.body_take_le

theorem own_drop {w : World} {b n g c m : Nat} {e : TypeId} {ls : List (List UInt8)} (h : w.ownsRow b e 1 (.slice (some ⟨g, 0, none⟩) n c) n (svs ls)) (hn : n = ls.length) (hm : m ≤ n) :
    Rd w w.heap.size (.slice (some ⟨g, m, none⟩) (n - m) (c - m)) (ls.drop m) ∧ (c = m → Rd w w.heap.size (.slice (some ⟨g, 0, none⟩) (n - m) 0) (ls.drop m)) := by
  subst hn
  have hg : g < w.heap.size := (h.lt g rfl).2
  have hc : ls.length ≤ c := by
    rcases h.2 with ⟨hv, _⟩ | ⟨g', cap, cur, hv, _, _, hc, _⟩
    · simp at hv
    · injection hv with _ _ h3; omega
  constructor
  · refine ⟨_, _, by rw [List.length_drop], by rw [List.length_drop]; omega, fun _ => ⟨g, m, rfl, hg, fun j hj => ?_⟩⟩
    rw [List.length_drop] at hj
    exact own_cells h (m + j) _ (by simp [svs, show m + j < ls.length by omega])
  · intro he
    refine ⟨_, _, by rw [List.length_drop], by rw [List.length_drop]; omega, fun h0 => ?_⟩
    rw [List.length_drop] at h0; omega

theorem own_cut {w : World} {b n c d m : Nat} {e : TypeId} {ad : Option Addr} {ls : List (List UInt8)} (h : w.ownsRow b e 1 (.slice ad n c) n (svs ls)) (hl : ls.length = n) (hn : n = d + m) :
    Rd w w.heap.size (.slice (ad.map (·.add d)) m (c - d)) (ls.drop d) ∧ (c = d → Rd w w.heap.size (.slice ad m 0) (ls.drop d)) := by
  subst hl
  have hdl : (ls.drop d).length = m := by rw [List.length_drop]; omega
  rcases Nat.eq_zero_or_pos ls.length with h0 | h0
  · have hm : m = 0 := by omega
    subst hm
    exact ⟨⟨_, _, by rw [hdl], by omega, fun h => by omega⟩, fun _ => ⟨_, _, by rw [hdl], by omega, fun h => by omega⟩⟩
  · obtain ⟨g, rfl, hc, _⟩ := own_at h h0
    have h1 := own_drop h rfl (m := d) (by omega)
    have e : ls.length - d = m := by omega
    rw [e] at h1
    refine ⟨?_, h1.2⟩
    have : (⟨g, 0, none⟩ : Addr).add d = ⟨g, d, none⟩ := by unfold Addr.add; split <;> simp_all
    simp only [Option.map_some, this]
    exact h1.1

abbrev yes_ (l : List UInt8) : Value := .tuple #[sv l, .bool true]
abbrev no_ : Value := .tuple #[.string ⟨#[]⟩, .bool false]
/-- the last k labels, if there are so many. -/
def lastR (l : List UInt8) (k : Int) : Value := match Nm.split l with
  | none => no_
  | some ls => if k < 0 ∨ (ls.length : Int) < k then no_ else yes_ (Nm.glue (ls.drop (ls.length - k.toNat)))
def parentR (l : List UInt8) : Value := match labelsOf l with
  | [] => no_
  | _ :: r => yes_ (Nm.glue r)

end Go.Proofs.YtopcklpmeaghmaaGreatDoor
/- Alike, Under, Join, Wild, text: the document's answers. -/
namespace Go.Proofs.YtopcklpmeaghmaaGreatDoor
open Go.RowKit

section
variable {P : Program} {w : World}
/-- strings that are read are put behind a row. -/
theorem wpList_append_rd {ops : Array Oper} {rest : List Oper} {o : Oper} {a : Act} {Q : Exit → Act → World → Prop} (hgd : o.guard = none) (s x : Operand) (t : TypeId)
    (ho : o.op = .call { callee := .builtin .append, args := #[s, x], argTypes := #[t, t] })
    (base : Nat) (e : TypeId) (i : TypeInfo) (z : Value) (ht : P.underlying t = some (.slice e)) (hi : P.info? e = some i) (hz : i.zero = some z)
    (hsize : i.size = 1) (hby : i.bytes = 16) (hzs : z.cells.size = 1)
    (v : Value) (n : Nat) (xs : List Value) (hs : a.eval s = v) (hown : w.ownsRow base e 1 v n xs)
    (B : Nat) (vs : Value) (ls : List (List UInt8)) (hx : a.eval x = vs) (hr : Rd w B vs ls) (hnil : ls = [] → ∃ A c, vs = .slice A 0 c ∧ (A = none → c = 0))
    (h63 : (n + ls.length) * 16 ≤ 140737488355328) (hbase : base ≤ w.heap.size)
    (h : ∀ v' w', w'.ownsRow base e 1 v' (n + ls.length) (xs ++ svs ls) → w.grownBy w' v.ownBlock → wpList P ops Q rest (a.put o.dst v') w') : wpList P ops Q (o :: rest) a w := by
  obtain ⟨A, c, rfl, hc, hcell⟩ := hr
  rcases A with _ | ad
  · have h0 : ls.length = 0 := by
      rcases Nat.eq_zero_or_pos ls.length with h0 | h0
      · exact h0
      · obtain ⟨g, o, hh, _⟩ := hcell h0; cases hh
    have hl : ls = [] := List.eq_nil_of_length_eq_zero h0
    subst hl
    obtain ⟨A, c', e1, e2⟩ := hnil rfl
    injection e1 with e3 _ e4
    subst e4 e3
    have := e2 rfl
    subst this
    exact wpList_append_own_none hgd s x t ho base e i 1 ht hi v n xs hs hown hx (h _ _ (by simpa [svs] using hown) (World.grownBy.refl w _))
  · refine wpList_append_own w hgd s x t ho base e i z 1 16 ht hi hz hsize hby hzs (by decide) v n xs hs hown ad ls.length c (svs ls) hx (by simp [svs]) ?_ ?_ (by unfold maxLen; omega) h63 hbase (fun v' w' a b _ => h v' w' a b)
    · intro j u hu
      have hj : j < ls.length := by
        have := (List.getElem?_eq_some_iff.1 hu).1
        simpa [svs] using this
      obtain ⟨g, o, hh, _, hce⟩ := hcell (by omega)
      injection hh with hh
      subst hh
      have e1 : (⟨g, o, none⟩ : Addr).add j = ⟨g, o + j, none⟩ := by unfold Addr.add; split <;> simp_all
      rw [e1, hce j hj]
      simp [svs, hj] at hu
      rw [← hu]
    · intro u hu
      simp [svs] at hu
      obtain ⟨l, _, rfl⟩ := hu
      rfl
end
theorem own_nil {w : World} {b n : Nat} {e : TypeId} {v : Value} {ls : List (List UInt8)} (h : w.ownsRow b e 1 v n (svs ls)) (hl : n = ls.length) : ls = [] → ∃ A c, v = .slice A 0 c ∧ (A = none → c = 0) := by
  rintro rfl
  subst hl
  rcases h.2 with ⟨rfl, _⟩ | ⟨g, cap, cur, rfl, _⟩
  · exact ⟨none, 0, rfl, fun _ => rfl⟩
  · exact ⟨_, _, rfl, fun h => by cases h⟩

def joinR (f b : List UInt8) : Value := match Nm.split f, Nm.split b with
  | some x, some y => nameR (x ++ y)
  | _, _ => .tuple #[.string ⟨#[]⟩, .int .i64 11]
theorem any_of_good {ls : List (List UInt8)} (h : Nm.Good ls) : ls.any badL = false := List.any_eq_false.2 fun l hl => by simp [badL, good_true (h l hl)]
theorem good_app {a b : List (List UInt8)} (h : Nm.Good a) (k : Nm.Good b) : Nm.Good (a ++ b) := fun l hl => (List.mem_append.1 hl).elim (h l) (k l)

def OfPost (w : World) (ls : List (List UInt8)) (e : Ending) (w' : World) : Prop := ∃ x y, e = .returned (.tuple #[x, y]) ∧ ofR ls = .tuple #[x, y] ∧ Below w.heap.size w w'
theorem ofR_form (ls : List (List UInt8)) : ∃ x y, ofR ls = .tuple #[x, y] := by
  unfold ofR nameR
  split
  · exact ⟨_, _, rfl⟩
  · split <;> exact ⟨_, _, rfl⟩
end Go.Proofs.YtopcklpmeaghmaaGreatDoor
