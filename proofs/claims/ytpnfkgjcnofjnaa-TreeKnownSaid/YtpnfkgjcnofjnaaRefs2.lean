/- Alike, Under, Join, Wild, text: the document's answers. -/
import Derived.Test.YtpnfkgjcnofjnaaRefs
import Derived.Laws.AppendOwnNone
namespace Go.Proofs.Ytpnfkgjcnofjnaa
open Go.RowKit

section
variable {P : Program} {w : World}
/-- strings that are read are put behind a row. -/
theorem wpList_append_rd {ops : Array Oper} {rest : List Oper} {o : Oper} {a : Act} {Q : Exit → Act → World → Prop} (hgd : o.guard = none) (s x : Operand) (t : TypeId)
    (ho : o.op = .call { callee := .builtin .append, args := #[s, x], argTypes := #[t, t] })
    (base : Nat) (e : TypeId) (i : TypeInfo) (z : Value) (ht : P.underlying t = some (.slice e)) (hi : P.info? e = some i) (hz : i.zero = some z)
    (hsize : i.size = 1) (hby : i.bytes = 16) (hzs : z.cells.size = 1)
    (v : Value) (n : Nat) (xs : List Value) (hs : a.eval s = v) (hown : w.ownsRow base e 1 v n xs)
    (B : Nat) (vs : Value) (ls : List (List UInt8)) (hx : a.eval x = vs) (hr : Rd w B vs ls) (hnil : ls = [] → ∃ A c, vs = .slice A 0 c ∧ (A = none → c = 0))
    (h63 : (n + ls.length) * 16 ≤ 140737488355328) (hbase : base ≤ w.heap.size)
    (h : ∀ v' w', w'.ownsRow base e 1 v' (n + ls.length) (xs ++ svs ls) → w.grownBy w' v.ownBlock → wpList P ops Q rest (a.put o.dst v') w') : wpList P ops Q (o :: rest) a w := by
  obtain ⟨A, c, rfl, hc, hcell⟩ := hr
  rcases A with _ | ad
  · have h0 : ls.length = 0 := by
      rcases Nat.eq_zero_or_pos ls.length with h0 | h0
      · exact h0
      · obtain ⟨g, o, hh, _⟩ := hcell h0; cases hh
    have hl : ls = [] := List.eq_nil_of_length_eq_zero h0
    subst hl
    obtain ⟨A, c', e1, e2⟩ := hnil rfl
    injection e1 with e3 _ e4
    subst e4 e3
    have := e2 rfl
    subst this
    exact wpList_append_own_none hgd s x t ho base e i 1 ht hi v n xs hs hown hx (h _ _ (by simpa [svs] using hown) (World.grownBy.refl w _))
  · refine wpList_append_own w hgd s x t ho base e i z 1 16 ht hi hz hsize hby hzs (by decide) v n xs hs hown ad ls.length c (svs ls) hx (by simp [svs]) ?_ ?_ (by unfold maxLen; omega) h63 hbase (fun v' w' a b _ => h v' w' a b)
    · intro j u hu
      have hj : j < ls.length := by
        have := (List.getElem?_eq_some_iff.1 hu).1
        simpa [svs] using this
      obtain ⟨g, o, hh, _, hce⟩ := hcell (by omega)
      injection hh with hh
      subst hh
      have e1 : (⟨g, o, none⟩ : Addr).add j = ⟨g, o + j, none⟩ := by unfold Addr.add; split <;> simp_all
      rw [e1, hce j hj]
      simp [svs, hj] at hu
      rw [← hu]
    · intro u hu
      simp [svs] at hu
      obtain ⟨l, _, rfl⟩ := hu
      rfl
end
theorem own_nil {w : World} {b n : Nat} {e : TypeId} {v : Value} {ls : List (List UInt8)} (h : w.ownsRow b e 1 v n (svs ls)) (hl : n = ls.length) : ls = [] → ∃ A c, v = .slice A 0 c ∧ (A = none → c = 0) := by
  rintro rfl
  subst hl
  rcases h.2 with ⟨rfl, _⟩ | ⟨g, cap, cur, rfl, _⟩
  · exact ⟨none, 0, rfl, fun _ => rfl⟩
  · exact ⟨_, _, rfl, fun h => by cases h⟩

def joinR (f b : List UInt8) : Value := match Nm.split f, Nm.split b with
  | some x, some y => nameR (x ++ y)
  | _, _ => .tuple #[.string ⟨#[]⟩, .int .i64 11]
theorem any_of_good {ls : List (List UInt8)} (h : Nm.Good ls) : ls.any badL = false := List.any_eq_false.2 fun l hl => by simp [badL, good_true (h l hl)]
theorem good_app {a b : List (List UInt8)} (h : Nm.Good a) (k : Nm.Good b) : Nm.Good (a ++ b) := fun l hl => (List.mem_append.1 hl).elim (h l) (k l)

def OfPost (w : World) (ls : List (List UInt8)) (e : Ending) (w' : World) : Prop := ∃ x y, e = .returned (.tuple #[x, y]) ∧ ofR ls = .tuple #[x, y] ∧ Below w.heap.size w w'
theorem ofR_form (ls : List (List UInt8)) : ∃ x y, ofR ls = .tuple #[x, y] := by
  unfold ofR nameR
  split
  · exact ⟨_, _, rfl⟩
  · split <;> exact ⟨_, _, rfl⟩
theorem Alike_any (a b : ByteArray) (w : World) (ha : a.size ≤ 140737488355328) (hb : b.size ≤ 140737488355328) :
    Calls Try.prog 59 #[.string a, .string b] w fun e w' => e = .returned (.bool (Nm.fold a.data.toList == Nm.fold b.data.toList)) ∧ Below w.heap.size w w' := by
  have HA := Lib.hid (refFold_any a w ha)
  have HB := Lib.hid (fun w => refFold_any b w hb)
  generalize Nm.fold a.data.toList = x at *
  generalize Nm.fold b.data.toList = y at *
  go_enter Try.func59, Try.ntmps59
  go_wp2_with (first | (go_at_call_of 23 (Value.string a); refine HA.out.mono ?_; rintro e w1 ⟨rfl, hb1⟩) | (go_at_call_of 23 (Value.string b); refine (HB.out _).mono ?_; rintro e w2 ⟨rfl, hb2⟩))
  go_ret
  exact ⟨rfl, hb1.trans (hb2.mono hb1.size)⟩

end Go.Proofs.Ytpnfkgjcnofjnaa
