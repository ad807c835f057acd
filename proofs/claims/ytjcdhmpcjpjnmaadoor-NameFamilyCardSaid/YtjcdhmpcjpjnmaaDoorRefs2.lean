/- Alike, Under, Join, Wild, text: the document's answers. -/
import Derived.Test.YtjcdhmpcjpjnmaaDoorRefs
import Derived.Laws.AppendOwnNone
namespace Go.Proofs.YtjcdhmpcjpjnmaaDoor
open Go.RowKit

section
variable {P : Program} {w : World}
/-- strings that are read are put behind a row. -/
theorem wpList_append_rd {ops : Array Oper} {rest : List Oper} {o : Oper} {a : Act} {Q : Exit → Act → World → Prop} (hgd : o.guard = none) (s x : Operand) (t : TypeId)
    (ho : o.op = .call { callee := .builtin .append, args := #[s, x], argTypes := #[t, t] })
    (base : Nat) (e : TypeId) (i : TypeInfo) (z : Value) (ht : P.underlying t = some (.slice e)) (hi : P.info? e = some i) (hz : i.zero = some z)
    (hsize : i.size = 1) (hby : i.bytes = 16) (hzs : z.cells.size = 1)
    (v : Value) (n : Nat) (xs : List Value) (hs : a.eval s = v) (hown : w.ownsRow base e 1 v n xs)
    (B : Nat) (vs : Value) (ls : List (List UInt8)) (hx : a.eval x = vs) (hr : Rd w B vs ls) (hnil : ls = [] → ∃ A c, vs = .slice A 0 c ∧ (A = none → c = 0))
    (h63 : (n + ls.length) * 16 ≤ 140737488355328) (hbase : base ≤ w.heap.size)
    (h : ∀ v' w', w'.ownsRow base e 1 v' (n + ls.length) (xs ++ svs ls) → w.grownBy w' v.ownBlock → wpList P ops Q rest (a.put o.dst v') w') : wpList P ops Q (o :: rest) a w := by
  obtain ⟨A, c, rfl, hc, hcell⟩ := hr
  rcases A with _ | ad
  · have h0 : ls.length = 0 := by
      rcases Nat.eq_zero_or_pos ls.length with h0 | h0
      · exact h0
      · obtain ⟨g, o, hh, _⟩ := hcell h0; cases hh
    have hl : ls = [] := List.eq_nil_of_length_eq_zero h0
    subst hl
    obtain ⟨A, c', e1, e2⟩ := hnil rfl
    injection e1 with e3 _ e4
    subst e4 e3
    have := e2 rfl
    subst this
    exact wpList_append_own_none hgd s x t ho base e i 1 ht hi v n xs hs hown hx (h _ _ (by simpa [svs] using hown) (World.grownBy.refl w _))
  · refine wpList_append_own w hgd s x t ho base e i z 1 16 ht hi hz hsize hby hzs (by decide) v n xs hs hown ad ls.length c (svs ls) hx (by simp [svs]) ?_ ?_ (by unfold maxLen; omega) h63 hbase (fun v' w' a b _ => h v' w' a b)
    · intro j u hu
      have hj : j < ls.length := by
        have := (List.getElem?_eq_some_iff.1 hu).1
        simpa [svs] using this
      obtain ⟨g, o, hh, _, hce⟩ := hcell (by omega)
      injection hh with hh
      subst hh
      have e1 : (⟨g, o, none⟩ : Addr).add j = ⟨g, o + j, none⟩ := by unfold Addr.add; split <;> simp_all
      rw [e1, hce j hj]
      simp [svs, hj] at hu
      rw [← hu]
    · intro u hu
      simp [svs] at hu
      obtain ⟨l, _, rfl⟩ := hu
      rfl
end
theorem own_nil {w : World} {b n : Nat} {e : TypeId} {v : Value} {ls : List (List UInt8)} (h : w.ownsRow b e 1 v n (svs ls)) (hl : n = ls.length) : ls = [] → ∃ A c, v = .slice A 0 c ∧ (A = none → c = 0) := by
  rintro rfl
  subst hl
  rcases h.2 with ⟨rfl, _⟩ | ⟨g, cap, cur, rfl, _⟩
  · exact ⟨none, 0, rfl, fun _ => rfl⟩
  · exact ⟨_, _, rfl, fun h => by cases h⟩

def joinR (f b : List UInt8) : Value := match Nm.split f, Nm.split b with
  | some x, some y => nameR (x ++ y)
  | _, _ => .tuple #[.string ⟨#[]⟩, .int .i64 11]
theorem any_of_good {ls : List (List UInt8)} (h : Nm.Good ls) : ls.any badL = false := List.any_eq_false.2 fun l hl => by simp [badL, good_true (h l hl)]
theorem good_app {a b : List (List UInt8)} (h : Nm.Good a) (k : Nm.Good b) : Nm.Good (a ++ b) := fun l hl => (List.mem_append.1 hl).elim (h l) (k l)

def OfPost (w : World) (ls : List (List UInt8)) (e : Ending) (w' : World) : Prop := ∃ x y, e = .returned (.tuple #[x, y]) ∧ ofR ls = .tuple #[x, y] ∧ Below w.heap.size w w'
theorem ofR_form (ls : List (List UInt8)) : ∃ x y, ofR ls = .tuple #[x, y] := by
  unfold ofR nameR
  split
  · exact ⟨_, _, rfl⟩
  · split <;> exact ⟨_, _, rfl⟩
theorem refOf_post (B : Nat) (v : Value) (ls : List (List UInt8)) (w : World) (hr : Rd w B v ls) (hB : B ≤ w.heap.size) (hl : ls.length ≤ 140737488355328) (hm : ∀ l ∈ ls, l.length ≤ 140737488355328) :
    Calls Tryd.prog 22 #[v] w (OfPost w ls) := by
  obtain ⟨x, y, he⟩ := ofR_form ls
  exact (refOf_any B v ls w hr hB hl hm).mono fun _ _ ⟨a, b⟩ => ⟨x, y, by rw [a, he], he, b⟩

set_option maxHeartbeats 1000000 in
set_option maxRecDepth 100000 in
theorem refJoin_any (f b : ByteArray) (w : World) (hf : f.size ≤ 140737488355328) (hb : b.size ≤ 140737488355328) :
    Calls Tryd.prog 30 #[.string f, .string b] w fun e w' => e = .returned (joinR f.data.toList b.data.toList) ∧ Below w.heap.size w w' := by
  obtain ⟨i0, hi, hz0, hz1, hz2⟩ := info_parts Tryd.infoString
  have HF := Lib.hid (Split_any f w hf)
  have HB := Lib.hid (fun w => Split_any b w hb)
  rcases hn : Nm.split f.data.toList with _ | x
  · have HJ : Hid (joinR f.data.toList b.data.toList = .tuple #[.string ⟨#[]⟩, .int .i64 11]) := by unfold joinR; rw [hn]; rfl
    rw [hn] at HF
    clear hn
    rcases hn2 : Nm.split b.data.toList with _ | y
    · rw [hn2] at HB
      clear hn2
      go_enter Tryd.func30, Tryd.ntmps30
      go_wp2_with (first
        | (go_at_call_of 13 (Value.string f); refine HF.out.mono ?_; rintro e w1 ⟨v1, hb1, rfl⟩; have B1 := Lib.hid hb1; clear hb1)
        | (go_at_call_of 13 (Value.string b); refine (HB.out _).mono ?_; rintro e w2 ⟨v2, hb2, rfl⟩; have B2 := Lib.hid (B1.out.trans (hb2.mono B1.out.size)); have B12 := Lib.hid hb2; clear hb2))
      go_ret2
      exact ⟨by rw [HJ.out]; rfl, B2.out⟩
    · rw [hn2] at HB
      clear hn2
      go_enter Tryd.func30, Tryd.ntmps30
      go_wp2_with (first
        | (go_at_call_of 13 (Value.string f); refine HF.out.mono ?_; rintro e w1 ⟨v1, hb1, rfl⟩; have B1 := Lib.hid hb1; clear hb1)
        | (go_at_call_of 13 (Value.string b); refine (HB.out _).mono ?_; rintro e w2 ⟨v2, hb2, rfl, hown2⟩; have B2 := Lib.hid (B1.out.trans (hb2.mono B1.out.size)); have B12 := Lib.hid hb2; obtain ⟨ad2, cp2, rfl⟩ := own_form hown2; have O2 := Lib.hid hown2; clear hb2 hown2))
      go_ret2
      exact ⟨by rw [HJ.out]; rfl, B2.out⟩
  · rcases hn2 : Nm.split b.data.toList with _ | y
    · have HJ : Hid (joinR f.data.toList b.data.toList = .tuple #[.string ⟨#[]⟩, .int .i64 11]) := by unfold joinR; rw [hn, hn2]; rfl
      rw [hn] at HF
      rw [hn2] at HB
      clear hn hn2
      go_enter Tryd.func30, Tryd.ntmps30
      go_wp2_with (first
        | (go_at_call_of 13 (Value.string f); refine HF.out.mono ?_; rintro e w1 ⟨v1, hb1, rfl, hown1⟩; have B1 := Lib.hid hb1; obtain ⟨ad1, cp1, rfl⟩ := own_form hown1; have O1 := Lib.hid hown1; clear hb1 hown1)
        | (go_at_call_of 13 (Value.string b); refine (HB.out _).mono ?_; rintro e w2 ⟨v2, hb2, rfl⟩; have B2 := Lib.hid (B1.out.trans (hb2.mono B1.out.size)); have B12 := Lib.hid hb2; clear hb2))
      go_ret2
      exact ⟨by rw [HJ.out]; rfl, B2.out⟩
    · have HJ : Hid (joinR f.data.toList b.data.toList = nameR (x ++ y)) := by unfold joinR; rw [hn, hn2]; rfl
      have hgx := (Nm.split_some.1 hn).2.1
      have hgy := (Nm.split_some.1 hn2).2.1
      have hxl := few hn
      have hyl := few hn2
      have HOF : Hid (ofR (x ++ y) = nameR (x ++ y)) := ofR_ok (any_of_good (good_app hgx hgy))
      have HGM : Hid (∀ l ∈ x ++ y, l.length ≤ 140737488355328) := fun l hl => by have := good_app hgx hgy l hl; omega
      rw [hn] at HF
      rw [hn2] at HB
      clear hn hn2 hgx hgy
      go_enter Tryd.func30, Tryd.ntmps30
      go_wp2_with (first
        | (go_at_call_of 13 (Value.string f); refine HF.out.mono ?_; rintro e w1 ⟨v1, hb1, rfl, hown1⟩; have B1 := Lib.hid hb1; obtain ⟨ad1, cp1, rfl⟩ := own_form hown1; have O1 := Lib.hid hown1; clear hb1 hown1)
        | (go_at_call_of 13 (Value.string b); refine (HB.out _).mono ?_; rintro e w2 ⟨v2, hb2, rfl, hown2⟩; have B2 := Lib.hid (B1.out.trans (hb2.mono B1.out.size)); have B12 := Lib.hid hb2; obtain ⟨ad2, cp2, rfl⟩ := own_form hown2; have O2 := Lib.hid hown2; clear hb2 hown2)
        | (at_builtin
           refine wpList_append_rd rfl (.const (.slice none 0 0)) (.tmp 26) 23 rfl w.heap.size 9 i0 _ Tryd.underlying23 hi hz0 hz1 hz2 rfl (.slice none 0 0) 0 [] rfl (World.ownsRow_nil _ _ _ _) _ _ x rfl ((Rd.of_own O1.out).keep B12.out) (own_nil O1.out rfl) (by omega) B2.out.size ?_
           intro v3 w3 hown3 hg3
           rw [Nat.zero_add, List.nil_append] at hown3
           have B3 := Lib.hid (B2.out.grown hg3 B2.out.size (by simp [Value.ownBlock]))
           have B23 := Lib.hid ((Below.refl w2.heap.size w2).grown hg3 (Nat.le_refl _) (by simp [Value.ownBlock]))
           obtain ⟨ad3, cp3, rfl⟩ := own_form hown3
           have O3 := Lib.hid hown3
           clear hown3 hg3)
        | (at_builtin
           refine wpList_append_rd rfl (.tmp 27) (.tmp 28) 23 rfl w.heap.size 9 i0 _ Tryd.underlying23 hi hz0 hz1 hz2 rfl _ _ _ rfl O3.out _ _ y rfl ((Rd.of_own O2.out).keep B23.out) (own_nil O2.out rfl) (by omega) B3.out.size ?_
           intro v4 w4 hown4 hg4
           have B4 := Lib.hid (B3.out.grown hg4 B3.out.size (fun j hj => (O3.out.lt j hj).1))
           have R4 : Rd w4 w4.heap.size v4 (x ++ y) := Rd.of_own (by have := hown4; rw [← svs_append, ← List.length_append] at this; exact this)
           have HR4 := Lib.hid R4
           clear R4 hown4 hg4)
        | (go_at_call 22; refine (refOf_post _ _ (x ++ y) _ HR4.out (Nat.le_refl _) (by rw [List.length_append]; omega) HGM.out).mono ?_; rintro e w5 ⟨rx, ry, rfl, hof, hb5⟩; have HO5 := Lib.hid hof; have B5 := Lib.hid (B4.out.trans (hb5.mono B4.out.size)); clear hof hb5))
      go_ret2
      exact ⟨by rw [HJ.out, ← HOF.out, HO5.out]; rfl, B5.out⟩

theorem refWild_any (s : ByteArray) (w : World) (hs : s.size ≤ 140737488355328) :
    Calls Tryd.prog 32 #[.string s] w fun e w' => e = .returned (joinR [1, 42, 0] s.data.toList) ∧ Below w.heap.size w w' := by
  have hform : ∃ x y, joinR [1, 42, 0] s.data.toList = .tuple #[x, y] := by
    unfold joinR nameR
    split
    · split <;> exact ⟨_, _, rfl⟩
    · exact ⟨_, _, rfl⟩
  obtain ⟨x, y, he⟩ := hform
  have HJ := Lib.hid (refJoin_any ⟨#[1, 42, 0]⟩ s w (by decide) hs)
  have e1 : (⟨#[1, 42, 0]⟩ : ByteArray).data.toList = [1, 42, 0] := rfl
  rw [e1, he] at HJ
  rw [he]
  clear he e1
  go_enter Tryd.func32, Tryd.ntmps32
  go_wp2_with (first | (go_at_call 30; refine HJ.out.mono ?_; rintro e w1 ⟨rfl, hb1⟩))
  go_ret2
  exact ⟨rfl, hb1⟩

theorem Alike_any (a b : ByteArray) (w : World) (ha : a.size ≤ 140737488355328) (hb : b.size ≤ 140737488355328) :
    Calls Tryd.prog 53 #[.string a, .string b] w fun e w' => e = .returned (.bool (Nm.fold a.data.toList == Nm.fold b.data.toList)) ∧ Below w.heap.size w w' := by
  have HA := Lib.hid (refFold_any a w ha)
  have HB := Lib.hid (fun w => refFold_any b w hb)
  generalize Nm.fold a.data.toList = x at *
  generalize Nm.fold b.data.toList = y at *
  go_enter Tryd.func53, Tryd.ntmps53
  go_wp2_with (first | (go_at_call_of 16 (Value.string a); refine HA.out.mono ?_; rintro e w1 ⟨rfl, hb1⟩) | (go_at_call_of 16 (Value.string b); refine (HB.out _).mono ?_; rintro e w2 ⟨rfl, hb2⟩))
  go_ret
  exact ⟨rfl, hb1.trans (hb2.mono hb1.size)⟩

end Go.Proofs.YtjcdhmpcjpjnmaaDoor
