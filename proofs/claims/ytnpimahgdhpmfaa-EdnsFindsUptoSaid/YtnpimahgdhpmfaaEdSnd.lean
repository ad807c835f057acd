/- Whether an OPT may be; a message's code. -/
import Derived.Test.YtnpimahgdhpmfaaEdIdx
import Derived.Test.YtnpimahgdhpmfaaRrEqR
namespace Go.Proofs.Ytnpimahgdhpmfaa
open Go.RowKit Go.Sort Go.Shelf

def Dv.rawOnly (d : Dv) : Dv := ⟨d.raw, ⟨#[]⟩, ⟨#[]⟩, 0, 0, 0, 0, 0⟩
def Rv.root (r : Rv) : Bool := decide (r.nm = ⟨#[0]⟩)
def Rv.bare (r : Rv) : Bool := dvB r.d r.d.rawOnly
def Rv.sound (r : Rv) : Bool := r.root && r.bare && Ed.may r.d.raw.data.toList
section
variable {w : World} {ops : Array Oper} {rest : List Oper} {o : Oper} {a : Act} {Q : Exit → Act → World → Prop}
theorem wpList_eql_dataG (hw : Region.wanted o (yielded ops a.tmps) = true) (x y : Operand) (ho : o.op = .binOp .eql 39 x y 39) (A B : Dv) (hx : a.eval x = .agg A.cells) (hy : a.eval y = .agg B.cells) (b : Bool) (hb : dvB A B = b)
    (h : wpList Try.prog ops Q rest (a.put o.dst (.bool b)) w) : wpList Try.prog ops Q (o :: rest) a w := by
  subst hb
  refine wpList_step fun K hK => ?_
  rw [if_pos hw]
  unfold Oper.wp execOp
  simp only [ho, hx, hy, Sem.run_bind, Sem.run_pure, Result.andThen_ok, run_eqGuard_agg w .eql _ _ _ _ _ Try.eqGuardType39, eqlRun]
  exact hK _ _ h
theorem wpList_neq_dataG (hw : Region.wanted o (yielded ops a.tmps) = true) (x y : Operand) (ho : o.op = .binOp .neq 39 x y 39) (A B : Dv) (hx : a.eval x = .agg A.cells) (hy : a.eval y = .agg B.cells) (b : Bool) (hb : dvB A B = b)
    (h : wpList Try.prog ops Q rest (a.put o.dst (.bool (!b))) w) : wpList Try.prog ops Q (o :: rest) a w := by
  subst hb
  refine wpList_step fun K hK => ?_
  rw [if_pos hw]
  unfold Oper.wp execOp
  simp only [ho, hx, hy, Sem.run_bind, Sem.run_pure, Result.andThen_ok, run_eqGuard_agg w .neq _ _ _ _ _ Try.eqGuardType39, neqRun]
  exact hK _ _ h
end
set_option maxHeartbeats 1000000 in
set_option maxRecDepth 100000 in
theorem sound_any (r : Rv) (w : World) (hs : r.d.raw.size ≤ maxLen) : Calls Try.prog 22 #[.agg r.cells] w fun e w' => e = .returned (.bool r.sound) ∧ Below w.heap.size w w' := by
  have HM := Lib.hid (fun W : World => mayBe_any r.d.raw W hs)
  have HB := Lib.hid ((Below.refl w.heap.size w).alloc (Nat.le_refl _) (.cells r.cells 41))
  have hq0 : (⟨#[0]⟩ : ByteArray).toList = [0] := by kernel_rfl
  have hq : (r.nm.toList == ([0] : List UInt8)) = r.root := by rw [← hq0, strB]; rfl
  clear hq0
  have HD : Hid (dvB r.d r.d.rawOnly = r.bare) := rfl
  have HS : Hid (r.sound = (r.root && r.bare && Ed.may r.d.raw.data.toList)) := rfl
  generalize r.sound = so at *
  generalize r.root = b1 at *
  generalize r.bare = b2 at *
  generalize Ed.may r.d.raw.data.toList = b3 at *
  obtain ⟨nm, ty, cl, ttl, ra, ho, ma, n0, n1, n2, n3, n4⟩ := r
  dsimp only [Rv.cells, Dv.cells, Dv.rawOnly] at *
  have hso := HS.out
  subst hso
  clear HS hs
  cases b1
  · go_enter Try.func22, Try.ntmps22
    go_wp2
    go_ret
    exact ⟨rfl, HB.out⟩
  · cases b2
    · go_enter Try.func22, Try.ntmps22
      go_wp2_with (refine wpList_eql_dataG (by rfl) (.tmp 8) (.tmp 12) rfl ⟨ra, ho, ma, n0, n1, n2, n3, n4⟩ ⟨ra, ⟨#[]⟩, ⟨#[]⟩, 0, 0, 0, 0, 0⟩ rfl rfl _ HD.out ?_)
      go_ret
      exact ⟨rfl, HB.out⟩
    · go_enter Try.func22, Try.ntmps22
      go_wp2_with (first
        | (refine wpList_eql_dataG (by rfl) (.tmp 8) (.tmp 12) rfl ⟨ra, ho, ma, n0, n1, n2, n3, n4⟩ ⟨ra, ⟨#[]⟩, ⟨#[]⟩, 0, 0, 0, 0, 0⟩ rfl rfl _ HD.out ?_)
        | (go_at_call 25; refine (HM.out _).mono ?_; rintro e w1 ⟨rfl, B1⟩; have HB1 := Lib.hid (HB.out.trans (B1.mono HB.out.size)); clear B1))
      go_ret
      exact ⟨rfl, HB1.out⟩
end Go.Proofs.Ytnpimahgdhpmfaa
