/- Two data compared. -/
import Derived.Test.YtnhoaceickojeaaRdDat
import Derived.Laws.StructEq
import Derived.ChangeKeysEq
import Derived.MapKept
namespace Go.Proofs.Ytnhoaceickojeaa
open Go.RowKit

def dvB (a b : Dv) : Bool := (a.raw.toList == b.raw.toList) && ((a.host.toList == b.host.toList) && ((a.mail.toList == b.mail.toList) && (((a.n0 : Int) == b.n0) && (((a.n1 : Int) == b.n1) && (((a.n2 : Int) == b.n2) && (((a.n3 : Int) == b.n3) && ((a.n4 : Int) == b.n4)))))))
def numC (a0 a1 a2 a3 a4 : Int) : Array Value := #[.int .u32 a0, .int .u32 a1, .int .u32 a2, .int .u32 a3, .int .u32 a4]
section
variable (W : World)
set_option maxRecDepth 100000 in
theorem numPart (a0 a1 a2 a3 a4 : Int) (k : Nat) (hk : k < 5) : (part 45 (numC a0 a1 a2 a3 a4) k).run Try.prog W = .ok (.int .u32 ([a0, a1, a2, a3, a4][k])) W := by
  rcases (by omega : k = 0 ∨ k = 1 ∨ k = 2 ∨ k = 3 ∨ k = 4) with rfl | rfl | rfl | rfl | rfl <;> rfl
theorem and_run {x y : Bool} (f : Unit → Sem Bool) (P : Program) (h : (f ()).run P W = .ok y W) : (if (!x) = true then (pure false : Sem Bool) else f ()).run P W = .ok (x && y) W := by
  cases x
  · simp
  · simpa using h
theorem numsRun (a0 a1 a2 a3 a4 b0 b1 b2 b3 b4 : Int) (d : Nat) : (Op.equalIn (d + 2) 46 (.agg (numC a0 a1 a2 a3 a4)) (.agg (numC b0 b1 b2 b3 b4))).run Try.prog W = .ok ((a0 == b0) && ((a1 == b1) && ((a2 == b2) && ((a3 == b3) && (a4 == b4))))) W := by
  obtain ⟨i, hi⟩ : ∃ i, Try.prog.info? 45 = some i := by
    have : (Try.prog.info? 45).isSome = true := by kernel_rfl
    exact Option.isSome_iff_exists.1 this
  rw [run_equalIn_array W (d + 1) _ _ Try.underlying46 hi]
  have hc : Try.prog.cellsOf 45 = 1 := by kernel_rfl
  have hr : List.range 5 = [0, 1, 2, 3, 4] := rfl
  rw [hc, hr]
  have st : ∀ (k : Nat) (hk : k < 5) (is : List Nat) (y : Bool), (Op.eqItems (d + 1) 45 1 (numC a0 a1 a2 a3 a4) (numC b0 b1 b2 b3 b4) is).run Try.prog W = .ok y W →
      (Op.eqItems (d + 1) 45 1 (numC a0 a1 a2 a3 a4) (numC b0 b1 b2 b3 b4) (k :: is)).run Try.prog W = .ok (([a0, a1, a2, a3, a4][k] == [b0, b1, b2, b3, b4][k]) && y) W := fun k hk is y h => by
    rw [Op.eqItems, Nat.mul_one]
    simp only [Sem.run_bind, numPart W _ _ _ _ _ k hk, Result.andThen_ok, run_equalIn_int W d _ _ _ _ _ Try.underlying45]
    exact and_run W (fun _ => Op.eqItems (d + 1) 45 1 (numC a0 a1 a2 a3 a4) (numC b0 b1 b2 b3 b4) is) _ h
  have h5 := st 4 (by omega) [] true rfl
  rw [Bool.and_true] at h5
  exact st 0 (by omega) _ _ (st 1 (by omega) _ _ (st 2 (by omega) _ _ (st 3 (by omega) _ _ h5)))
set_option maxRecDepth 100000 in
theorem dvRun (a b : Dv) (d : Nat) : (Op.equalIn (d + 4) 48 (.agg a.cells) (.agg b.cells)).run Try.prog W = .ok (dvB a b) W := by
  rw [run_equalIn_agg W (d + 3) _ _ _ (by kernel_rfl) Try.stoodInHeld48]
  have hf : (Try.prog.fieldsOf 48).toList.map (fun f => (f.name != "_", f.type, f.offset)) = [(true, 9, 0), (true, 32, 1), (true, 32, 2), (true, 46, 3)] := by kernel_rfl
  have hlen : (Try.prog.fieldsOf 48).toList.length = 4 := by kernel_rfl
  generalize (Try.prog.fieldsOf 48).toList = fs at *
  match fs, hlen, hf with
  | [f0, f1, f2, f3], _, hf =>
    simp only [List.map_cons, List.map_nil, List.cons.injEq, Prod.mk.injEq] at hf
    obtain ⟨⟨n0, t0, o0⟩, ⟨n1, t1, o1⟩, ⟨n2, t2, o2⟩, ⟨n3, t3, o3⟩, _⟩ := hf
    have p0 : ∀ x : Dv, (part 9 x.cells 0).run Try.prog W = .ok (.string x.raw) W := fun _ => rfl
    have p1 : ∀ x : Dv, (part 32 x.cells 1).run Try.prog W = .ok (.string x.host) W := fun _ => rfl
    have p2 : ∀ x : Dv, (part 32 x.cells 2).run Try.prog W = .ok (.string x.mail) W := fun _ => rfl
    have p3 : ∀ x : Dv, (part 46 x.cells 3).run Try.prog W = .ok (.agg (numC x.n0 x.n1 x.n2 x.n3 x.n4)) W := fun _ => rfl
    have u1 := Try.underlying32
    have u0 := Try.underlying9
    have m0 : ¬ (f0.name = "_") := by simpa using n0
    have m1 : ¬ (f1.name = "_") := by simpa using n1
    have m2 : ¬ (f2.name = "_") := by simpa using n2
    have m3 : ¬ (f3.name = "_") := by simpa using n3
    have st : ∀ (f : Field) (va vb : Value) (x y : Bool) (fs : List Field), ¬ (f.name = "_") → (part f.type a.cells f.offset).run Try.prog W = .ok va W → (part f.type b.cells f.offset).run Try.prog W = .ok vb W →
        (Op.equalIn (d + 3) f.type va vb).run Try.prog W = .ok x W → (Op.eqFields (d + 3) a.cells b.cells fs).run Try.prog W = .ok y W → (Op.eqFields (d + 3) a.cells b.cells (f :: fs)).run Try.prog W = .ok (x && y) W := fun f va vb x y fs hn ha hb he hr => by
      simp only [Op.eqFields, ne_eq, hn, not_false_eq_true, if_true, Sem.run_bind, ha, hb, he, Result.andThen_ok]
      exact and_run W (fun _ => Op.eqFields (d + 3) a.cells b.cells fs) _ hr
    have h4 := st f3 _ _ _ true [] m3 (by rw [t3, o3]; exact p3 a) (by rw [t3, o3]; exact p3 b) (by rw [t3]; exact numsRun W _ _ _ _ _ _ _ _ _ _ _) rfl
    rw [Bool.and_true] at h4
    exact st f0 _ _ _ _ _ m0 (by rw [t0, o0]; exact p0 a) (by rw [t0, o0]; exact p0 b) (by rw [t0]; exact run_equalIn_string W _ _ _ _ u0)
      (st f1 _ _ _ _ _ m1 (by rw [t1, o1]; exact p1 a) (by rw [t1, o1]; exact p1 b) (by rw [t1]; exact run_equalIn_string W _ _ _ _ u1)
        (st f2 _ _ _ _ _ m2 (by rw [t2, o2]; exact p2 a) (by rw [t2, o2]; exact p2 b) (by rw [t2]; exact run_equalIn_string W _ _ _ _ u1) h4))
theorem eqlRun (a b : Dv) : (binOp .eql 48 (.agg a.cells) (.agg b.cells)).run Try.prog W = .ok (.bool (dvB a b)) W := by
  rw [run_eql_struct, dvRun W a b 9996]; rfl
theorem neqRun (a b : Dv) : (binOp .neq 48 (.agg a.cells) (.agg b.cells)).run Try.prog W = .ok (.bool (!dvB a b)) W := by
  rw [run_neq_struct, dvRun W a b 9996]; rfl
end
theorem strB (a b : ByteArray) : (a.toList == b.toList) = decide (a = b) := by
  rw [← beq_toListBytes, Bool.eq_iff_iff, decide_eq_true_eq]; exact MapKept.bytes_beq a b
theorem dvB_iff (a b : Dv) : dvB a b = true ↔ a = b := by
  obtain ⟨r, h, m, n0, n1, n2, n3, n4⟩ := a
  obtain ⟨r', h', m', k0, k1, k2, k3, k4⟩ := b
  unfold dvB
  rw [strB, strB, strB]
  simp
  omega
section
variable {w : World} {ops : Array Oper} {rest : List Oper} {o : Oper} {a : Act} {Q : Exit → Act → World → Prop}
theorem wpList_neq_data (hgd : o.guard = none) (x y : Operand) (ho : o.op = .binOp .neq 48 x y 48) (A B : Dv) (hx : a.eval x = .agg A.cells) (hy : a.eval y = .agg B.cells) (b : Bool) (hb : dvB A B = b)
    (h : wpList Try.prog ops Q rest (a.put o.dst (.bool (!b))) w) : wpList Try.prog ops Q (o :: rest) a w := by
  subst hb
  refine wpList_plain hgd fun _ hK => ?_
  unfold Oper.wp execOp
  simp only [ho, hx, hy, Sem.run_bind, Sem.run_pure, Result.andThen_ok, run_eqGuard_agg w .neq _ _ _ _ _ Try.eqGuardType48, neqRun]
  exact hK _ _ h
theorem wpList_eql_data (hgd : o.guard = none) (x y : Operand) (ho : o.op = .binOp .eql 48 x y 48) (A B : Dv) (hx : a.eval x = .agg A.cells) (hy : a.eval y = .agg B.cells) (b : Bool) (hb : dvB A B = b)
    (h : wpList Try.prog ops Q rest (a.put o.dst (.bool b)) w) : wpList Try.prog ops Q (o :: rest) a w := by
  subst hb
  refine wpList_plain hgd fun _ hK => ?_
  unfold Oper.wp execOp
  simp only [ho, hx, hy, Sem.run_bind, Sem.run_pure, Result.andThen_ok, run_eqGuard_agg w .eql _ _ _ _ _ Try.eqGuardType48, eqlRun]
  exact hK _ _ h
end
end Go.Proofs.Ytnhoaceickojeaa
