/- Two records compared. -/
import Derived.Test.YtnhoaceickojeaaPdEq
import Derived.Test.YtnhoaceickojeaaRrRv
namespace Go.Proofs.Ytnhoaceickojeaa
open Go.RowKit

def rvB (a b : Rv) : Bool := (a.nm.toList == b.nm.toList) && (((a.ty : Int) == b.ty) && (((a.cl : Int) == b.cl) && (((a.ttl : Int) == b.ttl) && dvB a.d b.d)))
set_option maxRecDepth 100000 in
theorem rvRun (W : World) (a b : Rv) (d : Nat) : (Op.equalIn (d + 5) 50 (.agg a.cells) (.agg b.cells)).run Try.prog W = .ok (rvB a b) W := by
  rw [run_equalIn_agg W (d + 4) _ _ _ (by kernel_rfl) Try.stoodInHeld50]
  have hf : (Try.prog.fieldsOf 50).toList.map (fun f => (f.name != "_", f.type, f.offset)) = [(true, 32, 0), (true, 33, 1), (true, 33, 2), (true, 45, 3), (true, 48, 4)] := by kernel_rfl
  have hlen : (Try.prog.fieldsOf 50).toList.length = 5 := by kernel_rfl
  generalize (Try.prog.fieldsOf 50).toList = fs at *
  match fs, hlen, hf with
  | [f0, f1, f2, f3, f4], _, hf =>
    simp only [List.map_cons, List.map_nil, List.cons.injEq, Prod.mk.injEq] at hf
    obtain ⟨⟨n0, t0, o0⟩, ⟨n1, t1, o1⟩, ⟨n2, t2, o2⟩, ⟨n3, t3, o3⟩, ⟨n4, t4, o4⟩, _⟩ := hf
    have p0 : ∀ x : Rv, (part 32 x.cells 0).run Try.prog W = .ok (.string x.nm) W := fun _ => rfl
    have p1 : ∀ x : Rv, (part 33 x.cells 1).run Try.prog W = .ok (.int .u16 x.ty) W := fun _ => rfl
    have p2 : ∀ x : Rv, (part 33 x.cells 2).run Try.prog W = .ok (.int .u16 x.cl) W := fun _ => rfl
    have p3 : ∀ x : Rv, (part 45 x.cells 3).run Try.prog W = .ok (.int .u32 x.ttl) W := fun _ => rfl
    have p4 : ∀ x : Rv, (part 48 x.cells 4).run Try.prog W = .ok (.agg x.d.cells) W := fun _ => rfl
    have m0 : ¬ (f0.name = "_") := by simpa using n0
    have m1 : ¬ (f1.name = "_") := by simpa using n1
    have m2 : ¬ (f2.name = "_") := by simpa using n2
    have m3 : ¬ (f3.name = "_") := by simpa using n3
    have m4 : ¬ (f4.name = "_") := by simpa using n4
    have st : ∀ (f : Field) (va vb : Value) (x y : Bool) (fs : List Field), ¬ (f.name = "_") → (part f.type a.cells f.offset).run Try.prog W = .ok va W → (part f.type b.cells f.offset).run Try.prog W = .ok vb W →
        (Op.equalIn (d + 4) f.type va vb).run Try.prog W = .ok x W → (Op.eqFields (d + 4) a.cells b.cells fs).run Try.prog W = .ok y W → (Op.eqFields (d + 4) a.cells b.cells (f :: fs)).run Try.prog W = .ok (x && y) W := fun f va vb x y fs hn ha hb he hr => by
      simp only [Op.eqFields, ne_eq, hn, not_false_eq_true, if_true, Sem.run_bind, ha, hb, he, Result.andThen_ok]
      exact and_run W (fun _ => Op.eqFields (d + 4) a.cells b.cells fs) _ hr
    have h4 := st f4 _ _ _ true [] m4 (by rw [t4, o4]; exact p4 a) (by rw [t4, o4]; exact p4 b) (by rw [t4]; exact dvRun W a.d b.d d) rfl
    rw [Bool.and_true] at h4
    exact st f0 _ _ _ _ _ m0 (by rw [t0, o0]; exact p0 a) (by rw [t0, o0]; exact p0 b) (by rw [t0]; exact run_equalIn_string W _ _ _ _ Try.underlying32)
      (st f1 _ _ _ _ _ m1 (by rw [t1, o1]; exact p1 a) (by rw [t1, o1]; exact p1 b) (by rw [t1]; exact run_equalIn_int W _ _ _ _ _ _ Try.underlying33)
        (st f2 _ _ _ _ _ m2 (by rw [t2, o2]; exact p2 a) (by rw [t2, o2]; exact p2 b) (by rw [t2]; exact run_equalIn_int W _ _ _ _ _ _ Try.underlying33)
          (st f3 _ _ _ _ _ m3 (by rw [t3, o3]; exact p3 a) (by rw [t3, o3]; exact p3 b) (by rw [t3]; exact run_equalIn_int W _ _ _ _ _ _ Try.underlying45) h4)))
theorem rvB_iff (a b : Rv) : rvB a b = true ↔ a = b := by
  obtain ⟨nm, ty, cl, ttl, d⟩ := a
  obtain ⟨nm', ty', cl', ttl', d'⟩ := b
  unfold rvB
  rw [strB]
  simp only [Bool.and_eq_true, decide_eq_true_eq, beq_iff_eq, dvB_iff, Rv.mk.injEq, Int.ofNat_inj]
end Go.Proofs.Ytnhoaceickojeaa
