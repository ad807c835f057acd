/- Texts of the proofs, merged. -/
import Derived.Test.YtmieakkhpkclpaaDoorG3
import Derived.Laws.StructEq
import Derived.MapKept
import Derived.ChangeKeysEq
import Derived.Test.YtmieakkhpkclpaaDoorG6
/- The document's answer on data: may they be? -/
namespace Go.Proofs.YtmieakkhpkclpaaDoor
open Go.RowKit

theorem rd_strEmpty (s : ByteArray) : (s.toList == []) = (s.data.toList == []) := by
  have e0 : (⟨#[]⟩ : ByteArray).toList = [] := by kernel_rfl
  by_cases h : s.data.toList = []
  · obtain rfl : s = ⟨#[]⟩ := string_eq h
    rw [e0]
  · have h1 : (s.toList == (⟨#[]⟩ : ByteArray).toList) = false := by
      rw [← beq_toListBytes, Bool.eq_false_iff]
      intro hb
      have := (MapKept.bytes_beq _ _).1 hb
      subst this
      exact h rfl
    rw [e0] at h1
    rw [h1]
    cases hb : (s.data.toList == []) with
    | false => rfl
    | true => exact absurd (beq_iff_eq.1 hb) h

theorem raw16 (l : List UInt8) : Rd.rawOk 16 l = match Rd.tx l with | some (_ :: _) => decide (l.length ≤ 65535) | _ => false := rfl
end Go.Proofs.YtmieakkhpkclpaaDoor
/- The document's answer on data: Check and Fold. -/
namespace Go.Proofs.YtmieakkhpkclpaaDoor
open Go.RowKit

/-- data, as they come. -/
structure Dv where
  raw : ByteArray
  host : ByteArray
  mail : ByteArray
  n0 : Nat
  n1 : Nat
  n2 : Nat
  n3 : Nat
  n4 : Nat
namespace Dv
def val (d : Dv) : Value := .agg #[.string d.raw, .string d.host, .string d.mail, .int .u32 d.n0, .int .u32 d.n1, .int .u32 d.n2, .int .u32 d.n3, .int .u32 d.n4]
def cells (d : Dv) : Array Value := #[.string d.raw, .string d.host, .string d.mail, .int .u32 d.n0, .int .u32 d.n1, .int .u32 d.n2, .int .u32 d.n3, .int .u32 d.n4]
def dt (d : Dv) : Rd.Dt := ⟨d.raw.data.toList, d.host.data.toList, d.mail.data.toList, d.n0, d.n1, d.n2, d.n3, d.n4⟩
def n (d : Dv) : Nat → Nat
  | 0 => d.n0
  | 1 => d.n1
  | 2 => d.n2
  | 3 => d.n3
  | _ => d.n4
/-- its numbers are numbers. -/
def fits (d : Dv) : Prop := ∀ k, d.n k ≤ 4294967295
theorem cell_n (d : Dv) {k : Nat} (hk : k < 5) : d.cells[3 + k]? = some (.int .u32 (d.n k)) := by
  match k, hk with
  | 0, _ => rfl
  | 1, _ => rfl
  | 2, _ => rfl
  | 3, _ => rfl
  | 4, _ => rfl
end Dv
theorem dv_raw {W : World} {g : Nat} {d : Dv} {t : TypeId} (h : Has W g t d.cells) : W.cell? ⟨g, 0, none⟩ = some (.string d.raw) := by rw [h.cell]; rfl
theorem dv_host {W : World} {g : Nat} {d : Dv} {t : TypeId} (h : Has W g t d.cells) : W.cell? ⟨g, 1, none⟩ = some (.string d.host) := by rw [h.cell]; rfl
theorem dv_mail {W : World} {g : Nat} {d : Dv} {t : TypeId} (h : Has W g t d.cells) : W.cell? ⟨g, 2, none⟩ = some (.string d.mail) := by rw [h.cell]; rfl
theorem dv_n {W : World} {g k : Nat} {d : Dv} {t : TypeId} (h : Has W g t d.cells) (hk : k < 5) : W.cell? ⟨g, 3 + k, none⟩ = some (.int .u32 (d.n k : Nat)) := by rw [h.cell]; exact d.cell_n hk
namespace Rd
def head (t : Nat) (d : Dt) : Bool := rawOk t d.raw && (isHost t == nm d.host) && (isHost t || d.host == []) && (isMail t == nm d.mail) && (isMail t || d.mail == [])
theorem ok_eq (t : Nat) (d : Dt) : ok t d = (head t d && numOk t 0 d.n0 && numOk t 1 d.n1 && numOk t 2 d.n2 && numOk t 3 d.n3 && numOk t 4 d.n4) := rfl
theorem ok_head {t : Nat} {d : Dt} (h : head t d = false) : ok t d = false := by rw [ok_eq, h]; rfl
theorem ok_num {t : Nat} {d : Dv} {k : Nat} (hk : k < 5) (h : numOk t k (d.n k) = false) : ok t d.dt = false := by
  rw [ok_eq]
  match k, hk with
  | 0, _ => have h' : numOk t 0 d.n0 = false := h
            simp [Dv.dt, h']
  | 1, _ => have h' : numOk t 1 d.n1 = false := h
            simp [Dv.dt, h']
  | 2, _ => have h' : numOk t 2 d.n2 = false := h
            simp [Dv.dt, h']
  | 3, _ => have h' : numOk t 3 d.n3 = false := h
            simp [Dv.dt, h']
  | 4, _ => have h' : numOk t 4 d.n4 = false := h
            simp [Dv.dt, h']
theorem ok_all {t : Nat} {d : Dv} (h : head t d.dt = true) (hn : ∀ k, k < 5 → numOk t k (d.n k) = true) : ok t d.dt = true := by
  have h0 : numOk t 0 d.n0 = true := hn 0 (by omega)
  have h1 : numOk t 1 d.n1 = true := hn 1 (by omega)
  have h2 : numOk t 2 d.n2 = true := hn 2 (by omega)
  have h3 : numOk t 3 d.n3 = true := hn 3 (by omega)
  have h4 : numOk t 4 d.n4 = true := hn 4 (by omega)
  rw [ok_eq, h]
  simp [Dv.dt, h0, h1, h2, h3, h4]
theorem cnt_le (t : Nat) : cnt t ≤ 5 := by unfold cnt; split <;> (try split) <;> (try split) <;> omega
theorem bits_le (t : Nat) : bits t ≤ 32 := by unfold bits; split <;> (try split) <;> (try split) <;> omega
theorem num_in {t i x : Nat} (h : i < cnt t) : numOk t i x = !(bits t == 16 && decide (65535 < x)) := by unfold numOk; rw [if_pos h]
theorem num_out {t i x : Nat} (h : ¬ i < cnt t) : numOk t i x = (x == 0) := by unfold numOk; rw [if_neg h]
end Rd
end Go.Proofs.YtmieakkhpkclpaaDoor
/- Two data compared. -/
namespace Go.Proofs.YtmieakkhpkclpaaDoor
open Go.RowKit

def dvB (a b : Dv) : Bool := (a.raw.toList == b.raw.toList) && ((a.host.toList == b.host.toList) && ((a.mail.toList == b.mail.toList) && (((a.n0 : Int) == b.n0) && (((a.n1 : Int) == b.n1) && (((a.n2 : Int) == b.n2) && (((a.n3 : Int) == b.n3) && ((a.n4 : Int) == b.n4)))))))
def numC (a0 a1 a2 a3 a4 : Int) : Array Value := #[.int .u32 a0, .int .u32 a1, .int .u32 a2, .int .u32 a3, .int .u32 a4]
section
variable (W : World)
set_option maxRecDepth 100000 in
theorem numPart (a0 a1 a2 a3 a4 : Int) (k : Nat) (hk : k < 5) : (part 27 (numC a0 a1 a2 a3 a4) k).run Tryd.prog W = .ok (.int .u32 ([a0, a1, a2, a3, a4][k])) W := by
  rcases (by omega : k = 0 ∨ k = 1 ∨ k = 2 ∨ k = 3 ∨ k = 4) with rfl | rfl | rfl | rfl | rfl <;> rfl
theorem and_run {x y : Bool} (f : Unit → Sem Bool) (P : Program) (h : (f ()).run P W = .ok y W) : (if (!x) = true then (pure false : Sem Bool) else f ()).run P W = .ok (x && y) W := by
  cases x
  · simp
  · simpa using h
theorem numsRun (a0 a1 a2 a3 a4 b0 b1 b2 b3 b4 : Int) (d : Nat) : (Op.equalIn (d + 2) 39 (.agg (numC a0 a1 a2 a3 a4)) (.agg (numC b0 b1 b2 b3 b4))).run Tryd.prog W = .ok ((a0 == b0) && ((a1 == b1) && ((a2 == b2) && ((a3 == b3) && (a4 == b4))))) W := by
  obtain ⟨i, hi⟩ : ∃ i, Tryd.prog.info? 27 = some i := by
    have : (Tryd.prog.info? 27).isSome = true := by kernel_rfl
    exact Option.isSome_iff_exists.1 this
  rw [run_equalIn_array W (d + 1) _ _ Tryd.underlying39 hi]
  have hc : Tryd.prog.cellsOf 27 = 1 := by kernel_rfl
  have hr : List.range 5 = [0, 1, 2, 3, 4] := rfl
  rw [hc, hr]
  have st : ∀ (k : Nat) (hk : k < 5) (is : List Nat) (y : Bool), (Op.eqItems (d + 1) 27 1 (numC a0 a1 a2 a3 a4) (numC b0 b1 b2 b3 b4) is).run Tryd.prog W = .ok y W →
      (Op.eqItems (d + 1) 27 1 (numC a0 a1 a2 a3 a4) (numC b0 b1 b2 b3 b4) (k :: is)).run Tryd.prog W = .ok (([a0, a1, a2, a3, a4][k] == [b0, b1, b2, b3, b4][k]) && y) W := fun k hk is y h => by
    rw [Op.eqItems, Nat.mul_one]
    simp only [Sem.run_bind, numPart W _ _ _ _ _ k hk, Result.andThen_ok, run_equalIn_int W d _ _ _ _ _ Tryd.underlying27]
    exact and_run W (fun _ => Op.eqItems (d + 1) 27 1 (numC a0 a1 a2 a3 a4) (numC b0 b1 b2 b3 b4) is) _ h
  have h5 := st 4 (by omega) [] true rfl
  rw [Bool.and_true] at h5
  exact st 0 (by omega) _ _ (st 1 (by omega) _ _ (st 2 (by omega) _ _ (st 3 (by omega) _ _ h5)))
set_option maxRecDepth 100000 in
theorem dvRun (a b : Dv) (d : Nat) : (Op.equalIn (d + 4) 41 (.agg a.cells) (.agg b.cells)).run Tryd.prog W = .ok (dvB a b) W := by
  rw [run_equalIn_agg W (d + 3) _ _ _ (by kernel_rfl) Tryd.stoodInHeld41]
  have hf : (Tryd.prog.fieldsOf 41).toList.map (fun f => (f.name != "_", f.type, f.offset)) = [(true, 9, 0), (true, 23, 1), (true, 23, 2), (true, 39, 3)] := by kernel_rfl
  have hlen : (Tryd.prog.fieldsOf 41).toList.length = 4 := by kernel_rfl
  generalize (Tryd.prog.fieldsOf 41).toList = fs at *
  match fs, hlen, hf with
  | [f0, f1, f2, f3], _, hf =>
    simp only [List.map_cons, List.map_nil, List.cons.injEq, Prod.mk.injEq] at hf
    obtain ⟨⟨n0, t0, o0⟩, ⟨n1, t1, o1⟩, ⟨n2, t2, o2⟩, ⟨n3, t3, o3⟩, _⟩ := hf
    have p0 : ∀ x : Dv, (part 9 x.cells 0).run Tryd.prog W = .ok (.string x.raw) W := fun _ => rfl
    have p1 : ∀ x : Dv, (part 23 x.cells 1).run Tryd.prog W = .ok (.string x.host) W := fun _ => rfl
    have p2 : ∀ x : Dv, (part 23 x.cells 2).run Tryd.prog W = .ok (.string x.mail) W := fun _ => rfl
    have p3 : ∀ x : Dv, (part 39 x.cells 3).run Tryd.prog W = .ok (.agg (numC x.n0 x.n1 x.n2 x.n3 x.n4)) W := fun _ => rfl
    have u1 := Tryd.underlying23
    have u0 := Tryd.underlying9
    have m0 : ¬ (f0.name = "_") := by simpa using n0
    have m1 : ¬ (f1.name = "_") := by simpa using n1
    have m2 : ¬ (f2.name = "_") := by simpa using n2
    have m3 : ¬ (f3.name = "_") := by simpa using n3
    have st : ∀ (f : Field) (va vb : Value) (x y : Bool) (fs : List Field), ¬ (f.name = "_") → (part f.type a.cells f.offset).run Tryd.prog W = .ok va W → (part f.type b.cells f.offset).run Tryd.prog W = .ok vb W →
        (Op.equalIn (d + 3) f.type va vb).run Tryd.prog W = .ok x W → (Op.eqFields (d + 3) a.cells b.cells fs).run Tryd.prog W = .ok y W → (Op.eqFields (d + 3) a.cells b.cells (f :: fs)).run Tryd.prog W = .ok (x && y) W := fun f va vb x y fs hn ha hb he hr => by
      simp only [Op.eqFields, ne_eq, hn, not_false_eq_true, if_true, Sem.run_bind, ha, hb, he, Result.andThen_ok]
      exact and_run W (fun _ => Op.eqFields (d + 3) a.cells b.cells fs) _ hr
    have h4 := st f3 _ _ _ true [] m3 (by rw [t3, o3]; exact p3 a) (by rw [t3, o3]; exact p3 b) (by rw [t3]; exact numsRun W _ _ _ _ _ _ _ _ _ _ _) rfl
    rw [Bool.and_true] at h4
    exact st f0 _ _ _ _ _ m0 (by rw [t0, o0]; exact p0 a) (by rw [t0, o0]; exact p0 b) (by rw [t0]; exact run_equalIn_string W _ _ _ _ u0)
      (st f1 _ _ _ _ _ m1 (by rw [t1, o1]; exact p1 a) (by rw [t1, o1]; exact p1 b) (by rw [t1]; exact run_equalIn_string W _ _ _ _ u1)
        (st f2 _ _ _ _ _ m2 (by rw [t2, o2]; exact p2 a) (by rw [t2, o2]; exact p2 b) (by rw [t2]; exact run_equalIn_string W _ _ _ _ u1) h4))
theorem eqlRun (a b : Dv) : (binOp .eql 41 (.agg a.cells) (.agg b.cells)).run Tryd.prog W = .ok (.bool (dvB a b)) W := by
  rw [run_eql_struct, dvRun W a b 9996]; rfl
theorem neqRun (a b : Dv) : (binOp .neq 41 (.agg a.cells) (.agg b.cells)).run Tryd.prog W = .ok (.bool (!dvB a b)) W := by
  rw [run_neq_struct, dvRun W a b 9996]; rfl
end
theorem strB (a b : ByteArray) : (a.toList == b.toList) = decide (a = b) := by
  rw [← beq_toListBytes, Bool.eq_iff_iff, decide_eq_true_eq]; exact MapKept.bytes_beq a b
theorem dvB_iff (a b : Dv) : dvB a b = true ↔ a = b := by
  obtain ⟨r, h, m, n0, n1, n2, n3, n4⟩ := a
  obtain ⟨r', h', m', k0, k1, k2, k3, k4⟩ := b
  unfold dvB
  rw [strB, strB, strB]
  simp
  omega
section
variable {w : World} {ops : Array Oper} {rest : List Oper} {o : Oper} {a : Act} {Q : Exit → Act → World → Prop}
theorem wpList_neq_data (hgd : o.guard = none) (x y : Operand) (ho : o.op = .binOp .neq 41 x y 41) (A B : Dv) (hx : a.eval x = .agg A.cells) (hy : a.eval y = .agg B.cells) (b : Bool) (hb : dvB A B = b)
    (h : wpList Tryd.prog ops Q rest (a.put o.dst (.bool (!b))) w) : wpList Tryd.prog ops Q (o :: rest) a w := by
  subst hb
  refine wpList_plain hgd fun _ hK => ?_
  unfold Oper.wp execOp
  simp only [ho, hx, hy, Sem.run_bind, Sem.run_pure, Result.andThen_ok, run_eqGuard_agg w .neq _ _ _ _ _ Tryd.eqGuardType41, neqRun]
  exact hK _ _ h
theorem wpList_eql_data (hgd : o.guard = none) (x y : Operand) (ho : o.op = .binOp .eql 41 x y 41) (A B : Dv) (hx : a.eval x = .agg A.cells) (hy : a.eval y = .agg B.cells) (b : Bool) (hb : dvB A B = b)
    (h : wpList Tryd.prog ops Q rest (a.put o.dst (.bool b)) w) : wpList Tryd.prog ops Q (o :: rest) a w := by
  subst hb
  refine wpList_plain hgd fun _ hK => ?_
  unfold Oper.wp execOp
  simp only [ho, hx, hy, Sem.run_bind, Sem.run_pure, Result.andThen_ok, run_eqGuard_agg w .eql _ _ _ _ _ Tryd.eqGuardType41, eqlRun]
  exact hK _ _ h
end
end Go.Proofs.YtmieakkhpkclpaaDoor
/- Keys and records, as they come. -/
namespace Go.Proofs.YtmieakkhpkclpaaDoor
open Go.RowKit

/-- a key, as it comes. -/
structure Kv where
  nm : ByteArray
  ty : Nat
  cl : Nat
def Kv.val (k : Kv) : Value := .agg #[.string k.nm, .int .u16 k.ty, .int .u16 k.cl]
def Kv.ky (k : Kv) : Rr.Ky := ⟨k.nm.data.toList, k.ty, k.cl⟩
/-- a record, as it comes. -/
structure Rv where
  nm : ByteArray
  ty : Nat
  cl : Nat
  ttl : Nat
  d : Dv
namespace Rv
def cells (r : Rv) : Array Value := #[.string r.nm, .int .u16 r.ty, .int .u16 r.cl, .int .u32 r.ttl, .string r.d.raw, .string r.d.host, .string r.d.mail, .int .u32 r.d.n0, .int .u32 r.d.n1, .int .u32 r.d.n2, .int .u32 r.d.n3, .int .u32 r.d.n4]
def val (r : Rv) : Value := .agg r.cells
def kv (r : Rv) : Kv := ⟨r.nm, r.ty, r.cl⟩
def rc (r : Rv) : Rr.Rc := ⟨r.kv.ky, r.ttl, r.d.dt⟩
/-- no text of it is longer than there may be one. -/
def short (r : Rv) : Prop := r.nm.size ≤ 140737488355328 ∧ r.d.host.size ≤ 140737488355328 ∧ r.d.mail.size ≤ 140737488355328
end Rv
end Go.Proofs.YtmieakkhpkclpaaDoor
