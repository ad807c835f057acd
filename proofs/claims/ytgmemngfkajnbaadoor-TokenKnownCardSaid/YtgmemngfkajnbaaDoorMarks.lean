/- The marks of a name: where its labels begin. -/
import Derived.Test.YtgmemngfkajnbaaDoorBase
import Derived.Test.YtgmemngfkajnbaaDoorZero
namespace Go.Proofs.YtgmemngfkajnbaaDoor
open Go.RowKit

/-- the cells of a value of marks. -/
def mkc (os : List Nat) (c : Nat) : Array Value := ((os.map fun (o : Nat) => Value.int .u8 (o : Int)) ++ List.replicate (128 - os.length) (Value.int .u8 0) ++ [Value.int .i64 (c : Int)]).toArray
theorem mkc_size {os : List Nat} (c : Nat) (h : os.length ≤ 128) : (mkc os c).size = 129 := by simp [mkc]; omega
theorem mkc_count {os : List Nat} (c : Nat) (h : os.length ≤ 128) : (mkc os c)[128]? = some (.int .i64 (c : Int)) := by
  unfold mkc
  rw [List.getElem?_toArray, List.getElem?_append_right (by simp; omega)]
  simp [show 128 - (os.length + (128 - os.length)) = 0 from by omega]
theorem mkc_free {os : List Nat} (c j : Nat) (h : os.length ≤ j) (h2 : j < 128) : (mkc os c)[j]? = some (.int .u8 0) := by
  unfold mkc
  rw [List.getElem?_toArray, List.getElem?_append_left (by simp; omega), List.getElem?_append_right (by simp; omega)]
  simp [List.getElem?_replicate]; omega
theorem mkc_at {os : List Nat} (c j o : Nat) (h : os[j]? = some o) : (mkc os c)[j]? = some (.int .u8 (o : Int)) := by
  have hj : j < os.length := (List.getElem?_eq_some_iff.1 h).1
  unfold mkc
  rw [List.getElem?_toArray, List.getElem?_append_left (by simp; omega), List.getElem?_append_left (by simpa using hj)]
  simp [h]
theorem mkc_push {os : List Nat} (c x : Nat) (h : os.length < 128) : (mkc os c).setIfInBounds os.length (.int .u8 (x : Int)) = mkc (os ++ [x]) c := by
  unfold mkc
  rw [List.setIfInBounds_toArray, List.append_assoc, List.set_append_right _ _ (by simp)]
  congr 1
  obtain ⟨m, hm⟩ : ∃ m, 128 - os.length = m + 1 := ⟨127 - os.length, by omega⟩
  have hm' : 128 - (os ++ [x]).length = m := by simp; omega
  rw [hm, hm', List.replicate_succ]
  simp
theorem mkc_set {os : List Nat} (c d : Nat) (h : os.length ≤ 128) : (mkc os c).setIfInBounds 128 (.int .i64 (d : Int)) = mkc os d := by
  unfold mkc
  rw [List.setIfInBounds_toArray, List.set_append_right _ _ (by simp; omega)]
  simp [show 128 - (os.length + (128 - os.length)) = 0 from by omega]

/-- what a loop of marksOf has read when it stands at k, after the labels ps. -/
def At (l : List UInt8) (k : Nat) (ps : List (List UInt8)) : Prop := k ≤ l.length ∧ l = Nm.body ps ++ l.drop k ∧ (Nm.body ps).length = k ∧ Nm.Good ps ∧ Nm.sp l = (Nm.sp (l.drop k)).map (ps ++ ·)
/-- it has been led beyond the end. -/
def Over (l : List UInt8) (k : Nat) : Prop := l.length < k ∧ k ≤ 400 ∧ Nm.sp l = none

theorem At.zero (l : List UInt8) : At l 0 [] := ⟨Nat.zero_le _, rfl, rfl, (by intro x hx; simp at hx), (by simp)⟩
theorem At.step {l : List UInt8} {k : Nat} {ps : List (List UInt8)} {c : UInt8} (h : At l k ps) (hk : k < l.length) (hc : l[k] = c) (h0 : c.toNat ≠ 0) (h2 : c.toNat ≤ 63) (hl : l.length ≤ 255) :
    At l (k + 1 + c.toNat) (ps ++ [(l.drop (k + 1)).take c.toNat]) ∨ Over l (k + 1 + c.toNat) := by
  obtain ⟨_, a, b, g, d⟩ := h
  have e : l.drop k = c :: l.drop (k + 1) := by rw [← hc]; exact Nm.drop_cons hk
  rw [e] at a d
  by_cases h3 : c.toNat ≤ (l.drop (k + 1)).length
  · left
    obtain ⟨p, q⟩ := Nm.sp_step a d h0 h2 h3
    have hb : Nm.body (ps ++ [(l.drop (k + 1)).take c.toNat]) = Nm.body ps ++ c :: (l.drop (k + 1)).take c.toNat := by
      rw [Nm.body_append]; congr 1; rw [Nm.body_cons, Nm.lab_take h3]; simp [Nm.body_nil]
    have hd : l.drop (k + 1 + c.toNat) = (l.drop (k + 1)).drop c.toNat := by rw [List.drop_drop]
    refine ⟨by simp at h3; omega, by rw [hb, hd]; exact p, ?_, ?_, by rw [hd]; exact q⟩
    · rw [Nm.body_snoc_length, b, List.length_take, Nat.min_eq_left h3]
    · intro x hx
      rcases List.mem_append.1 hx with hx | hx
      · exact g x hx
      · simp at hx; subst hx; simp at h3 ⊢; omega
  · right
    refine ⟨by simp at h3; omega, by omega, ?_⟩
    rw [d, Nm.sp_bad h0 (Or.inr (by omega))]; rfl
theorem At.bad {l : List UInt8} {k : Nat} {ps : List (List UInt8)} (h : At l k ps) (hk : k < l.length) (h2 : 63 < (l[k]).toNat) : Nm.sp l = none := by
  rw [h.2.2.2.2, Nm.drop_cons hk, Nm.sp_bad (by omega) (Or.inl h2)]; rfl
theorem At.endless {l : List UInt8} {ps : List (List UInt8)} (h : At l l.length ps) : Nm.sp l = none := by
  rw [h.2.2.2.2, List.drop_length]; rfl
theorem At.early {l : List UInt8} {k : Nat} {ps : List (List UInt8)} (h : At l k ps) (hk : k + 1 < l.length) (h2 : (l[k]).toNat = 0) : Nm.sp l = none := by
  rw [h.2.2.2.2, Nm.drop_cons (by omega), Nm.sp_zero h2, if_neg (by simp; omega)]; rfl
theorem At.done {l : List UInt8} {k : Nat} {ps : List (List UInt8)} (h : At l k ps) (hk : k + 1 = l.length) (h2 : (l[k]).toNat = 0) : Nm.sp l = some ps := by
  rw [h.2.2.2.2, Nm.drop_cons (by omega), Nm.sp_zero h2, if_pos (by simp; omega)]; simp
theorem At.few {l : List UInt8} {k : Nat} {ps : List (List UInt8)} (h : At l k ps) (hl : l.length ≤ 255) : 2 * ps.length ≤ k ∧ ps.length ≤ 127 := by
  have := Nm.good_count h.2.2.2.1
  have h1 := h.1
  have hb := h.2.2.1
  omega

def marksV (ls : List (List UInt8)) : Array Value := mkc (Nm.offs ls) ls.length
/-- what marksOf answers. -/
def marksR (l : List UInt8) : Value := match Nm.split l with
  | none => .tuple #[.agg (mkc [] 0), .bool false]
  | some ls => .tuple #[.agg (marksV ls), .bool true]
theorem marksR_none {l : List UInt8} (h : Nm.split l = none) : marksR l = .tuple #[.agg (mkc [] 0), .bool false] := by unfold marksR; rw [h]
theorem marksR_some {l : List UInt8} {ls : List (List UInt8)} (h : Nm.split l = some ls) : marksR l = .tuple #[.agg (marksV ls), .bool true] := by unfold marksR; rw [h]

theorem mkc_one (os : List Nat) (c : Nat) : (mkc os c).all (·.oneCell') = true := by
  rw [Array.all_eq_true_iff_forall_mem]
  intro v hv
  simp [mkc] at hv
  rcases hv with ⟨a, _, rfl⟩ | ⟨_, rfl⟩ | rfl <;> rfl
end Go.Proofs.YtgmemngfkajnbaaDoor
