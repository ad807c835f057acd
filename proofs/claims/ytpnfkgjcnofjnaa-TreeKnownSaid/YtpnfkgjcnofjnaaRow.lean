/- row: labels that are gathered to a name. -/
import Derived.Test.YtpnfkgjcnofjnaaLabels
import Derived.Lib.AppendStr
namespace Go.Proofs.Ytpnfkgjcnofjnaa
open Go.RowKit Go.Lib

/-- blocks of other types than byte, and other than g, are as they were. -/
def Typed (w w' : World) (g : Nat) : Prop := ∀ k c e fr, w.heap[k]? = some (.cells c e fr) → e ≠ 5 → k ≠ g → w'.heap[k]? = w.heap[k]?
theorem Typed.refl (w : World) (g : Nat) : Typed w w g := fun _ _ _ _ _ _ _ => rfl
theorem Typed.trans {a b c : World} {g : Nat} (h : Typed a b g) (k : Typed b c g) : Typed a c g := fun i x e fr hi he hg => by
  have h1 := h i x e fr hi he hg
  exact (k i x e fr (h1.trans hi) he hg).trans h1
theorem Typed.alloc {a b : World} {g : Nat} (h : Typed a b g) (o : Obj) : Typed a (b.alloc o) g := h.trans fun i _ _ _ hi _ _ => Below.heap_alloc b o i (Array.getElem?_eq_some_iff.1 hi).1
theorem Typed.drew {a b : World} {g : Nat} (h : Typed a b g) : Typed a b.drew g := h
theorem Typed.drewN {a b : World} {g : Nat} (h : Typed a b g) (n : Nat) : Typed a (b.drewN n) g := h
theorem Typed.set {a b : World} {g : Nat} (h : Typed a b g) (i : Nat) (u : Value) : Typed a (b.setCell ⟨g, i, none⟩ u) g := h.trans fun k _ _ _ _ _ hg => heap_setCell_other b _ k u hg
theorem Typed.own {a b c : World} {g B n : Nat} {v : Value} {xs : List Value} (h : Typed a b g) (ho : b.ownsRow B 5 1 v n xs) (hg : b.grownBy c v.ownBlock) : Typed a c g := h.trans fun k x e fr hk he _ => by
  refine hg.block k (Array.getElem?_eq_some_iff.1 hk).1 ?_
  intro hv
  rcases ho.2 with ⟨rfl, _⟩ | ⟨g', cap, cur, rfl, _, hh, _⟩
  · simp [Value.ownBlock] at hv
  · simp [Value.ownBlock] at hv
    subst hv
    rw [hh] at hk
    injection hk with hk
    injection hk with _ hk
    exact he hk.symm
theorem has_ne_own {w : World} {g B n : Nat} {t e : TypeId} {cs : Array Value} {v : Value} {xs : List Value} (h : Has w g t cs) (ho : w.ownsRow B e 1 v n xs) (hne : t ≠ e) : some g ≠ v.ownBlock := by
  rcases ho.2 with ⟨rfl, _⟩ | ⟨g', cap, cur, rfl, _, hh, _⟩
  · simp [Value.ownBlock]
  · intro hv
    simp [Value.ownBlock] at hv
    subst hv
    have h' := h.symm.trans hh
    injection h' with h'
    injection h' with _ h'
    exact hne h'
theorem own_far {w : World} {g B n : Nat} {t e : TypeId} {cs : Array Value} {v : Value} {xs : List Value} (ho : w.ownsRow B e 1 v n xs) (h : Has w g t cs) (hne : t ≠ e) (i : Nat) (u : Value) : (w.setCell ⟨g, i, none⟩ u).ownsRow B e 1 v n xs := by
  have hno := has_ne_own h ho hne
  refine ⟨ho.1, ?_⟩
  rcases ho.2 with hn | ⟨g', cap, cur, rfl, hb, hh, rest⟩
  · exact .inl hn
  · refine .inr ⟨g', cap, cur, rfl, hb, ?_, rest⟩
    rw [heap_setCell_other]; exact hh
    intro e; exact hno (by simp [Value.ownBlock]; exact e.symm)


theorem good_true {l : List UInt8} (h : 1 ≤ l.length ∧ l.length ≤ 63) : Nm.good l = true := by simp only [Nm.good, Bool.and_eq_true, decide_eq_true_eq]; exact h
theorem good_false {l : List UInt8} (h : ¬ (1 ≤ l.length ∧ l.length ≤ 63)) : Nm.good l = false := by
  rcases hg : Nm.good l with _ | _
  · rfl
  · simp only [Nm.good, Bool.and_eq_true, decide_eq_true_eq] at hg; exact absurd hg h
/-- the name with the labels that came: what 'name' answers. -/
def nameR (ls : List (List UInt8)) : Value := if 255 < (Nm.body ls).length + 1 then .tuple #[.string ⟨#[]⟩, .int .i64 2] else .tuple #[sv (Nm.glue ls), .int .i64 0]

end Go.Proofs.Ytpnfkgjcnofjnaa
