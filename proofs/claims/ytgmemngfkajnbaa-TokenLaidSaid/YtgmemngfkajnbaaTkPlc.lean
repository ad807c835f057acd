/- Where lines begin: places; a blank. -/
import Derived.Test.YtgmemngfkajnbaaTkReads
import Derived.Test.YtgmemngfkajnbaaTkPls
namespace Go.Proofs.Ytgmemngfkajnbaa
open Go.RowKit

set_option maxRecDepth 100000 in
theorem blank_any (c : UInt8) (w : World) : Calls Try.prog 11 #[.int .u8 (c.toNat : Int)] w fun e w' => e = .returned (.bool (Tk.blank c)) ∧ w' = w := by
  have h8 := c.toNat_lt
  have HB : Hid (Tk.blank c = (((c.toNat : Int) == 32) || ((c.toNat : Int) == 9) || ((c.toNat : Int) == 13))) := by
    unfold Hid Tk.blank
    congr 1
    · congr 1 <;> (rw [Bool.eq_iff_iff]; simp; omega)
    · rw [Bool.eq_iff_iff]; simp; omega
  rw [HB.out]
  by_cases h1 : ((c.toNat : Int) == 32) = true
  · rw [h1]
    go_enter Try.func11, Try.ntmps11
    go_wp2
    go_ret
    exact ⟨rfl, rfl⟩
  · simp only [Bool.not_eq_true] at h1
    by_cases h2 : ((c.toNat : Int) == 9) = true
    · rw [h1, h2]
      go_enter Try.func11, Try.ntmps11
      go_wp2
      go_ret
      exact ⟨rfl, rfl⟩
    · simp only [Bool.not_eq_true] at h2
      rw [h1, h2]
      go_enter Try.func11, Try.ntmps11
      go_wp2
      go_ret
      exact ⟨rfl, rfl⟩
/-- ints as values. -/
def iv (l : List Nat) : List Value := l.map fun (n : Nat) => Value.int .i64 (n : Int)
theorem iv_append (a b : List Nat) : iv (a ++ b) = iv a ++ iv b := by simp [iv]
theorem iv_get {l : List Nat} {j n : Nat} (h : l[j]? = some n) : (iv l)[j]? = some (.int .i64 (n : Int)) := by simp [iv, h]
theorem info_int : ∃ i z, Try.prog.info? 3 = some i ∧ i.zero = some z ∧ i.size = 1 ∧ i.bytes = 8 ∧ z.cells.size = 1 := by
  refine ⟨_, _, rfl, rfl, ?_, ?_, ?_⟩ <;> kernel_rfl
theorem own_fresh {w : World} {g b : Nat} {t : TypeId} {u : Value} (h : Has w g t #[u]) (hb : b ≤ g) : w.ownsRow b t 1 (.slice (some ⟨g, 0, none⟩) 1 1) 1 [u] :=
  ⟨by simp, .inr ⟨g, 1, #[u], rfl, hb, h, Nat.le_refl _, by decide, rfl, rfl⟩⟩
theorem plF_step {l : List UInt8} {k : Nat} (hk : k < l.length) : Tk.pls (l.take (k + 1)) = Tk.pls (l.take k) ++ if l[k].toNat = 10 then [k + 1] else [] := by
  rw [List.take_succ_eq_append_getElem hk, Tk.pls, Tk.pls, Tk.plF_append, List.cons_append, Tk.plF, Tk.plF]
  have : (l.take k).length = k := by rw [List.length_take]; omega
  rw [this, Nat.zero_add]
theorem pls_len : ∀ (l : List UInt8) (p : Nat), (Tk.plF l p).length ≤ l.length
  | [], _ => Nat.le_refl _
  | c :: r, p => by
    have := pls_len r (p + 1)
    rw [Tk.plF, List.length_cons]
    split
    · rw [List.length_cons]; omega
    · omega
theorem pls_le (l : List UInt8) (k : Nat) : (Tk.pls (l.take k)).length ≤ k + 1 := by
  have := pls_len (l.take k) 0
  rw [Tk.pls, List.length_cons]
  rw [List.length_take] at this
  omega
end Go.Proofs.Ytgmemngfkajnbaa
