/- Is a text a name? The document's answer. And what is above a name. -/
import Derived.Test.YtpnfkgjcnofjnaaMgL
import Derived.Test.YtpnfkgjcnofjnaaTrName
import Derived.Test.YtpnfkgjcnofjnaaRefs
import Derived.Test.YtpnfkgjcnofjnaaCmpRef
import Derived.Test.YtpnfkgjcnofjnaaShut
namespace Go.Proofs.Ytpnfkgjcnofjnaa
open Go.RowKit
theorem refIs_any (s : ByteArray) (w : World) (hs : s.size ≤ 140737488355328) :
    Calls Try.prog 27 #[.string s] w fun e w' => e = .returned (.bool (Tr.isN s.data.toList)) ∧ Below w.heap.size w w' := by
  unfold Tr.isN
  cases h : Nm.split s.data.toList with
  | none =>
    have HC := Lib.hid (Split_no s w hs h)
    clear h
    go_enter Try.func27, Try.ntmps27
    go_wp2_with (go_at_call 55; refine HC.out.mono ?_; rintro e w1 ⟨v, rfl, hb1⟩)
    go_ret
    exact ⟨rfl, hb1⟩
  | some ls =>
    have HC := Lib.hid (Split_yes s ls w hs h)
    clear h
    go_enter Try.func27, Try.ntmps27
    go_wp2_with (go_at_call 55; refine HC.out.mono ?_; rintro e w1 ⟨ad, cp, rfl, ho, hb1⟩)
    go_ret
    exact ⟨rfl, hb1⟩
end Go.Proofs.Ytpnfkgjcnofjnaa
namespace Go.Proofs.Ytpnfkgjcnofjnaa.Tr
/-- what is above a name, as a text. -/
def kn (q : List By) (a : Nat) : By := Nm.glue (q.take a).reverse
theorem kn_zero (q : List By) : kn q 0 = [0] := rfl
theorem kn_succ {q : List By} {a : Nat} (h : a < q.length) : kn q (a + 1) = Nm.lab q[a] ++ kn q a := by
  unfold kn
  rw [List.take_succ_eq_append_getElem h, List.reverse_append]
  simp [Nm.glue, Nm.body]
theorem kn_len {q : List By} {a : Nat} (h : a < q.length) : (kn q a).length < (kn q (a + 1)).length := by
  rw [kn_succ h]; simp [Nm.lab]; omega
theorem kn_mono {q : List By} : ∀ {a b : Nat}, a < b → b ≤ q.length → (kn q a).length < (kn q b).length
  | a, 0, h, _ => by omega
  | a, b + 1, h, hb => by
    rcases Nat.lt_or_ge a b with h1 | h1
    · exact Nat.lt_trans (kn_mono h1 (by omega)) (kn_len (by omega))
    · have : a = b := by omega
      subst this; exact kn_len (by omega)
theorem kn_inj {q : List By} {a b : Nat} (ha : a ≤ q.length) (hb : b ≤ q.length) : kn q a = kn q b ↔ a = b := by
  constructor
  · intro h
    rcases Nat.lt_trichotomy a b with h1 | h1 | h1
    · have := kn_mono h1 hb; rw [h] at this; omega
    · exact h1
    · have := kn_mono h1 ha; rw [h] at this; omega
  · rintro rfl; rfl
theorem kn_ne {q : List By} {a : Nat} : kn q a ≠ [] := by unfold kn Nm.glue; simp
theorem kn_parent {s : By} (hs : isN s = true) {a : Nat} (ha : a ≤ (pth s).length) : parentR (kn (pth s) a) = match a with
    | 0 => no_
    | b + 1 => yes_ (kn (pth s) b) := by
  obtain ⟨h1, h2, h3⟩ := up_name hs a
  have e : labelsOf (kn (pth s) a) = ((pth s).take a).reverse := by
    have : pth (kn (pth s) a) = (pth s).take a := h2
    rw [show pth (kn (pth s) a) = (labelsOf (Nm.fold (kn (pth s) a))).reverse from rfl, show Nm.fold (kn (pth s) a) = kn (pth s) a from h3] at this
    have h4 := congrArg List.reverse this
    rw [List.reverse_reverse] at h4
    exact h4
  unfold parentR
  rw [e]
  cases a with
  | zero => rfl
  | succ b =>
    rw [List.take_succ_eq_append_getElem (by omega), List.reverse_append]
    rfl
theorem kn_all {s : By} (h : isN s = true) : kn (pth s) (pth s).length = Nm.fold s := by
  unfold kn
  rw [List.take_of_length_le (Nat.le_refl _), fold_name h]
end Go.Proofs.Ytpnfkgjcnofjnaa.Tr
