/- The document's answer: a name's labels (Split, Labels). -/
import Derived.Test.YtgmemngfkajnbaaDoorLabels
namespace Go.Proofs.YtgmemngfkajnbaaDoor
open Go.RowKit

theorem At.cut {l : List UInt8} {k : Nat} {ps : List (List UInt8)} {t : ByteArray} (h : t.data.toList = l.drop k) (hk : k < l.length) (_ : At l k ps) : ∃ h0 : 0 < t.size, t[0] = l[k] := by
  have hs : t.size = l.length - k := by have := congrArg List.length h; simpa using this
  refine ⟨by omega, ?_⟩
  have e : t.data.toList = l[k] :: l.drop (k + 1) := by rw [h]; exact Nm.drop_cons hk
  have h0 : 0 < t.data.toList.length := by rw [e, List.length_cons]; omega
  have h2 : t.data.toList[0]'h0 = l[k] := by simp only [e, List.getElem_cons_zero]
  rw [← h2]; rfl
theorem At.short {l : List UInt8} {k : Nat} {ps : List (List UInt8)} (h : At l k ps) (hk : k < l.length) (h0 : (l[k]).toNat ≠ 0) (h3 : l.length < k + 1 + (l[k]).toNat) : Nm.sp l = none := by
  rw [h.2.2.2.2, Nm.drop_cons hk, Nm.sp_bad h0 (Or.inr (by simp; omega))]; rfl
theorem At.piece {l : List UInt8} {k : Nat} {t : ByteArray} (h : t.data.toList = l.drop k) (c : Nat) : Value.string (t.extract 1 (c + 1)) = sv ((l.drop (k + 1)).take c) := by
  rw [string_eq (extract_list t 1 (c + 1)), h, List.drop_drop]
  show Value.string _ = Value.string _
  rw [show c + 1 - 1 = c from by omega]
theorem At.left {l : List UInt8} {k : Nat} {t : ByteArray} (h : t.data.toList = l.drop k) (c : Nat) : (t.extract (c + 1) t.size).data.toList = l.drop (k + 1 + c) := by
  have hs : t.size = t.data.toList.length := by simp
  rw [extract_list, List.take_of_length_le (by rw [List.length_drop]; omega), h, List.drop_drop]
  congr 1; omega

def SplitPost (w : World) (o : Option (List (List UInt8))) (e : Ending) (w' : World) : Prop :=
  ∃ v, Below w.heap.size w w' ∧ match o with
    | none => e = .returned (.tuple #[v, .bool false])
    | some ls => e = .returned (.tuple #[v, .bool true]) ∧ w'.ownsRow w.heap.size 9 1 v ls.length (svs ls)

theorem split_no {w w' : World} {l : List UInt8} {v x : Value} (hb : Below w.heap.size w w') (hl : Nm.split l = none) (hx : x = .bool false) : SplitPost w (Nm.split l) (.returned (.tuple #[v, x])) w' := by
  rw [hl]; exact ⟨v, hb, by rw [hx]⟩
theorem split_yes {w w' : World} {l : List UInt8} {v x : Value} {ls : List (List UInt8)} (hb : Below w.heap.size w w') (hl : Nm.split l = some ls) (hx : x = .bool true) (ho : w'.ownsRow w.heap.size 9 1 v ls.length (svs ls)) : SplitPost w (Nm.split l) (.returned (.tuple #[v, x])) w' := by
  rw [hl]; exact ⟨v, hb, by rw [hx], ho⟩
theorem eqb_no {a b : Int} (h : a ≠ b) : Value.bool (a == b) = .bool false := by rw [beq_eq_false_iff_ne.2 h]
theorem eqb_yes {a b : Int} (h : a = b) : Value.bool (a == b) = .bool true := by rw [beq_iff_eq.2 h]

end Go.Proofs.YtgmemngfkajnbaaDoor
