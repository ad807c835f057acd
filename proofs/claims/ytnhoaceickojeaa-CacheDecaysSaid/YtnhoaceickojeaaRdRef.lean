/- The document's answer on data: which fields a type has, and what data may be. -/
import Derived.Test.YtnhoaceickojeaaRdPure
import Derived.Test.YtnhoaceickojeaaSplit
import Derived.Test.YtnhoaceickojeaaFold
namespace Go.Proofs.Ytnhoaceickojeaa
open Go.RowKit

theorem rd_cons_of (t : ByteArray) (h : 0 < t.size) : t.data.toList = t[0] :: t.data.toList.drop 1 := by
  have h0 : 0 < t.data.toList.length := by simpa using h
  have e := List.drop_eq_getElem_cons (i := 0) h0
  rw [List.drop_zero] at e
  exact e
/-- what texts answers. -/
def TextsPost (w : World) (o : Option (List (List UInt8))) (e : Ending) (w' : World) : Prop :=
  ∃ v, Below w.heap.size w w' ∧ match o with
    | none => e = .returned (.tuple #[v, .bool false])
    | some ls => e = .returned (.tuple #[v, .bool (decide (0 < ls.length))]) ∧ w'.ownsRow w.heap.size 9 1 v ls.length (svs ls)
theorem texts_no {w w' : World} {l : List UInt8} {v : Value} (hb : Below w.heap.size w w') (h : Rd.tx l = none) : TextsPost w (Rd.tx l) (.returned (.tuple #[v, .bool false])) w' := by
  rw [h]; exact ⟨v, hb, rfl⟩
theorem texts_yes {w w' : World} {l : List UInt8} {v x : Value} {ls : List (List UInt8)} (hb : Below w.heap.size w w') (h : Rd.tx l = some ls) (hx : x = .bool (decide (0 < ls.length))) (ho : w'.ownsRow w.heap.size 9 1 v ls.length (svs ls)) : TextsPost w (Rd.tx l) (.returned (.tuple #[v, x])) w' := by
  rw [h]; exact ⟨v, hb, by rw [hx], ho⟩
end Go.Proofs.Ytnhoaceickojeaa
