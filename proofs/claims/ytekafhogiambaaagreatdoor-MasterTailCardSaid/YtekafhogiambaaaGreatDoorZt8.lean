/- Texts of the proofs, merged. -/
import Derived.Test.YtekafhogiambaaaGreatDoorZt1
namespace Go.Proofs.YtekafhogiambaaaGreatDoor.Nm

def sgn (a b : Nat) : Int := if a < b then -1 else if b < a then 1 else 0
def cmpB : By → By → Int
  | [], [] => 0
  | [], _ :: _ => -1
  | _ :: _, [] => 1
  | a :: s, b :: t => if a = b then cmpB s t else sgn a.toNat b.toNat
/-- labels from the back, small letters. -/
def cmpL : List By → List By → Int
  | [], [] => 0
  | [], _ :: _ => -1
  | _ :: _, [] => 1
  | x :: s, y :: t => if cmpB (fold x) (fold y) = 0 then cmpL s t else cmpB (fold x) (fold y)
def cmpN (a b : By) : Int := match split a, split b with
  | none, none => cmpB a b
  | none, some _ => 1
  | some _, none => -1
  | some x, some y => cmpL x.reverse y.reverse

theorem fold_length (l : By) : (fold l).length = l.length := by simp [fold]
/-- the last k labels of both are alike. -/
def Back (x y : List By) (k : Nat) : Prop := k ≤ x.length ∧ k ≤ y.length ∧ cmpL x.reverse y.reverse = cmpL (x.reverse.drop k) (y.reverse.drop k)
theorem Back.zero (x y : List By) : Back x y 0 := ⟨Nat.zero_le _, Nat.zero_le _, rfl⟩
theorem rev_drop {x : List By} {k : Nat} (h : k < x.length) : x.reverse.drop k = x[x.length - 1 - k] :: x.reverse.drop (k + 1) := by
  have h' : k < x.reverse.length := by simpa using h
  rw [List.drop_eq_getElem_cons h', List.getElem_reverse]
theorem Back.step {x y : List By} {k : Nat} (h : Back x y k) (hx : k < x.length) (hy : k < y.length) (he : cmpB (fold x[x.length - 1 - k]) (fold y[y.length - 1 - k]) = 0) : Back x y (k + 1) := by
  refine ⟨hx, hy, ?_⟩
  rw [h.2.2, rev_drop hx, rev_drop hy, cmpL, if_pos he]
end Go.Proofs.YtekafhogiambaaaGreatDoor.Nm
