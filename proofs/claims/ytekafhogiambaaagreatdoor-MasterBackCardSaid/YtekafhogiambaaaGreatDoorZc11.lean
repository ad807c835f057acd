/- Texts of the proofs, merged. -/
import Derived.Test.YtekafhogiambaaaGreatDoorZc1
namespace Go.Proofs.YtekafhogiambaaaGreatDoor.Nm
def sgn (a b : Nat) : Int:=if a < b then -1 else if b < a then 1 else 0
def cmpB : By → By → Int
 | [], []=>0
 | [],_ :: _ => -1
 | _ :: _, []=>1
 | a :: s,b :: t=>if a = b then cmpB s t else sgn a.toNat b.toNat
def cmpL : List By → List By → Int
 | [], []=>0
 | [],_ :: _ => -1
 | _ :: _, []=>1
 | x :: s,y :: t=>if cmpB (fold x) (fold y) = 0 then cmpL s t else cmpB (fold x) (fold y)
def cmpN (a b : By) : Int:=match split a,split b with
 | none,none=>cmpB a b
 | none,some _=>1
 | some _,none => -1
 | some x,some y=>cmpL x.reverse y.reverse
theorem fold_length (l : By) : (fold l).length = l.length:=by simp [fold]
def Back (x y : List By) (k : Nat) : Prop:=k ≤ x.length ∧ k ≤ y.length ∧ cmpL x.reverse y.reverse = cmpL (x.reverse.drop k) (y.reverse.drop k)
theorem Back.zero (x y : List By) : Back x y 0:=⟨Nat.zero_le _,Nat.zero_le _,rfl⟩
end Go.Proofs.YtekafhogiambaaaGreatDoor.Nm
