/- Texts of the proofs, merged. -/
import Derived.Test.YtekafhogiambaaaGreatDoorZc19
import Derived.Test.YtekafhogiambaaaGreatDoorZc21
namespace Go.Proofs.YtekafhogiambaaaGreatDoor
open Go.RowKit
theorem quiet_same {P : Program} {f : FuncId} {args : Array Value} {w : World} {n : Nat} {v : Value} (h : Calls P f args (w.drewN n) fun e w' => e = .returned v ∧ w.drewN n = w') :
 Calls P f args (w.drewN n) fun e w'' => e = .returned v ∧ ∃ m,w'' = w.drewN m:=h.mono fun _ _ ⟨he,hw⟩=>⟨he,n,hw.symm⟩
theorem below_qn (B : Nat) (W : World) (n : Nat) : Below B W (W.drewN n):=below_q B rfl
section
variable {g B i j e c p : Nat} {A : Option Addr} {L : List UInt8} {d : Dv} {hl ml : List (List UInt8)} {ps : List Nat} {W : World}
end
end Go.Proofs.YtekafhogiambaaaGreatDoor
