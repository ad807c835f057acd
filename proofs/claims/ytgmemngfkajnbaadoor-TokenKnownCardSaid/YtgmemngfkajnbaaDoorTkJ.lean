/- What holds where the lexer's read jumps. -/
import Derived.Test.YtgmemngfkajnbaaDoorTkStep
import Derived.Test.YtgmemngfkajnbaaDoorTkTwo
import Derived.Test.YtgmemngfkajnbaaDoorTkFr
import Derived.StillTailTactics
namespace Go.Proofs.YtgmemngfkajnbaaDoor
open Go.RowKit

/-- what stays. -/
def KK (w0 : World) (g rc : Nat) (w : World) : Prop := Kb g (rc + 1) w0 w ∧ Has w rc 24 #[.int .i64 0, .int .i64 0] ∧ g < rc
theorem KK.step {w0 w w' : World} {g rc : Nat} (h : KK w0 g rc w) (hk : Kb g (rc + 1) w w') : KK w0 g rc w' := ⟨h.1.trans hk, hk.has h.2.1 (by omega) (by have := h.2.2; omega), h.2.2⟩
theorem KK.lt {w0 w : World} {g rc : Nat} (h : KK w0 g rc w) : rc + 1 ≤ w.heap.size := h.2.1.lt
section
variable (s : ByteArray) (g rc : Nat) (w0 : World)
/-- between words. -/
def J0 (n : Nat) (a : Act) (w : World) : Prop := ∃ at_ lineAt σ st, Fr a g rc st ∧ KK w0 g rc w ∧ LxM w g (rc + 1) s at_ lineAt σ at_ ∧ at_ ≤ s.size ∧ σ.col + lineAt = at_ + 1 ∧ Tk.play (Tk.lx (s.data.toList.drop at_)) σ = Tk.tells s.data.toList ∧ n = 3 * (s.size - at_) + 1
/-- in a bare word. -/
def J4 (n : Nat) (a : Act) (w : World) : Prop := ∃ (b at_ lineAt : Nat) (σ : Tk.St), Fr a g rc (.int .i64 b) ∧ KK w0 g rc w ∧ LxM w g (rc + 1) s at_ lineAt σ b ∧ b < s.size ∧ Tk.ends (nb s b) = false ∧ b ≤ at_ ∧ at_ ≤ s.size ∧ σ.col + lineAt = b + 1 ∧
  at_ + Tk.bareLen (s.data.toList.drop at_) = b + Tk.bareLen (s.data.toList.drop b) ∧ Tk.play (Tk.lx (s.data.toList.drop b)) σ = Tk.tells s.data.toList ∧ n = 3 * (s.size - at_) + if Tk.ends (nb s at_) then 2 else 0
/-- in a quoted word. -/
def J3 (n : Nat) (a : Act) (w : World) : Prop := ∃ (b at_ lineAt : Nat) (σ : Tk.St), Fr a g rc (.int .i64 b) ∧ KK w0 g rc w ∧ LxM w g (rc + 1) s at_ lineAt σ b ∧ b < s.size ∧ (nb s b).toNat = 34 ∧ b + 1 ≤ at_ ∧ at_ ≤ s.size ∧ σ.col + lineAt = b + 1 ∧
  Tk.quoLen (s.data.toList.drop (b + 1)) = (Tk.quoLen (s.data.toList.drop at_)).map (at_ - (b + 1) + ·) ∧ Tk.play (Tk.lx (s.data.toList.drop b)) σ = Tk.tells s.data.toList ∧ n = 3 * (s.size - at_)
/-- in a remark. -/
def J2 (n : Nat) (a : Act) (w : World) : Prop := ∃ (b at_ lineAt : Nat) (σ : Tk.St) (st : Value), Fr a g rc st ∧ KK w0 g rc w ∧ LxM w g (rc + 1) s at_ lineAt σ b ∧ b < s.size ∧ (nb s b).toNat = 59 ∧ b ≤ at_ ∧ at_ ≤ s.size ∧ σ.col + lineAt = b + 1 ∧
  at_ + Tk.remLen (s.data.toList.drop at_) = b + Tk.remLen (s.data.toList.drop b) ∧ Tk.play (Tk.lx (s.data.toList.drop b)) σ = Tk.tells s.data.toList ∧ n = 3 * (s.size - at_) + if (nb s at_).toNat = 10 then 2 else 0
/-- at the end. -/
def J1 (a : Act) (w : World) : Prop := ∃ lineAt σ st, Fr a g rc st ∧ KK w0 g rc w ∧ LxM w g (rc + 1) s s.size lineAt σ s.size ∧ Tk.play [] σ = Tk.tells s.data.toList
def Jl (n l : Nat) (a : Act) (w : World) : Prop :=
  (l = 0 ∧ J0 s g rc w0 n a w) ∨ (l = 1 ∧ J1 s g rc w0 a w) ∨ (l = 2 ∧ J2 s g rc w0 n a w) ∨ (l = 3 ∧ J3 s g rc w0 n a w) ∨ (l = 4 ∧ J4 s g rc w0 n a w)
/-- what read tells: the lexer's row of entries too. -/
def RdP : Ending → World → Prop := fun e w' =>
  Kb g rc w0 w' ∧ match Tk.tells s.data.toList with
    | .err l c x => e = .returned (.tuple #[.agg #[.int .i64 l, .int .i64 c], .int .i64 x])
    | .ok es => e = .returned (.tuple #[.agg #[.int .i64 0, .int .i64 0], .int .i64 0]) ∧ ∃ ve out, w'.cell? ⟨g, 10, none⟩ = some ve ∧ Ers w' (rc + 1) ve out ∧ out.map Ex.en = es
/-- read's code, from its first label on. -/
noncomputable def rdBody : Code := match Tryd.f7.body with | some (Code.seq _ (Code.scope c)) => c | _ => .skip
abbrev Next (n : Nat) (Q : Exit → Act → World → Prop) : Exit → Act → World → Prop := jumps (fun l' a' w' => ∃ n', n' < n ∧ Jl s g rc w0 n' l' a' w') Q
end
end Go.Proofs.YtgmemngfkajnbaaDoor
