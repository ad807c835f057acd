/- The lexer's small calls. -/
import Derived.Test.YtgmemngfkajnbaaDoorMem
import Derived.Test.YtgmemngfkajnbaaDoorTkPure
namespace Go.Proofs.YtgmemngfkajnbaaDoor
open Go.RowKit

set_option maxRecDepth 100000 in
theorem isBlank_any (c : UInt8) (w : World) : Calls Tryd.prog 20 #[.int .u8 (c.toNat : Int)] w fun e w' => e = .returned (.bool (Tk.blank c)) ∧ w' = w := by
  have h8 := c.toNat_lt
  have HB : Hid (Tk.blank c = (((c.toNat : Int) == 32) || ((c.toNat : Int) == 9) || ((c.toNat : Int) == 13))) := by
    unfold Hid Tk.blank
    congr 1
    · congr 1 <;> (rw [Bool.eq_iff_iff]; simp; omega)
    · rw [Bool.eq_iff_iff]; simp; omega
  rw [HB.out]
  by_cases h1 : ((c.toNat : Int) == 32) = true
  · rw [h1]
    go_enter Tryd.func20, Tryd.ntmps20
    go_wp2
    go_ret
    exact ⟨rfl, rfl⟩
  · simp only [Bool.not_eq_true] at h1
    by_cases h2 : ((c.toNat : Int) == 9) = true
    · rw [h1, h2]
      go_enter Tryd.func20, Tryd.ntmps20
      go_wp2
      go_ret
      exact ⟨rfl, rfl⟩
    · simp only [Bool.not_eq_true] at h2
      rw [h1, h2]
      go_enter Tryd.func20, Tryd.ntmps20
      go_wp2
      go_ret
      exact ⟨rfl, rfl⟩
set_option maxRecDepth 100000 in
theorem endsBare_any (c : UInt8) (w : World) : Calls Tryd.prog 14 #[.int .u8 (c.toNat : Int)] w fun e w' => e = .returned (.bool (Tk.ends c)) ∧ w' = w := by
  have h8 := c.toNat_lt
  have key : ∀ n : Nat, c.toNat = n → n = 10 ∨ n = 59 ∨ n = 40 ∨ n = 41 ∨ n = 34 → Calls Tryd.prog 14 #[.int .u8 (n : Int)] w fun e w' => e = .returned (.bool true) ∧ w' = w := by
    intro n _ h
    rcases h with rfl | rfl | rfl | rfl | rfl <;>
    · go_enter Tryd.func14, Tryd.ntmps14
      go_wp2
      go_ret
      exact ⟨rfl, rfl⟩
  by_cases h : c.toNat = 10 ∨ c.toNat = 59 ∨ c.toNat = 40 ∨ c.toNat = 41 ∨ c.toNat = 34
  · have : Tk.ends c = true := by
      unfold Tk.ends
      rcases h with h | h | h | h | h <;> simp [h]
    rw [this]
    exact key _ rfl h
  · have e : Tk.ends c = Tk.blank c := by
      unfold Tk.ends
      have h1 : (c.toNat == 10) = false := beq_eq_false_iff_ne.2 (by omega)
      have h2 : (c.toNat == 59) = false := beq_eq_false_iff_ne.2 (by omega)
      have h3 : (c.toNat == 40) = false := beq_eq_false_iff_ne.2 (by omega)
      have h4 : (c.toNat == 41) = false := beq_eq_false_iff_ne.2 (by omega)
      have h5 : (c.toNat == 34) = false := beq_eq_false_iff_ne.2 (by omega)
      rw [h1, h2, h3, h4, h5]
      rfl
    rw [e]
    have h1 : ((c.toNat : Int) == 10) = false := beq_eq_false_iff_ne.2 (by omega)
    have h2 : ((c.toNat : Int) == 59) = false := beq_eq_false_iff_ne.2 (by omega)
    have h3 : ((c.toNat : Int) == 40) = false := beq_eq_false_iff_ne.2 (by omega)
    have h4 : ((c.toNat : Int) == 41) = false := beq_eq_false_iff_ne.2 (by omega)
    have h5 : ((c.toNat : Int) == 34) = false := beq_eq_false_iff_ne.2 (by omega)
    clear e h
    go_enter Tryd.func14, Tryd.ntmps14
    go_wp2_with (go_at_call 20; refine (isBlank_any c _).mono ?_; rintro e w1 ⟨rfl, rfl⟩)
    go_ret
    exact ⟨rfl, rfl⟩

/-- the lexer's cells. -/
def lxc (s : ByteArray) (at_ line lineAt dep fl fc : Nat) (bl : Bool) (el : Nat) (vw ve : Value) : Array Value :=
  #[.string s, .int .i64 at_, .int .i64 line, .int .i64 lineAt, .int .i64 dep, .int .i64 fl, .int .i64 fc, .bool bl, .int .i64 el, vw, ve]
/-- the byte that comes next. -/
def nb (s : ByteArray) (at_ : Nat) : UInt8 := s.data.toList.getD at_ 10

set_option maxRecDepth 100000 in
theorem atEnd_any (s : ByteArray) (at_ line lineAt dep fl fc : Nat) (bl : Bool) (el : Nat) (vw ve : Value) (g : Nat) (w : World) (h : Has w g 41 (lxc s at_ line lineAt dep fl fc bl el vw ve)) :
    Calls Tryd.prog 12 #[.pointer (some ⟨g, 0, none⟩)] w fun e w' => e = .returned (.bool ((at_ : Int) == (s.size : Int))) ∧ ∃ n, w' = w.drewN n := by
  have H0 : w.cell? ⟨g, 0, none⟩ = some (.string s) := h.cell 0
  have H1 : w.cell? ⟨g, 1, none⟩ = some (.int .i64 at_) := h.cell 1
  clear h
  go_enter Tryd.func12, Tryd.ntmps12
  go_wp2
  go_quiet (fail)
  go_wp2
  go_ret
  exact ⟨rfl, _, rfl⟩

set_option maxRecDepth 100000 in
theorem next_any (s : ByteArray) (at_ line lineAt dep fl fc : Nat) (bl : Bool) (el : Nat) (vw ve : Value) (g : Nat) (w : World) (h : Has w g 41 (lxc s at_ line lineAt dep fl fc bl el vw ve)) (hat : at_ ≤ s.size) :
    Calls Tryd.prog 11 #[.pointer (some ⟨g, 0, none⟩)] w fun e w' => e = .returned (.int .u8 ((nb s at_).toNat : Int)) ∧ ∃ n, w' = w.drewN n := by
  have HE := Lib.hid (fun W (hW : Has W g 41 (lxc s at_ line lineAt dep fl fc bl el vw ve)) => atEnd_any s at_ line lineAt dep fl fc bl el vw ve g W hW)
  have H := Lib.hid h
  clear h
  by_cases he : at_ = s.size
  · have hq : ((at_ : Int) == (s.size : Int)) = true := beq_iff_eq.2 (by omega)
    rw [hq] at HE
    have HN : Hid ((nb s at_).toNat = 10) := by
      unfold Hid nb
      rw [List.getD_eq_getElem?_getD, List.getElem?_eq_none (by simp [he])]
      rfl
    rw [HN.out]
    clear hat hq he
    go_enter Tryd.func11, Tryd.ntmps11
    go_wp2_with (go_at_call 12; refine (HE.out _ H.out).mono ?_; rintro e w1 ⟨rfl, n, rfl⟩)
    go_ret
    exact ⟨rfl, _, rfl⟩
  · have hq : ((at_ : Int) == (s.size : Int)) = false := beq_eq_false_iff_ne.2 (by omega)
    rw [hq] at HE
    have hlt : at_ < s.size := by omega
    have HN : Hid (nb s at_ = s[at_]) := by
      unfold Hid nb
      rw [List.getD_eq_getElem?_getD, List.getElem?_eq_getElem (by simpa using hlt)]
      rfl
    rw [HN.out]
    clear hat hq he
    have H0 : Hid (∀ n, (w.drewN n).cell? ⟨g, 0, none⟩ = some (.string s)) := fun n => H.out.cell 0
    have H1 : Hid (∀ n, (w.drewN n).cell? ⟨g, 1, none⟩ = some (.int .i64 at_)) := fun n => H.out.cell 1
    go_enter Tryd.func11, Tryd.ntmps11
    go_wp2_with (go_at_call 12; refine (HE.out _ H.out).mono ?_; rintro e w1 ⟨rfl, n, rfl⟩; have H0' := H0.out n; have H1' := H1.out n; generalize hW : w.drewN n = W at *; have HW := Lib.hid hW; clear hW)
    go_quiet (fail)
    go_wp2
    go_ret
    exact ⟨rfl, n + _, by rw [← HW.out, World.drewN_drewN]⟩
end Go.Proofs.YtgmemngfkajnbaaDoor
