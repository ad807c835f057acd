/- The OPT that is known is as it says. -/
import Derived.Test.YtapbcepjcnnkgabEdRec
import Derived.Test.YtapbcepjcnnkgabRrLaw
namespace Go.Proofs.Ytapbcepjcnnkgab
open Go.RowKit Go.Sort Go.Shelf

def ev0 : Ev := ⟨1232, 0, 0, 32768, ⟨#[]⟩⟩
def ev1 : Ev := ⟨0, 0, 0, 0, ⟨#[]⟩⟩
set_option maxRecDepth 100000 in
set_option maxHeartbeats 1000000 in
theorem edWakes (w : World) : Calls Try.prog 4 #[] w fun e w' => e = .returned (.bool true) ∧ Below w.heap.size w w' := by
  have hR : ev0.outR = ⟨⟨#[0]⟩, 41, 1232, 32768, ⟨⟨#[]⟩, ⟨#[]⟩, ⟨#[]⟩, 0, 0, 0, 0, 0⟩⟩ := by kernel_rfl
  have hE : ev0.err = 0 := by kernel_rfl
  have HR : Hid (∀ W : World, Calls Try.prog 7 #[.agg #[.int .u16 1232, .int .u8 0, .int .u8 0, .int .u16 32768, .string ⟨#[]⟩]] W fun e w' => e = .returned (.tuple #[.agg #[.string ⟨#[0]⟩, .int .u16 41, .int .u16 1232, .int .u32 32768, .string ⟨#[]⟩, .string ⟨#[]⟩, .string ⟨#[]⟩, .int .u32 0, .int .u32 0, .int .u32 0, .int .u32 0, .int .u32 0], .int .i64 0]) ∧ Below W.heap.size W w') := fun W => by
    have h := rec_any ev0 ⟨by decide, by decide, by decide, by decide⟩ (by decide) W
    rw [hR, hE] at h
    exact h
  have HL : Hid (∀ W : World, Calls Try.prog 5 #[.bool false, .agg #[.int .u16 0, .int .u8 0, .int .u8 0, .int .u16 0, .string ⟨#[]⟩], .int .i64 4096] W fun e w' => e = .returned (.int .i64 512) ∧ Below W.heap.size W w') := fun W => by
    have h := lim_any false ev1 ⟨by decide, by decide, by decide, by decide⟩ 4096 W
    rw [show limV false ev1.size 4096 = 512 from by simp [limV]] at h
    exact h
  clear hR hE
  have hi12 : (Try.prog.info? 40).map (·.size) = some 12 := by kernel_rfl
  have HI := Lib.hid hi12
  clear hi12
  have hq : ((⟨#[0]⟩ : ByteArray).toList == (⟨#[0]⟩ : ByteArray).toList) = true := beq_self_eq_true _
  go_enter Try.func4, Try.ntmps4
  go_wp2_with (first
    | (go_at_call 7; refine (HR.out _).mono ?_; rintro e w1 ⟨rfl, B1⟩; have HB1 := Lib.hid B1; clear B1)
    | (go_at_call 5; refine (HL.out _).mono ?_; rintro e w3 ⟨rfl, B3⟩; have HB3 := Lib.hid ((HB1.out.alloc HB1.out.size _).trans (B3.mono (HB1.out.alloc HB1.out.size _).size)); clear B3))
  go_ret
  exact ⟨rfl, HB3.out⟩
end Go.Proofs.Ytapbcepjcnnkgab
