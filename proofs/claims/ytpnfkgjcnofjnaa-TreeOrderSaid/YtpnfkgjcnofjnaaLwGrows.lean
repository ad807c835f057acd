/- The statements' example. -/
import Derived.Test.YtpnfkgjcnofjnaaLwGrown
namespace Go.Proofs.Ytpnfkgjcnofjnaa.Ti
open Go.RowKit Go.Shelf Tr

def exL : List By := [[1, 66, 1, 97, 0], [1, 97, 0]]
set_option maxRecDepth 100000 in
theorem ex_len : (nents (growN exL 0 rootN)).length = 2 := by kernel_rfl
set_option maxRecDepth 100000 in
theorem ex_next : nextR (growN exL 0 rootN) [1, 97, 0] = some [1, 98, 1, 97, 0] := by kernel_rfl
theorem ex_ask {w : World} {b : Nat} {m : No TV} {F : List Nat} (h : TM w b m F) (hm : nextR m [1, 97, 0] = some [1, 98, 1, 97, 0]) :
    Calls Try.prog 25 #[ptr b, .string ⟨#[1, 97, 0]⟩] w fun e w' => e = .returned (.tuple #[.string ⟨#[1, 98, 1, 97, 0]⟩, .bool true]) ∧ Below w.heap.size w w' := by
  have h1 := Next_any h ⟨#[1, 97, 0]⟩ (by decide)
  have e : (⟨#[1, 97, 0]⟩ : ByteArray).data.toList = [1, 97, 0] := rfl
  rw [e, hm] at h1
  exact h1
set_option maxRecDepth 100000 in
set_option maxHeartbeats 1000000 in
theorem grows_any (w : World) : Calls Try.prog 29 #[] w fun e w' => e = .returned (.bool true) ∧ Below w.heap.size w w' := by
  have hrd : Rd (w.alloc (.cells #[.string ⟨#[1, 66, 1, 97, 0]⟩, .string ⟨#[1, 97, 0]⟩] 28)) (w.alloc (.cells #[.string ⟨#[1, 66, 1, 97, 0]⟩, .string ⟨#[1, 97, 0]⟩] 28)).heap.size (.slice (some ⟨w.heap.size, 0, none⟩) 2 2) exL := by
    refine ⟨_, _, rfl, Nat.le_refl _, fun _ => ⟨w.heap.size, 0, rfl, by simp, fun j hj => ?_⟩⟩
    have hj2 : j < 2 := hj
    rw [(Has.fresh w 28 #[.string ⟨#[1, 66, 1, 97, 0]⟩, .string ⟨#[1, 97, 0]⟩]).cell]
    match j, hj2 with
    | 0, _ => rfl
    | 1, _ => rfl
  have hg := grown_any _ (n := 2) rfl hrd (by decide) (by decide)
  simp only [World.size_alloc] at hg
  have HG := Lib.hid hg
  clear hg
  have hlen := ex_len
  have hnext := ex_next
  generalize growN exL 0 rootN = m at *
  have HLEN := Lib.hid hlen
  have HNEXT := Lib.hid hnext
  clear hrd hlen hnext
  go_enter Try.func29, Try.ntmps29
  go_wp2_with (first
    | (go_at_call 22; refine HG.out.mono ?_; rintro e w1 ⟨rfl, ⟨F, hT, hF⟩, hb1, _⟩; have hl := Len_any hT; rw [HLEN.out] at hl; have HL := Lib.hid hl; have HNX := Lib.hid (ex_ask hT HNEXT.out); clear hT hF hl)
    | (go_at_call 11; refine HL.out.mono ?_; rintro e w2 ⟨rfl, rfl⟩)
    | (go_at_call 25; refine HNX.out.mono ?_; rintro e w3 ⟨rfl, hb3⟩))
  go_ret
  have hb2 : Below w.heap.size w w2 := ((Below.refl w.heap.size w).alloc (Nat.le_refl _) _).trans (hb1.mono (by omega))
  exact ⟨rfl, hb2.trans (hb3.mono hb2.size)⟩
end Go.Proofs.Ytpnfkgjcnofjnaa.Ti
