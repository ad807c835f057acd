/- Glue, Of, Labels: the document's answers that make names of labels. -/
import Derived.Test.YtpnfkgjcnofjnaaBase
import Derived.RegionTactic
import Derived.ChangeAlike
import Derived.BigRegion
namespace Go.Proofs.Ytpnfkgjcnofjnaa
open Go.RowKit

theorem body_snoc (a : List (List UInt8)) (l : List UInt8) : Nm.body (a ++ [l]) = Nm.body a ++ Nm.lab l := by rw [Nm.body_append]; simp [Nm.body]

theorem body_len {ls : List (List UInt8)} (h : ∀ l ∈ ls, l.length ≤ 255) : (Nm.body ls).length ≤ 256 * ls.length := by
  induction ls with
  | nil => simp [Nm.body]
  | cons a ls ih =>
    have := ih (fun x hx => h x (by simp [hx]))
    have := h a (by simp)
    rw [Nm.body_cons, List.length_append, Nm.lab_length, List.length_cons]; omega

set_option maxHeartbeats 1000000 in
set_option maxRecDepth 100000 in
theorem Glue_any (B : Nat) (v : Value) (ls : List (List UInt8)) (w : World) (hr : Rd w B v ls) (hB : B ≤ w.heap.size) (hl : ls.length ≤ 140737488355328) (hm : ∀ l ∈ ls, l.length ≤ 255) :
    Calls Try.prog 60 #[v] w fun e w' => e = .returned (sv (Nm.glue ls)) ∧ Below w.heap.size w w' := by
  obtain ⟨A, c, rfl, _, ra⟩ := hr
  have RA := Lib.hid ra
  have HM := Lib.hid hm
  clear ra hm
  go_enter Try.func60, Try.ntmps60
  go_wp2
  go_loopw [3, 4] (fun t i wr => ∃ k : Nat, i = .int .i64 k ∧ k ≤ ls.length ∧ t = sv (Nm.body (ls.take k)) ∧ Below w.heap.size w wr) (fun _ i _ => ls.length - (intOf i).toNat)
  case atStart => exact ⟨0, rfl, Nat.zero_le _, rfl, Below.refl _ _⟩
  case round =>
    obtain ⟨k, rfl, hk, rfl, hb⟩ := hrel
    have HB := Lib.hid hb
    have hbs := hb.size
    clear hb
    by_cases hlt : k < ls.length
    · obtain ⟨g, o, rfl, hg, ca⟩ := RA.out (by omega)
      have hc : wr.cell? ⟨g, o + k, none⟩ = some (sv ls[k]) := (HB.out.cell (p := ⟨g, o + k, none⟩) (by show g < _; omega)).trans (ca k hlt)
      have hc2 : ∀ X : Obj, (wr.alloc X).cell? ⟨g, o + k, none⟩ = some (sv ls[k]) := fun X => (World.cell?_alloc_lt wr X _ (by show g < _; omega)).trans hc
      have hml := HM.out ls[k] (List.getElem_mem hlt)
      have HTS : Hid (Nm.body (ls.take (k + 1)) = Nm.body (ls.take k) ++ Nm.lab ls[k]) := by rw [Hid, List.take_succ_eq_append_getElem hlt, body_snoc]
      have hbk := body_len (ls := ls.take k) (fun x hx => HM.out x (List.mem_of_mem_take hx))
      have htl : (ls.take k).length ≤ k := List.length_take_le _ _
      have hbk2 : (Nm.body (ls.take k)).length ≤ 256 * k := by omega
      clear ca hbk htl
      generalize ls[k] = l at *
      generalize Nm.body (ls.take k) = bk at *
      have hcv : ∀ W : World, W.cell? ⟨wr.heap.size, 0, none⟩ = some (.int .u8 (l.length : Nat)) → (convert 123 9 (.slice (some ⟨wr.heap.size, 0, none⟩) 1 1)).run Try.prog W = .ok (.string ⟨#[UInt8.ofNat l.length]⟩) W := fun W hW =>
        run_convert_bytes_back W 123 9 5 ⟨wr.heap.size, 0, none⟩ 1 [UInt8.ofNat l.length] Try.underlying123 Try.underlying5 Try.underlying9 (fun j hj => by
          have : j = 0 := by simpa using hj
          subst this
          have e : (UInt8.ofNat l.length).toNat = l.length := by simp; omega
          show W.cell? ((⟨wr.heap.size, 0, none⟩ : Addr).add 0) = some (.int .u8 ((UInt8.ofNat l.length).toNat : Nat))
          rw [e]; exact hW)
      go_wp2
      go_region
      all_goals
        go_wp2
        go_roundw
        case rel =>
          refine ⟨k + 1, by go_num, by omega, ?_, (HB.out.alloc hbs _).drew⟩
          rw [HTS.out]
          show Value.string (⟨bk.toArray⟩ ++ ⟨#[UInt8.ofNat l.length]⟩ ++ ⟨l.toArray⟩) = _
          rw [string_eq (s := ⟨bk.toArray⟩ ++ ⟨#[UInt8.ofNat l.length]⟩ ++ ⟨l.toArray⟩) (l := bk ++ Nm.lab l) (by rw [ByteArray.data_append, ByteArray.data_append, Nm.lab]; simp)]
        case measure => simp [intOf]; omega
    · obtain rfl : k = ls.length := by omega
      have HTS : Hid (Nm.body (ls.take ls.length) = Nm.body ls) := by rw [Hid, List.take_length]
      have hbk := body_len (ls := ls) HM.out
      rw [HTS.out]
      go_wp2
      go_ret
      refine ⟨?_, HB.out⟩
      show Ending.returned (.string (⟨(Nm.body ls).toArray⟩ ++ ⟨#[0]⟩)) = _
      rw [string_eq (s := ⟨(Nm.body ls).toArray⟩ ++ ⟨#[0]⟩) (l := Nm.glue ls) (by rw [Nm.glue, ByteArray.data_append]; simp)]
end Go.Proofs.Ytpnfkgjcnofjnaa
