/- What TokenTail's walk wants: lines; a list of entries copied. -/
import Derived.Test.YtbmobaomnfchkaaTkOwn
import Derived.Test.YtbmobaomnfchkaaTkPlc
import Derived.Test.YtbmobaomnfchkaaTkCat
namespace Go.Proofs.Ytbmobaomnfchkaa
open Go.RowKit

theorem lfs_step {l : List UInt8} {k : Nat} (hk : k < l.length) : Tk.lfs (l.take (k + 1)) = Tk.lfs (l.take k) + if l[k].toNat = 10 then 1 else 0 := by
  rw [List.take_succ_eq_append_getElem hk, Tk.lfs_append]
  simp [Tk.lfs]
theorem lfs_le : ∀ (l : List UInt8), Tk.lfs l ≤ l.length
  | [] => Nat.le_refl _
  | c :: r => by
    have := lfs_le r
    rw [Tk.lfs, List.length_cons]
    split <;> omega
set_option maxHeartbeats 1000000 in
set_option maxRecDepth 100000 in
theorem lines_any (s : ByteArray) (w : World) (hs : s.size ≤ 1048576) : Calls Try.prog 18 #[.string s] w fun e w' => e = .returned (.int .i64 (Tk.lfs s.data.toList)) ∧ w' = w := by
  have hl : s.data.toList.length = s.size := by simp
  have HL := Lib.hid hl
  clear hl
  go_enter Try.func18, Try.ntmps18
  go_wp2
  go_loopw [3, 4] (fun v i wr => ∃ k m : Nat, i = .int .i64 k ∧ v = .int .i64 m ∧ Hid (m = Tk.lfs (s.data.toList.take k)) ∧ k ≤ s.size ∧ wr = w) (fun _ i _ => s.size - (intOf i).toNat)
  case atStart => exact ⟨0, 0, rfl, rfl, rfl, Nat.zero_le _, rfl⟩
  case round =>
    obtain ⟨k, m, rfl, rfl, HM, hk, rfl⟩ := hrel
    by_cases hlt : k < s.size
    · have hkl : k < s.data.toList.length := by rw [HL.out]; exact hlt
      have HST := Lib.hid (lfs_step hkl)
      have hbt : s.data.toList[k] = s[k] := rfl
      rw [hbt] at HST
      have hmk : m ≤ k := by
        have h := lfs_le (s.data.toList.take k)
        rw [← HM.out, List.length_take] at h
        omega
      have hlti : (k : Int) < (s.size : Int) := by omega
      by_cases h10 : s[k].toNat = 10
      · rw [if_pos h10] at HST
        have hq : ((s[k].toNat : Int) == 10) = true := beq_iff_eq.2 (by omega)
        clear h10 hbt
        go_wp2
        go_roundw
        case rel => exact ⟨k + 1, m + 1, by go_num, by go_num, by rw [Hid, HST.out, HM.out], by omega, trivial⟩
        case measure => simp [intOf]; omega
      · have HST2 : Hid (Tk.lfs (s.data.toList.take (k + 1)) = Tk.lfs (s.data.toList.take k)) := by
          rw [Hid, HST.out, if_neg h10]
          rfl
        have hq : ((s[k].toNat : Int) == 10) = false := beq_eq_false_iff_ne.2 (by omega)
        clear h10 hbt
        go_wp2
        go_roundw
        case rel => exact ⟨k + 1, m, by go_num, rfl, by rw [Hid, HST2.out, HM.out], by omega, trivial⟩
        case measure => simp [intOf]; omega
    · obtain rfl : k = s.size := by omega
      go_wp2
      go_ret
      have h := HM.out
      rw [List.take_of_length_le (by simp)] at h
      exact ⟨by rw [h]; rfl, rfl⟩

/-- a list of entries is copied: a row of its own. -/
theorem run_copy {w : World} {b : Nat} {ve : Value} {out : List Ex} (h : Ers w b ve out) (hb : b ≤ w.heap.size) (hn : out.length ≤ 1048576) :
    ∃ v' w', (Builtin.append_ #[22, 22] 22 #[.slice none 0 0, ve]).run Try.prog w = .ok v' w' ∧ Ers w' b v' out ∧ (∀ q, v'.ownBlock = some q → w.heap.size ≤ q) ∧ w.grownBy w' none := by
  obtain ⟨i3, z3, hi3, hz3, hs3, hb3, hc3⟩ := info_entry
  rcases h.own.2 with ⟨rfl, h0⟩ | ⟨g, cap, cur, rfl, hbg, hg, hnc, hcm, hcs, htk⟩
  · obtain rfl : out = [] := List.eq_nil_of_length_eq_zero h0
    have hr := run_append_owned_none (P := Try.prog) (w := w) b 22 22 40 i3 3 Try.underlying22 hi3 (.slice none 0 0) 0 [] h.own
    exact ⟨_, _, hr, h, (fun q e => by cases e), World.grownBy.refl w _⟩
  · obtain ⟨v', w', hr, ho, hg2, _⟩ := run_append_own (P := Try.prog) w w.heap.size 22 22 40 i3 z3 3 40 Try.underlying22 hi3 hz3 hs3 hb3 hc3 (by decide) (.slice none 0 0) 0 [] ⟨rfl, .inl ⟨rfl, rfl⟩⟩
      ⟨g, 0, none⟩ out.length cap (fl ec out) (fl_len ec_len out) (h.own.cells (g := g) rfl) (fun u hu => by
        simp only [fl, List.mem_flatMap, ec, List.mem_cons, List.not_mem_nil, or_false] at hu
        obtain ⟨x, hx, hu⟩ := hu
        rcases hu with rfl | rfl | rfl
        · rfl
        · rfl
        · obtain ⟨ad, cp, hv, _⟩ := ownK_form (h.dat x hx)
          rw [hv]; rfl) (by unfold maxLen; omega) (by omega) (Nat.le_refl _)
    rw [Nat.zero_add, List.nil_append] at ho
    have hlt : ∀ q, v'.ownBlock = some q → w.heap.size ≤ q := fun q e => (ho.lt q e).1
    have hkeep : ∀ x ∈ out, w'.ownsRow b 48 4 x.v x.ws.length (fl wc x.ws) := fun x hx => (h.dat x hx).kept hg2 (by
      cases x.v.ownBlock with
      | none => exact .inl rfl
      | some q => exact .inr (by show some q ≠ none; simp))
    refine ⟨v', w', hr, ⟨own_mono ho hb, hkeep, fun x hx q e e2 => ?_⟩, hlt, hg2⟩
    have h1 := ((h.dat x hx).lt q e).2
    have h2 := hlt q e2
    omega
end Go.Proofs.Ytbmobaomnfchkaa
