/- Where lines begin: places; a blank. -/
import Derived.Test.YtbmobaomnfchkaaTkReads
import Derived.Test.YtbmobaomnfchkaaTkPls
namespace Go.Proofs.Ytbmobaomnfchkaa
open Go.RowKit

set_option maxRecDepth 100000 in
theorem blank_any (c : UInt8) (w : World) : Calls Try.prog 17 #[.int .u8 (c.toNat : Int)] w fun e w' => e = .returned (.bool (Tk.blank c)) ∧ w' = w := by
  have h8 := c.toNat_lt
  have HB : Hid (Tk.blank c = (((c.toNat : Int) == 32) || ((c.toNat : Int) == 9) || ((c.toNat : Int) == 13))) := by
    unfold Hid Tk.blank
    congr 1
    · congr 1 <;> (rw [Bool.eq_iff_iff]; simp; omega)
    · rw [Bool.eq_iff_iff]; simp; omega
  rw [HB.out]
  by_cases h1 : ((c.toNat : Int) == 32) = true
  · rw [h1]
    go_enter Try.func17, Try.ntmps17
    go_wp2
    go_ret
    exact ⟨rfl, rfl⟩
  · simp only [Bool.not_eq_true] at h1
    by_cases h2 : ((c.toNat : Int) == 9) = true
    · rw [h1, h2]
      go_enter Try.func17, Try.ntmps17
      go_wp2
      go_ret
      exact ⟨rfl, rfl⟩
    · simp only [Bool.not_eq_true] at h2
      rw [h1, h2]
      go_enter Try.func17, Try.ntmps17
      go_wp2
      go_ret
      exact ⟨rfl, rfl⟩
/-- ints as values. -/
def iv (l : List Nat) : List Value := l.map fun (n : Nat) => Value.int .i64 (n : Int)
theorem iv_append (a b : List Nat) : iv (a ++ b) = iv a ++ iv b := by simp [iv]
theorem iv_get {l : List Nat} {j n : Nat} (h : l[j]? = some n) : (iv l)[j]? = some (.int .i64 (n : Int)) := by simp [iv, h]
theorem info_int : ∃ i z, Try.prog.info? 3 = some i ∧ i.zero = some z ∧ i.size = 1 ∧ i.bytes = 8 ∧ z.cells.size = 1 := by
  refine ⟨_, _, rfl, rfl, ?_, ?_, ?_⟩ <;> kernel_rfl
theorem own_fresh {w : World} {g b : Nat} {t : TypeId} {u : Value} (h : Has w g t #[u]) (hb : b ≤ g) : w.ownsRow b t 1 (.slice (some ⟨g, 0, none⟩) 1 1) 1 [u] :=
  ⟨by simp, .inr ⟨g, 1, #[u], rfl, hb, h, Nat.le_refl _, by decide, rfl, rfl⟩⟩
theorem plF_step {l : List UInt8} {k : Nat} (hk : k < l.length) : Tk.pls (l.take (k + 1)) = Tk.pls (l.take k) ++ if l[k].toNat = 10 then [k + 1] else [] := by
  rw [List.take_succ_eq_append_getElem hk, Tk.pls, Tk.pls, Tk.plF_append, List.cons_append, Tk.plF, Tk.plF]
  have : (l.take k).length = k := by rw [List.length_take]; omega
  rw [this, Nat.zero_add]
theorem pls_len : ∀ (l : List UInt8) (p : Nat), (Tk.plF l p).length ≤ l.length
  | [], _ => Nat.le_refl _
  | c :: r, p => by
    have := pls_len r (p + 1)
    rw [Tk.plF, List.length_cons]
    split
    · rw [List.length_cons]; omega
    · omega
theorem pls_le (l : List UInt8) (k : Nat) : (Tk.pls (l.take k)).length ≤ k + 1 := by
  have := pls_len (l.take k) 0
  rw [Tk.pls, List.length_cons]
  rw [List.length_take] at this
  omega
set_option maxHeartbeats 1000000 in
set_option maxRecDepth 100000 in
theorem places_any (s : ByteArray) (w : World) (hs : s.size ≤ 1048576) : Calls Try.prog 16 #[.string s] w fun e w' => Below w.heap.size w w' ∧ ∃ v, e = .returned v ∧ w'.ownsRow w.heap.size 3 1 v (Tk.pls s.data.toList).length (iv (Tk.pls s.data.toList)) := by
  obtain ⟨i1, z1, hi1, hz1, hs1, hb1, hc1⟩ := info_int
  have HSZ := Lib.hid hs
  have hl : s.data.toList.length = s.size := by simp
  have HL := Lib.hid hl
  clear hl
  go_enter Try.func16, Try.ntmps16
  go_wp2
  go_loopw [3, 4] (fun v i wr => ∃ k : Nat, i = .int .i64 k ∧ k ≤ s.size ∧ Hid (wr.ownsRow w.heap.size 3 1 v (Tk.pls (s.data.toList.take k)).length (iv (Tk.pls (s.data.toList.take k))) ∧ Below w.heap.size w wr)) (fun _ i _ => s.size - (intOf i).toNat)
  case atStart => exact ⟨0, rfl, Nat.zero_le _, own_fresh (Has.fresh w _ _) (Nat.le_refl _), (Below.refl _ _).alloc (Nat.le_refl _) _⟩
  case round =>
    rename_i v0 _
    obtain ⟨k, rfl, hk, HO⟩ := hrel
    by_cases hlt : k < s.size
    · have hkl : k < s.data.toList.length := by rw [HL.out]; exact hlt
      have HST := Lib.hid (plF_step hkl)
      have hbt : s.data.toList[k] = s[k] := rfl
      rw [hbt] at HST
      have hle := pls_le s.data.toList k
      obtain ⟨ad, cp, rfl, _⟩ := ownK_form HO.out.1
      have hlti : (k : Int) < (s.size : Int) := by omega
      by_cases h10 : s[k].toNat = 10
      · rw [if_pos h10] at HST
        have hpl : (Tk.pls (s.data.toList.take (k + 1))).length = (Tk.pls (s.data.toList.take k)).length + 1 := by rw [HST.out]; simp
        have HPL := Lib.hid hpl
        have hq : ((s[k].toNat : Int) == 10) = true := beq_iff_eq.2 (by omega)
        clear h10 hbt hpl
        generalize (Tk.pls (s.data.toList.take k)).length = m at *
        go_wp2_with (at_builtin
                     refine wpList_append_own _ rfl (.tmp 16) (.tmp 19) _ rfl w.heap.size 3 i1 z1 1 8 Try.underlying50 hi1 hz1 hs1 hb1 hc1 (by decide) (.slice ad m cp) m _ rfl (HO.out.1.alloc _) ⟨wr.heap.size, 0, none⟩ 1 1 [.int .i64 ((k : Int) + 1)] rfl rfl (tk_cells_new wr _ [.int .i64 ((k : Int) + 1)]) (by simp [Value.oneCell']) (by unfold maxLen; omega) (by omega) (by have := HO.out.2.size; simp; omega) ?_
                     intro vb wB hoB hgB _
                     have HOB := Lib.hid hoB
                     have HBB := Lib.hid ((HO.out.2.alloc HO.out.2.size (.cells #[.int .i64 ((k : Int) + 1)] 3)).grown hgB (by have := HO.out.2.size; simp; omega) (fun r e => ((HO.out.1.alloc (.cells #[.int .i64 ((k : Int) + 1)] 3)).lt r e).1))
                     clear hoB hgB)
        go_roundw
        case rel =>
          refine ⟨k + 1, by go_num, by omega, ?_, HBB.out⟩
          have h := HOB.out
          rw [HPL.out, HST.out, iv_append]
          exact h
        case measure => simp [intOf]; omega
      · rw [if_neg h10, List.append_nil] at HST
        have hq : ((s[k].toNat : Int) == 10) = false := beq_eq_false_iff_ne.2 (by omega)
        clear h10 hbt
        go_wp2
        go_roundw
        case rel => exact ⟨k + 1, by go_num, by omega, by rw [HST.out]; exact HO⟩
        case measure => simp [intOf]; omega
    · obtain rfl : k = s.size := by omega
      go_wp2
      go_ret
      refine ⟨HO.out.2, _, rfl, ?_⟩
      have h := HO.out.1
      rw [List.take_of_length_le (by simp)] at h
      exact h
end Go.Proofs.Ytbmobaomnfchkaa
