/- The document's small calls: special, takes, SpotOf. -/
import Derived.Test.YtbmobaomnfchkaaTkPlc
import Derived.Test.YtbmobaomnfchkaaTkP3
namespace Go.Proofs.Ytbmobaomnfchkaa
open Go.RowKit

set_option maxHeartbeats 1000000 in
set_option maxRecDepth 100000 in
theorem special_any (c : UInt8) (w : World) : Calls Try.prog 33 #[.int .u8 (c.toNat : Int)] w fun e w' => e = .returned (.bool (Tk.ends c)) ∧ w' = w := by
  have h8 := c.toNat_lt
  have HB := Lib.hid (blank_any c)
  have hE : Tk.ends c = (Tk.blank c || ((c.toNat : Int) == 10) || ((c.toNat : Int) == 59) || ((c.toNat : Int) == 40) || ((c.toNat : Int) == 41) || ((c.toNat : Int) == 34)) := by
    have e10 : ((c.toNat : Int) == 10) = (c.toNat == 10) := by rw [Bool.eq_iff_iff]; simp; omega
    have e59 : ((c.toNat : Int) == 59) = (c.toNat == 59) := by rw [Bool.eq_iff_iff]; simp; omega
    have e40 : ((c.toNat : Int) == 40) = (c.toNat == 40) := by rw [Bool.eq_iff_iff]; simp; omega
    have e41 : ((c.toNat : Int) == 41) = (c.toNat == 41) := by rw [Bool.eq_iff_iff]; simp; omega
    have e34 : ((c.toNat : Int) == 34) = (c.toNat == 34) := by rw [Bool.eq_iff_iff]; simp; omega
    unfold Tk.ends
    rw [e10, e59, e40, e41, e34]
    cases Tk.blank c <;> cases (c.toNat == 10) <;> cases (c.toNat == 59) <;> cases (c.toNat == 40) <;> cases (c.toNat == 41) <;> cases (c.toNat == 34) <;> rfl
  rw [hE]
  clear hE
  generalize Tk.blank c = bb at *
  generalize (c.toNat : Int) = q at *
  cases bb
  · by_cases h1 : (q == 10) = true
    · rw [h1]
      go_enter Try.func33, Try.ntmps33
      go_wp2_with (go_at_call 17; refine (HB.out _).mono ?_; rintro e w1 ⟨rfl, rfl⟩)
      go_ret
      exact ⟨rfl, rfl⟩
    simp only [Bool.not_eq_true] at h1
    by_cases h2 : (q == 59) = true
    · rw [h1, h2]
      go_enter Try.func33, Try.ntmps33
      go_wp2_with (go_at_call 17; refine (HB.out _).mono ?_; rintro e w1 ⟨rfl, rfl⟩)
      go_ret
      exact ⟨rfl, rfl⟩
    simp only [Bool.not_eq_true] at h2
    by_cases h3 : (q == 40) = true
    · rw [h1, h2, h3]
      go_enter Try.func33, Try.ntmps33
      go_wp2_with (go_at_call 17; refine (HB.out _).mono ?_; rintro e w1 ⟨rfl, rfl⟩)
      go_ret
      exact ⟨rfl, rfl⟩
    simp only [Bool.not_eq_true] at h3
    by_cases h4 : (q == 41) = true
    · rw [h1, h2, h3, h4]
      go_enter Try.func33, Try.ntmps33
      go_wp2_with (go_at_call 17; refine (HB.out _).mono ?_; rintro e w1 ⟨rfl, rfl⟩)
      go_ret
      exact ⟨rfl, rfl⟩
    simp only [Bool.not_eq_true] at h4
    rw [h1, h2, h3, h4]
    go_enter Try.func33, Try.ntmps33
    go_wp2_with (go_at_call 17; refine (HB.out _).mono ?_; rintro e w1 ⟨rfl, rfl⟩)
    go_ret
    exact ⟨rfl, rfl⟩
  · go_enter Try.func33, Try.ntmps33
    go_wp2_with (go_at_call 17; refine (HB.out _).mono ?_; rintro e w1 ⟨rfl, rfl⟩)
    go_ret
    exact ⟨by simp, rfl⟩
theorem nb_at {s : ByteArray} {p : Nat} (h : p < s.size) : nb s p = s[p] := by
  unfold nb
  rw [List.getD_eq_getElem?_getD, List.getElem?_eq_getElem (by simpa using h)]
  rfl
set_option maxHeartbeats 1000000 in
set_option maxRecDepth 100000 in
theorem takes_any (s : ByteArray) (p : Nat) (w : World) (hp : p < s.size) (hs : s.size ≤ 1048576) : Calls Try.prog 32 #[.string s, .int .i64 p] w fun e w' => e = .returned (.bool (tk1 s p == 2)) ∧ w' = w := by
  have hpi : (p : Int) < (s.size : Int) := by omega
  by_cases h92 : s[p].toNat = 92
  · have q1 : ((s[p].toNat : Int) == 92) = true := beq_iff_eq.2 (by omega)
    by_cases h1 : p + 1 < s.size
    · have hpi1 : (p : Int) + 1 < (s.size : Int) := by omega
      by_cases h10 : s[p + 1].toNat = 10
      · have q2 : ((s[p + 1].toNat : Int) != 10) = false := by simp; omega
        have hk : (tk1 s p == 2) = false := by rw [tk1, nb_at hp, nb_at h1, if_neg (fun e => e.2 h10)]; rfl
        rw [hk]
        clear hk h92 h10
        go_enter Try.func32, Try.ntmps32
        go_wp2
        go_ret
        exact ⟨rfl, rfl⟩
      · have q2 : ((s[p + 1].toNat : Int) != 10) = true := by simp; omega
        have hk : (tk1 s p == 2) = true := by rw [tk1, nb_at hp, nb_at h1, if_pos ⟨h92, h10⟩]; rfl
        rw [hk]
        clear hk h92 h10
        go_enter Try.func32, Try.ntmps32
        go_wp2
        go_ret
        exact ⟨rfl, rfl⟩
    · have hpi1 : ¬ (p : Int) + 1 < (s.size : Int) := by omega
      have hk : (tk1 s p == 2) = false := by
        rw [tk1, nb_end (at_ := p + 1) (by omega), if_neg (fun e => e.2 rfl)]; rfl
      rw [hk]
      clear hk h92
      go_enter Try.func32, Try.ntmps32
      go_wp2
      go_ret
      exact ⟨rfl, rfl⟩
  · have q1 : ((s[p].toNat : Int) == 92) = false := beq_eq_false_iff_ne.2 (by omega)
    have hk : (tk1 s p == 2) = false := by rw [tk1, nb_at hp, if_neg (fun e => h92 e.1)]; rfl
    rw [hk]
    clear hk h92
    go_enter Try.func32, Try.ntmps32
    go_wp2
    go_ret
    exact ⟨rfl, rfl⟩
theorem advs_step {l : List UInt8} {k : Nat} (hk : k < l.length) (p : Nat × Nat) : Tk.advs p (l.take (k + 1)) = Tk.adv (Tk.advs p (l.take k)) l[k] := by
  rw [List.take_succ_eq_append_getElem hk, Tk.advs_append]
  rfl
theorem advs_le : ∀ (l : List UInt8) (p : Nat × Nat), (Tk.advs p l).1 ≤ p.1 + l.length ∧ (Tk.advs p l).2 ≤ p.2 + l.length + 1
  | [], p => ⟨Nat.le_refl _, by simp [Tk.advs_nil]⟩
  | c :: r, p => by
    have h := advs_le r (Tk.adv p c)
    rw [Tk.advs_cons, List.length_cons]
    have h1 : (Tk.adv p c).1 ≤ p.1 + 1 := by unfold Tk.adv; split <;> simp
    have h2 : (Tk.adv p c).2 ≤ p.2 + 1 := by unfold Tk.adv; split <;> simp
    omega
set_option maxHeartbeats 1000000 in
set_option maxRecDepth 100000 in
theorem spotOf_any (s : ByteArray) (n : Nat) (w : World) (hn : n ≤ s.size) (hs : s.size ≤ 1048576) : Calls Try.prog 21 #[.string s, .int .i64 n] w fun e w' => e = .returned (.agg #[.int .i64 (Tk.advs (1, 1) (s.data.toList.take n)).1, .int .i64 (Tk.advs (1, 1) (s.data.toList.take n)).2]) ∧ Below w.heap.size w w' := by
  have hl : s.data.toList.length = s.size := by simp
  have HL := Lib.hid hl
  have hi2 : (Try.prog.info? 24).map (·.size) = some 2 := by kernel_rfl
  have HI := Lib.hid hi2
  have HR0 := Lib.hid ((Has.fresh w 24 #[.int .i64 0, .int .i64 0]).alloc (.cells #[.int .i64 1, .int .i64 1] 24))
  have e1 : (w.alloc (.cells #[.int .i64 0, .int .i64 0] 24)).heap.size = w.heap.size + 1 := by simp
  have hv0 := Has.fresh (w.alloc (.cells #[.int .i64 0, .int .i64 0] 24)) 24 #[.int .i64 1, .int .i64 1]
  rw [e1] at hv0
  have HV0 := Lib.hid hv0
  have HB0 := Lib.hid (((Below.refl w.heap.size w).alloc (Nat.le_refl _) (.cells #[.int .i64 0, .int .i64 0] 24)).alloc (by simp) (.cells #[.int .i64 1, .int .i64 1] 24))
  clear hl hi2 e1 hv0
  go_enter Try.func21, Try.ntmps21
  go_wp2
  go_loopw [6] (fun i wr => ∃ k ln cl : Nat, i = .int .i64 k ∧ k ≤ n ∧ Hid ((ln, cl) = Tk.advs (1, 1) (s.data.toList.take k)) ∧ Hid (Has wr w.heap.size 24 #[.int .i64 0, .int .i64 0]) ∧ Hid (Has wr (w.heap.size + 1) 24 #[.int .i64 ln, .int .i64 cl]) ∧ Hid (Below w.heap.size w wr)) (fun i _ => n - (intOf i).toNat)
  case atStart => exact ⟨0, 1, 1, rfl, Nat.zero_le _, rfl, HR0.out, HV0.out, HB0.out⟩
  case round =>
    obtain ⟨k, ln, cl, rfl, hk, HA, HR, HV, HB⟩ := hrel
    have v0 : wr.cell? ⟨w.heap.size + 1, 0, none⟩ = some (.int .i64 ln) := HV.out.cell 0
    have v1 : wr.cell? ⟨w.heap.size + 1, 1, none⟩ = some (.int .i64 cl) := HV.out.cell 1
    have f0 := HV.out.free 0
    have f1 := HV.out.free 1
    by_cases hlt : k < n
    · have hkl : k < s.data.toList.length := by rw [HL.out]; omega
      have HST := Lib.hid (advs_step hkl (1, 1))
      rw [← HA.out] at HST
      have hle := advs_le (s.data.toList.take k) (1, 1)
      rw [← HA.out, List.length_take] at hle
      simp only at hle
      have hbt : s.data.toList[k] = s[k] := rfl
      rw [hbt] at HST
      have b1 : ln ≤ 1048577 := by omega
      have b2 : cl ≤ 1048578 := by omega
      have k1 : (k : Int) < (n : Int) := by omega
      have k2 : (k : Int) < (s.size : Int) := by omega
      have hne : w.heap.size ≠ w.heap.size + 1 := by omega
      by_cases h10 : s[k].toNat = 10
      · have HS2 : Hid ((ln + 1, 1) = Tk.advs (1, 1) (s.data.toList.take (k + 1))) := by rw [Hid, HST.out, Tk.adv, if_pos h10]
        have hq : ((s[k].toNat : Int) == 10) = true := beq_iff_eq.2 (by omega)
        clear h10 hbt HST hle
        go_wp2
        go_roundw
        case rel => exact ⟨k + 1, ln + 1, 1, by go_num, by omega, HS2.out, ((HR.out.far (p := ⟨w.heap.size + 1, 1, none⟩) hne _).far (p := ⟨w.heap.size + 1, 0, none⟩) hne _).far (p := ⟨w.heap.size + 1, 1, none⟩) hne _, ((HV.out.set 1 _).set 0 _).set 1 _, ((HB.out.setCell (p := ⟨w.heap.size + 1, 1, none⟩) (Nat.le_succ _) _).setCell (p := ⟨w.heap.size + 1, 0, none⟩) (Nat.le_succ _) _).setCell (p := ⟨w.heap.size + 1, 1, none⟩) (Nat.le_succ _) _⟩
        case measure => simp [intOf]; omega
      · have HS2 : Hid ((ln, cl + 1) = Tk.advs (1, 1) (s.data.toList.take (k + 1))) := by rw [Hid, HST.out, Tk.adv, if_neg h10]
        have hq : ((s[k].toNat : Int) == 10) = false := beq_eq_false_iff_ne.2 (by omega)
        clear h10 hbt HST hle
        go_wp2
        go_roundw
        case rel => exact ⟨k + 1, ln, cl + 1, by go_num, by omega, HS2.out, HR.out.far (p := ⟨w.heap.size + 1, 1, none⟩) hne _, HV.out.set 1 _, HB.out.setCell (p := ⟨w.heap.size + 1, 1, none⟩) (Nat.le_succ _) _⟩
        case measure => simp [intOf]; omega
    · obtain rfl : k = n := by omega
      have r0 : wr.cell? ⟨w.heap.size, 0, none⟩ = some (.int .i64 0) := HR.out.cell 0
      have r1 : wr.cell? ⟨w.heap.size, 1, none⟩ = some (.int .i64 0) := HR.out.cell 1
      have g0 := HR.out.free 0
      have g1 := HR.out.free 1
      go_wp2
      refine bodyPost_ret (results_cell_row rfl _ _ w.heap.size 24 #[.int .i64 ln, .int .i64 cl] (0, 0) _ rfl ((HR.out.set 0 _).set 1 _) Try.underlying24 rfl HI.out) rfl ?_
      exact ⟨by rw [← HA.out], (HB.out.setCell (p := ⟨w.heap.size, 0, none⟩) (Nat.le_refl _) _).setCell (p := ⟨w.heap.size, 1, none⟩) (Nat.le_refl _) _⟩
end Go.Proofs.Ytbmobaomnfchkaa
