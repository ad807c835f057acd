/- TokenEntries' walk. -/
import Derived.Test.YtbmobaomnfchkaaTkOwn
import Derived.Test.YtbmobaomnfchkaaTkRefE
namespace Go.Proofs.Ytbmobaomnfchkaa
open Go.RowKit

/-- what a text tells, a text that is too long too. -/
def rsOf (s : ByteArray) : Tk.Rs := if 262144 < s.size then .err 0 0 2 else Tk.tells s.data.toList
theorem enp_u {s : ByteArray} {w w' : World} {e : Ending} (h : EnP s w e w') : Below w.heap.size w w' ∧
    ∃ ve out, e = .returned (.tuple #[ve, .agg #[.int .i64 (Tk.lineOf (rsOf s)), .int .i64 (Tk.colOf (rsOf s))], .int .i64 (Tk.errOf (rsOf s))]) ∧ Ers w' w.heap.size ve out ∧ out.map Ex.en = Tk.entsOf (rsOf s) := by
  obtain ⟨h1, h2⟩ := h
  refine ⟨h1, ?_⟩
  unfold rsOf
  by_cases hs : 262144 < s.size
  · rw [if_pos hs] at h2
    simp only [if_pos hs]
    exact ⟨.slice none 0 0, [], h2, Ers.nil _ _, rfl⟩
  · rw [if_neg hs] at h2
    simp only [if_neg hs]
    rcases hT : Tk.tells s.data.toList with ⟨l, c, x⟩ | es
    · rw [hT] at h2
      exact ⟨.slice none 0 0, [], h2, Ers.nil _ _, rfl⟩
    · rw [hT] at h2
      exact h2
set_option maxHeartbeats 4000000 in
set_option maxRecDepth 100000 in
theorem ents_main (w : World) (s : ByteArray) (hs : s.size ≤ 20000 ∨ 262144 < s.size) : Calls Try.prog 3 #[.string s] w fun e w' => e = .returned (.bool true) ∧ Below w.heap.size w w' := by
  have HE := Lib.hid (fun W => (entries_any s W).mono fun e w' h => enp_u h)
  have HX := Lib.hid (fun W => (refEntries_any s W).mono fun e w' h => enp_u h)
  have HF : Hid ((Tk.entsOf (rsOf s)).length ≤ 1048576 ∧ (∀ x ∈ Tk.entsOf (rsOf s), x.words.length ≤ 1048576)) := by
    rw [Hid]
    unfold rsOf
    by_cases hl : 262144 < s.size
    · rw [if_pos hl]
      exact ⟨by simp [Tk.entsOf], by simp [Tk.entsOf]⟩
    · rw [if_neg hl]
      have hfit := Tk.ents_fit s.data.toList
      have hlen : s.data.toList.length = s.size := by simp
      exact ⟨by omega, fun x hx => by have := (hfit.2 x hx).2; omega⟩
  generalize rsOf s = R at *
  generalize Tk.entsOf R = es at *
  generalize (Tk.lineOf R : Nat) = ln at *
  generalize (Tk.colOf R : Nat) = cl at *
  generalize (Tk.errOf R : Nat) = er at *
  have HS := Lib.hid (fun (v1 v2 : Value) (W : World) (a : EnsAt W v1 es) (b : EnsAt W v2 es) => same_any v1 v2 es W a b HF.out.1 HF.out.2)
  have HL := Lib.hid hs
  rcases hs with hs | hs
  all_goals
    first
      | (have k1 : ¬ (20000 : Int) < (s.size : Int) := (by have h : s.size ≤ 20000 := hs; omega))
      | (have k1 : (20000 : Int) < (s.size : Int) := (by have h : 262144 < s.size := hs; omega); have k2 : ¬ (s.size : Int) ≤ 262144 := (by have h : 262144 < s.size := hs; omega))
    clear hs
    go_enter Try.func3, Try.ntmps3
    go_wp2_with (first
      | (go_at_call 8
         refine (HE.out w).mono ?_
         rintro e w1 ⟨B1, ve1, out1, rfl, hE1, hM1⟩
         have HB1 := Lib.hid B1; have HE1 := Lib.hid hE1; have HM1 := Lib.hid hM1; clear B1 hE1 hM1)
      | (go_at_call 9
         refine (HX.out _).mono ?_
         rintro e w2 ⟨B2, ve2, out2, rfl, hE2, hM2⟩
         have hb : Below w1.heap.size w1 (w2.alloc (.cells #[.int .i64 ln, .int .i64 cl] 24)) := (((Below.refl w1.heap.size w1).alloc (Nat.le_refl _) (.cells #[.int .i64 ln, .int .i64 cl] 24)).trans (B2.mono (by simp))).alloc (by have := B2.size; simp at this; omega) _
         have HA1 : Hid (EnsAt (w2.alloc (.cells #[.int .i64 ln, .int .i64 cl] 24)) ve1 es) := (by
           have h := HE1.out.at_
           rw [HM1.out] at h
           exact h.below hb)
         have HA2 : Hid (EnsAt (w2.alloc (.cells #[.int .i64 ln, .int .i64 cl] 24)) ve2 es) := (by
           have h := hE2.at_
           rw [hM2] at h
           exact h.below ((Below.refl w2.heap.size w2).alloc (Nat.le_refl _) _))
         have HBW := Lib.hid (HB1.out.trans (hb.mono HB1.out.size))
         have HP1 : Hid (Has (w2.alloc (.cells #[.int .i64 ln, .int .i64 cl] 24)) w1.heap.size 24 #[.int .i64 ln, .int .i64 cl]) := ((Has.fresh w1 24 #[.int .i64 ln, .int .i64 cl]).below B2 (by simp)).alloc _
         have HP2 : Hid (Has (w2.alloc (.cells #[.int .i64 ln, .int .i64 cl] 24)) w2.heap.size 24 #[.int .i64 ln, .int .i64 cl]) := Has.fresh w2 24 #[.int .i64 ln, .int .i64 cl]
         clear B2 hE2 hM2 hb)
      | (go_at_call 10
         generalize w2.alloc (.cells #[.int .i64 ln, .int .i64 cl] 24) = w3 at *
         refine (HS.out ve1 ve2 w3 HA1.out HA2.out).mono ?_
         rintro e w4 ⟨rfl, n, hw⟩
         have q1 : Has w4 w1.heap.size 24 #[.int .i64 ln, .int .i64 cl] := (by rw [hw]; exact HP1.out)
         have q2 : Has w4 w2.heap.size 24 #[.int .i64 ln, .int .i64 cl] := (by rw [hw]; exact HP2.out)
         have c0 : w4.cell? ⟨w1.heap.size, 0, none⟩ = some (.int .i64 ln) := q1.cell 0
         have c1 : w4.cell? ⟨w1.heap.size, 1, none⟩ = some (.int .i64 cl) := q1.cell 1
         have d0 : w4.cell? ⟨w2.heap.size, 0, none⟩ = some (.int .i64 ln) := q2.cell 0
         have d1 : w4.cell? ⟨w2.heap.size, 1, none⟩ = some (.int .i64 cl) := q2.cell 1
         have HBZ : Hid (Below w.heap.size w w4) := (by rw [Hid, hw]; exact below_drewN HBW.out n)
         clear q1 q2 HBW HA1 HA2 HP1 HP2 hw)
      | (go_at_call 11
         refine (reads_any _).mono ?_
         rintro e w8 ⟨rfl, B8⟩
         have HB8 := Lib.hid (HBZ.out.trans (B8.mono HBZ.out.size))
         clear B8))
    go_ret
    exact ⟨rfl, HB8.out⟩
set_option maxHeartbeats 4000000 in
set_option maxRecDepth 100000 in
theorem walk_TokenEntries (w : World) (s : ByteArray) (_ : s.size ≤ 140737488351232) : Calls Try.prog 3 #[.string s] w fun e w' => e = .returned (.bool true) ∧ Below w.heap.size w w' := by
  by_cases h1 : s.size ≤ 20000
  · exact ents_main w s (.inl h1)
  by_cases h2 : 262144 < s.size
  · exact ents_main w s (.inr h2)
  have k1 : (20000 : Int) < (s.size : Int) := by omega
  have k2 : (s.size : Int) ≤ 262144 := by omega
  clear h1 h2
  go_enter Try.func3, Try.ntmps3
  go_wp2
  go_ret
  exact ⟨rfl, Below.refl _ _⟩
end Go.Proofs.Ytbmobaomnfchkaa
