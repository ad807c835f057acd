/- The document's table of names: what is remembered, and where it is found. -/
import Derived.Test.YtfekmolgiohegaaPrPut
import Derived.Test.YtfekmolgiohegaaMem
import Derived.MapKept
import Derived.Laws.StructEq
namespace Go.Proofs.Ytfekmolgiohegaa
open Go.RowKit

def ints (t : List Nat) : List Value := t.map fun (p : Nat) => Value.int .i64 p
/-- a table in memory, its two lists the call's own. -/
def RT (w : World) (g base : Nat) (t : Tab) : Prop :=
  ∃ vN vP, Has w g 30 #[vN, vP] ∧ w.ownsRow base 32 1 vN t.length (svs (t.map (·.1))) ∧ w.ownsRow base 3 1 vP t.length (ints (t.map (·.2)))
theorem str_eq {a n : ByteArray} (h : a.data.toList = n.data.toList) : (a.toList == n.toList) = true :=
  (beq_toListBytes a n).symm.trans <| (MapKept.bytes_beq _ _).2 (by rw [string_eq (s := a) rfl, string_eq (s := n) rfl, h])
theorem str_ne {a n : ByteArray} (h : a.data.toList ≠ n.data.toList) : (a.toList == n.toList) = false := by
  rw [← beq_toListBytes, Bool.eq_false_iff]
  intro hb
  have := (MapKept.bytes_beq _ _).1 hb
  subst this
  exact h rfl
theorem sv_of (l : List UInt8) : ∃ s : ByteArray, sv l = .string s ∧ s.data.toList = l := ⟨⟨l.toArray⟩, rfl, rfl⟩

set_option maxHeartbeats 1000000 in
set_option maxRecDepth 100000 in
theorem find_any (w : World) (g base : Nat) (t : Tab) (n : ByteArray) (h : RT w g base t) (hl : t.length ≤ 140737488355328) :
    Calls Try.prog 35 #[.pointer (some ⟨g, 0, none⟩), .string n] w fun e w' => e = .returned (.int .i64 (findI t n.data.toList)) ∧ w = w' := by
  obtain ⟨vN, vP, hH, hN, hP⟩ := h
  have c0 : w.cell? ⟨g, 0, none⟩ = some vN := by rw [hH.cell]; rfl
  have c1 : w.cell? ⟨g, 1, none⟩ = some vP := by rw [hH.cell]; rfl
  obtain ⟨aN, cN, rfl⟩ := own_form hN
  obtain ⟨aP, cP, rfl⟩ := own_form hP
  have HN := Lib.hid hN
  have HP := Lib.hid hP
  clear hN hP hH
  go_enter Try.func35, Try.ntmps35
  go_wp2
  go_loop [5] (fun i => ∃ k : Nat, i = .int .i64 k ∧ k ≤ t.length ∧ Hid (findI (t.drop k) n.data.toList = findI t n.data.toList)) (fun i => t.length - (intOf i).toNat)
  case atStart => exact ⟨0, rfl, Nat.zero_le _, rfl⟩
  case round =>
    obtain ⟨k, rfl, hk, HF⟩ := hrel
    by_cases hlt : k < t.length
    · obtain ⟨gN, rfl, hcN, hcellN⟩ := own_at HN.out hlt
      obtain ⟨gP, rfl, hcP, hcellP⟩ := own_at HP.out hlt
      have cn := hcellN k (sv (t[k]'hlt).1) (by simp [svs, hlt])
      have cp := hcellP k (.int .i64 (t[k]'hlt).2) (by simp [ints, hlt])
      have hF := HF.out
      rw [findI_at hlt] at hF
      clear hcellN hcellP HF
      obtain ⟨s, hs1, hs2⟩ := sv_of (t[k]'hlt).1
      rw [hs1] at cn
      rw [← hs2] at hF
      clear hs1 hs2
      by_cases he : s.data.toList = n.data.toList
      · rw [if_pos he] at hF
        have hb := str_eq he
        have HE := Lib.hid hF
        clear hF he
        generalize (t[k]'hlt).2 = p at *
        go_wp2
        go_ret
        exact ⟨by rw [← HE.out]; rfl, rfl⟩
      · rw [if_neg he] at hF
        have hb := str_ne he
        have HE := Lib.hid hF
        clear hF he
        generalize (t[k]'hlt).2 = p at *
        go_wp2
        go_round
        case rel => exact ⟨k + 1, by go_num, by omega, HE.out⟩
        case measure => simp [intOf]; omega
    · obtain rfl : k = t.length := by omega
      have hF := HF.out
      rw [findI_end] at hF
      have HE := Lib.hid hF
      clear hF HF
      go_wp2
      go_ret
      exact ⟨by rw [← HE.out]; rfl, rfl⟩
end Go.Proofs.Ytfekmolgiohegaa
