/- The lexer's read: in a remark. -/
import Derived.Test.YtgmemngfkajnbaaDoorTkJ
namespace Go.Proofs.YtgmemngfkajnbaaDoor
open Go.RowKit

theorem remLen_step {s : ByteArray} {at_ : Nat} (h : at_ < s.size) (h10 : (nb s at_).toNat ≠ 10) : at_ + Tk.remLen (s.data.toList.drop at_) = at_ + 1 + Tk.remLen (s.data.toList.drop (at_ + 1)) := by
  rw [nb_drop h, Tk.remLen, if_neg h10]
  omega
theorem rem_done {s : ByteArray} {b at_ : Nat} {σ : Tk.St} {R : Tk.Rs} (hb : b < s.size) (h59 : (nb s b).toNat = 59) (_ : b ≤ at_) (h10 : (nb s at_).toNat = 10) (hrem : at_ + Tk.remLen (s.data.toList.drop at_) = b + Tk.remLen (s.data.toList.drop b)) (hp : Tk.play (Tk.lx (s.data.toList.drop b)) σ = R) :
    b < at_ ∧ Tk.play (Tk.lx (s.data.toList.drop at_)) (σ.go (at_ - b)) = R := by
  have h0 : Tk.remLen (s.data.toList.drop at_) = 0 := by
    by_cases h : at_ < s.size
    · rw [nb_drop h, Tk.remLen, if_pos h10]
    · rw [drop_end (by omega)]; rfl
  have h1 := remLen_step hb (by omega)
  rw [nb_drop hb, Tk.lx_rem h59, Tk.play, List.drop_drop] at hp
  have hlen : (nb s b :: List.take (Tk.remLen (s.data.toList.drop (b + 1))) (s.data.toList.drop (b + 1))).length = at_ - b := by
    have := Tk.remLen_le (s.data.toList.drop (b + 1))
    rw [List.length_cons, List.length_take]
    omega
  rw [hlen, show b + 1 + Tk.remLen (s.data.toList.drop (b + 1)) = at_ by omega] at hp
  exact ⟨by omega, hp⟩
set_option maxHeartbeats 2000000 in
set_option maxRecDepth 100000 in
theorem pass2 (s : ByteArray) (g rc : Nat) (w0 : World) (n : Nat) (a : Act) (w : World) (hs : s.size ≤ 262144) (h : J2 s g rc w0 n a w) :
    ∃ rest, findLabel rdBody 2 = some rest ∧ rest.wp Tryd.prog (Next s g rc w0 n (bodyPost Tryd.prog Tryd.f7 (RdP s g rc w0))) a w := by
  obtain ⟨b, at_, lineAt, σ, st, hfr, hkk, hM, hb, h59, hle, hat, hc, hrem, hplay, hn⟩ := h
  have HKK := Lib.hid hkk
  have HGB : Hid (g < rc + 1) := Nat.lt_succ_of_lt hkk.2.2
  have HN := Lib.hid (next_M hM HGB.out hat)
  have HAT := Lib.hid hat
  have HLE := Lib.hid hle
  have hat2 : at_ ≤ 262144 := by omega
  by_cases h10 : (nb s at_).toNat = 10
  · obtain ⟨hlt, hpl⟩ := rem_done hb h59 hle h10 hrem hplay
    have HPL := Lib.hid hpl
    have HQ : Hid (((nb s at_).toNat : Int) = 10) := by rw [Hid, h10]; rfl
    rw [HQ.out] at HN
    have HMU : Hid (3 * (s.size - at_) + 1 < n) := by rw [Hid, hn, if_pos h10]; omega
    have HC : Hid (σ.col + (at_ - b) + lineAt = at_ + 1) := by rw [Hid]; omega
    clear hpl h10 hkk hM hb h59 hle hat hc hrem hplay HQ hlt hs hn
    refine Fr.elim (motive := fun a => ∃ rest, findLabel rdBody 2 = some rest ∧ rest.wp Tryd.prog (Next s g rc w0 n (bodyPost Tryd.prog Tryd.f7 (RdP s g rc w0))) a w) ?_ hfr
    intro u1 u5 u6 u7 u8 u9 u10 u11 u12 u13 u14 u15 u16 u17 u18 u19 u20 u21 u22 u23 u24 u25 u26 u27 u28 u29 u30 u31 u32 u33 u34 u35 u36 u37 u38 u39 u40 u41 u42 u43 u44 u45 u46 u47 u48 u49 u50 u51 u52 u53 u54 u55 u56 u57 u58 u59 u60 u61 u62 u63 u64 u65 u66 u67 u68 u69 u70 u71 u72 u73 u74 u75 u76 u77 u78 u79 u80 u81 u82 u83 u84 u85 u86 u87 u88 u89 u90 u91 u92 u93 u94 u95 u96 u97 u98 u99 u100 u101 u102 u103 u104 u105 u106 u107 u108 u109 u110 u111 u112 u113 u114 u115 u116 u117 u118 u119 u120 u121 u122 u123 u124
    refine ⟨_, rfl, ?_⟩
    go_wp2_with (go_at_call 11; refine HN.out.mono ?_; rintro e w1 ⟨rfl, h1, g1⟩; have HG := Lib.hid g1; have HM1 := Lib.hid h1; clear h1 g1)
    go_step3
    exact ⟨_, HMU.out, .inl ⟨rfl, at_, lineAt, σ.go (at_ - b), _, ⟨rfl, rfl, rfl, rfl, rfl, rfl⟩, HKK.out.step (Kb.grown (grown_any HG.out _) HKK.out.lt), HM1.out.go _ HLE.out, HAT.out, HC.out, HPL.out, rfl⟩⟩
  · have hlt : at_ < s.size := by
      rcases Nat.lt_or_ge at_ s.size with h | h
      · exact h
      · rw [nb_end h] at h10; exact absurd rfl h10
    have HREM : Hid (at_ + 1 + Tk.remLen (s.data.toList.drop (at_ + 1)) = b + Tk.remLen (s.data.toList.drop b)) := by rw [Hid, ← hrem, remLen_step hlt h10]
    have hq : (((nb s at_).toNat : Int) == 10) = false := beq_eq_false_iff_ne.2 (by omega)
    have HMU : Hid (3 * (s.size - (at_ + 1)) + (if (nb s (at_ + 1)).toNat = 10 then 2 else 0) < n) := by
      rw [Hid, hn, if_neg h10]
      split <;> omega
    have HLT := Lib.hid hlt
    have H59 := Lib.hid h59
    have HC := Lib.hid hc
    have HPL := Lib.hid hplay
    have HB := Lib.hid hb
    generalize ((nb s at_).toNat : Int) = q at *
    clear h10 hkk hM hb h59 hle hat hc hrem hplay hlt hs hn
    refine Fr.elim (motive := fun a => ∃ rest, findLabel rdBody 2 = some rest ∧ rest.wp Tryd.prog (Next s g rc w0 n (bodyPost Tryd.prog Tryd.f7 (RdP s g rc w0))) a w) ?_ hfr
    intro u1 u5 u6 u7 u8 u9 u10 u11 u12 u13 u14 u15 u16 u17 u18 u19 u20 u21 u22 u23 u24 u25 u26 u27 u28 u29 u30 u31 u32 u33 u34 u35 u36 u37 u38 u39 u40 u41 u42 u43 u44 u45 u46 u47 u48 u49 u50 u51 u52 u53 u54 u55 u56 u57 u58 u59 u60 u61 u62 u63 u64 u65 u66 u67 u68 u69 u70 u71 u72 u73 u74 u75 u76 u77 u78 u79 u80 u81 u82 u83 u84 u85 u86 u87 u88 u89 u90 u91 u92 u93 u94 u95 u96 u97 u98 u99 u100 u101 u102 u103 u104 u105 u106 u107 u108 u109 u110 u111 u112 u113 u114 u115 u116 u117 u118 u119 u120 u121 u122 u123 u124
    refine ⟨_, rfl, ?_⟩
    go_wp2_with (go_at_call 11; refine HN.out.mono ?_; rintro e w1 ⟨rfl, h1, g1⟩; have HG := Lib.hid g1; have HM1 := Lib.hid h1; have c1 := h1.c1; have f1 := h1.free 1; clear h1 g1)
    go_step3
    exact ⟨_, HMU.out, .inr (.inr (.inl ⟨rfl, b, at_ + 1, lineAt, σ, _, ⟨rfl, rfl, rfl, rfl, rfl, rfl⟩, HKK.out.step ((Kb.grown (grown_any HG.out _) HKK.out.lt).set 1 _), HM1.out.inc HGB.out, HB.out, H59.out, Nat.le_succ_of_le HLE.out, HLT.out, HC.out, HREM.out, HPL.out, rfl⟩))⟩
end Go.Proofs.YtgmemngfkajnbaaDoor
