/- The lexer's read: in a bare word. -/
import Derived.Test.YtgmemngfkajnbaaDoorTkP3
namespace Go.Proofs.YtgmemngfkajnbaaDoor
open Go.RowKit

theorem bare_done {s : ByteArray} {b at_ : Nat} {σ : Tk.St} {R : Tk.Rs} (hb : b < s.size) (hends : Tk.ends (nb s b) = false) (_ : b ≤ at_) (hat : at_ ≤ s.size) (he : Tk.ends (nb s at_) = true)
    (hq : at_ + Tk.bareLen (s.data.toList.drop at_) = b + Tk.bareLen (s.data.toList.drop b)) (hp : Tk.play (Tk.lx (s.data.toList.drop b)) σ = R) :
    b + 1 ≤ at_ ∧ Tk.play (Tk.lx (s.data.toList.drop at_)) (σ.put (s.extract b at_).data.toList false (at_ - b)) = R := by
  have h0 : Tk.bareLen (s.data.toList.drop at_) = 0 := by
    by_cases h : at_ < s.size
    · rw [nb_drop h]; exact Tk.bareLen_end he
    · rw [drop_end (by omega)]; rfl
  have h1 : 1 ≤ Tk.bareLen (s.data.toList.drop b) := by
    rw [nb_drop hb]; exact Tk.bareLen_pos hends
  have hp' := hp
  rw [nb_drop hb, Tk.lx_bare hends, ← nb_drop hb, Tk.play, List.drop_drop] at hp'
  have hk : Tk.bareLen (s.data.toList.drop b) = at_ - b := by omega
  have hl : (List.take (at_ - b) (s.data.toList.drop b)).length = at_ - b := by
    rw [List.length_take, List.length_drop]
    have h3 : s.data.toList.length = s.size := by simp
    omega
  rw [hk, hl, show b + (at_ - b) = at_ by omega] at hp'
  rw [extract_list]
  exact ⟨by omega, hp'⟩
theorem bare_step {s : ByteArray} {b at_ : Nat} (hat : at_ < s.size) (he : Tk.ends (nb s at_) = false)
    (hq : at_ + Tk.bareLen (s.data.toList.drop at_) = b + Tk.bareLen (s.data.toList.drop b)) :
    at_ + tk1 s at_ + Tk.bareLen (s.data.toList.drop (at_ + tk1 s at_)) = b + Tk.bareLen (s.data.toList.drop b) := by
  have h1 := Tk.bareLen_step (r := s.data.toList.drop (at_ + 1)) he
  rw [← nb_drop hat, ← tk1_tlen hat, List.drop_drop] at h1
  omega
set_option maxHeartbeats 2000000 in
set_option maxRecDepth 100000 in
theorem pass4 (s : ByteArray) (g rc : Nat) (w0 : World) (n : Nat) (a : Act) (w : World) (hs : s.size ≤ 262144) (h : J4 s g rc w0 n a w) :
    ∃ rest, findLabel rdBody 4 = some rest ∧ rest.wp Tryd.prog (Next s g rc w0 n (bodyPost Tryd.prog Tryd.f7 (RdP s g rc w0))) a w := by
  obtain ⟨b, at_, lineAt, σ, hfr, hkk, hM, hb, hends, hle, hat, hc, hq, hplay, hn⟩ := h
  have HKK := Lib.hid hkk
  have HGB : Hid (g < rc + 1) := Nat.lt_succ_of_lt hkk.2.2
  have HN := Lib.hid (next_M hM HGB.out hat)
  have HE := Lib.hid (endsBare_any (nb s at_))
  have HAT := Lib.hid hat
  have HLE := Lib.hid hle
  have hat2 : at_ ≤ 262144 := by omega
  have hb2 : b ≤ 262144 := by omega
  by_cases he : Tk.ends (nb s at_) = true
  · obtain ⟨hlt, hpl⟩ := bare_done hb hends hle hat he hq hplay
    have HPL := Lib.hid hpl
    rw [he] at HE
    have HP := Lib.hid (fun (W : World) (hW : LxM W g (rc + 1) s at_ lineAt σ b) (hb : rc + 1 ≤ W.heap.size) => put_M hW HGB.out hb (s.extract b at_) false (p := b) (by omega) (Nat.le_refl _) hc (at_ - b))
    have HMU : Hid (3 * (s.size - at_) + 1 < n) := by rw [Hid, hn, if_pos he]; omega
    have HC : Hid ((σ.put (s.extract b at_).data.toList false (at_ - b)).col + lineAt = at_ + 1) := by
      show σ.col + (at_ - b) + lineAt = _
      omega
    have HLT := Lib.hid hlt
    have i1 : (0 : Int) ≤ (b : Int) := by omega
    have i2 : (b : Int) ≤ (at_ : Int) := by omega
    have i3 : (at_ : Int) ≤ (s.size : Int) := by omega
    generalize ((nb s at_).toNat : Int) = q at *
    clear hkk hM hb hends hle hat hc hq hplay hs hn he hlt hpl
    refine Fr.elim (motive := fun a => ∃ rest, findLabel rdBody 4 = some rest ∧ rest.wp Tryd.prog (Next s g rc w0 n (bodyPost Tryd.prog Tryd.f7 (RdP s g rc w0))) a w) ?_ hfr
    intro u1 u5 u6 u7 u8 u9 u10 u11 u12 u13 u14 u15 u16 u17 u18 u19 u20 u21 u22 u23 u24 u25 u26 u27 u28 u29 u30 u31 u32 u33 u34 u35 u36 u37 u38 u39 u40 u41 u42 u43 u44 u45 u46 u47 u48 u49 u50 u51 u52 u53 u54 u55 u56 u57 u58 u59 u60 u61 u62 u63 u64 u65 u66 u67 u68 u69 u70 u71 u72 u73 u74 u75 u76 u77 u78 u79 u80 u81 u82 u83 u84 u85 u86 u87 u88 u89 u90 u91 u92 u93 u94 u95 u96 u97 u98 u99 u100 u101 u102 u103 u104 u105 u106 u107 u108 u109 u110 u111 u112 u113 u114 u115 u116 u117 u118 u119 u120 u121 u122 u123 u124
    refine ⟨_, rfl, ?_⟩
    go_wp2_with (first
      | (go_at_call 11; refine HN.out.mono ?_; rintro e w1 ⟨rfl, h1, g1⟩; have HG := Lib.hid g1; have HM1 := Lib.hid h1; have c0 := h1.c0; have c1 := h1.c1; clear h1 g1)
      | (go_at_call 14; refine (HE.out _).mono ?_; rintro e w2 ⟨rfl, hw2⟩; subst hw2))
    go_still_tail 13, (by kernel_rfl)
    change wpList _ _ _ _ _ w2.drew
    have HM2 : Hid (LxM w2.drew g (rc + 1) s at_ lineAt σ b) := HM1.out.none HGB.out (grown_drewN w2 1 none)
    have HK2 : Hid (KK w0 g rc w2.drew) := HKK.out.step (Kb.grown (grown_any (grown_trans HG.out (grown_drewN w2 1 none)) _) HKK.out.lt)
    clear c0 c1 HG HM1 HN HKK
    generalize w2.drew = w4 at *
    go_wp2_with (go_at_call 16; refine (HP.out _ HM2.out HK2.out.lt).mono ?_; rintro e w3 ⟨rfl, h3, k3⟩; have HM3 := Lib.hid h3; have HK3 := Lib.hid (HK2.out.step k3); clear h3 k3)
    go_step3
    exact ⟨_, HMU.out, .inl ⟨rfl, at_, lineAt, _, _, ⟨rfl, rfl, rfl, rfl, rfl, rfl⟩, HK3.out, HM3.out.more HLT.out, HAT.out, HC.out, HPL.out, rfl⟩⟩
  · simp only [Bool.not_eq_true] at he
    have hlt : at_ < s.size := by
      rcases Nat.lt_or_ge at_ s.size with h | h
      · exact h
      · rw [nb_end h] at he; exact absurd he (by decide)
    rw [he] at HE
    have HQS := Lib.hid (bare_step hlt he hq)
    have HT := Lib.hid (fun (W : World) (hW : LxM W g (rc + 1) s at_ lineAt σ b) => take_M hW HGB.out hlt hs)
    have h2 := tk1_two s at_
    have hl2 := tk1_le hlt
    have HMU : Hid (3 * (s.size - (at_ + tk1 s at_)) + (if Tk.ends (nb s (at_ + tk1 s at_)) then 2 else 0) < n) := by
      rw [Hid, hn, he]
      split <;> simp <;> omega
    have HB := Lib.hid hb
    have HEN := Lib.hid hends
    have HC := Lib.hid hc
    have HPL := Lib.hid hplay
    have HL2 := Lib.hid hl2
    have HLE2 : Hid (b ≤ at_ + tk1 s at_) := by rw [Hid]; omega
    generalize ((nb s at_).toNat : Int) = q at *
    generalize at_ + tk1 s at_ = at2 at *
    clear hkk hM hb hends hle hat hc hq hplay hs hn he hlt h2 hl2
    refine Fr.elim (motive := fun a => ∃ rest, findLabel rdBody 4 = some rest ∧ rest.wp Tryd.prog (Next s g rc w0 n (bodyPost Tryd.prog Tryd.f7 (RdP s g rc w0))) a w) ?_ hfr
    intro u1 u5 u6 u7 u8 u9 u10 u11 u12 u13 u14 u15 u16 u17 u18 u19 u20 u21 u22 u23 u24 u25 u26 u27 u28 u29 u30 u31 u32 u33 u34 u35 u36 u37 u38 u39 u40 u41 u42 u43 u44 u45 u46 u47 u48 u49 u50 u51 u52 u53 u54 u55 u56 u57 u58 u59 u60 u61 u62 u63 u64 u65 u66 u67 u68 u69 u70 u71 u72 u73 u74 u75 u76 u77 u78 u79 u80 u81 u82 u83 u84 u85 u86 u87 u88 u89 u90 u91 u92 u93 u94 u95 u96 u97 u98 u99 u100 u101 u102 u103 u104 u105 u106 u107 u108 u109 u110 u111 u112 u113 u114 u115 u116 u117 u118 u119 u120 u121 u122 u123 u124
    refine ⟨_, rfl, ?_⟩
    go_wp2_with (first
      | (go_at_call 11; refine HN.out.mono ?_; rintro e w1 ⟨rfl, h1, g1⟩; have HG := Lib.hid g1; have HM1 := Lib.hid h1; clear h1 g1)
      | (go_at_call 14; refine (HE.out _).mono ?_; rintro e w2 ⟨rfl, rfl⟩)
      | (go_at_call 17; refine (HT.out _ HM1.out).mono ?_; rintro e w2 ⟨rfl, h2, g2⟩; have HM2 := Lib.hid h2; have HK2 := Lib.hid (HKK.out.step ((Kb.grown (grown_any HG.out _) HKK.out.lt).trans (Kb.grown g2 (Nat.le_trans HKK.out.lt HG.out.size)))); clear h2 g2))
    go_step3
    exact ⟨_, HMU.out, .inr (.inr (.inr (.inr ⟨rfl, b, at2, lineAt, σ, ⟨rfl, rfl, rfl, rfl, rfl, rfl⟩, HK2.out, HM2.out, HB.out, HEN.out, HLE2.out, HL2.out, HC.out, HQS.out, HPL.out, rfl⟩)))⟩
end Go.Proofs.YtgmemngfkajnbaaDoor
