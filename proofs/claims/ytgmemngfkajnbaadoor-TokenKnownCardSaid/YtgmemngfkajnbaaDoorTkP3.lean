/- The lexer's read: in a quoted word. -/
import Derived.Test.YtgmemngfkajnbaaDoorTkJ
namespace Go.Proofs.YtgmemngfkajnbaaDoor
open Go.RowKit

theorem tk1_tlen {s : ByteArray} {at_ : Nat} (h : at_ < s.size) : tk1 s at_ = Tk.tlen (s.data.toList.drop at_) := by
  rw [nb_drop h]
  unfold tk1
  by_cases h2 : at_ + 1 < s.size
  · rw [nb_drop h2]; rfl
  · rw [drop_end (at_ := at_ + 1) (by omega), nb_end (at_ := at_ + 1) (by omega)]
    show _ = 1
    rw [if_neg]
    rintro ⟨_, h⟩
    exact h rfl
theorem tk1_two (s : ByteArray) (at_ : Nat) : tk1 s at_ ≤ 2 ∧ 1 ≤ tk1 s at_ := by
  unfold tk1
  split <;> omega
theorem tk1_le {s : ByteArray} {at_ : Nat} (h : at_ < s.size) : at_ + tk1 s at_ ≤ s.size := by
  rw [tk1_tlen h]
  have := Tk.tlen_le (c := nb s at_) (r := s.data.toList.drop (at_ + 1))
  rw [← nb_drop h] at this
  simp at this
  have h3 : s.data.size = s.size := rfl
  omega
theorem quo_err {s : ByteArray} {b at_ : Nat} {σ : Tk.St} {R : Tk.Rs} (hb : b < s.size) (h34 : (nb s b).toNat = 34) (h10 : (nb s at_).toNat = 10)
    (hq : Tk.quoLen (s.data.toList.drop (b + 1)) = (Tk.quoLen (s.data.toList.drop at_)).map (at_ - (b + 1) + ·)) (hp : Tk.play (Tk.lx (s.data.toList.drop b)) σ = R) : R = .err σ.line σ.col 80 := by
  have h0 : Tk.quoLen (s.data.toList.drop at_) = none := by
    by_cases h : at_ < s.size
    · rw [nb_drop h]; exact Tk.quoLen_lf h10
    · rw [drop_end (by omega)]; rfl
  rw [h0] at hq
  rw [nb_drop hb, Tk.lx_bad h34 hq] at hp
  exact hp.symm
theorem quo_done {s : ByteArray} {b at_ : Nat} {σ : Tk.St} {R : Tk.Rs} (hb : b < s.size) (h34 : (nb s b).toNat = 34) (hle : b + 1 ≤ at_) (hat : at_ < s.size) (hc : (nb s at_).toNat = 34)
    (hq : Tk.quoLen (s.data.toList.drop (b + 1)) = (Tk.quoLen (s.data.toList.drop at_)).map (at_ - (b + 1) + ·)) (hp : Tk.play (Tk.lx (s.data.toList.drop b)) σ = R) :
    Tk.play (Tk.lx (s.data.toList.drop (at_ + 1))) (σ.put (s.extract (b + 1) at_).data.toList true (at_ + 1 - b)) = R := by
  rw [nb_drop hat, Tk.quoLen_q hc] at hq
  simp only [Option.map_some, Nat.add_zero] at hq
  rw [nb_drop hb, Tk.lx_quo h34 hq, Tk.play, List.drop_drop] at hp
  have hl : (List.take (at_ - (b + 1)) (s.data.toList.drop (b + 1))).length + 2 = at_ + 1 - b := by
    rw [List.length_take, List.length_drop]
    have h3 : s.data.toList.length = s.size := by simp
    omega
  rw [hl, show b + 1 + (at_ - (b + 1) + 1) = at_ + 1 by omega] at hp
  rw [extract_list]
  exact hp
theorem quo_step {s : ByteArray} {b at_ : Nat} (hle : b + 1 ≤ at_) (hat : at_ < s.size) (h10 : (nb s at_).toNat ≠ 10) (h34 : (nb s at_).toNat ≠ 34)
    (hq : Tk.quoLen (s.data.toList.drop (b + 1)) = (Tk.quoLen (s.data.toList.drop at_)).map (at_ - (b + 1) + ·)) :
    Tk.quoLen (s.data.toList.drop (b + 1)) = (Tk.quoLen (s.data.toList.drop (at_ + tk1 s at_))).map (at_ + tk1 s at_ - (b + 1) + ·) := by
  have h1 := Tk.quoLen_step (r := s.data.toList.drop (at_ + 1)) h10 h34
  rw [← nb_drop hat, ← tk1_tlen hat, List.drop_drop] at h1
  rw [hq, h1, Option.map_map]
  congr 1
  funext k
  simp only [Function.comp]
  omega
set_option maxHeartbeats 2000000 in
set_option maxRecDepth 100000 in
theorem pass3 (s : ByteArray) (g rc : Nat) (w0 : World) (n : Nat) (a : Act) (w : World) (hs : s.size ≤ 262144) (h : J3 s g rc w0 n a w) :
    ∃ rest, findLabel rdBody 3 = some rest ∧ rest.wp Tryd.prog (Next s g rc w0 n (bodyPost Tryd.prog Tryd.f7 (RdP s g rc w0))) a w := by
  obtain ⟨b, at_, lineAt, σ, hfr, hkk, hM, hb, h34, hle, hat, hc, hq, hplay, hn⟩ := h
  have HKK := Lib.hid hkk
  have HGB : Hid (g < rc + 1) := Nat.lt_succ_of_lt hkk.2.2
  have HN := Lib.hid (next_M hM HGB.out hat)
  have HAT := Lib.hid hat
  have HLE := Lib.hid hle
  have hat2 : at_ ≤ 262144 := by omega
  have hb2 : b ≤ 262144 := by omega
  by_cases h10 : (nb s at_).toNat = 10
  · have HR := Lib.hid (quo_err hb h34 h10 hq hplay)
    have HQ : Hid (((nb s at_).toNat : Int) = 10) := by rw [Hid, h10]; rfl
    rw [HQ.out] at HN
    have HS := Lib.hid (fun (W : World) (hW : LxM W g (rc + 1) s at_ lineAt σ b) => spot_M hW HGB.out hb2 (p := b) (by omega) hc)
    have hi2 : (Tryd.prog.info? 24).map (·.size) = some 2 := by kernel_rfl
    have HI := Lib.hid hi2
    clear h10 hkk hM hb h34 hle hat hc hq hplay HQ hs hn hi2
    refine Fr.elim (motive := fun a => ∃ rest, findLabel rdBody 3 = some rest ∧ rest.wp Tryd.prog (Next s g rc w0 n (bodyPost Tryd.prog Tryd.f7 (RdP s g rc w0))) a w) ?_ hfr
    intro u1 u5 u6 u7 u8 u9 u10 u11 u12 u13 u14 u15 u16 u17 u18 u19 u20 u21 u22 u23 u24 u25 u26 u27 u28 u29 u30 u31 u32 u33 u34 u35 u36 u37 u38 u39 u40 u41 u42 u43 u44 u45 u46 u47 u48 u49 u50 u51 u52 u53 u54 u55 u56 u57 u58 u59 u60 u61 u62 u63 u64 u65 u66 u67 u68 u69 u70 u71 u72 u73 u74 u75 u76 u77 u78 u79 u80 u81 u82 u83 u84 u85 u86 u87 u88 u89 u90 u91 u92 u93 u94 u95 u96 u97 u98 u99 u100 u101 u102 u103 u104 u105 u106 u107 u108 u109 u110 u111 u112 u113 u114 u115 u116 u117 u118 u119 u120 u121 u122 u123 u124
    refine ⟨_, rfl, ?_⟩
    go_wp2_with (first
      | (go_at_call 11; refine HN.out.mono ?_; rintro e w1 ⟨rfl, h1, g1⟩; have HG := Lib.hid g1; have HM1 := Lib.hid h1; clear h1 g1)
      | (go_at_call 13; refine (HS.out _ HM1.out).mono ?_; rintro e w2 ⟨rfl, h2, g2⟩; have HK2 := Lib.hid (HKK.out.step ((Kb.grown (grown_any HG.out _) HKK.out.lt).trans (Kb.grown (grown_any g2 _) (Nat.le_trans HKK.out.lt HG.out.size)))); have r0 : w2.cell? ⟨rc, 0, none⟩ = some (.int .i64 0) := HK2.out.2.1.cell 0; have r1 : w2.cell? ⟨rc, 1, none⟩ = some (.int .i64 0) := HK2.out.2.1.cell 1; have q0 := HK2.out.2.1.free 0; have q1 := HK2.out.2.1.free 1; clear h2 g2))
    show bodyPost _ _ _ Exit.ret _ _
    refine bodyPost_ret (results_row_tmp rfl _ _ rc 24 #[.int .i64 σ.line, .int .i64 σ.col] _ rfl ((HK2.out.2.1.set 0 _).set 1 _) Tryd.underlying24 rfl HI.out) rfl ?_
    refine ⟨((HK2.out.1.mono (Nat.le_succ _)).setHi (p := ⟨rc, 0, none⟩) (Nat.le_refl _) _).setHi (p := ⟨rc, 1, none⟩) (Nat.le_refl _) _, ?_⟩
    rw [HR.out]
    rfl
  · have hlt : at_ < s.size := by
      rcases Nat.lt_or_ge at_ s.size with h | h
      · exact h
      · rw [nb_end h] at h10; exact absurd rfl h10
    have q10 : (((nb s at_).toNat : Int) == 10) = false := beq_eq_false_iff_ne.2 (by omega)
    by_cases hc34 : (nb s at_).toNat = 34
    · have HPL := Lib.hid (quo_done hb h34 hle hlt hc34 hq hplay)
      have HQ : Hid (((nb s at_).toNat : Int) = 34) := by rw [Hid, hc34]; rfl
      rw [HQ.out] at HN
      have HP := Lib.hid (fun (W : World) (hW : LxM W g (rc + 1) s at_ lineAt σ b) (hb : rc + 1 ≤ W.heap.size) => put_M hW HGB.out hb (s.extract (b + 1) at_) true (p := b) (by omega) (Nat.le_refl _) hc (at_ + 1 - b))
      have HMU : Hid (3 * (s.size - (at_ + 1)) + 1 < n) := by rw [Hid, hn]; omega
      have HC : Hid ((σ.put (s.extract (b + 1) at_).data.toList true (at_ + 1 - b)).col + lineAt = at_ + 1 + 1) := by
        show σ.col + (at_ + 1 - b) + lineAt = _
        omega
      have HLT := Lib.hid hlt
      have i1 : (0 : Int) ≤ (b : Int) + 1 := by omega
      have i2 : (b : Int) + 1 ≤ (at_ : Int) := by omega
      have i3 : (at_ : Int) ≤ (s.size : Int) := by omega
      have w1' : IntKind.i64.wrap ((b : Int) + 1) = (b : Int) + 1 := by rw [IntKind.wrap_i64]; omega
      clear h10 hkk hM hb h34 hle hat hc hq hplay HQ hs hn hc34 hlt q10
      refine Fr.elim (motive := fun a => ∃ rest, findLabel rdBody 3 = some rest ∧ rest.wp Tryd.prog (Next s g rc w0 n (bodyPost Tryd.prog Tryd.f7 (RdP s g rc w0))) a w) ?_ hfr
      intro u1 u5 u6 u7 u8 u9 u10 u11 u12 u13 u14 u15 u16 u17 u18 u19 u20 u21 u22 u23 u24 u25 u26 u27 u28 u29 u30 u31 u32 u33 u34 u35 u36 u37 u38 u39 u40 u41 u42 u43 u44 u45 u46 u47 u48 u49 u50 u51 u52 u53 u54 u55 u56 u57 u58 u59 u60 u61 u62 u63 u64 u65 u66 u67 u68 u69 u70 u71 u72 u73 u74 u75 u76 u77 u78 u79 u80 u81 u82 u83 u84 u85 u86 u87 u88 u89 u90 u91 u92 u93 u94 u95 u96 u97 u98 u99 u100 u101 u102 u103 u104 u105 u106 u107 u108 u109 u110 u111 u112 u113 u114 u115 u116 u117 u118 u119 u120 u121 u122 u123 u124
      refine ⟨_, rfl, ?_⟩
      go_wp2_with (go_at_call 11; refine HN.out.mono ?_; rintro e w1 ⟨rfl, h1, g1⟩; have HG := Lib.hid g1; have HM1 := Lib.hid h1; have c0 := h1.c0; have c1 := h1.c1; clear h1 g1)
      go_still_tail 14, (by kernel_rfl)
      change wpList _ _ _ _ _ w1.drew
      have HM2 : Hid (LxM w1.drew g (rc + 1) s at_ lineAt σ b) := HM1.out.none HGB.out (grown_drewN w1 1 none)
      have HK2 : Hid (KK w0 g rc w1.drew) := HKK.out.step (Kb.grown (grown_any (grown_trans HG.out (grown_drewN w1 1 none)) _) HKK.out.lt)
      clear c0 c1 HG HM1 HN HKK
      generalize w1.drew = w2 at *
      go_wp2_with (go_at_call 16; refine (HP.out _ HM2.out HK2.out.lt).mono ?_; rintro e w3 ⟨rfl, h3, k3⟩; have HM3 := Lib.hid h3; have HK3 := Lib.hid (HK2.out.step k3); have c1 := h3.c1; have f1 := h3.free 1; clear h3 k3)
      go_step3
      exact ⟨_, HMU.out, .inl ⟨rfl, at_ + 1, lineAt, _, _, ⟨rfl, rfl, rfl, rfl, rfl, rfl⟩, HK3.out.step ((Kb.refl _ _ _).set 1 _), (HM3.out.inc HGB.out).more (Nat.le_succ_of_le HLE.out), HLT.out, HC.out, HPL.out, rfl⟩⟩
    · have q34 : (((nb s at_).toNat : Int) == 34) = false := beq_eq_false_iff_ne.2 (by omega)
      have HQS := Lib.hid (quo_step hle hlt h10 hc34 hq)
      have HT := Lib.hid (fun (W : World) (hW : LxM W g (rc + 1) s at_ lineAt σ b) => take_M hW HGB.out hlt hs)
      have h2 := tk1_two s at_
      have hl2 := tk1_le hlt
      have HMU : Hid (3 * (s.size - (at_ + tk1 s at_)) < n) := by rw [Hid, hn]; omega
      have HB := Lib.hid hb
      have H34 := Lib.hid h34
      have HC := Lib.hid hc
      have HPL := Lib.hid hplay
      have HL2 := Lib.hid hl2
      have HLE2 : Hid (b + 1 ≤ at_ + tk1 s at_) := by rw [Hid]; omega
      generalize ((nb s at_).toNat : Int) = q at *
      generalize at_ + tk1 s at_ = at2 at *
      clear h10 hkk hM hb h34 hle hat hc hq hplay hs hn hc34 hlt h2 hl2
      refine Fr.elim (motive := fun a => ∃ rest, findLabel rdBody 3 = some rest ∧ rest.wp Tryd.prog (Next s g rc w0 n (bodyPost Tryd.prog Tryd.f7 (RdP s g rc w0))) a w) ?_ hfr
      intro u1 u5 u6 u7 u8 u9 u10 u11 u12 u13 u14 u15 u16 u17 u18 u19 u20 u21 u22 u23 u24 u25 u26 u27 u28 u29 u30 u31 u32 u33 u34 u35 u36 u37 u38 u39 u40 u41 u42 u43 u44 u45 u46 u47 u48 u49 u50 u51 u52 u53 u54 u55 u56 u57 u58 u59 u60 u61 u62 u63 u64 u65 u66 u67 u68 u69 u70 u71 u72 u73 u74 u75 u76 u77 u78 u79 u80 u81 u82 u83 u84 u85 u86 u87 u88 u89 u90 u91 u92 u93 u94 u95 u96 u97 u98 u99 u100 u101 u102 u103 u104 u105 u106 u107 u108 u109 u110 u111 u112 u113 u114 u115 u116 u117 u118 u119 u120 u121 u122 u123 u124
      refine ⟨_, rfl, ?_⟩
      go_wp2_with (first
        | (go_at_call 11; refine HN.out.mono ?_; rintro e w1 ⟨rfl, h1, g1⟩; have HG := Lib.hid g1; have HM1 := Lib.hid h1; clear h1 g1)
        | (go_at_call 17; refine (HT.out _ HM1.out).mono ?_; rintro e w2 ⟨rfl, h2, g2⟩; have HM2 := Lib.hid h2; have HK2 := Lib.hid (HKK.out.step ((Kb.grown (grown_any HG.out _) HKK.out.lt).trans (Kb.grown g2 (Nat.le_trans HKK.out.lt HG.out.size)))); clear h2 g2))
      go_step3
      exact ⟨_, HMU.out, .inr (.inr (.inr (.inl ⟨rfl, b, at2, lineAt, σ, ⟨rfl, rfl, rfl, rfl, rfl, rfl⟩, HK2.out, HM2.out, HB.out, H34.out, HLE2.out, HL2.out, HC.out, HQS.out, HPL.out, rfl⟩)))⟩
end Go.Proofs.YtgmemngfkajnbaaDoor
