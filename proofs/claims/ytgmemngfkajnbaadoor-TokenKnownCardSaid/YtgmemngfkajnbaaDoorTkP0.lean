/- The lexer's read: between words. -/
import Derived.Test.YtgmemngfkajnbaaDoorTkP4
import Derived.Test.YtgmemngfkajnbaaDoorTkP2
namespace Go.Proofs.YtgmemngfkajnbaaDoor
open Go.RowKit

set_option maxHeartbeats 4000000 in
set_option maxRecDepth 100000 in
theorem pass0 (s : ByteArray) (g rc : Nat) (w0 : World) (n : Nat) (a : Act) (w : World) (hs : s.size ≤ 262144) (h : J0 s g rc w0 n a w) :
    ∃ X, findLabel rdBody 0 = some (Code.seq .skip X) ∧ X.wp Tryd.prog (Next s g rc w0 n (bodyPost Tryd.prog Tryd.f7 (RdP s g rc w0))) a w := by
  obtain ⟨at_, lineAt, σ, st, hfr, hkk, hM, hat, hc, hplay, hn⟩ := h
  have HKK := Lib.hid hkk
  have HGB : Hid (g < rc + 1) := Nat.lt_succ_of_lt hkk.2.2
  have c1 := hM.c1
  have HN := Lib.hid (next_M hM HGB.out hat)
  have HA := Lib.hid (fun (W : World) (hW : LxM W g (rc + 1) s at_ lineAt σ at_) => atEnd_M hW HGB.out)
  have HE := Lib.hid (endsBare_any (nb s at_))
  have HAT := Lib.hid hat
  have hat2 : at_ ≤ 262144 := by omega
  rcases Nat.lt_or_ge at_ s.size with hlt | hge
  · have hqa : ((at_ : Int) == (s.size : Int)) = false := beq_eq_false_iff_ne.2 (by omega)
    rw [hqa] at HA
    have HLT := Lib.hid hlt
    have HC := Lib.hid hc
    have HPL := Lib.hid hplay
    by_cases h59 : (nb s at_).toNat = 59
    · have HMU : Hid (3 * (s.size - at_) + (if (nb s at_).toNat = 10 then 2 else 0) < n) := by rw [Hid, hn, if_neg (by omega)]; omega
      have H59 := Lib.hid h59
      have HQ : Hid (((nb s at_).toNat : Int) = 59) := by rw [Hid, h59]; rfl
      rw [HQ.out] at HN
      clear hkk hM hat hc hplay hs hn hlt h59 HQ hqa HE
      refine Fr.elim (motive := fun a => ∃ X, findLabel rdBody 0 = some (Code.seq .skip X) ∧ X.wp Tryd.prog (Next s g rc w0 n (bodyPost Tryd.prog Tryd.f7 (RdP s g rc w0))) a w) ?_ hfr
      intro u1 u5 u6 u7 u8 u9 u10 u11 u12 u13 u14 u15 u16 u17 u18 u19 u20 u21 u22 u23 u24 u25 u26 u27 u28 u29 u30 u31 u32 u33 u34 u35 u36 u37 u38 u39 u40 u41 u42 u43 u44 u45 u46 u47 u48 u49 u50 u51 u52 u53 u54 u55 u56 u57 u58 u59 u60 u61 u62 u63 u64 u65 u66 u67 u68 u69 u70 u71 u72 u73 u74 u75 u76 u77 u78 u79 u80 u81 u82 u83 u84 u85 u86 u87 u88 u89 u90 u91 u92 u93 u94 u95 u96 u97 u98 u99 u100 u101 u102 u103 u104 u105 u106 u107 u108 u109 u110 u111 u112 u113 u114 u115 u116 u117 u118 u119 u120 u121 u122 u123 u124
      refine ⟨_, rfl, ?_⟩
      go_wp2_with (first
        | (go_at_call 11; refine HN.out.mono ?_; rintro e w1 ⟨rfl, h1, g1⟩; have HG1 := Lib.hid g1; have HM1 := Lib.hid h1; clear h1 g1)
        | (go_at_call 12; refine (HA.out _ HM1.out).mono ?_; rintro e w2 ⟨rfl, h2, g2⟩; have HG2 := Lib.hid (grown_trans HG1.out g2); have HM2 := Lib.hid h2; have c4 := h2.c4; clear h2 g2))
      go_step3
      exact ⟨_, HMU.out, .inr (.inr (.inl ⟨rfl, at_, at_, lineAt, σ, _, ⟨rfl, rfl, rfl, rfl, rfl, rfl⟩, HKK.out.step (Kb.grown (grown_any HG2.out _) HKK.out.lt), HM2.out, HLT.out, H59.out, Nat.le_refl _, HAT.out, HC.out, rfl, HPL.out, rfl⟩))⟩
    have q59 : (((nb s at_).toNat : Int) == 59) = false := beq_eq_false_iff_ne.2 (by omega)
    by_cases h34 : (nb s at_).toNat = 34
    · have HMU : Hid (3 * (s.size - (at_ + 1)) < n) := by rw [Hid, hn]; omega
      have H34 := Lib.hid h34
      have HQ : Hid (((nb s at_).toNat : Int) = 34) := by rw [Hid, h34]; rfl
      rw [HQ.out] at HN
      have HQL : Hid (Tk.quoLen (s.data.toList.drop (at_ + 1)) = (Tk.quoLen (s.data.toList.drop (at_ + 1))).map (at_ + 1 - (at_ + 1) + ·)) := by
        rw [Hid, Nat.sub_self]
        cases Tk.quoLen (s.data.toList.drop (at_ + 1)) <;> simp
      clear hkk hM hat hc hplay hs hn hlt h59 h34 HQ q59 hqa HE
      refine Fr.elim (motive := fun a => ∃ X, findLabel rdBody 0 = some (Code.seq .skip X) ∧ X.wp Tryd.prog (Next s g rc w0 n (bodyPost Tryd.prog Tryd.f7 (RdP s g rc w0))) a w) ?_ hfr
      intro u1 u5 u6 u7 u8 u9 u10 u11 u12 u13 u14 u15 u16 u17 u18 u19 u20 u21 u22 u23 u24 u25 u26 u27 u28 u29 u30 u31 u32 u33 u34 u35 u36 u37 u38 u39 u40 u41 u42 u43 u44 u45 u46 u47 u48 u49 u50 u51 u52 u53 u54 u55 u56 u57 u58 u59 u60 u61 u62 u63 u64 u65 u66 u67 u68 u69 u70 u71 u72 u73 u74 u75 u76 u77 u78 u79 u80 u81 u82 u83 u84 u85 u86 u87 u88 u89 u90 u91 u92 u93 u94 u95 u96 u97 u98 u99 u100 u101 u102 u103 u104 u105 u106 u107 u108 u109 u110 u111 u112 u113 u114 u115 u116 u117 u118 u119 u120 u121 u122 u123 u124
      refine ⟨_, rfl, ?_⟩
      go_wp2_with (first
        | (go_at_call 11; refine HN.out.mono ?_; rintro e w1 ⟨rfl, h1, g1⟩; have HG1 := Lib.hid g1; have HM1 := Lib.hid h1; clear h1 g1)
        | (go_at_call 12; refine (HA.out _ HM1.out).mono ?_; rintro e w2 ⟨rfl, h2, g2⟩; have HG2 := Lib.hid (grown_trans HG1.out g2); have HM2 := Lib.hid h2; have d1 := h2.c1; have f1 := h2.free 1; have c4 := h2.c4; clear h2 g2))
      go_step3
      exact ⟨_, HMU.out, .inr (.inr (.inr (.inl ⟨rfl, at_, at_ + 1, lineAt, σ, ⟨rfl, rfl, rfl, rfl, rfl, rfl⟩, HKK.out.step ((Kb.grown (grown_any HG2.out _) HKK.out.lt).set 1 _), HM2.out.inc HGB.out, HLT.out, H34.out, Nat.le_refl _, HLT.out, HC.out, HQL.out, HPL.out, rfl⟩)))⟩
    have q34 : (((nb s at_).toNat : Int) == 34) = false := beq_eq_false_iff_ne.2 (by omega)
    by_cases he : Tk.ends (nb s at_) = true
    · rw [he] at HE
      by_cases h41 : (nb s at_).toNat = 41 ∧ σ.dep = 0
      · have HR : Hid (Tk.tells s.data.toList = .err σ.line σ.col 81) := by
          rw [Hid, ← hplay, nb_drop hlt, Tk.lx_ch h59 h34 he, Tk.play, if_neg (by omega), if_neg (by omega), if_pos h41.1, if_pos h41.2]
          rfl
        have HQ : Hid (((nb s at_).toNat : Int) = 41) := by rw [Hid, h41.1]; rfl
        rw [HQ.out] at HN
        have hd := h41.2
        have HS := Lib.hid (fun (W : World) (hW : LxM W g (rc + 1) s at_ lineAt σ at_) => spot_M hW HGB.out hat2 (p := at_) (by omega) hc)
        have hi2 : (Tryd.prog.info? 24).map (·.size) = some 2 := by kernel_rfl
        have HI := Lib.hid hi2
        have HD := Lib.hid hd
        clear hkk hM hat hc hplay hs hn hlt h59 h34 HQ q59 q34 h41 he hi2 hd hqa HE
        refine Fr.elim (motive := fun a => ∃ X, findLabel rdBody 0 = some (Code.seq .skip X) ∧ X.wp Tryd.prog (Next s g rc w0 n (bodyPost Tryd.prog Tryd.f7 (RdP s g rc w0))) a w) ?_ hfr
        intro u1 u5 u6 u7 u8 u9 u10 u11 u12 u13 u14 u15 u16 u17 u18 u19 u20 u21 u22 u23 u24 u25 u26 u27 u28 u29 u30 u31 u32 u33 u34 u35 u36 u37 u38 u39 u40 u41 u42 u43 u44 u45 u46 u47 u48 u49 u50 u51 u52 u53 u54 u55 u56 u57 u58 u59 u60 u61 u62 u63 u64 u65 u66 u67 u68 u69 u70 u71 u72 u73 u74 u75 u76 u77 u78 u79 u80 u81 u82 u83 u84 u85 u86 u87 u88 u89 u90 u91 u92 u93 u94 u95 u96 u97 u98 u99 u100 u101 u102 u103 u104 u105 u106 u107 u108 u109 u110 u111 u112 u113 u114 u115 u116 u117 u118 u119 u120 u121 u122 u123 u124
        refine ⟨_, rfl, ?_⟩
        go_wp2_with (first
          | (go_at_call 11; refine HN.out.mono ?_; rintro e w1 ⟨rfl, h1, g1⟩; have HG1 := Lib.hid g1; have HM1 := Lib.hid h1; clear h1 g1)
          | (go_at_call 12; refine (HA.out _ HM1.out).mono ?_; rintro e w2 ⟨rfl, h2, g2⟩; have HG2 := Lib.hid (grown_trans HG1.out g2); have HM2 := Lib.hid h2; have c4 := h2.c4; rw [HD.out] at c4; clear h2 g2)
          | (go_at_call 13; refine (HS.out _ HM2.out).mono ?_; rintro e w3 ⟨rfl, h3, g3⟩; have HK2 := Lib.hid (HKK.out.step (Kb.grown (grown_any (grown_trans HG2.out g3) _) HKK.out.lt)); have r0 : w3.cell? ⟨rc, 0, none⟩ = some (.int .i64 0) := HK2.out.2.1.cell 0; have r1 : w3.cell? ⟨rc, 1, none⟩ = some (.int .i64 0) := HK2.out.2.1.cell 1; have q0 := HK2.out.2.1.free 0; have q1 := HK2.out.2.1.free 1; clear h3 g3))
        show bodyPost _ _ _ Exit.ret _ _
        refine bodyPost_ret (results_row_tmp rfl _ _ rc 24 #[.int .i64 σ.line, .int .i64 σ.col] _ rfl ((HK2.out.2.1.set 0 _).set 1 _) Tryd.underlying24 rfl HI.out) rfl ?_
        refine ⟨((HK2.out.1.mono (Nat.le_succ _)).setHi (p := ⟨rc, 0, none⟩) (Nat.le_refl _) _).setHi (p := ⟨rc, 1, none⟩) (Nat.le_refl _) _, ?_⟩
        rw [HR.out]
        rfl
      · have HP := Lib.hid (fun (W : World) (hW : LxM W g (rc + 1) s at_ lineAt σ at_) (hb : rc + 1 ≤ W.heap.size) => pass_step s at_ lineAt σ g (rc + 1) W hW HGB.out hb hlt hs hc he h59 h34 (fun e e2 => h41 ⟨e, e2⟩))
        have HMU : Hid (3 * (s.size - (at_ + 1)) + 1 < n) := by rw [Hid, hn]; omega
        by_cases h41a : (nb s at_).toNat = 41
        · have hd : ((σ.dep : Int) == 0) = false := beq_eq_false_iff_ne.2 (by have : σ.dep ≠ 0 := fun e => h41 ⟨h41a, e⟩; omega)
          have q41 : (((nb s at_).toNat : Int) == 41) = true := beq_iff_eq.2 (by omega)
          generalize ((nb s at_).toNat : Int) = q at *
          clear hkk hM hat hc hplay hs hn hlt h59 h34 h41 he h41a hqa
          refine Fr.elim (motive := fun a => ∃ X, findLabel rdBody 0 = some (Code.seq .skip X) ∧ X.wp Tryd.prog (Next s g rc w0 n (bodyPost Tryd.prog Tryd.f7 (RdP s g rc w0))) a w) ?_ hfr
          intro u1 u5 u6 u7 u8 u9 u10 u11 u12 u13 u14 u15 u16 u17 u18 u19 u20 u21 u22 u23 u24 u25 u26 u27 u28 u29 u30 u31 u32 u33 u34 u35 u36 u37 u38 u39 u40 u41 u42 u43 u44 u45 u46 u47 u48 u49 u50 u51 u52 u53 u54 u55 u56 u57 u58 u59 u60 u61 u62 u63 u64 u65 u66 u67 u68 u69 u70 u71 u72 u73 u74 u75 u76 u77 u78 u79 u80 u81 u82 u83 u84 u85 u86 u87 u88 u89 u90 u91 u92 u93 u94 u95 u96 u97 u98 u99 u100 u101 u102 u103 u104 u105 u106 u107 u108 u109 u110 u111 u112 u113 u114 u115 u116 u117 u118 u119 u120 u121 u122 u123 u124
          refine ⟨_, rfl, ?_⟩
          go_wp2_with (first
            | (go_at_call 11; refine HN.out.mono ?_; rintro e w1 ⟨rfl, h1, g1⟩; have HG1 := Lib.hid g1; have HM1 := Lib.hid h1; clear h1 g1)
            | (go_at_call 12; refine (HA.out _ HM1.out).mono ?_; rintro e w2 ⟨rfl, h2, g2⟩; have HG2 := Lib.hid (grown_trans HG1.out g2); have HM2 := Lib.hid h2; have c4 := h2.c4; clear h2 g2)
            | (go_at_call 14; refine (HE.out _).mono ?_; rintro e w5 ⟨rfl, hw5⟩; subst hw5)
            | (go_at_call 15; refine (HP.out _ HM2.out (Nat.le_trans HKK.out.lt HG2.out.size)).mono ?_; rintro e w3 ⟨rfl, la, σ2, h3, h4, h5, h6⟩; have HM3 := Lib.hid h3; have HC3 := Lib.hid h4; have HK3 := Lib.hid (HKK.out.step ((Kb.grown (grown_any HG2.out _) HKK.out.lt).trans h5)); have HP3 := Lib.hid (h6.symm.trans HPL.out); clear h3 h4 h5 h6))
          go_step3
          exact ⟨_, HMU.out, .inl ⟨rfl, at_ + 1, la, σ2, _, ⟨rfl, rfl, rfl, rfl, rfl, rfl⟩, HK3.out, HM3.out, HLT.out, HC3.out, HP3.out, rfl⟩⟩
        · have q41 : (((nb s at_).toNat : Int) == 41) = false := beq_eq_false_iff_ne.2 (by omega)
          generalize ((nb s at_).toNat : Int) = q at *
          clear hkk hM hat hc hplay hs hn hlt h59 h34 h41 he h41a hqa
          refine Fr.elim (motive := fun a => ∃ X, findLabel rdBody 0 = some (Code.seq .skip X) ∧ X.wp Tryd.prog (Next s g rc w0 n (bodyPost Tryd.prog Tryd.f7 (RdP s g rc w0))) a w) ?_ hfr
          intro u1 u5 u6 u7 u8 u9 u10 u11 u12 u13 u14 u15 u16 u17 u18 u19 u20 u21 u22 u23 u24 u25 u26 u27 u28 u29 u30 u31 u32 u33 u34 u35 u36 u37 u38 u39 u40 u41 u42 u43 u44 u45 u46 u47 u48 u49 u50 u51 u52 u53 u54 u55 u56 u57 u58 u59 u60 u61 u62 u63 u64 u65 u66 u67 u68 u69 u70 u71 u72 u73 u74 u75 u76 u77 u78 u79 u80 u81 u82 u83 u84 u85 u86 u87 u88 u89 u90 u91 u92 u93 u94 u95 u96 u97 u98 u99 u100 u101 u102 u103 u104 u105 u106 u107 u108 u109 u110 u111 u112 u113 u114 u115 u116 u117 u118 u119 u120 u121 u122 u123 u124
          refine ⟨_, rfl, ?_⟩
          go_wp2_with (first
            | (go_at_call 11; refine HN.out.mono ?_; rintro e w1 ⟨rfl, h1, g1⟩; have HG1 := Lib.hid g1; have HM1 := Lib.hid h1; clear h1 g1)
            | (go_at_call 12; refine (HA.out _ HM1.out).mono ?_; rintro e w2 ⟨rfl, h2, g2⟩; have HG2 := Lib.hid (grown_trans HG1.out g2); have HM2 := Lib.hid h2; clear h2 g2)
            | (go_at_call 14; refine (HE.out _).mono ?_; rintro e w5 ⟨rfl, hw5⟩; subst hw5)
            | (go_at_call 15; refine (HP.out _ HM2.out (Nat.le_trans HKK.out.lt HG2.out.size)).mono ?_; rintro e w3 ⟨rfl, la, σ2, h3, h4, h5, h6⟩; have HM3 := Lib.hid h3; have HC3 := Lib.hid h4; have HK3 := Lib.hid (HKK.out.step ((Kb.grown (grown_any HG2.out _) HKK.out.lt).trans h5)); have HP3 := Lib.hid (h6.symm.trans HPL.out); clear h3 h4 h5 h6))
          go_step3
          exact ⟨_, HMU.out, .inl ⟨rfl, at_ + 1, la, σ2, _, ⟨rfl, rfl, rfl, rfl, rfl, rfl⟩, HK3.out, HM3.out, HLT.out, HC3.out, HP3.out, rfl⟩⟩
    · simp only [Bool.not_eq_true] at he
      rw [he] at HE
      have HEN := Lib.hid he
      have HMU : Hid (3 * (s.size - at_) + (if Tk.ends (nb s at_) then 2 else 0) < n) := by rw [Hid, hn, he]; simp
      have q41 : (((nb s at_).toNat : Int) == 41) = false := beq_eq_false_iff_ne.2 (by
        intro e
        have : (nb s at_).toNat = 41 := by omega
        simp [Tk.ends, this] at he)
      generalize ((nb s at_).toNat : Int) = q at *
      clear hkk hM hat hc hplay hs hn hlt h59 h34 he hqa
      refine Fr.elim (motive := fun a => ∃ X, findLabel rdBody 0 = some (Code.seq .skip X) ∧ X.wp Tryd.prog (Next s g rc w0 n (bodyPost Tryd.prog Tryd.f7 (RdP s g rc w0))) a w) ?_ hfr
      intro u1 u5 u6 u7 u8 u9 u10 u11 u12 u13 u14 u15 u16 u17 u18 u19 u20 u21 u22 u23 u24 u25 u26 u27 u28 u29 u30 u31 u32 u33 u34 u35 u36 u37 u38 u39 u40 u41 u42 u43 u44 u45 u46 u47 u48 u49 u50 u51 u52 u53 u54 u55 u56 u57 u58 u59 u60 u61 u62 u63 u64 u65 u66 u67 u68 u69 u70 u71 u72 u73 u74 u75 u76 u77 u78 u79 u80 u81 u82 u83 u84 u85 u86 u87 u88 u89 u90 u91 u92 u93 u94 u95 u96 u97 u98 u99 u100 u101 u102 u103 u104 u105 u106 u107 u108 u109 u110 u111 u112 u113 u114 u115 u116 u117 u118 u119 u120 u121 u122 u123 u124
      refine ⟨_, rfl, ?_⟩
      go_wp2_with (first
        | (go_at_call 11; refine HN.out.mono ?_; rintro e w1 ⟨rfl, h1, g1⟩; have HG1 := Lib.hid g1; have HM1 := Lib.hid h1; clear h1 g1)
        | (go_at_call 12; refine (HA.out _ HM1.out).mono ?_; rintro e w2 ⟨rfl, h2, g2⟩; have HG2 := Lib.hid (grown_trans HG1.out g2); have HM2 := Lib.hid h2; clear h2 g2)
        | (go_at_call 14; refine (HE.out _).mono ?_; rintro e w5 ⟨rfl, hw5⟩; subst hw5))
      go_step3
      exact ⟨_, HMU.out, .inr (.inr (.inr (.inr ⟨rfl, at_, at_, lineAt, σ, ⟨rfl, rfl, rfl, rfl, rfl, rfl⟩, HKK.out.step (Kb.grown (grown_any HG2.out _) HKK.out.lt), HM2.out, HLT.out, HEN.out, Nat.le_refl _, HAT.out, HC.out, rfl, HPL.out, rfl⟩)))⟩
  · obtain rfl : at_ = s.size := by omega
    have hqa : ((s.size : Int) == (s.size : Int)) = true := beq_iff_eq.2 rfl
    rw [hqa] at HA
    have HPL : Hid (Tk.play [] σ = Tk.tells s.data.toList) := by
      rw [Hid, ← hplay, drop_end (Nat.le_refl _)]
      rfl
    have HMU : Hid (0 < n) := by rw [Hid, hn]; omega
    generalize ((nb s s.size).toNat : Int) = q at *
    clear hkk hM hat hc hplay hs hn hge HE hqa
    refine Fr.elim (motive := fun a => ∃ X, findLabel rdBody 0 = some (Code.seq .skip X) ∧ X.wp Tryd.prog (Next s g rc w0 n (bodyPost Tryd.prog Tryd.f7 (RdP s g rc w0))) a w) ?_ hfr
    intro u1 u5 u6 u7 u8 u9 u10 u11 u12 u13 u14 u15 u16 u17 u18 u19 u20 u21 u22 u23 u24 u25 u26 u27 u28 u29 u30 u31 u32 u33 u34 u35 u36 u37 u38 u39 u40 u41 u42 u43 u44 u45 u46 u47 u48 u49 u50 u51 u52 u53 u54 u55 u56 u57 u58 u59 u60 u61 u62 u63 u64 u65 u66 u67 u68 u69 u70 u71 u72 u73 u74 u75 u76 u77 u78 u79 u80 u81 u82 u83 u84 u85 u86 u87 u88 u89 u90 u91 u92 u93 u94 u95 u96 u97 u98 u99 u100 u101 u102 u103 u104 u105 u106 u107 u108 u109 u110 u111 u112 u113 u114 u115 u116 u117 u118 u119 u120 u121 u122 u123 u124
    refine ⟨_, rfl, ?_⟩
    go_wp2_with (first
      | (go_at_call 11; refine HN.out.mono ?_; rintro e w1 ⟨rfl, h1, g1⟩; have HG1 := Lib.hid g1; have HM1 := Lib.hid h1; clear h1 g1)
      | (go_at_call 12; refine (HA.out _ HM1.out).mono ?_; rintro e w2 ⟨rfl, h2, g2⟩; have HG2 := Lib.hid (grown_trans HG1.out g2); have HM2 := Lib.hid h2; clear h2 g2))
    go_step3
    exact ⟨0, HMU.out, .inr (.inl ⟨rfl, lineAt, σ, _, ⟨rfl, rfl, rfl, rfl, rfl, rfl⟩, HKK.out.step (Kb.grown (grown_any HG2.out _) HKK.out.lt), HM2.out, HPL.out⟩)⟩
end Go.Proofs.YtgmemngfkajnbaaDoor
