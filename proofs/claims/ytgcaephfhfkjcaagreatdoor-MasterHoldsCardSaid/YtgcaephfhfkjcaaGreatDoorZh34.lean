/- Texts of the proofs, merged. -/
import Derived.Test.YtgcaephfhfkjcaaGreatDoorZh33
namespace Go.Proofs.YtgcaephfhfkjcaaGreatDoor
open Go.RowKit

theorem remLen_step {s : ByteArray} {at_ : Nat} (h : at_ < s.size) (h10 : (nb s at_).toNat ≠ 10) : at_ + Tk.remLen (s.data.toList.drop at_) = at_ + 1 + Tk.remLen (s.data.toList.drop (at_ + 1)) := by
  rw [nb_drop h, Tk.remLen, if_neg h10]
  omega
theorem rem_done {s : ByteArray} {b at_ : Nat} {σ : Tk.St} {R : Tk.Rs} (hb : b < s.size) (h59 : (nb s b).toNat = 59) (_ : b ≤ at_) (h10 : (nb s at_).toNat = 10) (hrem : at_ + Tk.remLen (s.data.toList.drop at_) = b + Tk.remLen (s.data.toList.drop b)) (hp : Tk.play (Tk.lx (s.data.toList.drop b)) σ = R) :
    b < at_ ∧ Tk.play (Tk.lx (s.data.toList.drop at_)) (σ.go (at_ - b)) = R := by
  have h0 : Tk.remLen (s.data.toList.drop at_) = 0 := by
    by_cases h : at_ < s.size
    · rw [nb_drop h, Tk.remLen, if_pos h10]
    · rw [drop_end (by omega)]; rfl
  have h1 := remLen_step hb (by omega)
  rw [nb_drop hb, Tk.lx_rem h59, Tk.play, List.drop_drop] at hp
  have hlen : (nb s b :: List.take (Tk.remLen (s.data.toList.drop (b + 1))) (s.data.toList.drop (b + 1))).length = at_ - b := by
    have := Tk.remLen_le (s.data.toList.drop (b + 1))
    rw [List.length_cons, List.length_take]
    omega
  rw [hlen, show b + 1 + Tk.remLen (s.data.toList.drop (b + 1)) = at_ by omega] at hp
  exact ⟨by omega, hp⟩
set_option maxHeartbeats 2000000 in
set_option maxRecDepth 100000 in
theorem pass2 (s : ByteArray) (g rc : Nat) (w0 : World) (n : Nat) (a : Act) (w : World) (hs : s.size ≤ 262144) (h : J2 s g rc w0 n a w) :
    ∃ rest, findLabel rdBody 2 = some rest ∧ rest.wp Tryz.prog (Next s g rc w0 n (bodyPost Tryz.prog Tryz.f50 (RdP s g rc w0))) a w := by
  obtain ⟨b, at_, lineAt, σ, st, hfr, hkk, hM, hb, h59, hle, hat, hc, hrem, hplay, hn⟩ := h
  have HKK := Lib.hid hkk
  have HGB : Hid (g < rc + 1) := Nat.lt_succ_of_lt hkk.2.2
  have HN := Lib.hid (next_M hM HGB.out hat)
  have HAT := Lib.hid hat
  have HLE := Lib.hid hle
  have hat2 : at_ ≤ 262144 := by omega
  by_cases h10 : (nb s at_).toNat = 10
  · obtain ⟨hlt, hpl⟩ := rem_done hb h59 hle h10 hrem hplay
    have HPL := Lib.hid hpl
    have HQ : Hid (((nb s at_).toNat : Int) = 10) := by rw [Hid, h10]; rfl
    rw [HQ.out] at HN
    have HMU : Hid (3 * (s.size - at_) + 1 < n) := by rw [Hid, hn, if_pos h10]; omega
    have HC : Hid (σ.col + (at_ - b) + lineAt = at_ + 1) := by rw [Hid]; omega
    clear hpl h10 hkk hM hb h59 hle hat hc hrem hplay HQ hlt hs hn
    refine Fr.elim (motive := fun a => ∃ rest, findLabel rdBody 2 = some rest ∧ rest.wp Tryz.prog (Next s g rc w0 n (bodyPost Tryz.prog Tryz.f50 (RdP s g rc w0))) a w) ?_ hfr
    intro u1 u5 u6 u7 u8 u9 u10 u11 u12 u13 u14 u15 u16 u17 u18 u19 u20 u21 u22 u23 u24 u25 u26 u27 u28 u29 u30 u31 u32 u33 u34 u35 u36 u37 u38 u39 u40 u41 u42 u43 u44 u45 u46 u47 u48 u49 u50 u51 u52 u53 u54 u55 u56 u57 u58 u59 u60 u61 u62 u63 u64 u65 u66 u67 u68 u69 u70 u71 u72 u73 u74 u75 u76 u77 u78 u79 u80 u81 u82 u83 u84 u85 u86 u87 u88 u89 u90 u91 u92 u93 u94 u95 u96 u97 u98 u99 u100 u101 u102 u103 u104 u105 u106 u107 u108 u109 u110 u111 u112 u113 u114 u115 u116 u117 u118 u119 u120 u121 u122 u123 u124
    refine ⟨_, rfl, ?_⟩
    go_wp2_with (go_at_call 82; refine HN.out.mono ?_; rintro e w1 ⟨rfl, h1, g1⟩; have HG := Lib.hid g1; have HM1 := Lib.hid h1; clear h1 g1)
    go_step3
    exact ⟨_, HMU.out, .inl ⟨rfl, at_, lineAt, σ.go (at_ - b), _, ⟨rfl, rfl, rfl, rfl, rfl, rfl⟩, HKK.out.step (Kb.grown (grown_any HG.out _) HKK.out.lt), HM1.out.go _ HLE.out, HAT.out, HC.out, HPL.out, rfl⟩⟩
  · have hlt : at_ < s.size := by
      rcases Nat.lt_or_ge at_ s.size with h | h
      · exact h
      · rw [nb_end h] at h10; exact absurd rfl h10
    have HREM : Hid (at_ + 1 + Tk.remLen (s.data.toList.drop (at_ + 1)) = b + Tk.remLen (s.data.toList.drop b)) := by rw [Hid, ← hrem, remLen_step hlt h10]
    have hq : (((nb s at_).toNat : Int) == 10) = false := beq_eq_false_iff_ne.2 (by omega)
    have HMU : Hid (3 * (s.size - (at_ + 1)) + (if (nb s (at_ + 1)).toNat = 10 then 2 else 0) < n) := by
      rw [Hid, hn, if_neg h10]
      split <;> omega
    have HLT := Lib.hid hlt
    have H59 := Lib.hid h59
    have HC := Lib.hid hc
    have HPL := Lib.hid hplay
    have HB := Lib.hid hb
    generalize ((nb s at_).toNat : Int) = q at *
    clear h10 hkk hM hb h59 hle hat hc hrem hplay hlt hs hn
    refine Fr.elim (motive := fun a => ∃ rest, findLabel rdBody 2 = some rest ∧ rest.wp Tryz.prog (Next s g rc w0 n (bodyPost Tryz.prog Tryz.f50 (RdP s g rc w0))) a w) ?_ hfr
    intro u1 u5 u6 u7 u8 u9 u10 u11 u12 u13 u14 u15 u16 u17 u18 u19 u20 u21 u22 u23 u24 u25 u26 u27 u28 u29 u30 u31 u32 u33 u34 u35 u36 u37 u38 u39 u40 u41 u42 u43 u44 u45 u46 u47 u48 u49 u50 u51 u52 u53 u54 u55 u56 u57 u58 u59 u60 u61 u62 u63 u64 u65 u66 u67 u68 u69 u70 u71 u72 u73 u74 u75 u76 u77 u78 u79 u80 u81 u82 u83 u84 u85 u86 u87 u88 u89 u90 u91 u92 u93 u94 u95 u96 u97 u98 u99 u100 u101 u102 u103 u104 u105 u106 u107 u108 u109 u110 u111 u112 u113 u114 u115 u116 u117 u118 u119 u120 u121 u122 u123 u124
    refine ⟨_, rfl, ?_⟩
    go_wp2_with (go_at_call 82; refine HN.out.mono ?_; rintro e w1 ⟨rfl, h1, g1⟩; have HG := Lib.hid g1; have HM1 := Lib.hid h1; have c1 := h1.c1; have f1 := h1.free 1; clear h1 g1)
    go_step3
    exact ⟨_, HMU.out, .inr (.inr (.inl ⟨rfl, b, at_ + 1, lineAt, σ, _, ⟨rfl, rfl, rfl, rfl, rfl, rfl⟩, HKK.out.step ((Kb.grown (grown_any HG.out _) HKK.out.lt).set 1 _), HM1.out.inc HGB.out, HB.out, H59.out, Nat.le_succ_of_le HLE.out, HLT.out, HC.out, HREM.out, HPL.out, rfl⟩))⟩
end Go.Proofs.YtgcaephfhfkjcaaGreatDoor
namespace Go.Proofs.YtgcaephfhfkjcaaGreatDoor
open Go.RowKit

set_option maxHeartbeats 4000000 in
set_option maxRecDepth 100000 in
theorem pass0 (s : ByteArray) (g rc : Nat) (w0 : World) (n : Nat) (a : Act) (w : World) (hs : s.size ≤ 262144) (h : J0 s g rc w0 n a w) :
    ∃ X, findLabel rdBody 0 = some (Code.seq .skip X) ∧ X.wp Tryz.prog (Next s g rc w0 n (bodyPost Tryz.prog Tryz.f50 (RdP s g rc w0))) a w := by
  obtain ⟨at_, lineAt, σ, st, hfr, hkk, hM, hat, hc, hplay, hn⟩ := h
  have HKK := Lib.hid hkk
  have HGB : Hid (g < rc + 1) := Nat.lt_succ_of_lt hkk.2.2
  have c1 := hM.c1
  have HN := Lib.hid (next_M hM HGB.out hat)
  have HA := Lib.hid (fun (W : World) (hW : LxM W g (rc + 1) s at_ lineAt σ at_) => atEnd_M hW HGB.out)
  have HE := Lib.hid (endsBare_any (nb s at_))
  have HAT := Lib.hid hat
  have hat2 : at_ ≤ 262144 := by omega
  rcases Nat.lt_or_ge at_ s.size with hlt | hge
  · have hqa : ((at_ : Int) == (s.size : Int)) = false := beq_eq_false_iff_ne.2 (by omega)
    rw [hqa] at HA
    have HLT := Lib.hid hlt
    have HC := Lib.hid hc
    have HPL := Lib.hid hplay
    by_cases h59 : (nb s at_).toNat = 59
    · have HMU : Hid (3 * (s.size - at_) + (if (nb s at_).toNat = 10 then 2 else 0) < n) := by rw [Hid, hn, if_neg (by omega)]; omega
      have H59 := Lib.hid h59
      have HQ : Hid (((nb s at_).toNat : Int) = 59) := by rw [Hid, h59]; rfl
      rw [HQ.out] at HN
      clear hkk hM hat hc hplay hs hn hlt h59 HQ hqa HE
      refine Fr.elim (motive := fun a => ∃ X, findLabel rdBody 0 = some (Code.seq .skip X) ∧ X.wp Tryz.prog (Next s g rc w0 n (bodyPost Tryz.prog Tryz.f50 (RdP s g rc w0))) a w) ?_ hfr
      intro u1 u5 u6 u7 u8 u9 u10 u11 u12 u13 u14 u15 u16 u17 u18 u19 u20 u21 u22 u23 u24 u25 u26 u27 u28 u29 u30 u31 u32 u33 u34 u35 u36 u37 u38 u39 u40 u41 u42 u43 u44 u45 u46 u47 u48 u49 u50 u51 u52 u53 u54 u55 u56 u57 u58 u59 u60 u61 u62 u63 u64 u65 u66 u67 u68 u69 u70 u71 u72 u73 u74 u75 u76 u77 u78 u79 u80 u81 u82 u83 u84 u85 u86 u87 u88 u89 u90 u91 u92 u93 u94 u95 u96 u97 u98 u99 u100 u101 u102 u103 u104 u105 u106 u107 u108 u109 u110 u111 u112 u113 u114 u115 u116 u117 u118 u119 u120 u121 u122 u123 u124
      refine ⟨_, rfl, ?_⟩
      go_wp2_with (first
        | (go_at_call 82; refine HN.out.mono ?_; rintro e w1 ⟨rfl, h1, g1⟩; have HG1 := Lib.hid g1; have HM1 := Lib.hid h1; clear h1 g1)
        | (go_at_call 83; refine (HA.out _ HM1.out).mono ?_; rintro e w2 ⟨rfl, h2, g2⟩; have HG2 := Lib.hid (grown_trans HG1.out g2); have HM2 := Lib.hid h2; have c4 := h2.c4; clear h2 g2))
      go_step3
      exact ⟨_, HMU.out, .inr (.inr (.inl ⟨rfl, at_, at_, lineAt, σ, _, ⟨rfl, rfl, rfl, rfl, rfl, rfl⟩, HKK.out.step (Kb.grown (grown_any HG2.out _) HKK.out.lt), HM2.out, HLT.out, H59.out, Nat.le_refl _, HAT.out, HC.out, rfl, HPL.out, rfl⟩))⟩
    have q59 : (((nb s at_).toNat : Int) == 59) = false := beq_eq_false_iff_ne.2 (by omega)
    by_cases h34 : (nb s at_).toNat = 34
    · have HMU : Hid (3 * (s.size - (at_ + 1)) < n) := by rw [Hid, hn]; omega
      have H34 := Lib.hid h34
      have HQ : Hid (((nb s at_).toNat : Int) = 34) := by rw [Hid, h34]; rfl
      rw [HQ.out] at HN
      have HQL : Hid (Tk.quoLen (s.data.toList.drop (at_ + 1)) = (Tk.quoLen (s.data.toList.drop (at_ + 1))).map (at_ + 1 - (at_ + 1) + ·)) := by
        rw [Hid, Nat.sub_self]
        cases Tk.quoLen (s.data.toList.drop (at_ + 1)) <;> simp
      clear hkk hM hat hc hplay hs hn hlt h59 h34 HQ q59 hqa HE
      refine Fr.elim (motive := fun a => ∃ X, findLabel rdBody 0 = some (Code.seq .skip X) ∧ X.wp Tryz.prog (Next s g rc w0 n (bodyPost Tryz.prog Tryz.f50 (RdP s g rc w0))) a w) ?_ hfr
      intro u1 u5 u6 u7 u8 u9 u10 u11 u12 u13 u14 u15 u16 u17 u18 u19 u20 u21 u22 u23 u24 u25 u26 u27 u28 u29 u30 u31 u32 u33 u34 u35 u36 u37 u38 u39 u40 u41 u42 u43 u44 u45 u46 u47 u48 u49 u50 u51 u52 u53 u54 u55 u56 u57 u58 u59 u60 u61 u62 u63 u64 u65 u66 u67 u68 u69 u70 u71 u72 u73 u74 u75 u76 u77 u78 u79 u80 u81 u82 u83 u84 u85 u86 u87 u88 u89 u90 u91 u92 u93 u94 u95 u96 u97 u98 u99 u100 u101 u102 u103 u104 u105 u106 u107 u108 u109 u110 u111 u112 u113 u114 u115 u116 u117 u118 u119 u120 u121 u122 u123 u124
      refine ⟨_, rfl, ?_⟩
      go_wp2_with (first
        | (go_at_call 82; refine HN.out.mono ?_; rintro e w1 ⟨rfl, h1, g1⟩; have HG1 := Lib.hid g1; have HM1 := Lib.hid h1; clear h1 g1)
        | (go_at_call 83; refine (HA.out _ HM1.out).mono ?_; rintro e w2 ⟨rfl, h2, g2⟩; have HG2 := Lib.hid (grown_trans HG1.out g2); have HM2 := Lib.hid h2; have d1 := h2.c1; have f1 := h2.free 1; have c4 := h2.c4; clear h2 g2))
      go_step3
      exact ⟨_, HMU.out, .inr (.inr (.inr (.inl ⟨rfl, at_, at_ + 1, lineAt, σ, ⟨rfl, rfl, rfl, rfl, rfl, rfl⟩, HKK.out.step ((Kb.grown (grown_any HG2.out _) HKK.out.lt).set 1 _), HM2.out.inc HGB.out, HLT.out, H34.out, Nat.le_refl _, HLT.out, HC.out, HQL.out, HPL.out, rfl⟩)))⟩
    have q34 : (((nb s at_).toNat : Int) == 34) = false := beq_eq_false_iff_ne.2 (by omega)
    by_cases he : Tk.ends (nb s at_) = true
    · rw [he] at HE
      by_cases h41 : (nb s at_).toNat = 41 ∧ σ.dep = 0
      · have HR : Hid (Tk.tells s.data.toList = .err σ.line σ.col 81) := by
          rw [Hid, ← hplay, nb_drop hlt, Tk.lx_ch h59 h34 he, Tk.play, if_neg (by omega), if_neg (by omega), if_pos h41.1, if_pos h41.2]
          rfl
        have HQ : Hid (((nb s at_).toNat : Int) = 41) := by rw [Hid, h41.1]; rfl
        rw [HQ.out] at HN
        have hd := h41.2
        have HS := Lib.hid (fun (W : World) (hW : LxM W g (rc + 1) s at_ lineAt σ at_) => spot_M hW HGB.out hat2 (p := at_) (by omega) hc)
        have hi2 : (Tryz.prog.info? 40).map (·.size) = some 2 := by kernel_rfl
        have HI := Lib.hid hi2
        have HD := Lib.hid hd
        clear hkk hM hat hc hplay hs hn hlt h59 h34 HQ q59 q34 h41 he hi2 hd hqa HE
        refine Fr.elim (motive := fun a => ∃ X, findLabel rdBody 0 = some (Code.seq .skip X) ∧ X.wp Tryz.prog (Next s g rc w0 n (bodyPost Tryz.prog Tryz.f50 (RdP s g rc w0))) a w) ?_ hfr
        intro u1 u5 u6 u7 u8 u9 u10 u11 u12 u13 u14 u15 u16 u17 u18 u19 u20 u21 u22 u23 u24 u25 u26 u27 u28 u29 u30 u31 u32 u33 u34 u35 u36 u37 u38 u39 u40 u41 u42 u43 u44 u45 u46 u47 u48 u49 u50 u51 u52 u53 u54 u55 u56 u57 u58 u59 u60 u61 u62 u63 u64 u65 u66 u67 u68 u69 u70 u71 u72 u73 u74 u75 u76 u77 u78 u79 u80 u81 u82 u83 u84 u85 u86 u87 u88 u89 u90 u91 u92 u93 u94 u95 u96 u97 u98 u99 u100 u101 u102 u103 u104 u105 u106 u107 u108 u109 u110 u111 u112 u113 u114 u115 u116 u117 u118 u119 u120 u121 u122 u123 u124
        refine ⟨_, rfl, ?_⟩
        go_wp2_with (first
          | (go_at_call 82; refine HN.out.mono ?_; rintro e w1 ⟨rfl, h1, g1⟩; have HG1 := Lib.hid g1; have HM1 := Lib.hid h1; clear h1 g1)
          | (go_at_call 83; refine (HA.out _ HM1.out).mono ?_; rintro e w2 ⟨rfl, h2, g2⟩; have HG2 := Lib.hid (grown_trans HG1.out g2); have HM2 := Lib.hid h2; have c4 := h2.c4; rw [HD.out] at c4; clear h2 g2)
          | (go_at_call 84; refine (HS.out _ HM2.out).mono ?_; rintro e w3 ⟨rfl, h3, g3⟩; have HK2 := Lib.hid (HKK.out.step (Kb.grown (grown_any (grown_trans HG2.out g3) _) HKK.out.lt)); have r0 : w3.cell? ⟨rc, 0, none⟩ = some (.int .i64 0) := HK2.out.2.1.cell 0; have r1 : w3.cell? ⟨rc, 1, none⟩ = some (.int .i64 0) := HK2.out.2.1.cell 1; have q0 := HK2.out.2.1.free 0; have q1 := HK2.out.2.1.free 1; clear h3 g3))
        show bodyPost _ _ _ Exit.ret _ _
        refine bodyPost_ret (results_row_tmp rfl _ _ rc 40 #[.int .i64 σ.line, .int .i64 σ.col] _ rfl ((HK2.out.2.1.set 0 _).set 1 _) Tryz.underlying40 rfl HI.out) rfl ?_
        refine ⟨((HK2.out.1.mono (Nat.le_succ _)).setHi (p := ⟨rc, 0, none⟩) (Nat.le_refl _) _).setHi (p := ⟨rc, 1, none⟩) (Nat.le_refl _) _, ?_⟩
        rw [HR.out]
        rfl
      · have HP := Lib.hid (fun (W : World) (hW : LxM W g (rc + 1) s at_ lineAt σ at_) (hb : rc + 1 ≤ W.heap.size) => pass_step s at_ lineAt σ g (rc + 1) W hW HGB.out hb hlt hs hc he h59 h34 (fun e e2 => h41 ⟨e, e2⟩))
        have HMU : Hid (3 * (s.size - (at_ + 1)) + 1 < n) := by rw [Hid, hn]; omega
        by_cases h41a : (nb s at_).toNat = 41
        · have hd : ((σ.dep : Int) == 0) = false := beq_eq_false_iff_ne.2 (by have : σ.dep ≠ 0 := fun e => h41 ⟨h41a, e⟩; omega)
          have q41 : (((nb s at_).toNat : Int) == 41) = true := beq_iff_eq.2 (by omega)
          generalize ((nb s at_).toNat : Int) = q at *
          clear hkk hM hat hc hplay hs hn hlt h59 h34 h41 he h41a hqa
          refine Fr.elim (motive := fun a => ∃ X, findLabel rdBody 0 = some (Code.seq .skip X) ∧ X.wp Tryz.prog (Next s g rc w0 n (bodyPost Tryz.prog Tryz.f50 (RdP s g rc w0))) a w) ?_ hfr
          intro u1 u5 u6 u7 u8 u9 u10 u11 u12 u13 u14 u15 u16 u17 u18 u19 u20 u21 u22 u23 u24 u25 u26 u27 u28 u29 u30 u31 u32 u33 u34 u35 u36 u37 u38 u39 u40 u41 u42 u43 u44 u45 u46 u47 u48 u49 u50 u51 u52 u53 u54 u55 u56 u57 u58 u59 u60 u61 u62 u63 u64 u65 u66 u67 u68 u69 u70 u71 u72 u73 u74 u75 u76 u77 u78 u79 u80 u81 u82 u83 u84 u85 u86 u87 u88 u89 u90 u91 u92 u93 u94 u95 u96 u97 u98 u99 u100 u101 u102 u103 u104 u105 u106 u107 u108 u109 u110 u111 u112 u113 u114 u115 u116 u117 u118 u119 u120 u121 u122 u123 u124
          refine ⟨_, rfl, ?_⟩
          go_wp2_with (first
            | (go_at_call 82; refine HN.out.mono ?_; rintro e w1 ⟨rfl, h1, g1⟩; have HG1 := Lib.hid g1; have HM1 := Lib.hid h1; clear h1 g1)
            | (go_at_call 83; refine (HA.out _ HM1.out).mono ?_; rintro e w2 ⟨rfl, h2, g2⟩; have HG2 := Lib.hid (grown_trans HG1.out g2); have HM2 := Lib.hid h2; have c4 := h2.c4; clear h2 g2)
            | (go_at_call 85; refine (HE.out _).mono ?_; rintro e w5 ⟨rfl, hw5⟩; subst hw5)
            | (go_at_call 86; refine (HP.out _ HM2.out (Nat.le_trans HKK.out.lt HG2.out.size)).mono ?_; rintro e w3 ⟨rfl, la, σ2, h3, h4, h5, h6⟩; have HM3 := Lib.hid h3; have HC3 := Lib.hid h4; have HK3 := Lib.hid (HKK.out.step ((Kb.grown (grown_any HG2.out _) HKK.out.lt).trans h5)); have HP3 := Lib.hid (h6.symm.trans HPL.out); clear h3 h4 h5 h6))
          go_step3
          exact ⟨_, HMU.out, .inl ⟨rfl, at_ + 1, la, σ2, _, ⟨rfl, rfl, rfl, rfl, rfl, rfl⟩, HK3.out, HM3.out, HLT.out, HC3.out, HP3.out, rfl⟩⟩
        · have q41 : (((nb s at_).toNat : Int) == 41) = false := beq_eq_false_iff_ne.2 (by omega)
          generalize ((nb s at_).toNat : Int) = q at *
          clear hkk hM hat hc hplay hs hn hlt h59 h34 h41 he h41a hqa
          refine Fr.elim (motive := fun a => ∃ X, findLabel rdBody 0 = some (Code.seq .skip X) ∧ X.wp Tryz.prog (Next s g rc w0 n (bodyPost Tryz.prog Tryz.f50 (RdP s g rc w0))) a w) ?_ hfr
          intro u1 u5 u6 u7 u8 u9 u10 u11 u12 u13 u14 u15 u16 u17 u18 u19 u20 u21 u22 u23 u24 u25 u26 u27 u28 u29 u30 u31 u32 u33 u34 u35 u36 u37 u38 u39 u40 u41 u42 u43 u44 u45 u46 u47 u48 u49 u50 u51 u52 u53 u54 u55 u56 u57 u58 u59 u60 u61 u62 u63 u64 u65 u66 u67 u68 u69 u70 u71 u72 u73 u74 u75 u76 u77 u78 u79 u80 u81 u82 u83 u84 u85 u86 u87 u88 u89 u90 u91 u92 u93 u94 u95 u96 u97 u98 u99 u100 u101 u102 u103 u104 u105 u106 u107 u108 u109 u110 u111 u112 u113 u114 u115 u116 u117 u118 u119 u120 u121 u122 u123 u124
          refine ⟨_, rfl, ?_⟩
          go_wp2_with (first
            | (go_at_call 82; refine HN.out.mono ?_; rintro e w1 ⟨rfl, h1, g1⟩; have HG1 := Lib.hid g1; have HM1 := Lib.hid h1; clear h1 g1)
            | (go_at_call 83; refine (HA.out _ HM1.out).mono ?_; rintro e w2 ⟨rfl, h2, g2⟩; have HG2 := Lib.hid (grown_trans HG1.out g2); have HM2 := Lib.hid h2; clear h2 g2)
            | (go_at_call 85; refine (HE.out _).mono ?_; rintro e w5 ⟨rfl, hw5⟩; subst hw5)
            | (go_at_call 86; refine (HP.out _ HM2.out (Nat.le_trans HKK.out.lt HG2.out.size)).mono ?_; rintro e w3 ⟨rfl, la, σ2, h3, h4, h5, h6⟩; have HM3 := Lib.hid h3; have HC3 := Lib.hid h4; have HK3 := Lib.hid (HKK.out.step ((Kb.grown (grown_any HG2.out _) HKK.out.lt).trans h5)); have HP3 := Lib.hid (h6.symm.trans HPL.out); clear h3 h4 h5 h6))
          go_step3
          exact ⟨_, HMU.out, .inl ⟨rfl, at_ + 1, la, σ2, _, ⟨rfl, rfl, rfl, rfl, rfl, rfl⟩, HK3.out, HM3.out, HLT.out, HC3.out, HP3.out, rfl⟩⟩
    · simp only [Bool.not_eq_true] at he
      rw [he] at HE
      have HEN := Lib.hid he
      have HMU : Hid (3 * (s.size - at_) + (if Tk.ends (nb s at_) then 2 else 0) < n) := by rw [Hid, hn, he]; simp
      have q41 : (((nb s at_).toNat : Int) == 41) = false := beq_eq_false_iff_ne.2 (by
        intro e
        have : (nb s at_).toNat = 41 := by omega
        simp [Tk.ends, this] at he)
      generalize ((nb s at_).toNat : Int) = q at *
      clear hkk hM hat hc hplay hs hn hlt h59 h34 he hqa
      refine Fr.elim (motive := fun a => ∃ X, findLabel rdBody 0 = some (Code.seq .skip X) ∧ X.wp Tryz.prog (Next s g rc w0 n (bodyPost Tryz.prog Tryz.f50 (RdP s g rc w0))) a w) ?_ hfr
      intro u1 u5 u6 u7 u8 u9 u10 u11 u12 u13 u14 u15 u16 u17 u18 u19 u20 u21 u22 u23 u24 u25 u26 u27 u28 u29 u30 u31 u32 u33 u34 u35 u36 u37 u38 u39 u40 u41 u42 u43 u44 u45 u46 u47 u48 u49 u50 u51 u52 u53 u54 u55 u56 u57 u58 u59 u60 u61 u62 u63 u64 u65 u66 u67 u68 u69 u70 u71 u72 u73 u74 u75 u76 u77 u78 u79 u80 u81 u82 u83 u84 u85 u86 u87 u88 u89 u90 u91 u92 u93 u94 u95 u96 u97 u98 u99 u100 u101 u102 u103 u104 u105 u106 u107 u108 u109 u110 u111 u112 u113 u114 u115 u116 u117 u118 u119 u120 u121 u122 u123 u124
      refine ⟨_, rfl, ?_⟩
      go_wp2_with (first
        | (go_at_call 82; refine HN.out.mono ?_; rintro e w1 ⟨rfl, h1, g1⟩; have HG1 := Lib.hid g1; have HM1 := Lib.hid h1; clear h1 g1)
        | (go_at_call 83; refine (HA.out _ HM1.out).mono ?_; rintro e w2 ⟨rfl, h2, g2⟩; have HG2 := Lib.hid (grown_trans HG1.out g2); have HM2 := Lib.hid h2; clear h2 g2)
        | (go_at_call 85; refine (HE.out _).mono ?_; rintro e w5 ⟨rfl, hw5⟩; subst hw5))
      go_step3
      exact ⟨_, HMU.out, .inr (.inr (.inr (.inr ⟨rfl, at_, at_, lineAt, σ, ⟨rfl, rfl, rfl, rfl, rfl, rfl⟩, HKK.out.step (Kb.grown (grown_any HG2.out _) HKK.out.lt), HM2.out, HLT.out, HEN.out, Nat.le_refl _, HAT.out, HC.out, rfl, HPL.out, rfl⟩)))⟩
  · obtain rfl : at_ = s.size := by omega
    have hqa : ((s.size : Int) == (s.size : Int)) = true := beq_iff_eq.2 rfl
    rw [hqa] at HA
    have HPL : Hid (Tk.play [] σ = Tk.tells s.data.toList) := by
      rw [Hid, ← hplay, drop_end (Nat.le_refl _)]
      rfl
    have HMU : Hid (0 < n) := by rw [Hid, hn]; omega
    generalize ((nb s s.size).toNat : Int) = q at *
    clear hkk hM hat hc hplay hs hn hge HE hqa
    refine Fr.elim (motive := fun a => ∃ X, findLabel rdBody 0 = some (Code.seq .skip X) ∧ X.wp Tryz.prog (Next s g rc w0 n (bodyPost Tryz.prog Tryz.f50 (RdP s g rc w0))) a w) ?_ hfr
    intro u1 u5 u6 u7 u8 u9 u10 u11 u12 u13 u14 u15 u16 u17 u18 u19 u20 u21 u22 u23 u24 u25 u26 u27 u28 u29 u30 u31 u32 u33 u34 u35 u36 u37 u38 u39 u40 u41 u42 u43 u44 u45 u46 u47 u48 u49 u50 u51 u52 u53 u54 u55 u56 u57 u58 u59 u60 u61 u62 u63 u64 u65 u66 u67 u68 u69 u70 u71 u72 u73 u74 u75 u76 u77 u78 u79 u80 u81 u82 u83 u84 u85 u86 u87 u88 u89 u90 u91 u92 u93 u94 u95 u96 u97 u98 u99 u100 u101 u102 u103 u104 u105 u106 u107 u108 u109 u110 u111 u112 u113 u114 u115 u116 u117 u118 u119 u120 u121 u122 u123 u124
    refine ⟨_, rfl, ?_⟩
    go_wp2_with (first
      | (go_at_call 82; refine HN.out.mono ?_; rintro e w1 ⟨rfl, h1, g1⟩; have HG1 := Lib.hid g1; have HM1 := Lib.hid h1; clear h1 g1)
      | (go_at_call 83; refine (HA.out _ HM1.out).mono ?_; rintro e w2 ⟨rfl, h2, g2⟩; have HG2 := Lib.hid (grown_trans HG1.out g2); have HM2 := Lib.hid h2; clear h2 g2))
    go_step3
    exact ⟨0, HMU.out, .inr (.inl ⟨rfl, lineAt, σ, _, ⟨rfl, rfl, rfl, rfl, rfl, rfl⟩, HKK.out.step (Kb.grown (grown_any HG2.out _) HKK.out.lt), HM2.out, HPL.out⟩)⟩
end Go.Proofs.YtgcaephfhfkjcaaGreatDoor
namespace Go.Proofs.YtgcaephfhfkjcaaGreatDoor
open Go.RowKit

set_option maxHeartbeats 2000000 in
set_option maxRecDepth 100000 in
theorem pass1 (s : ByteArray) (g rc : Nat) (w0 : World) (n : Nat) (a : Act) (w : World) (hs : s.size ≤ 262144) (h : J1 s g rc w0 a w) :
    ∃ rest, findLabel rdBody 1 = some rest ∧ rest.wp Tryz.prog (Next s g rc w0 n (bodyPost Tryz.prog Tryz.f50 (RdP s g rc w0))) a w := by
  obtain ⟨lineAt, σ, st, hfr, hkk, hM, hplay⟩ := h
  have HKK := Lib.hid hkk
  have HGB : Hid (g < rc + 1) := Nat.lt_succ_of_lt hkk.2.2
  have c4 := hM.c4
  have hi2 : (Tryz.prog.info? 40).map (·.size) = some 2 := by kernel_rfl
  have HI := Lib.hid hi2
  by_cases hd : σ.dep = 0
  · have HR : Hid (Tk.tells s.data.toList = .ok σ.done) := by rw [Hid, ← hplay, Tk.play, if_pos hd]
    rw [hd] at c4
    obtain ⟨vw, ve, out, h1, h2, h3, h4, h5, h6, h7, h8⟩ := hM
    have HEE := Lib.hid (endEntry_any s s.size σ.line lineAt σ.dep σ.fl σ.fc σ.bl σ.el vw ve σ.ws out g (rc + 1) w h1 h2 HGB.out hkk.lt (by omega) (by omega))
    have HEN := Lib.hid (close_en σ vw out h3)
    clear hkk hplay hi2 h1 h2 h3 h4 h5 h6 h7 h8 hd hs
    refine Fr.elim (motive := fun a => ∃ rest, findLabel rdBody 1 = some rest ∧ rest.wp Tryz.prog (Next s g rc w0 n (bodyPost Tryz.prog Tryz.f50 (RdP s g rc w0))) a w) ?_ hfr
    intro u1 u5 u6 u7 u8 u9 u10 u11 u12 u13 u14 u15 u16 u17 u18 u19 u20 u21 u22 u23 u24 u25 u26 u27 u28 u29 u30 u31 u32 u33 u34 u35 u36 u37 u38 u39 u40 u41 u42 u43 u44 u45 u46 u47 u48 u49 u50 u51 u52 u53 u54 u55 u56 u57 u58 u59 u60 u61 u62 u63 u64 u65 u66 u67 u68 u69 u70 u71 u72 u73 u74 u75 u76 u77 u78 u79 u80 u81 u82 u83 u84 u85 u86 u87 u88 u89 u90 u91 u92 u93 u94 u95 u96 u97 u98 u99 u100 u101 u102 u103 u104 u105 u106 u107 u108 u109 u110 u111 u112 u113 u114 u115 u116 u117 u118 u119 u120 u121 u122 u123 u124
    refine ⟨_, rfl, ?_⟩
    go_wp2_with (go_at_call 89; refine HEE.out.mono ?_; rintro e w2 ⟨rfl, ve2, h2, e2, k2⟩; have HK2 := Lib.hid (HKK.out.step k2); have HA2 := Lib.hid h2; have HE2 := Lib.hid e2; have r0 : w2.cell? ⟨rc, 0, none⟩ = some (.int .i64 0) := HK2.out.2.1.cell 0; have r1 : w2.cell? ⟨rc, 1, none⟩ = some (.int .i64 0) := HK2.out.2.1.cell 1; have q0 := HK2.out.2.1.free 0; have q1 := HK2.out.2.1.free 1; clear h2 e2 k2)
    show bodyPost _ _ _ Exit.ret _ _
    refine bodyPost_ret (results_row_tmp rfl _ _ rc 40 #[.int .i64 0, .int .i64 0] _ rfl ((HK2.out.2.1.set 0 _).set 1 _) Tryz.underlying40 rfl HI.out) rfl ?_
    refine ⟨((HK2.out.1.mono (Nat.le_succ _)).setHi (p := ⟨rc, 0, none⟩) (Nat.le_refl _) _).setHi (p := ⟨rc, 1, none⟩) (Nat.le_refl _) _, ?_⟩
    rw [HR.out]
    refine ⟨rfl, ve2, _, ?_, HE2.out.far (Nat.lt_succ_self rc) (grown_set (grown_set (World.grownBy.refl w2 _) 0 _) 1 _), HEN.out⟩
    have hne : g ≠ rc := Nat.ne_of_lt HKK.out.2.2
    exact (((HA2.out.far (p := ⟨rc, 0, none⟩) hne _).far (p := ⟨rc, 1, none⟩) hne _)).cell 10
  · have HR : Hid (Tk.tells s.data.toList = .err σ.fl σ.fc 81) := by rw [Hid, ← hplay, Tk.play, if_neg hd]; rfl
    have c5 := hM.c5
    have c6 := hM.c6
    have r0 : w.cell? ⟨rc, 0, none⟩ = some (.int .i64 0) := HKK.out.2.1.cell 0
    have r1 : w.cell? ⟨rc, 1, none⟩ = some (.int .i64 0) := HKK.out.2.1.cell 1
    have q0 := HKK.out.2.1.free 0
    have q1 := HKK.out.2.1.free 1
    have hdp : (0 : Int) < (σ.dep : Int) := by omega
    clear hkk hplay hi2 hd hs hM
    refine Fr.elim (motive := fun a => ∃ rest, findLabel rdBody 1 = some rest ∧ rest.wp Tryz.prog (Next s g rc w0 n (bodyPost Tryz.prog Tryz.f50 (RdP s g rc w0))) a w) ?_ hfr
    intro u1 u5 u6 u7 u8 u9 u10 u11 u12 u13 u14 u15 u16 u17 u18 u19 u20 u21 u22 u23 u24 u25 u26 u27 u28 u29 u30 u31 u32 u33 u34 u35 u36 u37 u38 u39 u40 u41 u42 u43 u44 u45 u46 u47 u48 u49 u50 u51 u52 u53 u54 u55 u56 u57 u58 u59 u60 u61 u62 u63 u64 u65 u66 u67 u68 u69 u70 u71 u72 u73 u74 u75 u76 u77 u78 u79 u80 u81 u82 u83 u84 u85 u86 u87 u88 u89 u90 u91 u92 u93 u94 u95 u96 u97 u98 u99 u100 u101 u102 u103 u104 u105 u106 u107 u108 u109 u110 u111 u112 u113 u114 u115 u116 u117 u118 u119 u120 u121 u122 u123 u124
    refine ⟨_, rfl, ?_⟩
    go_wp2
    show bodyPost _ _ _ Exit.ret _ _
    refine bodyPost_ret (results_row_tmp rfl _ _ rc 40 #[.int .i64 σ.fl, .int .i64 σ.fc] _ rfl ((HKK.out.2.1.set 0 _).set 1 _) Tryz.underlying40 rfl HI.out) rfl ?_
    refine ⟨((HKK.out.1.mono (Nat.le_succ _)).setHi (p := ⟨rc, 0, none⟩) (Nat.le_refl _) _).setHi (p := ⟨rc, 1, none⟩) (Nat.le_refl _) _, ?_⟩
    rw [HR.out]
    rfl
end Go.Proofs.YtgcaephfhfkjcaaGreatDoor
namespace Go.Proofs.YtgcaephfhfkjcaaGreatDoor
open Go.RowKit

theorem code_mono {P : Program} {c : Code} {a : Act} {w : World} {Q Q' : Exit → Act → World → Prop} (h : c.wp P Q a w) (hQ : ∀ e a w, Q e a w → Q' e a w) : c.wp P Q' a w := by
  intro b k cs
  obtain ⟨e, a', w', hq, har⟩ := h b k cs
  exact ⟨e, a', w', hQ _ _ _ hq, har⟩
theorem next_mono {s : ByteArray} {g rc : Nat} {w0 : World} {n : Nat} {Q : Exit → Act → World → Prop} (e : Exit) (a : Act) (w : World) (h : Next s g rc w0 n Q e a w) : jumps (fun l a w => ∃ n, Jl s g rc w0 n l a w) Q e a w := by
  cases e with
  | goto l => obtain ⟨n', _, h⟩ := h; exact ⟨n', h⟩
  | _ => exact h
theorem start_drop (l : List UInt8) : Tk.play (Tk.lx (l.drop 0)) (Tk.start l) = Tk.tells l := rfl

theorem enter0 {s : ByteArray} {g rc : Nat} {w0 : World} {rest : Code} {a : Act} {w : World} {st : Value} (hf : findLabel rdBody 0 = some (Code.seq .skip rest)) (hs : s.size ≤ 262144) (hfr : Fr a g rc st) (hk : KK w0 g rc w) (h : Has w g 103 (lxc s 0 1 0 0 0 0 (Tk.blank (nb s 0)) 1 (.slice none 0 0) (.slice none 0 0))) :
    rest.wp Tryz.prog (jumps (fun l a w => ∃ n, Jl s g rc w0 n l a w) (bodyPost Tryz.prog Tryz.f50 (RdP s g rc w0))) a w := by
  obtain ⟨rest', hf', hp⟩ := pass0 s g rc w0 _ a w hs ⟨0, 0, Tk.start s.data.toList, st, hfr, hk, ⟨.slice none 0 0, .slice none 0 0, [], by have e := hb_nb s 0; rw [List.drop_zero] at e; unfold Tk.start; rw [e]; exact h, ⟨Ers.nil _ _, ⟨rfl, .inl ⟨rfl, rfl⟩⟩, (fun g e => by cases e), (fun x hx => by cases hx)⟩, rfl, Nat.le_refl _, Nat.le_refl _, Nat.le_refl _, Nat.le_refl _, Nat.le_refl _⟩, Nat.zero_le _, rfl, start_drop _, rfl⟩
  have e := Option.some.inj (hf.symm.trans hf')
  injection e with _ e
  subst e
  exact code_mono hp next_mono
set_option maxHeartbeats 2000000 in
set_option maxRecDepth 100000 in
theorem read_any (s : ByteArray) (g : Nat) (w : World) (hs : s.size ≤ 262144) (h : Has w g 103 (lxc s 0 0 0 0 0 0 false 0 (.slice none 0 0) (.slice none 0 0))) :
    Calls Tryz.prog 50 #[.pointer (some ⟨g, 0, none⟩)] w (RdP s g w.heap.size (w.alloc (.cells #[.int .i64 0, .int .i64 0] 40))) := by
  have hg : g < w.heap.size := h.lt
  have HA0 := Lib.hid (h.alloc (.cells #[.int .i64 0, .int .i64 0] 40))
  have HR0 := Lib.hid (Has.fresh w 40 #[.int .i64 0, .int .i64 0])
  have HB := Lib.hid (beginLine_any s 0 0 0 0 0 0 false 0 (.slice none 0 0) (.slice none 0 0) g _ HA0.out (by omega))
  have HE := Lib.hid (fun (W : World) (hW : Has W g 103 (lxc s 0 1 0 0 0 0 false 0 (.slice none 0 0) (.slice none 0 0))) => beginEntry_any s 0 1 0 0 0 0 false 0 (.slice none 0 0) (.slice none 0 0) g W hW (Nat.zero_le _))
  clear h
  go_enter Tryz.func50, Tryz.ntmps50
  go_wp2
  refine wp_scope_many (Jl s g w.heap.size (w.alloc (.cells #[.int .i64 0, .int .i64 0] 40))) ?_ ?_
  · go_wp2_with (first
      | (go_at_call 80; refine HB.out.mono ?_; rintro e w1 ⟨rfl, h1, g1⟩; have HA1 := Lib.hid h1; have HG1 := Lib.hid g1; clear h1 g1)
      | (go_at_call 81; refine (HE.out _ HA1.out).mono ?_; rintro e w2 ⟨rfl, h2, g2⟩; have HA2 := Lib.hid h2; have HG2 := Lib.hid (grown_trans HG1.out g2); clear h2 g2))
    go_step3
    rename_i K0 hK0
    show K0 _ _
    apply hK0
    have hk : KK (w.alloc (.cells #[.int .i64 0, .int .i64 0] 40)) g w.heap.size w2 := ⟨Kb.grown HG2.out (by simp), HR0.out.grown HG2.out (by simp; omega), hg⟩
    exact enter0 rfl hs ⟨rfl, rfl, rfl, rfl, rfl, rfl⟩ hk HA2.out
  · rintro n l a w' (⟨rfl, hJ⟩ | ⟨rfl, hJ⟩ | ⟨rfl, hJ⟩ | ⟨rfl, hJ⟩ | ⟨rfl, hJ⟩)
    · obtain ⟨X, hf, hX⟩ := pass0 s g _ _ n a w' hs hJ
      exact ⟨_, hf, wp_seq (wp_skip hX)⟩
    · exact pass1 s g _ _ n a w' hs hJ
    · exact pass2 s g _ _ n a w' hs hJ
    · exact pass3 s g _ _ n a w' hs hJ
    · exact pass4 s g _ _ n a w' hs hJ
end Go.Proofs.YtgcaephfhfkjcaaGreatDoor
namespace Go.Proofs.YtgcaephfhfkjcaaGreatDoor
open Go.RowKit

theorem results_tmp_cell_tmp {fn : Func} {t p u : Tmp} {ty : TypeId} (h : fn.results = #[.tmp t, .cell p ty, .tmp u]) (tmps : Array Value) (P : Program) (w : World) :
    (results fn tmps).run P w =
      ((asAddr (tmps.getD p undef)).run P w).andThen fun a w₁ => ((loadVar ty a).run P w₁).andThen fun v w₂ => .ok (.tuple #[tmps.getD t undef, v, tmps.getD u undef]) w₂ := by
  simp only [results, h]
  simp [Sem.run_bind, Result.andThen]
theorem results_tmp_row_tmp {P : Program} {fn : Func} {t p u : Tmp} {ty : TypeId} (h : fn.results = #[.tmp t, .cell p ty, .tmp u]) (tmps : Array Value) (w : World) (g : Nat) (t' : TypeId) (cs : Array Value) (d : TypeDesc)
    (hp : tmps.getD p undef = .pointer (some ⟨g, 0, none⟩)) (hg : Has w g t' cs)
    (hu : P.underlying ty = some d) (hd : (match d with | .struct _ | .array _ _ => true | _ => false) = true) (hi : (P.info? ty).map (·.size) = some cs.size) :
    (results fn tmps).run P w = .ok (.tuple #[tmps.getD t undef, .agg cs, tmps.getD u undef]) w := by
  rw [results_tmp_cell_tmp h tmps P w, hp]
  have : (asAddr (.pointer (some ⟨g, 0, none⟩))).run P w = .ok ⟨g, 0, none⟩ w := rfl
  rw [this]
  simp only [Result.andThen_ok, run_loadVar_row w g t' ty cs (0, 0) d hg hu hd hi]
theorem Ers.mono {w : World} {b b' : Nat} {v : Value} {out : List Ex} (h : Ers w b v out) (hb : b' ≤ b) : Ers w b' v out :=
  ⟨own_mono h.own hb, fun x hx => own_mono (h.dat x hx) hb, h.off⟩

/-- what Entries tells. -/
def EnP (s : ByteArray) (w : World) : Ending → World → Prop := fun e w' =>
  Below w.heap.size w w' ∧ if 262144 < s.size then e = .returned (.tuple #[.slice none 0 0, .agg #[.int .i64 0, .int .i64 0], .int .i64 2]) else
    match Tk.tells s.data.toList with
    | .err l c x => e = .returned (.tuple #[.slice none 0 0, .agg #[.int .i64 l, .int .i64 c], .int .i64 x])
    | .ok es => ∃ ve out, e = .returned (.tuple #[ve, .agg #[.int .i64 0, .int .i64 0], .int .i64 0]) ∧ Ers w' w.heap.size ve out ∧ out.map Ex.en = es
theorem play_errs : ∀ (ps : List Tk.Pc) (σ : Tk.St) (l c x : Nat), Tk.play ps σ = .err l c x → x = 80 ∨ x = 81
  | [], σ, l, c, x, h => by
    rw [Tk.play] at h
    split at h
    · cases h
    · cases h; exact .inr rfl
  | .bad _ :: _, σ, l, c, x, h => by rw [Tk.play] at h; cases h; exact .inl rfl
  | .ch _ :: ps, σ, l, c, x, h => by
    rw [Tk.play] at h
    split at h
    · exact play_errs ps _ _ _ _ h
    split at h
    · exact play_errs ps _ _ _ _ h
    split at h
    · split at h
      · cases h; exact .inr rfl
      · exact play_errs ps _ _ _ _ h
    · exact play_errs ps _ _ _ _ h
  | .rem _ :: ps, σ, l, c, x, h => by rw [Tk.play] at h; exact play_errs ps _ _ _ _ h
  | .bare _ :: ps, σ, l, c, x, h => by rw [Tk.play] at h; exact play_errs ps _ _ _ _ h
  | .quo _ :: ps, σ, l, c, x, h => by rw [Tk.play] at h; exact play_errs ps _ _ _ _ h

set_option maxHeartbeats 2000000 in
set_option maxRecDepth 100000 in
theorem entries_any (s : ByteArray) (w : World) : Calls Tryz.prog 31 #[.string s] w (EnP s w) := by
  have hi2 : (Tryz.prog.info? 40).map (·.size) = some 2 := by kernel_rfl
  have HI := Lib.hid hi2
  clear hi2
  by_cases hs : 262144 < s.size
  · have hs2 : (262144 : Int) < (s.size : Int) := by omega
    have HS := Lib.hid hs
    clear hs
    go_enter Tryz.func31, Tryz.ntmps31
    go_wp2
    refine bodyPost_ret (results_tmp_row_tmp rfl _ _ w.heap.size 40 #[.int .i64 0, .int .i64 0] _ rfl (Has.fresh w _ _) Tryz.underlying40 rfl HI.out) rfl ?_
    refine ⟨(Below.refl _ _).alloc (Nat.le_refl _) _, ?_⟩
    rw [if_pos HS.out]
    rfl
  · have hs1 : s.size ≤ 262144 := by omega
    have hs2 : ¬ (262144 : Int) < (s.size : Int) := by omega
    have HS := Lib.hid hs
    clear hs
    have e1 : ∀ c1 : Array Value, (w.alloc (.cells c1 40)).heap.size = w.heap.size + 1 := by simp
    have hR := read_any s (w.heap.size + 1) ((w.alloc (.cells #[.int .i64 0, .int .i64 0] 40)).alloc (.cells (lxc s 0 0 0 0 0 0 false 0 (.slice none 0 0) (.slice none 0 0)) 103)) hs1 (by
      have h := Has.fresh (w.alloc (.cells #[.int .i64 0, .int .i64 0] 40)) 103 (lxc s 0 0 0 0 0 0 false 0 (.slice none 0 0) (.slice none 0 0))
      rw [e1] at h
      exact h)
    have HP0 := Lib.hid (((Has.fresh w 40 #[.int .i64 0, .int .i64 0]).alloc (.cells (lxc s 0 0 0 0 0 0 false 0 (.slice none 0 0) (.slice none 0 0)) 103)).alloc (.cells #[.int .i64 0, .int .i64 0] 40))
    have HB0 := Lib.hid ((((Below.refl w.heap.size w).alloc (Nat.le_refl _) (.cells #[.int .i64 0, .int .i64 0] 40)).alloc (by simp) (.cells (lxc s 0 0 0 0 0 0 false 0 (.slice none 0 0) (.slice none 0 0)) 103)).alloc (by simp; omega) (.cells #[.int .i64 0, .int .i64 0] 40))
    have hsz : ((w.alloc (.cells #[.int .i64 0, .int .i64 0] 40)).alloc (.cells (lxc s 0 0 0 0 0 0 false 0 (.slice none 0 0) (.slice none 0 0)) 103)).heap.size = w.heap.size + 2 := by simp
    unfold RdP at hR
    rw [hsz] at hR
    have HK := Lib.hid (fun (w2 : World) (k : Kb (w.heap.size + 1) (w.heap.size + 2) (((w.alloc (.cells #[.int .i64 0, .int .i64 0] 40)).alloc (.cells (lxc s 0 0 0 0 0 0 false 0 (.slice none 0 0) (.slice none 0 0)) 103)).alloc (.cells #[.int .i64 0, .int .i64 0] 40)) w2) =>
      (⟨k.has HP0.out (by omega) (by omega), HB0.out.trans ((k.mono (b' := w.heap.size) (by omega)).below' (by omega))⟩ : Has w2 w.heap.size 40 #[.int .i64 0, .int .i64 0] ∧ Below w.heap.size w w2))
    clear hs1 e1 hsz HP0 HB0
    rcases hT : Tk.tells s.data.toList with ⟨l, c, x⟩ | es
    · rw [hT] at hR
      have hx := play_errs _ _ _ _ _ hT
      have hx2 : ((x : Int) != 0) = true := by rcases hx with rfl | rfl <;> rfl
      have HT := Lib.hid hT
      have HR := Lib.hid hR
      clear hT hR hx
      go_enter Tryz.func31, Tryz.ntmps31
      go_wp2_with (go_at_call 50; refine HR.out.mono ?_; rintro e w2 ⟨k2, rfl⟩; have HB2 := HK.out w2 k2; have r0 : w2.cell? ⟨w.heap.size, 0, none⟩ = some (.int .i64 0) := HB2.1.cell 0; have r1 : w2.cell? ⟨w.heap.size, 1, none⟩ = some (.int .i64 0) := HB2.1.cell 1; have f0 := HB2.1.free 0; have f1 := HB2.1.free 1; have HB3 := Lib.hid HB2; clear HB2 k2)
      have HW1 := Lib.hid (HB3.out.1.alloc (.cells #[.int .i64 l, .int .i64 c] 40))
      have HW2 := Lib.hid (Has.fresh w2 40 #[.int .i64 l, .int .i64 c])
      have HW3 := Lib.hid (HB3.out.2.alloc HB3.out.2.size (.cells #[.int .i64 l, .int .i64 c] 40))
      have hlt : w.heap.size < w2.heap.size := HB3.out.1.lt
      clear r0 r1 f0 f1 HB3 HK HR
      generalize w2.heap.size = gp at *
      generalize w2.alloc (.cells #[.int .i64 l, .int .i64 c] 40) = w3 at *
      have p0 : w3.cell? ⟨gp, 0, none⟩ = some (.int .i64 l) := HW2.out.cell 0
      have p1 : w3.cell? ⟨gp, 1, none⟩ = some (.int .i64 c) := HW2.out.cell 1
      have r0 : w3.cell? ⟨w.heap.size, 0, none⟩ = some (.int .i64 0) := HW1.out.cell 0
      have r1 : w3.cell? ⟨w.heap.size, 1, none⟩ = some (.int .i64 0) := HW1.out.cell 1
      have f0 := HW1.out.free 0
      have f1 := HW1.out.free 1
      go_region
      all_goals
        go_wp2
        refine bodyPost_ret (results_tmp_row_tmp rfl _ _ w.heap.size 40 #[.int .i64 l, .int .i64 c] _ rfl (show Has (World.drew _) _ _ _ from (HW1.out.set 0 _).set 1 _) Tryz.underlying40 rfl HI.out) rfl ?_
        refine ⟨((HW3.out.setCell (p := ⟨w.heap.size, 0, none⟩) (Nat.le_refl _) _).setCell (p := ⟨w.heap.size, 1, none⟩) (Nat.le_refl _) _).drew, ?_⟩
        rw [if_neg HS.out, HT.out]
        rfl
    · rw [hT] at hR
      have HT := Lib.hid hT
      have HR := Lib.hid hR
      clear hT hR
      go_enter Tryz.func31, Tryz.ntmps31
      go_wp2_with (go_at_call 50; refine HR.out.mono ?_; rintro e w2 ⟨k2, rfl, ve, out, c10, hE, hen⟩; have HB2 := HK.out w2 k2; have HA := HB2.1.alloc (.cells #[.int .i64 0, .int .i64 0] 40); have d10 := (World.grownBy_alloc w2 (.cells #[.int .i64 0, .int .i64 0] 40) none).cell c10 (by simp); have r0 : (w2.alloc (.cells #[.int .i64 0, .int .i64 0] 40)).cell? ⟨w.heap.size, 0, none⟩ = some (.int .i64 0) := HA.cell 0; have r1 : (w2.alloc (.cells #[.int .i64 0, .int .i64 0] 40)).cell? ⟨w.heap.size, 1, none⟩ = some (.int .i64 0) := HA.cell 1; have f0 := HA.free 0; have f1 := HA.free 1; have HB3 := Lib.hid HB2; have HE := Lib.hid hE; have HEN := Lib.hid hen; have HA2 := Lib.hid HA; clear HB2 k2 hE hen HA c10)
      refine bodyPost_ret (results_tmp_row_tmp rfl _ _ w.heap.size 40 #[.int .i64 0, .int .i64 0] _ rfl ((HA2.out.set 0 _).set 1 _) Tryz.underlying40 rfl HI.out) rfl ?_
      refine ⟨((HB3.out.2.alloc HB3.out.2.size _).setCell (p := ⟨w.heap.size, 0, none⟩) (Nat.le_refl _) _).setCell (p := ⟨w.heap.size, 1, none⟩) (Nat.le_refl _) _, ?_⟩
      rw [if_neg HS.out, HT.out]
      refine ⟨ve, out, rfl, ?_, HEN.out⟩
      exact (HE.out.far (g := w.heap.size) (by omega) (grown_set (grown_set (World.grownBy_alloc w2 _ _) 0 _) 1 _)).mono (by omega)
end Go.Proofs.YtgcaephfhfkjcaaGreatDoor
