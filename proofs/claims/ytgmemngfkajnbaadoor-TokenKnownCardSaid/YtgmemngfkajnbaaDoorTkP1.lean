/- The lexer's read: at the end. -/
import Derived.Test.YtgmemngfkajnbaaDoorTkJ
namespace Go.Proofs.YtgmemngfkajnbaaDoor
open Go.RowKit

set_option maxHeartbeats 2000000 in
set_option maxRecDepth 100000 in
theorem pass1 (s : ByteArray) (g rc : Nat) (w0 : World) (n : Nat) (a : Act) (w : World) (hs : s.size ≤ 262144) (h : J1 s g rc w0 a w) :
    ∃ rest, findLabel rdBody 1 = some rest ∧ rest.wp Tryd.prog (Next s g rc w0 n (bodyPost Tryd.prog Tryd.f7 (RdP s g rc w0))) a w := by
  obtain ⟨lineAt, σ, st, hfr, hkk, hM, hplay⟩ := h
  have HKK := Lib.hid hkk
  have HGB : Hid (g < rc + 1) := Nat.lt_succ_of_lt hkk.2.2
  have c4 := hM.c4
  have hi2 : (Tryd.prog.info? 24).map (·.size) = some 2 := by kernel_rfl
  have HI := Lib.hid hi2
  by_cases hd : σ.dep = 0
  · have HR : Hid (Tk.tells s.data.toList = .ok σ.done) := by rw [Hid, ← hplay, Tk.play, if_pos hd]
    rw [hd] at c4
    obtain ⟨vw, ve, out, h1, h2, h3, h4, h5, h6, h7, h8⟩ := hM
    have HEE := Lib.hid (endEntry_any s s.size σ.line lineAt σ.dep σ.fl σ.fc σ.bl σ.el vw ve σ.ws out g (rc + 1) w h1 h2 HGB.out hkk.lt (by omega) (by omega))
    have HEN := Lib.hid (close_en σ vw out h3)
    clear hkk hplay hi2 h1 h2 h3 h4 h5 h6 h7 h8 hd hs
    refine Fr.elim (motive := fun a => ∃ rest, findLabel rdBody 1 = some rest ∧ rest.wp Tryd.prog (Next s g rc w0 n (bodyPost Tryd.prog Tryd.f7 (RdP s g rc w0))) a w) ?_ hfr
    intro u1 u5 u6 u7 u8 u9 u10 u11 u12 u13 u14 u15 u16 u17 u18 u19 u20 u21 u22 u23 u24 u25 u26 u27 u28 u29 u30 u31 u32 u33 u34 u35 u36 u37 u38 u39 u40 u41 u42 u43 u44 u45 u46 u47 u48 u49 u50 u51 u52 u53 u54 u55 u56 u57 u58 u59 u60 u61 u62 u63 u64 u65 u66 u67 u68 u69 u70 u71 u72 u73 u74 u75 u76 u77 u78 u79 u80 u81 u82 u83 u84 u85 u86 u87 u88 u89 u90 u91 u92 u93 u94 u95 u96 u97 u98 u99 u100 u101 u102 u103 u104 u105 u106 u107 u108 u109 u110 u111 u112 u113 u114 u115 u116 u117 u118 u119 u120 u121 u122 u123 u124
    refine ⟨_, rfl, ?_⟩
    go_wp2_with (go_at_call 18; refine HEE.out.mono ?_; rintro e w2 ⟨rfl, ve2, h2, e2, k2⟩; have HK2 := Lib.hid (HKK.out.step k2); have HA2 := Lib.hid h2; have HE2 := Lib.hid e2; have r0 : w2.cell? ⟨rc, 0, none⟩ = some (.int .i64 0) := HK2.out.2.1.cell 0; have r1 : w2.cell? ⟨rc, 1, none⟩ = some (.int .i64 0) := HK2.out.2.1.cell 1; have q0 := HK2.out.2.1.free 0; have q1 := HK2.out.2.1.free 1; clear h2 e2 k2)
    show bodyPost _ _ _ Exit.ret _ _
    refine bodyPost_ret (results_row_tmp rfl _ _ rc 24 #[.int .i64 0, .int .i64 0] _ rfl ((HK2.out.2.1.set 0 _).set 1 _) Tryd.underlying24 rfl HI.out) rfl ?_
    refine ⟨((HK2.out.1.mono (Nat.le_succ _)).setHi (p := ⟨rc, 0, none⟩) (Nat.le_refl _) _).setHi (p := ⟨rc, 1, none⟩) (Nat.le_refl _) _, ?_⟩
    rw [HR.out]
    refine ⟨rfl, ve2, _, ?_, HE2.out.far (Nat.lt_succ_self rc) (grown_set (grown_set (World.grownBy.refl w2 _) 0 _) 1 _), HEN.out⟩
    have hne : g ≠ rc := Nat.ne_of_lt HKK.out.2.2
    exact (((HA2.out.far (p := ⟨rc, 0, none⟩) hne _).far (p := ⟨rc, 1, none⟩) hne _)).cell 10
  · have HR : Hid (Tk.tells s.data.toList = .err σ.fl σ.fc 81) := by rw [Hid, ← hplay, Tk.play, if_neg hd]; rfl
    have c5 := hM.c5
    have c6 := hM.c6
    have r0 : w.cell? ⟨rc, 0, none⟩ = some (.int .i64 0) := HKK.out.2.1.cell 0
    have r1 : w.cell? ⟨rc, 1, none⟩ = some (.int .i64 0) := HKK.out.2.1.cell 1
    have q0 := HKK.out.2.1.free 0
    have q1 := HKK.out.2.1.free 1
    have hdp : (0 : Int) < (σ.dep : Int) := by omega
    clear hkk hplay hi2 hd hs hM
    refine Fr.elim (motive := fun a => ∃ rest, findLabel rdBody 1 = some rest ∧ rest.wp Tryd.prog (Next s g rc w0 n (bodyPost Tryd.prog Tryd.f7 (RdP s g rc w0))) a w) ?_ hfr
    intro u1 u5 u6 u7 u8 u9 u10 u11 u12 u13 u14 u15 u16 u17 u18 u19 u20 u21 u22 u23 u24 u25 u26 u27 u28 u29 u30 u31 u32 u33 u34 u35 u36 u37 u38 u39 u40 u41 u42 u43 u44 u45 u46 u47 u48 u49 u50 u51 u52 u53 u54 u55 u56 u57 u58 u59 u60 u61 u62 u63 u64 u65 u66 u67 u68 u69 u70 u71 u72 u73 u74 u75 u76 u77 u78 u79 u80 u81 u82 u83 u84 u85 u86 u87 u88 u89 u90 u91 u92 u93 u94 u95 u96 u97 u98 u99 u100 u101 u102 u103 u104 u105 u106 u107 u108 u109 u110 u111 u112 u113 u114 u115 u116 u117 u118 u119 u120 u121 u122 u123 u124
    refine ⟨_, rfl, ?_⟩
    go_wp2
    show bodyPost _ _ _ Exit.ret _ _
    refine bodyPost_ret (results_row_tmp rfl _ _ rc 24 #[.int .i64 σ.fl, .int .i64 σ.fc] _ rfl ((HKK.out.2.1.set 0 _).set 1 _) Tryd.underlying24 rfl HI.out) rfl ?_
    refine ⟨((HKK.out.1.mono (Nat.le_succ _)).setHi (p := ⟨rc, 0, none⟩) (Nat.le_refl _) _).setHi (p := ⟨rc, 1, none⟩) (Nat.le_refl _) _, ?_⟩
    rw [HR.out]
    rfl
end Go.Proofs.YtgmemngfkajnbaaDoor
