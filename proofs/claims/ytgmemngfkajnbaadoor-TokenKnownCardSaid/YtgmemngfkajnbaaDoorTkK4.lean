/- TokenKnown: a text that is too long, and one that is not. -/
import Derived.Test.YtgmemngfkajnbaaDoorTkK5
namespace Go.Proofs.YtgmemngfkajnbaaDoor
open Go.RowKit

set_option maxHeartbeats 8000000 in
set_option maxRecDepth 100000 in
theorem kn23 (w : World) (hL : Lay w) (u0 u1 u2 u3 u4 u5 u6 u7 u8 u9 u10 u11 u12 u13 u14 u15 u16 u17 u18 u19 u20 u21 u22 u23 u24 u25 u26 u27 u28 u29 u30 u31 u32 u33 u34 u35 u36 u37 u38 u39 u40 u41 u42 u43 u44 u45 u46 u47 u48 u49 u50 u51 u52 u53 u54 u55 u56 u57 u58 u59 u60 u61 u62 u63 u64 u65 u66 u67 u68 u69 u70 u71 u72 u73 u74 u75 u76 u77 u78 u79 u80 u81 u82 u83 u84 u85 u86 u87 u88 u89 u90 u91 u92 u93 u94 u95 u96 u97 u98 u99 u100 u101 u102 u103 u104 u105 u106 u107 u108 u109 u110 u111 u112 u113 u114 u115 u116 u117 u118 u119 u120 u121 u122 u123 u124 u125 u126 u127 u128 u129 u130 u131 u132 u133 u134 u135 u136 u137 u138 u139 u140 u141 u142 u143 u144 u145 u146 u147 u148 u149 u150 u151 u152 u153 u154 u155 u156 u157 u158 u159 u160 u161 u162 u163 u164 u165 u166 u167 u168 u169 u170 u171 u172 u173 u174 u175 u176 u177 u178 u179 u180 u181 u182 u183 u184 u185 u186 u187 u188 u189 u190 u191 u192 u193 u194 u195 u196 u197 u198 u199 u200 u201 u202 u203 u204 u205 u206 u207 u208 u209 u210 u211 u212 u213 u214 u215 u216 u217 u218 u219 u220 u221 u222 u223 u224 u225 u226 u227 u228 u229 u230 u231 u232 u233 u234 u235 u236 u237 u238 u239 u240 u241 u242 u243 u244 u245 u246 u247 u248 u249 u250 u251 u252 u253 u254 u255 u256 u257 u258 u259 u260 u261 u262 u263 u264 u265 u266 u267 u268 u269 u270 u271 u272 u273 u274 u275 u276 u277 u278 u279 u280 u281 u282 u283 u284 u285 u286 u287 u288 u289 u290 u291 u292 u293 u294 u295 u296 u297 u298 u299 u300 u301 u302 u303 u304 u305 u306 u307 u308 u309 u310 u311 u312 u313 u314 u315 u316 u317 u318 u319 u320 u321 u322 u323 u324 u325 u326 u327 u328 u329 u330 u331 u332 u333 u334 u335 u336 u337 u338 u339 u340 u341 u342 u343 u344 u345 u346 u347 u348 u349 u350 u351 u352 u353 u354 u355 u356 u357 u358 u359 u360 u361 u362 u363 u364 u365 : Value) (wr0 : World) (hB : Below w.heap.size w wr0) :
    ∃ R REST, dropSeq 14 knBody = some (Code.seq R REST) ∧ ∀ K : Act → World → Prop, (∀ a w', REST.wp Tryd.prog (bodyPost Tryd.prog Tryd.f3 (fun e w' => e = .returned (.bool true) ∧ Below w.heap.size w w')) a w' → K a w') → R.wp Tryd.prog (Exit.then K (bodyPost Tryd.prog Tryd.f3 (fun e w' => e = .returned (.bool true) ∧ Below w.heap.size w w'))) { tmps := #[u0, u1, u2, u3, u4, u5, u6, u7, u8, u9, u10, u11, u12, u13, u14, u15, u16, u17, u18, u19, u20, u21, u22, u23, u24, u25, u26, u27, u28, u29, u30, u31, u32, u33, u34, u35, u36, u37, u38, u39, u40, u41, u42, u43, u44, u45, u46, u47, u48, u49, u50, u51, u52, u53, u54, u55, u56, u57, u58, u59, u60, u61, u62, u63, u64, u65, u66, u67, u68, u69, u70, u71, u72, u73, u74, u75, u76, u77, u78, u79, u80, u81, u82, u83, u84, u85, u86, u87, u88, u89, u90, u91, u92, u93, u94, u95, u96, u97, u98, u99, u100, u101, u102, u103, u104, u105, u106, u107, u108, u109, u110, u111, u112, u113, u114, u115, u116, u117, u118, u119, u120, u121, u122, u123, u124, u125, u126, u127, u128, u129, u130, u131, u132, u133, u134, u135, u136, u137, u138, u139, u140, u141, u142, u143, u144, u145, u146, u147, u148, u149, u150, u151, u152, u153, u154, u155, u156, u157, u158, u159, u160, u161, u162, u163, u164, u165, u166, u167, u168, u169, u170, u171, u172, u173, u174, u175, u176, u177, u178, u179, u180, u181, u182, u183, u184, u185, u186, u187, u188, u189, u190, u191, u192, u193, u194, u195, u196, u197, u198, u199, u200, u201, u202, u203, u204, u205, u206, u207, u208, u209, u210, u211, u212, u213, u214, u215, u216, u217, u218, u219, u220, u221, u222, u223, u224, u225, u226, u227, u228, u229, u230, u231, u232, u233, u234, u235, u236, u237, u238, u239, u240, u241, u242, u243, u244, u245, u246, u247, u248, u249, u250, u251, u252, u253, u254, u255, u256, u257, u258, u259, u260, u261, u262, u263, u264, u265, u266, u267, u268, u269, u270, u271, u272, u273, u274, u275, u276, u277, u278, u279, u280, u281, u282, u283, u284, u285, u286, u287, u288, u289, u290, u291, u292, u293, u294, u295, u296, u297, u298, u299, u300, u301, u302, u303, u304, u305, u306, u307, u308, u309, u310, u311, u312, u313, u314, u315, u316, u317, u318, u319, u320, u321, u322, u323, u324, u325, u326, u327, u328, u329, u330, u331, u332, u333, u334, u335, u336, u337, u338, u339, u340, u341, u342, u343, u344, u345, u346, u347, u348, u349, u350, u351, u352, u353, u354, u355, u356, u357, u358, u359, u360, u361, u362, u363, u364, u365], defers := [] } wr0 := by
  refine ⟨_, _, rfl, ?_⟩
  intro K hK
  try dsimp only
  have HBQ := Lib.hid hB
  clear hB
  obtain ⟨i0, hi0, hz0, hz1, hz2⟩ := info_parts Tryd.infoByte
  obtain ⟨N, hN⟩ : ∃ N : Nat, N = 262145 := ⟨_, rfl⟩
  have HN := Lib.hid hN
  clear hN
  go_cut [23] from 284 (fun v wx => v = .slice (some ⟨wr0.heap.size, 0, none⟩) N N ∧ Hid (Has wx wr0.heap.size 5 (bv (filled N 0)).toArray) ∧ Hid (Below w.heap.size w wx))
  case first =>
    go_wp2_with (at_make; refine wpList_make_lc rfl _ _ _ rfl _ i0 Tryd.underlying36 hi0 hz0 hz1 hz2 _ _ _ _ N N rfl rfl (by rw [HN.out]; rfl) (by rw [HN.out]; rfl) (Nat.le_refl _) (by rw [HN.out]; decide) ?_; intro w1 Z1 B1 S1; have HB1 := Lib.hid B1; have HZ1 := Lib.hid Z1; clear S1 B1 Z1)
    go_meet
    refine ⟨by rw [HN.out], ?_, HBQ.out.trans (HB1.out.mono HBQ.out.size)⟩
    rw [filled_zero]
    have : bv (List.replicate N 0) = List.replicate N (Value.int .u8 0) := by simp [bv]
    rw [this]
    exact HZ1.out
  case rest =>
  obtain ⟨rfl, HZ, HB9⟩ := hcut
  rename World => wz
  have hgz : w.heap.size ≤ wr0.heap.size := HBQ.out.size
  clear HBQ
  generalize wr0.heap.size = gz at *
  have hNs : N ≤ 1048576 := by have := HN.out; omega
  go_wp2
  go_loopw [24] (fun iv wr => ∃ k : Nat, iv = .int .i64 k ∧ k ≤ N ∧ Hid (Has wr gz 5 (bv (filled N k)).toArray ∧ Below w.heap.size w wr)) (fun iv _ => N - (intOf iv).toNat)
  case atStart => exact ⟨0, rfl, Nat.zero_le _, HZ.out, HB9.out⟩
  case round =>
    obtain ⟨k, rfl, hk, HO⟩ := hrel
    clear HZ HB9
    by_cases hkN : k < N
    · skip
      have hki : (k : Int) < (N : Int) := by omega
      have hlen := filled_len hk
      have HC0 : wr.cell? ⟨gz, k, none⟩ = some (.int .u8 ((filled N k)[k].toNat : Int)) := by
        rw [HO.out.1.cell, List.getElem?_toArray]
        exact bv_get _ _ _
      have F0 := HO.out.1.free k
      generalize (((filled N k)[k].toNat : Nat) : Int) = old at *
      have HSt : Hid (Has (wr.setCell ⟨gz, k, none⟩ (.int .u8 41)) gz 5 (bv (filled N (k + 1))).toArray) := by
        have h := HO.out.1.set k (.int .u8 41)
        rw [List.setIfInBounds_toArray] at h
        rw [← filled_set hkN, bv_set]
        exact h
      have HBt := Lib.hid (HO.out.2.setCell (p := ⟨gz, k, none⟩) hgz (.int .u8 41))
      clear HO hlen
      go_wp2
      go_roundw
      case rel => exact ⟨k + 1, by go_num, by omega, HSt.out, HBt.out⟩
      case measure => simp [intOf]; omega
    · obtain rfl : N = k := by omega
      have HG := Lib.hid HO.out.1
      have HB10 := Lib.hid HO.out.2
      rw [filled_all] at HG
      clear HO hk hkN
      go_upto_region 28 with fail
      have hCL : ∀ (W : World), Has W gz 5 (bv (List.replicate N 41)).toArray → ∀ j (hj : j < (List.replicate N (41 : UInt8)).length), W.cell? ⟨gz, j, none⟩ = some (.int .u8 ((List.replicate N (41 : UInt8))[j].toNat : Int)) := fun W hW j hj => by
        rw [hW.cell, List.getElem?_toArray]
        exact bv_get _ _ _
      have HCL := Lib.hid hCL
      have HE8 : Hid (∀ W, Calls Tryd.prog 4 #[.string ⟨(List.replicate N 41).toArray⟩] W fun e w' => Below W.heap.size W w' ∧ e = .returned (.tuple #[.slice none 0 0, .agg #[.int .i64 0, .int .i64 0], .int .i64 2])) := fun W => by
        refine (entries_any _ W).mono ?_
        rintro e w' ⟨h1, h2⟩
        rw [if_pos (by rw [mk_size, List.length_replicate, HN.out]; decide)] at h2
        exact ⟨h1, h2⟩
      have HE9 : Hid (∀ W, Calls Tryd.prog 4 #[.string ⟨(List.replicate (N - 1) 41).toArray⟩] W fun e w' => Below W.heap.size W w' ∧ e = .returned (.tuple #[.slice none 0 0, .agg #[.int .i64 1, .int .i64 1], .int .i64 81])) := fun W => by
        refine entries_no W (by rw [mk_size, List.length_replicate, HN.out]; decide) ?_
        obtain ⟨m, hm⟩ : ∃ m, N - 1 = m + 1 := ⟨N - 2, by have := HN.out; omega⟩
        rw [hm]
        exact paren_row m
      have HB28 : Hid (∀ (W : World), Has W gz 5 (bv (List.replicate N 41)).toArray → Bs W 0 W.heap.size (some ⟨gz, 1, none⟩) (List.replicate (N - 1) 41)) := fun W hW _ => ⟨gz, 1, rfl, Nat.zero_le _, hW.lt, fun j hj => by
        rw [hW.cell, List.getElem?_toArray]
        simp only [List.length_replicate] at hj
        rw [bv_get _ _ (by simp; omega)]
        simp⟩
      have hN1 : (1 : Int) ≤ (N : Int) := by have := HN.out; omega
      have hN2 : ¬ N = 1 := by have := HN.out; omega
      clear hCL
      go_upto_region 29 with (first
        | (refine wpList_convert_cells _ rfl 36 9 (.tmp 295) rfl 5 Tryd.underlying36 Tryd.underlying5 Tryd.underlying9 gz N N (List.replicate N 41) (by simp) rfl (HCL.out _ HG.out) ?_)
        | (go_at_call 4
           refine (HE8.out _).mono ?_
           rintro e w5 ⟨B5, rfl⟩
           have HG2 := Lib.hid ((HG.out.below B5 HG.out.lt).alloc (.cells #[.int .i64 0, .int .i64 0] 24))
           have HB11 := Lib.hid ((HB10.out.trans (B5.mono HB10.out.size)).alloc (Nat.le_trans HB10.out.size B5.size) (.cells #[.int .i64 0, .int .i64 0] 24))
           have HP5 := Lib.hid (Has.fresh w5 24 #[.int .i64 0, .int .i64 0])
           clear B5))
      clear HE8 HCL HG HB10
      generalize w5.heap.size = g5 at *
      generalize w5.alloc (.cells #[.int .i64 0, .int .i64 0] 24) = w6 at *
      go_upto_region 30 with (first
        | (refine wpList_convert_bs rfl 36 9 (.tmp 303) rfl 5 Tryd.underlying36 Tryd.underlying5 Tryd.underlying9 _ _ _ _ _ (List.replicate (N - 1) 41) (by simp) rfl (HB28.out _ HG2.out) ?_)
        | (go_at_call 4
           refine (HE9.out _).mono ?_
           rintro e w7 ⟨B7, rfl⟩
           have HP6 := Lib.hid ((HP5.out.below B7 HP5.out.lt).alloc (.cells #[.int .i64 1, .int .i64 1] 24))
           have HB12 := Lib.hid ((HB11.out.trans (B7.mono HB11.out.size)).alloc (Nat.le_trans HB11.out.size B7.size) (.cells #[.int .i64 1, .int .i64 1] 24))
           have HP7 := Lib.hid (Has.fresh w7 24 #[.int .i64 1, .int .i64 1])
           clear B7))
      clear HE9 HB28 HG2 HP5 HB11
      generalize w7.heap.size = g7 at *
      generalize w7.alloc (.cells #[.int .i64 1, .int .i64 1] 24) = w8 at *
      have s0 : w8.cell? ⟨g5, 0, none⟩ = some (.int .i64 0) := HP6.out.cell 0
      have s1 : w8.cell? ⟨g5, 1, none⟩ = some (.int .i64 0) := HP6.out.cell 1
      have r0 : w8.cell? ⟨g7, 0, none⟩ = some (.int .i64 1) := HP7.out.cell 0
      have r1 : w8.cell? ⟨g7, 1, none⟩ = some (.int .i64 1) := HP7.out.cell 1
      go_cut [324] from 309 (fun c wx => c = .bool false ∧ wx = w8)
      case first =>
        clear HP6 HP7 HB12
        go_wp2
        go_meet
        exact ⟨rfl, rfl⟩
      case rest =>
      obtain ⟨rfl, hwx⟩ := hcut
      obtain rfl := hwx.symm
      clear HP6 HP7 s0 s1 r0 r1 hwx
      go_upto_region 32 with fail
      refine knLink (h := kn32 w hL _ _ _ _ _ _ _ _ _ _ _ _ _ _ _ _ _ _ _ _ _ _ _ _ _ _ _ _ _ _ _ _ _ _ _ _ _ _ _ _ _ _ _ _ _ _ _ _ _ _ _ _ _ _ _ _ _ _ _ _ _ _ _ _ _ _ _ _ _ _ _ _ _ _ _ _ _ _ _ _ _ _ _ _ _ _ _ _ _ _ _ _ _ _ _ _ _ _ _ _ _ _ _ _ _ _ _ _ _ _ _ _ _ _ _ _ _ _ _ _ _ _ _ _ _ _ _ _ _ _ _ _ _ _ _ _ _ _ _ _ _ _ _ _ _ _ _ _ _ _ _ _ _ _ _ _ _ _ _ _ _ _ _ _ _ _ _ _ _ _ _ _ _ _ _ _ _ _ _ _ _ _ _ _ _ _ _ _ _ _ _ _ _ _ _ _ _ _ _ _ _ _ _ _ _ _ _ _ _ _ _ _ _ _ _ _ _ _ _ _ _ _ _ _ _ _ _ _ _ _ _ _ _ _ _ _ _ _ _ _ _ _ _ _ _ _ _ _ _ _ _ _ _ _ _ _ _ _ _ _ _ _ _ _ _ _ _ _ _ _ _ _ _ _ _ _ _ _ _ _ _ _ _ _ _ _ _ _ _ _ _ _ _ _ _ _ _ _ _ _ _ _ _ _ _ _ _ _ _ _ _ _ _ _ _ _ _ _ _ _ _ _ _ _ _ _ _ _ _ _ _ _ _ _ _ _ _ _ _ _ _ _ _ _ _ _ _ _ _ _ _ _ _ _ _ _ _ _ _ _ _ _ _ _ _ _ _ HB12.out) ?knE (by assumption)
      case knE => rfl
end Go.Proofs.YtgmemngfkajnbaaDoor
