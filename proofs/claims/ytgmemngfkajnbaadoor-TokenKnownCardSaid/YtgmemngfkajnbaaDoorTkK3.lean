/- TokenKnown: a backslash at the end. -/
import Derived.Test.YtgmemngfkajnbaaDoorTkK4
namespace Go.Proofs.YtgmemngfkajnbaaDoor
open Go.RowKit

set_option maxHeartbeats 8000000 in
set_option maxRecDepth 100000 in
theorem kn19 (w : World) (hL : Lay w) (u0 u1 u2 u3 u4 u5 u6 u7 u8 u9 u10 u11 u12 u13 u14 u15 u16 u17 u18 u19 u20 u21 u22 u23 u24 u25 u26 u27 u28 u29 u30 u31 u32 u33 u34 u35 u36 u37 u38 u39 u40 u41 u42 u43 u44 u45 u46 u47 u48 u49 u50 u51 u52 u53 u54 u55 u56 u57 u58 u59 u60 u61 u62 u63 u64 u65 u66 u67 u68 u69 u70 u71 u72 u73 u74 u75 u76 u77 u78 u79 u80 u81 u82 u83 u84 u85 u86 u87 u88 u89 u90 u91 u92 u93 u94 u95 u96 u97 u98 u99 u100 u101 u102 u103 u104 u105 u106 u107 u108 u109 u110 u111 u112 u113 u114 u115 u116 u117 u118 u119 u120 u121 u122 u123 u124 u125 u126 u127 u128 u129 u130 u131 u132 u133 u134 u135 u136 u137 u138 u139 u140 u141 u142 u143 u144 u145 u146 u147 u148 u149 u150 u151 u152 u153 u154 u155 u156 u157 u158 u159 u160 u161 u162 u163 u164 u165 u166 u167 u168 u169 u170 u171 u172 u173 u174 u175 u176 u177 u178 u179 u180 u181 u182 u183 u184 u185 u186 u187 u188 u189 u190 u191 u192 u193 u194 u195 u196 u197 u198 u199 u200 u201 u202 u203 u204 u205 u206 u207 u208 u209 u210 u211 u212 u213 u214 u215 u216 u217 u218 u219 u220 u221 u222 u223 u224 u225 u226 u227 u228 u229 u230 u231 u232 u233 u234 u235 u236 u237 u238 u239 u240 u241 u242 u243 u244 u245 u246 u247 u248 u249 u250 u251 u252 u253 u254 u255 u256 u257 u258 u259 u260 u261 u262 u263 u264 u265 u266 u267 u268 u269 u270 u271 u272 u273 u274 u275 u276 u277 u278 u279 u280 u281 u282 u283 u284 u285 u286 u287 u288 u289 u290 u291 u292 u293 u294 u295 u296 u297 u298 u299 u300 u301 u302 u303 u304 u305 u306 u307 u308 u309 u310 u311 u312 u313 u314 u315 u316 u317 u318 u319 u320 u321 u322 u323 u324 u325 u326 u327 u328 u329 u330 u331 u332 u333 u334 u335 u336 u337 u338 u339 u340 u341 u342 u343 u344 u345 u346 u347 u348 u349 u350 u351 u352 u353 u354 u355 u356 u357 u358 u359 u360 u361 u362 u363 u364 u365 : Value) (wr : World) (hB : Below w.heap.size w wr) :
    ∃ R REST, dropSeq 11 knBody = some (Code.seq R REST) ∧ ∀ K : Act → World → Prop, (∀ a w', REST.wp Tryd.prog (bodyPost Tryd.prog Tryd.f3 (fun e w' => e = .returned (.bool true) ∧ Below w.heap.size w w')) a w' → K a w') → R.wp Tryd.prog (Exit.then K (bodyPost Tryd.prog Tryd.f3 (fun e w' => e = .returned (.bool true) ∧ Below w.heap.size w w'))) { tmps := #[u0, u1, u2, u3, u4, u5, u6, u7, u8, u9, u10, u11, u12, u13, u14, u15, u16, u17, u18, u19, u20, u21, u22, u23, u24, u25, u26, u27, u28, u29, u30, u31, u32, u33, u34, u35, u36, u37, u38, u39, u40, u41, u42, u43, u44, u45, u46, u47, u48, u49, u50, u51, u52, u53, u54, u55, u56, u57, u58, u59, u60, u61, u62, u63, u64, u65, u66, u67, u68, u69, u70, u71, u72, u73, u74, u75, u76, u77, u78, u79, u80, u81, u82, u83, u84, u85, u86, u87, u88, u89, u90, u91, u92, u93, u94, u95, u96, u97, u98, u99, u100, u101, u102, u103, u104, u105, u106, u107, u108, u109, u110, u111, u112, u113, u114, u115, u116, u117, u118, u119, u120, u121, u122, u123, u124, u125, u126, u127, u128, u129, u130, u131, u132, u133, u134, u135, u136, u137, u138, u139, u140, u141, u142, u143, u144, u145, u146, u147, u148, u149, u150, u151, u152, u153, u154, u155, u156, u157, u158, u159, u160, u161, u162, u163, u164, u165, u166, u167, u168, u169, u170, u171, u172, u173, u174, u175, u176, u177, u178, u179, u180, u181, u182, u183, u184, u185, u186, u187, u188, u189, u190, u191, u192, u193, u194, u195, u196, u197, u198, u199, u200, u201, u202, u203, u204, u205, u206, u207, u208, u209, u210, u211, u212, u213, u214, u215, u216, u217, u218, u219, u220, u221, u222, u223, u224, u225, u226, u227, u228, u229, u230, u231, u232, u233, u234, u235, u236, u237, u238, u239, u240, u241, u242, u243, u244, u245, u246, u247, u248, u249, u250, u251, u252, u253, u254, u255, u256, u257, u258, u259, u260, u261, u262, u263, u264, u265, u266, u267, u268, u269, u270, u271, u272, u273, u274, u275, u276, u277, u278, u279, u280, u281, u282, u283, u284, u285, u286, u287, u288, u289, u290, u291, u292, u293, u294, u295, u296, u297, u298, u299, u300, u301, u302, u303, u304, u305, u306, u307, u308, u309, u310, u311, u312, u313, u314, u315, u316, u317, u318, u319, u320, u321, u322, u323, u324, u325, u326, u327, u328, u329, u330, u331, u332, u333, u334, u335, u336, u337, u338, u339, u340, u341, u342, u343, u344, u345, u346, u347, u348, u349, u350, u351, u352, u353, u354, u355, u356, u357, u358, u359, u360, u361, u362, u363, u364, u365], defers := [] } wr := by
  refine ⟨_, _, rfl, ?_⟩
  intro K hK
  try dsimp only
  have HB6 := Lib.hid hB
  clear hB
  have H5 := Lib.hid (ent_good (n := 1) kTells5 (by decide) rfl wr)
  have H6 := Lib.hid (ent_good (n := 2) kTells6 (by decide) rfl)
  unfold kT5 at H5
  unfold kT6 at H6
  go_upto_region 20 with (
    go_at_call 4
    refine H5.out.mono ?_
    rintro e w3 ⟨B, A0, c0, rfl, hE⟩
    have HB7 := Lib.hid ((HB6.out.trans (B.mono HB6.out.size)).alloc (Nat.le_trans HB6.out.size B.size) (.cells #[.int .i64 0, .int .i64 0] 24))
    have HE7 := Lib.hid (hE.below ((Below.refl w3.heap.size w3).alloc (Nat.le_refl _) (.cells #[.int .i64 0, .int .i64 0] 24)))
    clear B hE HB6)
  generalize w3.alloc (.cells #[.int .i64 0, .int .i64 0] 24) = wa at *
  go_upto_region 21 with (
    go_at_call 4
    refine (H6.out _).mono ?_
    rintro e w4 ⟨B, A1, c1, rfl, hE⟩
    have HB8 := Lib.hid ((HB7.out.trans (B.mono HB7.out.size)).alloc (Nat.le_trans HB7.out.size B.size) (.cells #[.int .i64 0, .int .i64 0] 24))
    have hE5 := HE7.out.below B
    have hb := (Below.refl w4.heap.size w4).alloc (Nat.le_refl _) (.cells #[.int .i64 0, .int .i64 0] 24)
    obtain ⟨g, o, Ba, da, rfl, _, _, x2', hWx⟩ := ens_entry hE5 hb (j := 0) (by decide)
    obtain ⟨gx, ox, rfl, _, z0', _, _, _⟩ := word_cells hWx (k := 0) (by decide)
    obtain ⟨g2, o2, Bb, db, rfl, _, _, y2', hWy⟩ := ens_entry hE hb (j := 0) (by decide)
    obtain ⟨gy, oy, rfl, _, v0', _, _, _⟩ := word_cells hWy (k := 0) (by decide)
    obtain ⟨g3, o3, Bc, dc, hg3, _, _, t2', hWz⟩ := ens_entry hE hb (j := 1) (by decide)
    injection hg3 with hg3
    injection hg3 with hg4 hg5
    subst hg4 hg5
    obtain ⟨gz, oz, rfl, _, r0', _, _, _⟩ := word_cells hWz (k := 0) (by decide)
    have x2 : (w4.alloc (.cells #[.int .i64 0, .int .i64 0] 24)).cell? ⟨g, o + 2, none⟩ = some (.slice (some ⟨gx, ox, none⟩) 1 da) := x2'
    have z0 : (w4.alloc (.cells #[.int .i64 0, .int .i64 0] 24)).cell? ⟨gx, ox, none⟩ = some (.string ⟨#[97, 92]⟩) := z0'
    have y2 : (w4.alloc (.cells #[.int .i64 0, .int .i64 0] 24)).cell? ⟨g2, o2 + 2, none⟩ = some (.slice (some ⟨gy, oy, none⟩) 1 db) := y2'
    have v0 : (w4.alloc (.cells #[.int .i64 0, .int .i64 0] 24)).cell? ⟨gy, oy, none⟩ = some (.string ⟨#[97, 92]⟩) := v0'
    have t2 : (w4.alloc (.cells #[.int .i64 0, .int .i64 0] 24)).cell? ⟨g2, o2 + 3 + 2, none⟩ = some (.slice (some ⟨gz, oz, none⟩) 1 dc) := t2'
    have r0 : (w4.alloc (.cells #[.int .i64 0, .int .i64 0] 24)).cell? ⟨gz, oz, none⟩ = some (.string ⟨#[98]⟩) := r0'
    clear B hE hE5 hb hWx hWy hWz x2' z0' y2' v0' t2' r0' HB7 HE7)
  generalize w4.alloc (.cells #[.int .i64 0, .int .i64 0] 24) = wq4 at *
  clear wa
  have e1 : ((⟨#[97, 92]⟩ : ByteArray).toList == (⟨#[97, 92]⟩ : ByteArray).toList) = true := beq_self_eq_true _
  have e2 : ((⟨#[98]⟩ : ByteArray).toList == (⟨#[98]⟩ : ByteArray).toList) = true := beq_self_eq_true _
  go_cut [283] from 243 (fun c wx => c = .bool false ∧ wx = wq4)
  case first =>
    clear H5 H6 HB8
    go_wp2
    go_meet
    exact ⟨rfl, rfl⟩
  case rest =>
  obtain ⟨rfl, hwx⟩ := hcut
  obtain rfl := hwx.symm
  clear H5 H6 x2 z0 y2 v0 t2 r0 e1 e2 hwx
  go_upto_region 23 with fail
  refine knLink (h := kn23 w hL _ _ _ _ _ _ _ _ _ _ _ _ _ _ _ _ _ _ _ _ _ _ _ _ _ _ _ _ _ _ _ _ _ _ _ _ _ _ _ _ _ _ _ _ _ _ _ _ _ _ _ _ _ _ _ _ _ _ _ _ _ _ _ _ _ _ _ _ _ _ _ _ _ _ _ _ _ _ _ _ _ _ _ _ _ _ _ _ _ _ _ _ _ _ _ _ _ _ _ _ _ _ _ _ _ _ _ _ _ _ _ _ _ _ _ _ _ _ _ _ _ _ _ _ _ _ _ _ _ _ _ _ _ _ _ _ _ _ _ _ _ _ _ _ _ _ _ _ _ _ _ _ _ _ _ _ _ _ _ _ _ _ _ _ _ _ _ _ _ _ _ _ _ _ _ _ _ _ _ _ _ _ _ _ _ _ _ _ _ _ _ _ _ _ _ _ _ _ _ _ _ _ _ _ _ _ _ _ _ _ _ _ _ _ _ _ _ _ _ _ _ _ _ _ _ _ _ _ _ _ _ _ _ _ _ _ _ _ _ _ _ _ _ _ _ _ _ _ _ _ _ _ _ _ _ _ _ _ _ _ _ _ _ _ _ _ _ _ _ _ _ _ _ _ _ _ _ _ _ _ _ _ _ _ _ _ _ _ _ _ _ _ _ _ _ _ _ _ _ _ _ _ _ _ _ _ _ _ _ _ _ _ _ _ _ _ _ _ _ _ _ _ _ _ _ _ _ _ _ _ _ _ _ _ _ _ _ _ _ _ _ _ _ _ _ _ _ _ _ _ _ _ _ _ _ _ _ _ _ _ _ _ _ _ _ _ _ HB8.out) ?knE (by assumption)
  case knE => rfl
end Go.Proofs.YtgmemngfkajnbaaDoor
