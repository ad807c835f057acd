/- TokenKnown: what is wrong, and where. -/
import Derived.Test.YtgmemngfkajnbaaDoorTkK3
namespace Go.Proofs.YtgmemngfkajnbaaDoor
open Go.RowKit

set_option maxHeartbeats 8000000 in
set_option maxRecDepth 100000 in
theorem kn12 (w : World) (hL : Lay w) (u0 u1 u2 u3 u4 u5 u6 u7 u8 u9 u10 u11 u12 u13 u14 u15 u16 u17 u18 u19 u20 u21 u22 u23 u24 u25 u26 u27 u28 u29 u30 u31 u32 u33 u34 u35 u36 u37 u38 u39 u40 u41 u42 u43 u44 u45 u46 u47 u48 u49 u50 u51 u52 u53 u54 u55 u56 u57 u58 u59 u60 u61 u62 u63 u64 u65 u66 u67 u68 u69 u70 u71 u72 u73 u74 u75 u76 u77 u78 u79 u80 u81 u82 u83 u84 u85 u86 u87 u88 u89 u90 u91 u92 u93 u94 u95 u96 u97 u98 u99 u100 u101 u102 u103 u104 u105 u106 u107 u108 u109 u110 u111 u112 u113 u114 u115 u116 u117 u118 u119 u120 u121 u122 u123 u124 u125 u126 u127 u128 u129 u130 u131 u132 u133 u134 u135 u136 u137 u138 u139 u140 u141 u142 u143 u144 u145 u146 u147 u148 u149 u150 u151 u152 u153 u154 u155 u156 u157 u158 u159 u160 u161 u162 u163 u164 u165 u166 u167 u168 u169 u170 u171 u172 u173 u174 u175 u176 u177 u178 u179 u180 u181 u182 u183 u184 u185 u186 u187 u188 u189 u190 u191 u192 u193 u194 u195 u196 u197 u198 u199 u200 u201 u202 u203 u204 u205 u206 u207 u208 u209 u210 u211 u212 u213 u214 u215 u216 u217 u218 u219 u220 u221 u222 u223 u224 u225 u226 u227 u228 u229 u230 u231 u232 u233 u234 u235 u236 u237 u238 u239 u240 u241 u242 u243 u244 u245 u246 u247 u248 u249 u250 u251 u252 u253 u254 u255 u256 u257 u258 u259 u260 u261 u262 u263 u264 u265 u266 u267 u268 u269 u270 u271 u272 u273 u274 u275 u276 u277 u278 u279 u280 u281 u282 u283 u284 u285 u286 u287 u288 u289 u290 u291 u292 u293 u294 u295 u296 u297 u298 u299 u300 u301 u302 u303 u304 u305 u306 u307 u308 u309 u310 u311 u312 u313 u314 u315 u316 u317 u318 u319 u320 u321 u322 u323 u324 u325 u326 u327 u328 u329 u330 u331 u332 u333 u334 u335 u336 u337 u338 u339 u340 u341 u342 u343 u344 u345 u346 u347 u348 u349 u350 u351 u352 u353 u354 u355 u356 u357 u358 u359 u360 u361 u362 u363 u364 u365 : Value) (wr0 : World) (hB : Below w.heap.size w wr0) :
    ∃ R REST, dropSeq 9 knBody = some (Code.seq R REST) ∧ ∀ K : Act → World → Prop, (∀ a w', REST.wp Tryd.prog (bodyPost Tryd.prog Tryd.f3 (fun e w' => e = .returned (.bool true) ∧ Below w.heap.size w w')) a w' → K a w') → R.wp Tryd.prog (Exit.then K (bodyPost Tryd.prog Tryd.f3 (fun e w' => e = .returned (.bool true) ∧ Below w.heap.size w w'))) { tmps := #[u0, u1, u2, u3, u4, u5, u6, u7, u8, u9, u10, u11, u12, u13, u14, u15, u16, u17, u18, u19, u20, u21, u22, u23, u24, u25, u26, u27, u28, u29, u30, u31, u32, u33, u34, u35, u36, u37, u38, u39, u40, u41, u42, u43, u44, u45, u46, u47, u48, u49, u50, u51, u52, u53, u54, u55, u56, u57, u58, u59, u60, u61, u62, u63, u64, u65, u66, u67, u68, u69, u70, u71, u72, u73, u74, u75, u76, u77, u78, u79, u80, u81, u82, u83, u84, u85, u86, u87, u88, u89, u90, u91, u92, u93, u94, u95, u96, u97, u98, u99, u100, u101, u102, u103, u104, u105, u106, u107, u108, u109, u110, u111, u112, u113, u114, u115, u116, u117, u118, u119, u120, u121, u122, u123, u124, u125, u126, u127, u128, u129, u130, u131, u132, u133, u134, u135, u136, u137, u138, u139, u140, u141, u142, u143, u144, u145, u146, u147, u148, u149, u150, u151, u152, u153, u154, u155, u156, u157, u158, u159, u160, u161, u162, u163, u164, u165, u166, u167, u168, u169, u170, u171, u172, u173, u174, u175, u176, u177, u178, u179, u180, u181, u182, u183, u184, u185, u186, u187, u188, u189, u190, u191, u192, u193, u194, u195, u196, u197, u198, u199, u200, u201, u202, u203, u204, u205, u206, u207, u208, u209, u210, u211, u212, u213, u214, u215, u216, u217, u218, u219, u220, u221, u222, u223, u224, u225, u226, u227, u228, u229, u230, u231, u232, u233, u234, u235, u236, u237, u238, u239, u240, u241, u242, u243, u244, u245, u246, u247, u248, u249, u250, u251, u252, u253, u254, u255, u256, u257, u258, u259, u260, u261, u262, u263, u264, u265, u266, u267, u268, u269, u270, u271, u272, u273, u274, u275, u276, u277, u278, u279, u280, u281, u282, u283, u284, u285, u286, u287, u288, u289, u290, u291, u292, u293, u294, u295, u296, u297, u298, u299, u300, u301, u302, u303, u304, u305, u306, u307, u308, u309, u310, u311, u312, u313, u314, u315, u316, u317, u318, u319, u320, u321, u322, u323, u324, u325, u326, u327, u328, u329, u330, u331, u332, u333, u334, u335, u336, u337, u338, u339, u340, u341, u342, u343, u344, u345, u346, u347, u348, u349, u350, u351, u352, u353, u354, u355, u356, u357, u358, u359, u360, u361, u362, u363, u364, u365], defers := [] } wr0 := by
  refine ⟨_, _, rfl, ?_⟩
  intro K hK
  try dsimp only
  have HBQ := Lib.hid hB
  clear hB
  go_cut [14] from 180 (fun v wx => v = .slice (some ⟨wr0.heap.size, 0, none⟩) 9 9 ∧ Hid (Has wx wr0.heap.size 34 (fl bdc bads).toArray) ∧ Hid (Below w.heap.size w wx))
  case first =>
    go_wp2
    go_meet
    exact ⟨rfl, Has.fresh wr0 _ _, HBQ.out.alloc HBQ.out.size _⟩
  case rest =>
  obtain ⟨rfl, HG, HBG⟩ := hcut
  rename World => wg
  have hgb : w.heap.size ≤ wr0.heap.size := HBQ.out.size
  clear HBQ
  generalize wr0.heap.size = gb at *
  go_wp2
  go_loopw [15] (fun iv wr => ∃ k : Nat, iv = .int .i64 k ∧ k ≤ 9 ∧ Hid (Has wr gb 34 (fl bdc bads).toArray ∧ Below w.heap.size w wr)) (fun iv _ => 9 - (intOf iv).toNat)
  case atStart => exact ⟨0, rfl, Nat.zero_le _, HG.out, HBG.out⟩
  case round =>
    obtain ⟨k, rfl, hk, HO⟩ := hrel
    clear HG HBG
    by_cases hk9 : k < 9
    · skip
      have hki : (k : Int) < 9 := by omega
      have hkb : k < bads.length := hk9
      have HC : Hid (∀ W : World, Has W gb 34 (fl bdc bads).toArray → ∀ i, i < 4 → W.cell? ⟨gb, k * 4 + i, none⟩ = (bdc bads[k])[i]?) := fun W hW i hi => by
        rw [hW.cell, List.getElem?_toArray]
        exact fl_get bdc_len bads hkb hi
      have c0 : wr.cell? ⟨gb, k * 4, none⟩ = some (.string bads[k].t) := HC.out wr HO.out.1 0 (by decide)
      have HE := Lib.hid (kn_bad k hkb wr)
      have HS : Hid (∀ W : World, Has W gb 34 (fl bdc bads).toArray → W.cell? ⟨gb, k * 4 + 1, none⟩ = some (.int .i64 bads[k].e) ∧ W.cell? ⟨gb, k * 4 + 2, none⟩ = some (.int .i64 bads[k].l) ∧ W.cell? ⟨gb, k * 4 + 3, none⟩ = some (.int .i64 bads[k].c)) := fun W hW => ⟨HC.out W hW 1 (by decide), HC.out W hW 2 (by decide), HC.out W hW 3 (by decide)⟩
      generalize bads[k].t = tt at *
      generalize (bads[k].l : Nat) = ll at *
      generalize (bads[k].c : Nat) = cc at *
      generalize (bads[k].e : Nat) = ee at *
      clear HC
      go_upto_region 17 with (
        go_at_call 4
        refine HE.out.mono ?_
        rintro e w2 ⟨B2, rfl⟩
        have HG2 := Lib.hid ((HO.out.1.below B2 HO.out.1.lt).alloc (.cells #[.int .i64 ll, .int .i64 cc] 24))
        have HB2 := Lib.hid ((HO.out.2.trans (B2.mono HO.out.2.size)).alloc (Nat.le_trans HO.out.2.size B2.size) (.cells #[.int .i64 ll, .int .i64 cc] 24))
        have HP2 := Lib.hid (Has.fresh w2 24 #[.int .i64 ll, .int .i64 cc])
        clear B2)
      clear c0 HO HE
      generalize w2.heap.size = gs at *
      generalize w2.alloc (.cells #[.int .i64 ll, .int .i64 cc] 24) = wz at *
      obtain ⟨c1, c2, c3⟩ := HS.out wz HG2.out
      have p0 : wz.cell? ⟨gs, 0, none⟩ = some (.int .i64 ll) := HP2.out.cell 0
      have p1 : wz.cell? ⟨gs, 1, none⟩ = some (.int .i64 cc) := HP2.out.cell 1
      have qe : ((ee : Int) != (ee : Int)) = false := by simp
      clear HS HP2
      go_cut [232] from 190 to 232 (fun c wx => c = .bool false ∧ ∃ n, wx = wz.drewN n)
      case first =>
        go_quiet (fail)
        go_wp2_with fail
        go_meet
        exact ⟨rfl, _, rfl⟩
      case rest =>
      obtain ⟨rfl, n, hwx⟩ := hcut
      rename World => wy
      have HG3 : Hid (Has wy gb 34 (fl bdc bads).toArray) := by rw [Hid, hwx]; exact HG2.out
      have HB3 : Hid (Below w.heap.size w wy) := by rw [Hid, hwx]; exact below_drewN HB2.out n
      clear hwx HG2 HB2 c1 c2 c3 p0 p1
      go_wp2
      go_roundw
      case rel => exact ⟨k + 1, by go_num, by omega, HG3.out, HB3.out⟩
      case measure => simp [intOf]; omega
    · obtain rfl : k = 9 := by omega
      have HB6 := Lib.hid HO.out.2
      clear HO hk hk9
      go_upto_region 19 with fail
      refine knLink (h := kn19 w hL _ _ _ _ _ _ _ _ _ _ _ _ _ _ _ _ _ _ _ _ _ _ _ _ _ _ _ _ _ _ _ _ _ _ _ _ _ _ _ _ _ _ _ _ _ _ _ _ _ _ _ _ _ _ _ _ _ _ _ _ _ _ _ _ _ _ _ _ _ _ _ _ _ _ _ _ _ _ _ _ _ _ _ _ _ _ _ _ _ _ _ _ _ _ _ _ _ _ _ _ _ _ _ _ _ _ _ _ _ _ _ _ _ _ _ _ _ _ _ _ _ _ _ _ _ _ _ _ _ _ _ _ _ _ _ _ _ _ _ _ _ _ _ _ _ _ _ _ _ _ _ _ _ _ _ _ _ _ _ _ _ _ _ _ _ _ _ _ _ _ _ _ _ _ _ _ _ _ _ _ _ _ _ _ _ _ _ _ _ _ _ _ _ _ _ _ _ _ _ _ _ _ _ _ _ _ _ _ _ _ _ _ _ _ _ _ _ _ _ _ _ _ _ _ _ _ _ _ _ _ _ _ _ _ _ _ _ _ _ _ _ _ _ _ _ _ _ _ _ _ _ _ _ _ _ _ _ _ _ _ _ _ _ _ _ _ _ _ _ _ _ _ _ _ _ _ _ _ _ _ _ _ _ _ _ _ _ _ _ _ _ _ _ _ _ _ _ _ _ _ _ _ _ _ _ _ _ _ _ _ _ _ _ _ _ _ _ _ _ _ _ _ _ _ _ _ _ _ _ _ _ _ _ _ _ _ _ _ _ _ _ _ _ _ _ _ _ _ _ _ _ _ _ _ _ _ _ _ _ _ _ _ _ _ _ _ _ HB6.out) ?knE (by assumption)
      case knE => rfl
end Go.Proofs.YtgmemngfkajnbaaDoor
