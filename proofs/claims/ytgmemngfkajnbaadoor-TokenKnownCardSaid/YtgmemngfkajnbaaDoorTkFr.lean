/- The frame of the lexer's read. -/
import Derived.Test.YtgmemngfkajnbaaDoorJumps
namespace Go.Proofs.YtgmemngfkajnbaaDoor
open Go.RowKit

/-- the frame of read: the lexer, the result's cell, no error, where the word began. -/
def Fr (a : Act) (g rc : Nat) (st : Value) : Prop :=
  a.defers = [] ∧ a.tmps.size = 125 ∧ a.tmps[0]? = some (.pointer (some ⟨g, 0, none⟩)) ∧ a.tmps[2]? = some (.pointer (some ⟨rc, 0, none⟩)) ∧ a.tmps[3]? = some (.int .i64 0) ∧ a.tmps[4]? = some st
set_option maxRecDepth 100000 in
set_option maxHeartbeats 2000000 in
theorem Fr.elim {g rc : Nat} {st : Value} {motive : Act → Prop} (H : ∀ u1 u5 u6 u7 u8 u9 u10 u11 u12 u13 u14 u15 u16 u17 u18 u19 u20 u21 u22 u23 u24 u25 u26 u27 u28 u29 u30 u31 u32 u33 u34 u35 u36 u37 u38 u39 u40 u41 u42 u43 u44 u45 u46 u47 u48 u49 u50 u51 u52 u53 u54 u55 u56 u57 u58 u59 u60 u61 u62 u63 u64 u65 u66 u67 u68 u69 u70 u71 u72 u73 u74 u75 u76 u77 u78 u79 u80 u81 u82 u83 u84 u85 u86 u87 u88 u89 u90 u91 u92 u93 u94 u95 u96 u97 u98 u99 u100 u101 u102 u103 u104 u105 u106 u107 u108 u109 u110 u111 u112 u113 u114 u115 u116 u117 u118 u119 u120 u121 u122 u123 u124 : Value, motive { tmps := #[(.pointer (some ⟨g, 0, none⟩)), u1, (.pointer (some ⟨rc, 0, none⟩)), (.int .i64 0), st, u5, u6, u7, u8, u9, u10, u11, u12, u13, u14, u15, u16, u17, u18, u19, u20, u21, u22, u23, u24, u25, u26, u27, u28, u29, u30, u31, u32, u33, u34, u35, u36, u37, u38, u39, u40, u41, u42, u43, u44, u45, u46, u47, u48, u49, u50, u51, u52, u53, u54, u55, u56, u57, u58, u59, u60, u61, u62, u63, u64, u65, u66, u67, u68, u69, u70, u71, u72, u73, u74, u75, u76, u77, u78, u79, u80, u81, u82, u83, u84, u85, u86, u87, u88, u89, u90, u91, u92, u93, u94, u95, u96, u97, u98, u99, u100, u101, u102, u103, u104, u105, u106, u107, u108, u109, u110, u111, u112, u113, u114, u115, u116, u117, u118, u119, u120, u121, u122, u123, u124], defers := [] }) {a : Act} (h : Fr a g rc st) : motive a := by
  obtain ⟨t, d⟩ := a
  obtain ⟨rfl, h1, h2, h3, h4, h5⟩ := h
  revert h2 h3 h4 h5
  refine fr125 (motive := fun t => t[0]? = some (.pointer (some ⟨g, 0, none⟩)) → t[2]? = some (.pointer (some ⟨rc, 0, none⟩)) → t[3]? = some (.int .i64 0) → t[4]? = some st → motive { tmps := t, defers := [] }) ?_ t h1
  intro u0 u1 u2 u3 u4 u5 u6 u7 u8 u9 u10 u11 u12 u13 u14 u15 u16 u17 u18 u19 u20 u21 u22 u23 u24 u25 u26 u27 u28 u29 u30 u31 u32 u33 u34 u35 u36 u37 u38 u39 u40 u41 u42 u43 u44 u45 u46 u47 u48 u49 u50 u51 u52 u53 u54 u55 u56 u57 u58 u59 u60 u61 u62 u63 u64 u65 u66 u67 u68 u69 u70 u71 u72 u73 u74 u75 u76 u77 u78 u79 u80 u81 u82 u83 u84 u85 u86 u87 u88 u89 u90 u91 u92 u93 u94 u95 u96 u97 u98 u99 u100 u101 u102 u103 u104 u105 u106 u107 u108 u109 u110 u111 u112 u113 u114 u115 u116 u117 u118 u119 u120 u121 u122 u123 u124 h2 h3 h4 h5
  have e0 : u0 = .pointer (some ⟨g, 0, none⟩) := Option.some.inj h2
  have e2 : u2 = .pointer (some ⟨rc, 0, none⟩) := Option.some.inj h3
  have e3 : u3 = .int .i64 0 := Option.some.inj h4
  have e4 : u4 = st := Option.some.inj h5
  rw [e0, e2, e3, e4]
  exact H u1 u5 u6 u7 u8 u9 u10 u11 u12 u13 u14 u15 u16 u17 u18 u19 u20 u21 u22 u23 u24 u25 u26 u27 u28 u29 u30 u31 u32 u33 u34 u35 u36 u37 u38 u39 u40 u41 u42 u43 u44 u45 u46 u47 u48 u49 u50 u51 u52 u53 u54 u55 u56 u57 u58 u59 u60 u61 u62 u63 u64 u65 u66 u67 u68 u69 u70 u71 u72 u73 u74 u75 u76 u77 u78 u79 u80 u81 u82 u83 u84 u85 u86 u87 u88 u89 u90 u91 u92 u93 u94 u95 u96 u97 u98 u99 u100 u101 u102 u103 u104 u105 u106 u107 u108 u109 u110 u111 u112 u113 u114 u115 u116 u117 u118 u119 u120 u121 u122 u123 u124
end Go.Proofs.YtgmemngfkajnbaaDoor
