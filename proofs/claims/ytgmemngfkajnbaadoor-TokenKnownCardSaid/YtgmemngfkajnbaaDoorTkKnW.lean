/- TokenKnown's walk: the chapter's examples, the errors, the limit, one behind the other. -/
import Derived.Test.YtgmemngfkajnbaaDoorTkK2
namespace Go.Proofs.YtgmemngfkajnbaaDoor
open Go.RowKit

set_option maxHeartbeats 8000000 in
set_option maxRecDepth 100000 in
theorem walk_TokenKnown (w : World) (hL : Lay w) : Calls Tryd.prog 3 #[] w fun e w' => e = .returned (.bool true) ∧ Below w.heap.size w w' := by
  have H0 := Lib.hid (ent_good (n := 2) kTells0 (by decide) rfl w)
  have H1 := Lib.hid (ent_good (n := 1) kTells1 (by decide) rfl)
  have H2 := Lib.hid (ent_good (n := 1) kTells2 (by decide) rfl)
  have H3 := Lib.hid (ent_good (n := 0) kTells3 (by decide) rfl)
  have H4 := Lib.hid (ent_good (n := 0) kTells4 (by decide) rfl)
  unfold kT0 at H0
  unfold kT1 at H1
  unfold kT2 at H2
  unfold kT3 at H3
  unfold kT4 at H4
  have q1 : ((⟨#[109]⟩ : ByteArray).toList == (⟨#[109]⟩ : ByteArray).toList) = true := beq_self_eq_true _
  have q2 : ((⟨#[98, 32, 99]⟩ : ByteArray).toList == (⟨#[98, 32, 99]⟩ : ByteArray).toList) = true := beq_self_eq_true _
  have q3 : ((⟨#[100, 92, 32, 101, 92, 59]⟩ : ByteArray).toList == (⟨#[100, 92, 32, 101, 92, 59]⟩ : ByteArray).toList) = true := beq_self_eq_true _
  go_enter Tryd.func3, Tryd.ntmps3
  go_upto_region 2 with (
    go_at_call 4
    refine H0.out.mono ?_
    rintro e w1 ⟨B, A0, c0, rfl, hE⟩
    have HB1 := Lib.hid (B.alloc B.size (.cells #[.int .i64 0, .int .i64 0] 24))
    have hb := (Below.refl w1.heap.size w1).alloc (Nat.le_refl _) (.cells #[.int .i64 0, .int .i64 0] 24)
    obtain ⟨g, o, Ba, da, rfl, x0', _, x2', _⟩ := ens_entry hE hb (j := 0) (by decide)
    obtain ⟨g', o', Bb, db, hg, y0', y1', y2', hWy⟩ := ens_entry hE hb (j := 1) (by decide)
    injection hg with hg
    injection hg with hg1 hg2
    subst hg1 hg2
    obtain ⟨gy, oy, rfl, _, z0', z1', z2', z3'⟩ := word_cells hWy (k := 2) (by decide)
    have x0 : (w1.alloc (.cells #[.int .i64 0, .int .i64 0] 24)).cell? ⟨g, o, none⟩ = some (.bool false) := x0'
    have x2 : (w1.alloc (.cells #[.int .i64 0, .int .i64 0] 24)).cell? ⟨g, o + 2, none⟩ = some (.slice Ba 3 da) := x2'
    have y0 : (w1.alloc (.cells #[.int .i64 0, .int .i64 0] 24)).cell? ⟨g, o + 3, none⟩ = some (.bool true) := y0'
    have y1 : (w1.alloc (.cells #[.int .i64 0, .int .i64 0] 24)).cell? ⟨g, o + 3 + 1, none⟩ = some (.int .i64 2) := y1'
    have y2 : (w1.alloc (.cells #[.int .i64 0, .int .i64 0] 24)).cell? ⟨g, o + 3 + 2, none⟩ = some (.slice (some ⟨gy, oy, none⟩) 3 db) := y2'
    have z0 : (w1.alloc (.cells #[.int .i64 0, .int .i64 0] 24)).cell? ⟨gy, oy + 8, none⟩ = some (.string ⟨#[109]⟩) := z0'
    have z1 : (w1.alloc (.cells #[.int .i64 0, .int .i64 0] 24)).cell? ⟨gy, oy + 8 + 1, none⟩ = some (.bool false) := z1'
    have z2 : (w1.alloc (.cells #[.int .i64 0, .int .i64 0] 24)).cell? ⟨gy, oy + 8 + 2, none⟩ = some (.int .i64 3) := z2'
    have z3 : (w1.alloc (.cells #[.int .i64 0, .int .i64 0] 24)).cell? ⟨gy, oy + 8 + 3, none⟩ = some (.int .i64 2) := z3'
    clear B hE hb hWy x0' x2' y0' y1' y2' z0' z1' z2' z3')
  generalize w1.alloc (.cells #[.int .i64 0, .int .i64 0] 24) = wq at *
  go_cut [89] from 37 to 89 (fun c wx => c = .bool false ∧ wx = wq)
  case first =>
    clear H1 H2 H3 H4 q2 q3 HB1
    go_wp2
    go_meet
    exact ⟨rfl, rfl⟩
  case rest =>
  obtain ⟨rfl, hwx⟩ := hcut
  obtain rfl := hwx.symm
  clear H0 q1 x0 x2 y0 y1 y2 z0 z1 z2 z3
  go_upto_region 5 with (
    go_at_call 4
    refine (H1.out _).mono ?_
    rintro e w2 ⟨B, A0, c0, rfl, hE⟩
    have HB2 := Lib.hid ((HB1.out.trans (B.mono HB1.out.size)).alloc (Nat.le_trans HB1.out.size B.size) (.cells #[.int .i64 0, .int .i64 0] 24))
    have hb := (Below.refl w2.heap.size w2).alloc (Nat.le_refl _) (.cells #[.int .i64 0, .int .i64 0] 24)
    obtain ⟨g, o, Ba, da, rfl, _, _, x2', hWx⟩ := ens_entry hE hb (j := 0) (by decide)
    obtain ⟨gx, ox, rfl, _, z0', z1', z2', z3'⟩ := word_cells hWx (k := 1) (by decide)
    obtain ⟨gx', ox', hg, _, v0', v1', v2', v3'⟩ := word_cells hWx (k := 2) (by decide)
    injection hg with hg
    injection hg with hg1 hg2
    subst hg1 hg2
    have x2 : (w2.alloc (.cells #[.int .i64 0, .int .i64 0] 24)).cell? ⟨g, o + 2, none⟩ = some (.slice (some ⟨gx, ox, none⟩) 3 da) := x2'
    have z0 : (w2.alloc (.cells #[.int .i64 0, .int .i64 0] 24)).cell? ⟨gx, ox + 4, none⟩ = some (.string ⟨#[98, 32, 99]⟩) := z0'
    have z1 : (w2.alloc (.cells #[.int .i64 0, .int .i64 0] 24)).cell? ⟨gx, ox + 4 + 1, none⟩ = some (.bool true) := z1'
    have z2 : (w2.alloc (.cells #[.int .i64 0, .int .i64 0] 24)).cell? ⟨gx, ox + 4 + 2, none⟩ = some (.int .i64 1) := z2'
    have z3 : (w2.alloc (.cells #[.int .i64 0, .int .i64 0] 24)).cell? ⟨gx, ox + 4 + 3, none⟩ = some (.int .i64 2) := z3'
    have v0 : (w2.alloc (.cells #[.int .i64 0, .int .i64 0] 24)).cell? ⟨gx, ox + 8, none⟩ = some (.string ⟨#[100, 92, 32, 101, 92, 59]⟩) := v0'
    have v1 : (w2.alloc (.cells #[.int .i64 0, .int .i64 0] 24)).cell? ⟨gx, ox + 8 + 1, none⟩ = some (.bool false) := v1'
    have v2 : (w2.alloc (.cells #[.int .i64 0, .int .i64 0] 24)).cell? ⟨gx, ox + 8 + 2, none⟩ = some (.int .i64 1) := v2'
    have v3 : (w2.alloc (.cells #[.int .i64 0, .int .i64 0] 24)).cell? ⟨gx, ox + 8 + 3, none⟩ = some (.int .i64 7) := v3'
    clear B hE hb hWx x2' z0' z1' z2' z3' v0' v1' v2' v3' HB1)
  generalize w2.alloc (.cells #[.int .i64 0, .int .i64 0] 24) = wq2 at *
  go_cut [129] from 95 to 129 (fun c wx => c = .bool false ∧ wx = wq2)
  case first =>
    clear H1 H2 H3 H4 HB2
    go_wp2
    go_meet
    exact ⟨rfl, rfl⟩
  case rest =>
  obtain ⟨rfl, hwx⟩ := hcut
  obtain rfl := hwx.symm
  clear H1 q2 q3 x2 z0 z1 z2 z3 v0 v1 v2 v3
  go_upto_region 8 with (
    go_at_call 4
    refine (H2.out _).mono ?_
    rintro e w3 ⟨B, A0, c0, rfl, hE⟩
    have HB3 := Lib.hid ((HB2.out.trans (B.mono HB2.out.size)).alloc (Nat.le_trans HB2.out.size B.size) (.cells #[.int .i64 0, .int .i64 0] 24))
    have HE3 := Lib.hid (hE.below ((Below.refl w3.heap.size w3).alloc (Nat.le_refl _) (.cells #[.int .i64 0, .int .i64 0] 24)))
    clear B hE HB2)
  generalize w3.alloc (.cells #[.int .i64 0, .int .i64 0] 24) = wa at *
  go_upto_region 9 with (
    go_at_call 4
    refine (H3.out _).mono ?_
    rintro e w4 ⟨B, A1, c1, rfl, _⟩
    have HB4 := Lib.hid ((HB3.out.trans (B.mono HB3.out.size)).alloc (Nat.le_trans HB3.out.size B.size) (.cells #[.int .i64 0, .int .i64 0] 24))
    have HE4 := Lib.hid ((HE3.out.below B).below ((Below.refl w4.heap.size w4).alloc (Nat.le_refl _) (.cells #[.int .i64 0, .int .i64 0] 24)))
    clear B HB3 HE3)
  generalize w4.alloc (.cells #[.int .i64 0, .int .i64 0] 24) = wb at *
  clear wa
  go_upto_region 10 with (
    go_at_call 4
    refine (H4.out _).mono ?_
    rintro e w5 ⟨B, A2, c2, rfl, _⟩
    have HB5 := Lib.hid ((HB4.out.trans (B.mono HB4.out.size)).alloc (Nat.le_trans HB4.out.size B.size) (.cells #[.int .i64 0, .int .i64 0] 24))
    have hE5 := HE4.out.below B
    have hb := (Below.refl w5.heap.size w5).alloc (Nat.le_refl _) (.cells #[.int .i64 0, .int .i64 0] 24)
    obtain ⟨g, o, Ba, da, rfl, _, _, x2', hWx⟩ := ens_entry hE5 hb (j := 0) (by decide)
    obtain ⟨gx, ox, rfl, _, _, z1', _, _⟩ := word_cells hWx (k := 0) (by decide)
    have x2 : (w5.alloc (.cells #[.int .i64 0, .int .i64 0] 24)).cell? ⟨g, o + 2, none⟩ = some (.slice (some ⟨gx, ox, none⟩) 1 da) := x2'
    have z1 : (w5.alloc (.cells #[.int .i64 0, .int .i64 0] 24)).cell? ⟨gx, ox + 1, none⟩ = some (.bool true) := z1'
    clear B hE5 hb hWx x2' z1' HB4 HE4)
  generalize w5.alloc (.cells #[.int .i64 0, .int .i64 0] 24) = wq3 at *
  clear wb
  go_cut [179] from 145 to 179 (fun c wx => c = .bool false ∧ wx = wq3)
  case first =>
    clear H2 H3 H4 HB5
    go_wp2
    go_meet
    exact ⟨rfl, rfl⟩
  case rest =>
  obtain ⟨rfl, hwx⟩ := hcut
  obtain rfl := hwx.symm
  clear H2 H3 H4 x2 z1
  go_upto_region 12 with fail
  refine knLink (h := kn12 w hL _ _ _ _ _ _ _ _ _ _ _ _ _ _ _ _ _ _ _ _ _ _ _ _ _ _ _ _ _ _ _ _ _ _ _ _ _ _ _ _ _ _ _ _ _ _ _ _ _ _ _ _ _ _ _ _ _ _ _ _ _ _ _ _ _ _ _ _ _ _ _ _ _ _ _ _ _ _ _ _ _ _ _ _ _ _ _ _ _ _ _ _ _ _ _ _ _ _ _ _ _ _ _ _ _ _ _ _ _ _ _ _ _ _ _ _ _ _ _ _ _ _ _ _ _ _ _ _ _ _ _ _ _ _ _ _ _ _ _ _ _ _ _ _ _ _ _ _ _ _ _ _ _ _ _ _ _ _ _ _ _ _ _ _ _ _ _ _ _ _ _ _ _ _ _ _ _ _ _ _ _ _ _ _ _ _ _ _ _ _ _ _ _ _ _ _ _ _ _ _ _ _ _ _ _ _ _ _ _ _ _ _ _ _ _ _ _ _ _ _ _ _ _ _ _ _ _ _ _ _ _ _ _ _ _ _ _ _ _ _ _ _ _ _ _ _ _ _ _ _ _ _ _ _ _ _ _ _ _ _ _ _ _ _ _ _ _ _ _ _ _ _ _ _ _ _ _ _ _ _ _ _ _ _ _ _ _ _ _ _ _ _ _ _ _ _ _ _ _ _ _ _ _ _ _ _ _ _ _ _ _ _ _ _ _ _ _ _ _ _ _ _ _ _ _ _ _ _ _ _ _ _ _ _ _ _ _ _ _ _ _ _ _ _ _ _ _ _ _ _ _ _ _ _ _ _ _ _ _ _ _ _ _ _ _ _ _ HB5.out) ?knE (by assumption)
  case knE => rfl
end Go.Proofs.YtgmemngfkajnbaaDoor
