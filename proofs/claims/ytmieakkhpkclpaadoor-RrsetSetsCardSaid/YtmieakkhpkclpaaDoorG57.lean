/- Texts of the proofs, merged. -/
import Derived.Test.YtmieakkhpkclpaaDoorG54
import Derived.Deep.RegionHeld3
import Derived.Test.YtmieakkhpkclpaaDoorG49
/- The records of a set that came in: the document's. -/
namespace Go.Proofs.YtmieakkhpkclpaaDoor
open Go.RowKit Go.Sort Go.Shelf

set_option maxHeartbeats 4000000 in
set_option maxRecDepth 100000 in
theorem r5Recs_any (q : Kv) (ttl : Nat) (A : Option Addr) (ds : List Dv) (cd : Nat) (w : World) (hrow : Srow dcl 8 w 0 w.heap.size A ds) (hn : ds.length ≤ 200) :
    Calls Tryd.prog 11 #[.agg #[.string q.nm, .int .u16 q.ty, .int .u16 q.cl, .int .u32 ttl, .slice A ds.length cd]] w fun e w' => ∃ v, e = .returned v ∧ Own rcl 12 w' (w.heap.size + 1) 43 v (ds.map fun d => (⟨q.nm, q.ty, q.cl, ttl, d⟩ : Rv)) ∧ Below w.heap.size w w' := by
  obtain ⟨kn, kt, kc⟩ := q
  dsimp only
  obtain ⟨ti, ht1, ht2, ht3, ht4⟩ : ∃ i, Tryd.prog.info? 43 = some i ∧ i.zero = some (.agg (rcl ⟨⟨#[]⟩, 0, 0, 0, ⟨⟨#[]⟩, ⟨#[]⟩, ⟨#[]⟩, 0, 0, 0, 0, 0⟩⟩).toArray) ∧ i.size = 12 ∧ i.bytes = 96 := ⟨_, rfl, by kernel_rfl, by kernel_rfl, by kernel_rfl⟩
  have HT := Lib.hid (And.intro ht1 (And.intro ht2 (And.intro ht3 ht4)))
  clear ht1 ht2 ht3 ht4
  have HROW := Lib.hid hrow
  clear hrow
  go_enter Tryd.func11, Tryd.ntmps11
  go_wp2
  go_loopw [3, 4] (fun s3 s4 wr => ∃ i : Nat, s4 = .int .i64 i ∧ i ≤ ds.length ∧ Hid (Own rcl 12 wr (w.heap.size + 1) 43 s3 ((ds.take i).map fun d => (⟨kn, kt, kc, ttl, d⟩ : Rv)) ∧ Has wr w.heap.size 30 #[.string kn, .int .u16 kt, .int .u16 kc, .int .u32 ttl, .slice A ds.length cd] ∧ Below w.heap.size w wr)) (fun _ s4 _ => ds.length - (intOf s4).toNat)
  case atStart => exact ⟨0, rfl, Nat.zero_le _, ⟨rfl, .inl ⟨rfl, rfl⟩⟩, Has.fresh w _ _, (Below.refl _ _).alloc (Nat.le_refl _) _⟩
  case round =>
    obtain ⟨i, rfl, hi, HO⟩ := hrel
    have c0 : wr.cell? ⟨w.heap.size, 0, none⟩ = some (.string kn) := HO.out.2.1.cell 0
    have c1 : wr.cell? ⟨w.heap.size, 1, none⟩ = some (.int .u16 kt) := HO.out.2.1.cell 1
    have c2 : wr.cell? ⟨w.heap.size, 2, none⟩ = some (.int .u16 kc) := HO.out.2.1.cell 2
    have c3 : wr.cell? ⟨w.heap.size, 3, none⟩ = some (.int .u32 ttl) := HO.out.2.1.cell 3
    have c4 : wr.cell? ⟨w.heap.size, 4, none⟩ = some (.slice A ds.length cd) := HO.out.2.1.cell 4
    by_cases hlt : i < ds.length
    · have i1 : (i : Int) < (ds.length : Int) := by omega
      have i0 : (0 : Int) ≤ (i : Int) := by omega
      obtain ⟨gd, od, hA, _, hgd, hc⟩ := HROW.out.at_ hlt
      subst hA
      have HTK : Hid ((ds.take (i + 1)).map (fun d => (⟨kn, kt, kc, ttl, d⟩ : Rv)) = (ds.take i).map (fun d => (⟨kn, kt, kc, ttl, d⟩ : Rv)) ++ [⟨kn, kt, kc, ttl, ds[i]⟩]) := by
        rw [Hid, List.take_succ_eq_append_getElem hlt, List.map_append]
        rfl
      have hlen : ((ds.take i).map fun d => (⟨kn, kt, kc, ttl, d⟩ : Rv)).length = i := by rw [List.length_map, List.length_take]; omega
      generalize ds[i] = d at *
      obtain ⟨d0, d1, d2, n0, n1, n2, n3, n4⟩ := d
      have HSS : Hid (∀ W : World, Has W w.heap.size 30 #[.string kn, .int .u16 kt, .int .u16 kc, .int .u32 ttl, .slice (some ⟨gd, od, none⟩) ds.length cd] → Below w.heap.size w W → (fun W => W.cell? ⟨w.heap.size, 0, none⟩ = some (.string kn) ∧ W.cell? ⟨w.heap.size, 1, none⟩ = some (.int .u16 kt) ∧ W.cell? ⟨w.heap.size, 2, none⟩ = some (.int .u16 kc) ∧ W.cell? ⟨w.heap.size, 3, none⟩ = some (.int .u32 ttl) ∧ W.cell? ⟨w.heap.size, 4, none⟩ = some (.slice (some ⟨gd, od, none⟩) ds.length cd) ∧ W.cell? ⟨gd, od + i * 8, none⟩ = some (.string d0) ∧ W.cell? ⟨gd, od + i * 8 + 1, none⟩ = some (.string d1) ∧ W.cell? ⟨gd, od + i * 8 + 2, none⟩ = some (.string d2) ∧ W.cell? ⟨gd, od + i * 8 + 3, none⟩ = some (.int .u32 n0) ∧ W.cell? ⟨gd, od + i * 8 + 4, none⟩ = some (.int .u32 n1) ∧ W.cell? ⟨gd, od + i * 8 + 5, none⟩ = some (.int .u32 n2) ∧ W.cell? ⟨gd, od + i * 8 + 6, none⟩ = some (.int .u32 n3) ∧ W.cell? ⟨gd, od + i * 8 + 7, none⟩ = some (.int .u32 n4)) W) := fun W hW hB => by
        have h := range_below hB hgd hc
        exact ⟨hW.cell 0, hW.cell 1, hW.cell 2, hW.cell 3, hW.cell 4, h 0 _ rfl, h 1 _ rfl, h 2 _ rfl, h 3 _ rfl, h 4 _ rfl, h 5 _ rfl, h 6 _ rfl, h 7 _ rfl⟩
      generalize ((ds.take i).map fun d => (⟨kn, kt, kc, ttl, d⟩ : Rv)) = L at *
      have HON : Hid (wr.drew.ownsRow (w.heap.size + 1) 43 12 _ L.length (fl rcl L)) := own_drewN HO.out.1 1
      have HHS : Hid (Has wr.drew w.heap.size 30 #[.string kn, .int .u16 kt, .int .u16 kc, .int .u32 ttl, .slice (some ⟨gd, od, none⟩) ds.length cd]) := HO.out.2.1
      have HBD : Hid (Below w.heap.size w wr.drew) := HO.out.2.2.drew
      obtain ⟨aO, cO, hv, _⟩ := ownK_form HON.out
      subst hv
      have hll : L.length ≤ 200 := by omega
      clear hc HO hlen
      go_upto_region 5 with fail
      clear c0 c1 c2 c3 c4
      obtain ⟨w9, hw9⟩ : ∃ w9, w9 = wr.drew := ⟨_, rfl⟩
      rw [← hw9] at HON HHS HBD
      have hle := HBD.out.size
      have hhl := HHS.out.lt
      obtain ⟨v8, w8, hr8, ho8, hg8, _⟩ := run_append_own (P := Tryd.prog) (w9.alloc (.cells #[.string kn, .int .u16 kt, .int .u16 kc, .int .u32 ttl, .string d0, .string d1, .string d2, .int .u32 n0, .int .u32 n1, .int .u32 n2, .int .u32 n3, .int .u32 n4] 43)) (w.heap.size + 1) 22 22 43 ti _ 12 96 Tryd.underlying22 HT.out.1 HT.out.2.1 HT.out.2.2.1 HT.out.2.2.2 rfl (by decide) (.slice aO L.length cO) L.length (fl rcl L) (HON.out.alloc _)
        ⟨w9.heap.size, 0, none⟩ 1 1 (rcl (⟨kn, kt, kc, ttl, ⟨d0, d1, d2, n0, n1, n2, n3, n4⟩⟩ : Rv)) rfl (r5_new w9 _ _) (rcl_one (⟨kn, kt, kc, ttl, ⟨d0, d1, d2, n0, n1, n2, n3, n4⟩⟩ : Rv)) (by unfold maxLen; omega) (by omega) (by simp; omega)
      have hrl : ∀ k, (Value.slice aO L.length cO).ownBlock = some k → w.heap.size + 1 ≤ k := fun k e => (HON.out.lt k e).1
      have HB8 : Hid (Below w.heap.size w w8) := (HBD.out.alloc hle _).grown hg8 (by simp; omega) (fun k e => by have := hrl k e; omega)
      have HH8 : Hid (Has w8 w.heap.size 30 #[.string kn, .int .u16 kt, .int .u16 kc, .int .u32 ttl, .slice (some ⟨gd, od, none⟩) ds.length cd]) := (HHS.out.alloc _).grown hg8 (fun e => by have := hrl _ e.symm; omega)
      have HO8 : Hid (Own rcl 12 w8 (w.heap.size + 1) 43 v8 (L ++ [⟨kn, kt, kc, ttl, ⟨d0, d1, d2, n0, n1, n2, n3, n4⟩⟩])) := by
        show w8.ownsRow _ _ _ _ _ _
        rw [fl_append, fl_one, List.length_append, List.length_singleton]
        exact ho8
      have HS0 := Lib.hid (HSS.out w9 HHS.out HBD.out)
      have HS1 := Lib.hid (HSS.out _ (HHS.out.alloc (.cells #[.string kn, .int .u16 kt, .int .u16 kc, .int .u32 ttl, .string d0, .string d1, .string d2, .int .u32 n0, .int .u32 n1, .int .u32 n2, .int .u32 n3, .int .u32 n4] 43)) (HBD.out.alloc hle _))
      have HS2 := Lib.hid (HSS.out w8 HH8.out HB8.out)
      subst hw9
      have HR8 := Lib.hid hr8
      clear hr8 ho8 hg8 hrl HON HHS HBD hle hhl HSS
      refine wp_region_noPanic ?_
      refine wp_region_held_drew (S := (fun W => W.cell? ⟨w.heap.size, 0, none⟩ = some (.string kn) ∧ W.cell? ⟨w.heap.size, 1, none⟩ = some (.int .u16 kt) ∧ W.cell? ⟨w.heap.size, 2, none⟩ = some (.int .u16 kc) ∧ W.cell? ⟨w.heap.size, 3, none⟩ = some (.int .u32 ttl) ∧ W.cell? ⟨w.heap.size, 4, none⟩ = some (.slice (some ⟨gd, od, none⟩) ds.length cd) ∧ W.cell? ⟨gd, od + i * 8, none⟩ = some (.string d0) ∧ W.cell? ⟨gd, od + i * 8 + 1, none⟩ = some (.string d1) ∧ W.cell? ⟨gd, od + i * 8 + 2, none⟩ = some (.string d2) ∧ W.cell? ⟨gd, od + i * 8 + 3, none⟩ = some (.int .u32 n0) ∧ W.cell? ⟨gd, od + i * 8 + 4, none⟩ = some (.int .u32 n1) ∧ W.cell? ⟨gd, od + i * 8 + 5, none⟩ = some (.int .u32 n2) ∧ W.cell? ⟨gd, od + i * 8 + 6, none⟩ = some (.int .u32 n3) ∧ W.cell? ⟨gd, od + i * 8 + 7, none⟩ = some (.int .u32 n4))) (by kernel_rfl) ?hax1 (fun hHeld => ?_)
      case hax1 =>
        try dsimp only
        (first | exact HS0.out | exact HS1.out | exact HS2.out)
      refine wpAnyH_take (i := 0) (oi := { dst := some 12, op := Go.Op.move (Go.Operand.tmp 3), type := 22, pos := "ref.go:139", after := #[], guard := none }) (v := ?vax2) rfl (by kernel_rfl) (by kernel_rfl) (by kernel_rfl) (fun _ _ _ h => h) (Or.inl ⟨by rfl, ?hax2⟩) (by assumption) ?_
      case hax2 =>
        intro w hSw
        try dsimp only at hSw
        go_simp
        try with_reducible rfl
      try simp only [Act.put, List.setIfInBounds_toArray, List.set_cons_zero, List.set_cons_succ]
      refine wpAnyH_take (i := 1) (oi := { dst := some 13, op := Go.Op.fieldAddr 30 (Go.Operand.tmp 1) 0, type := 0, pos := "ref.go:139", after := #[], guard := none }) (v := ?vax3) rfl (by kernel_rfl) (by kernel_rfl) (by kernel_rfl) (fun _ _ _ h => h) (Or.inl ⟨by rfl, ?hax3⟩) (by assumption) ?_
      case hax3 =>
        intro w hSw
        try dsimp only at hSw
        go_simp
        try with_reducible rfl
      try simp only [Act.put, List.setIfInBounds_toArray, List.set_cons_zero, List.set_cons_succ]
      refine wpAnyH_take (i := 2) (oi := { dst := some 14, op := Go.Op.fieldAddr 26 (Go.Operand.tmp 13) 0, type := 0, pos := "ref.go:139", after := #[{ on := 1, ground := Go.Ground.data }], guard := none }) (v := ?vax4) rfl (by kernel_rfl) (by kernel_rfl) (by kernel_rfl) (fun _ _ _ h => h) (Or.inl ⟨by rfl, ?hax4⟩) (by assumption) ?_
      case hax4 =>
        intro w hSw
        try dsimp only at hSw
        go_simp
        try with_reducible rfl
      try simp only [Act.put, List.setIfInBounds_toArray, List.set_cons_zero, List.set_cons_succ]
      refine wpAnyH_take (i := 3) (oi := { dst := some 15, op := Go.Op.load 23 (Go.Operand.tmp 14), type := 23, pos := "ref.go:139", after := #[{ on := 2, ground := Go.Ground.data }], guard := none }) (v := ?vax5) rfl (by kernel_rfl) (by kernel_rfl) (by kernel_rfl) (fun _ _ _ h => h) (Or.inl ⟨by rfl, ?hax5⟩) (by assumption) ?_
      case hax5 =>
        intro w hSw
        try dsimp only at hSw
        go_simp
        try with_reducible rfl
      try simp only [Act.put, List.setIfInBounds_toArray, List.set_cons_zero, List.set_cons_succ]
      refine wpAnyH_take (i := 4) (oi := { dst := some 16, op := Go.Op.fieldAddr 30 (Go.Operand.tmp 1) 0, type := 0, pos := "ref.go:139", after := #[], guard := none }) (v := ?vax6) rfl (by kernel_rfl) (by kernel_rfl) (by kernel_rfl) (fun _ _ _ h => h) (Or.inl ⟨by rfl, ?hax6⟩) (by assumption) ?_
      case hax6 =>
        intro w hSw
        try dsimp only at hSw
        go_simp
        try with_reducible rfl
      try simp only [Act.put, List.setIfInBounds_toArray, List.set_cons_zero, List.set_cons_succ]
      refine wpAnyH_take (i := 5) (oi := { dst := some 17, op := Go.Op.fieldAddr 26 (Go.Operand.tmp 16) 1, type := 0, pos := "ref.go:139", after := #[{ on := 4, ground := Go.Ground.data }], guard := none }) (v := ?vax7) rfl (by kernel_rfl) (by kernel_rfl) (by kernel_rfl) (fun _ _ _ h => h) (Or.inl ⟨by rfl, ?hax7⟩) (by assumption) ?_
      case hax7 =>
        intro w hSw
        try dsimp only at hSw
        go_simp
        try with_reducible rfl
      try simp only [Act.put, List.setIfInBounds_toArray, List.set_cons_zero, List.set_cons_succ]
      refine wpAnyH_take (i := 6) (oi := { dst := some 18, op := Go.Op.load 24 (Go.Operand.tmp 17), type := 24, pos := "ref.go:139", after := #[{ on := 5, ground := Go.Ground.data }], guard := none }) (v := ?vax8) rfl (by kernel_rfl) (by kernel_rfl) (by kernel_rfl) (fun _ _ _ h => h) (Or.inl ⟨by rfl, ?hax8⟩) (by assumption) ?_
      case hax8 =>
        intro w hSw
        try dsimp only at hSw
        go_simp
        try with_reducible rfl
      try simp only [Act.put, List.setIfInBounds_toArray, List.set_cons_zero, List.set_cons_succ]
      refine wpAnyH_take (i := 7) (oi := { dst := some 19, op := Go.Op.fieldAddr 30 (Go.Operand.tmp 1) 0, type := 0, pos := "ref.go:139", after := #[], guard := none }) (v := ?vax9) rfl (by kernel_rfl) (by kernel_rfl) (by kernel_rfl) (fun _ _ _ h => h) (Or.inl ⟨by rfl, ?hax9⟩) (by assumption) ?_
      case hax9 =>
        intro w hSw
        try dsimp only at hSw
        go_simp
        try with_reducible rfl
      try simp only [Act.put, List.setIfInBounds_toArray, List.set_cons_zero, List.set_cons_succ]
      refine wpAnyH_take (i := 8) (oi := { dst := some 20, op := Go.Op.fieldAddr 26 (Go.Operand.tmp 19) 2, type := 0, pos := "ref.go:139", after := #[{ on := 7, ground := Go.Ground.data }], guard := none }) (v := ?vax10) rfl (by kernel_rfl) (by kernel_rfl) (by kernel_rfl) (fun _ _ _ h => h) (Or.inl ⟨by rfl, ?hax10⟩) (by assumption) ?_
      case hax10 =>
        intro w hSw
        try dsimp only at hSw
        go_simp
        try with_reducible rfl
      try simp only [Act.put, List.setIfInBounds_toArray, List.set_cons_zero, List.set_cons_succ]
      refine wpAnyH_take (i := 9) (oi := { dst := some 21, op := Go.Op.load 24 (Go.Operand.tmp 20), type := 24, pos := "ref.go:139", after := #[{ on := 8, ground := Go.Ground.data }], guard := none }) (v := ?vax11) rfl (by kernel_rfl) (by kernel_rfl) (by kernel_rfl) (fun _ _ _ h => h) (Or.inl ⟨by rfl, ?hax11⟩) (by assumption) ?_
      case hax11 =>
        intro w hSw
        try dsimp only at hSw
        go_simp
        try with_reducible rfl
      try simp only [Act.put, List.setIfInBounds_toArray, List.set_cons_zero, List.set_cons_succ]
      refine wpAnyH_take (i := 10) (oi := { dst := some 22, op := Go.Op.fieldAddr 30 (Go.Operand.tmp 1) 1, type := 0, pos := "ref.go:139", after := #[], guard := none }) (v := ?vax12) rfl (by kernel_rfl) (by kernel_rfl) (by kernel_rfl) (fun _ _ _ h => h) (Or.inl ⟨by rfl, ?hax12⟩) (by assumption) ?_
      case hax12 =>
        intro w hSw
        try dsimp only at hSw
        go_simp
        try with_reducible rfl
      try simp only [Act.put, List.setIfInBounds_toArray, List.set_cons_zero, List.set_cons_succ]
      refine wpAnyH_take (i := 11) (oi := { dst := some 23, op := Go.Op.load 27 (Go.Operand.tmp 22), type := 27, pos := "ref.go:139", after := #[{ on := 10, ground := Go.Ground.data }], guard := none }) (v := ?vax13) rfl (by kernel_rfl) (by kernel_rfl) (by kernel_rfl) (fun _ _ _ h => h) (Or.inl ⟨by rfl, ?hax13⟩) (by assumption) ?_
      case hax13 =>
        intro w hSw
        try dsimp only at hSw
        go_simp
        try with_reducible rfl
      try simp only [Act.put, List.setIfInBounds_toArray, List.set_cons_zero, List.set_cons_succ]
      refine wpAnyH_take (i := 12) (oi := { dst := some 24, op := Go.Op.fieldAddr 30 (Go.Operand.tmp 1) 2, type := 0, pos := "ref.go:139", after := #[], guard := none }) (v := ?vax14) rfl (by kernel_rfl) (by kernel_rfl) (by kernel_rfl) (fun _ _ _ h => h) (Or.inl ⟨by rfl, ?hax14⟩) (by assumption) ?_
      case hax14 =>
        intro w hSw
        try dsimp only at hSw
        go_simp
        try with_reducible rfl
      try simp only [Act.put, List.setIfInBounds_toArray, List.set_cons_zero, List.set_cons_succ]
      refine wpAnyH_take (i := 13) (oi := { dst := some 25, op := Go.Op.load 28 (Go.Operand.tmp 24), type := 28, pos := "ref.go:139", after := #[{ on := 12, ground := Go.Ground.data }], guard := none }) (v := ?vax15) rfl (by kernel_rfl) (by kernel_rfl) (by kernel_rfl) (fun _ _ _ h => h) (Or.inl ⟨by rfl, ?hax15⟩) (by assumption) ?_
      case hax15 =>
        intro w hSw
        try dsimp only at hSw
        go_simp
        try with_reducible rfl
      try simp only [Act.put, List.setIfInBounds_toArray, List.set_cons_zero, List.set_cons_succ]
      refine wpAnyH_take (i := 14) (oi := { dst := some 26, op := Go.Op.move (Go.Operand.tmp 4), type := 3, pos := "ref.go:139", after := #[], guard := none }) (v := ?vax16) rfl (by kernel_rfl) (by kernel_rfl) (by kernel_rfl) (fun _ _ _ h => h) (Or.inl ⟨by rfl, ?hax16⟩) (by assumption) ?_
      case hax16 =>
        intro w hSw
        try dsimp only at hSw
        go_simp
        try with_reducible rfl
      try simp only [Act.put, List.setIfInBounds_toArray, List.set_cons_zero, List.set_cons_succ]
      refine wpAnyH_take (i := 15) (oi := { dst := some 27, op := Go.Op.indexAddr 28 (Go.Operand.tmp 25) (Go.Operand.tmp 26), type := 0, pos := "ref.go:139", after := #[{ on := 13, ground := Go.Ground.data }, { on := 14, ground := Go.Ground.data }], guard := none }) (v := ?vax17) rfl (by kernel_rfl) (by kernel_rfl) (by kernel_rfl) (fun _ _ _ h => h) (Or.inl ⟨by rfl, ?hax17⟩) (by assumption) ?_
      case hax17 =>
        intro w hSw
        try dsimp only at hSw
        go_simp
        try with_reducible rfl
      try simp only [Act.put, List.setIfInBounds_toArray, List.set_cons_zero, List.set_cons_succ]
      refine wpAnyH_take (i := 16) (oi := { dst := some 28, op := Go.Op.load 41 (Go.Operand.tmp 27), type := 41, pos := "ref.go:139", after := #[{ on := 15, ground := Go.Ground.data }], guard := none }) (v := ?vax18) rfl (by kernel_rfl) (by kernel_rfl) (by kernel_rfl) (fun _ _ _ h => h) (Or.inl ⟨by rfl, ?hax18⟩) (by assumption) ?_
      case hax18 =>
        intro w hSw
        try dsimp only at hSw
        go_simp
        try with_reducible rfl
      try simp only [Act.put, List.setIfInBounds_toArray, List.set_cons_zero, List.set_cons_succ]
      refine wpAnyH_take (i := 17) (oi := { dst := some 29, op := Go.Op.build 43 #[(0, Go.Operand.tmp 15), (1, Go.Operand.tmp 18), (2, Go.Operand.tmp 21), (3, Go.Operand.tmp 23), (4, Go.Operand.tmp 28)], type := 43, pos := "ref.go:139", after := #[{ on := 3, ground := Go.Ground.data }, { on := 6, ground := Go.Ground.data }, { on := 9, ground := Go.Ground.data }, { on := 11, ground := Go.Ground.data }, { on := 16, ground := Go.Ground.data }], guard := none }) (v := ?vax19) rfl (by kernel_rfl) (by kernel_rfl) (by kernel_rfl) (fun _ _ _ h => h) (Or.inl ⟨by rfl, ?hax19⟩) (by assumption) ?_
      case hax19 =>
        intro w hSw
        try dsimp only at hSw
        go_simp
        try with_reducible rfl
      try simp only [Act.put, List.setIfInBounds_toArray, List.set_cons_zero, List.set_cons_succ]
      refine wpAnyH_ready (rs := [18]) (by kernel_rfl) (by simp) ?_
      refine AllReadyH.cons (o := { dst := some 30, op := Go.Op.buildSlice 22 1 #[(0, Go.Operand.tmp 29)], type := 22, pos := "ref.go:139", after := #[{ on := 17, ground := Go.Ground.data }], guard := none }) rfl (fun K hK => ?_) AllReadyH.nil
      go_simp
      refine hK.out _ _ ?hax20 (fun hHeld => ?_)
      case hax20 =>
        try dsimp only
        (first | exact HS0.out | exact HS1.out | exact HS2.out)
      clear hK K
      try simp only [Act.put, List.setIfInBounds_toArray, List.set_cons_zero, List.set_cons_succ]
      refine wpAnyH_ready (rs := [19]) (by kernel_rfl) (by simp) ?_
      refine AllReadyH.cons (o := { dst := some 31, op := Go.Op.call { callee := Go.Callee.builtin Go.Builtin.append, args := #[Go.Operand.tmp 12, Go.Operand.tmp 30], argTypes := #[22, 22] }, type := 22, pos := "ref.go:139", after := #[{ on := 0, ground := Go.Ground.data }, { on := 18, ground := Go.Ground.data }], guard := none }) rfl (fun K hK => ?_) AllReadyH.nil
      (first | (refine r5_append_run (.tmp 12) (.tmp 30) 22 22 rfl _ _ rfl rfl HR8.out ?_))
      refine hK.out _ _ ?hax21 (fun hHeld => ?_)
      case hax21 =>
        try dsimp only
        (first | exact HS0.out | exact HS1.out | exact HS2.out)
      clear hK K
      try simp only [Act.put, List.setIfInBounds_toArray, List.set_cons_zero, List.set_cons_succ]
      refine wpAnyH_take (i := 20) (oi := { dst := some 3, op := Go.Op.assign (Go.Operand.tmp 31), type := 22, pos := "ref.go:139", after := #[{ on := 19, ground := Go.Ground.data }, { on := 19, ground := Go.Ground.chain }, { on := 0, ground := Go.Ground.phase }, { on := 1, ground := Go.Ground.phase }, { on := 2, ground := Go.Ground.phase }, { on := 3, ground := Go.Ground.phase }, { on := 4, ground := Go.Ground.phase }, { on := 5, ground := Go.Ground.phase }, { on := 6, ground := Go.Ground.phase }, { on := 7, ground := Go.Ground.phase }, { on := 8, ground := Go.Ground.phase }, { on := 9, ground := Go.Ground.phase }, { on := 10, ground := Go.Ground.phase }, { on := 11, ground := Go.Ground.phase }, { on := 12, ground := Go.Ground.phase }, { on := 13, ground := Go.Ground.phase }, { on := 14, ground := Go.Ground.phase }, { on := 15, ground := Go.Ground.phase }, { on := 16, ground := Go.Ground.phase }, { on := 17, ground := Go.Ground.phase }, { on := 18, ground := Go.Ground.phase }, { on := 19, ground := Go.Ground.phase }], guard := none }) (v := ?vax22) rfl (by kernel_rfl) (by kernel_rfl) (by kernel_rfl) (fun _ _ _ h => h) (Or.inl ⟨by rfl, ?hax22⟩) (by assumption) ?_
      case hax22 =>
        intro w hSw
        try dsimp only at hSw
        go_simp
        try with_reducible rfl
      try simp only [Act.put, List.setIfInBounds_toArray, List.set_cons_zero, List.set_cons_succ]
      refine wpAnyH_done (by kernel_rfl) ?_ _
      refine NoPanic.normal ?_
      go_wp2_with fail
      go_roundw
      case rel => exact ⟨i + 1, by go_num, by omega, by rw [HTK.out]; exact HO8.out, HH8.out, HB8.out⟩
      case measure => simp [intOf]; omega
    · obtain rfl : i = ds.length := by omega
      have HX := HO.out
      rw [List.take_of_length_le (Nat.le_refl _)] at HX
      have HY := Lib.hid HX
      clear HX HO
      go_wp2
      go_ret
      exact ⟨_, rfl, HY.out.1, HY.out.2.2⟩
end Go.Proofs.YtmieakkhpkclpaaDoor
/- The records of a set that came in: the program's. -/
namespace Go.Proofs.YtmieakkhpkclpaaDoor
open Go.RowKit Go.Sort Go.Shelf

set_option maxHeartbeats 2000000 in
set_option maxRecDepth 100000 in
theorem recordsG_any (q : Kv) (ttl : Nat) (A : Option Addr) (ds : List Dv) (cd : Nat) (w : World) (_ : ds.length ≤ cd) (hrow : Srow dcl 8 w 0 w.heap.size A ds) (hn : ds.length ≤ 4294967296) :
    Calls Tryd.prog 10 #[.agg #[.string q.nm, .int .u16 q.ty, .int .u16 q.cl, .int .u32 ttl, .slice A ds.length cd]] w fun e w' => ∃ g, e = .returned (.slice (some ⟨g, 0, none⟩) ds.length ds.length) ∧ w.heap.size ≤ g ∧ Has w' g 43 (flatK rcl 12 (ds.map fun d => (⟨q.nm, q.ty, q.cl, ttl, d⟩ : Rv)).toArray) ∧ Below w.heap.size w w' := by
  have hi12 : (Tryd.prog.info? 43).map (·.size) = some 12 := by kernel_rfl
  have HI := Lib.hid hi12
  have hi8 : (Tryd.prog.info? 41).map (·.size) = some 8 := by kernel_rfl
  have HI8 := Lib.hid hi8
  clear hi12 hi8
  obtain ⟨ti, ht1, ht2, ht3, ht4⟩ : ∃ i, Tryd.prog.info? 43 = some i ∧ i.zero = some (.agg (rcl default).toArray) ∧ i.size = 12 ∧ i.bytes = 96 := ⟨_, rfl, by kernel_rfl, by kernel_rfl, by kernel_rfl⟩
  have HT := Lib.hid (And.intro ht1 (And.intro ht2 (And.intro ht3 ht4)))
  clear ht1 ht2 ht3 ht4
  obtain ⟨kn, kt, kc⟩ := q
  have HROW := Lib.hid hrow
  clear hrow
  dsimp only
  have HS0 : Hid (Has (w.alloc (.cells #[.string kn, .int .u16 kt, .int .u16 kc, .int .u32 ttl, .slice A ds.length cd] 30)) w.heap.size 30 #[.string kn, .int .u16 kt, .int .u16 kc, .int .u32 ttl, .slice A ds.length cd]) := Has.fresh w _ _
  have HB0 : Hid (Below w.heap.size w (w.alloc (.cells #[.string kn, .int .u16 kt, .int .u16 kc, .int .u32 ttl, .slice A ds.length cd] 30))) := (Below.refl _ _).alloc (Nat.le_refl _) _
  go_enter Tryd.func10, Tryd.ntmps10
  go_wp2_with (refine wpList_make_structs rfl (.tmp 8) (.tmp 8) 22 rfl rcl_len default 43 ti _ 96 Tryd.underlying22 HT.out.1 HT.out.2.1 rfl HT.out.2.2.1 HT.out.2.2.2 .i64 .i64 _ _ ds.length ds.length rfl rfl rfl rfl (Nat.le_refl _) (by omega) (by omega) ?_
               generalize w.alloc _ = wa at HS0 HB0 ⊢
               intro w1 hX1 B1 hs1
               have HS1 := Lib.hid (HS0.out.below B1 HS0.out.lt)
               have HB1 := Lib.hid (HB0.out.trans (B1.mono HB0.out.size))
               have HGL : Hid (w.heap.size < wa.heap.size) := HS0.out.lt
               have HGW : Hid (wa.heap.size < w1.heap.size) := (by rw [Hid, hs1]; omega)
               generalize wa.heap.size = gl at hX1 HGL HGW ⊢
               have HX1 := Lib.hid hX1
               have c4 : w1.cell? ⟨w.heap.size, 4, none⟩ = some (.slice A ds.length cd) := HS1.out.cell 4
               clear hX1 B1 hs1 HS0 HB0)
  clear c4
  go_loopw [13] (fun i wr => ∃ k : Nat, i = .int .i64 k ∧ k ≤ ds.length ∧ Hid (Has wr gl 43 (flatK rcl 12 (upTo (fun d => (⟨kn, kt, kc, ttl, d⟩ : Rv)) ds k))) ∧ Hid (Has wr w.heap.size 30 #[.string kn, .int .u16 kt, .int .u16 kc, .int .u32 ttl, .slice A ds.length cd]) ∧ Hid (Below w.heap.size w wr) ∧ Hid (gl < wr.heap.size)) (fun i _ => ds.length - (intOf i).toNat)
  case atStart => exact ⟨0, rfl, by omega, by rw [upTo_zero]; exact HX1, HS1, HB1, HGW⟩
  case round =>
    obtain ⟨k, rfl, hk, HX, HS, HB, HG⟩ := hrel
    have hg2 := HG.out
    have hgl := HGL.out
    have hwr := HB.out.size
    by_cases hlt : k < ds.length
    · obtain ⟨gd, od, hA, _, hgd, hc1⟩ := HROW.out.at_ hlt
      subst hA
      have hc2 := Lib.hid (range_below HB.out hgd hc1)
      clear hc1
      have hst := upTo_set (f := fun d => (⟨kn, kt, kc, ttl, d⟩ : Rv)) ds hlt
      have hkd : k < (upTo (fun d => (⟨kn, kt, kc, ttl, d⟩ : Rv)) ds k).size := by rw [upTo_size ds hk]; exact hlt
      have HKD := Lib.hid hkd
      have HST := Lib.hid hst
      clear hst hkd
      generalize ds[k] = d at *
      obtain ⟨ra, ho, ma, n0, n1, n2, n3, n4⟩ := d
      go_wp2_with (first
        | (refine wpList_load_mid rfl 41 (.tmp 16) rfl gd _ rfl (dcl ⟨ra, ho, ma, n0, n1, n2, n3, n4⟩) _ hc2.out Tryd.underlying41 rfl HI8.out ?_)
        | (refine wpList_store_boxed rfl 41 (.tmp 5) (.tmp 17) rfl 41 _ #[.string ra, .string ho, .string ma, .int .u32 n0, .int .u32 n1, .int .u32 n2, .int .u32 n3, .int .u32 n4] rfl rfl HI8.out rfl (dv_one ⟨ra, ho, ma, n0, n1, n2, n3, n4⟩) ?_
           intro w2 hY g2 hs2
           have HY2 := Lib.hid hY
           have HX2 := Lib.hid (HX.out.grown g2 (by simp))
           have HS2 := Lib.hid (HS.out.grown g2 (by simp))
           have HB2 := Lib.hid (grown_none g2 HB.out hwr)
           obtain ⟨k0, k1, k2, k3, _⟩ := five HS2.out
           clear hY g2)
        | (refine wpList_load_row rfl 41 (.tmp 5) rfl wr.heap.size rfl 41 #[.string ra, .string ho, .string ma, .int .u32 n0, .int .u32 n1, .int .u32 n2, .int .u32 n3, .int .u32 n4] (0, 0) _ HY2.out Tryd.underlying41 rfl HI8.out ?_)
        | (refine wpList_store_elem rfl 43 (.tmp 33) (.tmp 32) rfl rcl_len rcl_one gl k 43 _ (⟨kn, kt, kc, ttl, ⟨ra, ho, ma, n0, n1, n2, n3, n4⟩⟩ : Rv) HX2.out HKD.out rfl rfl HI.out ?_
           rw [HST.out]
           intro w4 hX4 g4 hs4
           have HX4 := Lib.hid hX4
           have HS4 := Lib.hid (HS2.out.grown g4 (by simp; omega))
           have HB4 := Lib.hid (HB2.out.grown g4 (by omega) (fun k e => by injection e with e; omega))
           clear hX4 g4))
      go_roundw
      case rel => exact ⟨k + 1, by go_num, by omega, HX4, HS4, HB4, by rw [Hid]; omega⟩
      case measure => simp [intOf]; omega
    · obtain rfl : k = ds.length := by omega
      rw [upTo_all] at HX
      go_wp2
      go_ret
      exact ⟨gl, rfl, Nat.le_of_lt HGL.out, HX.out, HB.out⟩
end Go.Proofs.YtmieakkhpkclpaaDoor
