/- Texts of the proofs, merged. -/
import Derived.Test.YtgcaephfhfkjcaaGreatDoorZm27
import Derived.Test.YtgcaephfhfkjcaaGreatDoorZm15
import Derived.Deep.RegionHeld3
import Derived.Test.YtgcaephfhfkjcaaGreatDoorZm17
import Derived.Test.YtgcaephfhfkjcaaGreatDoorZm4
import Derived.Test.YtgcaephfhfkjcaaGreatDoorZm26
import Derived.Calls
import Derived.Below
import Derived.Deep.Draws
import Derived.Sort.Grow
import Derived.Test.YtgcaephfhfkjcaaGreatDoorZm2
import Derived.Deep.MidRow
import Derived.Laws.CopyRow
import Derived.Shelf.SlSortCmp.NoneTotal
namespace Go.Proofs.YtgcaephfhfkjcaaGreatDoor
open Go.RowKit

theorem Mp.words_len (r : Rv) (ht : r.ty ≤ 65535) (hf : r.d.fits) (hl : r.ttl ≤ 4294967295) (hok : Rd.ok r.ty r.d.dt = true) : (Lib.join (Mp.words r) [32]).length ≤ 16000000000000 := by
  have h1 := text_few (Nm.fold r.nm.data.toList)
  have h2 := Mp.dec_few hl
  have h3 := Mp.tyText_few ht
  have h4 := shS_len r.ty (r.d.fold r.ty) (fun k => by
    have := hf k
    unfold Dv.fold
    exact this) (by rw [Rd.ok_fold]; exact hok)
  unfold Mp.words
  rw [Mp.join5]
  simp only [List.length_append, List.length_cons, List.length_nil]
  omega
theorem five_cells {W : World} {g : Nat} {t : TypeId} {a b c d e : List UInt8} (h : Has W g t #[sv a, sv b, sv c, sv d, sv e]) : ∀ (j : Nat) (x : List UInt8), [a, b, c, d, e][j]? = some x → W.cell? ⟨g, j, none⟩ = some (sv x) := by
  intro j x hx
  rw [h.cell]
  rcases j with _ | _ | _ | _ | _ | j
  all_goals first
    | (simp at hx; done)
    | (simp at hx; subst hx; rfl)
set_option maxHeartbeats 400000 in
set_option maxRecDepth 100000 in
theorem sfmtU10_any (u : Nat) (w : World) (hu64 : u < 18446744073709551616) (hL : LayP w) :
    Calls Tryz.prog 43 #[.int .u64 u, .int .i64 10] w fun e w' => e = .returned (sv (Rd.dec u)) ∧ Below w.heap.size w w' := by
  have HF := Lib.hid (fmtU10_any u w hu64 hL)
  clear hu64 hL
  generalize Rd.dec u = T at *
  go_enter Tryz.func43, Tryz.ntmps43
  go_wp2_with (go_at_call 71; refine HF.out.mono ?_; rintro e w1 ⟨rfl, B1⟩; have HB1 := Lib.hid B1; clear B1)
  go_ret
  exact ⟨rfl, HB1.out⟩
set_option maxHeartbeats 1000000 in
set_option maxRecDepth 100000 in
theorem recLine_any (r : Rv) (w : World) (ht : r.ty ≤ 65535) (hl : r.ttl ≤ 4294967295) (hL : LayA w) (hf : r.d.fits) (hs : r.short) (hr : r.d.raw.size ≤ 8796093022208) (hok : Rd.ok r.ty r.d.dt = true) :
    Calls Tryz.prog 24 #[r.val] w fun e w' => e = .returned (sv (Mp.lineL r)) ∧ Below w.heap.size w w' := by
  have hwl := Mp.words_len r ht hf hl hok
  have hLL := Lib.hid hL
  have HTX := Lib.hid (fun W : World => msmall_any r.nm W hs.1)
  have HDC := Lib.hid (fun (W : World) (h : LayP W) => sfmtU10_any r.ttl W (by omega) h)
  have HTY := Lib.hid (fun (W : World) (h : LayA W) => TypeText_any r.ty W ht h)
  have HFO := Lib.hid (fun (W : World) (h : LayR W) => pdFold_any r.ty r.d W ht h hs.2.1 hs.2.2)
  have hff : (r.d.fold r.ty).fits := fun k => hf k
  have HSH : Hid (∀ W : World, LayA W → Calls Tryz.prog 41 #[.int .u16 r.ty, (r.d.fold r.ty).val] W fun e W' => e = .returned (.tuple #[sv (shS r.ty (r.d.fold r.ty) (txs (r.d.fold r.ty))), .int .i64 0]) ∧ Below W.heap.size W W') := fun W h => by
    have hz : (r.d.fold r.ty).raw.size ≤ 8796093022208 := hr
    have h1 : (r.d.fold r.ty).host.size ≤ 140737488355328 := by
      unfold Dv.fold
      dsimp only
      split
      · rw [folded_size]; exact hs.2.1
      · exact hs.2.1
    have h2 : (r.d.fold r.ty).mail.size ≤ 140737488355328 := by
      unfold Dv.fold
      dsimp only
      split
      · rw [folded_size]; exact hs.2.2
      · exact hs.2.2
    have := pdShow_any r.ty (r.d.fold r.ty) W ht h hff hz h1 h2
    unfold shV at this
    rw [Rd.ok_fold, if_pos hok] at this
    exact this
  have hln : Mp.lineL r = Lib.join [Nm.text (Nm.fold r.nm.data.toList), Rd.dec r.ttl, [73, 78], Rd.tyText r.ty, shS r.ty (r.d.fold r.ty) (txs (r.d.fold r.ty))] [32] ++ [10] := rfl
  unfold Mp.words at hwl
  rw [hln]
  have HLI : Hid (∀ (W : World) (g : Nat), (∀ (j : Nat) (x : List UInt8), [Nm.text (Nm.fold r.nm.data.toList), Rd.dec r.ttl, [73, 78], Rd.tyText r.ty, shS r.ty (r.d.fold r.ty) (txs (r.d.fold r.ty))][j]? = some x → W.cell? ⟨g, j, none⟩ = some (sv x)) → g < W.heap.size → Calls Tryz.prog 22 #[.slice (some ⟨g, 0, none⟩) 5 5] W fun e w' => e = .returned (sv (Lib.join [Nm.text (Nm.fold r.nm.data.toList), Rd.dec r.ttl, [73, 78], Rd.tyText r.ty, shS r.ty (r.d.fold r.ty) (txs (r.d.fold r.ty))] [32] ++ [10])) ∧ Below W.heap.size W w') := fun W g h hg => mline_any g _ W h hg (by simp) (by omega)
  have iu : IntKind.u64.wrap (r.ttl : Int) = (r.ttl : Int) := by rw [IntKind.wrap_u64]; omega
  clear hwl hff hf hr hok hln
  generalize Lib.join [Nm.text (Nm.fold r.nm.data.toList), Rd.dec r.ttl, [73, 78], Rd.tyText r.ty, shS r.ty (r.d.fold r.ty) (txs (r.d.fold r.ty))] [32] ++ [10] = J at *
  generalize shS r.ty (r.d.fold r.ty) (txs (r.d.fold r.ty)) = T at *
  generalize Nm.text (Nm.fold r.nm.data.toList) = T1 at *
  generalize r.d.fold r.ty = D at *
  obtain ⟨nm, ty, cl, ttl, b0, b1, b2, m0, m1, m2, m3, m4⟩ := r
  obtain ⟨e0, e1, e2, q0, q1, q2, q3, q4⟩ := D
  dsimp only at *
  unfold Rv.val Rv.cells
  dsimp only [Dv.val] at HFO HSH ⊢
  generalize Rd.dec ttl = T2 at *
  generalize Rd.tyText ty = T3 at *
  clear hs ht hl
  have hX0 := Has.fresh w 36 #[.string nm, .int .u16 ty, .int .u16 cl, .int .u32 ttl, .string b0, .string b1, .string b2, .int .u32 m0, .int .u32 m1, .int .u32 m2, .int .u32 m3, .int .u32 m4]
  have HB0 : Hid (Below w.heap.size w (w.alloc (.cells #[.string nm, .int .u16 ty, .int .u16 cl, .int .u32 ttl, .string b0, .string b1, .string b2, .int .u32 m0, .int .u32 m1, .int .u32 m2, .int .u32 m3, .int .u32 m4] 36))) := (Below.refl _ _).alloc (Nat.le_refl _) _
  go_enter Tryz.func24, Tryz.ntmps24
  go_wp2
  revert HB0 hX0
  generalize w.alloc _ = w0
  intro HX HB0
  have c0 : w0.cell? ⟨w.heap.size, 0, none⟩ = some (.string nm) := by rw [HX.cell]; rfl
  have c1 : w0.cell? ⟨w.heap.size, 1, none⟩ = some (.int .u16 ty) := by rw [HX.cell]; rfl
  have c3 : w0.cell? ⟨w.heap.size, 3, none⟩ = some (.int .u32 ttl) := by rw [HX.cell]; rfl
  have c4 : w0.cell? ⟨w.heap.size, 4, none⟩ = some (.string b0) := by rw [HX.cell]; rfl
  have c5 : w0.cell? ⟨w.heap.size, 5, none⟩ = some (.string b1) := by rw [HX.cell]; rfl
  have c6 : w0.cell? ⟨w.heap.size, 6, none⟩ = some (.string b2) := by rw [HX.cell]; rfl
  have c7 : w0.cell? ⟨w.heap.size, 7, none⟩ = some (.int .u32 m0) := by rw [HX.cell]; rfl
  have c8 : w0.cell? ⟨w.heap.size, 8, none⟩ = some (.int .u32 m1) := by rw [HX.cell]; rfl
  have c9 : w0.cell? ⟨w.heap.size, 9, none⟩ = some (.int .u32 m2) := by rw [HX.cell]; rfl
  have c10 : w0.cell? ⟨w.heap.size, 10, none⟩ = some (.int .u32 m3) := by rw [HX.cell]; rfl
  have c11 : w0.cell? ⟨w.heap.size, 11, none⟩ = some (.int .u32 m4) := by rw [HX.cell]; rfl
  have hB := HB0.out
  clear HX HB0
  go_region_held3 (fun W => W.cell? ⟨w.heap.size, 0, none⟩ = some (.string nm) ∧ W.cell? ⟨w.heap.size, 1, none⟩ = some (.int .u16 ty) ∧ W.cell? ⟨w.heap.size, 3, none⟩ = some (.int .u32 ttl) ∧ W.cell? ⟨w.heap.size, 4, none⟩ = some (.string b0) ∧ W.cell? ⟨w.heap.size, 5, none⟩ = some (.string b1) ∧ W.cell? ⟨w.heap.size, 6, none⟩ = some (.string b2) ∧ W.cell? ⟨w.heap.size, 7, none⟩ = some (.int .u32 m0) ∧ W.cell? ⟨w.heap.size, 8, none⟩ = some (.int .u32 m1) ∧ W.cell? ⟨w.heap.size, 9, none⟩ = some (.int .u32 m2) ∧ W.cell? ⟨w.heap.size, 10, none⟩ = some (.int .u32 m3) ∧ W.cell? ⟨w.heap.size, 11, none⟩ = some (.int .u32 m4) ∧ Below w.heap.size w W)
    (first
      | (exact ⟨c0, c1, c3, c4, c5, c6, c7, c8, c9, c10, c11, hB.drew⟩)
      | (go_keep; done)
      | (go_split_ands
         try dsimp only
         refine ⟨keep_cell hbW (by assumption), keep_cell hbW (by assumption), keep_cell hbW (by assumption), keep_cell hbW (by assumption), keep_cell hbW (by assumption), keep_cell hbW (by assumption), keep_cell hbW (by assumption), keep_cell hbW (by assumption), keep_cell hbW (by assumption), keep_cell hbW (by assumption), keep_cell hbW (by assumption), keep_below hbW (by assumption) (Nat.le_refl _)⟩))
    (first
      | (go_split_ands; go_at_call 42
         refine (HFO.out _ (LayR.below hLL.out.1 (by assumption) (Nat.le_refl _))).mono ?_
         rintro e W1 ⟨rfl, hbW⟩)
      | (go_split_ands; go_at_call 41
         refine (HSH.out _ (LayA.below hLL.out (by assumption) (Nat.le_refl _))).mono ?_
         rintro e W1 ⟨rfl, hbW⟩))
  rename_i hh
  have d0 := hh.1
  have d1 := hh.2.1
  have d3 := hh.2.2.1
  have HW := hh.2.2.2.2.2.2.2.2.2.2.2
  clear hh c0 c1 c3 c4 c5 c6 c7 c8 c9 c10 c11 hB hbW
  go_wp2
  go_region_held3 (fun W => W.cell? ⟨w.heap.size, 0, none⟩ = some (.string nm) ∧ W.cell? ⟨w.heap.size, 1, none⟩ = some (.int .u16 ty) ∧ W.cell? ⟨w.heap.size, 3, none⟩ = some (.int .u32 ttl) ∧ Below w.heap.size w W)
    (first
      | (exact ⟨d0, d1, d3, HW.drew⟩)
      | (go_keep; done)
      | (go_split_ands
         try dsimp only
         refine ⟨keep_cell hbW (by assumption), keep_cell hbW (by assumption), keep_cell hbW (by assumption), keep_below hbW (by assumption) (Nat.le_refl _)⟩)
      | (go_split_ands
         try dsimp only
         refine ⟨keep_cell ((Below.refl _ _).alloc (Nat.le_refl _) _) (by assumption), keep_cell ((Below.refl _ _).alloc (Nat.le_refl _) _) (by assumption), keep_cell ((Below.refl _ _).alloc (Nat.le_refl _) _) (by assumption), keep_below ((Below.refl _ _).alloc (Nat.le_refl _) _) (by assumption) (Nat.le_refl _)⟩))
    (first
      | (go_at_call 23
         refine (HTX.out _).mono ?_
         rintro e W1 ⟨rfl, hbW⟩)
      | (go_split_ands; go_at_call 43
         refine (HDC.out _ (LayP.below hLL.out.2.1 (by assumption) (Nat.le_refl _))).mono ?_
         rintro e W1 ⟨rfl, hbW⟩)
      | (go_split_ands; go_at_call 44
         refine (HTY.out _ (LayA.below hLL.out (by assumption) (Nat.le_refl _))).mono ?_
         rintro e W1 ⟨rfl, hbW⟩)
      | (go_at_call 22
         refine (HLI.out _ _ (five_cells (Has.fresh _ _ _)) (by simp)).mono ?_
         rintro e W1 ⟨rfl, hbW⟩))
  rename_i hh
  have HW2 := Lib.hid hh.2.2.2
  clear hh d0 d1 d3 HW hbW
  go_wp2
  go_ret
  exact ⟨rfl, HW2.out⟩
end Go.Proofs.YtgcaephfhfkjcaaGreatDoor
namespace Go.Proofs.YtgcaephfhfkjcaaGreatDoor
open Go.RowKit

theorem dig10 : ∀ n : Fin 10, (⟨#[48, 49, 50, 51, 52, 53, 54, 55, 56, 57]⟩ : ByteArray).extract n.1 (n.1 + 1) = ⟨#[UInt8.ofNat (48 + n.1)]⟩ := by decide
set_option maxHeartbeats 1000000 in
set_option maxRecDepth 100000 in
theorem decimal_small {n : Nat} (w : World) (h10 : n < 10) : Calls Tryz.prog 48 #[.int .u32 n] w fun e w' => e = .returned (sv (Rd.dec n)) ∧ Below w.heap.size w w' := by
  have HD := Lib.hid (dig10 ⟨n, h10⟩)
  have HR := Lib.hid (Rd.dec_small h10)
  have i0 : (n : Int) < 10 := by omega
  have i1 : IntKind.u32.wrap ((n : Int) + 1) = (n : Int) + 1 := by rw [IntKind.wrap_u32]; omega
  have i2 : (n : Int) + 1 ≤ 10 := by omega
  go_enter Tryz.func48, Tryz.ntmps48
  go_wp2
  go_ret
  refine ⟨?_, Below.refl _ _⟩
  rw [HR.out]
  exact congrArg (fun s => Ending.returned (.string s)) HD.out
set_option maxHeartbeats 1000000 in
set_option maxRecDepth 100000 in
theorem decimal_step : ∀ (k n : Nat) (w : World), n < 10 ^ (k + 1) → n ≤ 4294967295 →
    Calls Tryz.prog 48 #[.int .u32 n] w fun e w' => e = .returned (sv (Rd.dec n)) ∧ Below w.heap.size w w' := by
  intro k
  induction k with
  | zero =>
    intro n w hn h32
    exact decimal_small w (by simpa using hn)
  | succ k ih =>
    intro n w hn h32
    by_cases h10 : n < 10
    · exact decimal_small w h10
    · have hq : n / 10 < 10 ^ (k + 1) := by
        rw [Nat.pow_succ] at hn
        omega
      have hm : n % 10 < 10 := Nat.mod_lt _ (by decide)
      have HIH := Lib.hid (fun W => ih (n / 10) W hq (by omega))
      have HD := Lib.hid (dig10 ⟨n % 10, hm⟩)
      have HR := Lib.hid (Rd.dec_more h10)
      have HLN : Hid ((Rd.dec (n / 10)).length ≤ 4294967296) := Nat.le_trans (Rd.dec_len _) (by omega)
      have i0 : ¬ (n : Int) < 10 := by omega
      have e1 : Int.tdiv (n : Int) 10 = ((n / 10 : Nat) : Int) := by rw [Int.tdiv_eq_ediv_of_nonneg (by omega)]; omega
      have e2 : Int.tmod (n : Int) 10 = ((n % 10 : Nat) : Int) := by rw [Int.tmod_eq_emod_of_nonneg (by omega)]; omega
      obtain ⟨q, hqq⟩ : ∃ q, n / 10 = q := ⟨_, rfl⟩
      obtain ⟨m, hmm⟩ : ∃ m, n % 10 = m := ⟨_, rfl⟩
      have hq32 : q ≤ 429496729 := by omega
      rw [hqq] at e1 HIH HLN HR
      rw [hmm] at e2 hm HR
      have HD2 : Hid ((⟨#[48, 49, 50, 51, 52, 53, 54, 55, 56, 57]⟩ : ByteArray).extract m (m + 1) = ⟨#[UInt8.ofNat (48 + m)]⟩) := by
        have := HD.out
        simp only [hmm] at this
        exact this
      have i1 : IntKind.u32.wrap ((m : Int) + 1) = (m : Int) + 1 := by rw [IntKind.wrap_u32]; omega
      have i2 : (m : Int) + 1 ≤ 10 := by omega
      have i3 : IntKind.u32.wrap (q : Int) = (q : Int) := by rw [IntKind.wrap_u32]; omega
      have i4 : IntKind.u32.wrap (m : Int) = (m : Int) := by rw [IntKind.wrap_u32]; omega
      obtain ⟨ds, hds⟩ : ∃ ds, Rd.dec q = ds := ⟨_, rfl⟩
      rw [hds] at HIH HLN HR
      have hx := HD2.out
      have hsz : (⟨ds.toArray⟩ : ByteArray).size ≤ 4294967296 := by rw [mk_size]; exact HLN.out
      have hlong : ¬ 9223372036854775807 < List.length ds + 1 := by have h9 : List.length ds ≤ 4294967296 := HLN.out; omega
      have i5 : (0 : Int) ≤ (m : Int) := by omega
      have i6 : (m : Int) ≤ (m : Int) + 1 := by omega
      have i7 : (0 : Int) ≤ (m : Int) + 1 := by omega
      have i8 : ((m : Int) + 1).toNat = m + 1 := by omega
      have i9 : (0 : Int) ≤ (m : Int) + 1 ∧ (m : Int) + 1 ≤ 10 := ⟨i7, i2⟩
      have hdl : ds.length ≤ 4294967296 := HLN.out
      clear hn h32 h10 hq ih HD hqq hmm hds
      go_enter Tryz.func48, Tryz.ntmps48
      go_wp2
      go_region_held3 (fun W => Below w.heap.size w W)
        (first
          | (go_keep; done)
          | (try dsimp only
             first | exact (Below.refl _ _).drew | exact Below.refl _ _ | go_keep)
          | (go_split_ands
             try dsimp only
             exact Below.trans (by assumption) (hb1.mono (Below.size (by assumption)))))
        (first
          | (go_at_call 48; refine (HIH.out _).mono ?_; rintro e W1 ⟨rfl, hb1⟩))
      go_wp2
      go_ret
      refine ⟨?_, by assumption⟩
      rw [HR.out]
      have e : UInt8.ofNat (48 + m) = 48 + UInt8.ofNat m := by rw [UInt8.ofNat_add]; rfl
      rw [e]
      refine congrArg (fun s => Ending.returned (.string s)) ?_
      exact ByteArray.ext (by simp)
theorem decimal_any (n : Nat) (w : World) (h : n ≤ 4294967295) : Calls Tryz.prog 48 #[.int .u32 n] w fun e w' => e = .returned (sv (Rd.dec n)) ∧ Below w.heap.size w w' :=
  decimal_step 9 n w (by omega) h
end Go.Proofs.YtgcaephfhfkjcaaGreatDoor
namespace Go.Proofs.YtgcaephfhfkjcaaGreatDoor
open Go.RowKit

set_option maxHeartbeats 400000 in
set_option maxRecDepth 100000 in
theorem r5Fold_any (r : Rv) (w : World) (ht : r.ty ≤ 65535) (hs : r.short) :
    Calls Tryz.prog 15 #[r.val] w fun e w' => e = .returned r.fold.val ∧ Below w.heap.size w w' := by
  have HN := Lib.hid (fun W : World => refFold_any r.nm W hs.1)
  have HD := Lib.hid (fun (W : World) => (show Calls Tryz.prog 34 #[.int .u16 r.ty, .agg r.d.cells] W (fun e w' => e = .returned (.agg (r.d.fold r.ty).cells) ∧ Below W.heap.size W w') from rdFold_any r.ty r.d W ht hs.2.1 hs.2.2))
  have hf : r.fold = { r with nm := ⟨(Nm.fold r.nm.data.toList).toArray⟩, d := r.d.fold r.ty } := rfl
  generalize (⟨(Nm.fold r.nm.data.toList).toArray⟩ : ByteArray) = N at *
  generalize r.d.fold r.ty = D at *
  obtain ⟨R, hR⟩ : ∃ R, r.fold = R := ⟨_, rfl⟩
  rw [hR]
  rw [hR] at hf
  have HRES := Lib.hid hf
  clear hR hf
  clear hs ht
  have hval : r.val = .agg r.cells := rfl
  have hd8 : ∀ d : Dv, d.val = .agg d.cells := fun _ => rfl
  have hi12 : (Tryz.prog.info? 36).map (·.size) = some 12 := by kernel_rfl
  have HI := Lib.hid hi12
  have hi8 : (Tryz.prog.info? 34).map (·.size) = some 8 := by kernel_rfl
  have HI8 := Lib.hid hi8
  clear hi12 hi8
  have HX0 : Hid (Has ((w.alloc (.cells r.cells 36)).alloc (.cells #[.string ⟨#[]⟩, .int .u16 0, .int .u16 0, .int .u32 0, .string ⟨#[]⟩, .string ⟨#[]⟩, .string ⟨#[]⟩, .int .u32 0, .int .u32 0, .int .u32 0, .int .u32 0, .int .u32 0] 36)) w.heap.size 36 r.cells) := (Has.fresh w _ _).alloc _
  have HZ0 : Hid (Has ((w.alloc (.cells r.cells 36)).alloc (.cells #[.string ⟨#[]⟩, .int .u16 0, .int .u16 0, .int .u32 0, .string ⟨#[]⟩, .string ⟨#[]⟩, .string ⟨#[]⟩, .int .u32 0, .int .u32 0, .int .u32 0, .int .u32 0, .int .u32 0] 36)) (w.heap.size + 1) 36 #[.string ⟨#[]⟩, .int .u16 0, .int .u16 0, .int .u32 0, .string ⟨#[]⟩, .string ⟨#[]⟩, .string ⟨#[]⟩, .int .u32 0, .int .u32 0, .int .u32 0, .int .u32 0, .int .u32 0]) := by
    have h := Has.fresh (w.alloc (.cells r.cells 36)) 36 #[.string ⟨#[]⟩, .int .u16 0, .int .u16 0, .int .u32 0, .string ⟨#[]⟩, .string ⟨#[]⟩, .string ⟨#[]⟩, .int .u32 0, .int .u32 0, .int .u32 0, .int .u32 0, .int .u32 0]
    have e : (w.alloc (.cells r.cells 36)).heap.size = w.heap.size + 1 := by simp
    rw [e] at h
    exact h
  have HB0 : Hid (Below w.heap.size w ((w.alloc (.cells r.cells 36)).alloc (.cells #[.string ⟨#[]⟩, .int .u16 0, .int .u16 0, .int .u32 0, .string ⟨#[]⟩, .string ⟨#[]⟩, .string ⟨#[]⟩, .int .u32 0, .int .u32 0, .int .u32 0, .int .u32 0, .int .u32 0] 36))) := ((Below.refl _ _).alloc (Nat.le_refl _) _).alloc (by simp) _
  have c0 := rv_nm HX0.out
  go_enter Tryz.func15, Tryz.ntmps15
  go_wp2_with (first
    | (go_at_call 28
       refine (HN.out _).mono ?_
       rintro e w1 ⟨rfl, B1⟩
       have hs1 := B1.size
       simp only [World.size_alloc] at hs1
       have HX1 := Lib.hid (HX0.out.below B1 (by simp; omega))
       have HZ1 := Lib.hid (HZ0.out.below B1 (by simp))
       have HB1 := Lib.hid (HB0.out.trans (B1.mono (by simp; omega)))
       have c1 := rv_nm HX1.out
       have f1 := HX1.out.free 0
       have HX2 : Hid (Has (w1.setCell ⟨w.heap.size, 0, none⟩ (.string N)) w.heap.size 36 ({ r with nm := N } : Rv).cells) := HX1.out.set 0 _
       have c2 : (w1.setCell ⟨w.heap.size, 0, none⟩ (.string N)).cell? ⟨w.heap.size, 1, none⟩ = some (.int .u16 r.ty) := (by have h := rv_ty HX2.out; exact h)
       clear B1)
    | (refine wpList_load_mid rfl 34 (.tmp 9) rfl w.heap.size 4 rfl r.d.cells.toList _ (by have h := rv_data HX2.out; exact h) Tryz.underlying34 rfl HI8.out ?_)
    | (go_at_call 34
       refine (HD.out _).mono ?_
       rintro e w2 ⟨rfl, B2⟩
       have hs2 := B2.size
       simp only [World.size_setCell] at hs2
       have HX3 := Lib.hid (HX2.out.below B2 (by simp; omega))
       have HZ3 := Lib.hid ((HZ1.out.far (p := ⟨w.heap.size, 0, none⟩) (by simp) (.string N)).below B2 (by simp; omega))
       have HB3 := Lib.hid ((HB1.out.setCell (p := ⟨w.heap.size, 0, none⟩) (Nat.le_refl _) (.string N)).trans (B2.mono (by simp; omega)))
       have HT3 := Lib.hid (rv_there HX3.out)
       have HX4 : Hid (Has (w2.setCells w.heap.size 4 D.cells.toList) w.heap.size 36 R.cells) := by rw [Hid, HRES.out]; exact (rv_set_data HX3.out D).1
       have HB4 := Lib.hid ((rv_set_data HX3.out D).2 _ (Nat.le_refl _) _ HB3.out)
       have HZ4 := Lib.hid (HZ3.out.farCells (g' := w.heap.size) (by omega) D.cells.toList 4)
       clear B2 HX3 HB3 HZ3 HX2)
    | (refine wpList_store_mid rfl 34 (.tmp 12) (.tmp 11) rfl w.heap.size 4 D.cells rfl rfl HT3.out HI8.out (dv_one _) ?_; revert HX4 HZ4 HB4; generalize w2.setCells w.heap.size 4 D.cells.toList = w3; intro HX4 HB4 HZ4; clear c0 c1 c2 f1 hval hd8 HX1 HZ1 HB1 HX0 HZ0 HB0 HT3 hs1; rename_i Q0 K0 A0; refine wpList_nil ?_; change K0 _ _; refine A0 _ _ ?_; clear A0; go_wp2_with (first | (refine wpList_load_row rfl 36 (.tmp 1) rfl w.heap.size rfl 36 R.cells (0, 0) _ HX4.out Tryz.underlying36 rfl HI.out ?_) | (refine wpList_store_row rfl 36 (.tmp 2) (.tmp 13) rfl (w.heap.size + 1) R.cells rfl rfl 36 _ HZ4.out HI.out rfl (rv_one R) ?_))))
  refine bodyPost_ret (results_cell_row rfl _ _ (w.heap.size + 1) 36 R.cells (0, 0) _ rfl (HZ4.out.row _) Tryz.underlying36 rfl HI.out) rfl ?_
  exact ⟨rfl, below_setRow HB4.out (by omega) _⟩
end Go.Proofs.YtgcaephfhfkjcaaGreatDoor
namespace Go.Proofs.YtgcaephfhfkjcaaGreatDoor
open Go.RowKit

/-- what the line of a record answers. -/
def Mp.lineV (r : Rv) : Value := if Mp.okL r = 0 then .tuple #[sv (Mp.lineL r), .int .i64 0] else .tuple #[.string ⟨#[]⟩, .int .i64 (Mp.okL r : Nat)]
theorem fold_sizes (r : Rv) (hs : r.short) : (r.d.fold r.ty).host.size ≤ 140737488355328 ∧ (r.d.fold r.ty).mail.size ≤ 140737488355328 := by
  unfold Dv.fold
  dsimp only
  refine ⟨?_, ?_⟩
  · split
    · rw [folded_size]; exact hs.2.1
    · exact hs.2.1
  · split
    · rw [folded_size]; exact hs.2.2
    · exact hs.2.2
set_option maxHeartbeats 1000000 in
set_option maxRecDepth 100000 in
/-- what is wrong ahead of the data is told. -/
theorem refLine_no (r : Rv) (w : World) (hs : r.short) (h : ¬ (Rd.nm r.nm.data.toList = true ∧ r.cl = 1 ∧ r.ttl ≤ 2147483647)) :
    Calls Tryz.prog 29 #[r.val] w fun e w' => e = .returned (Mp.lineV r) ∧ Below w.heap.size w w' := by
  have HN := Lib.hid (fun W : World => rdIs_any r.nm W hs.1)
  have hval : r.val = .agg r.cells := rfl
  have HB : Hid (Below w.heap.size w (w.alloc (.cells r.cells 36))) := (Below.refl _ _).alloc (Nat.le_refl _) _
  have hX0 := Has.fresh w 36 r.cells
  have HX := Lib.hid hX0
  have c0 := rv_nm HX.out
  have hok : Mp.okL r = if Rd.nm r.nm.data.toList then (if r.cl = 1 then (if r.ttl ≤ 2147483647 then (if Rd.ok r.ty r.d.dt then 0 else 40) else 91) else 92) else 90 := rfl
  unfold Mp.lineV
  clear hX0 hs
  by_cases hn : Rd.nm r.nm.data.toList = true
  · rw [hn] at HN
    rw [if_pos hn] at hok
    by_cases hc : r.cl = 1
    · have ic : (r.cl : Int) = 1 := by omega
      rw [if_pos hc] at hok
      have hl : ¬ r.ttl ≤ 2147483647 := fun e => h ⟨hn, hc, e⟩
      have il : (2147483647 : Int) < (r.ttl : Int) := by omega
      rw [if_neg hl] at hok
      rw [hok, if_neg (by omega)]
      clear hok hn hc hl h
      go_enter Tryz.func29, Tryz.ntmps29
      go_wp2_with (go_at_call 13; refine (HN.out _).mono ?_; rintro e w1 ⟨rfl, B1⟩; have HX1 := Lib.hid (HX.out.below B1 (by simp)); have HB1 := Lib.hid (HB.out.trans (B1.mono (by simp))); have c2 := rv_cl HX1.out; have c3 := rv_ttl HX1.out; clear B1)
      go_ret2
      exact ⟨rfl, HB1.out⟩
    · have ic : ¬ (r.cl : Int) = 1 := by omega
      rw [if_neg hc] at hok
      rw [hok, if_neg (by omega)]
      clear hok hn hc h
      go_enter Tryz.func29, Tryz.ntmps29
      go_wp2_with (go_at_call 13; refine (HN.out _).mono ?_; rintro e w1 ⟨rfl, B1⟩; have HX1 := Lib.hid (HX.out.below B1 (by simp)); have HB1 := Lib.hid (HB.out.trans (B1.mono (by simp))); have c2 := rv_cl HX1.out; clear B1)
      go_ret2
      exact ⟨rfl, HB1.out⟩
  · rw [Bool.not_eq_true] at hn
    rw [hn] at HN
    rw [if_neg (by rw [hn]; simp)] at hok
    rw [hok, if_neg (by omega)]
    clear hok hn h
    go_enter Tryz.func29, Tryz.ntmps29
    go_wp2_with (go_at_call 13; refine (HN.out _).mono ?_; rintro e w1 ⟨rfl, B1⟩; have HB1 := Lib.hid (HB.out.trans (B1.mono (by simp))); clear B1)
    go_ret2
    exact ⟨rfl, HB1.out⟩
end Go.Proofs.YtgcaephfhfkjcaaGreatDoor
namespace Go.Proofs.YtgcaephfhfkjcaaGreatDoor
open Go.RowKit

set_option maxHeartbeats 1000000 in
set_option maxRecDepth 100000 in
theorem refLine_yes (r : Rv) (w : World) (ht : r.ty ≤ 65535) (hf : r.d.fits) (hs : r.short) (hr : r.d.raw.size ≤ 8796093022208) (hn : Rd.nm r.nm.data.toList = true) (hc : r.cl = 1) (hl : r.ttl ≤ 2147483647) :
    Calls Tryz.prog 29 #[r.val] w fun e w' => e = .returned (Mp.lineV r) ∧ Below w.heap.size w w' := by
  have HN := Lib.hid (fun W : World => rdIs_any r.nm W hs.1)
  rw [hn] at HN
  obtain ⟨hz1, hz2⟩ := fold_sizes r hs
  have hff : (r.d.fold r.ty).fits := fun k => hf k
  have HFO := Lib.hid (fun W : World => (show Calls Tryz.prog 15 #[.agg r.cells] W (fun e w' => e = .returned (.agg r.fold.cells) ∧ Below W.heap.size W w') from r5Fold_any r W ht hs))
  have HSH := Lib.hid (fun W : World => (show Calls Tryz.prog 47 #[.int .u16 r.ty, .agg r.fold.d.cells] W (fun e w' => e = .returned (shV r.ty (r.d.fold r.ty)) ∧ Below W.heap.size W w') from rdShow_any r.ty (r.d.fold r.ty) W ht hff hr hz1 hz2))
  have HTX := Lib.hid (fun W : World => (show Calls Tryz.prog 27 #[.string r.fold.nm] W fun e w' => e = .returned (sv (Nm.text (Nm.fold r.nm.data.toList))) ∧ Below W.heap.size W w' from by
    have h := refText_any ⟨(Nm.fold r.nm.data.toList).toArray⟩ W (by rw [folded_size]; exact hs.1)
    rw [show (⟨(Nm.fold r.nm.data.toList).toArray⟩ : ByteArray).data.toList = Nm.fold r.nm.data.toList from by simp] at h
    exact h))
  have HDC := Lib.hid (fun W : World => decimal_any r.ttl W (by omega))
  have HTY := Lib.hid (fun W : World => rdTypeText_any r.ty W ht)
  have ic : (r.cl : Int) = 1 := by omega
  have il : ¬ (2147483647 : Int) < (r.ttl : Int) := by omega
  have hi12 : (Tryz.prog.info? 36).map (·.size) = some 12 := by kernel_rfl
  have HI := Lib.hid hi12
  have hi8 : (Tryz.prog.info? 34).map (·.size) = some 8 := by kernel_rfl
  have HI8 := Lib.hid hi8
  have hval : r.val = .agg r.cells := rfl
  have HB : Hid (Below w.heap.size w (w.alloc (.cells r.cells 36))) := (Below.refl _ _).alloc (Nat.le_refl _) _
  have hX0 := Has.fresh w 36 r.cells
  have HX := Lib.hid hX0
  have c0 := rv_nm HX.out
  have hfty : r.fold.ty = r.ty := rfl
  have HLN : Hid (Rd.ok r.ty r.d.dt = true → Mp.lineL r = Nm.text (Nm.fold r.nm.data.toList) ++ [32] ++ Rd.dec r.ttl ++ [32, 73, 78, 32] ++ Rd.tyText r.ty ++ [32] ++ shS r.ty (r.d.fold r.ty) (txs (r.d.fold r.ty)) ++ [10] ∧ (Nm.text (Nm.fold r.nm.data.toList)).length ≤ 40000 ∧ (Rd.dec r.ttl).length ≤ 4294967296 ∧ (Rd.tyText r.ty).length ≤ 65600 ∧ (shS r.ty (r.d.fold r.ty) (txs (r.d.fold r.ty))).length ≤ 15000000000000) := fun ho => by
    refine ⟨?_, text_few _, Mp.dec_few (by omega), Mp.tyText_few ht, shS_len _ _ hff (by rw [Rd.ok_fold]; exact ho)⟩
    unfold Mp.lineL Mp.words
    rw [Mp.join5]
    simp
  have hok : Mp.okL r = if Rd.ok r.ty r.d.dt then 0 else 40 := by
    unfold Mp.okL
    rw [if_pos hn, if_pos hc, if_pos hl]
  unfold shV at HSH
  rw [Rd.ok_fold] at HSH
  unfold Mp.lineV
  clear hX0 hs hi12 hi8 hff hz1 hz2 hn hc hl ht hf hr
  cases ho : Rd.ok r.ty r.d.dt with
  | false =>
    rw [ho] at HSH hok
    simp only [Bool.false_eq_true, if_false] at HSH hok
    rw [hok, if_neg (by omega)]
    clear hok HLN HTX HDC HTY
    generalize r.fold = F at *
    go_enter Tryz.func29, Tryz.ntmps29
    go_wp2_with (first
      | (go_at_call 13; refine (HN.out _).mono ?_; rintro e w1 ⟨rfl, B1⟩; have HX1 := Lib.hid (HX.out.below B1 (by simp)); have HB1 := Lib.hid (HB.out.trans (B1.mono (by simp))); have c2 := rv_cl HX1.out; have c3 := rv_ttl HX1.out; clear B1)
      | (refine wpList_load_row rfl 36 (.tmp 1) rfl w.heap.size rfl 36 r.cells (0, 0) _ HX1.out Tryz.underlying36 rfl HI.out ?_)
      | (go_at_call 15
         refine (HFO.out _).mono ?_
         rintro e w2 ⟨rfl, B2⟩
         have hs2 : w.heap.size < w2.heap.size := (Nat.lt_of_lt_of_le HX1.out.lt B2.size)
         have HX3 : Hid (Has ((w2.alloc (.cells #[.string ⟨#[]⟩, .int .u16 0, .int .u16 0, .int .u32 0, .string ⟨#[]⟩, .string ⟨#[]⟩, .string ⟨#[]⟩, .int .u32 0, .int .u32 0, .int .u32 0, .int .u32 0, .int .u32 0] 36)).setRow w2.heap.size F.cells) w.heap.size 36 r.cells) := ((HX1.out.below B2 HX1.out.lt).alloc _).rowFar (by omega) _
         have HF3 : Hid (Has ((w2.alloc (.cells #[.string ⟨#[]⟩, .int .u16 0, .int .u16 0, .int .u32 0, .string ⟨#[]⟩, .string ⟨#[]⟩, .string ⟨#[]⟩, .int .u32 0, .int .u32 0, .int .u32 0, .int .u32 0, .int .u32 0] 36)).setRow w2.heap.size F.cells) w2.heap.size 36 F.cells) := (Has.fresh _ _ _).row _
         have HB3 : Hid (Below w.heap.size w ((w2.alloc (.cells #[.string ⟨#[]⟩, .int .u16 0, .int .u16 0, .int .u32 0, .string ⟨#[]⟩, .string ⟨#[]⟩, .string ⟨#[]⟩, .int .u32 0, .int .u32 0, .int .u32 0, .int .u32 0, .int .u32 0] 36)).setRow w2.heap.size F.cells)) := below_setRow ((HB1.out.trans (B2.mono HB1.out.size)).alloc (by omega) _) (by omega) _
         clear B2)
      | (refine wpList_store_row rfl 36 (.tmp 4) (.tmp 18) rfl w2.heap.size F.cells rfl rfl 36 _ (Has.fresh _ _ _) HI.out rfl (rv_one F) ?_
         revert HX3 HF3 HB3
         generalize ((w2.alloc (.cells #[.string ⟨#[]⟩, .int .u16 0, .int .u16 0, .int .u32 0, .string ⟨#[]⟩, .string ⟨#[]⟩, .string ⟨#[]⟩, .int .u32 0, .int .u32 0, .int .u32 0, .int .u32 0, .int .u32 0] 36)).setRow w2.heap.size F.cells) = w3
         intro HX3 HF3 HB3
         have c4 := rv_ty HF3.out
         rw [hfty] at c4)
      | (refine wpList_load_mid rfl 34 (.tmp 22) rfl w2.heap.size 4 rfl F.d.cells.toList _ (by have h := rv_data HF3.out; exact h) Tryz.underlying34 rfl HI8.out ?_)
      | (go_at_call 47
         refine (HSH.out _).mono ?_
         rintro e w4 ⟨rfl, B4⟩
         have HX4 := Lib.hid (HX3.out.below B4 HX3.out.lt)
         have HF4 := Lib.hid (HF3.out.below B4 HF3.out.lt)
         have HB4 := Lib.hid (HB3.out.trans (B4.mono HB3.out.size))
         clear B4))
    go_ret2
    exact ⟨rfl, HB4.out⟩
  | true =>
    obtain ⟨hln, l1, l2, l3, l4⟩ := HLN.out ho
    rw [ho] at HSH hok
    simp only [if_true] at HSH hok
    rw [hok, if_pos rfl, hln]
    clear hok HLN hln
    generalize r.fold = F at *
    generalize shS r.ty (r.d.fold r.ty) (txs (r.d.fold r.ty)) = T at *
    generalize Nm.text (Nm.fold r.nm.data.toList) = T1 at *
    generalize Rd.dec r.ttl = T2 at *
    generalize Rd.tyText r.ty = T3 at *
    have k1 : ¬ 9223372036854775807 < T1.length + 1 := by omega
    have k2 : ¬ 9223372036854775807 < T1.length + 1 + T2.length := by omega
    have k3 : ¬ 9223372036854775807 < T1.length + 1 + T2.length + 4 := by omega
    have k4 : ¬ 9223372036854775807 < T1.length + 1 + T2.length + 4 + T3.length := by omega
    have k5 : ¬ 9223372036854775807 < T1.length + 1 + T2.length + 4 + T3.length + 1 := by omega
    have k6 : ¬ 9223372036854775807 < T1.length + 1 + T2.length + 4 + T3.length + 1 + T.length := by omega
    have k7 : ¬ 9223372036854775807 < T1.length + 1 + T2.length + 4 + T3.length + 1 + T.length + 1 := by omega
    clear l1 l2 l3 l4 ho
    go_enter Tryz.func29, Tryz.ntmps29
    go_wp2_with (first
      | (go_at_call 13; refine (HN.out _).mono ?_; rintro e w1 ⟨rfl, B1⟩; have HX1 := Lib.hid (HX.out.below B1 (by simp)); have HB1 := Lib.hid (HB.out.trans (B1.mono (by simp))); have c2 := rv_cl HX1.out; have c3 := rv_ttl HX1.out; clear B1)
      | (refine wpList_load_row rfl 36 (.tmp 1) rfl w.heap.size rfl 36 r.cells (0, 0) _ HX1.out Tryz.underlying36 rfl HI.out ?_)
      | (go_at_call 15
         refine (HFO.out _).mono ?_
         rintro e w2 ⟨rfl, B2⟩
         have hs2 : w.heap.size < w2.heap.size := (Nat.lt_of_lt_of_le HX1.out.lt B2.size)
         have HX3 : Hid (Has ((w2.alloc (.cells #[.string ⟨#[]⟩, .int .u16 0, .int .u16 0, .int .u32 0, .string ⟨#[]⟩, .string ⟨#[]⟩, .string ⟨#[]⟩, .int .u32 0, .int .u32 0, .int .u32 0, .int .u32 0, .int .u32 0] 36)).setRow w2.heap.size F.cells) w.heap.size 36 r.cells) := ((HX1.out.below B2 HX1.out.lt).alloc _).rowFar (by omega) _
         have HF3 : Hid (Has ((w2.alloc (.cells #[.string ⟨#[]⟩, .int .u16 0, .int .u16 0, .int .u32 0, .string ⟨#[]⟩, .string ⟨#[]⟩, .string ⟨#[]⟩, .int .u32 0, .int .u32 0, .int .u32 0, .int .u32 0, .int .u32 0] 36)).setRow w2.heap.size F.cells) w2.heap.size 36 F.cells) := (Has.fresh _ _ _).row _
         have HB3 : Hid (Below w.heap.size w ((w2.alloc (.cells #[.string ⟨#[]⟩, .int .u16 0, .int .u16 0, .int .u32 0, .string ⟨#[]⟩, .string ⟨#[]⟩, .string ⟨#[]⟩, .int .u32 0, .int .u32 0, .int .u32 0, .int .u32 0, .int .u32 0] 36)).setRow w2.heap.size F.cells)) := below_setRow ((HB1.out.trans (B2.mono HB1.out.size)).alloc (by omega) _) (by omega) _
         clear B2)
      | (refine wpList_store_row rfl 36 (.tmp 4) (.tmp 18) rfl w2.heap.size F.cells rfl rfl 36 _ (Has.fresh _ _ _) HI.out rfl (rv_one F) ?_
         revert HX3 HF3 HB3
         generalize ((w2.alloc (.cells #[.string ⟨#[]⟩, .int .u16 0, .int .u16 0, .int .u32 0, .string ⟨#[]⟩, .string ⟨#[]⟩, .string ⟨#[]⟩, .int .u32 0, .int .u32 0, .int .u32 0, .int .u32 0, .int .u32 0] 36)).setRow w2.heap.size F.cells) = w3
         intro HX3 HF3 HB3
         have c4 := rv_ty HF3.out
         rw [hfty] at c4)
      | (refine wpList_load_mid rfl 34 (.tmp 22) rfl w2.heap.size 4 rfl F.d.cells.toList _ (by have h := rv_data HF3.out; exact h) Tryz.underlying34 rfl HI8.out ?_)
      | (go_at_call 47
         refine (HSH.out _).mono ?_
         rintro e w4 ⟨rfl, B4⟩
         have HX4 := Lib.hid (HX3.out.below B4 HX3.out.lt)
         have HF4 := Lib.hid (HF3.out.below B4 HF3.out.lt)
         have HB4 := Lib.hid (HB3.out.trans (B4.mono HB3.out.size))
         clear B4))
    have d0 := rv_nm HF4.out
    have d1 := rv_ty HX4.out
    have d3 := rv_ttl HX4.out
    have hB4 := HB4.out
    clear HX4 HF4 HB4
    go_region_held3 (fun W => W.cell? ⟨w.heap.size, 1, none⟩ = some (.int .u16 r.ty) ∧ W.cell? ⟨w.heap.size, 3, none⟩ = some (.int .u32 r.ttl) ∧ W.cell? ⟨w2.heap.size, 0, none⟩ = some (.string F.nm) ∧ Below w.heap.size w W)
      (first
        | (exact ⟨d1, d3, d0, hB4.drew⟩)
        | (go_keep; done)
        | (go_split_ands
           try dsimp only
           refine ⟨keep_cell hbW (by assumption), keep_cell hbW (by assumption), keep_cell hbW (by assumption), keep_below hbW (by assumption) (Nat.le_refl _)⟩))
      (first
        | (go_at_call 27
           refine (HTX.out _).mono ?_
           rintro e W1 ⟨rfl, hbW⟩)
        | (go_at_call 48
           refine (HDC.out _).mono ?_
           rintro e W1 ⟨rfl, hbW⟩)
        | (go_at_call 49
           refine (HTY.out _).mono ?_
           rintro e W1 ⟨rfl, hbW⟩))
    rename_i hh
    have HW2 := Lib.hid hh.2.2.2
    clear hh d0 d1 d3 hB4 hbW
    go_wp2
    go_ret2
    refine ⟨?_, HW2.out⟩
    simp
    apply ByteArray.ext
    simp
theorem refLine_any (r : Rv) (w : World) (ht : r.ty ≤ 65535) (hf : r.d.fits) (hs : r.short) (hr : r.d.raw.size ≤ 8796093022208) :
    Calls Tryz.prog 29 #[r.val] w fun e w' => e = .returned (Mp.lineV r) ∧ Below w.heap.size w w' := by
  by_cases h : Rd.nm r.nm.data.toList = true ∧ r.cl = 1 ∧ r.ttl ≤ 2147483647
  · exact refLine_yes r w ht hf hs hr h.1 h.2.1 h.2.2
  · exact refLine_no r w hs h
end Go.Proofs.YtgcaephfhfkjcaaGreatDoor
namespace Go.Proofs.YtgcaephfhfkjcaaGreatDoor
open Go.RowKit Go.Sort Go.Shelf

section
variable {α : Type} [Inhabited α] {enc : α → List Value} {k : Nat} {w w' : World} {g : Nat} {t : TypeId}
theorem flat_at (hk : ∀ x, (enc x).length = k) (d : Array α) {i j : Nat} (hi : i < d.size) (hj : j < k) : (flatK enc k d)[i * k + j]? = (enc d[i])[j]? := by
  have h0 : 0 < k := by omega
  have hlt : i * k + j < d.size * k := by
    have : (i + 1) * k ≤ d.size * k := Nat.mul_le_mul_right k hi
    rw [Nat.add_mul, Nat.one_mul] at this
    omega
  have hd : (i * k + j) / k = i := by rw [Nat.mul_comm, Nat.mul_add_div h0, Nat.div_eq_of_lt hj, Nat.add_zero]
  have hm : (i * k + j) % k = j := by rw [Nat.mul_comm, Nat.mul_add_mod, Nat.mod_eq_of_lt hj]
  have h := get_flatK enc k d (i * k + j) hlt
  rw [hd, hm, getElem!_pos d i hi] at h
  have hs : i * k + j < (flatK enc k d).size := by simpa using hlt
  rw [getElem!_pos (flatK enc k d) _ hs, getElem!_pos (enc d[i]) j (by rw [hk]; exact hj)] at h
  rw [Array.getElem?_eq_getElem hs, h, List.getElem?_eq_getElem (by rw [hk]; exact hj)]
end
end Go.Proofs.YtgcaephfhfkjcaaGreatDoor
