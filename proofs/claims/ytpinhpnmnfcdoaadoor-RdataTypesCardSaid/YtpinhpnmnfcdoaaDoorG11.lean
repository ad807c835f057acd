/- Texts of the proofs, merged. -/
import Derived.Test.YtpinhpnmnfcdoaaDoorG10
import Derived.Deep.RegionHeld3
import Derived.OpenShut
import Derived.Lib.LaidTab
import Derived.Stop.LaidErr
import Derived.Test.YtpinhpnmnfcdoaaDoorG4
import Derived.Lib.ParseIntB
/- The known data of the statements on data are as they say. -/
namespace Go.Proofs.YtpinhpnmnfcdoaaDoor
open Go.RowKit

theorem LayA.rg {w w' : World} {g base : Nat} (h : LayA w) (k : Rg g base w w') (hb : 6 < base) : LayA w' := by
  have kk : ∀ {n t cs}, n < base → Has w n t cs → Has w' n t cs := fun {n t cs} hn hh => (k.below.block n hn).trans hh
  obtain ⟨⟨t1, h1⟩, ⟨t2, h2⟩, t3, h3⟩ := h
  exact ⟨⟨t1, kk (by omega) h1⟩, ⟨t2, kk (by omega) h2⟩, t3, kk hb h3⟩
theorem LayA.top {w : World} (h : LayA w) : 6 < w.heap.size := h.2.2.elim fun _ h => Has.lt h
/-- what of the known data's block is read. -/
def d0C : Array Value := #[.string ⟨#[]⟩, .string ⟨#[1, 97, 0]⟩, .string ⟨#[]⟩, .int .u32 10, .int .u32 0, .int .u32 0, .int .u32 0, .int .u32 0]
theorem below_on2 {a b c : World} (h : Below a.heap.size a b) (k : Below b.heap.size b c) : Below a.heap.size a c := h.trans (k.mono h.size)
theorem pnew2 (w : World) (base : Nat) (hb : base ≤ w.heap.size) : Calls Tryd.prog 18 #[] w fun e w' => ∃ g, e = .returned (.pointer (some ⟨g, 0, none⟩)) ∧ Tb w' g base none [] ∧ Below w.heap.size w w' :=
  (pnew_any w).mono fun e w' ⟨he, hw⟩ => ⟨w.heap.size, he, by rw [hw]; exact Tb.new w hb, by rw [hw]; exact (Below.refl _ _).alloc (Nat.le_refl _) _⟩
set_option maxHeartbeats 4000000 in
set_option maxRecDepth 100000 in
theorem rdWakes (w : World) (hL : LayA w) :
    Calls Tryd.prog 8 #[] w fun e w' => e = .returned (.bool true) ∧ Below w.heap.size w w' := by
  have HL := Lib.hid hL
  have htop := hL.top
  clear hL
  have HC1 := Lib.hid d0_check
  have HC2 := Lib.hid d0_check1
  have HS := Lib.hid d0_show
  have HP := Lib.hid d0_puts
  have e0 : d0.cells = #[.string ⟨#[]⟩, .string ⟨#[1, 97, 0]⟩, .string ⟨#[]⟩, .int .u32 10, .int .u32 0, .int .u32 0, .int .u32 0, .int .u32 0] := rfl
  rw [e0] at HC1 HC2 HS HP
  clear e0
  go_enter Tryd.func8, Tryd.ntmps8
  go_wp2
  have hX0 : Has (w.alloc (.cells #[.string ⟨#[]⟩, .string ⟨#[1, 97, 0]⟩, .string ⟨#[]⟩, .int .u32 10, .int .u32 0, .int .u32 0, .int .u32 0, .int .u32 0] 51)) w.heap.size 51 #[.string ⟨#[]⟩, .string ⟨#[1, 97, 0]⟩, .string ⟨#[]⟩, .int .u32 10, .int .u32 0, .int .u32 0, .int .u32 0, .int .u32 0] := Has.fresh w _ _
  have hB0 : Below w.heap.size w (w.alloc (.cells #[.string ⟨#[]⟩, .string ⟨#[1, 97, 0]⟩, .string ⟨#[]⟩, .int .u32 10, .int .u32 0, .int .u32 0, .int .u32 0, .int .u32 0] 51)) := (Below.refl _ _).alloc (Nat.le_refl _) _
  generalize w.alloc (.cells #[.string ⟨#[]⟩, .string ⟨#[1, 97, 0]⟩, .string ⟨#[]⟩, .int .u32 10, .int .u32 0, .int .u32 0, .int .u32 0, .int .u32 0] 51) = wa at *
  have hlt := hX0.lt
  have HLA := Lib.hid (fun (W : World) (hb : Below wa.heap.size wa W) => (HL.out.below hB0 (Nat.le_refl _)).below hb (Nat.le_refl _))
  have HLR := Lib.hid (fun (W : World) (hb : Below wa.heap.size wa W) => (HLA.out W hb).1)
  have HK := Lib.hid (fun (W : World) (hb : Below wa.heap.size wa W) => (show (W.cell? ⟨w.heap.size, 0, none⟩ = some (.string ⟨#[]⟩) ∧ W.cell? ⟨w.heap.size, 1, none⟩ = some (.string ⟨#[1, 97, 0]⟩) ∧ W.cell? ⟨w.heap.size, 2, none⟩ = some (.string ⟨#[]⟩) ∧ W.cell? ⟨w.heap.size, 3, none⟩ = some (.int .u32 10) ∧ W.cell? ⟨w.heap.size, 4, none⟩ = some (.int .u32 0) ∧ W.cell? ⟨w.heap.size, 5, none⟩ = some (.int .u32 0) ∧ W.cell? ⟨w.heap.size, 6, none⟩ = some (.int .u32 0) ∧ W.cell? ⟨w.heap.size, 7, none⟩ = some (.int .u32 0)) ∧ Below wa.heap.size wa W from ⟨by
    have h := hX0.below hb hlt
    exact ⟨by rw [h.cell]; rfl, by rw [h.cell]; rfl, by rw [h.cell]; rfl, by rw [h.cell]; rfl, by rw [h.cell]; rfl, by rw [h.cell]; rfl, by rw [h.cell]; rfl, by rw [h.cell]; rfl⟩, hb⟩))
  have HB0 := Lib.hid hB0
  clear hX0 hB0
  go_region_held3 (fun W => (W.cell? ⟨w.heap.size, 0, none⟩ = some (.string ⟨#[]⟩) ∧ W.cell? ⟨w.heap.size, 1, none⟩ = some (.string ⟨#[1, 97, 0]⟩) ∧ W.cell? ⟨w.heap.size, 2, none⟩ = some (.string ⟨#[]⟩) ∧ W.cell? ⟨w.heap.size, 3, none⟩ = some (.int .u32 10) ∧ W.cell? ⟨w.heap.size, 4, none⟩ = some (.int .u32 0) ∧ W.cell? ⟨w.heap.size, 5, none⟩ = some (.int .u32 0) ∧ W.cell? ⟨w.heap.size, 6, none⟩ = some (.int .u32 0) ∧ W.cell? ⟨w.heap.size, 7, none⟩ = some (.int .u32 0)) ∧ Below wa.heap.size wa W) (first
      | assumption
      | exact HK.out _ (Below.refl _ _).drew
      | exact HK.out _ HW1.out
      | exact HK.out _ HW2.out) (first
      | (go_at_call 18; (with_reducible refine (pnew2 _ wa.heap.size (by go_split_ands; exact Below.size (by assumption))).mono ?_); rintro e W1 ⟨g1, rfl, T1, B1⟩; have HW1 : Hid (Below wa.heap.size wa W1) := (by go_split_ands; exact below_on2 (by assumption) B1); have HT1 := Lib.hid T1; clear T1 B1)
      | (go_at_call 17; refine (HP.out _ g1 wa.heap.size none (HLA.out _ HW1.out).1 HT1.out HW1.out.size).mono ?_; rintro e W2 ⟨A2, c2, rfl, b2, R2, s2⟩; have HW2 : Hid (Below wa.heap.size wa W2) := HW1.out.trans R2.below; have HS2 := Lib.hid b2; clear b2 R2))
  obtain ⟨⟨a0, a1, a2, a3, a4, a5, a6, a7⟩, _⟩ := HK.out _ HW2.out
  have HCV := Lib.hid (fun (W : World) (hb : Below W2.heap.size W2 W) => (show (convert 52 9 (.slice A2 5 c2)).run Tryd.prog W = .ok (.string ⟨#[0, 10, 1, 97, 0]⟩) W from run_convert_bs (w := W) 52 9 5 Tryd.underlying52 Tryd.underlying5 Tryd.underlying9 0 W2.heap.size A2 5 c2 [0, 10, 1, 97, 0] rfl (HS2.out.keep hb)))
  have hb1 : ((⟨#[0, 10, 1, 97, 0]⟩ : ByteArray).toList == (⟨#[0, 10, 1, 97, 0]⟩ : ByteArray).toList) = true := beq_self_eq_true _
  have hb2 : ((⟨#[49, 48, 32, 97, 46]⟩ : ByteArray).toList == (⟨#[49, 48, 32, 97, 46]⟩ : ByteArray).toList) = true := beq_self_eq_true _
  go_wp2_with (first
    | (go_at_call 19; refine (HS.out _ (HLA.out _ HW2.out)).mono ?_; rintro e W3 ⟨rfl, B3⟩; have HW3 : Hid (Below wa.heap.size wa W3) := below_on2 HW2.out B3; have hcv3 := HCV.out _ B3; obtain ⟨⟨b0, b1, b2, b3, b4, b5, b6, b7⟩, _⟩ := HK.out _ HW3.out; clear B3)
    | (go_at_call 20; (with_reducible refine (HC1.out _ (HLR.out _ HW3.out)).mono ?_); rintro e W4 ⟨rfl, B4⟩; have HW4 : Hid (Below wa.heap.size wa W4) := below_on2 HW3.out B4; obtain ⟨⟨d0, d1, d2, d3, d4, d5, d6, d7⟩, _⟩ := HK.out _ HW4.out; clear B4)
    | (go_at_call 20; (with_reducible refine (HC2.out _ (HLR.out _ HW4.out)).mono ?_); rintro e W5 ⟨rfl, B5⟩; have HW5 : Hid (Below wa.heap.size wa W5) := below_on2 HW4.out B5; clear B5))
  go_ret
  exact ⟨rfl, HB0.out.trans (HW5.out.mono HB0.out.size)⟩
end Go.Proofs.YtpinhpnmnfcdoaaDoor
/- What the rows ask of the listed tables, as the walks want it. -/
namespace Go.Proofs.YtpinhpnmnfcdoaaDoor
open Go.RowKit Go.ChangeShapes

theorem laid_head {n : String} {d : DataW Unit} {r : List (String × DataW Unit)} {W : World} {g : Nat} {ty : TypeId} (h : laidMet Tryd.prog ((n, d) :: r) W) (hg : Tryd.prog.globalNamed n = some g) (ht : (Tryd.prog.globals[g]?).map (·.type) = some ty) :
    ∃ (cs : Array Value) (fuel : Nat) (p : List MemPlace), DataW.trod (fun _ => ()) Tryd.prog W 0 (fun _ => true) false fuel ty cs.toList = some (d, p) ∧ (0 < cs.size → ∃ t, Has W g t cs) := by
  obtain ⟨ps, ⟨g0, t0, cs0, f0, p0, q0, hg0, ht0, hv0, hd0, _, e0⟩, _, hrows⟩ := h
  obtain rfl := Option.some.inj (hg.symm.trans hg0)
  obtain rfl := Option.some.inj (ht.symm.trans ht0)
  subst e0
  refine ⟨cs0, f0, p0, hd0, fun h0 => ?_⟩
  have hm : MemPlace.cell g 0 ∈ MemPlace.row ⟨g, 0, none⟩ cs0.size ++ p0 ++ q0 := by
    refine List.mem_append_left _ (List.mem_append_left _ ?_)
    simp [MemPlace.row]
    exact h0
  obtain ⟨⟨c, t, hh⟩, _⟩ := hrows g 0 hm
  unfold World.var? at hv0
  rw [hg] at hv0
  simp only [Option.bind_some, hh] at hv0
  injection hv0 with hv0
  subst hv0
  exact ⟨t, hh⟩
set_option maxRecDepth 100000 in
theorem laid_pow {r : List (String × DataW Unit)} {W : World} (h : laidMet Tryd.prog (("internal/strconv.uint64pow10", Rows.laid_internal_strconv_uint64pow10) :: r) W) : LayP W := by
  obtain ⟨cs, fuel, p, hd, hh⟩ := laid_head (g := 3) (ty := 135) h (by kernel_rfl) (by kernel_rfl)
  have e := Lib.cells_of_tab (k := .u64) (zs := Lib.pow10Tab) (e := 43) (n := 20) Tryd.underlying135 Tryd.underlying43 (by kernel_rfl) (by kernel_rfl) hd
  have e2 : cs = (Lib.pow10Tab.map fun z => Value.int .u64 z).toArray := by rw [← e]
  subst e2
  exact hh (by decide)
def tab64 : List Int := [0, 1, 56, 2, 57, 49, 28, 3, 61, 58, 42, 50, 38, 29, 17, 4, 62, 47, 59, 36, 45, 43, 51, 22, 53, 39, 33, 30, 24, 18, 12, 5, 63, 55, 48, 27, 60, 41, 37, 16, 46, 35, 44, 21, 52, 32, 23, 11, 54, 26, 40, 15, 34, 20, 31, 10, 25, 14, 19, 9, 13, 8, 7, 6]
set_option maxRecDepth 100000 in
theorem laid_bits {r : List (String × DataW Unit)} {W : World} (h : laidMet Tryd.prog (("math/bits.deBruijn64tab", Rows.laid_math_bits_deBruijn64tab) :: r) W) : LayD W := by
  obtain ⟨cs, fuel, p, hd, hh⟩ := laid_head (g := 6) (ty := 149) h (by kernel_rfl) (by kernel_rfl)
  have e := Lib.cells_of_tab (k := .u8) (zs := tab64) (e := 5) (n := 64) Tryd.underlying149 Tryd.underlying5 (by kernel_rfl) (by kernel_rfl) hd
  have e2 : cs = (tab64.map fun z => Value.int .u8 z).toArray := by rw [← e]
  subst e2
  exact hh (by decide)
def rowL (x : Int × List UInt8 × List Int) : List Value := .int .u16 x.1 :: .string ⟨x.2.1.toArray⟩ :: x.2.2.map fun z => Value.int .u8 z
set_option maxRecDepth 100000 in
theorem row_cells {W : World} {fuel : Nat} {cs : List Value} {x : Int × List UInt8 × List Int} {p : List MemPlace}
    (h : DataW.trod (fun _ => ()) Tryd.prog W 0 (fun _ => true) false fuel 32 cs = some (.agg [.lit (.int .u16 x.1), .lit (.string x.2.1), Lib.tabData .u8 x.2.2], p)) : cs = rowL x := by
  obtain ⟨xs, n, _, hx, hl, hlen, hg⟩ := DataW.trod_struct Tryd.underlying32 h
  have hl9 : cs.length = 9 := hl.trans (by kernel_rfl)
  match xs, hlen with
  | [y0, y1, y2], _ =>
    simp only [List.map_cons, List.map_nil, Prod.mk.injEq, DataW.agg.injEq, List.cons.injEq] at hx
    obtain ⟨⟨q0, q1, q2, _⟩, _⟩ := hx
    have k0 : Tryd.prog.cellsOf 22 = 1 := by kernel_rfl
    have k1 : Tryd.prog.cellsOf 9 = 1 := by kernel_rfl
    have k2 : Tryd.prog.cellsOf 30 = 7 := by kernel_rfl
    match cs, hl9 with
    | [c0, c1, a0, a1, a2, a3, a4, a5, a6], _ =>
      have g0 : DataW.trod (fun _ => ()) Tryd.prog W 0 (fun _ => true) false n 22 (List.take (Tryd.prog.cellsOf 22) [c0, c1, a0, a1, a2, a3, a4, a5, a6]) = some y0 := hg 0 _ rfl
      have g1 : DataW.trod (fun _ => ()) Tryd.prog W 0 (fun _ => true) false n 9 (List.take (Tryd.prog.cellsOf 9) [c1, a0, a1, a2, a3, a4, a5, a6]) = some y1 := hg 1 _ rfl
      have g2 : DataW.trod (fun _ => ()) Tryd.prog W 0 (fun _ => true) false n 30 (List.take (Tryd.prog.cellsOf 30) [a0, a1, a2, a3, a4, a5, a6]) = some y2 := hg 2 _ rfl
      rw [k0] at g0
      rw [k1] at g1
      rw [k2] at g2
      obtain ⟨m0, e0, h0, _⟩ := DataW.trod_int Tryd.underlying22 g0
      obtain ⟨s1, e1, h1, _⟩ := DataW.trod_string Tryd.underlying9 g1
      obtain ⟨z2, pz⟩ := y2
      simp only at q2
      subst q2
      have e2 := Lib.cells_of_tab (k := .u8) (e := 29) (n := 7) Tryd.underlying30 Tryd.underlying29 (by kernel_rfl) (by kernel_rfl) g2
      rw [h0] at q0
      rw [h1] at q1
      injection q0 with q0
      injection q0 with _ q0
      injection q1 with q1
      injection q1 with q1
      subst q0
      have es := string_eq q1.symm
      subst es
      injection e0 with e0 _
      injection e1 with e1 _
      subst e0 e1
      unfold rowL
      rw [← e2]
      rfl
theorem chunks {L : List Value} (k n : Nat) (R : List Value) (h : (L.drop (k * 9)).take 9 = R) (h2 : n = (k + 1) * 9) : L.drop (k * 9) = R ++ L.drop n := by
  subst h h2
  have := (List.take_append_drop 9 (L.drop (k * 9))).symm
  rw [List.drop_drop] at this
  rw [show (k + 1) * 9 = k * 9 + 9 from by omega]
  exact this
def rowT : List (Int × List UInt8 × List Int) := [(1, [65], [1, 0, 0, 0, 0, 0, 0]), (2, [78, 83], [5, 0, 0, 0, 0, 0, 0]), (5, [67, 78, 65, 77, 69], [5, 0, 0, 0, 0, 0, 0]), (6, [83, 79, 65], [5, 7, 9, 9, 9, 9, 9]), (12, [80, 84, 82], [5, 0, 0, 0, 0, 0, 0]), (15, [77, 88], [8, 5, 0, 0, 0, 0, 0]), (16, [84, 88, 84], [3, 0, 0, 0, 0, 0, 0]), (28, [65, 65, 65, 65], [2, 0, 0, 0, 0, 0, 0]), (33, [83, 82, 86], [8, 8, 8, 6, 0, 0, 0])]
set_option maxRecDepth 100000 in
theorem laid_rows {r : List (String × DataW Unit)} {W : World} (h : laidMet Tryd.prog (("hearsay/rdata.rows", Rows.laid_hearsay_rdata_rows) :: r) W) : LayR W := by
  obtain ⟨cs, fuel, p, hd, hh⟩ := laid_head (g := 0) (ty := 33) h (by kernel_rfl) (by kernel_rfl)
  obtain ⟨xs, n, _, hx, hl, hlen, hg⟩ := DataW.trod_array Tryd.underlying33 hd
  have hl81 : cs.toList.length = 81 := hl.trans (by kernel_rfl)
  have hc9 : Tryd.prog.cellsOf 32 = 9 := by kernel_rfl
  rw [hc9] at hg
  have hxs : xs.map (·.1) = rowT.map fun x => (.agg [.lit (.int .u16 x.1), .lit (.string x.2.1), Lib.tabData .u8 x.2.2] : DataW Unit) := by
    have h1 : (.agg (xs.map (·.1)) : DataW Unit) = Rows.laid_hearsay_rdata_rows := (congrArg Prod.fst hx).symm
    injection h1 with h1
  have key : ∀ i (hi : i < 9), (cs.toList.drop (i * 9)).take 9 = rowL (rowT[i]'hi) := fun i hi => by
    have hg1 := hg i hi
    have hxi : xs[i]? = some (xs[i]'(by omega)) := List.getElem?_eq_getElem (by omega)
    rw [hxi] at hg1
    have h2 : (xs[i]'(by omega)).1 = .agg [.lit (.int .u16 (rowT[i]'hi).1), .lit (.string (rowT[i]'hi).2.1), Lib.tabData .u8 (rowT[i]'hi).2.2] := by
      have := congrArg (fun l => l[i]?) hxs
      simp only [List.getElem?_map] at this
      rw [hxi, List.getElem?_eq_getElem (show i < rowT.length from hi)] at this
      exact Option.some.inj this
    refine row_cells (p := (xs[i]'(by omega)).2) (hg1.trans ?_)
    rw [← h2]
  have e : cs = rowsCells := by
    have c : cs.toList.drop (0 * 9) = rowsCells.toList := by
      rw [chunks 0 (1 * 9) _ (key 0 (by omega)) rfl, chunks 1 (2 * 9) _ (key 1 (by omega)) rfl, chunks 2 (3 * 9) _ (key 2 (by omega)) rfl, chunks 3 (4 * 9) _ (key 3 (by omega)) rfl, chunks 4 (5 * 9) _ (key 4 (by omega)) rfl, chunks 5 (6 * 9) _ (key 5 (by omega)) rfl, chunks 6 (7 * 9) _ (key 6 (by omega)) rfl, chunks 7 (8 * 9) _ (key 7 (by omega)) rfl, chunks 8 (9 * 9) _ (key 8 (by omega)) rfl, List.drop_of_length_le (by omega)]
      rfl
    rw [Nat.zero_mul, List.drop_zero] at c
    have := congrArg List.toArray c
    simpa using this
  subst e
  exact hh (by decide)
end Go.Proofs.YtpinhpnmnfcdoaaDoor
/- The document's answer on data: types' texts. -/
namespace Go.Proofs.YtpinhpnmnfcdoaaDoor
open Go.RowKit

theorem sv_cat (a b : List UInt8) : Value.string ((⟨a.toArray⟩ : ByteArray) ++ ⟨b.toArray⟩) = sv (a ++ b) := by
  show Value.string _ = Value.string _
  congr 1
theorem one_bs (w : World) (t : TypeId) (k : Nat) (hk : k < 256) (z : Int) (hz : z = k) : Bs (w.alloc (.cells #[.int .u8 z] t)) w.heap.size (w.heap.size + 1) (some ⟨w.heap.size, 0, none⟩) [UInt8.ofNat k] := by
  subst hz
  refine Has.bs (Has.fresh w t _) (by omega) (fun j hj => ?_)
  obtain rfl : j = 0 := by simp at hj; omega
  simp
  omega
set_option maxHeartbeats 1000000 in
set_option maxRecDepth 100000 in
theorem rdDigits_any (n : Nat) (w : World) (hn : n ≤ 4294967295) :
    Calls Tryd.prog 16 #[.int .u32 n] w fun e w' => e = .returned (sv (Rd.dec n)) ∧ Below w.heap.size w w' := by
  obtain ⟨R, hR⟩ : ∃ R, Rd.dec n = R := ⟨_, rfl⟩
  rw [hR]
  have HR := Lib.hid hR
  clear hR
  go_enter Tryd.func16, Tryd.ntmps16
  go_wp2
  go_loopw [0, 3] (fun t s wr => ∃ (m : Nat) (r : List UInt8), t = .int .u32 m ∧ m + r.length ≤ 4294967295 ∧ s = sv r ∧ Hid (Rd.dec n = Rd.dec m ++ r) ∧ Hid (Below w.heap.size w wr)) (fun t _ _ => (intOf t).toNat)
  case atStart => exact ⟨n, [], rfl, by simpa using hn, rfl, by simp [Hid], Below.refl _ _⟩
  case round =>
    obtain ⟨m, r, rfl, hm, rfl, HD, HB⟩ := hrel
    have hbs := HB.out.size
    have hdg : (48 + m % 10) < 256 := by omega
    have hw8 : IntKind.u8.wrap (48 + (m : Int) % 10) = ((48 + m % 10 : Nat) : Int) := by rw [IntKind.wrap_u8]; omega
    have hcv := run_convert_bs (w := wr.alloc (.cells #[.int .u8 (48 + (m : Int) % 10)] 5)) (P := Tryd.prog) 52 9 5 Tryd.underlying52 Tryd.underlying5 Tryd.underlying9 _ _ (some ⟨wr.heap.size, 0, none⟩) 1 1 [UInt8.ofNat (48 + m % 10)] rfl (one_bs wr _ (48 + m % 10) hdg _ (by omega))
    have HB2 := Lib.hid (HB.out.alloc hbs (.cells #[.int .u8 (48 + (m : Int) % 10)] 5))
    by_cases h10 : m < 10
    · have HF : Hid (R = [UInt8.ofNat (48 + m % 10)] ++ r) := by
        have := HD.out
        rw [HR.out, Rd.dec_small h10] at this
        rw [Nat.mod_eq_of_lt h10]
        exact this
      generalize UInt8.ofNat (48 + m % 10) = x at *
      have h0 : ((m : Int) / 10 == 0) = true := by simp; omega
      go_wp2
      go_ret
      exact ⟨by rw [HF.out, ← sv_cat]; rfl, HB2.out⟩
    · have HF : Hid (Rd.dec n = Rd.dec (m / 10) ++ ([UInt8.ofNat (48 + m % 10)] ++ r)) := by
        have := HD.out
        rw [Rd.dec_more h10, List.append_assoc] at this
        exact this
      have hne : ¬ m / 10 = 0 := by omega
      have hne2 : (((m : Int) / 10) == 0) = false := by simp; omega
      generalize UInt8.ofNat (48 + m % 10) = x at *
      go_wp2
      go_roundw
      case rel => exact ⟨m / 10, [x] ++ r, by go_num, by simp; omega, by rw [← sv_cat], HF.out, HB2.out⟩
      case measure => simp [intOf]; omega

namespace Rd
def ty : Nat → Nat
  | 0 => 1
  | 1 => 2
  | 2 => 5
  | 3 => 6
  | 4 => 12
  | 5 => 15
  | 6 => 16
  | 7 => 28
  | _ => 33
def txt : Nat → By
  | 0 => [65]
  | 1 => [78, 83]
  | 2 => [67, 78, 65, 77, 69]
  | 3 => [83, 79, 65]
  | 4 => [80, 84, 82]
  | 5 => [77, 88]
  | 6 => [84, 88, 84]
  | 7 => [65, 65, 65, 65]
  | _ => [83, 82, 86]
theorem nine {p : Nat → Prop} {k : Nat} (hk : k < 9) (h0 : p 0) (h1 : p 1) (h2 : p 2) (h3 : p 3) (h4 : p 4) (h5 : p 5) (h6 : p 6) (h7 : p 7) (h8 : p 8) : p k := by
  match k, hk with
  | 0, _ => exact h0
  | 1, _ => exact h1
  | 2, _ => exact h2
  | 3, _ => exact h3
  | 4, _ => exact h4
  | 5, _ => exact h5
  | 6, _ => exact h6
  | 7, _ => exact h7
  | 8, _ => exact h8
theorem ty_le (k : Nat) : ty k ≤ 33 := by unfold ty; split <;> omega
theorem txt_len (k : Nat) : (txt k).length ≤ 5 := by unfold txt; split <;> simp
theorem tyText_at {k : Nat} (hk : k < 9) : tyText (ty k) = txt k := nine (p := fun k => tyText (ty k) = txt k) hk rfl rfl rfl rfl rfl rfl rfl rfl rfl
theorem tyText_no {t : Nat} (h : ∀ j, j < 9 → ty j ≠ t) : tyText t = [84, 89, 80, 69] ++ dec t := by
  have k0 : (1 == t) = false := beq_eq_false_iff_ne.2 (h 0 (by omega))
  have k1 : (2 == t) = false := beq_eq_false_iff_ne.2 (h 1 (by omega))
  have k2 : (5 == t) = false := beq_eq_false_iff_ne.2 (h 2 (by omega))
  have k3 : (6 == t) = false := beq_eq_false_iff_ne.2 (h 3 (by omega))
  have k4 : (12 == t) = false := beq_eq_false_iff_ne.2 (h 4 (by omega))
  have k5 : (15 == t) = false := beq_eq_false_iff_ne.2 (h 5 (by omega))
  have k6 : (16 == t) = false := beq_eq_false_iff_ne.2 (h 6 (by omega))
  have k7 : (28 == t) = false := beq_eq_false_iff_ne.2 (h 7 (by omega))
  have k8 : (33 == t) = false := beq_eq_false_iff_ne.2 (h 8 (by omega))
  unfold tyText tyTab
  simp only [List.find?, k0, k1, k2, k3, k4, k5, k6, k7, k8]
theorem tyOf_at {k : Nat} {s : By} (hk : k < 9) (h : Nm.fold s = Nm.fold (txt k)) : tyOf s = some (ty k) := by
  unfold tyOf
  rw [h]
  exact nine (p := fun k => (match tyTab.find? (fun x => Nm.fold x.2 == Nm.fold (txt k)) with | some x => some x.1 | none => if (Nm.fold (txt k)).take 4 = [116, 121, 112, 101] then num (s.drop 4) 65535 else none) = some (ty k)) hk rfl rfl rfl rfl rfl rfl rfl rfl rfl
theorem tyOf_no {s : By} (h : ∀ j, j < 9 → Nm.fold s ≠ Nm.fold (txt j)) : tyOf s = if (Nm.fold s).take 4 = [116, 121, 112, 101] then num (s.drop 4) 65535 else none := by
  have k0 : (Nm.fold [65] == Nm.fold s) = false := beq_eq_false_iff_ne.2 (fun e => h 0 (by omega) e.symm)
  have k1 : (Nm.fold [78, 83] == Nm.fold s) = false := beq_eq_false_iff_ne.2 (fun e => h 1 (by omega) e.symm)
  have k2 : (Nm.fold [67, 78, 65, 77, 69] == Nm.fold s) = false := beq_eq_false_iff_ne.2 (fun e => h 2 (by omega) e.symm)
  have k3 : (Nm.fold [83, 79, 65] == Nm.fold s) = false := beq_eq_false_iff_ne.2 (fun e => h 3 (by omega) e.symm)
  have k4 : (Nm.fold [80, 84, 82] == Nm.fold s) = false := beq_eq_false_iff_ne.2 (fun e => h 4 (by omega) e.symm)
  have k5 : (Nm.fold [77, 88] == Nm.fold s) = false := beq_eq_false_iff_ne.2 (fun e => h 5 (by omega) e.symm)
  have k6 : (Nm.fold [84, 88, 84] == Nm.fold s) = false := beq_eq_false_iff_ne.2 (fun e => h 6 (by omega) e.symm)
  have k7 : (Nm.fold [65, 65, 65, 65] == Nm.fold s) = false := beq_eq_false_iff_ne.2 (fun e => h 7 (by omega) e.symm)
  have k8 : (Nm.fold [83, 82, 86] == Nm.fold s) = false := beq_eq_false_iff_ne.2 (fun e => h 8 (by omega) e.symm)
  unfold tyOf tyTab
  simp only [List.find?, k0, k1, k2, k3, k4, k5, k6, k7, k8]
end Rd
def tyCells : Array Value := #[.int .u16 1, .int .u16 2, .int .u16 5, .int .u16 6, .int .u16 12, .int .u16 15, .int .u16 16, .int .u16 28, .int .u16 33]
def txCells : Array Value := #[.string ⟨#[65]⟩, .string ⟨#[78, 83]⟩, .string ⟨#[67, 78, 65, 77, 69]⟩, .string ⟨#[83, 79, 65]⟩, .string ⟨#[80, 84, 82]⟩, .string ⟨#[77, 88]⟩, .string ⟨#[84, 88, 84]⟩, .string ⟨#[65, 65, 65, 65]⟩, .string ⟨#[83, 82, 86]⟩]
theorem tyCell {W : World} {g k : Nat} {t : TypeId} (h : Has W g t tyCells) (hk : k < 9) : W.cell? ⟨g, k, none⟩ = some (.int .u16 (Rd.ty k : Nat)) := by
  rw [h.cell]
  exact Rd.nine (p := fun k => tyCells[k]? = some (.int .u16 (Rd.ty k : Nat))) hk rfl rfl rfl rfl rfl rfl rfl rfl rfl
theorem txCell {W : World} {g k : Nat} {t : TypeId} (h : Has W g t txCells) (hk : k < 9) : W.cell? ⟨g, k, none⟩ = some (sv (Rd.txt k)) := by
  rw [h.cell]
  exact Rd.nine (p := fun k => txCells[k]? = some (sv (Rd.txt k))) hk rfl rfl rfl rfl rfl rfl rfl rfl rfl
set_option maxRecDepth 100000 in
theorem rdTable_any (w : World) :
    Calls Tryd.prog 13 #[] w fun e w' => e = .returned (.tuple #[.slice (some ⟨w.heap.size, 0, none⟩) 9 9, .slice (some ⟨w.heap.size + 1, 0, none⟩) 9 9]) ∧ Has w' w.heap.size 22 tyCells ∧ Has w' (w.heap.size + 1) 9 txCells ∧ Below w.heap.size w w' := by
  go_enter Tryd.func13, Tryd.ntmps13
  go_wp2
  go_ret2
  have h1 := Has.fresh (w.alloc (.cells tyCells 22)) 9 txCells
  rw [World.size_alloc] at h1
  exact ⟨rfl, (Has.fresh w 22 tyCells).alloc _, h1, ((Below.refl _ _).alloc (Nat.le_refl _) _).alloc (by simp) _⟩
set_option maxHeartbeats 1000000 in
set_option maxRecDepth 100000 in
theorem rdTypeText_any (t : Nat) (w : World) (ht : t ≤ 65535) :
    Calls Tryd.prog 7 #[.int .u16 t] w fun e w' => e = .returned (sv (Rd.tyText t)) ∧ Below w.heap.size w w' := by
  obtain ⟨R, hR⟩ : ∃ R, Rd.tyText t = R := ⟨_, rfl⟩
  rw [hR]
  have HR := Lib.hid hR
  clear hR
  have HD := Lib.hid (fun W : World => rdDigits_any t W (by omega))
  go_enter Tryd.func7, Tryd.ntmps7
  go_wp2_with (go_at_call 13; refine (rdTable_any _).mono ?_; rintro e' w1 ⟨rfl, h1, h2, B1⟩; have H1 := Lib.hid h1; have H2 := Lib.hid h2; have HB := Lib.hid B1; have hs1 := B1.size; clear h1 h2 B1)
  go_loop [5] (fun i => ∃ k : Nat, i = .int .i64 k ∧ k ≤ 9 ∧ Hid (∀ j, j < k → Rd.ty j ≠ t)) (fun i => 9 - (intOf i).toNat)
  case atStart => exact ⟨0, rfl, Nat.zero_le _, fun j hj => absurd hj (by omega)⟩
  case round =>
    obtain ⟨k, rfl, hk, HJ⟩ := hrel
    by_cases hk9 : k < 9
    · have c1 := tyCell H1.out hk9
      have c2 := txCell H2.out hk9
      have hty := Rd.ty_le k
      obtain ⟨y, hy⟩ : ∃ y, Rd.ty k = y := ⟨_, rfl⟩
      obtain ⟨x, hx⟩ : ∃ x, Rd.txt k = x := ⟨_, rfl⟩
      rw [hy] at c1 hty
      rw [hx] at c2
      by_cases hyt : y = t
      · subst hyt
        have HQ : Hid (R = x) := by
          have := Rd.tyText_at hk9
          rw [hy, HR.out, hx] at this
          exact this
        clear hy hx
        go_wp2
        go_ret
        exact ⟨by rw [HQ.out]; rfl, HB.out⟩
      · have HQ : Hid (∀ j, j < k + 1 → Rd.ty j ≠ t) := fun j hj => (Nat.lt_succ_iff_lt_or_eq.1 hj).elim (HJ.out j) (fun e => by subst e; rw [hy]; exact hyt)
        have hne : ((y : Int) == (t : Int)) = false := by simp; omega
        clear hy hx
        go_wp2
        go_round
        case rel => exact ⟨k + 1, by go_num, by omega, HQ.out⟩
        case measure => simp [intOf]; omega
    · obtain rfl : k = 9 := by omega
      have HQ : Hid (R = [84, 89, 80, 69] ++ Rd.dec t) := by
        have := Rd.tyText_no HJ.out
        rw [HR.out] at this
        exact this
      have hdl : (Rd.dec t).length ≤ 65536 := by have := Rd.dec_len t; omega
      go_wp2_with (go_at_call 16; refine (HD.out _).mono ?_; rintro e' w2 ⟨rfl, B2⟩)
      go_ret
      exact ⟨by rw [HQ.out, ← sv_cat]; rfl, HB.out.trans (B2.mono hs1)⟩
end Go.Proofs.YtpinhpnmnfcdoaaDoor
/- The document's answer on data: a number that a text tells, a type's number. -/
namespace Go.Proofs.YtpinhpnmnfcdoaaDoor
open Go.RowKit

namespace Rd
def val (l : By) : Nat := l.foldl (fun v c => 10 * v + (c.toNat - 48)) 0
theorem val_snoc (l : By) (c : UInt8) : val (l ++ [c]) = 10 * val l + (c.toNat - 48) := by unfold val; rw [List.foldl_append]; rfl
def digs (l : By) : Bool := l.all (fun c => decide (48 ≤ c.toNat) && decide (c.toNat ≤ 57))
theorem digs_snoc (l : By) (c : UInt8) : digs (l ++ [c]) = (digs l && (decide (48 ≤ c.toNat) && decide (c.toNat ≤ 57))) := by unfold digs; rw [List.all_append]; simp
theorem val_take {s : By} {k : Nat} (hk : k < s.length) : val (s.take (k + 1)) = 10 * val (s.take k) + ((s[k]'hk).toNat - 48) := by
  rw [List.take_add_one, List.getElem?_eq_getElem hk]
  exact val_snoc _ _
theorem digs_take {s : By} {k : Nat} (hk : k < s.length) : digs (s.take (k + 1)) = (digs (s.take k) && (decide (48 ≤ (s[k]'hk).toNat) && decide ((s[k]'hk).toNat ≤ 57))) := by
  rw [List.take_add_one, List.getElem?_eq_getElem hk]
  exact digs_snoc _ _
theorem digs_no {s : By} {k : Nat} (hk : k < s.length) (h : ¬ (48 ≤ (s[k]'hk).toNat ∧ (s[k]'hk).toNat ≤ 57)) : digs s = false := by
  cases hd : digs s with
  | false => rfl
  | true =>
    have := List.all_eq_true.1 hd _ (List.getElem_mem hk)
    simp only [Bool.and_eq_true, decide_eq_true_eq] at this
    exact absurd this h
theorem num_bad {s : By} {most : Nat} (h : s.length = 0 ∨ (1 < s.length ∧ s.head? = some 48) ∨ 12 < s.length) : num s most = none := by unfold num; rw [if_pos h]
theorem num_nodig {s : By} {most : Nat} (h : digs s = false) : num s most = none := by
  unfold num
  split
  · rfl
  · unfold digs at h
    rw [h]; rfl
theorem num_dig {s : By} {most : Nat} (h0 : ¬ (s.length = 0 ∨ (1 < s.length ∧ s.head? = some 48) ∨ 12 < s.length)) (h : digs s = true) : num s most = if most < val s then none else some (val s) := by
  unfold num
  rw [if_neg h0]
  unfold digs at h
  rw [h]
  rfl
theorem head_of {s : ByteArray} (h : 0 < s.size) : s.data.toList.head? = some s[0] := by
  rw [rd_cons_of s h]; rfl
end Rd
/-- what Number answers. -/
def numV : Option Nat → Value
  | some v => .tuple #[.int .u64 v, .bool true]
  | none => .tuple #[.int .u64 0, .bool false]
set_option maxHeartbeats 1000000 in
set_option maxRecDepth 100000 in
theorem rdNumber_any (s : ByteArray) (most : Nat) (w : World) (hs : s.size ≤ 140737488355328) (_hm : most ≤ 4294967295) :
    Calls Tryd.prog 14 #[.string s, .int .u64 most] w fun e w' => e = .returned (numV (Rd.num s.data.toList most)) ∧ w = w' := by
  have hl : s.data.toList.length = s.size := by simp
  obtain ⟨R, hR⟩ : ∃ R, Rd.num s.data.toList most = R := ⟨_, rfl⟩
  rw [hR]
  have HR := Lib.hid hR
  have HL := Lib.hid hl
  clear hR hl
  by_cases h0 : s.size = 0
  · have HQ : Hid (R = none) := by rw [← HR.out]; exact Rd.num_bad (.inl (by rw [HL.out]; exact h0))
    go_enter Tryd.func14, Tryd.ntmps14
    go_wp2
    go_ret2
    exact ⟨by rw [HQ.out]; rfl, rfl⟩
  · have hpos : 0 < s.size := by omega
    have hb0 : ((s.size : Int) == 0) = false := beq_eq_false_iff_ne.2 (by omega)
    by_cases h12 : 12 < s.size
    · have HQ : Hid (R = none) := by rw [← HR.out]; exact Rd.num_bad (.inr (.inr (by rw [HL.out]; exact h12)))
      by_cases h48 : s[0].toNat = 48
      · go_enter Tryd.func14, Tryd.ntmps14
        go_wp2
        go_ret2
        exact ⟨by rw [HQ.out]; rfl, rfl⟩
      · have hb48 : ((s[0].toNat : Int) == 48) = false := beq_eq_false_iff_ne.2 (by omega)
        go_enter Tryd.func14, Tryd.ntmps14
        go_wp2
        go_ret2
        exact ⟨by rw [HQ.out]; rfl, rfl⟩
    · by_cases hz : 1 < s.size ∧ s[0].toNat = 48
      · obtain ⟨hz1, hz2⟩ := hz
        have HQ : Hid (R = none) := by
          rw [← HR.out]
          refine Rd.num_bad (.inr (.inl ⟨by rw [HL.out]; exact hz1, ?_⟩))
          rw [Rd.head_of hpos]
          congr 1
          exact UInt8.toNat_inj.1 hz2
        go_enter Tryd.func14, Tryd.ntmps14
        go_wp2
        go_ret2
        exact ⟨by rw [HQ.out]; rfl, rfl⟩
      · have HNB : Hid (¬ (s.data.toList.length = 0 ∨ (1 < s.data.toList.length ∧ s.data.toList.head? = some 48) ∨ 12 < s.data.toList.length)) := by
          show ¬ _
          rw [HL.out, Rd.head_of hpos]
          rintro (h | ⟨h1, h2⟩ | h)
          · omega
          · injection h2 with h2
            exact hz ⟨h1, by rw [h2]; rfl⟩
          · omega
        by_cases hone : s.size = 1
        · have hb1 : ¬ (1 : Int) < s.size := by omega
          clear hz
          go_enter Tryd.func14, Tryd.ntmps14
          go_wp2
          go_loop [6, 7] (fun v i => ∃ k : Nat, i = .int .i64 k ∧ k ≤ s.size ∧ v = .int .u64 (Rd.val (s.data.toList.take k) : Nat) ∧ Hid (Rd.val (s.data.toList.take k) < 10 ^ k) ∧ Hid (Rd.digs (s.data.toList.take k) = true)) (fun _ i => s.size - (intOf i).toNat)
          case atStart => exact ⟨0, rfl, Nat.zero_le _, rfl, by show 0 < 10 ^ 0; decide, rfl⟩
          case round =>
            obtain ⟨k, rfl, hk, rfl, HV, HG⟩ := hrel
            have hp10 : 10 ^ k ≤ 10 ^ 12 := Nat.pow_le_pow_right (by omega) (by omega)
            have hvb : Rd.val (s.data.toList.take k) < 1000000000000 := Nat.lt_of_lt_of_le HV.out hp10
            clear hp10
            by_cases hlt : k < s.size
            · have h8 : s[k].toNat < 256 := s[k].toNat_lt
              have e1 : s.data.toList[k]'(by rw [HL.out]; exact hlt) = s[k] := rfl
              by_cases hdg : 48 ≤ s[k].toNat ∧ s[k].toNat ≤ 57
              · have hvt := Rd.val_take (s := s.data.toList) (k := k) (by rw [HL.out]; exact hlt)
                have hgt := Rd.digs_take (s := s.data.toList) (k := k) (by rw [HL.out]; exact hlt)
                rw [e1] at hvt hgt
                have HG2 : Hid (Rd.digs (s.data.toList.take (k + 1)) = true) := by
                  show _ = _
                  rw [hgt, HG.out]; simp [hdg]
                have HV2 : Hid (Rd.val (s.data.toList.take (k + 1)) < 10 ^ (k + 1)) := by
                  show _ < _
                  have := HV.out
                  rw [hvt, Nat.pow_succ]; omega
                have HVT := Lib.hid hvt
                clear hvt hgt e1
                generalize Rd.val (s.data.toList.take k) = v at *
                go_wp2
                go_round
                case rel => exact ⟨k + 1, by go_num, by omega, by rw [HVT.out]; go_num, HV2.out, HG2.out⟩
                case measure => simp [intOf]; omega
              · have HQ : Hid (R = none) := by rw [← HR.out]; exact Rd.num_nodig (Rd.digs_no (by rw [HL.out]; exact hlt) (by rw [e1]; exact hdg))
                clear e1
                generalize Rd.val (s.data.toList.take k) = v at *
                by_cases hd2 : s[k].toNat < 48
                · go_wp2
                  go_ret2
                  exact ⟨by rw [HQ.out]; rfl, rfl⟩
                · have hd3 : 57 < s[k].toNat := by omega
                  go_wp2
                  go_ret2
                  exact ⟨by rw [HQ.out]; rfl, rfl⟩
            · obtain rfl : k = s.size := by omega
              have et : s.data.toList.take s.size = s.data.toList := List.take_of_length_le (by rw [HL.out]; exact Nat.le_refl _)
              rw [et] at hvb HG ⊢
              have HN := Lib.hid (Rd.num_dig (most := most) HNB.out HG.out)
              rw [HR.out] at HN
              clear et
              obtain ⟨v, hv⟩ : ∃ v, Rd.val s.data.toList = v := ⟨_, rfl⟩
              rw [hv] at HN hvb ⊢
              clear hv
              by_cases hmo : most < v
              · rw [if_pos hmo] at HN
                go_wp2
                go_ret2
                exact ⟨by rw [HN.out]; rfl, rfl⟩
              · rw [if_neg hmo] at HN
                go_wp2
                go_ret2
                exact ⟨by rw [HN.out]; rfl, rfl⟩
        · have hb48 : ((s[0].toNat : Int) == 48) = false := beq_eq_false_iff_ne.2 (by omega)
          have hb1 : (1 : Int) < s.size := by omega
          clear hz
          go_enter Tryd.func14, Tryd.ntmps14
          go_wp2
          go_loop [6, 7] (fun v i => ∃ k : Nat, i = .int .i64 k ∧ k ≤ s.size ∧ v = .int .u64 (Rd.val (s.data.toList.take k) : Nat) ∧ Hid (Rd.val (s.data.toList.take k) < 10 ^ k) ∧ Hid (Rd.digs (s.data.toList.take k) = true)) (fun _ i => s.size - (intOf i).toNat)
          case atStart => exact ⟨0, rfl, Nat.zero_le _, rfl, by show 0 < 10 ^ 0; decide, rfl⟩
          case round =>
            obtain ⟨k, rfl, hk, rfl, HV, HG⟩ := hrel
            have hp10 : 10 ^ k ≤ 10 ^ 12 := Nat.pow_le_pow_right (by omega) (by omega)
            have hvb : Rd.val (s.data.toList.take k) < 1000000000000 := Nat.lt_of_lt_of_le HV.out hp10
            clear hp10
            by_cases hlt : k < s.size
            · have h8 : s[k].toNat < 256 := s[k].toNat_lt
              have e1 : s.data.toList[k]'(by rw [HL.out]; exact hlt) = s[k] := rfl
              by_cases hdg : 48 ≤ s[k].toNat ∧ s[k].toNat ≤ 57
              · have hvt := Rd.val_take (s := s.data.toList) (k := k) (by rw [HL.out]; exact hlt)
                have hgt := Rd.digs_take (s := s.data.toList) (k := k) (by rw [HL.out]; exact hlt)
                rw [e1] at hvt hgt
                have HG2 : Hid (Rd.digs (s.data.toList.take (k + 1)) = true) := by
                  show _ = _
                  rw [hgt, HG.out]; simp [hdg]
                have HV2 : Hid (Rd.val (s.data.toList.take (k + 1)) < 10 ^ (k + 1)) := by
                  show _ < _
                  have := HV.out
                  rw [hvt, Nat.pow_succ]; omega
                have HVT := Lib.hid hvt
                clear hvt hgt e1
                generalize Rd.val (s.data.toList.take k) = v at *
                go_wp2
                go_round
                case rel => exact ⟨k + 1, by go_num, by omega, by rw [HVT.out]; go_num, HV2.out, HG2.out⟩
                case measure => simp [intOf]; omega
              · have HQ : Hid (R = none) := by rw [← HR.out]; exact Rd.num_nodig (Rd.digs_no (by rw [HL.out]; exact hlt) (by rw [e1]; exact hdg))
                clear e1
                generalize Rd.val (s.data.toList.take k) = v at *
                by_cases hd2 : s[k].toNat < 48
                · go_wp2
                  go_ret2
                  exact ⟨by rw [HQ.out]; rfl, rfl⟩
                · have hd3 : 57 < s[k].toNat := by omega
                  go_wp2
                  go_ret2
                  exact ⟨by rw [HQ.out]; rfl, rfl⟩
            · obtain rfl : k = s.size := by omega
              have et : s.data.toList.take s.size = s.data.toList := List.take_of_length_le (by rw [HL.out]; exact Nat.le_refl _)
              rw [et] at hvb HG ⊢
              have HN := Lib.hid (Rd.num_dig (most := most) HNB.out HG.out)
              rw [HR.out] at HN
              clear et
              obtain ⟨v, hv⟩ : ∃ v, Rd.val s.data.toList = v := ⟨_, rfl⟩
              rw [hv] at HN hvb ⊢
              clear hv
              by_cases hmo : most < v
              · rw [if_pos hmo] at HN
                go_wp2
                go_ret2
                exact ⟨by rw [HN.out]; rfl, rfl⟩
              · rw [if_neg hmo] at HN
                go_wp2
                go_ret2
                exact ⟨by rw [HN.out]; rfl, rfl⟩
end Go.Proofs.YtpinhpnmnfcdoaaDoor
/- What strconv.ParseUint says of digits, against the document's number. Nothing of the program. -/
namespace Go.Proofs.YtpinhpnmnfcdoaaDoor.Rd

def vl (a : Nat) (l : By) : Nat := l.foldl (fun v c => 10 * v + (c.toNat - 48)) a
theorem vl_ge : ∀ (l : By) (a : Nat), a * 10 ^ l.length ≤ vl a l := by
  intro l
  induction l with
  | nil => intro a; simp [vl]
  | cons c r ih =>
    intro a
    show a * 10 ^ (r.length + 1) ≤ vl (10 * a + (c.toNat - 48)) r
    refine Nat.le_trans ?_ (ih _)
    rw [Nat.pow_succ, Nat.mul_comm (10 ^ r.length) 10, ← Nat.mul_assoc, Nat.mul_comm a 10]
    exact Nat.mul_le_mul_right _ (by omega)
theorem vl_le : ∀ (l : By) (a : Nat), a ≤ vl a l := fun l a => Nat.le_trans (Nat.le_mul_of_pos_right a (Nat.pow_pos (by omega))) (vl_ge l a)
theorem parseM_iff {M : Nat} (hM : M ≤ 65535) : ∀ (l : By) (a v : Nat), a ≤ M → (Lib.parseUintM M a l = .ok v ↔ digs l = true ∧ vl a l = v ∧ v ≤ M) := by
  intro l
  induction l with
  | nil =>
    intro a v ha
    constructor
    · intro h
      have h2 : (Lib.NumEnd.ok a : Lib.NumEnd Nat) = .ok v := h
      injection h2 with h2
      subst h2
      exact ⟨rfl, rfl, ha⟩
    · rintro ⟨_, h, _⟩
      have h2 : a = v := h
      subst h2
      rfl
  | cons c r ih =>
    intro a v ha
    rw [Lib.parseUintM]
    have hd : digs (c :: r) = ((decide (48 ≤ c.toNat) && decide (c.toNat ≤ 57)) && digs r) := rfl
    have hv : vl a (c :: r) = vl (10 * a + (c.toNat - 48)) r := rfl
    by_cases hc : 48 ≤ c.toNat ∧ c.toNat ≤ 57
    · rw [if_pos hc, if_neg (by omega), hd, hv, show a * 10 = 10 * a from by omega]
      have h9 : (decide (48 ≤ c.toNat) && decide (c.toNat ≤ 57)) = true := by simpa using hc
      rw [h9, Bool.true_and]
      by_cases hm : M < 10 * a + (c.toNat - 48)
      · rw [if_pos hm]
        constructor
        · intro h; cases h
        · rintro ⟨_, h, h2⟩
          have := vl_le r (10 * a + (c.toNat - 48))
          omega
      · rw [if_neg hm]
        exact ih _ _ (by omega)
    · rw [if_neg hc, hd]
      have h9 : (decide (48 ≤ c.toNat) && decide (c.toNat ≤ 57)) = false := by
        rw [Bool.eq_false_iff]; simpa using hc
      rw [h9]
      constructor
      · intro h; cases h
      · rintro ⟨h, _⟩; cases h
theorem parse16 {l : By} (hz : ¬ (1 < l.length ∧ l.head? = some 48)) (v : Nat) : Lib.parseUintB 16 l = .ok v ↔ num l 65535 = some v := by
  unfold Lib.parseUintB
  by_cases h0 : l = []
  · subst h0
    rw [if_pos rfl, num_bad (.inl rfl)]
    constructor <;> intro h <;> cases h
  · rw [if_neg h0, parseM_iff (M := 2 ^ 16 - 1) (by decide) l 0 v (by decide)]
    have hl0 : l.length ≠ 0 := fun e => h0 (List.eq_nil_of_length_eq_zero e)
    have hvv : vl 0 l = val l := rfl
    rw [hvv]
    by_cases hd : digs l = true
    · by_cases h12 : 12 < l.length
      · rw [num_bad (.inr (.inr h12))]
        constructor
        · rintro ⟨_, h, h2⟩
          exfalso
          match l, hl0, hz, hd, h12, h with
          | c :: r, _, hz, hd, h12, h =>
            have hc : 48 ≤ c.toNat ∧ c.toNat ≤ 57 := by
              have := List.all_eq_true.1 hd c (by simp)
              simpa using this
            have hne : c.toNat ≠ 48 := fun e => hz ⟨by omega, by simp only [List.head?_cons]; congr 1; exact UInt8.toNat_inj.1 e⟩
            have hg := vl_ge r (10 * 0 + (c.toNat - 48))
            have hval : val (c :: r) = vl (10 * 0 + (c.toNat - 48)) r := rfl
            have hp : 10 ^ 12 ≤ 10 ^ r.length := Nat.pow_le_pow_right (by omega) (by simp at h12; omega)
            have h1 : 1 * 10 ^ r.length ≤ (10 * 0 + (c.toNat - 48)) * 10 ^ r.length := Nat.mul_le_mul_right _ (by omega)
            have hq : (10 : Nat) ^ 12 = 1000000000000 := by decide
            have hq2 : (2 : Nat) ^ 16 - 1 = 65535 := by decide
            omega
        · intro h; cases h
      · rw [num_dig (by intro h; rcases h with h | h | h; exact hl0 h; exact hz h; exact h12 h) hd]
        have hq2 : (2 : Nat) ^ 16 - 1 = 65535 := by decide
        rw [hq2]
        by_cases hm : 65535 < val l
        · rw [if_pos hm]
          constructor
          · rintro ⟨_, h, h2⟩; omega
          · intro h; cases h
        · rw [if_neg hm]
          constructor
          · rintro ⟨_, h, _⟩; rw [h]
          · intro h; injection h with h; exact ⟨hd, h, by omega⟩
    · rw [num_nodig (by simpa using hd)]
      constructor
      · rintro ⟨h, _⟩; exact absurd h hd
      · intro h; cases h
theorem small_dig (c : UInt8) : (48 ≤ (Nm.small c).toNat ∧ (Nm.small c).toNat ≤ 57) ↔ (48 ≤ c.toNat ∧ c.toNat ≤ 57) := by
  rw [Nm.small_val]
  split <;> omega
theorem small_id (c : UInt8) (h : 48 ≤ c.toNat ∧ c.toNat ≤ 57) : Nm.small c = c := by
  refine UInt8.toNat_inj.1 ?_
  rw [Nm.small_val, if_neg (by omega)]
theorem num_fold (l : By) (m : Nat) : num (Nm.fold l) m = num l m := by
  have hd : digs (Nm.fold l) = digs l := by
    unfold digs Nm.fold
    rw [List.all_map]
    congr 1
    funext c
    simp only [Function.comp_apply]
    rw [Bool.eq_iff_iff]
    simpa using small_dig c
  by_cases h : digs l = true
  · have : Nm.fold l = l := by
      unfold Nm.fold
      refine (List.map_congr_left (g := id) (fun c hc => ?_)).trans (List.map_id _)
      have := List.all_eq_true.1 h c hc
      exact small_id c (by simpa using this)
    rw [this]
  · rw [num_nodig (by rw [hd]; simpa using h), num_nodig (by simpa using h)]
end Go.Proofs.YtpinhpnmnfcdoaaDoor.Rd
/- The document's answer on data: a text's type. -/
namespace Go.Proofs.YtpinhpnmnfcdoaaDoor
open Go.RowKit

theorem rd_strEq {a n : ByteArray} (h : a.data.toList = n.data.toList) : (a.toList == n.toList) = true :=
  (beq_toListBytes a n).symm.trans <| (MapKept.bytes_beq _ _).2 (by rw [string_eq (s := a) rfl, string_eq (s := n) rfl, h])
theorem rd_strNe {a n : ByteArray} (h : a.data.toList ≠ n.data.toList) : (a.toList == n.toList) = false := by
  rw [← beq_toListBytes, Bool.eq_false_iff]
  intro hb
  have := (MapKept.bytes_beq _ _).1 hb
  subst this
  exact h rfl
theorem sv_str (l : List UInt8) : ∃ s : ByteArray, sv l = .string s ∧ s.data.toList = l := ⟨⟨l.toArray⟩, rfl, rfl⟩
theorem fold_len (l : List UInt8) : (Nm.fold l).length = l.length := by simp [Nm.fold]
/-- what TypeOf answers. -/
def tyV : Option Nat → Value
  | some v => .tuple #[.int .u16 v, .bool true]
  | none => .tuple #[.int .u16 0, .bool false]
theorem Rd.num_le {s : By} {most v : Nat} (h : num s most = some v) : v ≤ most := by
  unfold num at h
  split at h
  · cases h
  · split at h
    · dsimp only at h
      split at h
      · cases h
      · injection h with h; omega
    · cases h
set_option maxHeartbeats 2000000 in
set_option maxRecDepth 100000 in
theorem rdTypeOf_any (s : ByteArray) (w : World) (hs : s.size ≤ 140737488355328) :
    Calls Tryd.prog 5 #[.string s] w fun e w' => e = .returned (tyV (Rd.tyOf s.data.toList)) ∧ Below w.heap.size w w' := by
  obtain ⟨R, hR⟩ : ∃ R, Rd.tyOf s.data.toList = R := ⟨_, rfl⟩
  rw [hR]
  have HR := Lib.hid hR
  have HLW := Lib.hid (fun W : World => Low_any s W hs)
  have HLX := Lib.hid (fun (k : Nat) (W : World) => Low_any ⟨(Rd.txt k).toArray⟩ W (by rw [mk_size]; have := Rd.txt_len k; omega))
  obtain ⟨low, hlow⟩ : ∃ low : ByteArray, (⟨(Nm.fold s.data.toList).toArray⟩ : ByteArray) = low := ⟨_, rfl⟩
  rw [hlow] at HLW
  have HLO : Hid (low.data.toList = Nm.fold s.data.toList) := by show _ = _; rw [← hlow]
  have hfl : low.size = s.size := by
    have e := congrArg List.length HLO.out
    rw [fold_len] at e
    have e1 : low.data.toList.length = low.size := by simp
    have e2 : s.data.toList.length = s.size := by simp
    omega
  have hfl1 : low.size ≤ s.size := by omega
  have hfl2 : s.size ≤ low.size := by omega
  clear hR hlow hfl
  go_enter Tryd.func5, Tryd.ntmps5
  go_wp2_with (first
    | (go_at_call 12; refine (HLW.out _).mono ?_; rintro e' w1 ⟨rfl, B1⟩; have HB1 := Lib.hid B1; have hs1 := B1.size; clear B1)
    | (go_at_call 13; refine (rdTable_any _).mono ?_; rintro e' w2 ⟨rfl, h1, h2, B2⟩; have H1 := Lib.hid h1; have H2 := Lib.hid h2; have HB := Lib.hid (HB1.out.trans (B2.mono hs1)); have hs2 := B2.size; clear h1 h2 B2))
  go_loopw [7] (fun i wr => ∃ k : Nat, i = .int .i64 k ∧ k ≤ 9 ∧ Hid (∀ j, j < k → Nm.fold s.data.toList ≠ Nm.fold (Rd.txt j)) ∧ Hid (Has wr w1.heap.size 22 tyCells) ∧ Hid (Has wr (w1.heap.size + 1) 9 txCells) ∧ Hid (Below w.heap.size w wr)) (fun i _ => 9 - (intOf i).toNat)
  case atStart => exact ⟨0, rfl, Nat.zero_le _, fun j hj => absurd hj (by omega), H1.out, H2.out, HB.out⟩
  case round =>
    obtain ⟨k, rfl, hk, HJ, H1, H2, HB⟩ := hrel
    have hsw := HB.out.size
    by_cases hk9 : k < 9
    · have c1 := tyCell H1.out hk9
      have c2 := txCell H2.out hk9
      have hty := Rd.ty_le k
      have HX := Lib.hid (HLX.out k)
      have HT : Hid (Nm.fold s.data.toList = Nm.fold (Rd.txt k) → R = some (Rd.ty k)) := fun h => by rw [← HR.out]; exact Rd.tyOf_at hk9 h
      obtain ⟨y, hy⟩ : ∃ y, Rd.ty k = y := ⟨_, rfl⟩
      obtain ⟨f, hf⟩ : ∃ f : ByteArray, (⟨(Nm.fold (Rd.txt k)).toArray⟩ : ByteArray) = f := ⟨_, rfl⟩
      obtain ⟨x, hx, hx2⟩ := sv_str (Rd.txt k)
      have HF : Hid (f.data.toList = Nm.fold (Rd.txt k)) := by show _ = _; rw [← hf]
      rw [hy] at c1 hty HT
      rw [hx] at c2
      have HX2 : Hid (∀ W : World, Calls Tryd.prog 12 #[.string x] W fun e w' => e = .returned (.string f) ∧ Below W.heap.size W w') := fun W => by
        have := HX.out W
        rw [show Value.string ⟨(Rd.txt k).toArray⟩ = .string x from hx] at this
        exact this.mono fun e w' ⟨he, hb⟩ => ⟨by rw [he, ← hf], hb⟩
      have HY := Lib.hid hy
      clear hy hx hx2 hf HX
      by_cases he : low.data.toList = f.data.toList
      · have HQ : Hid (R = some y) := HT.out (by rw [← HLO.out, he, HF.out])
        have hq := rd_strEq he
        clear he
        go_wp2_with (go_at_call 12; refine (HX2.out _).mono ?_; rintro e' w3 ⟨rfl, B3⟩; have c3 := tyCell (H1.out.below B3 H1.out.lt) hk9; rw [HY.out] at c3; have HB3 := Lib.hid (HB.out.trans (B3.mono hsw)); clear B3)
        go_ret2
        exact ⟨by rw [HQ.out]; rfl, HB3.out⟩
      · have HQ : Hid (∀ j, j < k + 1 → Nm.fold s.data.toList ≠ Nm.fold (Rd.txt j)) := fun j hj => (Nat.lt_succ_iff_lt_or_eq.1 hj).elim (HJ.out j) (fun e => by subst e; exact fun e => he (by rw [HLO.out, e, HF.out]))
        have hq := rd_strNe he
        clear he
        go_wp2_with (go_at_call 12; refine (HX2.out _).mono ?_; rintro e' w3 ⟨rfl, B3⟩; have HH1 := Lib.hid (H1.out.below B3 H1.out.lt); have HH2 := Lib.hid (H2.out.below B3 H2.out.lt); have HB3 := Lib.hid (HB.out.trans (B3.mono hsw)); clear B3)
        go_roundw
        case rel => exact ⟨k + 1, by go_num, by omega, HQ.out, HH1.out, HH2.out, HB3.out⟩
        case measure => simp [intOf]; omega
    · obtain rfl : k = 9 := by omega
      have HT := Lib.hid (Rd.tyOf_no HJ.out)
      rw [HR.out] at HT
      by_cases h4 : low.size < 4
      · have HQ : Hid (R = none) := by
          rw [HT.out, if_neg]
          · rfl
          · intro e
            have e1 := congrArg List.length e
            have e2 : low.data.toList.length = low.size := by simp
            rw [← HLO.out, List.length_take] at e1
            simp at e1
            omega
        clear HT
        go_wp2
        go_ret2
        exact ⟨by rw [HQ.out]; rfl, HB.out⟩
      · obtain ⟨b, hb⟩ : ∃ b, ((low.extract 0 4).toList == (⟨#[116, 121, 112, 101]⟩ : ByteArray).toList) = b := ⟨_, rfl⟩
        have HBB := Lib.hid hb
        have e0 : (⟨#[116, 121, 112, 101]⟩ : ByteArray).toList = [116, 121, 112, 101] := by kernel_rfl
        rw [e0] at hb
        have ex : (low.extract 0 4).data.toList = (Nm.fold s.data.toList).take 4 := by rw [extract_list, HLO.out]; rfl
        cases b with
        | true =>
          have hy : (Nm.fold s.data.toList).take 4 = [116, 121, 112, 101] := by
            rw [← ex]
            by_cases hh : (low.extract 0 4).data.toList = (⟨#[116, 121, 112, 101]⟩ : ByteArray).data.toList
            · exact hh
            · have := rd_strNe hh
              rw [HBB.out] at this; cases this
          rw [if_pos hy] at HT
          have hen := rdNumber_any (s.extract 4 s.size) 65535
          have hes : (s.extract 4 s.size).data.toList = s.data.toList.drop 4 := by rw [extract_list, List.take_of_length_le (by simp)]
          rw [hes] at hen
          have HEN := Lib.hid hen
          have hsx : (s.extract 4 s.size).size ≤ 140737488355328 := by simp; omega
          clear hes hen hy ex e0
          rcases hnum : Rd.num (s.data.toList.drop 4) 65535 with _ | v
          · rw [hnum] at HEN HT
            have HEN2 : Hid (∀ W : World, Calls Tryd.prog 14 #[.string (s.extract 4 s.size), .int .u64 65535] W fun e w' => e = .returned (.tuple #[.int .u64 0, .bool false]) ∧ W = w') := fun W => HEN.out W hsx (by omega)
            go_wp2_with (go_at_call 14; refine (HEN2.out _).mono ?_; rintro e' w5 ⟨rfl, rfl⟩)
            go_ret2
            exact ⟨by rw [HT.out]; rfl, HB.out⟩
          · have hv := Rd.num_le hnum
            rw [hnum] at HEN HT
            have HEN2 : Hid (∀ W : World, Calls Tryd.prog 14 #[.string (s.extract 4 s.size), .int .u64 65535] W fun e w' => e = .returned (.tuple #[.int .u64 v, .bool true]) ∧ W = w') := fun W => HEN.out W hsx (by omega)
            go_wp2_with (go_at_call 14; refine (HEN2.out _).mono ?_; rintro e' w5 ⟨rfl, rfl⟩)
            go_ret2
            exact ⟨by rw [HT.out]; rfl, HB.out⟩
        | false =>
          have hy : ¬ (Nm.fold s.data.toList).take 4 = [116, 121, 112, 101] := by
            rw [← ex]
            intro hh
            have := rd_strEq (a := low.extract 0 4) (n := ⟨#[116, 121, 112, 101]⟩) hh
            rw [HBB.out] at this; cases this
          rw [if_neg hy] at HT
          clear hy ex e0
          go_wp2
          go_ret2
          exact ⟨by rw [HT.out]; rfl, HB.out⟩
end Go.Proofs.YtpinhpnmnfcdoaaDoor
/- TypeText, and numbers that texts tell: the program's. -/
namespace Go.Proofs.YtpinhpnmnfcdoaaDoor
open Go.RowKit

theorem rowNum {w : World} (h : LayR w) {k : Nat} (hk : k < 9) : w.cell? ⟨0, k * 9, none⟩ = some (.int .u16 (Rd.ty k : Nat)) := by
  rw [h.cell]
  exact Rd.nine (p := fun k => rowsCells[k * 9]? = some (.int .u16 (Rd.ty k : Nat))) hk rfl rfl rfl rfl rfl rfl rfl rfl rfl
theorem rowTxt {w : World} (h : LayR w) {k : Nat} (hk : k < 9) : w.cell? ⟨0, k * 9 + 1, none⟩ = some (sv (Rd.txt k)) := by
  rw [h.cell]
  exact Rd.nine (p := fun k => rowsCells[k * 9 + 1]? = some (sv (Rd.txt k))) hk rfl rfl rfl rfl rfl rfl rfl rfl rfl
theorem small_s (s : ByteArray) (w : World) (hs : s.size ≤ 140737488355328) :
    Calls Tryd.prog 9 #[.string s] w fun e w' => e = .returned (sv (Nm.fold s.data.toList)) ∧ Below w.heap.size w w' := by
  have HF := Lib.hid (Fold_any s w hs)
  go_enter Tryd.func9, Tryd.ntmps9
  go_wp2_with (go_at_call 21; refine HF.out.mono ?_; rintro e w1 ⟨rfl, hb⟩)
  go_ret
  exact ⟨rfl, hb⟩
set_option maxHeartbeats 1000000 in
set_option maxRecDepth 100000 in
theorem TypeText_any (t : Nat) (w : World) (ht : t ≤ 65535) (hL : LayA w) :
    Calls Tryd.prog 6 #[.int .u16 t] w fun e w' => e = .returned (sv (Rd.tyText t)) ∧ Below w.heap.size w w' := by
  obtain ⟨R, hR⟩ : ∃ R, Rd.tyText t = R := ⟨_, rfl⟩
  rw [hR]
  have HRES := Lib.hid hR
  clear hR
  have HL := Lib.hid hL
  have HIT := Lib.hid (fun W (h : LayP W) => itoa_any t W (by omega) h)
  clear hL
  go_enter Tryd.func6, Tryd.ntmps6
  go_wp2
  go_loop [4] (fun i => ∃ k : Nat, i = .int .i64 k ∧ k ≤ 9 ∧ Hid (∀ j, j < k → Rd.ty j ≠ t)) (fun i => 9 - (intOf i).toNat)
  case atStart => exact ⟨0, rfl, by omega, fun j hj => absurd hj (by omega)⟩
  case round =>
    obtain ⟨k, rfl, hk, HJ⟩ := hrel
    by_cases hlt : k < 9
    · have c0 := rowNum HL.out.1 hlt
      have c1 := rowTxt HL.out.1 hlt
      have ha : (0 : Nat) = 0 := rfl
      by_cases he : Rd.ty k = t
      · have hr : R = Rd.txt k := by rw [← HRES.out, ← he, Rd.tyText_at hlt]
        have HR2 := Lib.hid hr
        clear hr
        rw [he] at c0
        generalize Rd.txt k = x at *
        clear he
        go_wp2
        go_ret
        exact ⟨by rw [HR2.out]; rfl, Below.refl _ _⟩
      · have hb : (((Rd.ty k : Nat) : Int) == (t : Int)) = false := beq_eq_false_iff_ne.2 (by omega)
        have hne := Lib.hid he
        clear he
        go_wp2
        go_round
        case rel => exact ⟨k + 1, by go_num, by omega, fun j hj => (Nat.lt_succ_iff_lt_or_eq.1 hj).elim (HJ.out j) (fun e => by subst e; exact hne.out)⟩
        case measure => simp [intOf]; omega
    · obtain rfl : k = 9 := by omega
      have hr : R = [84, 89, 80, 69] ++ Rd.dec t := by rw [← HRES.out]; exact Rd.tyText_no HJ.out
      have HR2 := Lib.hid hr
      clear hr
      have hdl : (Rd.dec t).length ≤ 65536 := by have := Rd.dec_len t; omega
      go_wp2_with (go_at_call 15; refine (HIT.out _ HL.out.2.1).mono ?_; rintro e w1 ⟨rfl, hb⟩)
      go_ret
      exact ⟨by rw [HR2.out, ← sv_cat]; rfl, hb⟩
/-- what number answers. -/
def uintV (o : Option Nat) : Value := match o with
  | some v => .tuple #[.int .u32 v, .bool true]
  | none => .tuple #[.int .u32 0, .bool false]
set_option maxRecDepth 100000 in
theorem parse16_ok (s : ByteArray) (w : World) (hs : s.size ≤ 140737488355328) (hz : ¬ (1 < s.data.toList.length ∧ s.data.toList.head? = some 48)) {v : Nat} (h : Rd.num s.data.toList 65535 = some v) :
    Calls Tryd.prog 23 #[.string s, .int .i64 10, .int .i64 16] w fun e w' => e = .returned (.tuple #[.int .u64 v, .nilIface]) ∧ Below w.heap.size w w' := by
  refine (Tryd.strconv_ParseUint_10_at16_ok s (by omega) v ((Rd.parse16 hz v).2 h) w).mono ?_
  rintro e w' ⟨rfl, rfl | rfl⟩
  · exact ⟨rfl, Below.refl _ _⟩
  · exact ⟨rfl, bytesWorld_below _ _ _⟩
set_option maxRecDepth 100000 in
theorem parse16_no (s : ByteArray) (w : World) (hL : Lay w) (hs : s.size ≤ 140737488355328) (hz : ¬ (1 < s.data.toList.length ∧ s.data.toList.head? = some 48)) (h : Rd.num s.data.toList 65535 = none) :
    Calls Tryd.prog 23 #[.string s, .int .i64 10, .int .i64 16] w fun e w' => ∃ x t a, e = .returned (.tuple #[.int .u64 x, .iface t (.pointer (some a))]) ∧ Below w.heap.size w w' := by
  obtain ⟨⟨t1, p1, h1⟩, t2, p2, h2⟩ := hL
  have hno : ∀ v, Lib.parseUintB 16 s.data.toList ≠ .ok v := fun v hv => by
    have := (Rd.parse16 hz v).1 hv
    rw [h] at this; cases this
  rcases hp : Lib.parseUintB 16 s.data.toList with v | _ | _
  · exact absurd hp (hno v)
  · refine (Tryd.strconv_ParseUint_10_at16_syntax s (by omega) hp _ w h1 (.inr ⟨_, _, rfl⟩)).mono ?_
    rintro e w' ⟨N, rfl, _, _, hb⟩
    exact ⟨_, _, _, rfl, hb⟩
  · refine (Tryd.strconv_ParseUint_10_at16_range s (by omega) hp _ w h2 (.inr ⟨_, _, rfl⟩)).mono ?_
    rintro e w' ⟨N, rfl, _, _, hb⟩
    exact ⟨_, _, _, rfl, hb⟩
set_option maxHeartbeats 1000000 in
set_option maxRecDepth 100000 in
theorem number16_any (s : ByteArray) (w : World) (hL : Lay w) (hs : s.size ≤ 140737488355328) :
    Calls Tryd.prog 11 #[.string s, .int .i64 16] w fun e w' => e = .returned (uintV (Rd.num s.data.toList 65535)) ∧ Below w.heap.size w w' := by
  have hl : s.data.toList.length = s.size := by simp
  have key : ∀ (hz : ¬ (1 < s.data.toList.length ∧ s.data.toList.head? = some 48)), (∃ v, v ≤ 65535 ∧ Rd.num s.data.toList 65535 = some v ∧ Calls Tryd.prog 23 #[.string s, .int .i64 10, .int .i64 16] w fun e w' => e = .returned (.tuple #[.int .u64 v, .nilIface]) ∧ Below w.heap.size w w') ∨
      (Rd.num s.data.toList 65535 = none ∧ Calls Tryd.prog 23 #[.string s, .int .i64 10, .int .i64 16] w fun e w' => ∃ x t a, e = .returned (.tuple #[.int .u64 x, .iface t (.pointer (some a))]) ∧ Below w.heap.size w w') := fun hz => by
    cases h : Rd.num s.data.toList 65535 with
    | some v => exact .inl ⟨v, Rd.num_le h, rfl, parse16_ok s w hs hz h⟩
    | none => exact .inr ⟨rfl, parse16_no s w hL hs hz h⟩
  by_cases h1 : 1 < s.size
  · have h0s : 0 < s.size := by clear hl key; omega
    have hd := Rd.head_of (s := s) h0s
    have hi1 : (1 : Int) < (s.size : Int) := by omega
    by_cases h48 : (s[0]'h0s).toNat = 48
    · have hn : Rd.num s.data.toList 65535 = none := Rd.num_bad (.inr (.inl ⟨by omega, by rw [hd]; congr 1; exact UInt8.toNat_inj.1 h48⟩))
      have HN := Lib.hid hn
      have hb : (((s[0]'h0s).toNat : Int) == 48) = true := by rw [h48]; rfl
      clear hn hd key hl h48
      go_enter Tryd.func11, Tryd.ntmps11
      go_wp2
      go_ret2
      exact ⟨by rw [HN.out]; rfl, Below.refl _ _⟩
    · have hz : ¬ (1 < s.data.toList.length ∧ s.data.toList.head? = some 48) := fun ⟨_, e⟩ => h48 (by rw [hd] at e; injection e with e; rw [e]; rfl)
      have hb : (((s[0]'h0s).toNat : Int) == 48) = false := beq_eq_false_iff_ne.2 (by omega)
      rcases key hz with ⟨v, hv, hn, hc⟩ | ⟨hn, hc⟩
      · have HN := Lib.hid hn
        have HC := Lib.hid hc
        clear hn hc hd key hl h48 hz
        go_enter Tryd.func11, Tryd.ntmps11
        go_wp2_with (go_at_call 23; refine HC.out.mono ?_; rintro e w1 ⟨rfl, hB⟩)
        go_ret2
        exact ⟨by rw [HN.out]; rfl, hB⟩
      · have HN := Lib.hid hn
        have HC := Lib.hid hc
        clear hn hc hd key hl h48 hz
        go_enter Tryd.func11, Tryd.ntmps11
        go_wp2_with (go_at_call 23; refine HC.out.mono ?_; rintro e w1 ⟨x, ty, a, rfl, hB⟩)
        go_ret2
        exact ⟨by rw [HN.out]; rfl, hB⟩
  · have hz : ¬ (1 < s.data.toList.length ∧ s.data.toList.head? = some 48) := fun ⟨e, _⟩ => h1 (by omega)
    rcases key hz with ⟨v, hv, hn, hc⟩ | ⟨hn, hc⟩
    · have HN := Lib.hid hn
      have HC := Lib.hid hc
      clear hn hc key hl hz
      go_enter Tryd.func11, Tryd.ntmps11
      go_wp2_with (go_at_call 23; refine HC.out.mono ?_; rintro e w1 ⟨rfl, hB⟩)
      go_ret2
      exact ⟨by rw [HN.out]; rfl, hB⟩
    · have HN := Lib.hid hn
      have HC := Lib.hid hc
      clear hn hc key hl hz
      go_enter Tryd.func11, Tryd.ntmps11
      go_wp2_with (go_at_call 23; refine HC.out.mono ?_; rintro e w1 ⟨x, ty, a, rfl, hB⟩)
      go_ret2
      exact ⟨by rw [HN.out]; rfl, hB⟩
end Go.Proofs.YtpinhpnmnfcdoaaDoor
