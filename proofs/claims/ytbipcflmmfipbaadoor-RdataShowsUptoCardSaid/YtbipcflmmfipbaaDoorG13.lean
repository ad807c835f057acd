/- Texts of the proofs, merged. -/
import Derived.Test.YtbipcflmmfipbaaDoorG6
import Derived.Test.YtbipcflmmfipbaaDoorG9
import Derived.Test.YtbipcflmmfipbaaDoorG11
import Derived.Test.YtbipcflmmfipbaaDoorG12
import Derived.Deep.RegionHeld3
import Derived.OpenShut
import Derived.Lib.LaidTab
import Derived.Stop.LaidErr
import Derived.Test.YtbipcflmmfipbaaDoorG5
/- The known data of the statements on data: what is asked of them. -/
namespace Go.Proofs.YtbipcflmmfipbaaDoor
open Go.RowKit

def d0 : Dv := ⟨⟨#[]⟩, ⟨#[1, 97, 0]⟩, ⟨#[]⟩, 10, 0, 0, 0, 0⟩
theorem d0_fits : d0.fits := fun k => by
  match k with
  | 0 => show 10 ≤ 4294967295; omega
  | 1 => show 0 ≤ 4294967295; omega
  | 2 => show 0 ≤ 4294967295; omega
  | 3 => show 0 ≤ 4294967295; omega
  | _ + 4 => show 0 ≤ 4294967295; omega
theorem d0_ok : Rd.ok 15 d0.dt = true := by kernel_rfl
theorem d0_no : Rd.ok 1 d0.dt = false := by kernel_rfl
theorem d0_split : Nm.split d0.host.data.toList = some [[97]] := by kernel_rfl
theorem d0_put : (Rd.wrs [] [] d0.dt [[97]] [] (Rd.parts 15)).2.1 = [0, 10, 1, 97, 0] := by kernel_rfl
theorem d0_words : (Rd.wds d0.dt (fun _ => []) (Rd.parts 15)).1 = [[49, 48], [97, 46]] := by
  have h1 : (Rd.wds d0.dt (fun _ => []) (Rd.parts 15)).1 = [Rd.dec 10, Nm.text [1, 97, 0]] := rfl
  have h2 : Nm.text [1, 97, 0] = [97, 46] := by kernel_rfl
  have h3 : Rd.dec 10 = [49, 48] := by rw [Rd.dec_more (by omega), Rd.dec_small (by omega)]; rfl
  rw [h1, h2, h3]
theorem d0_check (W : World) (h : LayR W) : Calls Tryd.prog 16 #[.int .u16 15, .agg d0.cells] W fun e w' => e = .returned (.int .i64 0) ∧ Below W.heap.size W w' := by
  have := pdCheck_any 15 d0 W (by omega) h d0_fits (by decide) (by decide) (by decide)
  rw [d0_ok] at this
  exact this
theorem d0_check1 (W : World) (h : LayR W) : Calls Tryd.prog 16 #[.int .u16 1, .agg d0.cells] W fun e w' => e = .returned (.int .i64 40) ∧ Below W.heap.size W w' := by
  have := pdCheck_any 1 d0 W (by omega) h d0_fits (by decide) (by decide) (by decide)
  rw [d0_no] at this
  exact this
theorem d0_show (W : World) (h : LayA W) : Calls Tryd.prog 11 #[.int .u16 15, .agg d0.cells] W fun e w' => e = .returned (.tuple #[.string ⟨#[49, 48, 32, 97, 46]⟩, .int .i64 0]) ∧ Below W.heap.size W w' := by
  have := pdShow_loop 15 d0 (fun _ => []) W (by omega) h d0_fits (by decide) (by decide) d0_check (fun h => absurd h (by decide)) (fun h => absurd h (by decide)) (fun h => absurd h (by decide)) (fun h => absurd h (by decide)) (fun _ => by simp) (by rw [d0_words]; simp) (by rw [d0_words]; decide)
  rw [d0_words] at this
  exact this
theorem no7 : ∀ k : Fin 7, ([8, 5, 0, 0, 0, 0, 0] : List Nat)[k] ≠ 7 := by decide
theorem d0_puts (W : World) (g base : Nat) (mp : Option Nat) (h : LayR W) (hT : Tb W g base mp []) (hb : base ≤ W.heap.size) :
    Calls Tryd.prog 15 #[.slice none 0 0, .pointer (some ⟨g, 0, none⟩), .int .u16 15, .agg d0.cells] W fun e W' => ∃ A c, e = .returned (.tuple #[.slice A 5 c, .int .i64 0]) ∧ Bs W' 0 W'.heap.size A [0, 10, 1, 97, 0] ∧ Rg g base W W' ∧ W.heap.size ≤ W'.heap.size := by
  have := pdPut_loop 15 d0 g base mp [] none [] 0 [[97]] [] W (by omega) h hT hb ⟨none, 0, rfl, Nat.le_refl _, fun _ => rfl, Bs.nil⟩ (by simp) (by simp) d0_fits d0_check (by decide) (fun k hk e => by
      have h7 : k < 7 := hk
      rcases (by omega : k = 0 ∨ k = 1 ∨ k = 2 ∨ k = 3 ∨ k = 4 ∨ k = 5 ∨ k = 6) with rfl | rfl | rfl | rfl | rfl | rfl | rfl <;> decide)
    (fun _ _ _ => d0_split) (fun k hk e => absurd e (no7 ⟨k, hk⟩))
  refine this.mono fun e W' ⟨v, he, mq, hr, _, hg, _, hs, _⟩ => ?_
  rw [d0_put] at hr
  obtain ⟨A, c, rfl, _, _, hbs⟩ := hr
  exact ⟨A, c, he, hbs, hg, hs⟩
end Go.Proofs.YtbipcflmmfipbaaDoor
/- The known data of the statements on data are as they say. -/
namespace Go.Proofs.YtbipcflmmfipbaaDoor
open Go.RowKit

theorem LayA.rg {w w' : World} {g base : Nat} (h : LayA w) (k : Rg g base w w') (hb : 4 < base) : LayA w' := by
  have kk : ∀ {n t cs}, n < base → Has w n t cs → Has w' n t cs := fun {n t cs} hn hh => (k.below.block n hn).trans hh
  obtain ⟨⟨t1, h1⟩, ⟨t2, h2⟩, t3, h3⟩ := h
  exact ⟨⟨t1, kk (by omega) h1⟩, ⟨t2, kk (by omega) h2⟩, t3, kk hb h3⟩
theorem LayA.top {w : World} (h : LayA w) : 4 < w.heap.size := h.2.2.elim fun _ h => Has.lt h
/-- what of the known data's block is read. -/
def d0C : Array Value := #[.string ⟨#[]⟩, .string ⟨#[1, 97, 0]⟩, .string ⟨#[]⟩, .int .u32 10, .int .u32 0, .int .u32 0, .int .u32 0, .int .u32 0]
theorem below_on2 {a b c : World} (h : Below a.heap.size a b) (k : Below b.heap.size b c) : Below a.heap.size a c := h.trans (k.mono h.size)
theorem pnew2 (w : World) (base : Nat) (hb : base ≤ w.heap.size) : Calls Tryd.prog 14 #[] w fun e w' => ∃ g, e = .returned (.pointer (some ⟨g, 0, none⟩)) ∧ Tb w' g base none [] ∧ Below w.heap.size w w' :=
  (pnew_any w).mono fun e w' ⟨he, hw⟩ => ⟨w.heap.size, he, by rw [hw]; exact Tb.new w hb, by rw [hw]; exact (Below.refl _ _).alloc (Nat.le_refl _) _⟩
set_option maxHeartbeats 4000000 in
set_option maxRecDepth 100000 in
theorem rdWakes (w : World) (hL : LayA w) :
    Calls Tryd.prog 13 #[] w fun e w' => e = .returned (.bool true) ∧ Below w.heap.size w w' := by
  have HL := Lib.hid hL
  have htop := hL.top
  clear hL
  have HC1 := Lib.hid d0_check
  have HC2 := Lib.hid d0_check1
  have HS := Lib.hid d0_show
  have HP := Lib.hid d0_puts
  have e0 : d0.cells = #[.string ⟨#[]⟩, .string ⟨#[1, 97, 0]⟩, .string ⟨#[]⟩, .int .u32 10, .int .u32 0, .int .u32 0, .int .u32 0, .int .u32 0] := rfl
  rw [e0] at HC1 HC2 HS HP
  clear e0
  go_enter Tryd.func13, Tryd.ntmps13
  go_wp2
  have hX0 : Has (w.alloc (.cells #[.string ⟨#[]⟩, .string ⟨#[1, 97, 0]⟩, .string ⟨#[]⟩, .int .u32 10, .int .u32 0, .int .u32 0, .int .u32 0, .int .u32 0] 27)) w.heap.size 27 #[.string ⟨#[]⟩, .string ⟨#[1, 97, 0]⟩, .string ⟨#[]⟩, .int .u32 10, .int .u32 0, .int .u32 0, .int .u32 0, .int .u32 0] := Has.fresh w _ _
  have hB0 : Below w.heap.size w (w.alloc (.cells #[.string ⟨#[]⟩, .string ⟨#[1, 97, 0]⟩, .string ⟨#[]⟩, .int .u32 10, .int .u32 0, .int .u32 0, .int .u32 0, .int .u32 0] 27)) := (Below.refl _ _).alloc (Nat.le_refl _) _
  generalize w.alloc (.cells #[.string ⟨#[]⟩, .string ⟨#[1, 97, 0]⟩, .string ⟨#[]⟩, .int .u32 10, .int .u32 0, .int .u32 0, .int .u32 0, .int .u32 0] 27) = wa at *
  have hlt := hX0.lt
  have HLA := Lib.hid (fun (W : World) (hb : Below wa.heap.size wa W) => (HL.out.below hB0 (Nat.le_refl _)).below hb (Nat.le_refl _))
  have HLR := Lib.hid (fun (W : World) (hb : Below wa.heap.size wa W) => (HLA.out W hb).1)
  have HK := Lib.hid (fun (W : World) (hb : Below wa.heap.size wa W) => (show (W.cell? ⟨w.heap.size, 0, none⟩ = some (.string ⟨#[]⟩) ∧ W.cell? ⟨w.heap.size, 1, none⟩ = some (.string ⟨#[1, 97, 0]⟩) ∧ W.cell? ⟨w.heap.size, 2, none⟩ = some (.string ⟨#[]⟩) ∧ W.cell? ⟨w.heap.size, 3, none⟩ = some (.int .u32 10) ∧ W.cell? ⟨w.heap.size, 4, none⟩ = some (.int .u32 0) ∧ W.cell? ⟨w.heap.size, 5, none⟩ = some (.int .u32 0) ∧ W.cell? ⟨w.heap.size, 6, none⟩ = some (.int .u32 0) ∧ W.cell? ⟨w.heap.size, 7, none⟩ = some (.int .u32 0)) ∧ Below wa.heap.size wa W from ⟨by
    have h := hX0.below hb hlt
    exact ⟨by rw [h.cell]; rfl, by rw [h.cell]; rfl, by rw [h.cell]; rfl, by rw [h.cell]; rfl, by rw [h.cell]; rfl, by rw [h.cell]; rfl, by rw [h.cell]; rfl, by rw [h.cell]; rfl⟩, hb⟩))
  have HB0 := Lib.hid hB0
  clear hX0 hB0
  go_region_held3 (fun W => (W.cell? ⟨w.heap.size, 0, none⟩ = some (.string ⟨#[]⟩) ∧ W.cell? ⟨w.heap.size, 1, none⟩ = some (.string ⟨#[1, 97, 0]⟩) ∧ W.cell? ⟨w.heap.size, 2, none⟩ = some (.string ⟨#[]⟩) ∧ W.cell? ⟨w.heap.size, 3, none⟩ = some (.int .u32 10) ∧ W.cell? ⟨w.heap.size, 4, none⟩ = some (.int .u32 0) ∧ W.cell? ⟨w.heap.size, 5, none⟩ = some (.int .u32 0) ∧ W.cell? ⟨w.heap.size, 6, none⟩ = some (.int .u32 0) ∧ W.cell? ⟨w.heap.size, 7, none⟩ = some (.int .u32 0)) ∧ Below wa.heap.size wa W) (first
      | assumption
      | exact HK.out _ (Below.refl _ _).drew
      | exact HK.out _ HW1.out
      | exact HK.out _ HW2.out) (first
      | (go_at_call 14; (with_reducible refine (pnew2 _ wa.heap.size (by go_split_ands; exact Below.size (by assumption))).mono ?_); rintro e W1 ⟨g1, rfl, T1, B1⟩; have HW1 : Hid (Below wa.heap.size wa W1) := (by go_split_ands; exact below_on2 (by assumption) B1); have HT1 := Lib.hid T1; clear T1 B1)
      | (go_at_call 15; refine (HP.out _ g1 wa.heap.size none (HLA.out _ HW1.out).1 HT1.out HW1.out.size).mono ?_; rintro e W2 ⟨A2, c2, rfl, b2, R2, s2⟩; have HW2 : Hid (Below wa.heap.size wa W2) := HW1.out.trans R2.below; have HS2 := Lib.hid b2; clear b2 R2))
  obtain ⟨⟨a0, a1, a2, a3, a4, a5, a6, a7⟩, _⟩ := HK.out _ HW2.out
  have HCV := Lib.hid (fun (W : World) (hb : Below W2.heap.size W2 W) => (show (convert 34 9 (.slice A2 5 c2)).run Tryd.prog W = .ok (.string ⟨#[0, 10, 1, 97, 0]⟩) W from run_convert_bs (w := W) 34 9 5 Tryd.underlying34 Tryd.underlying5 Tryd.underlying9 0 W2.heap.size A2 5 c2 [0, 10, 1, 97, 0] rfl (HS2.out.keep hb)))
  have hb1 : ((⟨#[0, 10, 1, 97, 0]⟩ : ByteArray).toList == (⟨#[0, 10, 1, 97, 0]⟩ : ByteArray).toList) = true := beq_self_eq_true _
  have hb2 : ((⟨#[49, 48, 32, 97, 46]⟩ : ByteArray).toList == (⟨#[49, 48, 32, 97, 46]⟩ : ByteArray).toList) = true := beq_self_eq_true _
  go_wp2_with (first
    | (go_at_call 11; refine (HS.out _ (HLA.out _ HW2.out)).mono ?_; rintro e W3 ⟨rfl, B3⟩; have HW3 : Hid (Below wa.heap.size wa W3) := below_on2 HW2.out B3; have hcv3 := HCV.out _ B3; obtain ⟨⟨b0, b1, b2, b3, b4, b5, b6, b7⟩, _⟩ := HK.out _ HW3.out; clear B3)
    | (go_at_call 16; (with_reducible refine (HC1.out _ (HLR.out _ HW3.out)).mono ?_); rintro e W4 ⟨rfl, B4⟩; have HW4 : Hid (Below wa.heap.size wa W4) := below_on2 HW3.out B4; obtain ⟨⟨d0, d1, d2, d3, d4, d5, d6, d7⟩, _⟩ := HK.out _ HW4.out; clear B4)
    | (go_at_call 16; (with_reducible refine (HC2.out _ (HLR.out _ HW4.out)).mono ?_); rintro e W5 ⟨rfl, B5⟩; have HW5 : Hid (Below wa.heap.size wa W5) := below_on2 HW4.out B5; clear B5))
  go_ret
  exact ⟨rfl, HB0.out.trans (HW5.out.mono HB0.out.size)⟩
end Go.Proofs.YtbipcflmmfipbaaDoor
/- What the rows ask of the listed tables, as the walks want it. -/
namespace Go.Proofs.YtbipcflmmfipbaaDoor
open Go.RowKit Go.ChangeShapes

theorem laid_head {n : String} {d : DataW Unit} {r : List (String × DataW Unit)} {W : World} {g : Nat} {ty : TypeId} (h : laidMet Tryd.prog ((n, d) :: r) W) (hg : Tryd.prog.globalNamed n = some g) (ht : (Tryd.prog.globals[g]?).map (·.type) = some ty) :
    ∃ (cs : Array Value) (fuel : Nat) (p : List MemPlace), DataW.trod (fun _ => ()) Tryd.prog W 0 (fun _ => true) false fuel ty cs.toList = some (d, p) ∧ (0 < cs.size → ∃ t, Has W g t cs) := by
  obtain ⟨ps, ⟨g0, t0, cs0, f0, p0, q0, hg0, ht0, hv0, hd0, _, e0⟩, _, hrows⟩ := h
  obtain rfl := Option.some.inj (hg.symm.trans hg0)
  obtain rfl := Option.some.inj (ht.symm.trans ht0)
  subst e0
  refine ⟨cs0, f0, p0, hd0, fun h0 => ?_⟩
  have hm : MemPlace.cell g 0 ∈ MemPlace.row ⟨g, 0, none⟩ cs0.size ++ p0 ++ q0 := by
    refine List.mem_append_left _ (List.mem_append_left _ ?_)
    simp [MemPlace.row]
    exact h0
  obtain ⟨⟨c, t, hh⟩, _⟩ := hrows g 0 hm
  unfold World.var? at hv0
  rw [hg] at hv0
  simp only [Option.bind_some, hh] at hv0
  injection hv0 with hv0
  subst hv0
  exact ⟨t, hh⟩
set_option maxRecDepth 100000 in
theorem laid_pow {r : List (String × DataW Unit)} {W : World} (h : laidMet Tryd.prog (("internal/strconv.uint64pow10", Rows.laid_internal_strconv_uint64pow10) :: r) W) : LayP W := by
  obtain ⟨cs, fuel, p, hd, hh⟩ := laid_head (g := 2) (ty := 208) h (by kernel_rfl) (by kernel_rfl)
  have e := Lib.cells_of_tab (k := .u64) (zs := Lib.pow10Tab) (e := 79) (n := 20) Tryd.underlying208 Tryd.underlying79 (by kernel_rfl) (by kernel_rfl) hd
  have e2 : cs = (Lib.pow10Tab.map fun z => Value.int .u64 z).toArray := by rw [← e]
  subst e2
  exact hh (by decide)
def tab64 : List Int := [0, 1, 56, 2, 57, 49, 28, 3, 61, 58, 42, 50, 38, 29, 17, 4, 62, 47, 59, 36, 45, 43, 51, 22, 53, 39, 33, 30, 24, 18, 12, 5, 63, 55, 48, 27, 60, 41, 37, 16, 46, 35, 44, 21, 52, 32, 23, 11, 54, 26, 40, 15, 34, 20, 31, 10, 25, 14, 19, 9, 13, 8, 7, 6]
set_option maxRecDepth 100000 in
theorem laid_bits {r : List (String × DataW Unit)} {W : World} (h : laidMet Tryd.prog (("math/bits.deBruijn64tab", Rows.laid_math_bits_deBruijn64tab) :: r) W) : LayD W := by
  obtain ⟨cs, fuel, p, hd, hh⟩ := laid_head (g := 4) (ty := 240) h (by kernel_rfl) (by kernel_rfl)
  have e := Lib.cells_of_tab (k := .u8) (zs := tab64) (e := 5) (n := 64) Tryd.underlying240 Tryd.underlying5 (by kernel_rfl) (by kernel_rfl) hd
  have e2 : cs = (tab64.map fun z => Value.int .u8 z).toArray := by rw [← e]
  subst e2
  exact hh (by decide)
def rowL (x : Int × List UInt8 × List Int) : List Value := .int .u16 x.1 :: .string ⟨x.2.1.toArray⟩ :: x.2.2.map fun z => Value.int .u8 z
set_option maxRecDepth 100000 in
theorem row_cells {W : World} {fuel : Nat} {cs : List Value} {x : Int × List UInt8 × List Int} {p : List MemPlace}
    (h : DataW.trod (fun _ => ()) Tryd.prog W 0 (fun _ => true) false fuel 122 cs = some (.agg [.lit (.int .u16 x.1), .lit (.string x.2.1), Lib.tabData .u8 x.2.2], p)) : cs = rowL x := by
  obtain ⟨xs, n, _, hx, hl, hlen, hg⟩ := DataW.trod_struct Tryd.underlying122 h
  have hl9 : cs.length = 9 := hl.trans (by kernel_rfl)
  match xs, hlen with
  | [y0, y1, y2], _ =>
    simp only [List.map_cons, List.map_nil, Prod.mk.injEq, DataW.agg.injEq, List.cons.injEq] at hx
    obtain ⟨⟨q0, q1, q2, _⟩, _⟩ := hx
    have k0 : Tryd.prog.cellsOf 22 = 1 := by kernel_rfl
    have k1 : Tryd.prog.cellsOf 9 = 1 := by kernel_rfl
    have k2 : Tryd.prog.cellsOf 73 = 7 := by kernel_rfl
    match cs, hl9 with
    | [c0, c1, a0, a1, a2, a3, a4, a5, a6], _ =>
      have g0 : DataW.trod (fun _ => ()) Tryd.prog W 0 (fun _ => true) false n 22 (List.take (Tryd.prog.cellsOf 22) [c0, c1, a0, a1, a2, a3, a4, a5, a6]) = some y0 := hg 0 _ rfl
      have g1 : DataW.trod (fun _ => ()) Tryd.prog W 0 (fun _ => true) false n 9 (List.take (Tryd.prog.cellsOf 9) [c1, a0, a1, a2, a3, a4, a5, a6]) = some y1 := hg 1 _ rfl
      have g2 : DataW.trod (fun _ => ()) Tryd.prog W 0 (fun _ => true) false n 73 (List.take (Tryd.prog.cellsOf 73) [a0, a1, a2, a3, a4, a5, a6]) = some y2 := hg 2 _ rfl
      rw [k0] at g0
      rw [k1] at g1
      rw [k2] at g2
      obtain ⟨m0, e0, h0, _⟩ := DataW.trod_int Tryd.underlying22 g0
      obtain ⟨s1, e1, h1, _⟩ := DataW.trod_string Tryd.underlying9 g1
      obtain ⟨z2, pz⟩ := y2
      simp only at q2
      subst q2
      have e2 := Lib.cells_of_tab (k := .u8) (e := 72) (n := 7) Tryd.underlying73 Tryd.underlying72 (by kernel_rfl) (by kernel_rfl) g2
      rw [h0] at q0
      rw [h1] at q1
      injection q0 with q0
      injection q0 with _ q0
      injection q1 with q1
      injection q1 with q1
      subst q0
      have es := string_eq q1.symm
      subst es
      injection e0 with e0 _
      injection e1 with e1 _
      subst e0 e1
      unfold rowL
      rw [← e2]
      rfl
theorem chunks {L : List Value} (k n : Nat) (R : List Value) (h : (L.drop (k * 9)).take 9 = R) (h2 : n = (k + 1) * 9) : L.drop (k * 9) = R ++ L.drop n := by
  subst h h2
  have := (List.take_append_drop 9 (L.drop (k * 9))).symm
  rw [List.drop_drop] at this
  rw [show (k + 1) * 9 = k * 9 + 9 from by omega]
  exact this
def rowT : List (Int × List UInt8 × List Int) := [(1, [65], [1, 0, 0, 0, 0, 0, 0]), (2, [78, 83], [5, 0, 0, 0, 0, 0, 0]), (5, [67, 78, 65, 77, 69], [5, 0, 0, 0, 0, 0, 0]), (6, [83, 79, 65], [5, 7, 9, 9, 9, 9, 9]), (12, [80, 84, 82], [5, 0, 0, 0, 0, 0, 0]), (15, [77, 88], [8, 5, 0, 0, 0, 0, 0]), (16, [84, 88, 84], [3, 0, 0, 0, 0, 0, 0]), (28, [65, 65, 65, 65], [2, 0, 0, 0, 0, 0, 0]), (33, [83, 82, 86], [8, 8, 8, 6, 0, 0, 0])]
set_option maxRecDepth 100000 in
theorem laid_rows {r : List (String × DataW Unit)} {W : World} (h : laidMet Tryd.prog (("hearsay/rdata.rows", Rows.laid_hearsay_rdata_rows) :: r) W) : LayR W := by
  obtain ⟨cs, fuel, p, hd, hh⟩ := laid_head (g := 0) (ty := 123) h (by kernel_rfl) (by kernel_rfl)
  obtain ⟨xs, n, _, hx, hl, hlen, hg⟩ := DataW.trod_array Tryd.underlying123 hd
  have hl81 : cs.toList.length = 81 := hl.trans (by kernel_rfl)
  have hc9 : Tryd.prog.cellsOf 122 = 9 := by kernel_rfl
  rw [hc9] at hg
  have hxs : xs.map (·.1) = rowT.map fun x => (.agg [.lit (.int .u16 x.1), .lit (.string x.2.1), Lib.tabData .u8 x.2.2] : DataW Unit) := by
    have h1 : (.agg (xs.map (·.1)) : DataW Unit) = Rows.laid_hearsay_rdata_rows := (congrArg Prod.fst hx).symm
    injection h1 with h1
  have key : ∀ i (hi : i < 9), (cs.toList.drop (i * 9)).take 9 = rowL (rowT[i]'hi) := fun i hi => by
    have hg1 := hg i hi
    have hxi : xs[i]? = some (xs[i]'(by omega)) := List.getElem?_eq_getElem (by omega)
    rw [hxi] at hg1
    have h2 : (xs[i]'(by omega)).1 = .agg [.lit (.int .u16 (rowT[i]'hi).1), .lit (.string (rowT[i]'hi).2.1), Lib.tabData .u8 (rowT[i]'hi).2.2] := by
      have := congrArg (fun l => l[i]?) hxs
      simp only [List.getElem?_map] at this
      rw [hxi, List.getElem?_eq_getElem (show i < rowT.length from hi)] at this
      exact Option.some.inj this
    refine row_cells (p := (xs[i]'(by omega)).2) (hg1.trans ?_)
    rw [← h2]
  have e : cs = rowsCells := by
    have c : cs.toList.drop (0 * 9) = rowsCells.toList := by
      rw [chunks 0 (1 * 9) _ (key 0 (by omega)) rfl, chunks 1 (2 * 9) _ (key 1 (by omega)) rfl, chunks 2 (3 * 9) _ (key 2 (by omega)) rfl, chunks 3 (4 * 9) _ (key 3 (by omega)) rfl, chunks 4 (5 * 9) _ (key 4 (by omega)) rfl, chunks 5 (6 * 9) _ (key 5 (by omega)) rfl, chunks 6 (7 * 9) _ (key 6 (by omega)) rfl, chunks 7 (8 * 9) _ (key 7 (by omega)) rfl, chunks 8 (9 * 9) _ (key 8 (by omega)) rfl, List.drop_of_length_le (by omega)]
      rfl
    rw [Nat.zero_mul, List.drop_zero] at c
    have := congrArg List.toArray c
    simpa using this
  subst e
  exact hh (by decide)
end Go.Proofs.YtbipcflmmfipbaaDoor
/- The document's answer on data: Fold. -/
namespace Go.Proofs.YtbipcflmmfipbaaDoor
open Go.RowKit

/-- data with names in small letters. -/
def Dv.fold (t : Nat) (d : Dv) : Dv :=
  { d with host := if Rd.isHost t then ⟨(Nm.fold d.host.data.toList).toArray⟩ else d.host, mail := if Rd.isMail t then ⟨(Nm.fold d.mail.data.toList).toArray⟩ else d.mail }
theorem eight {W : World} {g : Nat} {t : TypeId} {a b c d e f g2 h : Value} (k : Has W g t #[a, b, c, d, e, f, g2, h]) :
    W.cell? ⟨g, 0, none⟩ = some a ∧ W.cell? ⟨g, 1, none⟩ = some b ∧ W.cell? ⟨g, 2, none⟩ = some c ∧ W.cell? ⟨g, 3, none⟩ = some d ∧ W.cell? ⟨g, 4, none⟩ = some e ∧ W.cell? ⟨g, 5, none⟩ = some f ∧ W.cell? ⟨g, 6, none⟩ = some g2 ∧ W.cell? ⟨g, 7, none⟩ = some h ∧ (∀ j, W.frozen? ⟨g, j, none⟩ = false) := by
  refine ⟨?_, ?_, ?_, ?_, ?_, ?_, ?_, ?_, fun j => k.free j⟩ <;> (rw [k.cell]; rfl)
theorem eight_set {W : World} {g : Nat} {t : TypeId} {a b c d e f g2 h a' b' c' d' e' f' g' h' : Value} (k : Has W g t #[a', b', c', d', e', f', g', h']) :
    Has ((((((((W.setCell ⟨g, 0, none⟩ a).setCell ⟨g, 1, none⟩ b).setCell ⟨g, 2, none⟩ c).setCell ⟨g, 3, none⟩ d).setCell ⟨g, 4, none⟩ e).setCell ⟨g, 5, none⟩ f).setCell ⟨g, 6, none⟩ g2).setCell ⟨g, 7, none⟩ h) g t #[a, b, c, d, e, f, g2, h] := by
  have k8 := (((((((k.set 0 a).set 1 b).set 2 c).set 3 d).set 4 e).set 5 f).set 6 g2).set 7 h
  simp only [List.setIfInBounds_toArray, List.set_cons_zero, List.set_cons_succ] at k8
  exact k8
theorem eight_below {w W : World} {g B : Nat} {a b c d e f g2 h : Value} (k : Below B w W) (hg : B ≤ g) :
    Below B w ((((((((W.setCell ⟨g, 0, none⟩ a).setCell ⟨g, 1, none⟩ b).setCell ⟨g, 2, none⟩ c).setCell ⟨g, 3, none⟩ d).setCell ⟨g, 4, none⟩ e).setCell ⟨g, 5, none⟩ f).setCell ⟨g, 6, none⟩ g2).setCell ⟨g, 7, none⟩ h) :=
  (((((((k.setCell (p := ⟨g, 0, none⟩) hg a).setCell (p := ⟨g, 1, none⟩) hg b).setCell (p := ⟨g, 2, none⟩) hg c).setCell (p := ⟨g, 3, none⟩) hg d).setCell (p := ⟨g, 4, none⟩) hg e).setCell (p := ⟨g, 5, none⟩) hg f).setCell (p := ⟨g, 6, none⟩) hg g2).setCell (p := ⟨g, 7, none⟩) hg h
set_option maxHeartbeats 2000000 in
set_option maxRecDepth 100000 in
theorem rdFold_any (t : Nat) (d : Dv) (w : World) (ht : t ≤ 65535) (hh : d.host.size ≤ 140737488355328) (hm : d.mail.size ≤ 140737488355328) :
    Calls Tryd.prog 70 #[.int .u16 t, d.val] w fun e w' => e = .returned (d.fold t).val ∧ Below w.heap.size w w' := by
  have HNM := Lib.hid (fun W : World => rdNames_any t W ht)
  unfold Dv.fold
  have HF1 := Lib.hid (fun W : World => refFold_any d.host W hh)
  have HF2 := Lib.hid (fun W : World => refFold_any d.mail W hm)
  generalize Nm.fold d.host.data.toList = fh at *
  generalize Nm.fold d.mail.data.toList = fm at *
  obtain ⟨h, hih⟩ : ∃ h, Rd.isHost t = h := ⟨_, rfl⟩
  obtain ⟨m, him⟩ : ∃ m, Rd.isMail t = m := ⟨_, rfl⟩
  rw [hih, him] at HNM ⊢
  clear hih him
  unfold Dv.val
  have hX0 := (Has.fresh w 27 #[.string d.raw, .string d.host, .string d.mail, .int .u32 d.n0, .int .u32 d.n1, .int .u32 d.n2, .int .u32 d.n3, .int .u32 d.n4]).alloc (.cells #[.string ⟨#[]⟩, .string ⟨#[]⟩, .string ⟨#[]⟩, .int .u32 0, .int .u32 0, .int .u32 0, .int .u32 0, .int .u32 0] 27)
  have hZ0 := Has.fresh (w.alloc (.cells #[.string d.raw, .string d.host, .string d.mail, .int .u32 d.n0, .int .u32 d.n1, .int .u32 d.n2, .int .u32 d.n3, .int .u32 d.n4] 27)) 27 #[.string ⟨#[]⟩, .string ⟨#[]⟩, .string ⟨#[]⟩, .int .u32 0, .int .u32 0, .int .u32 0, .int .u32 0, .int .u32 0]
  rw [World.size_alloc] at hZ0
  have HX := Lib.hid hX0
  have HZ := Lib.hid hZ0
  have HB0 : Hid (Below w.heap.size w ((w.alloc (.cells #[.string d.raw, .string d.host, .string d.mail, .int .u32 d.n0, .int .u32 d.n1, .int .u32 d.n2, .int .u32 d.n3, .int .u32 d.n4] 27)).alloc (.cells #[.string ⟨#[]⟩, .string ⟨#[]⟩, .string ⟨#[]⟩, .int .u32 0, .int .u32 0, .int .u32 0, .int .u32 0, .int .u32 0] 27))) := ((Below.refl _ w).alloc (Nat.le_refl _) _).alloc (by simp) _
  clear hX0 hZ0
  cases h with
  | false =>
    cases m with
    | false =>
      simp only [Bool.false_eq_true, if_false]
      go_enter Tryd.func70, Tryd.ntmps70
      go_wp2_with (go_at_call 50; refine (HNM.out _).mono ?_; rintro e' w1 ⟨rfl, rfl⟩)
      have hZ := (Has.fresh (w.alloc (.cells #[.string d.raw, .string d.host, .string d.mail, .int .u32 d.n0, .int .u32 d.n1, .int .u32 d.n2, .int .u32 d.n3, .int .u32 d.n4] 27)) 27 #[.string d.raw, .string d.host, .string d.mail, .int .u32 d.n0, .int .u32 d.n1, .int .u32 d.n2, .int .u32 d.n3, .int .u32 d.n4])
      rw [World.size_alloc] at hZ
      refine bodyPost_ret (results_cell_row rfl _ _ (w.heap.size + 1) 27 _ _ _ rfl hZ Tryd.underlying27 rfl (by kernel_rfl)) rfl ?_
      exact ⟨rfl, ((Below.refl _ w).alloc (Nat.le_refl _) _).alloc (by simp) _⟩
    | true =>
      simp only [Bool.false_eq_true, if_false, if_true]
      go_enter Tryd.func70, Tryd.ntmps70
      go_wp2_with (first
        | (go_at_call 50; refine (HNM.out _).mono ?_; rintro e' w1 ⟨rfl, rfl⟩)
        | (go_at_call 68; (with_reducible refine (HF2.out _).mono ?_); rintro e' w3 ⟨rfl, B3⟩; have HX3 := Lib.hid (HX.out.below B3 (by simp; omega)); have HZ3 := Lib.hid (HZ.out.below B3 (by simp)); have HB3 := Lib.hid (HB0.out.trans (B3.mono (by simp; omega))); have x3 := eight HX3.out; have z3 := eight HZ3.out; have hs3 := B3.size; simp only [World.size_alloc] at hs3; obtain ⟨xa3, xb3, xc3, xd3, xe3, xf3, xg3, xh3, xy3⟩ := x3; obtain ⟨_, _, _, _, _, _, _, _, zy3⟩ := z3; have fx3 := xy3 1; have fx23 := xy3 2; clear B3))
      have hZ := eight_set (a := .string d.raw) (b := .string d.host) (c := .string ⟨fm.toArray⟩) (d := .int .u32 d.n0) (e := .int .u32 d.n1) (f := .int .u32 d.n2) (g2 := .int .u32 d.n3) (h := .int .u32 d.n4) (HZ3.out.far (p := ⟨w.heap.size, 2, none⟩) (by simp) (.string ⟨fm.toArray⟩))
      refine bodyPost_ret (results_cell_row rfl _ _ (w.heap.size + 1) 27 _ _ _ rfl hZ Tryd.underlying27 rfl (by kernel_rfl)) rfl ?_
      exact ⟨rfl, eight_below (HB3.out.setCell (p := ⟨w.heap.size, 2, none⟩) (Nat.le_refl _) _) (Nat.le_succ _)⟩
  | true =>
    cases m with
    | false =>
      simp only [Bool.false_eq_true, if_false, if_true]
      go_enter Tryd.func70, Tryd.ntmps70
      go_wp2_with (first
        | (go_at_call 50; refine (HNM.out _).mono ?_; rintro e' w1 ⟨rfl, rfl⟩)
        | (go_at_call 68; (with_reducible refine (HF1.out _).mono ?_); rintro e' w2 ⟨rfl, B2⟩; have HX2 := Lib.hid (HX.out.below B2 (by simp; omega)); have HZ2 := Lib.hid (HZ.out.below B2 (by simp)); have HB2 := Lib.hid (HB0.out.trans (B2.mono (by simp; omega))); have x2 := eight HX2.out; have z2 := eight HZ2.out; have hs2 := B2.size; simp only [World.size_alloc] at hs2; obtain ⟨xa2, xb2, xc2, xd2, xe2, xf2, xg2, xh2, xy2⟩ := x2; obtain ⟨_, _, _, _, _, _, _, _, zy2⟩ := z2; have fx2 := xy2 1; have fx22 := xy2 2; clear B2))
      have hZ := eight_set (a := .string d.raw) (b := .string ⟨fh.toArray⟩) (c := .string d.mail) (d := .int .u32 d.n0) (e := .int .u32 d.n1) (f := .int .u32 d.n2) (g2 := .int .u32 d.n3) (h := .int .u32 d.n4) (HZ2.out.far (p := ⟨w.heap.size, 1, none⟩) (by simp) (.string ⟨fh.toArray⟩))
      refine bodyPost_ret (results_cell_row rfl _ _ (w.heap.size + 1) 27 _ _ _ rfl hZ Tryd.underlying27 rfl (by kernel_rfl)) rfl ?_
      exact ⟨rfl, eight_below (HB2.out.setCell (p := ⟨w.heap.size, 1, none⟩) (Nat.le_refl _) _) (Nat.le_succ _)⟩
    | true =>
      simp only [if_true]
      go_enter Tryd.func70, Tryd.ntmps70
      go_wp2_with (first
        | (go_at_call 50; refine (HNM.out _).mono ?_; rintro e' w1 ⟨rfl, rfl⟩)
        | (go_at_call 68; (with_reducible refine (HF1.out _).mono ?_); rintro e' w2 ⟨rfl, B2⟩; have HX2 := Lib.hid (HX.out.below B2 (by simp; omega)); have HZ2 := Lib.hid (HZ.out.below B2 (by simp)); have HB2 := Lib.hid (HB0.out.trans (B2.mono (by simp; omega))); have x2 := eight HX2.out; have z2 := eight HZ2.out; have hs2 := B2.size; simp only [World.size_alloc] at hs2; obtain ⟨xa2, xb2, xc2, xd2, xe2, xf2, xg2, xh2, xy2⟩ := x2; obtain ⟨_, _, _, _, _, _, _, _, zy2⟩ := z2; have fx2 := xy2 1; have fx22 := xy2 2; clear B2)
        | (go_at_call 68; (with_reducible refine (HF2.out _).mono ?_); rintro e' w3 ⟨rfl, B3⟩; have HX3 := Lib.hid ((HX2.out.set 1 (.string ⟨fh.toArray⟩)).below B3 (by simp; omega)); have HZ3 := Lib.hid ((HZ2.out.far (p := ⟨w.heap.size, 1, none⟩) (by simp) (.string ⟨fh.toArray⟩)).below B3 (by simp; omega)); have HB3 := Lib.hid ((HB2.out.setCell (p := ⟨w.heap.size, 1, none⟩) (Nat.le_refl _) (.string ⟨fh.toArray⟩)).trans (B3.mono (by simp; omega))); have x3 := eight HX3.out; have z3 := eight HZ3.out; have hs3 := B3.size; simp only [World.size_setCell] at hs3; obtain ⟨xa3, xb3, xc3, xd3, xe3, xf3, xg3, xh3, xy3⟩ := x3; obtain ⟨_, _, _, _, _, _, _, _, zy3⟩ := z3; have fx3 := xy3 1; have fx23 := xy3 2; clear B3))
      have hZ := eight_set (a := .string d.raw) (b := .string ⟨fh.toArray⟩) (c := .string ⟨fm.toArray⟩) (d := .int .u32 d.n0) (e := .int .u32 d.n1) (f := .int .u32 d.n2) (g2 := .int .u32 d.n3) (h := .int .u32 d.n4) (HZ3.out.far (p := ⟨w.heap.size, 2, none⟩) (by simp) (.string ⟨fm.toArray⟩))
      refine bodyPost_ret (results_cell_row rfl _ _ (w.heap.size + 1) 27 _ _ _ rfl hZ Tryd.underlying27 rfl (by kernel_rfl)) rfl ?_
      exact ⟨rfl, eight_below (HB3.out.setCell (p := ⟨w.heap.size, 2, none⟩) (Nat.le_refl _) _) (Nat.le_succ _)⟩
end Go.Proofs.YtbipcflmmfipbaaDoor
