/- may, Limit, Record: by both. -/
import Derived.Test.YtapbcepjcnnkgabEdRef
import Derived.Test.YtapbcepjcnnkgabMsOpen
namespace Go.Proofs.Ytapbcepjcnnkgab
open Go.RowKit

/-- how great a reply may be. -/
def limV (has : Bool) (size : Nat) (most : Int) : Int := if has = false ∨ (size : Int) < 512 ∨ most < 512 then 512 else if (size : Int) < most then size else most
theorem lim_eq (has : Bool) (size : Nat) (most : Int) : limV has size most = if has then max 512 (min (size : Int) most) else 512 := by
  unfold limV
  cases has
  · simp
  · simp only [Bool.true_eq_false, false_or, if_true]
    split
    · omega
    · split <;> omega
set_option maxRecDepth 100000 in
theorem lim_any (has : Bool) (x : Ev) (hx : x.fits) (most : Int) (w : World) :
    Calls Try.prog 5 #[.bool has, x.val, .int .i64 most] w fun e w' => e = .returned (.int .i64 (limV has x.size most)) ∧ Below w.heap.size w w' := by
  have hx1 := hx.1
  have HB := Lib.hid ((Below.refl w.heap.size w).alloc (Nat.le_refl _) (.cells x.cells 28))
  clear hx
  rw [lim_eq]
  obtain ⟨sz, hi, ve, fl, op⟩ := x
  unfold Ev.val Ev.cells at *
  simp only at *
  cases has
  · go_enter Try.func5, Try.ntmps5
    go_wp2
    go_ret
    exact ⟨rfl, HB.out⟩
  · rcases Int.lt_or_le most sz with h1 | h1 <;> rcases Int.lt_or_le 512 most with h2 | h2 <;> rcases Int.lt_or_le 512 (sz : Int) with h3 | h3
    all_goals
      go_enter Try.func5, Try.ntmps5
      go_wp2
      all_goals
        first
          | (go_ret; exact ⟨ret_int (by omega), HB.out⟩)
          | (exfalso; omega)
namespace Ev
def ttl (x : Ev) : Nat := x.high * 16777216 + x.ver * 65536 + x.flags
def ok (x : Ev) : Bool := decide (x.opt.size ≤ 65535) && Ed.may x.opt.data.toList
end Ev
def Rv.none : Rv := ⟨⟨#[]⟩, 0, 0, 0, ⟨⟨#[]⟩, ⟨#[]⟩, ⟨#[]⟩, 0, 0, 0, 0, 0⟩⟩
/-- the OPT that says it. -/
def Ev.opt' (x : Ev) : Rv := ⟨⟨#[0]⟩, 41, x.size, x.ttl, ⟨x.opt, ⟨#[]⟩, ⟨#[]⟩, 0, 0, 0, 0, 0⟩⟩
def Ev.outR (x : Ev) : Rv := if x.ok then x.opt' else Rv.none
def Ev.err (x : Ev) : Int := if x.ok then 0 else 70
theorem rec_one (r : Rv) : r.cells.all (·.oneCell') = true := by simp [Rv.cells, Value.oneCell']
theorem or_hi (h v : Nat) (h1 : h ≤ 255) (h2 : v ≤ 255) : bits .or .u32 ((h : Int) * 16777216) ((v : Int) * 65536) = ((h * 16777216 + v * 65536 : Nat) : Int) := by
  have e1 : ((h : Int) * 16777216) = ((h * 16777216 : Nat) : Int) := by omega
  have e2 : ((v : Int) * 65536) = ((v * 65536 : Nat) : Int) := by omega
  unfold bits
  rw [e1, e2]
  show IntKind.u32.wrap (((BitVec.ofInt 32 ((h * 16777216 : Nat) : Int)) ||| (BitVec.ofInt 32 ((v * 65536 : Nat) : Int))).toNat : Int) = _
  rw [ofInt_nat, ofInt_nat, BitVec.toNat_or, BitVec.toNat_ofNat, BitVec.toNat_ofNat, Nat.mod_eq_of_lt (by omega), Nat.mod_eq_of_lt (by omega)]
  have := Nat.shiftLeft_add_eq_or_of_lt (i := 24) (b := v * 65536) (by omega) h
  rw [Nat.shiftLeft_eq] at this
  have h3 : h * 16777216 ||| v * 65536 = h * 16777216 + v * 65536 := this.symm
  rw [h3]
  exact wrap_u32 _ (by omega)
theorem or_lo (q f : Nat) (h1 : q ≤ 65535) (h2 : f ≤ 65535) : bits .or .u32 ((q * 65536 : Nat) : Int) (f : Int) = ((q * 65536 + f : Nat) : Int) := by
  unfold bits
  show IntKind.u32.wrap (((BitVec.ofInt 32 ((q * 65536 : Nat) : Int)) ||| (BitVec.ofInt 32 (f : Int))).toNat : Int) = _
  rw [ofInt_nat, ofInt_nat, BitVec.toNat_or, BitVec.toNat_ofNat, BitVec.toNat_ofNat, Nat.mod_eq_of_lt (by omega), Nat.mod_eq_of_lt (by omega)]
  have := Nat.shiftLeft_add_eq_or_of_lt (i := 16) (b := f) (by omega) q
  rw [Nat.shiftLeft_eq] at this
  have h3 : q * 65536 ||| f = q * 65536 + f := this.symm
  rw [h3]
  exact wrap_u32 _ (by omega)
set_option maxRecDepth 100000 in
set_option maxHeartbeats 1000000 in
theorem rec_any (x : Ev) (hx : x.fits) (hs : x.opt.size ≤ maxLen) (w : World) :
    Calls Try.prog 7 #[x.val] w fun e w' => e = .returned (.tuple #[x.outR.val, .int .i64 x.err]) ∧ Below w.heap.size w w' := by
  obtain ⟨hx1, hx2, hx3, hx4⟩ := hx
  have HM := Lib.hid (fun W : World => mayBe_any x.opt W hs)
  have HOK : Hid (x.ok = (decide (x.opt.size ≤ 65535) && Ed.may x.opt.data.toList)) := rfl
  have o1 := or_hi x.high x.ver hx2 hx3
  have o2 := or_lo (x.high * 256 + x.ver) x.flags (by omega) hx4
  have e3 : (x.high * 256 + x.ver) * 65536 = x.high * 16777216 + x.ver * 65536 := by omega
  rw [e3] at o2
  have ht : x.ttl = x.high * 16777216 + x.ver * 65536 + x.flags := rfl
  obtain ⟨p, hp⟩ : ∃ p, x.high * 16777216 + x.ver * 65536 = p := ⟨_, rfl⟩
  rw [hp] at o1 o2 ht
  clear hp
  have hi12 : (Try.prog.info? 40).map (·.size) = some 12 := by kernel_rfl
  have HI := Lib.hid hi12
  unfold Ev.outR Ev.err Ev.opt'
  generalize x.ok = ok at *
  generalize x.ttl = ttl at *
  clear hi12 e3
  obtain ⟨sz, hi, ve, fl, op⟩ := x
  simp only [Ev.val, Ev.cells] at *
  subst ht
  have hs' : op.size ≤ 9223372036854775807 := by unfold maxLen at hs; omega
  have HG : Hid (Has ((w.alloc (.cells #[.int .u16 sz, .int .u8 hi, .int .u8 ve, .int .u16 fl, .string op] 28)).alloc (.cells Rv.none.cells 40)) (w.heap.size + 1) 40 Rv.none.cells) := by
    have h := Has.fresh (w.alloc (.cells #[.int .u16 sz, .int .u8 hi, .int .u8 ve, .int .u16 fl, .string op] 28)) 40 Rv.none.cells
    rw [World.size_alloc] at h
    exact h
  have HE : Hid (Has ((w.alloc (.cells #[.int .u16 sz, .int .u8 hi, .int .u8 ve, .int .u16 fl, .string op] 28)).alloc (.cells Rv.none.cells 40)) w.heap.size 28 #[.int .u16 sz, .int .u8 hi, .int .u8 ve, .int .u16 fl, .string op]) := (Has.fresh w _ _).alloc _
  have HB : Hid (Below w.heap.size w ((w.alloc (.cells #[.int .u16 sz, .int .u8 hi, .int .u8 ve, .int .u16 fl, .string op] 28)).alloc (.cells Rv.none.cells 40))) := ((Below.refl _ _).alloc (Nat.le_refl _) _).alloc (by simp) _
  simp only [show Rv.none.cells = #[.string ⟨#[]⟩, .int .u16 0, .int .u16 0, .int .u32 0, .string ⟨#[]⟩, .string ⟨#[]⟩, .string ⟨#[]⟩, .int .u32 0, .int .u32 0, .int .u32 0, .int .u32 0, .int .u32 0] from rfl] at HG HE HB
  by_cases h1 : op.size ≤ 65535
  · have d1 : decide ((65535 : Int) < (op.size : Int)) = false := by rw [decide_eq_false_iff_not]; omega
    have hok := HOK.out
    rw [decide_eq_true h1, Bool.true_and] at hok
    subst hok
    cases hm : Ed.may op.data.toList
    · have HM1 : Hid (∀ W : World, Calls Try.prog 14 #[.string op] W fun e w' => e = .returned (.bool false) ∧ Below W.heap.size W w') := by rw [← hm]; exact HM.out
      clear HM HOK hm
      simp only [Bool.false_eq_true, if_false]
      go_enter Try.func7, Try.ntmps7
      go_wp2_with (first
        | (go_at_call 14
           revert HG HE HB
           generalize (w.alloc _).alloc _ = w0
           intro HG HE HB
           refine (HM1.out _).mono ?_
           rintro e w1 ⟨rfl, B1⟩
           have HG1 := Lib.hid (HG.out.below B1 HG.out.lt)
           have HB1 := Lib.hid (HB.out.trans (B1.mono HB.out.size))
           clear B1)
        | (refine wpList_store_row rfl 40 (.tmp 2) (.tmp 14) rfl (w.heap.size + 1) Rv.none.cells rfl rfl 40 _ HG1.out HI.out rfl (rec_one _) ?_))
      refine bodyPost_ret (results_row_tmp rfl _ _ (w.heap.size + 1) 40 Rv.none.cells _ rfl (HG1.out.row _) Try.underlying40 rfl HI.out) rfl ?_
      exact ⟨rfl, below_setRow HB1.out (by omega) _⟩
    · have HM1 : Hid (∀ W : World, Calls Try.prog 14 #[.string op] W fun e w' => e = .returned (.bool true) ∧ Below W.heap.size W w') := by rw [← hm]; exact HM.out
      clear HM HOK hm
      simp only [if_true]
      go_enter Try.func7, Try.ntmps7
      go_wp2_with (first
        | (go_at_call 14
           revert HG HE HB
           generalize (w.alloc _).alloc _ = w0
           intro HG HE HB
           refine (HM1.out _).mono ?_
           rintro e w1 ⟨rfl, B1⟩
           have HG1 := Lib.hid (HG.out.below B1 HG.out.lt)
           have HE1 := HE.out.below B1 HE.out.lt
           have c0 : w1.cell? ⟨w.heap.size, 0, none⟩ = some (.int .u16 sz) := (by rw [HE1.cell]; rfl)
           have c1 : w1.cell? ⟨w.heap.size, 1, none⟩ = some (.int .u8 hi) := (by rw [HE1.cell]; rfl)
           have c2 : w1.cell? ⟨w.heap.size, 2, none⟩ = some (.int .u8 ve) := (by rw [HE1.cell]; rfl)
           have c3 : w1.cell? ⟨w.heap.size, 3, none⟩ = some (.int .u16 fl) := (by rw [HE1.cell]; rfl)
           have c4 : w1.cell? ⟨w.heap.size, 4, none⟩ = some (.string op) := (by rw [HE1.cell]; rfl)
           have HB1 := Lib.hid (HB.out.trans (B1.mono HB.out.size))
           clear B1 HE1)
        | (refine wpList_store_row rfl 40 (.tmp 2) (.tmp 33) rfl (w.heap.size + 1) (⟨⟨#[0]⟩, 41, sz, p + fl, ⟨op, ⟨#[]⟩, ⟨#[]⟩, 0, 0, 0, 0, 0⟩⟩ : Rv).cells rfl rfl 40 _ HG1.out HI.out rfl (rec_one _) ?_))
      refine bodyPost_ret (results_row_tmp rfl _ _ (w.heap.size + 1) 40 (⟨⟨#[0]⟩, 41, sz, p + fl, ⟨op, ⟨#[]⟩, ⟨#[]⟩, 0, 0, 0, 0, 0⟩⟩ : Rv).cells _ rfl (HG1.out.row _) Try.underlying40 rfl HI.out) rfl ?_
      exact ⟨rfl, below_setRow HB1.out (by omega) _⟩
  · have d1 : decide ((65535 : Int) < (op.size : Int)) = true := by rw [decide_eq_true_iff]; omega
    have hok := HOK.out
    rw [decide_eq_false h1, Bool.false_and] at hok
    subst hok
    clear HM HOK
    simp only [Bool.false_eq_true, if_false]
    go_enter Try.func7, Try.ntmps7
    go_wp2_with (refine wpList_store_row rfl 40 (.tmp 2) (.tmp 14) rfl (w.heap.size + 1) Rv.none.cells rfl rfl 40 _ HG.out HI.out rfl (rec_one _) ?_)
    refine bodyPost_ret (results_row_tmp rfl _ _ (w.heap.size + 1) 40 Rv.none.cells _ rfl (HG.out.row _) Try.underlying40 rfl HI.out) rfl ?_
    exact ⟨rfl, below_setRow HB.out (by omega) _⟩
end Go.Proofs.Ytapbcepjcnnkgab
