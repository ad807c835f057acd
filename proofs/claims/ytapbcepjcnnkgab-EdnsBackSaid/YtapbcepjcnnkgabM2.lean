/- Texts of the proofs, merged. -/
import Derived.Test.YtapbcepjcnnkgabM1
import Derived.Test.YtapbcepjcnnkgabRrLaw
import Derived.Test.YtapbcepjcnnkgabBits
import Derived.BigQuiet
import Derived.Deep.CutRange
/- Set: a message with a code and an OPT: the program's. -/
namespace Go.Proofs.Ytapbcepjcnnkgab
open Go.RowKit Go.Sort Go.Shelf

theorem grown_setCell (w : World) (p : Addr) (v : Value) : w.grownBy (w.setCell p v) (some p.block) := ⟨rfl, rfl, rfl, by simp, fun k _ hne => heap_setCell_other w p k v (fun e => hne (by rw [e]))⟩
/-- the message, what the OPT is to say, and the answer lie in blocks of the call's own. -/
structure SetW (w W : World) (cm cx : Array Value) : Prop where
  m : Has W w.heap.size 26 cm
  x : Has W (w.heap.size + 1) 28 cx
  r : Has W (w.heap.size + 1 + 1) 26 #[.int .u16 0, .bool false, .int .u8 0, .bool false, .bool false, .bool false, .bool false, .int .u8 0, .int .u8 0, .slice none 0 0, .slice none 0 0, .slice none 0 0, .slice none 0 0]
  b : Below w.heap.size w W
  s : w.heap.size + 3 ≤ W.heap.size
section
variable {w W W' : World} {cm cx : Array Value}
theorem SetW.grown (h : SetW w W cm cx) {row : Option Nat} (g : W.grownBy W' row) (hr : ∀ k, row = some k → w.heap.size + 3 ≤ k) : SetW w W' cm cx := by
  have hs := h.s
  refine ⟨h.m.grown g (fun e => ?_), h.x.grown g (fun e => ?_), h.r.grown g (fun e => ?_), h.b.grown g h.b.size (fun k e => by have := hr k e; omega), Nat.le_trans hs g.size⟩
  all_goals
    have := hr _ e.symm
    omega
theorem SetW.keep (h : SetW w W cm cx) {B : Nat} (hb : Below B W W') (hB : w.heap.size + 3 ≤ B) : SetW w W' cm cx := by
  have hs := h.s
  exact ⟨h.m.below hb (by omega), h.x.below hb (by omega), h.r.below hb (by omega), h.b.trans (hb.mono (by omega)), Nat.le_trans hs hb.size⟩
theorem SetW.setM (h : SetW w W cm cx) (i : Nat) (v : Value) : SetW w (W.setCell ⟨w.heap.size, i, none⟩ v) (cm.setIfInBounds i v) cx :=
  ⟨h.m.set i v, h.x.far (Nat.ne_of_gt (show w.heap.size < w.heap.size + 1 by omega)) v, h.r.far (Nat.ne_of_gt (show w.heap.size < w.heap.size + 1 + 1 by omega)) v, h.b.setCell (p := ⟨w.heap.size, i, none⟩) (Nat.le_refl _) v, by simpa using h.s⟩
theorem SetW.setX (h : SetW w W cm cx) (i : Nat) (v : Value) : SetW w (W.setCell ⟨w.heap.size + 1, i, none⟩ v) cm (cx.setIfInBounds i v) :=
  ⟨h.m.far (Nat.ne_of_lt (show w.heap.size < w.heap.size + 1 by omega)) v, h.x.set i v, h.r.far (Nat.ne_of_gt (show w.heap.size + 1 < w.heap.size + 1 + 1 by omega)) v, h.b.setCell (p := ⟨w.heap.size + 1, i, none⟩) (Nat.le_succ _) v, by simpa using h.s⟩
/-- a slice that reads these structs, behind lo. -/
def Lsr {α : Type} (enc : α → List Value) (k : Nat) (W : World) (lo : Nat) (v : Value) (xs : List α) : Prop := ∃ A c, v = .slice A xs.length c ∧ xs.length ≤ c ∧ (A = none → c = 0) ∧ Srow enc k W lo W.heap.size A xs
theorem Lsr.own {α : Type} {enc : α → List Value} {k : Nat} (hk : ∀ x, (enc x).length = k) {base : Nat} {e : TypeId} {v : Value} {xs : List α} (h : Own enc k W base e v xs) : Lsr enc k W base v xs := by
  obtain ⟨A, c, hv, hc, hs⟩ := Own.srow hk h
  refine ⟨A, c, hv, hc, fun hA => ?_, hs⟩
  rcases h.2 with ⟨h1, _⟩ | ⟨g, cap, cur, h1, _⟩
  · rw [hv] at h1
    injection h1
  · rw [hv] at h1
    injection h1 with h1 _ _
    rw [hA] at h1
    cases h1
end
/-- .. as letters: a slice at hand. -/
structure Rd3 {α : Type} (enc : α → List Value) (k : Nat) (W : World) (lo : Nat) (A : Option Addr) (c : Nat) (xs : List α) : Prop where
  cap : xs.length ≤ c
  nil : A = none → c = 0
  row : Srow enc k W lo W.heap.size A xs
theorem Lsr.rd {α : Type} {enc : α → List Value} {k : Nat} {W : World} {lo : Nat} {v : Value} {xs : List α} (h : Lsr enc k W lo v xs) : ∃ A c, v = .slice A xs.length c ∧ Rd3 enc k W lo A c xs := by
  obtain ⟨A, c, h1, h2, h3, h4⟩ := h
  exact ⟨A, c, h1, h2, h3, h4⟩
section
variable {α : Type} {enc : α → List Value} {k : Nat} {W W' : World} {lo : Nat} {A : Option Addr} {c : Nat} {xs : List α}
theorem Rd3.keep (h : Rd3 enc k W lo A c xs) (hb : Below W.heap.size W W') : Rd3 enc k W' lo A c xs := ⟨h.cap, h.nil, (h.row.keep hb).more (Nat.le_refl _) hb.size⟩
theorem Rd3.set (h : Rd3 enc k W lo A c xs) {p : Addr} (hp : p.block < lo) (v : Value) : Rd3 enc k (W.setCell p v) lo A c xs :=
  ⟨h.cap, h.nil, (h.row.grown (grown_setCell W p v) (fun g e => by injection e with e; omega)).more (Nat.le_refl _) (by simp)⟩
theorem Rd3.low (h : Rd3 enc k W lo A c xs) {lo' : Nat} (hl : lo' ≤ lo) : Rd3 enc k W lo' A c xs := ⟨h.cap, h.nil, h.row.more hl (Nat.le_refl _)⟩
end
theorem grown_setRow (w : World) (g : Nat) (cs : Array Value) : w.grownBy (w.setRow g cs) (some g) := ⟨rfl, rfl, rfl, by simp, fun k _ hne => setRow_other w g k cs (fun e => hne (by rw [e]))⟩
theorem Rd3.setRow {α : Type} {enc : α → List Value} {k : Nat} {W : World} {lo : Nat} {A : Option Addr} {c : Nat} {xs : List α} (h : Rd3 enc k W lo A c xs) {g : Nat} (hg : g < lo) (cs : Array Value) : Rd3 enc k (W.setRow g cs) lo A c xs :=
  ⟨h.cap, h.nil, (h.row.grown (grown_setRow W g cs) (fun q e => by injection e with e; omega)).more (Nat.le_refl _) (by simp)⟩
theorem and15 (v : Nat) (hv : v ≤ 65535) : bits .and .u16 (v : Int) 15 = ((v % 16 : Nat) : Int) := by
  unfold bits
  show IntKind.u16.wrap (((BitVec.ofInt 16 (v : Int)) &&& (BitVec.ofInt 16 15)).toNat : Int) = _
  have e : ((BitVec.ofInt 16 (v : Int)) &&& (BitVec.ofInt 16 15)).toNat = v % 16 := by
    rw [BitVec.toNat_and]
    have h1 : (BitVec.ofInt 16 (v : Int)).toNat = v := by
      rw [BitVec.toNat_ofInt]
      omega
    have h2 : (BitVec.ofInt 16 15).toNat = 2 ^ 4 - 1 := by decide
    rw [h1, h2, Nat.and_two_pow_sub_one_eq_mod]
  rw [e, IntKind.wrap_u16]
  omega
/-- what Set answers: a message as it comes back. -/
def Mv.put (m m' : Mv) (code : Nat) (x : Ev) : Prop := m'.rc = code % 16 ∧ m'.es = Ed.rest m.es ++ [x.opt'] ∧ m'.fits
set_option maxHeartbeats 4000000 in
set_option maxRecDepth 100000 in
theorem set_code (m : Mv) (code : Nat) (x : Ev) (w : World) (hc : code ≤ 65535) (h1 : 4095 < code) :
    Calls Try.prog 6 #[.agg m.cells, .int .u16 code, .bool true, .agg x.cells] w fun e w' => e = .returned (.tuple #[.agg #[.int .u16 0, .bool false, .int .u8 0, .bool false, .bool false, .bool false, .bool false, .int .u8 0, .int .u8 0, .slice none 0 0, .slice none 0 0, .slice none 0 0, .slice none 0 0], .int .i64 1]) ∧ Below w.heap.size w w' := by
  have d1 : decide ((4095 : Int) < (code : Int)) = true := by rw [decide_eq_true_iff]; omega
  have hi13 : (Try.prog.info? 26).map (·.size) = some 13 := by kernel_rfl
  have HI := Lib.hid hi13
  clear hc h1 hi13
  obtain ⟨id, rep, op, aa, tc, rd, ra, z, rc, qA, qs, qc, aA, an, ac, uA, us, uc, eA, es, ec⟩ := m
  obtain ⟨sz, hi, ve, fl, opt⟩ := x
  dsimp only [Mv.cells, Ev.cells] at *
  have HB0 : Hid (Below w.heap.size w (((w.alloc (.cells #[.int .u16 id, .bool rep, .int .u8 op, .bool aa, .bool tc, .bool rd, .bool ra, .int .u8 z, .int .u8 rc, .slice qA qs.length qc, .slice aA an.length ac, .slice uA us.length uc, .slice eA es.length ec] 26)).alloc (.cells #[.int .u16 sz, .int .u8 hi, .int .u8 ve, .int .u16 fl, .string opt] 28)).alloc (.cells #[.int .u16 0, .bool false, .int .u8 0, .bool false, .bool false, .bool false, .bool false, .int .u8 0, .int .u8 0, .slice none 0 0, .slice none 0 0, .slice none 0 0, .slice none 0 0] 26))) := (((Below.refl _ _).alloc (Nat.le_refl _) _).alloc (by simp) _).alloc (by simp; omega) _
  have HR0 : Hid (Has (((w.alloc (.cells #[.int .u16 id, .bool rep, .int .u8 op, .bool aa, .bool tc, .bool rd, .bool ra, .int .u8 z, .int .u8 rc, .slice qA qs.length qc, .slice aA an.length ac, .slice uA us.length uc, .slice eA es.length ec] 26)).alloc (.cells #[.int .u16 sz, .int .u8 hi, .int .u8 ve, .int .u16 fl, .string opt] 28)).alloc (.cells #[.int .u16 0, .bool false, .int .u8 0, .bool false, .bool false, .bool false, .bool false, .int .u8 0, .int .u8 0, .slice none 0 0, .slice none 0 0, .slice none 0 0, .slice none 0 0] 26)) (w.heap.size + 1 + 1) 26 #[.int .u16 0, .bool false, .int .u8 0, .bool false, .bool false, .bool false, .bool false, .int .u8 0, .int .u8 0, .slice none 0 0, .slice none 0 0, .slice none 0 0, .slice none 0 0]) := by
    have h := Has.fresh ((w.alloc (.cells #[.int .u16 id, .bool rep, .int .u8 op, .bool aa, .bool tc, .bool rd, .bool ra, .int .u8 z, .int .u8 rc, .slice qA qs.length qc, .slice aA an.length ac, .slice uA us.length uc, .slice eA es.length ec] 26)).alloc (.cells #[.int .u16 sz, .int .u8 hi, .int .u8 ve, .int .u16 fl, .string opt] 28)) 26 #[.int .u16 0, .bool false, .int .u8 0, .bool false, .bool false, .bool false, .bool false, .int .u8 0, .int .u8 0, .slice none 0 0, .slice none 0 0, .slice none 0 0, .slice none 0 0]
    rw [World.size_alloc, World.size_alloc] at h
    exact h
  go_enter Try.func6, Try.ntmps6
  go_wp2_with (refine wpList_store_row rfl 26 (.tmp 8) (.tmp 23) rfl (w.heap.size + 1 + 1) #[.int .u16 0, .bool false, .int .u8 0, .bool false, .bool false, .bool false, .bool false, .int .u8 0, .int .u8 0, .slice none 0 0, .slice none 0 0, .slice none 0 0, .slice none 0 0] rfl rfl 26 _ HR0.out HI.out rfl rfl ?_)
  refine bodyPost_ret (results_row_tmp rfl _ _ (w.heap.size + 1 + 1) 26 #[.int .u16 0, .bool false, .int .u8 0, .bool false, .bool false, .bool false, .bool false, .int .u8 0, .int .u8 0, .slice none 0 0, .slice none 0 0, .slice none 0 0, .slice none 0 0] _ rfl HR0.out Try.underlying26 rfl HI.out) rfl ?_
  exact ⟨rfl, HB0.out⟩
end Go.Proofs.Ytapbcepjcnnkgab
/- Set: a message with a code and an OPT: the program's, where the OPT may not be. -/
namespace Go.Proofs.Ytapbcepjcnnkgab
open Go.RowKit Go.Sort Go.Shelf

set_option maxHeartbeats 4000000 in
set_option maxRecDepth 100000 in
theorem set_bad (m : Mv) (code : Nat) (x : Ev) (w : World) (hc : code ≤ 65535) (hx : x.fits) (hs : x.opt.size ≤ maxLen) (hl : m.lies w) (hn : m.near) (h1 : code ≤ 4095) (hok : x.ok = false) :
    Calls Try.prog 6 #[.agg m.cells, .int .u16 code, .bool true, .agg x.cells] w fun e w' => e = .returned (.tuple #[.agg #[.int .u16 0, .bool false, .int .u8 0, .bool false, .bool false, .bool false, .bool false, .int .u8 0, .int .u8 0, .slice none 0 0, .slice none 0 0, .slice none 0 0, .slice none 0 0], .int .i64 70]) ∧ Below w.heap.size w w' := by
  have d1 : decide ((4095 : Int) < (code : Int)) = false := by rw [decide_eq_false_iff_not]; omega
  have hi13 : (Try.prog.info? 26).map (·.size) = some 13 := by kernel_rfl
  have HI := Lib.hid hi13
  have hi12 : (Try.prog.info? 40).map (·.size) = some 12 := by kernel_rfl
  have HI12 := Lib.hid hi12
  have hi5 : (Try.prog.info? 28).map (·.size) = some 5 := by kernel_rfl
  have HI5 := Lib.hid hi5
  obtain ⟨⟨hqc, hqn, hqS⟩, ⟨hac, han, haS⟩, ⟨huc, hun, huS⟩, ⟨hec, hen, heS⟩⟩ := hl
  obtain ⟨⟨nq, _⟩, ⟨na, _⟩, ⟨nu, _⟩, ⟨ne, _⟩⟩ := hn
  have hen3 : m.es.length ≤ 4398046511104 := by omega
  have HCE := Lib.hid (fun (W : World) (hb : Below w.heap.size w W) => cloneR_any m.es m.eA m.ec W ((heS.keep hb).more (Nat.le_refl _) hb.size) hen (by omega))
  have HDE := Lib.hid (fun (v : Value) (B : Nat) (W : World) (ho : Own rcl 12 W B 40 v m.es) (hB : B ≤ W.heap.size) => del_any m.es v B W ho hB hen3)
  have hok2 : (⟨x.size, code / 16, x.ver, x.flags, x.opt⟩ : Ev).ok = x.ok := rfl
  have hfit2 : (⟨x.size, code / 16, x.ver, x.flags, x.opt⟩ : Ev).fits := ⟨hx.1, by show code / 16 ≤ 255; omega, hx.2.2.1, hx.2.2.2⟩
  have hrec := fun W : World => rec_any ⟨x.size, code / 16, x.ver, x.flags, x.opt⟩ hfit2 hs W
  have eX : (⟨x.size, code / 16, x.ver, x.flags, x.opt⟩ : Ev).outR = Rv.none := if_neg (by rw [hok2, hok]; decide)
  have eE : (⟨x.size, code / 16, x.ver, x.flags, x.opt⟩ : Ev).err = 70 := if_neg (by rw [hok2, hok]; decide)
  clear hi12 hi13 hi5 hqS haS huS heS hqn han hun hen nq na nu
  rw [eX, eE] at hrec
  have HREC : Hid (∀ W : World, Calls Try.prog 7 #[.agg #[.int .u16 x.size, .int .u8 ((code / 16 : Nat) : Int), .int .u8 x.ver, .int .u16 x.flags, .string x.opt]] W _) := hrec
  obtain ⟨hi', hhi⟩ : ∃ h, code / 16 = h := ⟨_, rfl⟩
  obtain ⟨lo', hlo⟩ : ∃ l, code % 16 = l := ⟨_, rfl⟩
  have s1 : IntKind.u8.wrap ((code : Int) / 16) = (hi' : Int) := by rw [IntKind.wrap_u8]; omega
  have s2 : bits .and .u16 (code : Int) 15 = (lo' : Int) := by rw [and15 code hc, hlo]
  have s3 : IntKind.u8.wrap (lo' : Int) = (lo' : Int) := by rw [IntKind.wrap_u8]; omega
  rw [hhi] at HREC
  obtain ⟨X, hX⟩ : ∃ X, Rv.none = X := ⟨_, rfl⟩
  rw [hX] at HREC
  have hlo9 : lo' ≤ 15 := by omega
  clear hX eX eE hrec hhi hlo hok hok2 hfit2 hs hx
  obtain ⟨id, rep, op, aa, tc, rd, ra, z, rc, qA, qs, qc, aA, an, ac, uA, us, uc, eA, es, ec⟩ := m
  obtain ⟨sz, hi, ve, fl, opt⟩ := x
  dsimp only [Mv.cells, Ev.cells] at *
  have HS0 : Hid (SetW w (((w.alloc (.cells #[.int .u16 id, .bool rep, .int .u8 op, .bool aa, .bool tc, .bool rd, .bool ra, .int .u8 z, .int .u8 rc, .slice qA qs.length qc, .slice aA an.length ac, .slice uA us.length uc, .slice eA es.length ec] 26)).alloc (.cells #[.int .u16 sz, .int .u8 hi, .int .u8 ve, .int .u16 fl, .string opt] 28)).alloc (.cells #[.int .u16 0, .bool false, .int .u8 0, .bool false, .bool false, .bool false, .bool false, .int .u8 0, .int .u8 0, .slice none 0 0, .slice none 0 0, .slice none 0 0, .slice none 0 0] 26)) #[.int .u16 id, .bool rep, .int .u8 op, .bool aa, .bool tc, .bool rd, .bool ra, .int .u8 z, .int .u8 rc, .slice qA qs.length qc, .slice aA an.length ac, .slice uA us.length uc, .slice eA es.length ec] #[.int .u16 sz, .int .u8 hi, .int .u8 ve, .int .u16 fl, .string opt]) := by
    refine ⟨((Has.fresh w _ _).alloc _).alloc _, ?_, ?_, (((Below.refl _ _).alloc (Nat.le_refl _) _).alloc (by simp) _).alloc (by simp; omega) _, by simp⟩
    · have h := Has.fresh (w.alloc (.cells #[.int .u16 id, .bool rep, .int .u8 op, .bool aa, .bool tc, .bool rd, .bool ra, .int .u8 z, .int .u8 rc, .slice qA qs.length qc, .slice aA an.length ac, .slice uA us.length uc, .slice eA es.length ec] 26)) 28 #[.int .u16 sz, .int .u8 hi, .int .u8 ve, .int .u16 fl, .string opt]
      rw [World.size_alloc] at h
      exact h.alloc _
    · have h := Has.fresh ((w.alloc (.cells #[.int .u16 id, .bool rep, .int .u8 op, .bool aa, .bool tc, .bool rd, .bool ra, .int .u8 z, .int .u8 rc, .slice qA qs.length qc, .slice aA an.length ac, .slice uA us.length uc, .slice eA es.length ec] 26)).alloc (.cells #[.int .u16 sz, .int .u8 hi, .int .u8 ve, .int .u16 fl, .string opt] 28)) 26 #[.int .u16 0, .bool false, .int .u8 0, .bool false, .bool false, .bool false, .bool false, .int .u8 0, .int .u8 0, .slice none 0 0, .slice none 0 0, .slice none 0 0, .slice none 0 0]
      rw [World.size_alloc, World.size_alloc] at h
      exact h
  go_enter Try.func6, Try.ntmps6
  go_upto_region 1 with fail
  go_cut [22] from 13 to 22 (fun c wx => c = .bool false ∧ Hid (SetW w wx #[.int .u16 id, .bool rep, .int .u8 op, .bool aa, .bool tc, .bool rd, .bool ra, .int .u8 z, .int .u8 rc, .slice qA qs.length qc, .slice aA an.length ac, .slice uA us.length uc, .slice eA es.length ec] #[.int .u16 sz, .int .u8 hi, .int .u8 ve, .int .u16 fl, .string opt]))
  case first =>
    by_cases h15 : (15 : Int) < (code : Int)
    · have d2 : decide ((15 : Int) < (code : Int)) = true := by rw [decide_eq_true_iff]; exact h15
      clear h15 h1
      go_wp2
      go_meet
      exact ⟨rfl, HS0⟩
    · have d2 : decide ((15 : Int) < (code : Int)) = false := by rw [decide_eq_false_iff_not]; exact h15
      clear h15 h1
      go_wp2
      go_meet
      exact ⟨rfl, HS0⟩
  clear HS0
  obtain ⟨rfl, HS0⟩ := hcut
  generalize wc = w0 at *
  have c120 : w0.cell? ⟨w.heap.size, 12, none⟩ = some (.slice eA es.length ec) := HS0.out.m.cell 12
  go_wp2_with (first
    | (go_at_call_of 11 (Value.slice eA es.length ec)
       refine (HCE.out _ HS0.out.b).mono ?_
       rintro e w1 ⟨v1, rfl, ho1, B1⟩
       have HO1 := Lib.hid ho1
       have HS1 := Lib.hid (HS0.out.keep B1 HS0.out.s)
       have HZ1 := Lib.hid B1.size
       clear ho1 B1)
    | (go_at_call 10
       refine (HDE.out _ _ _ HO1.out HZ1.out).mono ?_
       rintro e w2 ⟨v2, rfl, ho2, B2⟩
       have HS2 := Lib.hid (HS1.out.keep B2 HS0.out.s)
       have cx : w2.cell? ⟨w.heap.size + 1, 1, none⟩ = some (.int .u8 hi) := HS2.out.x.cell 1
       have fx : w2.frozen? ⟨w.heap.size + 1, 1, none⟩ = false := HS2.out.x.free 1
       have HS3 : Hid (SetW w (w2.setCell ⟨w.heap.size + 1, 1, none⟩ (.int .u8 (hi' : Int))) #[.int .u16 id, .bool rep, .int .u8 op, .bool aa, .bool tc, .bool rd, .bool ra, .int .u8 z, .int .u8 rc, .slice qA qs.length qc, .slice aA an.length ac, .slice uA us.length uc, .slice eA es.length ec] #[.int .u16 sz, .int .u8 (hi' : Int), .int .u8 ve, .int .u16 fl, .string opt]) := HS2.out.setX 1 _
       have HZ3 : Hid (w0.heap.size ≤ (w2.setCell ⟨w.heap.size + 1, 1, none⟩ (.int .u8 (hi' : Int))).heap.size) := (by have h1 := HZ1.out; have h2 := B2.size; rw [Hid, World.size_setCell]; omega)
       clear ho2 B2)
    | (refine wpList_load_row rfl 28 (.tmp 7) rfl (w.heap.size + 1) rfl 28 #[.int .u16 sz, .int .u8 (hi' : Int), .int .u8 ve, .int .u16 fl, .string opt] (0, 0) _ HS3.out.x Try.underlying28 rfl HI5.out ?_
       revert HS3 HZ3
       generalize w2.setCell _ _ = w3
       intro HS3 HZ3
       clear cx fx HS2 HS1 HO1)
    | (go_at_call 7
       refine (HREC.out _).mono ?_
       rintro e w4 ⟨rfl, B4⟩
       have HS4 := Lib.hid (HS3.out.keep B4 HS3.out.s)
       clear B4)
    | (refine wpList_store_boxed rfl 40 (.tmp 11) (.tmp 36) rfl 40 _ X.cells rfl rfl HI12.out rfl (rec_one X) ?_
       intro w5 hY g5 hs5
       have HY5 := Lib.hid hY
       have HS5 := Lib.hid (HS4.out.grown g5 (by simp))
       clear hY g5)
    | (refine wpList_store_row rfl 26 (.tmp 8) (.tmp 40) rfl (w.heap.size + 1 + 1) #[.int .u16 0, .bool false, .int .u8 0, .bool false, .bool false, .bool false, .bool false, .int .u8 0, .int .u8 0, .slice none 0 0, .slice none 0 0, .slice none 0 0, .slice none 0 0] rfl rfl 26 _ HS5.out.r HI.out rfl (by simp [Value.oneCell']) ?_))
  refine bodyPost_ret (results_row_tmp rfl _ _ (w.heap.size + 1 + 1) 26 #[.int .u16 0, .bool false, .int .u8 0, .bool false, .bool false, .bool false, .bool false, .int .u8 0, .int .u8 0, .slice none 0 0, .slice none 0 0, .slice none 0 0, .slice none 0 0] _ rfl (HS5.out.r.row _) Try.underlying26 rfl HI.out) rfl ?_
  exact ⟨rfl, below_setRow HS5.out.b (by omega) _⟩
end Go.Proofs.Ytapbcepjcnnkgab
