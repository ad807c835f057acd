/- One option: pair, first. -/
import Derived.Test.YtapbcepjcnnkgabEdPure
import Derived.Test.YtapbcepjcnnkgabMem
import Derived.Test.YtapbcepjcnnkgabBits
namespace Go.Proofs.Ytapbcepjcnnkgab
open Go.RowKit

theorem or16n (a b : Nat) (ha : a < 256) (hb : b < 256) : bits .or .u16 ((a : Int) * 256) (b : Int) = ((256 * a + b : Nat) : Int) := by
  have ofn : ∀ n : Nat, BitVec.ofInt 16 (n : Int) = BitVec.ofNat 16 n := fun n => by
    apply BitVec.eq_of_toNat_eq
    simp
  have e : ((a : Int) * 256) = ((a * 256 : Nat) : Int) := by omega
  unfold bits
  rw [e]
  show IntKind.u16.wrap (((BitVec.ofInt 16 ((a * 256 : Nat) : Int)) ||| (BitVec.ofInt 16 (b : Int))).toNat : Int) = _
  rw [ofn, ofn, BitVec.toNat_or, BitVec.toNat_ofNat, BitVec.toNat_ofNat, Nat.mod_eq_of_lt (by omega), Nat.mod_eq_of_lt (by omega)]
  have h := Nat.shiftLeft_add_eq_or_of_lt (i := 8) (b := b) (by omega) a
  rw [Nat.shiftLeft_eq] at h
  have h2 : a * 256 ||| b = a * 256 + b := h.symm
  rw [h2, IntKind.wrap_u16]
  omega
theorem pair_any (a b : Nat) (ha : a < 256) (hb : b < 256) (w : World) :
    Calls Try.prog 24 #[.int .u8 a, .int .u8 b] w fun e w' => e = .returned (.int .u16 (256 * a + b : Nat)) ∧ w = w' := by
  have o := or16n a b ha hb
  have h1 : (0 : Int) ≤ (a : Int) := by omega
  have h2 : (a : Int) ≤ 255 := by omega
  have h3 : (0 : Int) ≤ (b : Int) := by omega
  have h4 : (b : Int) ≤ 255 := by omega
  clear ha hb
  generalize ((256 * a + b : Nat) : Int) = r at *
  go_enter Try.func24, Try.ntmps24
  go_wp2
  go_ret
  exact ⟨rfl, rfl⟩
theorem ed_quiet {P : Program} {f : FuncId} {args : Array Value} {w : World} {n : Nat} {v : Value} (h : Calls P f args (w.drewN n) fun e w' => e = .returned v ∧ w.drewN n = w') :
    Calls P f args (w.drewN n) fun e w'' => e = .returned v ∧ ∃ m, w'' = w.drewN m := h.mono fun _ _ ⟨he, hw⟩ => ⟨he, n, hw.symm⟩
theorem results_row_tmp2 {P : Program} {fn : Func} {p u v : Tmp} {ty : TypeId} (h : fn.results = #[.cell p ty, .tmp u, .tmp v]) (tmps : Array Value) (w : World) (g : Nat) (t : TypeId) (cs : Array Value) (d : TypeDesc)
    (hp : tmps.getD p undef = .pointer (some ⟨g, 0, none⟩)) (hg : Has w g t cs)
    (hu : P.underlying ty = some d) (hd : (match d with | .struct _ | .array _ _ => true | _ => false) = true) (hi : (P.info? ty).map (·.size) = some cs.size) :
    (results fn tmps).run P w = .ok (.tuple #[.agg cs, tmps.getD u undef, tmps.getD v undef]) w := by
  have hl := run_loadVar_row (P := P) w g t ty cs (0, 0) d hg hu hd hi
  have ha : (asAddr (.pointer (some ⟨g, 0, none⟩))).run P w = .ok ⟨g, 0, none⟩ w := rfl
  have hp2 : tmps[p]?.getD undef = .pointer (some ⟨g, 0, none⟩) := by simpa using hp
  simp only [results, h]
  simp [Sem.run_bind, Result.andThen, hp2, ha, hl]
theorem Has.drewN {w : World} {g : Nat} {t : TypeId} {cs : Array Value} (h : Has w g t cs) (n : Nat) : Has (w.drewN n) g t cs := h
theorem at_b (s : ByteArray) (i : Nat) (h : i < s.size) : (s[i]'h).toNat = Ed.b s.data.toList i := by
  unfold Ed.b
  rw [List.getD_eq_getElem?_getD, List.getElem?_eq_getElem (by simpa using h)]
  rfl
/-- one option, as a value. -/
abbrev opv (x : Ed.Op) : Value := .agg #[.int .u16 (x.1 : Nat), sv x.2.1]
set_option maxRecDepth 100000 in
theorem first_few (s : ByteArray) (w : World) (h : s.size < 4) :
    Calls Try.prog 23 #[.string s] w fun e w' => e = .returned (.tuple #[.agg #[.int .u16 0, .string ⟨#[]⟩], .string ⟨#[]⟩, .bool false]) ∧ Below w.heap.size w w' := by
  have hd : decide ((s.size : Int) < 4) = true := by simp; omega
  have hd2 : (s.size : Int) < 4 := by omega
  clear h
  have hi2 : (Try.prog.info? 60).map (·.size) = some 2 := by kernel_rfl
  have HI := Lib.hid hi2
  clear hi2
  have HZ := Lib.hid (Has.fresh w 60 #[.int .u16 0, .string ⟨#[]⟩])
  have HB := Lib.hid ((Below.refl w.heap.size w).alloc (Nat.le_refl _) (.cells #[.int .u16 0, .string ⟨#[]⟩] 60))
  go_enter Try.func23, Try.ntmps23
  go_wp2
  refine bodyPost_ret (results_row_tmp2 rfl _ _ w.heap.size 60 #[.int .u16 0, .string ⟨#[]⟩] _ rfl ?_ Try.underlying60 rfl HI.out) rfl ?_
  · exact HZ.out
  · exact ⟨rfl, HB.out⟩
set_option maxRecDepth 100000 in
theorem first_short (s : ByteArray) (w : World) (h : 4 ≤ s.size) (hs : s.size ≤ maxLen) (h2 : s.size - 4 < Ed.siz s.data.toList) :
    Calls Try.prog 23 #[.string s] w fun e w' => e = .returned (.tuple #[.agg #[.int .u16 0, .string ⟨#[]⟩], .string ⟨#[]⟩, .bool false]) ∧ Below w.heap.size w w' := by
  unfold maxLen at hs
  have hd : decide ((s.size : Int) < 4) = false := by simp; omega
  have HP := Lib.hid (fun (a b : Nat) (ha : a < 256) (hb : b < 256) (W : World) => pair_any a b ha hb W)
  have e0 := at_b s 0 (by omega)
  have e1 := at_b s 1 (by omega)
  have e2 := at_b s 2 (by omega)
  have e3 := at_b s 3 (by omega)
  have b0 := Ed.b_lt s.data.toList 0
  have b1 := Ed.b_lt s.data.toList 1
  have b2 := Ed.b_lt s.data.toList 2
  have b3 := Ed.b_lt s.data.toList 3
  unfold Ed.siz at h2
  generalize Ed.b s.data.toList 0 = x0 at *
  generalize Ed.b s.data.toList 1 = x1 at *
  generalize Ed.b s.data.toList 2 = x2 at *
  generalize Ed.b s.data.toList 3 = x3 at *
  have hw : IntKind.i64.wrap ((256 * x2 + x3 : Nat) : Int) = ((256 * x2 + x3 : Nat) : Int) := IntWalk.i64_in _ (by omega)
  have l0 : 0 < s.size := by omega
  have l1 : 1 < s.size := by omega
  have l2 : 2 < s.size := by omega
  have l3 : 3 < s.size := by omega
  have hi2 : (Try.prog.info? 60).map (·.size) = some 2 := by kernel_rfl
  have HI := Lib.hid hi2
  clear hi2
  go_enter Try.func23, Try.ntmps23
  go_wp2
  go_quiet ((go_at_call 24; exact ed_quiet (HP.out _ _ (by omega) (by omega) _)))
  have hq : decide (((s.extract 4 s.size).size : Int) < 256 * (x2 : Int) + (x3 : Int)) = true := by simp; omega
  have hq2 : ((s.extract 4 s.size).size : Int) < 256 * (x2 : Int) + (x3 : Int) := by simp at hq; simp; omega
  have HZ := Lib.hid (Has.fresh w 60 #[.int .u16 0, .string ⟨#[]⟩])
  have HB := Lib.hid ((Below.refl w.heap.size w).alloc (Nat.le_refl _) (.cells #[.int .u16 0, .string ⟨#[]⟩] 60))
  go_wp2
  refine bodyPost_ret (results_row_tmp2 rfl _ _ w.heap.size 60 #[.int .u16 0, .string ⟨#[]⟩] _ rfl (((HZ.out.drewN _).set 0 (.int .u16 0)).set 1 (.string ⟨#[]⟩)) Try.underlying60 rfl HI.out) rfl ?_
  exact ⟨rfl, ((below_drewN HB.out _).setCell (Nat.le_refl _) _).setCell (Nat.le_refl _) _⟩
set_option maxRecDepth 100000 in
theorem first_yes (s : ByteArray) (w : World) (h : 4 ≤ s.size) (hs : s.size ≤ maxLen) (h2 : Ed.siz s.data.toList ≤ s.size - 4) :
    Calls Try.prog 23 #[.string s] w fun e w' => e = .returned (.tuple #[opv (Ed.num s.data.toList, (s.data.toList.drop 4).take (Ed.siz s.data.toList), []), sv ((s.data.toList.drop 4).drop (Ed.siz s.data.toList)), .bool true]) ∧ Below w.heap.size w w' := by
  unfold maxLen at hs
  have hd : decide ((s.size : Int) < 4) = false := by simp; omega
  have HP := Lib.hid (fun (a b : Nat) (ha : a < 256) (hb : b < 256) (W : World) => pair_any a b ha hb W)
  have e0 := at_b s 0 (by omega)
  have e1 := at_b s 1 (by omega)
  have e2 := at_b s 2 (by omega)
  have e3 := at_b s 3 (by omega)
  have b0 := Ed.b_lt s.data.toList 0
  have b1 := Ed.b_lt s.data.toList 1
  have b2 := Ed.b_lt s.data.toList 2
  have b3 := Ed.b_lt s.data.toList 3
  have HA : Hid ((s.extract 4 s.size).extract 0 (Ed.siz s.data.toList) = ⟨((s.data.toList.drop 4).take (Ed.siz s.data.toList)).toArray⟩) := by
    refine string_eq ?_
    rw [extract_list, extract_list, List.take_of_length_le (l := s.data.toList.drop 4) (by simp), List.drop_zero, Nat.sub_zero]
  have HC : Hid ((s.extract 4 s.size).extract (Ed.siz s.data.toList) (s.extract 4 s.size).size = ⟨((s.data.toList.drop 4).drop (Ed.siz s.data.toList)).toArray⟩) := by
    refine string_eq ?_
    rw [extract_list, extract_list, List.take_of_length_le (l := s.data.toList.drop 4) (by simp), List.take_of_length_le (by simp; omega)]
  have hk : Ed.num s.data.toList = 256 * Ed.b s.data.toList 0 + Ed.b s.data.toList 1 := rfl
  have hn : Ed.siz s.data.toList = 256 * Ed.b s.data.toList 2 + Ed.b s.data.toList 3 := rfl
  generalize Ed.siz s.data.toList = n at *
  generalize Ed.num s.data.toList = k at *
  generalize Ed.b s.data.toList 0 = x0 at *
  generalize Ed.b s.data.toList 1 = x1 at *
  generalize Ed.b s.data.toList 2 = x2 at *
  generalize Ed.b s.data.toList 3 = x3 at *
  subst hn hk
  have hw : IntKind.i64.wrap ((256 * x2 + x3 : Nat) : Int) = ((256 * x2 + x3 : Nat) : Int) := IntWalk.i64_in _ (by omega)
  have l0 : 0 < s.size := by omega
  have l1 : 1 < s.size := by omega
  have l2 : 2 < s.size := by omega
  have l3 : 3 < s.size := by omega
  have hi2 : (Try.prog.info? 60).map (·.size) = some 2 := by kernel_rfl
  have HI := Lib.hid hi2
  clear hi2
  go_enter Try.func23, Try.ntmps23
  go_wp2
  go_quiet ((go_at_call 24; exact ed_quiet (HP.out _ _ (by omega) (by omega) _)))
  have hz : (s.extract 4 s.size).size = s.size - 4 := by simp
  generalize s.extract 4 s.size = s2 at *
  have hq2 : 256 * (x2 : Int) + (x3 : Int) ≤ (s2.size : Int) := by omega
  have hq : decide ((s2.size : Int) < 256 * (x2 : Int) + (x3 : Int)) = false := by rw [decide_eq_false_iff_not]; omega
  have hq3 : 0 ≤ 256 * (x2 : Int) + (x3 : Int) := by omega
  have HZ := Lib.hid (Has.fresh w 60 #[.int .u16 0, .string ⟨#[]⟩])
  have HB := Lib.hid ((Below.refl w.heap.size w).alloc (Nat.le_refl _) (.cells #[.int .u16 0, .string ⟨#[]⟩] 60))
  clear hz
  go_wp2
  go_region
  all_goals go_wp2
  all_goals
    refine bodyPost_ret (results_row_tmp2 rfl _ _ w.heap.size 60 #[.int .u16 (256 * (x0 : Int) + (x1 : Int)), .string (s2.extract 0 (256 * x2 + x3))] _ rfl (((HZ.out.drewN _).set 0 _).set 1 _) Try.underlying60 rfl HI.out) rfl ?_
    refine ⟨?_, ((below_drewN HB.out _).setCell (Nat.le_refl _) _).setCell (Nat.le_refl _) _⟩
    show Ending.returned (.tuple #[.agg #[.int .u16 (256 * (x0 : Int) + (x1 : Int)), .string (s2.extract 0 (256 * x2 + x3))], .string (s2.extract (256 * x2 + x3) s2.size), .bool true]) = _
    rw [HA.out, HC.out]
    rfl
end Go.Proofs.Ytapbcepjcnnkgab
