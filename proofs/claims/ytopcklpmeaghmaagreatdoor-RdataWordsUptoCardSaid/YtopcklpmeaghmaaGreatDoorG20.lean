/- Texts of the proofs, merged. -/
import Derived.Test.YtopcklpmeaghmaaGreatDoorG19
import Derived.Test.YtopcklpmeaghmaaGreatDoorG9
/- The reader reads data of a known type: the program's. -/
namespace Go.Proofs.YtopcklpmeaghmaaGreatDoor
open Go.RowKit

def fnV (g p : Nat) : Value := .func (Fn.func (rdF p)) #[.pointer (some ⟨g, 0, none⟩)] #[]
def fnTab (g : Nat) : Array Value := #[fnV g 0, fnV g 1, fnV g 2, fnV g 3, fnV g 4, fnV g 5, fnV g 6, fnV g 7, fnV g 8, fnV g 9]
theorem fnTab_at (g : Nat) {p : Nat} (hp : p ≤ 9) : (fnTab g)[p]? = some (fnV g p) := by
  rcases (by omega : p = 0 ∨ p = 1 ∨ p = 2 ∨ p = 3 ∨ p = 4 ∨ p = 5 ∨ p = 6 ∨ p = 7 ∨ p = 8 ∨ p = 9) with rfl | rfl | rfl | rfl | rfl | rfl | rfl | rfl | rfl | rfl <;> rfl
theorem new_at (w : World) {k : Nat} (o : Obj) (hk : k = w.heap.size) : (w.alloc o).heap[k]? = some o := by
  subst hk
  exact heap_alloc_new w o
section
variable {g hi t : Nat} {o : ByteArray} {ws : List Rd.W2} {d : Rd.Dt} {w : World}
set_option maxHeartbeats 2000000 in
set_option maxRecDepth 100000 in
theorem rdKnown_ok (h : St w g hi o ws Rd.dt0 0) (ht : t ≤ 65535) (hr : Rd.knownR o.data.toList t ws = some d) (h32 : ∀ x ∈ ws, x.1.length < 4294967281) (ho : o.size ≤ 140737488355328) :
    Calls Tryz.prog 22 #[.pointer (some ⟨g, 0, none⟩), .int .u16 t] w fun e w' => e = .returned (dv d).val ∧ Kb g w.heap.size w w' := by
  unfold Rd.knownR at hr
  obtain ⟨S, hS, hq⟩ := Rd.bind_some' hr
  clear hr
  have hS0 : S.1 = [] := Decidable.byContradiction fun hS0 => by rw [if_neg hS0] at hq; cases hq
  rw [if_pos hS0] at hq
  injection hq with hr
  have hgw := h.lt
  have hmf : ∀ (fn : Fn) (first cap : Array Value) (W : World), (Instr.makeFunc fn first cap).run Tryz.prog W = .ok (.func fn first cap) W := fun _ _ _ _ => rfl
  have HS0 := Lib.hid h
  have HALL := Lib.hid hS
  have HE := Lib.hid hS0
  have HR := Lib.hid hr
  have H32 := Lib.hid h32
  have HPO : Hid (∀ W : World, LayR W → Calls Tryz.prog 9 #[.int .u16 t] W fun e w' => e = .returned (.agg (partC t)) ∧ Below W.heap.size W w') := fun W h => partsOf_any t W ht h
  clear h hS hS0 h32
  clear hr
  go_enter Tryz.func22, Tryz.ntmps22
  go_upto_region 2 with (refine wpList_store_row rfl 98 (.tmp 5) (.tmp 28) rfl (w.heap.size + 1) (fnTab g) rfl rfl 98 _ (new_at _ _ (by simp)) (by kernel_rfl) rfl (by simp [fnTab, fnV, Value.oneCell']) ?_)
  have hH1 : Has ((w.alloc (.cells #[.string ⟨#[]⟩, .string ⟨#[]⟩, .string ⟨#[]⟩, .int .u32 0, .int .u32 0, .int .u32 0, .int .u32 0, .int .u32 0] 27)).alloc (.cells #[.nilFunc, .nilFunc, .nilFunc, .nilFunc, .nilFunc, .nilFunc, .nilFunc, .nilFunc, .nilFunc, .nilFunc] 98)) (w.heap.size + 1) 98 #[.nilFunc, .nilFunc, .nilFunc, .nilFunc, .nilFunc, .nilFunc, .nilFunc, .nilFunc, .nilFunc, .nilFunc] := new_at _ _ (by simp)
  have hH0 := ((Has.fresh w 27 #[.string ⟨#[]⟩, .string ⟨#[]⟩, .string ⟨#[]⟩, .int .u32 0, .int .u32 0, .int .u32 0, .int .u32 0, .int .u32 0]).alloc (.cells #[.nilFunc, .nilFunc, .nilFunc, .nilFunc, .nilFunc, .nilFunc, .nilFunc, .nilFunc, .nilFunc, .nilFunc] 98)).rowFar (g' := w.heap.size + 1) (by omega) (fnTab g)
  have hH2 := hH1.row (fnTab g)
  have hB2 := below_setRow (((Below.refl w.heap.size w).alloc (Nat.le_refl _) (.cells #[.string ⟨#[]⟩, .string ⟨#[]⟩, .string ⟨#[]⟩, .int .u32 0, .int .u32 0, .int .u32 0, .int .u32 0, .int .u32 0] 27)).alloc (by simp) (.cells #[.nilFunc, .nilFunc, .nilFunc, .nilFunc, .nilFunc, .nilFunc, .nilFunc, .nilFunc, .nilFunc, .nilFunc] 98)) (g := w.heap.size + 1) (by omega) (fnTab g)
  clear hH1
  generalize World.setRow _ _ _ = W2 at *
  have HH0 := Lib.hid hH0
  have HH2 := Lib.hid hH2
  have HB2 := Lib.hid hB2
  have hW2 := hH2.lt
  have HG2 := Lib.hid (HS0.out.keep hB2)
  clear hH0 hH2 hB2
  go_wp2_with (go_at_call 9; refine (HPO.out _ HG2.out.gl.2.1).mono ?_; rintro e w3 ⟨rfl, B3⟩; have HB3 := Lib.hid B3; have HG3 := Lib.hid (HG2.out.keep B3); have HH03 := Lib.hid (HH0.out.below B3 HH0.out.lt); have HH23 := Lib.hid (HH2.out.below B3 HH2.out.lt); clear B3)
  have HK3 : Hid (Kb g w.heap.size w w3) := Kb.of_below (HB2.out.trans (HB3.out.mono (by omega)))
  have hw3 : W2.heap.size ≤ w3.heap.size := HB3.out.size
  clear HH0 HH2 HG2 HB2 HB3 HPO
  have hpl := Rd.parts_len t
  have HPL := Lib.hid hpl
  clear hpl
  go_loopw [31] (fun i wr => ∃ (k : Nat) (s : Rd.RS), i = .int .i64 k ∧ k ≤ 7 ∧ Hid (St wr g hi o s.1 s.2.1 s.2.2) ∧ Hid (Rd.rdAll o.data.toList ((Rd.parts t).drop k) s = some S) ∧ Hid (∀ x ∈ s.1, x.1.length < 4294967281) ∧ Hid (s.2.2 = Rd.nums ((Rd.parts t).take k)) ∧ Hid (Kb g w.heap.size w wr) ∧ Hid (Has wr (w.heap.size + 1) 98 (fnTab g)) ∧ Hid (Has wr w.heap.size 27 #[.string ⟨#[]⟩, .string ⟨#[]⟩, .string ⟨#[]⟩, .int .u32 0, .int .u32 0, .int .u32 0, .int .u32 0, .int .u32 0])) (fun i _ => 7 - (intOf i).toNat)
  case atStart => exact ⟨0, (ws, Rd.dt0, 0), rfl, by omega, HG3.out, HALL.out, H32.out, rfl, HK3.out, HH23.out, HH03.out⟩
  case round =>
    obtain ⟨k, s, rfl, hk, HST, HAL, H32, HN, HK, HT, HZ⟩ := hrel
    have hwr := HT.out.lt
    by_cases hlt : k < 7
    · have hj : k < (Rd.parts t).length := by rw [HPL.out]; exact hlt
      have hpa := part_at hj
      have hal := HAL.out
      rw [List.drop_eq_getElem_cons hj, Rd.rdAll] at hal
      obtain ⟨s', hs', hal'⟩ := Rd.bind_some' hal
      have hp9 : (Rd.parts t)[k] ≤ 9 := Rd.parts_lt t _ (List.getElem_mem hj)
      have hn5 : (Rd.parts t)[k] = 8 ∨ (Rd.parts t)[k] = 9 → s.2.2 < 5 := fun h => by
        have h1 := Rd.nums_le (t := t) (k := k + 1)
        rw [List.take_succ_eq_append_getElem hj, Rd.nums_snoc, if_pos h] at h1
        rw [HN.out]; omega
      obtain ⟨hC, hsub, hnn⟩ := part_ok (p := (Rd.parts t)[k]) HST.out hp9 hs' hn5 H32.out ho
      have hnn2 : s'.2.2 = Rd.nums ((Rd.parts t).take (k + 1)) := by
        rw [List.take_succ_eq_append_getElem hj, Rd.nums_snoc, ← HN.out]
        exact hnn
      have h4 : (Rd.parts t)[k] ≠ 4 := fun h => by rw [h] at hs'; cases hs'
      have ct : wr.cell? ⟨w.heap.size + 1, (Rd.parts t)[k], none⟩ = some (fnV g (Rd.parts t)[k]) := by rw [HT.out.cell]; exact fnTab_at g hp9
      have HC := Lib.hid hC
      have HAL' := Lib.hid hal'
      have HNN := Lib.hid hnn2
      have H32' := Lib.hid (fun x hx => H32.out x (hsub x hx))
      clear hal hs' hal' hn5 hC hsub hnn hnn2
      generalize (Rd.parts t)[k] = p at *
      clear hj
      rcases (by omega : p = 0 ∨ p = 1 ∨ p = 2 ∨ p = 3 ∨ p = 4 ∨ p = 5 ∨ p = 6 ∨ p = 7 ∨ p = 8 ∨ p = 9) with rfl | rfl | rfl | rfl | rfl | rfl | rfl | rfl | rfl | rfl
      · have ct2 : wr.cell? ⟨w.heap.size + 1, 0, none⟩ = some (.func (Fn.func 46) #[.pointer (some ⟨g, 0, none⟩)] #[]) := ct
        have HC2 : Hid (Calls Tryz.prog 46 #[.pointer (some ⟨g, 0, none⟩)] wr fun e w' => e = .returned (.tuple #[]) ∧ St w' g hi o s'.1 s'.2.1 s'.2.2 ∧ Kb g wr.heap.size wr w') := HC.out
        clear ct HC
        go_wp2_with (go_at_call 46; refine HC2.out.mono ?_; rintro e w4 ⟨rfl, S4, K4⟩; have HS4 := Lib.hid S4; have HT4 := Lib.hid (K4.has HT.out HT.out.lt (by omega)); have HZ4 := Lib.hid (K4.has HZ.out HZ.out.lt (by omega)); have HK4 := Lib.hid (HK.out.on K4); clear S4 K4)
        exact ⟨⟨k + 1, s', by go_num, by omega, HS4.out, HAL'.out, H32'.out, HNN.out, HK4.out, HT4.out, HZ4.out⟩, by simp [intOf]; omega⟩
      · have ct2 : wr.cell? ⟨w.heap.size + 1, 1, none⟩ = some (.func (Fn.func 47) #[.pointer (some ⟨g, 0, none⟩)] #[]) := ct
        have HC2 : Hid (Calls Tryz.prog 47 #[.pointer (some ⟨g, 0, none⟩)] wr fun e w' => e = .returned (.tuple #[]) ∧ St w' g hi o s'.1 s'.2.1 s'.2.2 ∧ Kb g wr.heap.size wr w') := HC.out
        clear ct HC
        go_wp2_with (go_at_call 47; refine HC2.out.mono ?_; rintro e w4 ⟨rfl, S4, K4⟩; have HS4 := Lib.hid S4; have HT4 := Lib.hid (K4.has HT.out HT.out.lt (by omega)); have HZ4 := Lib.hid (K4.has HZ.out HZ.out.lt (by omega)); have HK4 := Lib.hid (HK.out.on K4); clear S4 K4)
        exact ⟨⟨k + 1, s', by go_num, by omega, HS4.out, HAL'.out, H32'.out, HNN.out, HK4.out, HT4.out, HZ4.out⟩, by simp [intOf]; omega⟩
      · have ct2 : wr.cell? ⟨w.heap.size + 1, 2, none⟩ = some (.func (Fn.func 48) #[.pointer (some ⟨g, 0, none⟩)] #[]) := ct
        have HC2 : Hid (Calls Tryz.prog 48 #[.pointer (some ⟨g, 0, none⟩)] wr fun e w' => e = .returned (.tuple #[]) ∧ St w' g hi o s'.1 s'.2.1 s'.2.2 ∧ Kb g wr.heap.size wr w') := HC.out
        clear ct HC
        go_wp2_with (go_at_call 48; refine HC2.out.mono ?_; rintro e w4 ⟨rfl, S4, K4⟩; have HS4 := Lib.hid S4; have HT4 := Lib.hid (K4.has HT.out HT.out.lt (by omega)); have HZ4 := Lib.hid (K4.has HZ.out HZ.out.lt (by omega)); have HK4 := Lib.hid (HK.out.on K4); clear S4 K4)
        exact ⟨⟨k + 1, s', by go_num, by omega, HS4.out, HAL'.out, H32'.out, HNN.out, HK4.out, HT4.out, HZ4.out⟩, by simp [intOf]; omega⟩
      · have ct2 : wr.cell? ⟨w.heap.size + 1, 3, none⟩ = some (.func (Fn.func 49) #[.pointer (some ⟨g, 0, none⟩)] #[]) := ct
        have HC2 : Hid (Calls Tryz.prog 49 #[.pointer (some ⟨g, 0, none⟩)] wr fun e w' => e = .returned (.tuple #[]) ∧ St w' g hi o s'.1 s'.2.1 s'.2.2 ∧ Kb g wr.heap.size wr w') := HC.out
        clear ct HC
        go_wp2_with (go_at_call 49; refine HC2.out.mono ?_; rintro e w4 ⟨rfl, S4, K4⟩; have HS4 := Lib.hid S4; have HT4 := Lib.hid (K4.has HT.out HT.out.lt (by omega)); have HZ4 := Lib.hid (K4.has HZ.out HZ.out.lt (by omega)); have HK4 := Lib.hid (HK.out.on K4); clear S4 K4)
        exact ⟨⟨k + 1, s', by go_num, by omega, HS4.out, HAL'.out, H32'.out, HNN.out, HK4.out, HT4.out, HZ4.out⟩, by simp [intOf]; omega⟩
      · exact absurd rfl h4
      · have ct2 : wr.cell? ⟨w.heap.size + 1, 5, none⟩ = some (.func (Fn.func 50) #[.pointer (some ⟨g, 0, none⟩)] #[]) := ct
        have HC2 : Hid (Calls Tryz.prog 50 #[.pointer (some ⟨g, 0, none⟩)] wr fun e w' => e = .returned (.tuple #[]) ∧ St w' g hi o s'.1 s'.2.1 s'.2.2 ∧ Kb g wr.heap.size wr w') := HC.out
        clear ct HC
        go_wp2_with (go_at_call 50; refine HC2.out.mono ?_; rintro e w4 ⟨rfl, S4, K4⟩; have HS4 := Lib.hid S4; have HT4 := Lib.hid (K4.has HT.out HT.out.lt (by omega)); have HZ4 := Lib.hid (K4.has HZ.out HZ.out.lt (by omega)); have HK4 := Lib.hid (HK.out.on K4); clear S4 K4)
        exact ⟨⟨k + 1, s', by go_num, by omega, HS4.out, HAL'.out, H32'.out, HNN.out, HK4.out, HT4.out, HZ4.out⟩, by simp [intOf]; omega⟩
      · have ct2 : wr.cell? ⟨w.heap.size + 1, 6, none⟩ = some (.func (Fn.func 50) #[.pointer (some ⟨g, 0, none⟩)] #[]) := ct
        have HC2 : Hid (Calls Tryz.prog 50 #[.pointer (some ⟨g, 0, none⟩)] wr fun e w' => e = .returned (.tuple #[]) ∧ St w' g hi o s'.1 s'.2.1 s'.2.2 ∧ Kb g wr.heap.size wr w') := HC.out
        clear ct HC
        go_wp2_with (go_at_call 50; refine HC2.out.mono ?_; rintro e w4 ⟨rfl, S4, K4⟩; have HS4 := Lib.hid S4; have HT4 := Lib.hid (K4.has HT.out HT.out.lt (by omega)); have HZ4 := Lib.hid (K4.has HZ.out HZ.out.lt (by omega)); have HK4 := Lib.hid (HK.out.on K4); clear S4 K4)
        exact ⟨⟨k + 1, s', by go_num, by omega, HS4.out, HAL'.out, H32'.out, HNN.out, HK4.out, HT4.out, HZ4.out⟩, by simp [intOf]; omega⟩
      · have ct2 : wr.cell? ⟨w.heap.size + 1, 7, none⟩ = some (.func (Fn.func 51) #[.pointer (some ⟨g, 0, none⟩)] #[]) := ct
        have HC2 : Hid (Calls Tryz.prog 51 #[.pointer (some ⟨g, 0, none⟩)] wr fun e w' => e = .returned (.tuple #[]) ∧ St w' g hi o s'.1 s'.2.1 s'.2.2 ∧ Kb g wr.heap.size wr w') := HC.out
        clear ct HC
        go_wp2_with (go_at_call 51; refine HC2.out.mono ?_; rintro e w4 ⟨rfl, S4, K4⟩; have HS4 := Lib.hid S4; have HT4 := Lib.hid (K4.has HT.out HT.out.lt (by omega)); have HZ4 := Lib.hid (K4.has HZ.out HZ.out.lt (by omega)); have HK4 := Lib.hid (HK.out.on K4); clear S4 K4)
        exact ⟨⟨k + 1, s', by go_num, by omega, HS4.out, HAL'.out, H32'.out, HNN.out, HK4.out, HT4.out, HZ4.out⟩, by simp [intOf]; omega⟩
      · have ct2 : wr.cell? ⟨w.heap.size + 1, 8, none⟩ = some (.func (Fn.func 52) #[.pointer (some ⟨g, 0, none⟩)] #[]) := ct
        have HC2 : Hid (Calls Tryz.prog 52 #[.pointer (some ⟨g, 0, none⟩)] wr fun e w' => e = .returned (.tuple #[]) ∧ St w' g hi o s'.1 s'.2.1 s'.2.2 ∧ Kb g wr.heap.size wr w') := HC.out
        clear ct HC
        go_wp2_with (go_at_call 52; refine HC2.out.mono ?_; rintro e w4 ⟨rfl, S4, K4⟩; have HS4 := Lib.hid S4; have HT4 := Lib.hid (K4.has HT.out HT.out.lt (by omega)); have HZ4 := Lib.hid (K4.has HZ.out HZ.out.lt (by omega)); have HK4 := Lib.hid (HK.out.on K4); clear S4 K4)
        exact ⟨⟨k + 1, s', by go_num, by omega, HS4.out, HAL'.out, H32'.out, HNN.out, HK4.out, HT4.out, HZ4.out⟩, by simp [intOf]; omega⟩
      · have ct2 : wr.cell? ⟨w.heap.size + 1, 9, none⟩ = some (.func (Fn.func 53) #[.pointer (some ⟨g, 0, none⟩)] #[]) := ct
        have HC2 : Hid (Calls Tryz.prog 53 #[.pointer (some ⟨g, 0, none⟩)] wr fun e w' => e = .returned (.tuple #[]) ∧ St w' g hi o s'.1 s'.2.1 s'.2.2 ∧ Kb g wr.heap.size wr w') := HC.out
        clear ct HC
        go_wp2_with (go_at_call 53; refine HC2.out.mono ?_; rintro e w4 ⟨rfl, S4, K4⟩; have HS4 := Lib.hid S4; have HT4 := Lib.hid (K4.has HT.out HT.out.lt (by omega)); have HZ4 := Lib.hid (K4.has HZ.out HZ.out.lt (by omega)); have HK4 := Lib.hid (HK.out.on K4); clear S4 K4)
        exact ⟨⟨k + 1, s', by go_num, by omega, HS4.out, HAL'.out, H32'.out, HNN.out, HK4.out, HT4.out, HZ4.out⟩, by simp [intOf]; omega⟩
    · obtain rfl : k = 7 := by omega
      have hal := HAL.out
      rw [List.drop_eq_nil_of_le (by rw [HPL.out]; omega)] at hal
      injection hal with hal
      subst hal
      have hst := HST.out
      rw [HE.out] at hst
      obtain ⟨A, c, c0⟩ := hst.front
      obtain ⟨v, hh⟩ := hst.has
      have hrg : wr.rangeAt g 2 [sv s.2.1.raw, sv s.2.1.host, sv s.2.1.mail, .int .u32 s.2.1.n0, .int .u32 s.2.1.n1, .int .u32 s.2.1.n2, .int .u32 s.2.1.n3, .int .u32 s.2.1.n4] := fun j v hj => by
        rw [hh.cell]
        have e : ∀ j, (rdC v o s.2.1 s.2.2)[2 + j]? = (rdC v o s.2.1 s.2.2).toList[2 + j]? := fun j => by simp
        match j, hj with
        | 0, hj => exact hj
        | 1, hj => exact hj
        | 2, hj => exact hj
        | 3, hj => exact hj
        | 4, hj => exact hj
        | 5, hj => exact hj
        | 6, hj => exact hj
        | 7, hj => exact hj
      have hi8 : (Tryz.prog.info? 27).map (·.size) = some 8 := by kernel_rfl
      have HI := Lib.hid hi8
      have HRG := Lib.hid hrg
      have hd : d = s.2.1 := HR.out.symm
      have HD := Lib.hid hd
      clear hst hh hrg hi8 hd
      obtain ⟨dd, hdd⟩ : ∃ dd, s.2.1 = dd := ⟨_, rfl⟩
      rw [hdd] at HRG HD
      clear hdd
      obtain ⟨r, h, m, n0, n1, n2, n3, n4⟩ := dd
      go_wp2_with (first
        | (refine wpList_load_mid rfl 27 (.tmp 49) rfl g 2 rfl [sv r, sv h, sv m, .int .u32 n0, .int .u32 n1, .int .u32 n2, .int .u32 n3, .int .u32 n4] _ HRG.out Tryz.underlying27 rfl HI.out ?_)
        | (refine wpList_store_row rfl 27 (.tmp 4) (.tmp 50) rfl w.heap.size #[sv r, sv h, sv m, .int .u32 n0, .int .u32 n1, .int .u32 n2, .int .u32 n3, .int .u32 n4] rfl rfl 27 _ HZ.out HI.out rfl (by simp [Value.oneCell']) ?_))
      refine bodyPost_ret (results_cell_row rfl _ _ w.heap.size 27 #[sv r, sv h, sv m, .int .u32 n0, .int .u32 n1, .int .u32 n2, .int .u32 n3, .int .u32 n4] (0, 0) _ rfl (HZ.out.row _) Tryz.underlying27 rfl HI.out) rfl ?_
      refine ⟨by rw [HD.out]; rfl, HK.out.trans (Kb.of_below (below_setRow (Below.refl _ _) (Nat.le_refl _) _))⟩
end
end Go.Proofs.YtopcklpmeaghmaaGreatDoor
