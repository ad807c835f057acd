/- Texts of the proofs, merged. -/
import Derived.Test.YtgcaephfhfkjcaaGreatDoorZm15
import Derived.Test.YtgcaephfhfkjcaaGreatDoorZm8
import Derived.Test.YtgcaephfhfkjcaaGreatDoorZm4
import Derived.Test.YtgcaephfhfkjcaaGreatDoorZm14
import Derived.Test.YtgcaephfhfkjcaaGreatDoorZm1
namespace Go.Proofs.YtgcaephfhfkjcaaGreatDoor
open Go.RowKit

/-- the tables are as their initialisers lay them. -/
def cells64 : Array Value := #[.int .u8 0, .int .u8 1, .int .u8 56, .int .u8 2, .int .u8 57, .int .u8 49, .int .u8 28, .int .u8 3, .int .u8 61, .int .u8 58, .int .u8 42, .int .u8 50, .int .u8 38, .int .u8 29, .int .u8 17, .int .u8 4, .int .u8 62, .int .u8 47, .int .u8 59, .int .u8 36, .int .u8 45, .int .u8 43, .int .u8 51, .int .u8 22, .int .u8 53, .int .u8 39, .int .u8 33, .int .u8 30, .int .u8 24, .int .u8 18, .int .u8 12, .int .u8 5, .int .u8 63, .int .u8 55, .int .u8 48, .int .u8 27, .int .u8 60, .int .u8 41, .int .u8 37, .int .u8 16, .int .u8 46, .int .u8 35, .int .u8 44, .int .u8 21, .int .u8 52, .int .u8 32, .int .u8 23, .int .u8 11, .int .u8 54, .int .u8 26, .int .u8 40, .int .u8 15, .int .u8 34, .int .u8 20, .int .u8 31, .int .u8 10, .int .u8 25, .int .u8 14, .int .u8 19, .int .u8 9, .int .u8 13, .int .u8 8, .int .u8 7, .int .u8 6]
def LayD (w : World) : Prop := ∃ t, Has w 4 t cells64
theorem LayD.below {w w' : World} {B : Nat} (h : LayD w) (hb : Below B w w') (hB : w.heap.size ≤ B) : LayD w' := h.elim fun t h => ⟨t, h.below hb (Nat.lt_of_lt_of_le h.lt hB)⟩
def LayA (w : World) : Prop := LayR w ∧ LayP w ∧ LayD w
theorem LayA.below {w w' : World} {B : Nat} (h : LayA w) (hb : Below B w w') (hB : w.heap.size ≤ B) : LayA w' := ⟨h.1.below hb hB, h.2.1.below hb hB, h.2.2.below hb hB⟩
theorem nil_form {W : World} {b : Nat} {v : Value} {xs : List (List UInt8)} (h : W.ownsRow b 9 1 v xs.length (svs xs)) (e : xs = []) : ∃ A c, v = .slice A 0 c ∧ (A = none → c = 0) := by
  subst e
  rcases h.2 with ⟨rfl, _⟩ | ⟨g, cap, cur, rfl, _⟩
  · exact ⟨none, 0, rfl, fun _ => rfl⟩
  · exact ⟨_, _, rfl, fun e => by cases e⟩
/-- what bytes are told by: one word, or several. -/
def OneW (f : FuncId) (r : ByteArray) (x : List UInt8) : Prop := ∀ W : World, LayA W → Calls Tryz.prog f #[.string r] W fun e w' => e = .returned (sv x) ∧ Below W.heap.size W w'
def ManyW (f : FuncId) (r : ByteArray) (xs : List (List UInt8)) : Prop := ∀ W : World, LayA W → Calls Tryz.prog f #[.string r] W fun e w' => ∃ v, e = .returned v ∧ w'.ownsRow W.heap.size 9 1 v xs.length (svs xs) ∧ Below W.heap.size W w'
theorem rd_hasN3 (d : Dv) {n : Nat} (h : n < 5) : Rd.hasN d.dt n = d.n n := by
  rcases (by omega : n = 0 ∨ n = 1 ∨ n = 2 ∨ n = 3 ∨ n = 4) with rfl | rfl | rfl | rfl | rfl <;> rfl
theorem wds_len {d : Rd.Dt} {X : Nat → List (List UInt8)} (h : ∀ p, (X p).length ≤ 100000) (t k : Nat) : (Rd.wds d X ((Rd.parts t).take k)).1.length ≤ 100001 * k := by
  induction k with
  | zero => simp [Rd.wds]
  | succ k ih =>
    by_cases hk : k < (Rd.parts t).length
    · rw [List.take_succ_eq_append_getElem hk, Rd.wds_snoc, List.length_append]
      have := Rd.pcs_len (d := d) (n := Rd.nums ((Rd.parts t).take k)) (p := (Rd.parts t)[k]) h
      omega
    · rw [List.take_of_length_le (by omega)]
      rw [List.take_of_length_le (by omega)] at ih
      omega
theorem join_words {W : World} {b g cp : Nat} {ws : List (List UInt8)} (h : W.ownsRow b 9 1 (.slice (some ⟨g, 0, none⟩) ws.length cp) ws.length (svs ws)) (hg : g < W.heap.size) (hc : ws.length ≤ cp) (hl : ws.length ≤ 140737488355328) (hj : (Lib.join ws [32]).length ≤ 140737488355328) :
    Calls Tryz.prog 38 #[.slice (some ⟨g, 0, none⟩) ws.length cp, .string ⟨#[32]⟩] W fun e w' => e = .returned (sv (Lib.join ws [32])) ∧ Below W.heap.size W w' := by
  have hm : (ws.map fun l => (⟨l.toArray⟩ : ByteArray)).map (·.data.toList) = ws := by
    rw [List.map_map]
    exact (List.map_congr_left (fun _ _ => rfl)).trans (List.map_id _)
  have := Tryz.strings_Join g 0 cp (ws.map fun l => (⟨l.toArray⟩ : ByteArray)) ⟨#[32]⟩ W (fun j x hx => by
    have hj2 : j < ws.length := by have := (List.getElem?_eq_some_iff.1 hx).1; simpa using this
    rw [Nat.zero_add]
    have hx2 : x = ⟨(ws[j]).toArray⟩ := by simp [hj2] at hx; exact hx.symm
    rw [hx2]
    exact own_cells h j _ (by simp [svs, hj2])) hg (by simpa using hl) (by simpa using hc) (by rw [hm]; exact hj)
  rw [hm, List.length_map] at this
  exact this
set_option maxHeartbeats 8000000 in
set_option maxRecDepth 100000 in
theorem pdShow_loop (t : Nat) (d : Dv) (X : Nat → List (List UInt8)) (w : World) (ht : t ≤ 65535) (hL : LayA w) (hf : d.fits) (hh : d.host.size ≤ 140737488355328) (hm : d.mail.size ≤ 140737488355328)
    (hck : ∀ W : World, LayR W → Calls Tryz.prog 36 #[.int .u16 t, .agg d.cells] W fun e w' => e = .returned (.int .i64 0) ∧ Below W.heap.size W w')
    (h1 : 1 ∈ Rd.parts t → ∃ x, X 1 = [x] ∧ OneW 67 d.raw x) (h2 : 2 ∈ Rd.parts t → ∃ x, X 2 = [x] ∧ OneW 68 d.raw x)
    (h3 : 3 ∈ Rd.parts t → ManyW 69 d.raw (X 3)) (h4 : 4 ∈ Rd.parts t → ManyW 70 d.raw (X 4))
    (hXl : ∀ p, (X p).length ≤ 100000) (hne : (Rd.wds d.dt X (Rd.parts t)).1 ≠ []) (hjl : (Lib.join (Rd.wds d.dt X (Rd.parts t)).1 [32]).length ≤ 140737488355328) :
    Calls Tryz.prog 41 #[.int .u16 t, d.val] w fun e W' => e = .returned (.tuple #[sv (Lib.join (Rd.wds d.dt X (Rd.parts t)).1 [32]), .int .i64 0]) ∧ Below w.heap.size w W' := by
  obtain ⟨i0, hi, hz0, hz1, hz2⟩ := info_parts Tryz.infoString
  obtain ⟨R, hR⟩ : ∃ R, Lib.join (Rd.wds d.dt X (Rd.parts t)).1 [32] = R := ⟨_, rfl⟩
  rw [hR]
  have HRES := Lib.hid hR
  clear hR
  have HLw0 := Lib.hid hL
  have HCK := Lib.hid hck
  have HF := Lib.hid hf
  have H1 := Lib.hid h1
  have H2 := Lib.hid h2
  have H3 := Lib.hid h3
  have H4 := Lib.hid h4
  have HXL := Lib.hid hXl
  have HNE := Lib.hid hne
  have HJL := Lib.hid hjl
  have hX0 : Has (w.alloc (.cells d.cells 34)) w.heap.size 34 d.cells := Has.fresh w _ _
  have hB0 : Below w.heap.size w (w.alloc (.cells d.cells 34)) := (Below.refl _ _).alloc (Nat.le_refl _) _
  have HL0 := Lib.hid (hL.1.below hB0 (Nat.le_refl _))
  have hi8 : (Tryz.prog.info? 34).map (·.size) = some 8 := by kernel_rfl
  have HI := Lib.hid hi8
  have HX0 := Lib.hid hX0
  have HB0 := Lib.hid hB0
  have HPO : ∀ W : World, LayR W → Hid (Calls Tryz.prog 57 #[.int .u16 t] W fun e w' => e = .returned (.agg (partC t)) ∧ Below W.heap.size W w') := fun W h => partsOf_any t W ht h
  have hval : d.val = .agg d.cells := rfl
  clear hL hck hf hi8 hX0 hB0 h1 h2 h3 h4 hXl hne hjl
  go_enter Tryz.func41, Tryz.ntmps41
  go_wp2_with (first
    | (refine wpList_load_row rfl 34 (.tmp 3) rfl w.heap.size rfl 34 d.cells (0, 0) _ HX0.out Tryz.underlying34 rfl HI.out ?_)
    | (go_at_call 36; refine (HCK.out _ HL0.out).mono ?_; rintro e wc ⟨rfl, B1⟩; replace HX0 := Lib.hid (HX0.out.below B1 HX0.out.lt); replace HB0 := Lib.hid (HB0.out.trans (B1.mono HB0.out.size)); replace HL0 := Lib.hid (HLw0.out.1.below HB0.out (Nat.le_refl _)); clear B1)
    | (go_at_call 57; refine (HPO _ HL0.out).out.mono ?_; rintro e w1 ⟨rfl, B2⟩; replace HX0 := Lib.hid (HX0.out.below B2 HX0.out.lt); replace HB0 := Lib.hid (HB0.out.trans (B2.mono HB0.out.size)); clear B2 HL0))
  have HLw : Hid (LayA w1) := HLw0.out.below HB0.out (Nat.le_refl _)
  have hsw := HX0.out.lt
  go_loopw [7, 8, 19] (fun v nn i wr => ∃ k : Nat, i = .int .i64 k ∧ k ≤ 7 ∧ nn = .int .i64 (Rd.nums ((Rd.parts t).take k) : Nat) ∧ Hid (wr.ownsRow w1.heap.size 9 1 v (Rd.wds d.dt X ((Rd.parts t).take k)).1.length (svs (Rd.wds d.dt X ((Rd.parts t).take k)).1)) ∧ Hid (Below w1.heap.size w1 wr)) (fun _ _ i _ => 7 - (intOf i).toNat)
  case atStart => exact ⟨0, rfl, by omega, by simp [Rd.nums], World.ownsRow_nil _ _ _ _, Below.refl _ _⟩
  case round =>
    obtain ⟨k, rfl, hk, rfl, HO, HB⟩ := hrel
    have hbs := HB.out.size
    by_cases hlt : k < 7
    · have hkl : k < (Rd.parts t).length := by rw [Rd.parts_len]; exact hlt
      have hix := part_at hkl
      have hp9 : (Rd.parts t)[k] ≤ 9 := Rd.parts_lt t _ (List.getElem_mem hkl)
      have htk : (Rd.parts t).take (k + 1) = (Rd.parts t).take k ++ [(Rd.parts t)[k]] := List.take_succ_eq_append_getElem hkl
      have hn5 : Rd.nums ((Rd.parts t).take (k + 1)) ≤ 5 := Rd.nums_le
      have hmem : (Rd.parts t)[k] ∈ Rd.parts t := List.getElem_mem hkl
      have hwl : (Rd.wds d.dt X ((Rd.parts t).take k)).1.length ≤ 100001 * k := wds_len HXL.out t k
      rw [htk] at hn5
      have HTK := Lib.hid htk
      have HME := Lib.hid hmem
      have H4D := Lib.hid (HX0.out.below HB.out (by omega))
      clear htk hmem
      generalize (Rd.parts t)[k] = p at *
      generalize (Rd.parts t).take k = ps at *
      obtain ⟨q, hq⟩ : ∃ q : Int, ((p : Nat) : Int) = q := ⟨_, rfl⟩
      rw [hq] at hix
      have HQ := Lib.hid hq
      clear hq
      obtain ⟨ad, cp, hv⟩ := own_form HO.out
      subst hv
      have cr := dv_raw H4D.out
      have ch := dv_host H4D.out
      have cm := dv_mail H4D.out
      by_cases p0 : p = 0
      · subst p0
        obtain rfl : q = 0 := HQ.out.symm
        go_wp2
        go_roundw
        case rel => exact ⟨k + 1, by go_num, by omega, by rw [HTK.out, Rd.nums_snoc]; rfl, by rw [HTK.out, Rd.wds_snoc]; show World.ownsRow _ _ _ _ _ (_ ++ []).length (svs (_ ++ [])); rw [List.append_nil]; exact HO, HB⟩
        case measure => simp [intOf]; omega
      by_cases p1 : p = 1
      · subst p1
        obtain rfl : q = 1 := HQ.out.symm
        have HNU : Hid (Rd.nums (ps ++ [1]) = Rd.nums ps) := by rw [Hid, Rd.nums_snoc, if_neg (by omega)]; rfl
        obtain ⟨x, hx, hone⟩ := H1.out HME.out
        have HPC : Hid (Rd.pcs d.dt X (Rd.nums ps) 1 = [x]) := (Rd.pcs_raw (by omega) (by omega)).trans hx
        have HON := Lib.hid hone
        clear hx hone
        go_wp2_with (first
          | (go_at_call 67; refine (HON.out _ (HLw.out.below HB.out (Nat.le_refl _))).mono ?_; rintro e w2 ⟨rfl, B2⟩; have HB2 := Lib.hid (HB.out.trans (B2.mono hbs)); have HO2 := Lib.hid (own_below HO.out B2 (Nat.le_refl _)); have hs2 := B2.size; clear B2)
          | (at_builtin; refine wpList_append_own _ rfl (.tmp 25) (.tmp 29) _ rfl w1.heap.size 9 i0 _ 1 16 Tryz.underlying70 hi hz0 hz1 hz2 rfl (by decide) _ _ (svs (Rd.wds d.dt X ps).1) rfl (HO2.out.alloc _) ⟨w2.heap.size, 0, none⟩ 1 1 [sv x] rfl rfl ?c1 ?c2 ?c3 ?c4 ?c5 (fun v' w4 hown1 hg1 _ => ?_)))
        case c1 => exact cell_one_new _ _ _
        case c2 => simp [Value.oneCell']
        case c3 => unfold maxLen; omega
        case c4 => omega
        case c5 => simp; omega
        go_roundw
        case rel => exact ⟨k + 1, by go_num, by omega, by rw [HTK.out, HNU.out], by rw [HTK.out, Rd.wds_snoc, HPC.out, List.length_append, svs_append]; exact hown1, (HB2.out.alloc (by omega) _).grown hg1 (by simp; omega) (fun j hj => (HO2.out.lt j hj).1)⟩
        case measure => simp [intOf]; omega
      by_cases p2 : p = 2
      · subst p2
        obtain rfl : q = 2 := HQ.out.symm
        have HNU : Hid (Rd.nums (ps ++ [2]) = Rd.nums ps) := by rw [Hid, Rd.nums_snoc, if_neg (by omega)]; rfl
        obtain ⟨x, hx, hone⟩ := H2.out HME.out
        have HPC : Hid (Rd.pcs d.dt X (Rd.nums ps) 2 = [x]) := (Rd.pcs_raw (by omega) (by omega)).trans hx
        have HON := Lib.hid hone
        clear hx hone
        go_wp2_with (first
          | (go_at_call 68; refine (HON.out _ (HLw.out.below HB.out (Nat.le_refl _))).mono ?_; rintro e w2 ⟨rfl, B2⟩; have HB2 := Lib.hid (HB.out.trans (B2.mono hbs)); have HO2 := Lib.hid (own_below HO.out B2 (Nat.le_refl _)); have hs2 := B2.size; clear B2)
          | (at_builtin; refine wpList_append_own _ rfl (.tmp 33) (.tmp 37) _ rfl w1.heap.size 9 i0 _ 1 16 Tryz.underlying70 hi hz0 hz1 hz2 rfl (by decide) _ _ (svs (Rd.wds d.dt X ps).1) rfl (HO2.out.alloc _) ⟨w2.heap.size, 0, none⟩ 1 1 [sv x] rfl rfl ?c1 ?c2 ?c3 ?c4 ?c5 (fun v' w4 hown1 hg1 _ => ?_)))
        case c1 => exact cell_one_new _ _ _
        case c2 => simp [Value.oneCell']
        case c3 => unfold maxLen; omega
        case c4 => omega
        case c5 => simp; omega
        go_roundw
        case rel => exact ⟨k + 1, by go_num, by omega, by rw [HTK.out, HNU.out], by rw [HTK.out, Rd.wds_snoc, HPC.out, List.length_append, svs_append]; exact hown1, (HB2.out.alloc (by omega) _).grown hg1 (by simp; omega) (fun j hj => (HO2.out.lt j hj).1)⟩
        case measure => simp [intOf]; omega
      by_cases p3 : p = 3
      · subst p3
        obtain rfl : q = 3 := HQ.out.symm
        have HNU : Hid (Rd.nums (ps ++ [3]) = Rd.nums ps) := by rw [Hid, Rd.nums_snoc, if_neg (by omega)]; rfl
        have HON := Lib.hid (H3.out HME.out)
        have HPC : Hid (Rd.pcs d.dt X (Rd.nums ps) 3 = X 3) := Rd.pcs_raw (by omega) (by omega)
        have hxl := HXL.out 3
        go_wp2_with (first
          | (go_at_call 69; refine (HON.out _ (HLw.out.below (HB.out) (Nat.le_refl _))).mono ?_; rintro e w2 ⟨v2, rfl, O2, B2⟩; have HB2 := Lib.hid (HB.out.trans (B2.mono hbs)); have HO2 := Lib.hid (own_below HO.out B2 (Nat.le_refl _)); have hs2 := B2.size; clear B2; have HV2 := Lib.hid O2; have HRD := Lib.hid (Rd.of_own O2); clear O2)
          | (at_builtin; refine wpList_append_rd rfl (.tmp 41) (.tmp 44) _ rfl w1.heap.size 9 i0 _ Tryz.underlying70 hi hz0 hz1 hz2 rfl _ _ (svs (Rd.wds d.dt X ps).1) rfl HO2.out w2.heap.size v2 (X 3) rfl HRD.out (fun e => nil_form HV2.out e) (by omega) (by omega) (fun v' w4 hown1 hg1 => ?_)))
        go_roundw
        case rel => exact ⟨k + 1, by go_num, by omega, by rw [HTK.out, HNU.out], by rw [HTK.out, Rd.wds_snoc, HPC.out, List.length_append, svs_append]; exact hown1, HB2.out.grown hg1 (by omega) (fun j hj => (HO2.out.lt j hj).1)⟩
        case measure => simp [intOf]; omega
      by_cases p4 : p = 4
      · subst p4
        obtain rfl : q = 4 := HQ.out.symm
        have HNU : Hid (Rd.nums (ps ++ [4]) = Rd.nums ps) := by rw [Hid, Rd.nums_snoc, if_neg (by omega)]; rfl
        have HON := Lib.hid (H4.out HME.out)
        have HPC : Hid (Rd.pcs d.dt X (Rd.nums ps) 4 = X 4) := Rd.pcs_raw (by omega) (by omega)
        have hxl := HXL.out 4
        go_wp2_with (first
          | (go_at_call 70; refine (HON.out _ (HLw.out.below (HB.out) (Nat.le_refl _))).mono ?_; rintro e w2 ⟨v2, rfl, O2, B2⟩; have HB2 := Lib.hid (HB.out.trans (B2.mono hbs)); have HO2 := Lib.hid (own_below HO.out B2 (Nat.le_refl _)); have hs2 := B2.size; clear B2; have HV2 := Lib.hid O2; have HRD := Lib.hid (Rd.of_own O2); clear O2)
          | (at_builtin; refine wpList_append_rd rfl (.tmp 48) (.tmp 51) _ rfl w1.heap.size 9 i0 _ Tryz.underlying70 hi hz0 hz1 hz2 rfl _ _ (svs (Rd.wds d.dt X ps).1) rfl HO2.out w2.heap.size v2 (X 4) rfl HRD.out (fun e => nil_form HV2.out e) (by omega) (by omega) (fun v' w4 hown1 hg1 => ?_)))
        go_roundw
        case rel => exact ⟨k + 1, by go_num, by omega, by rw [HTK.out, HNU.out], by rw [HTK.out, Rd.wds_snoc, HPC.out, List.length_append, svs_append]; exact hown1, HB2.out.grown hg1 (by omega) (fun j hj => (HO2.out.lt j hj).1)⟩
        case measure => simp [intOf]; omega
      by_cases p5 : p = 5
      · subst p5
        obtain rfl : q = 5 := HQ.out.symm
        have HNU : Hid (Rd.nums (ps ++ [5]) = Rd.nums ps) := by rw [Hid, Rd.nums_snoc, if_neg (by omega)]; rfl
        obtain ⟨x, hx⟩ : ∃ x, Nm.text d.host.data.toList = x := ⟨_, rfl⟩
        have HPC : Hid (Rd.pcs d.dt X (Rd.nums ps) 5 = [x]) := by rw [← hx]; rfl
        have HON := Lib.hid (fun W : World => Text_any d.host W hh)
        rw [hx] at HON
        clear hx
        go_wp2_with (first
          | (go_at_call 39; refine (HON.out _).mono ?_; rintro e w2 ⟨rfl, B2⟩; have HB2 := Lib.hid (HB.out.trans (B2.mono hbs)); have HO2 := Lib.hid (own_below HO.out B2 (Nat.le_refl _)); have hs2 := B2.size; clear B2)
          | (at_builtin; refine wpList_append_own _ rfl (.tmp 56) (.tmp 60) _ rfl w1.heap.size 9 i0 _ 1 16 Tryz.underlying70 hi hz0 hz1 hz2 rfl (by decide) _ _ (svs (Rd.wds d.dt X ps).1) rfl (HO2.out.alloc _) ⟨w2.heap.size, 0, none⟩ 1 1 [sv x] rfl rfl ?c1 ?c2 ?c3 ?c4 ?c5 (fun v' w4 hown1 hg1 _ => ?_)))
        case c1 => exact cell_one_new _ _ _
        case c2 => simp [Value.oneCell']
        case c3 => unfold maxLen; omega
        case c4 => omega
        case c5 => simp; omega
        go_roundw
        case rel => exact ⟨k + 1, by go_num, by omega, by rw [HTK.out, HNU.out], by rw [HTK.out, Rd.wds_snoc, HPC.out, List.length_append, svs_append]; exact hown1, (HB2.out.alloc (by omega) _).grown hg1 (by simp; omega) (fun j hj => (HO2.out.lt j hj).1)⟩
        case measure => simp [intOf]; omega
      by_cases p6 : p = 6
      · subst p6
        obtain rfl : q = 6 := HQ.out.symm
        have HNU : Hid (Rd.nums (ps ++ [6]) = Rd.nums ps) := by rw [Hid, Rd.nums_snoc, if_neg (by omega)]; rfl
        obtain ⟨x, hx⟩ : ∃ x, Nm.text d.host.data.toList = x := ⟨_, rfl⟩
        have HPC : Hid (Rd.pcs d.dt X (Rd.nums ps) 6 = [x]) := by rw [← hx]; rfl
        have HON := Lib.hid (fun W : World => Text_any d.host W hh)
        rw [hx] at HON
        clear hx
        go_wp2_with (first
          | (go_at_call 39; refine (HON.out _).mono ?_; rintro e w2 ⟨rfl, B2⟩; have HB2 := Lib.hid (HB.out.trans (B2.mono hbs)); have HO2 := Lib.hid (own_below HO.out B2 (Nat.le_refl _)); have hs2 := B2.size; clear B2)
          | (at_builtin; refine wpList_append_own _ rfl (.tmp 56) (.tmp 60) _ rfl w1.heap.size 9 i0 _ 1 16 Tryz.underlying70 hi hz0 hz1 hz2 rfl (by decide) _ _ (svs (Rd.wds d.dt X ps).1) rfl (HO2.out.alloc _) ⟨w2.heap.size, 0, none⟩ 1 1 [sv x] rfl rfl ?c1 ?c2 ?c3 ?c4 ?c5 (fun v' w4 hown1 hg1 _ => ?_)))
        case c1 => exact cell_one_new _ _ _
        case c2 => simp [Value.oneCell']
        case c3 => unfold maxLen; omega
        case c4 => omega
        case c5 => simp; omega
        go_roundw
        case rel => exact ⟨k + 1, by go_num, by omega, by rw [HTK.out, HNU.out], by rw [HTK.out, Rd.wds_snoc, HPC.out, List.length_append, svs_append]; exact hown1, (HB2.out.alloc (by omega) _).grown hg1 (by simp; omega) (fun j hj => (HO2.out.lt j hj).1)⟩
        case measure => simp [intOf]; omega
      by_cases p7 : p = 7
      · subst p7
        obtain rfl : q = 7 := HQ.out.symm
        have HNU : Hid (Rd.nums (ps ++ [7]) = Rd.nums ps) := by rw [Hid, Rd.nums_snoc, if_neg (by omega)]; rfl
        obtain ⟨x, hx⟩ : ∃ x, Nm.text d.mail.data.toList = x := ⟨_, rfl⟩
        have HPC : Hid (Rd.pcs d.dt X (Rd.nums ps) 7 = [x]) := by rw [← hx]; rfl
        have HON := Lib.hid (fun W : World => Text_any d.mail W hm)
        rw [hx] at HON
        clear hx
        go_wp2_with (first
          | (go_at_call 39; refine (HON.out _).mono ?_; rintro e w2 ⟨rfl, B2⟩; have HB2 := Lib.hid (HB.out.trans (B2.mono hbs)); have HO2 := Lib.hid (own_below HO.out B2 (Nat.le_refl _)); have hs2 := B2.size; clear B2)
          | (at_builtin; refine wpList_append_own _ rfl (.tmp 64) (.tmp 68) _ rfl w1.heap.size 9 i0 _ 1 16 Tryz.underlying70 hi hz0 hz1 hz2 rfl (by decide) _ _ (svs (Rd.wds d.dt X ps).1) rfl (HO2.out.alloc _) ⟨w2.heap.size, 0, none⟩ 1 1 [sv x] rfl rfl ?c1 ?c2 ?c3 ?c4 ?c5 (fun v' w4 hown1 hg1 _ => ?_)))
        case c1 => exact cell_one_new _ _ _
        case c2 => simp [Value.oneCell']
        case c3 => unfold maxLen; omega
        case c4 => omega
        case c5 => simp; omega
        go_roundw
        case rel => exact ⟨k + 1, by go_num, by omega, by rw [HTK.out, HNU.out], by rw [HTK.out, Rd.wds_snoc, HPC.out, List.length_append, svs_append]; exact hown1, (HB2.out.alloc (by omega) _).grown hg1 (by simp; omega) (fun j hj => (HO2.out.lt j hj).1)⟩
        case measure => simp [intOf]; omega
      have hq := HQ.out
      have hn4 : Rd.nums ps < 5 := by rw [Rd.nums_snoc, if_pos (by omega)] at hn5; omega
      have HNU : Hid (Rd.nums (ps ++ [p]) = Rd.nums ps + 1) := by rw [Hid, Rd.nums_snoc, if_pos (by omega)]
      have cn := dv_n H4D.out hn4
      have hx4 : d.n (Rd.nums ps) ≤ 4294967295 := HF.out _
      have hni : ((Rd.nums ps : Nat) : Int) < 5 := by omega
      have hnj : (0 : Int) ≤ ((Rd.nums ps : Nat) : Int) := by omega
      obtain ⟨x, hx⟩ : ∃ x, Rd.dec (d.n (Rd.nums ps)) = x := ⟨_, rfl⟩
      have HON := Lib.hid (fun (W : World) h => fmtU_any (d.n (Rd.nums ps)) W (by omega) h)
      have hpc : Rd.pcs d.dt X (Rd.nums ps) p = [x] := by
        unfold Rd.pcs
        rw [if_neg (by omega), if_neg (by omega), if_neg (by omega), if_pos (by omega), rd_hasN3 d hn4, hx]
      have HPC := Lib.hid hpc
      rw [hx] at HON
      clear hx hpc
      generalize d.n (Rd.nums ps) = y at *
      rcases (by omega : (p = 8 ∧ q = 8) ∨ (p = 9 ∧ q = 9)) with ⟨rfl, rfl⟩ | ⟨rfl, rfl⟩
      · clear hq
        go_wp2_with (first
          | (go_at_call 43; refine (HON.out _ (HLw.out.below HB.out (Nat.le_refl _)).2.1).mono ?_; rintro e w2 ⟨rfl, B2⟩; have HB2 := Lib.hid (HB.out.trans (B2.mono hbs)); have HO2 := Lib.hid (own_below HO.out B2 (Nat.le_refl _)); have hs2 := B2.size; clear B2)
          | (at_builtin; refine wpList_append_own _ rfl (.tmp 73) (.tmp 80) _ rfl w1.heap.size 9 i0 _ 1 16 Tryz.underlying70 hi hz0 hz1 hz2 rfl (by decide) _ _ (svs (Rd.wds d.dt X ps).1) rfl (HO2.out.alloc _) ⟨w2.heap.size, 0, none⟩ 1 1 [sv x] rfl rfl ?c1 ?c2 ?c3 ?c4 ?c5 (fun v' w4 hown1 hg1 _ => ?_)))
        case c1 => exact cell_one_new _ _ _
        case c2 => simp [Value.oneCell']
        case c3 => unfold maxLen; omega
        case c4 => omega
        case c5 => simp; omega
        go_roundw
        case rel => exact ⟨k + 1, by go_num, by omega, by rw [HTK.out, HNU.out]; go_num, by rw [HTK.out, Rd.wds_snoc, HPC.out, List.length_append, svs_append]; exact hown1, (HB2.out.alloc (by omega) _).grown hg1 (by simp; omega) (fun j hj => (HO2.out.lt j hj).1)⟩
        case measure => simp [intOf]; omega
      · clear hq
        go_wp2_with (first
          | (go_at_call 43; refine (HON.out _ (HLw.out.below HB.out (Nat.le_refl _)).2.1).mono ?_; rintro e w2 ⟨rfl, B2⟩; have HB2 := Lib.hid (HB.out.trans (B2.mono hbs)); have HO2 := Lib.hid (own_below HO.out B2 (Nat.le_refl _)); have hs2 := B2.size; clear B2)
          | (at_builtin; refine wpList_append_own _ rfl (.tmp 73) (.tmp 80) _ rfl w1.heap.size 9 i0 _ 1 16 Tryz.underlying70 hi hz0 hz1 hz2 rfl (by decide) _ _ (svs (Rd.wds d.dt X ps).1) rfl (HO2.out.alloc _) ⟨w2.heap.size, 0, none⟩ 1 1 [sv x] rfl rfl ?c1 ?c2 ?c3 ?c4 ?c5 (fun v' w4 hown1 hg1 _ => ?_)))
        case c1 => exact cell_one_new _ _ _
        case c2 => simp [Value.oneCell']
        case c3 => unfold maxLen; omega
        case c4 => omega
        case c5 => simp; omega
        go_roundw
        case rel => exact ⟨k + 1, by go_num, by omega, by rw [HTK.out, HNU.out]; go_num, by rw [HTK.out, Rd.wds_snoc, HPC.out, List.length_append, svs_append]; exact hown1, (HB2.out.alloc (by omega) _).grown hg1 (by simp; omega) (fun j hj => (HO2.out.lt j hj).1)⟩
        case measure => simp [intOf]; omega
    · obtain rfl : k = 7 := by omega
      have hall : (Rd.parts t).take 7 = Rd.parts t := List.take_of_length_le (by rw [Rd.parts_len]; omega)
      rw [hall] at HO
      have hwl : (Rd.wds d.dt X ((Rd.parts t).take 7)).1.length ≤ 100001 * 7 := wds_len HXL.out t 7
      rw [hall] at hwl
      clear hall
      have HJ := HJL.out
      obtain ⟨ws, hws⟩ : ∃ ws, (Rd.wds d.dt X (Rd.parts t)).1 = ws := ⟨_, rfl⟩
      rw [hws] at HO HNE HJ hwl HRES
      have HJ2 := Lib.hid HJ
      clear hws HJL HJ
      obtain ⟨g, cp, rfl, hcp, hg1, hg2⟩ := own_pos HO.out (by have := HNE.out; cases ws with | nil => exact absurd rfl this | cons a b => simp)
      have HJN := Lib.hid (join_words HO.out hg2 hcp (by omega) HJ2.out)
      go_wp2_with (go_at_call 38; refine HJN.out.mono ?_; rintro e w3 ⟨rfl, B3⟩)
      go_ret2
      exact ⟨by rw [← HRES.out]; rfl, HB0.out.trans ((HB.out.mono (by omega)).trans (B3.mono (by omega)))⟩
end Go.Proofs.YtgcaephfhfkjcaaGreatDoor
namespace Go.Proofs.YtgcaephfhfkjcaaGreatDoor
open Go.RowKit

theorem tab4 {w : World} (h : LayD w) : w.cell? ⟨4, (285870213051353865 * 16 % 18446744073709551616) / 288230376151711744, none⟩ = some (.int .u8 4) := by
  obtain ⟨t, h⟩ := h
  rw [h.cell]
  rfl
set_option maxRecDepth 100000 in
theorem tz64_16 (w : World) (h : LayD w) : Calls Tryz.prog 153 #[.int .u64 16] w fun e w' => e = .returned (.int .i64 4) ∧ w = w' := by
  have h4 := tab4 h
  simp only [Nat.reduceMul, Nat.reduceMod, Nat.reduceDiv] at h4
  have e1 : IntKind.u64.wrap (-16) = 18446744073709551600 := by kernel_rfl
  have e2 : bits BinOp.and IntKind.u64 16 18446744073709551600 = 16 := by kernel_rfl
  have e3 : IntKind.u64.wrap 4573923408821661840 = 4573923408821661840 := by kernel_rfl
  clear h
  go_enter Tryz.func153, Tryz.ntmps153
  go_wp2
  go_ret
  exact ⟨rfl, rfl⟩
set_option maxRecDepth 100000 in
theorem tz_16 (w : World) (h : LayD w) : Calls Tryz.prog 128 #[.int .u64 16] w fun e w' => e = .returned (.int .i64 4) ∧ w = w' := by
  have H := Lib.hid (tz64_16 w h)
  clear h
  go_enter Tryz.func128, Tryz.ntmps128
  go_wp2_with (go_at_call 153; refine H.out.mono ?_; rintro e w' ⟨rfl, rfl⟩)
  go_ret
  exact ⟨rfl, rfl⟩
theorem pow_16 (w : World) : Calls Tryz.prog 127 #[.int .i64 16] w fun e w' => e = .returned (.bool true) ∧ w = w' := by
  go_enter Tryz.func127, Tryz.ntmps127
  go_wp2
  go_ret
  exact ⟨rfl, rfl⟩
/-- the digits of the table. -/
theorem dgAll : ∀ j : Fin 16, ((⟨#[48, 49, 50, 51, 52, 53, 54, 55, 56, 57, 97, 98, 99, 100, 101, 102, 103, 104, 105, 106, 107, 108, 109, 110, 111, 112, 113, 114, 115, 116, 117, 118, 119, 120, 121, 122]⟩ : ByteArray)[j.1]'(by show j.1 < 36; omega)) = Rd.hx j.1 := by decide
theorem dg36 (r : Nat) (h : r < 16) : ((⟨#[48, 49, 50, 51, 52, 53, 54, 55, 56, 57, 97, 98, 99, 100, 101, 102, 103, 104, 105, 106, 107, 108, 109, 110, 111, 112, 113, 114, 115, 116, 117, 118, 119, 120, 121, 122]⟩ : ByteArray)[r]'(by show r < 36; omega)) = Rd.hx r := dgAll ⟨r, h⟩
/-- 65 bytes: digits at the end. -/
def r65 (out : List UInt8) : Array Value := (List.replicate (65 - out.length) (Value.int .u8 0) ++ bv out).toArray
theorem r65_nil : Tryz.zeroCells180 = r65 [] := by kernel_rfl
theorem r65_set (out : List UInt8) (c : UInt8) {n : Nat} (hn : n + 1 + out.length = 65) : (r65 out).setIfInBounds n (.int .u8 (c.toNat : Int)) = r65 (c :: out) := by
  unfold r65
  rw [List.setIfInBounds_toArray, show 65 - out.length = n + 1 by omega, show 65 - (c :: out).length = n by rw [List.length_cons]; omega, List.set_append_left _ _ (by simp), List.replicate_succ', List.set_append_right _ _ (by simp)]
  simp [bv]
theorem r65_at (out : List UInt8) {n : Nat} (hn : n + 1 + out.length = 65) : (r65 out)[n]? = some (.int .u8 0) := by
  unfold r65
  rw [List.getElem?_toArray, List.getElem?_append_left (by simp; omega), List.getElem?_replicate, if_pos (by omega)]
theorem r65_tail (out : List UInt8) {n : Nat} (hn : n + out.length = 65) (j : Nat) (hj : j < out.length) : (r65 out)[n + j]? = some (.int .u8 (out[j].toNat : Int)) := by
  unfold r65
  rw [List.getElem?_toArray, List.getElem?_append_right (by simp; omega), List.length_replicate, show n + j - (65 - out.length) = j by omega]
  exact bv_get out j hj
theorem and15 (v : Nat) (hv : v ≤ 65535) : bits BinOp.and IntKind.u64 (v : Int) 15 = ((v % 16 : Nat) : Int) := by
  have h := bits_mask .u64 63 (by decide) (fun n h0 h1 => by rw [IntKind.wrap_u64]; omega) 4 (by decide) (v : Int) (by omega) (by omega)
  have e : ((2 : Int) ^ 4 - 1) = 15 := by decide
  have e2 : ((2 : Int) ^ 4) = 16 := by decide
  rw [e, e2] at h
  rw [h]
  omega
set_option maxHeartbeats 2000000 in
set_option maxRecDepth 100000 in
theorem fmtBits_16 (u : Nat) (w : World) (hu : u ≤ 65535) (hL : LayD w) :
    Calls Tryz.prog 106 #[.slice none 0 0, .int .u64 u, .int .i64 16, .bool false, .bool false] w fun e w' => e = .returned (.tuple #[.slice none 0 0, sv (Rd.hex u)]) ∧ Below w.heap.size w w' := by
  have HTZ := Lib.hid (fun (W : World) (hb : Below w.heap.size w W) => tz_16 W (hL.below hb (Nat.le_refl _)))
  clear hL
  go_enter Tryz.func106, Tryz.ntmps106
  go_wp2_with (first
    | (go_at_call 127; refine (pow_16 _).mono ?_; rintro e w2 ⟨rfl, rfl⟩)
    | (go_at_call 128; refine (HTZ.out _ ((Below.refl _ _).alloc (Nat.le_refl _) _)).mono ?_; rintro e w3 ⟨rfl, rfl⟩))
  have H0 : Hid (Has (w.alloc (.cells Tryz.zeroCells180 180)) w.heap.size 180 (r65 [])) := by rw [← r65_nil]; exact Has.fresh w _ _
  have HB0 : Hid (Below w.heap.size w (w.alloc (.cells Tryz.zeroCells180 180))) := (Below.refl _ _).alloc (Nat.le_refl _) _
  go_loopw [1, 13] (fun uu ii wr => ∃ (v n : Nat) (out : List UInt8), uu = .int .u64 v ∧ ii = .int .i64 n ∧ n + out.length = 65 ∧ ((out.length = 0 ∧ v ≤ 65535) ∨ (out.length = 1 ∧ v ≤ 4095) ∨ (out.length = 2 ∧ v ≤ 255) ∨ (out.length = 3 ∧ v ≤ 15)) ∧ Hid (Rd.hex u = Rd.hex v ++ out) ∧ Hid (Has wr w.heap.size 180 (r65 out)) ∧ Hid (Below w.heap.size w wr)) (fun uu _ _ => (intOf uu).toNat)
  case atStart => exact ⟨u, 65, [], rfl, rfl, rfl, .inl ⟨rfl, hu⟩, by rw [Hid, List.append_nil], H0, HB0⟩
  case round =>
    obtain ⟨v, n, out, rfl, rfl, hn, hv, HX, HH, HB⟩ := hrel
    by_cases h16 : 16 ≤ v
    · have hk : out.length ≤ 2 := by omega
      obtain ⟨m, rfl⟩ : ∃ m, n = m + 1 := ⟨n - 1, by omega⟩
      have cm : wr.cell? ⟨w.heap.size, m, none⟩ = some (.int .u8 0) := by rw [HH.out.cell]; exact r65_at out hn
      have fm := HH.out.free m
      have hm65 : (m : Int) < 65 := by omega
      have hm0 : (0 : Int) ≤ (m : Int) := by omega
      have hr : v % 16 < 16 := by omega
      have han : bits BinOp.and IntKind.u64 (v : Int) 15 = ((v % 16 : Nat) : Int) := and15 v (by omega)
      have HR := Lib.hid hr
      obtain ⟨r, hr2⟩ : ∃ r, v % 16 = r := ⟨_, rfl⟩
      rw [hr2] at han hr
      have hdg := dg36 r hr
      have HX2 : Hid (Rd.hex u = Rd.hex (v / 16) ++ Rd.hx r :: out) := by rw [Hid, HX.out, Rd.hex_more (by omega), hr2, List.append_assoc]; rfl
      have HS := Lib.hid (r65_set out (Rd.hx r) (n := m) hn)
      clear hr2
      go_wp2
      go_roundw
      case rel => exact ⟨v / 16, m, Rd.hx r :: out, by go_num, rfl, by rw [List.length_cons]; omega, by rw [List.length_cons]; omega, HX2, by rw [← HS.out]; exact HH.out.set _ _, HB.out.setCell (by simp) _⟩
      case measure => simp [intOf]; omega
    · obtain ⟨m, rfl⟩ : ∃ m, n = m + 1 := ⟨n - 1, by omega⟩
      have cm : wr.cell? ⟨w.heap.size, m, none⟩ = some (.int .u8 0) := by rw [HH.out.cell]; exact r65_at out hn
      have fm := HH.out.free m
      have hm65 : (m : Int) < 65 := by omega
      have hm0 : (0 : Int) ≤ (m : Int) := by omega
      have hv16 : v < 16 := by omega
      have hdg := dg36 v hv16
      have HX2 : Hid (Rd.hex u = Rd.hx v :: out) := by rw [Hid, HX.out, Rd.hex_small hv16]; rfl
      have hH2 : Has (wr.setCell ⟨w.heap.size, m, none⟩ (.int .u8 ((Rd.hx v).toNat : Int))) w.heap.size 180 (r65 (Rd.hx v :: out)) := by rw [← r65_set out (Rd.hx v) hn]; exact HH.out.set _ _
      have hcv := run_convert_bs (w := wr.setCell ⟨w.heap.size, m, none⟩ (.int .u8 ((Rd.hx v).toNat : Int))) (P := Tryz.prog) 56 9 5 Tryz.underlying56 Tryz.underlying5 Tryz.underlying9 0 (w.heap.size + 1) (some ⟨w.heap.size, m, none⟩) (65 - m) (65 - m) (Rd.hx v :: out) (by rw [List.length_cons]; omega) (fun _ => ⟨w.heap.size, m, rfl, Nat.zero_le _, by omega, fun j hj => by rw [hH2.cell]; exact r65_tail (Rd.hx v :: out) (by rw [List.length_cons]; omega) j hj⟩)
      have hal : Tryz.prog.arrayLen 180 = 65 := by kernel_rfl
      have hsl1 : ∀ W, (Instr.sliceAt 180 (.pointer (some ⟨w.heap.size, 0, none⟩)) (some (.int .i64 (m : Int))) none none).run Tryz.prog W = .ok (.slice (some ⟨w.heap.size, m, none⟩) (65 - m) (65 - m)) W := fun W => by
        rw [run_sliceAt_array_l W 180 ⟨w.heap.size, 0, none⟩ (by kernel_rfl) .i64 (m : Int) (by omega) (by rw [hal]; omega), hal]
        go_simp
        omega
      clear hH2 hal
      go_wp2
      go_ret2
      exact ⟨by rw [HX2.out]; rfl, HB.out.setCell (by simp) _⟩
set_option maxRecDepth 100000 in
theorem ifmt_16 (u : Nat) (w : World) (hu : u ≤ 65535) (hL : LayD w) :
    Calls Tryz.prog 71 #[.int .u64 u, .int .i64 16] w fun e w' => e = .returned (sv (Rd.hex u)) ∧ Below w.heap.size w w' := by
  have H := Lib.hid (fmtBits_16 u w hu hL)
  clear hL
  go_enter Tryz.func71, Tryz.ntmps71
  go_wp2_with (go_at_call 106; refine H.out.mono ?_; rintro e w2 ⟨rfl, B2⟩)
  go_ret
  exact ⟨rfl, B2⟩
set_option maxRecDepth 100000 in
theorem fmt_16 (u : Nat) (w : World) (hu : u ≤ 65535) (hL : LayA w) :
    Calls Tryz.prog 43 #[.int .u64 u, .int .i64 16] w fun e w' => e = .returned (sv (Rd.hex u)) ∧ Below w.heap.size w w' := by
  have H := Lib.hid (ifmt_16 u w hu hL.2.2)
  clear hL
  go_enter Tryz.func43, Tryz.ntmps43
  go_wp2_with (go_at_call 71; refine H.out.mono ?_; rintro e w2 ⟨rfl, B2⟩)
  go_ret
  exact ⟨rfl, B2⟩
end Go.Proofs.YtgcaephfhfkjcaaGreatDoor
