/- Texts of the proofs, merged. -/
import Derived.Test.YtmieakkhpkclpaaDoorG7
import Derived.Test.YtmieakkhpkclpaaDoorG8
/- The document's answer on data: Fold. -/
namespace Go.Proofs.YtmieakkhpkclpaaDoor
open Go.RowKit

/-- data with names in small letters. -/
def Dv.fold (t : Nat) (d : Dv) : Dv :=
  { d with host := if Rd.isHost t then ⟨(Nm.fold d.host.data.toList).toArray⟩ else d.host, mail := if Rd.isMail t then ⟨(Nm.fold d.mail.data.toList).toArray⟩ else d.mail }
theorem eight {W : World} {g : Nat} {t : TypeId} {a b c d e f g2 h : Value} (k : Has W g t #[a, b, c, d, e, f, g2, h]) :
    W.cell? ⟨g, 0, none⟩ = some a ∧ W.cell? ⟨g, 1, none⟩ = some b ∧ W.cell? ⟨g, 2, none⟩ = some c ∧ W.cell? ⟨g, 3, none⟩ = some d ∧ W.cell? ⟨g, 4, none⟩ = some e ∧ W.cell? ⟨g, 5, none⟩ = some f ∧ W.cell? ⟨g, 6, none⟩ = some g2 ∧ W.cell? ⟨g, 7, none⟩ = some h ∧ (∀ j, W.frozen? ⟨g, j, none⟩ = false) := by
  refine ⟨?_, ?_, ?_, ?_, ?_, ?_, ?_, ?_, fun j => k.free j⟩ <;> (rw [k.cell]; rfl)
theorem eight_set {W : World} {g : Nat} {t : TypeId} {a b c d e f g2 h a' b' c' d' e' f' g' h' : Value} (k : Has W g t #[a', b', c', d', e', f', g', h']) :
    Has ((((((((W.setCell ⟨g, 0, none⟩ a).setCell ⟨g, 1, none⟩ b).setCell ⟨g, 2, none⟩ c).setCell ⟨g, 3, none⟩ d).setCell ⟨g, 4, none⟩ e).setCell ⟨g, 5, none⟩ f).setCell ⟨g, 6, none⟩ g2).setCell ⟨g, 7, none⟩ h) g t #[a, b, c, d, e, f, g2, h] := by
  have k8 := (((((((k.set 0 a).set 1 b).set 2 c).set 3 d).set 4 e).set 5 f).set 6 g2).set 7 h
  simp only [List.setIfInBounds_toArray, List.set_cons_zero, List.set_cons_succ] at k8
  exact k8
theorem eight_below {w W : World} {g B : Nat} {a b c d e f g2 h : Value} (k : Below B w W) (hg : B ≤ g) :
    Below B w ((((((((W.setCell ⟨g, 0, none⟩ a).setCell ⟨g, 1, none⟩ b).setCell ⟨g, 2, none⟩ c).setCell ⟨g, 3, none⟩ d).setCell ⟨g, 4, none⟩ e).setCell ⟨g, 5, none⟩ f).setCell ⟨g, 6, none⟩ g2).setCell ⟨g, 7, none⟩ h) :=
  (((((((k.setCell (p := ⟨g, 0, none⟩) hg a).setCell (p := ⟨g, 1, none⟩) hg b).setCell (p := ⟨g, 2, none⟩) hg c).setCell (p := ⟨g, 3, none⟩) hg d).setCell (p := ⟨g, 4, none⟩) hg e).setCell (p := ⟨g, 5, none⟩) hg f).setCell (p := ⟨g, 6, none⟩) hg g2).setCell (p := ⟨g, 7, none⟩) hg h
set_option maxHeartbeats 2000000 in
set_option maxRecDepth 100000 in
theorem rdFold_any (t : Nat) (d : Dv) (w : World) (ht : t ≤ 65535) (hh : d.host.size ≤ 140737488355328) (hm : d.mail.size ≤ 140737488355328) :
    Calls Tryd.prog 58 #[.int .u16 t, d.val] w fun e w' => e = .returned (d.fold t).val ∧ Below w.heap.size w w' := by
  have HNM := Lib.hid (fun W : World => rdNames_any t W ht)
  unfold Dv.fold
  have HF1 := Lib.hid (fun W : World => refFold_any d.host W hh)
  have HF2 := Lib.hid (fun W : World => refFold_any d.mail W hm)
  generalize Nm.fold d.host.data.toList = fh at *
  generalize Nm.fold d.mail.data.toList = fm at *
  obtain ⟨h, hih⟩ : ∃ h, Rd.isHost t = h := ⟨_, rfl⟩
  obtain ⟨m, him⟩ : ∃ m, Rd.isMail t = m := ⟨_, rfl⟩
  rw [hih, him] at HNM ⊢
  clear hih him
  unfold Dv.val
  have hX0 := (Has.fresh w 41 #[.string d.raw, .string d.host, .string d.mail, .int .u32 d.n0, .int .u32 d.n1, .int .u32 d.n2, .int .u32 d.n3, .int .u32 d.n4]).alloc (.cells #[.string ⟨#[]⟩, .string ⟨#[]⟩, .string ⟨#[]⟩, .int .u32 0, .int .u32 0, .int .u32 0, .int .u32 0, .int .u32 0] 41)
  have hZ0 := Has.fresh (w.alloc (.cells #[.string d.raw, .string d.host, .string d.mail, .int .u32 d.n0, .int .u32 d.n1, .int .u32 d.n2, .int .u32 d.n3, .int .u32 d.n4] 41)) 41 #[.string ⟨#[]⟩, .string ⟨#[]⟩, .string ⟨#[]⟩, .int .u32 0, .int .u32 0, .int .u32 0, .int .u32 0, .int .u32 0]
  rw [World.size_alloc] at hZ0
  have HX := Lib.hid hX0
  have HZ := Lib.hid hZ0
  have HB0 : Hid (Below w.heap.size w ((w.alloc (.cells #[.string d.raw, .string d.host, .string d.mail, .int .u32 d.n0, .int .u32 d.n1, .int .u32 d.n2, .int .u32 d.n3, .int .u32 d.n4] 41)).alloc (.cells #[.string ⟨#[]⟩, .string ⟨#[]⟩, .string ⟨#[]⟩, .int .u32 0, .int .u32 0, .int .u32 0, .int .u32 0, .int .u32 0] 41))) := ((Below.refl _ w).alloc (Nat.le_refl _) _).alloc (by simp) _
  clear hX0 hZ0
  cases h with
  | false =>
    cases m with
    | false =>
      simp only [Bool.false_eq_true, if_false]
      go_enter Tryd.func58, Tryd.ntmps58
      go_wp2_with (go_at_call 87; refine (HNM.out _).mono ?_; rintro e' w1 ⟨rfl, rfl⟩)
      have hZ := (Has.fresh (w.alloc (.cells #[.string d.raw, .string d.host, .string d.mail, .int .u32 d.n0, .int .u32 d.n1, .int .u32 d.n2, .int .u32 d.n3, .int .u32 d.n4] 41)) 41 #[.string d.raw, .string d.host, .string d.mail, .int .u32 d.n0, .int .u32 d.n1, .int .u32 d.n2, .int .u32 d.n3, .int .u32 d.n4])
      rw [World.size_alloc] at hZ
      refine bodyPost_ret (results_cell_row rfl _ _ (w.heap.size + 1) 41 _ _ _ rfl hZ Tryd.underlying41 rfl (by kernel_rfl)) rfl ?_
      exact ⟨rfl, ((Below.refl _ w).alloc (Nat.le_refl _) _).alloc (by simp) _⟩
    | true =>
      simp only [Bool.false_eq_true, if_false, if_true]
      go_enter Tryd.func58, Tryd.ntmps58
      go_wp2_with (first
        | (go_at_call 87; refine (HNM.out _).mono ?_; rintro e' w1 ⟨rfl, rfl⟩)
        | (go_at_call 38; (with_reducible refine (HF2.out _).mono ?_); rintro e' w3 ⟨rfl, B3⟩; have HX3 := Lib.hid (HX.out.below B3 (by simp; omega)); have HZ3 := Lib.hid (HZ.out.below B3 (by simp)); have HB3 := Lib.hid (HB0.out.trans (B3.mono (by simp; omega))); have x3 := eight HX3.out; have z3 := eight HZ3.out; have hs3 := B3.size; simp only [World.size_alloc] at hs3; obtain ⟨xa3, xb3, xc3, xd3, xe3, xf3, xg3, xh3, xy3⟩ := x3; obtain ⟨_, _, _, _, _, _, _, _, zy3⟩ := z3; have fx3 := xy3 1; have fx23 := xy3 2; clear B3))
      have hZ := eight_set (a := .string d.raw) (b := .string d.host) (c := .string ⟨fm.toArray⟩) (d := .int .u32 d.n0) (e := .int .u32 d.n1) (f := .int .u32 d.n2) (g2 := .int .u32 d.n3) (h := .int .u32 d.n4) (HZ3.out.far (p := ⟨w.heap.size, 2, none⟩) (by simp) (.string ⟨fm.toArray⟩))
      refine bodyPost_ret (results_cell_row rfl _ _ (w.heap.size + 1) 41 _ _ _ rfl hZ Tryd.underlying41 rfl (by kernel_rfl)) rfl ?_
      exact ⟨rfl, eight_below (HB3.out.setCell (p := ⟨w.heap.size, 2, none⟩) (Nat.le_refl _) _) (Nat.le_succ _)⟩
  | true =>
    cases m with
    | false =>
      simp only [Bool.false_eq_true, if_false, if_true]
      go_enter Tryd.func58, Tryd.ntmps58
      go_wp2_with (first
        | (go_at_call 87; refine (HNM.out _).mono ?_; rintro e' w1 ⟨rfl, rfl⟩)
        | (go_at_call 38; (with_reducible refine (HF1.out _).mono ?_); rintro e' w2 ⟨rfl, B2⟩; have HX2 := Lib.hid (HX.out.below B2 (by simp; omega)); have HZ2 := Lib.hid (HZ.out.below B2 (by simp)); have HB2 := Lib.hid (HB0.out.trans (B2.mono (by simp; omega))); have x2 := eight HX2.out; have z2 := eight HZ2.out; have hs2 := B2.size; simp only [World.size_alloc] at hs2; obtain ⟨xa2, xb2, xc2, xd2, xe2, xf2, xg2, xh2, xy2⟩ := x2; obtain ⟨_, _, _, _, _, _, _, _, zy2⟩ := z2; have fx2 := xy2 1; have fx22 := xy2 2; clear B2))
      have hZ := eight_set (a := .string d.raw) (b := .string ⟨fh.toArray⟩) (c := .string d.mail) (d := .int .u32 d.n0) (e := .int .u32 d.n1) (f := .int .u32 d.n2) (g2 := .int .u32 d.n3) (h := .int .u32 d.n4) (HZ2.out.far (p := ⟨w.heap.size, 1, none⟩) (by simp) (.string ⟨fh.toArray⟩))
      refine bodyPost_ret (results_cell_row rfl _ _ (w.heap.size + 1) 41 _ _ _ rfl hZ Tryd.underlying41 rfl (by kernel_rfl)) rfl ?_
      exact ⟨rfl, eight_below (HB2.out.setCell (p := ⟨w.heap.size, 1, none⟩) (Nat.le_refl _) _) (Nat.le_succ _)⟩
    | true =>
      simp only [if_true]
      go_enter Tryd.func58, Tryd.ntmps58
      go_wp2_with (first
        | (go_at_call 87; refine (HNM.out _).mono ?_; rintro e' w1 ⟨rfl, rfl⟩)
        | (go_at_call 38; (with_reducible refine (HF1.out _).mono ?_); rintro e' w2 ⟨rfl, B2⟩; have HX2 := Lib.hid (HX.out.below B2 (by simp; omega)); have HZ2 := Lib.hid (HZ.out.below B2 (by simp)); have HB2 := Lib.hid (HB0.out.trans (B2.mono (by simp; omega))); have x2 := eight HX2.out; have z2 := eight HZ2.out; have hs2 := B2.size; simp only [World.size_alloc] at hs2; obtain ⟨xa2, xb2, xc2, xd2, xe2, xf2, xg2, xh2, xy2⟩ := x2; obtain ⟨_, _, _, _, _, _, _, _, zy2⟩ := z2; have fx2 := xy2 1; have fx22 := xy2 2; clear B2)
        | (go_at_call 38; (with_reducible refine (HF2.out _).mono ?_); rintro e' w3 ⟨rfl, B3⟩; have HX3 := Lib.hid ((HX2.out.set 1 (.string ⟨fh.toArray⟩)).below B3 (by simp; omega)); have HZ3 := Lib.hid ((HZ2.out.far (p := ⟨w.heap.size, 1, none⟩) (by simp) (.string ⟨fh.toArray⟩)).below B3 (by simp; omega)); have HB3 := Lib.hid ((HB2.out.setCell (p := ⟨w.heap.size, 1, none⟩) (Nat.le_refl _) (.string ⟨fh.toArray⟩)).trans (B3.mono (by simp; omega))); have x3 := eight HX3.out; have z3 := eight HZ3.out; have hs3 := B3.size; simp only [World.size_setCell] at hs3; obtain ⟨xa3, xb3, xc3, xd3, xe3, xf3, xg3, xh3, xy3⟩ := x3; obtain ⟨_, _, _, _, _, _, _, _, zy3⟩ := z3; have fx3 := xy3 1; have fx23 := xy3 2; clear B3))
      have hZ := eight_set (a := .string d.raw) (b := .string ⟨fh.toArray⟩) (c := .string ⟨fm.toArray⟩) (d := .int .u32 d.n0) (e := .int .u32 d.n1) (f := .int .u32 d.n2) (g2 := .int .u32 d.n3) (h := .int .u32 d.n4) (HZ3.out.far (p := ⟨w.heap.size, 2, none⟩) (by simp) (.string ⟨fm.toArray⟩))
      refine bodyPost_ret (results_cell_row rfl _ _ (w.heap.size + 1) 41 _ _ _ rfl hZ Tryd.underlying41 rfl (by kernel_rfl)) rfl ?_
      exact ⟨rfl, eight_below (HB3.out.setCell (p := ⟨w.heap.size, 2, none⟩) (Nat.le_refl _) _) (Nat.le_succ _)⟩
end Go.Proofs.YtmieakkhpkclpaaDoor
/- Fold: the program's. -/
namespace Go.Proofs.YtmieakkhpkclpaaDoor
open Go.RowKit

/-- one part more in small letters. -/
def fold1 (d : Dv) (p : Nat) : Dv :=
  if p = 5 ∨ p = 6 then { d with host := ⟨(Nm.fold d.host.data.toList).toArray⟩ } else if p = 7 then { d with mail := ⟨(Nm.fold d.mail.data.toList).toArray⟩ } else d
theorem fold1_size (d : Dv) (p : Nat) : (fold1 d p).host.size = d.host.size ∧ (fold1 d p).mail.size = d.mail.size := by
  have h : ∀ s : ByteArray, (⟨(Nm.fold s.data.toList).toArray⟩ : ByteArray).size = s.size := fun s => by
    show ((Nm.fold s.data.toList).toArray).size = s.size
    simp [Nm.fold]
  unfold fold1
  split
  · exact ⟨h _, rfl⟩
  split
  · exact ⟨rfl, h _⟩
  · exact ⟨rfl, rfl⟩
theorem dv_one (D : Dv) : (D.cells.all fun x => x.oneCell') = true := by simp [Dv.cells, Value.oneCell']
theorem foldAll (t : Nat) (d : Dv) : (Rd.parts t).foldl fold1 d = d.fold t := by
  refine Rd.by_type (P := fun t => (Rd.parts t).foldl fold1 d = d.fold t) rfl rfl rfl rfl rfl rfl rfl rfl rfl (fun t a b c e f g h i j => ?_) t
  rw [Rd.parts_other a b c e f g h i j]
  have h1 : Rd.isHost t = false := by simp [Rd.isHost, *]
  have h2 : Rd.isMail t = false := by simp [Rd.isMail, *]
  unfold Dv.fold
  rw [h1, h2]
  rfl
set_option maxHeartbeats 4000000 in
set_option maxRecDepth 100000 in
theorem pdFold_any (t : Nat) (d : Dv) (w : World) (ht : t ≤ 65535) (hL : LayR w) (hh : d.host.size ≤ 140737488355328) (hm : d.mail.size ≤ 140737488355328) :
    Calls Tryd.prog 41 #[.int .u16 t, d.val] w fun e w' => e = .returned (d.fold t).val ∧ Below w.heap.size w w' := by
  obtain ⟨R, hR⟩ : ∃ R, (d.fold t).val = R := ⟨_, rfl⟩
  rw [hR]
  have HRES := Lib.hid hR
  clear hR
  have HL := Lib.hid hL
  clear hL
  have hval : d.val = .agg d.cells := rfl
  have HX0 : Hid (Has (w.alloc (.cells d.cells 41)) w.heap.size 41 d.cells) := Has.fresh w _ _
  have HPO : ∀ W : World, LayR W → Hid (Calls Tryd.prog 67 #[.int .u16 t] W fun e w' => e = .returned (.agg (partC t)) ∧ Below W.heap.size W w') := fun W h => partsOf_any t W ht h
  go_enter Tryd.func41, Tryd.ntmps41
  go_wp2_with (go_at_call 67; refine (HPO _ (HL.out.below (((Below.refl _ _).alloc (Nat.le_refl _) _).alloc (by simp) _) (Nat.le_refl _))).out.mono ?_; rintro e w1 ⟨rfl, B1⟩)
  have HB : Hid (Below w.heap.size w w1) := ((((Below.refl _ _).alloc (Nat.le_refl _) _).alloc (by simp) _).trans (B1.mono (by simp; omega)))
  have HD : Hid (Has w1 w.heap.size 41 d.cells) := (HX0.out.alloc _).below B1 (by simp; omega)
  have HG : Hid (Has w1 (w.heap.size + 1) 41 #[.string ⟨#[]⟩, .string ⟨#[]⟩, .string ⟨#[]⟩, .int .u32 0, .int .u32 0, .int .u32 0, .int .u32 0, .int .u32 0]) := by
    have h : Has ((w.alloc (.cells d.cells 41)).alloc (.cells #[.string ⟨#[]⟩, .string ⟨#[]⟩, .string ⟨#[]⟩, .int .u32 0, .int .u32 0, .int .u32 0, .int .u32 0, .int .u32 0] 41)) (w.alloc (.cells d.cells 41)).heap.size 41 _ := Has.fresh _ _ _
    have h2 := h.below B1 (by simp)
    have e : (w.alloc (.cells d.cells 41)).heap.size = w.heap.size + 1 := by simp
    rw [e] at h2
    exact h2
  have hz1 : w.heap.size + 1 < w1.heap.size := by have := B1.size; simp at this; omega
  clear B1 HX0
  go_loopw [9] (fun i wr => ∃ k : Nat, i = .int .i64 k ∧ k ≤ 7 ∧ Hid (Has wr w.heap.size 41 (((Rd.parts t).take k).foldl fold1 d).cells) ∧ Hid (Has wr (w.heap.size + 1) 41 #[.string ⟨#[]⟩, .string ⟨#[]⟩, .string ⟨#[]⟩, .int .u32 0, .int .u32 0, .int .u32 0, .int .u32 0, .int .u32 0]) ∧ Hid (Below w.heap.size w wr) ∧
      (((Rd.parts t).take k).foldl fold1 d).host.size ≤ 140737488355328 ∧ (((Rd.parts t).take k).foldl fold1 d).mail.size ≤ 140737488355328) (fun i _ => 7 - (intOf i).toNat)
  case atStart => exact ⟨0, rfl, by omega, HD, HG, HB, hh, hm⟩
  case round =>
    obtain ⟨k, rfl, hk, HD1, HG1, HB1, hh1, hm1⟩ := hrel
    have hg2 := HG1.out.lt
    by_cases hlt : k < 7
    · have hkl : k < (Rd.parts t).length := by rw [Rd.parts_len]; exact hlt
      have hix := part_at hkl
      have hp9 : (Rd.parts t)[k] ≤ 9 := Rd.parts_lt t _ (List.getElem_mem hkl)
      have htk : (Rd.parts t).take (k + 1) = (Rd.parts t).take k ++ [(Rd.parts t)[k]] := List.take_succ_eq_append_getElem hkl
      have hfo : ((Rd.parts t).take (k + 1)).foldl fold1 d = fold1 (((Rd.parts t).take k).foldl fold1 d) (Rd.parts t)[k] := by rw [htk, List.foldl_append]; rfl
      have hs1 := fold1_size (((Rd.parts t).take k).foldl fold1 d) (Rd.parts t)[k]
      have HFO := Lib.hid hfo
      have HS1 := Lib.hid hs1
      clear hfo htk hs1
      generalize (Rd.parts t)[k] = p at *
      generalize ((Rd.parts t).take k).foldl fold1 d = d1 at *
      obtain ⟨q, hq⟩ : ∃ q : Int, ((p : Nat) : Int) = q := ⟨_, rfl⟩
      rw [hq] at hix
      have HQ := Lib.hid hq
      clear hq
      have hq := HQ.out
      have ch := dv_host HD1.out
      have cm := dv_mail HD1.out
      by_cases p7 : p = 5 ∨ p = 6 ∨ p = 7
      · have HF1 := Lib.hid (fun W : World => Fold_any d1.host W hh1)
        have HF2 := Lib.hid (fun W : World => Fold_any d1.mail W hm1)
        by_cases p5 : p = 7
        · obtain rfl : q = 7 := by omega
          subst p5
          clear hq p7
          go_wp2_with (go_at_call 40; refine (HF2.out _).mono ?_; rintro e w2 ⟨rfl, B2⟩; have hs2 := B2.size; have HD2 := Lib.hid (HD1.out.below B2 (by omega)); have HG2 := Lib.hid (HG1.out.below B2 (by omega)); have HB2 := Lib.hid (HB1.out.trans (B2.mono (by omega))); have cm2 := dv_mail HD2.out; have fm2 := HD2.out.free 2; clear B2)
          go_roundw
          case rel => exact ⟨k + 1, by go_num, by omega, by rw [HFO.out]; exact HD2.out.set 2 _, HG2.out.far (by simp) _, HB2.out.setCell (by simp) _, by rw [HFO.out, HS1.out.1]; exact hh1, by rw [HFO.out, HS1.out.2]; exact hm1⟩
          case measure => simp [intOf]; omega
        · rcases (by omega : (p = 5 ∧ q = 5) ∨ (p = 6 ∧ q = 6)) with ⟨rfl, rfl⟩ | ⟨rfl, rfl⟩
          all_goals
            (clear hq p7 p5
             go_wp2_with (go_at_call 40; refine (HF1.out _).mono ?_; rintro e w2 ⟨rfl, B2⟩; have hs2 := B2.size; have HD2 := Lib.hid (HD1.out.below B2 (by omega)); have HG2 := Lib.hid (HG1.out.below B2 (by omega)); have HB2 := Lib.hid (HB1.out.trans (B2.mono (by omega))); have ch2 := dv_host HD2.out; have fh2 := HD2.out.free 1; clear B2)
             go_roundw
             case rel => exact ⟨k + 1, by go_num, by omega, by rw [HFO.out]; exact HD2.out.set 1 _, HG2.out.far (by simp) _, HB2.out.setCell (by simp) _, by rw [HFO.out, HS1.out.1]; exact hh1, by rw [HFO.out, HS1.out.2]; exact hm1⟩
             case measure => simp [intOf]; omega)
      · have hf1 : fold1 d1 p = d1 := by unfold fold1; rw [if_neg (by omega), if_neg (by omega)]
        have h5 : ((q : Int) == 5) = false := beq_eq_false_iff_ne.2 (by omega)
        have h6 : ((q : Int) == 6) = false := beq_eq_false_iff_ne.2 (by omega)
        have h7 : ((q : Int) == 7) = false := beq_eq_false_iff_ne.2 (by omega)
        have HF0 := Lib.hid hf1
        clear hf1 hq p7
        go_wp2
        go_roundw
        case rel => exact ⟨k + 1, by go_num, by omega, by rw [HFO.out, HF0.out]; exact HD1, HG1, HB1, by rw [HFO.out, HF0.out]; exact hh1, by rw [HFO.out, HF0.out]; exact hm1⟩
        case measure => simp [intOf]; omega
    · obtain rfl : k = 7 := by omega
      have hall : (Rd.parts t).take 7 = Rd.parts t := List.take_of_length_le (by rw [Rd.parts_len]; omega)
      rw [hall, foldAll] at HD1
      have hi8 : (Tryd.prog.info? 41).map (·.size) = some 8 := by kernel_rfl
      have HI := Lib.hid hi8
      clear hi8 hall
      generalize d.fold t = D at *
      go_wp2_with (first
        | (refine wpList_load_row rfl 41 (.tmp 3) rfl w.heap.size rfl 41 D.cells (0, 0) _ HD1.out Tryd.underlying41 rfl HI.out ?_)
        | (refine wpList_store_row rfl 41 (.tmp 4) (.tmp 27) rfl (w.heap.size + 1) D.cells rfl rfl 41 _ HG1.out HI.out rfl (dv_one D) ?_))
      refine bodyPost_ret (results_cell_row rfl _ _ (w.heap.size + 1) 41 D.cells (0, 0) _ rfl (HG1.out.row _) Tryd.underlying41 rfl HI.out) rfl ?_
      exact ⟨by rw [← HRES.out]; rfl, below_setRow HB1.out (by omega) _⟩
end Go.Proofs.YtmieakkhpkclpaaDoor
