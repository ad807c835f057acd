/- Texts of the proofs, merged. -/
import Derived.Test.YtgcaephfhfkjcaaGreatDoorZh26
import Derived.Test.YtgcaephfhfkjcaaGreatDoorZh10
import Derived.Test.YtgcaephfhfkjcaaGreatDoorZh14
import Derived.Deep.CutBlock
import Derived.Test.YtgcaephfhfkjcaaGreatDoorZh25
import Derived.Test.YtgcaephfhfkjcaaGreatDoorZh2
namespace Go.Proofs.YtgcaephfhfkjcaaGreatDoor
open Go.RowKit

theorem hasD_zero (d : Dv) (l : List Nat) : hasD d (l ++ [0]) = hasD d l := by
  unfold hasD; rw [hasRaw_snoc, hasHost_snoc, hasMail_snoc, Rd.nums_snoc]; simp
theorem hasD_raw (d : Dv) (l : List Nat) {p : Nat} (h1 : 1 ≤ p) (h4 : p ≤ 4) : { hasD d l with raw := d.raw } = hasD d (l ++ [p]) := by
  unfold hasD; rw [hasRaw_snoc, hasHost_snoc, hasMail_snoc, Rd.nums_snoc]
  rcases (by omega : p = 1 ∨ p = 2 ∨ p = 3 ∨ p = 4) with rfl | rfl | rfl | rfl <;> simp
theorem hasD_host (d : Dv) (l : List Nat) {p : Nat} (h : p = 5 ∨ p = 6) : { hasD d l with host := d.host } = hasD d (l ++ [p]) := by
  unfold hasD; rw [hasRaw_snoc, hasHost_snoc, hasMail_snoc, Rd.nums_snoc]
  rcases h with rfl | rfl <;> simp
theorem hasD_mail (d : Dv) (l : List Nat) : { hasD d l with mail := d.mail } = hasD d (l ++ [7]) := by
  unfold hasD; rw [hasRaw_snoc, hasHost_snoc, hasMail_snoc, Rd.nums_snoc]
  simp
theorem rC_num (A : Option Addr) (m c i e : Nat) (d : Dv) (l : List Nat) {p : Nat} (h : p = 8 ∨ p = 9) (hn : Rd.nums l < 5) (j : Nat) :
    ((((rC A m c i e (hasD d l) (Rd.nums l)).setIfInBounds (6 + Rd.nums l) (.int .u32 (d.n (Rd.nums l) : Nat))).setIfInBounds 11 (.int .i64 (Rd.nums l + 1 : Nat))).setIfInBounds 1 (.int .i64 j)) = rC A m c j e (hasD d (l ++ [p])) (Rd.nums (l ++ [p])) := by
  unfold hasD; rw [hasRaw_snoc, hasHost_snoc, hasMail_snoc, Rd.nums_snoc, if_pos h]
  generalize Rd.nums l = n at *
  have e : (p == 1 || p == 2 || p == 3 || p == 4) = false ∧ (p == 5 || p == 6) = false ∧ (p == 7) = false := by rcases h with rfl | rfl <;> decide
  rw [e.1, e.2.1, e.2.2, Bool.or_false, Bool.or_false, Bool.or_false]
  rcases (by omega : n = 0 ∨ n = 1 ∨ n = 2 ∨ n = 3 ∨ n = 4) with rfl | rfl | rfl | rfl | rfl <;> simp [rC, Dv.n]
theorem rdb_take {L : List UInt8} {i j : Nat} {ls : List (List UInt8)} {s : ByteArray} (h : Pr.Rdb L i ls i j) (hs : Nm.split s.data.toList = some ls) (hi : i ≤ L.length) : prTakeV L i = .tuple #[.string s, .int .i64 j, .int .i64 0] := by
  obtain ⟨e1, e2, e3⟩ := Nm.split_some.1 hs
  unfold prTakeV
  have h2 := h [] i 1 (Nat.le_refl _) (by rw [e1, Pr.tot_glue] at e3; omega)
  rw [List.append_nil] at h2
  rw [if_neg (by omega), show ((i : Int)).toNat = i from rfl, h2]
  show Value.tuple #[sv (Nm.glue ls), .int .i64 j, .int .i64 0] = _
  rw [string_eq e1]
theorem quiet_same {P : Program} {f : FuncId} {args : Array Value} {w : World} {n : Nat} {v : Value} (h : Calls P f args (w.drewN n) fun e w' => e = .returned v ∧ w.drewN n = w') :
    Calls P f args (w.drewN n) fun e w'' => e = .returned v ∧ ∃ m, w'' = w.drewN m := h.mono fun _ _ ⟨he, hw⟩ => ⟨he, n, hw.symm⟩
theorem below_qn (B : Nat) (W : World) (n : Nat) : Below B W (W.drewN n) := below_q B rfl
/-- what the names of data are. -/
def Nms (d : Dv) (hl ml : List (List UInt8)) (p : Nat) : Prop := (p = 5 ∨ p = 6 → Nm.split d.host.data.toList = some hl) ∧ (p = 7 → Nm.split d.mail.data.toList = some ml)
section
variable {g B i j e c p : Nat} {A : Option Addr} {L : List UInt8} {d : Dv} {hl ml : List (List UInt8)} {ps : List Nat} {W : World}
set_option maxHeartbeats 1000000 in
set_option maxRecDepth 100000 in
theorem part_any (h : Has W g 211 (rC A L.length c i e (hasD d ps) (Rd.nums ps))) (hB : B ≤ g) (hA : Ad A L c) (hc : L.length ≤ c) (hm : c ≤ 9223372036854775807) (hl1 : L.length ≤ 211106232532992) (he1 : e ≤ 140737488355328) (hb : Bs W 0 B A L)
    (hp9 : p ≤ 9) (hone : Rd.One L d.dt hl ml (Rd.nums ps) p i j) (hje : j ≤ e) (heL : e ≤ L.length) (hraw : 1 ≤ p → p ≤ 4 → j = e ∧ d.raw.size ≤ 65535) (hnm : Nms d hl ml p) (hn5 : p = 8 ∨ p = 9 → Rd.nums ps < 5) (hfit : d.fits) :
    Calls Tryz.prog 164 #[.pointer (some ⟨g, 0, none⟩), .int .u8 p] W fun en W' => en = .returned (.int .i64 0) ∧ Has W' g 211 (rC A L.length c j e (hasD d (ps ++ [p])) (Rd.nums (ps ++ [p]))) ∧ Below B W W' := by
  have HH := Lib.hid h
  have HNM := Lib.hid hnm
  obtain ⟨o1, o2, o3, o4, o5, o6, o7, o8⟩ := hone
  have hij : i ≤ L.length := by omega
  by_cases p0 : p = 0
  · subst p0
    obtain rfl := o3 rfl
    have hnum : Rd.nums (ps ++ [0]) = Rd.nums ps := by rw [Rd.nums_snoc]; rfl
    rw [hasD_zero, hnum]
    clear h hb o4 o5 o6 o7 o8 hnm hraw
    go_enter Tryz.func164, Tryz.ntmps164
    go_wp2
    go_ret
    exact ⟨rfl, HH.out, Below.refl _ _⟩
  by_cases p4 : p ≤ 4
  · obtain ⟨q1, q2⟩ := o4 (by omega) p4
    obtain ⟨rfl, q3⟩ := hraw (by omega) p4
    have hrl : d.dt.raw.length = d.raw.size := by simp [Dv.dt]
    have hnum : Rd.nums (ps ++ [p]) = Rd.nums ps := by rw [Rd.nums_snoc, if_neg (by omega)]; rfl
    have HR := Lib.hid (rd_raw h hB hA o1 heL (by omega) hc hm hb d.raw (by rw [show j - i = d.dt.raw.length by omega]; exact q2))
    rw [hasD_raw d ps (by omega) p4] at HR
    rw [hnum]
    clear h hb o4 o5 o6 o7 o8 hnm hraw q2 hnum
    rcases (by omega : p = 1 ∨ p = 2 ∨ p = 3 ∨ p = 4) with rfl | rfl | rfl | rfl
    all_goals
      (go_enter Tryz.func164, Tryz.ntmps164
       go_wp2_with (go_at_call 176; refine HR.out.mono ?_; rintro e' w5 ⟨rfl, H5, B5⟩; have HH5 := Lib.hid H5; have HB5 := Lib.hid B5; clear H5 B5)
       go_ret
       exact ⟨rfl, HH5.out, HB5.out⟩)
  by_cases p7 : p ≤ 7
  · have hnum : Rd.nums (ps ++ [p]) = Rd.nums ps := by rw [Rd.nums_snoc, if_neg (by omega)]; rfl
    rw [hnum]
    rcases (by omega : (p = 5 ∨ p = 6) ∨ p = 7) with p56 | rfl
    · have HR := Lib.hid (rd_name h hB hc hl1 hb (k := 4) (.inl rfl) hje (rdb_take (o5 p56) (HNM.out.1 p56) hij))
      rw [show ((rC A L.length c i e (hasD d ps) (Rd.nums ps)).setIfInBounds 4 (.string d.host)).setIfInBounds 1 (.int .i64 j) = rC A L.length c j e { hasD d ps with host := d.host } (Rd.nums ps) from rfl, hasD_host d ps p56] at HR
      clear h hb o4 o5 o6 o7 o8 hnm hraw hnum
      rcases p56 with rfl | rfl
      all_goals
        (go_enter Tryz.func164, Tryz.ntmps164
         go_wp2_with (go_at_call 177; refine HR.out.mono ?_; rintro e' w5 ⟨rfl, H5, B5⟩; have HH5 := Lib.hid H5; have HB5 := Lib.hid B5; clear H5 B5)
         go_ret
         exact ⟨rfl, HH5.out, HB5.out⟩)
    · have HR := Lib.hid (rd_name h hB hc hl1 hb (k := 5) (.inr rfl) hje (rdb_take (o6 rfl) (HNM.out.2 rfl) hij))
      rw [show ((rC A L.length c i e (hasD d ps) (Rd.nums ps)).setIfInBounds 5 (.string d.mail)).setIfInBounds 1 (.int .i64 j) = rC A L.length c j e { hasD d ps with mail := d.mail } (Rd.nums ps) from rfl, hasD_mail d ps] at HR
      clear h hb o4 o5 o6 o7 o8 hnm hraw hnum
      go_enter Tryz.func164, Tryz.ntmps164
      go_wp2_with (go_at_call 177; refine HR.out.mono ?_; rintro e' w5 ⟨rfl, H5, B5⟩; have HH5 := Lib.hid H5; have HB5 := Lib.hid B5; clear H5 B5)
      go_ret
      exact ⟨rfl, HH5.out, HB5.out⟩
  have hn := hn5 (by omega)
  have c0 : W.cell? ⟨g, 0, none⟩ = some (.slice A L.length c) := by rw [h.cell]; rfl
  have c1 : W.cell? ⟨g, 1, none⟩ = some (.int .i64 i) := by rw [h.cell]; rfl
  have c2 : W.cell? ⟨g, 2, none⟩ = some (.int .i64 e) := by rw [h.cell]; rfl
  have hec : e ≤ c := by omega
  have hle : (L.take e).length = e := by rw [List.length_take]; omega
  obtain ⟨g0, o0, rfl⟩ : ∃ g0 o0, A = some ⟨g0, o0, none⟩ := by
    rcases hA with ⟨_, h0, _⟩ | h0
    · rcases (by omega : p = 8 ∨ p = 9) with rfl | rfl
      · have := (o7 rfl).1; subst h0; simp at heL; omega
      · have := (o8 rfl).1; subst h0; simp at heL; omega
    · exact h0
  have hN : Rd.hasN d.dt (Rd.nums ps) = d.n (Rd.nums ps) := rd_hasN d hn
  have hxn : d.n (Rd.nums ps) ≤ 4294967295 := hfit _
  have hwn : IntKind.u32.wrap ((d.n (Rd.nums ps) : Nat) : Int) = ((d.n (Rd.nums ps) : Nat) : Int) := by rw [IntKind.wrap_u32]; omega
  rcases (by omega : p = 8 ∨ p = 9) with rfl | rfl
  · obtain ⟨q1, q2⟩ := o7 rfl
    have hT : ∀ k : Nat, Calls Tryz.prog 102 #[.slice (some ⟨g0, o0, none⟩) e c, .int .i64 i] (W.drewN k) fun e' w' => e' = .returned (.tuple #[.int .u16 (d.n (Rd.nums ps) : Nat), .int .i64 j, .int .i64 0]) ∧ W.drewN k = w' := fun k => by
      have := take_u16_ok (some ⟨g0, o0, none⟩) (L.take e) c i (W.drewN k) (by omega) (by omega) 0 B ((hb.take e).drewN k) (by omega)
      rw [hle, List.drop_take, List.take_take, Nat.min_eq_left (by omega), q2, hN] at this
      rw [q1]
      exact this
    have HT := Lib.hid hT
    have hR : ∀ k : Nat, Calls Tryz.prog 178 #[.pointer (some ⟨g, 0, none⟩), .int .u32 (d.n (Rd.nums ps) : Nat), .int .i64 j, .int .i64 0] (W.drewN k) fun en W' => en = .returned (.int .i64 0) ∧ Has W' g 211 (rC (some ⟨g0, o0, none⟩) L.length c j e (hasD d (ps ++ [8])) (Rd.nums (ps ++ [8]))) ∧ Below B W W' := fun k => by
      have := rd_num (W := W.drewN k) (show Has (W.drewN k) g 211 _ from h) hB (d.n (Rd.nums ps)) j hn
      rw [rC_num _ _ _ _ _ _ _ (p := 8) (.inl rfl) hn] at this
      exact this.mono fun _ _ ⟨h1, h2, h3⟩ => ⟨h1, h2, (below_qn B W k).trans h3⟩
    have HR := Lib.hid hR
    clear h hb o4 o5 o6 o7 o8 hnm hraw hT q1 q2 hN hR
    go_enter Tryz.func164, Tryz.ntmps164
    go_wp2
    go_quiet ((go_at_call 102; exact quiet_same (HT.out _)))
    go_wp2_with (go_at_call 178; (with_reducible refine (HR.out _).mono ?_); rintro e' w5 ⟨rfl, H5, B5⟩; have HH5 := Lib.hid H5; have HB5 := Lib.hid B5; clear H5 B5)
    go_ret
    exact ⟨rfl, HH5.out, HB5.out⟩
  · obtain ⟨q1, q2⟩ := o8 rfl
    have hT : ∀ k : Nat, Calls Tryz.prog 179 #[.slice (some ⟨g0, o0, none⟩) e c, .int .i64 i] (W.drewN k) fun e' w' => e' = .returned (.tuple #[.int .u32 (d.n (Rd.nums ps) : Nat), .int .i64 j, .int .i64 0]) ∧ W.drewN k = w' := fun k => by
      have := take_u32_ok (some ⟨g0, o0, none⟩) (L.take e) c i (W.drewN k) (by omega) (by omega) 0 B ((hb.take e).drewN k) (by omega)
      rw [hle, List.drop_take, List.take_take, Nat.min_eq_left (by omega), q2, hN] at this
      rw [q1]
      exact this
    have HT := Lib.hid hT
    have hR : ∀ k : Nat, Calls Tryz.prog 178 #[.pointer (some ⟨g, 0, none⟩), .int .u32 (d.n (Rd.nums ps) : Nat), .int .i64 j, .int .i64 0] (W.drewN k) fun en W' => en = .returned (.int .i64 0) ∧ Has W' g 211 (rC (some ⟨g0, o0, none⟩) L.length c j e (hasD d (ps ++ [9])) (Rd.nums (ps ++ [9]))) ∧ Below B W W' := fun k => by
      have := rd_num (W := W.drewN k) (show Has (W.drewN k) g 211 _ from h) hB (d.n (Rd.nums ps)) j hn
      rw [rC_num _ _ _ _ _ _ _ (p := 9) (.inr rfl) hn] at this
      exact this.mono fun _ _ ⟨h1, h2, h3⟩ => ⟨h1, h2, (below_qn B W k).trans h3⟩
    have HR := Lib.hid hR
    clear h hb o4 o5 o6 o7 o8 hnm hraw hT q1 q2 hN hR
    go_enter Tryz.func164, Tryz.ntmps164
    go_wp2
    go_quiet ((go_at_call 179; exact quiet_same (HT.out _)))
    go_wp2_with (go_at_call 178; (with_reducible refine (HR.out _).mono ?_); rintro e' w5 ⟨rfl, H5, B5⟩; have HH5 := Lib.hid H5; have HB5 := Lib.hid B5; clear H5 B5)
    go_ret
    exact ⟨rfl, HH5.out, HB5.out⟩
end
end Go.Proofs.YtgcaephfhfkjcaaGreatDoor
namespace Go.Proofs.YtgcaephfhfkjcaaGreatDoor
open Go.RowKit

theorem rC_data (A : Option Addr) (m c i e : Nat) (d : Dv) (n : Nat) {W : World} {g : Nat} {t : TypeId} (h : Has W g t (rC A m c i e d n)) :
    W.cell? ⟨g, 1, none⟩ = some (.int .i64 i) ∧ W.cell? ⟨g, 2, none⟩ = some (.int .i64 e) ∧ W.cell? ⟨g, 3, none⟩ = some (.string d.raw) ∧ W.cell? ⟨g, 4, none⟩ = some (.string d.host) ∧ W.cell? ⟨g, 5, none⟩ = some (.string d.mail) ∧
      W.cell? ⟨g, 6, none⟩ = some (.int .u32 d.n0) ∧ W.cell? ⟨g, 7, none⟩ = some (.int .u32 d.n1) ∧ W.cell? ⟨g, 8, none⟩ = some (.int .u32 d.n2) ∧ W.cell? ⟨g, 9, none⟩ = some (.int .u32 d.n3) ∧ W.cell? ⟨g, 10, none⟩ = some (.int .u32 d.n4) := by
  refine ⟨?_, ?_, ?_, ?_, ?_, ?_, ?_, ?_, ?_, ?_⟩ <;> (rw [h.cell]; rfl)
theorem hasD_all {t : Nat} {d : Dv} (hok : Rd.ok t d.dt = true) : hasD d (Rd.parts t) = d := by
  have h := bare_eq d (Rd.parts t)
  rw [Rd.ok_parts, Bool.and_eq_true] at hok
  rw [hok.2] at h
  exact (dvB_iff _ _).1 h
set_option maxHeartbeats 2000000 in
set_option maxRecDepth 100000 in
theorem pdTake_any (t : Nat) (d : Dv) (hl ml : List (List UInt8)) (A : Option Addr) (L : List UInt8) (c i0 n : Nat) (q : Nat → Nat) (w : World) (ht : t ≤ 65535) (hL : LayR w) (hA : Ad A L c) (hc : L.length ≤ c) (hm : c ≤ 9223372036854775807) (hl1 : L.length ≤ 140737488355328) (hb : Bs w 0 w.heap.size A L)
    (h0 : q 0 = i0) (h7 : q 7 = i0 + n) (hall : Rd.All L d.dt hl ml (Rd.parts t) q) (hok : Rd.ok t d.dt = true) (hf : d.fits) (hr0 : d.raw.size ≤ 65535) (hh0 : d.host.size ≤ 140737488355328) (hm0 : d.mail.size ≤ 140737488355328)
    (hnm : ∀ k (hk : k < (Rd.parts t).length), Nms d hl ml (Rd.parts t)[k]) :
    Calls Tryz.prog 141 #[.slice A L.length c, .int .i64 i0, .int .i64 n, .int .u16 t] w fun e w' => e = .returned (.tuple #[d.val, .int .i64 0]) ∧ Below w.heap.size w w' := by
  have htop : q 7 ≤ L.length := hall.top (Nat.le_refl _)
  have hi0 : i0 + n ≤ L.length := by omega
  have hw1 : IntKind.i64.wrap ((i0 : Int) + (n : Int)) = (i0 : Int) + (n : Int) := by rw [IntKind.wrap_i64]; omega
  have hw2 : IntKind.i64.wrap ((L.length : Int) - (i0 : Int)) = (L.length : Int) - (i0 : Int) := by rw [IntKind.wrap_i64]; omega
  have d1 : decide ((L.length : Int) < (i0 : Int)) = false := by simp; omega
  have d2 : decide ((L.length : Int) - (i0 : Int) < (n : Int)) = false := by simp; omega
  have e1 : decide ((i0 : Int) < 0) = false := by simp
  have e2 : decide ((n : Int) < 0) = false := by simp
  have e3 : decide (L.length < i0) = false := by simp; omega
  have HL := Lib.hid hL
  have HB0 := Lib.hid hb
  have HALL := Lib.hid hall
  have HNM := Lib.hid hnm
  have HOK := Lib.hid hok
  have HF := Lib.hid hf
  have H7 := Lib.hid h7
  have H0 := Lib.hid h0
  have HPO : ∀ W : World, LayR W → Hid (Calls Tryz.prog 57 #[.int .u16 t] W fun e w' => e = .returned (.agg (partC t)) ∧ Below W.heap.size W w') := fun W h => partsOf_any t W ht h
  have hval : d.val = .agg d.cells := rfl
  clear hL hb hall hnm hok hf h7 h0 htop
  go_enter Tryz.func141, Tryz.ntmps141
  go_wp2_with (go_at_call 57; refine (HPO _ (HL.out.below (((Below.refl _ _).alloc (Nat.le_refl _) _).alloc (by simp) _) (Nat.le_refl _))).out.mono ?_; rintro e w1 ⟨rfl, B1⟩)
  have HB : Hid (Below w.heap.size w w1) := ((((Below.refl _ _).alloc (Nat.le_refl _) _).alloc (by simp) _).trans (B1.mono (by simp; omega)))
  have HZ : Hid (Has w1 w.heap.size 34 (hasD d []).cells) := ((Has.fresh w 34 (hasD d []).cells).alloc _).below B1 (by simp; omega)
  have HG : Hid (Has w1 (w.heap.size + 1) 211 (rC A L.length c i0 (i0 + n) (hasD d []) 0)) := by
    have h : Has ((w.alloc (.cells (hasD d []).cells 34)).alloc (.cells (rC A L.length c i0 (i0 + n) (hasD d []) 0) 211)) (w.alloc (.cells (hasD d []).cells 34)).heap.size 211 (rC A L.length c i0 (i0 + n) (hasD d []) 0) := Has.fresh _ _ _
    have h2 := h.below B1 (by simp)
    have e : (w.alloc (.cells (hasD d []).cells 34)).heap.size = w.heap.size + 1 := by simp
    rw [e] at h2
    exact h2
  have hz1 : w.heap.size + 1 < w1.heap.size := by have := B1.size; simp at this; omega
  clear B1
  obtain ⟨E, hE⟩ : ∃ E, i0 + n = E := ⟨_, rfl⟩
  rw [hE] at HG H7
  have HE := Lib.hid hE
  have hEL : E ≤ L.length := by omega
  clear hE e1 e2 e3 d1 d2 hw1 hw2 hi0
  go_loopw [43] (fun i wr => ∃ k : Nat, i = .int .i64 k ∧ k ≤ 7 ∧ Hid (Has wr (w.heap.size + 1) 211 (rC A L.length c (q k) E (hasD d ((Rd.parts t).take k)) (Rd.nums ((Rd.parts t).take k)))) ∧ Hid (Has wr w.heap.size 34 (hasD d []).cells) ∧ Hid (Below w.heap.size w wr)) (fun i _ => 7 - (intOf i).toNat)
  case atStart => exact ⟨0, rfl, by omega, by rw [H0.out]; exact HG, HZ, HB⟩
  case round =>
    obtain ⟨k, rfl, hk, HG1, HZ1, HB1⟩ := hrel
    have hbs := HB1.out.size
    have hg2 := HG1.out.lt
    by_cases hlt : k < 7
    · have hkl : k < (Rd.parts t).length := by rw [Rd.parts_len]; exact hlt
      have hix := part_at hkl
      have hp9 : (Rd.parts t)[k] ≤ 9 := Rd.parts_lt t _ (List.getElem_mem hkl)
      have htk : (Rd.parts t).take (k + 1) = (Rd.parts t).take k ++ [(Rd.parts t)[k]] := List.take_succ_eq_append_getElem hkl
      have hn5 : Rd.nums ((Rd.parts t).take (k + 1)) ≤ 5 := Rd.nums_le
      have hone := HALL.out k hkl
      have hra : 1 ≤ (Rd.parts t)[k] → (Rd.parts t)[k] ≤ 4 → q (k + 1) = q 7 := HALL.out.raw_end hkl
      have hje : q (k + 1) ≤ q 7 := HALL.out.up (k + 1) 7 (by omega) (Nat.le_refl _)
      have hnk := HNM.out k hkl
      rw [H7.out] at hra hje
      rw [htk, Rd.nums_snoc] at hn5
      have HTK := Lib.hid htk
      clear htk
      generalize (Rd.parts t)[k] = p at *
      generalize (Rd.parts t).take k = ps at *
      have HP := Lib.hid (part_any (B := w.heap.size + 1) HG1.out (Nat.le_refl _) hA hc hm (by omega) (by omega) ((HB0.out.keep HB1.out).more (Nat.le_refl _) (by omega)) hp9 hone hje hEL (fun h1 h4 => ⟨hra h1 h4, hr0⟩) hnk (fun h => by rw [if_pos h] at hn5; omega) HF.out)
      have hd7 : decide ((k : Int) < 7) = true := by simp; omega
      obtain ⟨z, hz⟩ : ∃ z : Int, ((p : Nat) : Int) = z := ⟨_, rfl⟩
      rw [hz] at hix HP
      clear hz hone hra hnk hn5
      go_wp2_with (go_at_call 164; (with_reducible refine HP.out.mono ?_); rintro e' w5 ⟨rfl, H5, B5⟩; have HG5 := Lib.hid H5; have HZ5 := Lib.hid (HZ1.out.below B5 (by omega)); have HB5 := Lib.hid (HB1.out.trans (B5.mono (by omega))); clear H5 B5)
      go_roundw
      case rel => exact ⟨k + 1, by go_num, by omega, by rw [HTK.out]; exact HG5, HZ5, HB5⟩
      case measure => simp [intOf]; omega
    · obtain rfl : k = 7 := by omega
      have hall' : (Rd.parts t).take 7 = Rd.parts t := List.take_of_length_le (by rw [Rd.parts_len]; omega)
      have hnn : q 7 = E := H7.out
      rw [hall', hasD_all HOK.out, hnn] at HG1
      obtain ⟨x1, x2, x3, x4, x5, x6, x7, x8, x9, x10⟩ := rC_data _ _ _ _ _ _ _ HG1.out
      have hi8 : (Tryz.prog.info? 34).map (·.size) = some 8 := by kernel_rfl
      have HI := Lib.hid hi8
      have HCK := Lib.hid (pdCheck_any t d wr ht (HL.out.below HB1.out (Nat.le_refl _)) HF.out (by omega) hh0 hm0)
      rw [HOK.out, hval] at HCK
      have HCK2 : Hid (Calls Tryz.prog 36 #[.int .u16 t, .agg #[.string d.raw, .string d.host, .string d.mail, .int .u32 d.n0, .int .u32 d.n1, .int .u32 d.n2, .int .u32 d.n3, .int .u32 d.n4]] wr fun e w' => e = .returned (.int .i64 0) ∧ Below wr.heap.size wr w') := HCK.out
      clear hi8 hall' hnn HCK
      go_wp2_with (first
        | (go_at_call 36; (with_reducible refine HCK2.out.mono ?_); rintro e' w5 ⟨rfl, B5⟩; have HB5 := Lib.hid (HB1.out.trans (B5.mono (by omega))); have HZ5 := Lib.hid (HZ1.out.below B5 (by omega)); obtain ⟨y1, y2, y3, y4, y5, y6, y7, y8, y9, y10⟩ := rC_data _ _ _ _ _ _ _ (HG1.out.below B5 hg2); clear B5)
        | (refine wpList_store_row rfl 34 (.tmp 8) (.tmp 67) rfl w.heap.size d.cells rfl rfl 34 _ HZ5.out HI.out rfl (dv_one d) ?_))
      refine bodyPost_ret (results_row_tmp rfl _ _ w.heap.size 34 d.cells _ rfl (HZ5.out.row _) Tryz.underlying34 rfl HI.out) rfl ?_
      exact ⟨rfl, below_setRow HB5.out (Nat.le_refl _) _⟩
end Go.Proofs.YtgcaephfhfkjcaaGreatDoor
namespace Go.Proofs.YtgcaephfhfkjcaaGreatDoor
open Go.RowKit

/-- m bytes, as they are written. -/
def rz (m : Nat) (out : List UInt8) : Array Value := (bv out ++ List.replicate (m - out.length) (Value.int .u8 0)).toArray
theorem rz_nil (m : Nat) : rz m [] = (List.replicate m (Value.int .u8 0)).toArray := by simp [rz, bv]
theorem rz_set {m : Nat} (out : List UInt8) (c : UInt8) (h : out.length < m) : (rz m out).setIfInBounds out.length (.int .u8 (c.toNat : Int)) = rz m (out ++ [c]) := by
  unfold rz
  have e : m - out.length = (m - (out ++ [c]).length) + 1 := by simp; omega
  rw [List.setIfInBounds_toArray, List.set_append_right _ _ (by simp [bv]), bv_length, Nat.sub_self, e, List.replicate_succ, List.set_cons_zero]
  simp [bv]
theorem rz_at {m : Nat} (out : List UInt8) (h : out.length < m) : (rz m out)[out.length]? = some (.int .u8 0) := by
  unfold rz
  rw [List.getElem?_toArray, List.getElem?_append_right (by simp [bv]), bv_length, Nat.sub_self, List.getElem?_replicate, if_pos (by omega)]
theorem Rd.twoR_at : ∀ {ds raw : List UInt8}, Rd.twoR ds = some raw → ds.length = 2 * raw.length ∧ ∀ k (h : k < raw.length) (h1 : 2 * k + 1 < ds.length), Rd.hexR [ds[2 * k], ds[2 * k + 1]] = some raw[k].toNat
  | [], raw, h => by
    injection h with h
    subst h
    exact ⟨rfl, fun k h => absurd h (by simp)⟩
  | [a], raw, h => by cases h
  | a :: b :: r, raw, h => by
    rw [Rd.twoR] at h
    split at h
    · rename_i v s h1 h2
      injection h with h
      subst h
      obtain ⟨e1, e2⟩ := Rd.twoR_at h2
      refine ⟨by simp [e1]; omega, fun k hk hk1 => ?_⟩
      cases k with
      | zero =>
        have hv : v < 256 := by
          unfold Rd.hexR at h1
          rw [if_neg (by simp), Rd.hexV_hxa] at h1
          have := (Rd.hxa_le h1).2
          simpa using this
        show Rd.hexR [a, b] = some (UInt8.ofNat v).toNat
        rw [h1]
        congr 1
        simp
        omega
      | succ k => exact e2 k (by simpa using hk) (by simp at hk1; omega)
    · cases h
theorem take_raw (t : Nat) (hp : Rd.parts t = [4, 0, 0, 0, 0, 0, 0]) (ht : t ≤ 65535) (B : Nat) (L : List UInt8) (w : World) (hL : LayR w) (hl : L.length ≤ 65535) (hb : Bs w 0 w.heap.size (some ⟨B, 0, none⟩) L) :
    Calls Tryz.prog 141 #[.slice (some ⟨B, 0, none⟩) L.length L.length, .int .i64 0, .int .i64 L.length, .int .u16 t] w fun e w' => e = .returned (.tuple #[(dv ⟨L, [], [], 0, 0, 0, 0, 0⟩).val, .int .i64 0]) ∧ Below w.heap.size w w' := by
  have hok : Rd.ok t (dv ⟨L, [], [], 0, 0, 0, 0, 0⟩).dt = true := by
    rw [Rd.ok_parts, hp]
    simp [Rd.fitAll, Rd.fit, Rd.bare, Rd.hasRaw, Rd.hasHost, Rd.hasMail, Rd.nums, dv, Dv.dt, hl]
  refine pdTake_any t (dv ⟨L, [], [], 0, 0, 0, 0, 0⟩) [] [] (some ⟨B, 0, none⟩) L L.length 0 L.length (fun k => if k = 0 then 0 else L.length) w ht hL (.inr ⟨_, _, rfl⟩) (Nat.le_refl _) (by omega) (by omega) hb rfl (by simp) ?_ hok (fun k => ?_) (by rw [show (dv ⟨L, [], [], 0, 0, 0, 0, 0⟩).raw.size = L.length from mk_size L]; exact hl) (by show (0 : Nat) ≤ _; omega) (by show (0 : Nat) ≤ _; omega) ?_
  · rw [hp]
    intro j hj
    have hj7 : j < 7 := hj
    cases j with
    | zero =>
      have e : ([4, 0, 0, 0, 0, 0, 0] : List Nat)[0]'hj = 4 := rfl
      rw [e]
      exact ⟨by simp, by simp, fun h => absurd h (by decide), fun _ _ => by simp [dv, Dv.dt], fun h => absurd h (by decide), fun h => absurd h (by decide), fun h => absurd h (by decide), fun h => absurd h (by decide)⟩
    | succ j =>
      have e : ([4, 0, 0, 0, 0, 0, 0] : List Nat)[j + 1]'hj = 0 := by
        rcases (by omega : j = 0 ∨ j = 1 ∨ j = 2 ∨ j = 3 ∨ j = 4 ∨ j = 5) with rfl | rfl | rfl | rfl | rfl | rfl <;> rfl
      rw [e]
      exact ⟨by simp, by simp, fun _ => by simp, fun h => absurd h (by decide), fun h => absurd h (by decide), fun h => absurd h (by decide), fun h => absurd h (by decide), fun h => absurd h (by decide)⟩
  · match k with
    | 0 => exact Nat.zero_le _
    | 1 => exact Nat.zero_le _
    | 2 => exact Nat.zero_le _
    | 3 => exact Nat.zero_le _
    | _ + 4 => exact Nat.zero_le _
  · intro k hk
    rw [hp] at hk
    have hk7 : k < 7 := hk
    have e : (Rd.parts t)[k]'(by rw [hp]; exact hk) = ([4, 0, 0, 0, 0, 0, 0] : List Nat)[k]'hk := by simp only [hp]
    rw [e]
    rcases (by omega : k = 0 ∨ k = 1 ∨ k = 2 ∨ k = 3 ∨ k = 4 ∨ k = 5 ∨ k = 6) with rfl | rfl | rfl | rfl | rfl | rfl | rfl
    · show Nms _ _ _ 4
      exact ⟨fun h => absurd h (by decide), fun h => absurd h (by decide)⟩
    all_goals
      show Nms _ _ _ 0
      exact ⟨fun h => absurd h (by decide), fun h => absurd h (by decide)⟩
theorem Rd.gathR_step {m : Nat} {ds : List UInt8} {w : Rd.W2} {r : List Rd.W2} {y : List UInt8 × List Rd.W2} (h : Rd.gathR m ds (w :: r) = some y) : (ds.length ≤ m ∧ w.2 = false ∧ Rd.gathR m (ds ++ w.1) r = some y) ∨ (¬ ds.length ≤ m ∧ y = (ds, w :: r)) := by
  rw [Rd.gathR] at h
  by_cases h1 : ds.length ≤ m
  · rw [if_pos h1] at h
    cases hw : w.2 with
    | true => rw [hw] at h; cases h
    | false => rw [hw] at h; exact .inl ⟨h1, rfl, h⟩
  · rw [if_neg h1] at h
    injection h with h
    exact .inr ⟨h1, h.symm⟩
theorem app_str {ty : TypeId} {B : Nat} {w : World} {v : Value} {acc x : List UInt8} (i0 : TypeInfo) (hi0 : Tryz.prog.info? 5 = some i0) (hz0 : i0.zero = some (.int .u8 0)) (hz1 : i0.size = 1) (hz2 : i0.bytes = 1) (h : w.ownsRow B 5 1 v acc.length (bv acc)) (hm : acc.length + x.length ≤ 140737488355328) (hB : B ≤ w.heap.size) :
    ∃ v' w', (Builtin.append_ #[56, 9] ty #[v, sv x]).run Tryz.prog w = .ok v' w' ∧ w'.ownsRow B 5 1 v' (acc ++ x).length (bv (acc ++ x)) ∧ w.grownBy w' v.ownBlock := by
  have hs : (⟨x.toArray⟩ : ByteArray).size = x.length := mk_size x
  obtain ⟨v', w', hr, ho, hg, _⟩ := Lib.run_append_own_string (P := Tryz.prog) w B 56 9 ty 5 i0 Tryz.underlying56 Tryz.underlying9 hi0 hz0 hz1 hz2 v acc.length (bv acc) h ⟨x.toArray⟩ (by unfold maxLen; omega) (by omega) hB
  exact ⟨v', w', hr, own_to ho (by simp [hs]) (by rw [strCells_bv, bv_append]), hg⟩
section
variable {g hi t : Nat} {o : ByteArray} {ws : List Rd.W2} {x0 : Rd.W2} {w : World}
set_option maxHeartbeats 2000000 in
set_option maxRecDepth 100000 in
theorem rdAny_ok (h : St w g hi o (x0 :: ws) Rd.dt0 0) (ht : t ≤ 65535) (hp : Rd.parts t = [4, 0, 0, 0, 0, 0, 0]) {raw : List UInt8} (hr : Rd.anyR ws = some raw) (h32 : ∀ x ∈ ws, x.1.length < 4294967281) :
    Calls Tryz.prog 119 #[.pointer (some ⟨g, 0, none⟩), .int .u16 t] w fun e w' => e = .returned (dv ⟨raw, [], [], 0, 0, 0, 0, 0⟩).val ∧ Kb g w.heap.size w w' := by
  obtain ⟨i0, hi0, hz0, hz1, hz2⟩ := info_parts Tryz.infoByte
  have hgw := h.lt
  unfold Rd.anyR at hr
  obtain ⟨y1, hy1, hq⟩ := Rd.bind_some' hr
  clear hr
  obtain ⟨x1, ws1, rfl, hx1, rfl⟩ := Rd.plainW_some hy1
  obtain ⟨n, hn, hq2⟩ := Rd.bind_some' hq
  clear hq hy1
  obtain ⟨⟨ds, rest⟩, hga, hq⟩ := Rd.bind_some' hq2
  clear hq2
  have hl2 : ds.length = 2 * n := Decidable.byContradiction fun hl => by rw [if_neg hl] at hq; cases hq
  rw [if_pos hl2] at hq
  obtain ⟨htl0, hta⟩ := Rd.twoR_at hq
  have htl : ds.length = 2 * raw.length := htl0
  clear htl0
  have hrn : raw.length = n := by omega
  have hn16 : n ≤ 65535 := Rd.num_le hn
  have HS0 := Lib.hid h
  have HNB := Lib.hid (fun (W : World) (hS : St W g hi o (x1 :: ws1) Rd.dt0 0) => rdNumberR_ok hS hx1 16 (.inr (.inl rfl)) hn)
  have HG := Lib.hid hga
  have HTA := Lib.hid hta
  have HRN := Lib.hid hrn
  have HL2 := Lib.hid hl2
  have H32 := Lib.hid (fun x (hx : x ∈ ws1) => h32 x (by simp [hx]))
  clear h hq hta hn hga h32 htl hrn hl2
  go_enter Tryz.func119, Tryz.ntmps119
  have hS1 : ∀ W, Below w.heap.size w W → St W g hi o (x0 :: x1 :: ws1) Rd.dt0 0 := fun W hb => HS0.out.keep hb
  have HN := Lib.hid (fun (W : World) (hb : Below w.heap.size w W) => rdNext_any (hS1 W hb))
  clear hS1
  have hB1 := (Below.refl w.heap.size w).alloc (Nat.le_refl _) (.cells #[.string ⟨#[]⟩, .string ⟨#[]⟩, .string ⟨#[]⟩, .int .u32 0, .int .u32 0, .int .u32 0, .int .u32 0, .int .u32 0] 34)
  have hZ1 := Has.fresh w 34 #[.string ⟨#[]⟩, .string ⟨#[]⟩, .string ⟨#[]⟩, .int .u32 0, .int .u32 0, .int .u32 0, .int .u32 0, .int .u32 0]
  have HB1 := Lib.hid hB1
  have HZ1 := Lib.hid hZ1
  have HK1 : Hid (Kb g w.heap.size w (w.alloc (.cells #[.string ⟨#[]⟩, .string ⟨#[]⟩, .string ⟨#[]⟩, .int .u32 0, .int .u32 0, .int .u32 0, .int .u32 0, .int .u32 0] 34))) := Kb.of_below hB1
  clear hB1 hZ1
  go_wp2_with (first
    | (go_at_call 136; refine (HN.out _ HB1.out).mono ?_; rintro e w1 ⟨l1, k1, rfl, S1, K1⟩; have HS1 := Lib.hid S1; have HK2 := Lib.hid (HK1.out.on K1); have HZ2 := Lib.hid (K1.has HZ1.out HZ1.out.lt (by omega)); clear S1 K1)
    | (go_at_call 137; refine (HNB.out _ HS1.out).mono ?_; rintro e w2 ⟨rfl, S2, K2⟩; have HS2 := Lib.hid S2; have HK3 := Lib.hid (HK2.out.on K2); have HZ3 := Lib.hid (K2.has HZ2.out HZ2.out.lt (by omega)); clear S2 K2))
  have hg0 := HG.out
  go_loopw [6] (fun v wr => ∃ (acc : List UInt8) (rs : List Rd.W2), acc.length ≤ 8000000000 ∧ Hid (Rd.gathR (2 * n) acc rs = some (ds, rest)) ∧ Hid (∀ x ∈ rs, x.1.length < 4294967281) ∧ Hid (wr.ownsRow (w.heap.size + 1) 5 1 v acc.length (bv acc)) ∧ Hid (St wr g hi o rs Rd.dt0 0) ∧ Hid (Kb g w.heap.size w wr) ∧ Hid (Has wr w.heap.size 34 #[.string ⟨#[]⟩, .string ⟨#[]⟩, .string ⟨#[]⟩, .int .u32 0, .int .u32 0, .int .u32 0, .int .u32 0, .int .u32 0])) (fun _ wr => wlen wr g)
  case atStart => exact ⟨[], ws1, by simp, HG.out, H32.out, World.ownsRow_nil _ _ _ _, HS2.out, HK3.out, HZ3.out⟩
  case round =>
    obtain ⟨acc, rs, hacc, HGA, H32, HO, HST, HK, HZ⟩ := hrel
    obtain ⟨Av, cv, rfl⟩ := own_form HO.out
    obtain ⟨A, c, c0⟩ := HST.out.front
    have hsz := HK.out.size
    have hzs := HZ.out.lt
    cases rs with
    | cons x rs =>
      obtain ⟨h1, h2, h3⟩ : acc.length ≤ 2 * n ∧ x.2 = false ∧ Rd.gathR (2 * n) (acc ++ x.1) rs = some (ds, rest) := by
        rcases Rd.gathR_step HGA.out with h | ⟨h1, h2⟩
        · exact h
        · injection h2 with h2 _
          exfalso
          have := HL2.out
          rw [h2] at this
          omega
      have hle : decide ((acc.length : Int) ≤ 2 * (n : Int)) = true := by simp; omega
      have hx32 := H32.out x (by simp)
      have HN2 := Lib.hid (rdPlain_any HST.out h2)
      have HG2 := Lib.hid h3
      have HW := Lib.hid HST.out.wlen
      have hc : ((x :: rs).length : Int) = (rs.length : Int) + 1 := by simp
      clear h2 h3 hc
      go_wp2_with (first
        | (go_at_call 138; refine HN2.out.mono ?_; rintro e w3 ⟨rfl, S3, K3⟩; have HS3 := Lib.hid S3; have HO3 := Lib.hid (own_kb HO.out K3 (by omega)); have HZ3 := Lib.hid (K3.has HZ.out HZ.out.lt (by omega)); have hsz3 : w.heap.size + 1 ≤ w3.heap.size := Nat.le_trans (by omega) K3.size; have HK3 := Lib.hid (HK.out.on K3); clear S3 K3)
        | (at_builtin; refine wpList_append_run rfl (.tmp 29) (.tmp 31) _ _ rfl _ _ rfl rfl (R := fun v' w' => w'.ownsRow (w.heap.size + 1) 5 1 v' (acc ++ x.1).length (bv (acc ++ x.1)) ∧ w3.grownBy w' (Value.slice Av acc.length cv).ownBlock) (app_str i0 hi0 hz0 hz1 hz2 HO3.out (by omega) hsz3) ?_; rintro v4 w4 ⟨O4, G4⟩; have B4 := below_self G4 (B := g + 1) (by omega) (fun k hk => by have := (HO3.out.lt k hk).1; omega); have HS4 := Lib.hid (HS3.out.keepG B4); have HZ4 := Lib.hid (HZ3.out.grown G4 (fun e => by have := (HO3.out.lt _ e.symm).1; omega)); have HO4 := Lib.hid O4; have HK4 := Lib.hid (HK3.out.ownRow G4 (fun k hk => by have := (HO3.out.lt k hk).1; omega) (by omega)); clear O4 G4 B4))
      exact ⟨⟨acc ++ x.1, rs, by simp; omega, HG2.out, fun y hy => H32.out y (by simp [hy]), HO4.out, HS4.out, HK4.out, HZ4.out⟩, by rw [HS4.out.wlen, HW.out]; simp⟩
    | nil =>
      obtain ⟨wq, hwq⟩ : ∃ x, x = wr := ⟨_, rfl⟩
      subst hwq
      replace c0 : wq.cell? ⟨g, 0, none⟩ = some (.slice A 0 c) := c0
      have hga := HGA.out
      rw [Rd.gathR] at hga
      injection hga with hga
      injection hga with hga _
      subst hga
      have hle : ((acc.length : Int) != 2 * (n : Int)) = false := by
        have := HL2.out
        simp
        omega
      have HM : Hid (∀ W, LayR W → Bs W 0 W.heap.size (some ⟨wq.heap.size, 0, none⟩) raw → Calls Tryz.prog 141 #[.slice (some ⟨wq.heap.size, 0, none⟩) n n, .int .i64 0, .int .i64 n, .int .u16 t] W fun e w' => e = .returned (.tuple #[.agg #[sv raw, .string ⟨#[]⟩, .string ⟨#[]⟩, .int .u32 0, .int .u32 0, .int .u32 0, .int .u32 0, .int .u32 0], .int .i64 0]) ∧ Below W.heap.size W w') := fun W hL hb => by
        have := take_raw t hp ht wq.heap.size raw W hL (by rw [HRN.out]; exact hn16) hb
        rw [HRN.out] at this
        exact this
      have HPL := Lib.hid hp
      clear hp
      have hgr := HST.out.lt
      go_wp2_with (refine wpList_make_lc rfl (.tmp 40) (.tmp 40) 56 rfl 5 i0 Tryz.underlying56 hi0 hz0 hz1 hz2 .i64 .i64 _ _ n n rfl rfl rfl rfl (Nat.le_refl _) (by omega) ?_; intro w5 H5 B5 Z5; have HH5 := Lib.hid H5; have HB5 := Lib.hid B5; have HZ5 := Lib.hid Z5; clear H5 B5 Z5)
      have h5 : Has w5 wq.heap.size 5 (rz n (raw.take 0)) := by rw [List.take_zero, rz_nil]; exact HH5.out
      have H5 := Lib.hid h5
      clear h5
      go_loopw [44] (fun i W => ∃ k : Nat, i = .int .i64 k ∧ k ≤ n ∧ Hid (Has W wq.heap.size 5 (rz n (raw.take k))) ∧ Hid (Below wq.heap.size wq W)) (fun i _ => n - (intOf i).toNat)
      case atStart => exact ⟨0, rfl, by omega, H5.out, HB5.out⟩
      case round =>
        obtain ⟨k, rfl, hk, HH, HB⟩ := hrel
        by_cases hlt : k < n
        · have hkr : k < raw.length := by rw [HRN.out]; exact hlt
          have h2a : 2 * k + 1 < acc.length := by have := HL2.out; omega
          obtain ⟨gd, cp, hv, hcp, hgd, hgd2⟩ := own_pos HO.out (by omega)
          injection hv with hv1 hv2 hv3
          subst hv1
          subst hv3
          have c1 := own_cells HO.out
          have hbs : Bs wr 0 wq.heap.size (some ⟨gd, 2 * k, none⟩) [acc[2 * k]'(by omega), acc[2 * k + 1]'h2a] := fun _ => ⟨gd, 2 * k, rfl, Nat.zero_le _, hgd2, fun j hj => by
            have hj2 : j < 2 := hj
            have e := (HB.out.cell (p := ⟨gd, 2 * k + j, none⟩) hgd2).trans (c1 (2 * k + j) _ (bv_get acc (2 * k + j) (by omega)))
            rcases (by omega : j = 0 ∨ j = 1) with rfl | rfl
            · exact e
            · exact e⟩
          have hcv := run_convert_bs (w := wr) (P := Tryz.prog) 56 9 5 Tryz.underlying56 Tryz.underlying5 Tryz.underlying9 0 wq.heap.size (some ⟨gd, 2 * k, none⟩) 2 (cv - 2 * k) [acc[2 * k]'(by omega), acc[2 * k + 1]'h2a] rfl hbs
          have hsl : ∀ W', (Instr.sliceAt 56 (.slice (some ⟨gd, 0, none⟩) acc.length cv) (some (.int .i64 (2 * (k : Int)))) (some (.int .i64 (2 * (k : Int) + 2))) none).run Tryz.prog W' = .ok (.slice (some ⟨gd, 2 * k, none⟩) 2 (cv - 2 * k)) W' := fun W' => by
            rw [run_sliceAt_slice W' 56 _ _ _ _ (by kernel_rfl), run_slice_lh W' 56 (some ⟨gd, 0, none⟩) acc.length cv (by kernel_rfl) .i64 .i64 _ _ (by omega) (by omega) (by omega)]
            go_simp
            have q1 : (2 * (k : Int)).toNat = 2 * k := by omega
            have q2 : (2 * (k : Int) + 2).toNat = 2 * k + 2 := by omega
            rw [q1, q2, if_neg (by omega)]
            exact ⟨rfl, by omega, rfl⟩
          have HX := Lib.hid (fun (W' : World) => rdHex_ok (.pointer (some ⟨g, 0, none⟩)) _ W' (HTA.out k hkr h2a))
          have hrt : (raw.take k).length = k := by rw [List.length_take, HRN.out]; omega
          have hrk : raw.take (k + 1) = raw.take k ++ [raw[k]'hkr] := List.take_succ_eq_append_getElem hkr
          have hset := rz_set (m := n) (raw.take k) (raw[k]'hkr) (by omega)
          rw [hrt, ← hrk] at hset
          have hat := rz_at (m := n) (raw.take k) (by omega)
          rw [hrt] at hat
          have HSET := Lib.hid hset
          have ck : wr.cell? ⟨wq.heap.size, k, none⟩ = some (.int .u8 0) := by rw [HH.out.cell]; exact hat
          have h8 := (raw[k]'hkr).toNat_lt
          generalize acc[2 * k]'(by omega) = b1 at *
          generalize acc[2 * k + 1]'h2a = b2 at *
          generalize raw[k]'hkr = rk at *
          have hwr : IntKind.u8.wrap (rk.toNat : Int) = (rk.toNat : Int) := by rw [IntKind.wrap_u8]; omega
          have hki : (k : Int) < (n : Int) := by omega
          have hsw := HB.out.size
          clear hset hat hrk hrt hbs c1
          go_wp2_with (go_at_call 140; refine (HX.out _).mono ?_; rintro e w6 ⟨rfl, B6⟩; have c6 := (B6.cell (p := ⟨wq.heap.size, k, none⟩) HH.out.lt).trans ck; have HH6 := Lib.hid (HH.out.below B6 HH.out.lt); have f6 := HH6.out.free k; have HB6 := Lib.hid (HB.out.trans (B6.mono hsw)); clear B6)
          exact ⟨⟨k + 1, by go_num, by omega, by rw [← HSET.out]; exact HH6.out.set _ _, HB6.out.setCell (Nat.le_refl _) _⟩, by simp [intOf]; omega⟩
        · obtain rfl : k = n := by omega
          have hrt : raw.take k = raw := List.take_of_length_le (by rw [HRN.out]; exact Nat.le_refl _)
          have hH := HH.out
          rw [hrt] at hH
          have hbs : Bs wr 0 wr.heap.size (some ⟨wq.heap.size, 0, none⟩) raw := fun _ => ⟨wq.heap.size, 0, rfl, Nat.zero_le _, hH.lt, fun j hj => by
            rw [hH.cell, Nat.zero_add]
            unfold rz
            rw [List.getElem?_toArray, List.getElem?_append_left (by rw [bv_length]; exact hj)]
            exact bv_get raw j hj⟩
          have HTK := Lib.hid (HM.out wr (HST.out.keep HB.out).gl.2.1 hbs)
          have HKW := Lib.hid (HK.out.onB HB.out)
          have HZW := Lib.hid (HZ.out.below HB.out HZ.out.lt)
          have hi8 : (Tryz.prog.info? 34).map (·.size) = some 8 := by kernel_rfl
          have HI := Lib.hid hi8
          clear hH hbs hrt hi8
          go_wp2_with (first
            | (go_at_call 141; refine HTK.out.mono ?_; rintro e w7 ⟨rfl, B7⟩; have HK7 := Lib.hid (HKW.out.onB B7); have HZ7 := Lib.hid (HZW.out.below B7 HZW.out.lt); clear B7)
            | (refine wpList_store_row rfl 34 (.tmp 4) (.tmp 73) rfl w.heap.size #[sv raw, .string ⟨#[]⟩, .string ⟨#[]⟩, .int .u32 0, .int .u32 0, .int .u32 0, .int .u32 0, .int .u32 0] rfl rfl 34 _ (HZ7.out.alloc _) HI.out rfl (by simp [Value.oneCell']) ?_))
          refine bodyPost_ret (results_cell_row rfl _ _ w.heap.size 34 #[sv raw, .string ⟨#[]⟩, .string ⟨#[]⟩, .int .u32 0, .int .u32 0, .int .u32 0, .int .u32 0, .int .u32 0] (0, 0) _ rfl ((HZ7.out.alloc _).row _) Tryz.underlying34 rfl HI.out) rfl ?_
          exact ⟨rfl, (HK7.out.alloc HK7.out.size _).trans (Kb.of_below (below_setRow (Below.refl _ _) (Nat.le_refl _) _))⟩
end
end Go.Proofs.YtgcaephfhfkjcaaGreatDoor
