/- Texts of the proofs, merged. -/
import Derived.Test.YtbipcflmmfipbaaDoorG25
import Derived.Test.YtbipcflmmfipbaaDoorG6
import Derived.Test.YtbipcflmmfipbaaDoorG14
import Derived.Deep.CutBlock
import Derived.Test.YtbipcflmmfipbaaDoorG13
import Derived.Test.YtbipcflmmfipbaaDoorG24
import Derived.Test.YtbipcflmmfipbaaDoorG16
import Derived.Deep.CutRange
import Derived.Deep.RegionWith
/- Take of data: every part, by its kind. -/
namespace Go.Proofs.YtbipcflmmfipbaaDoor
open Go.RowKit

theorem hasD_zero (d : Dv) (l : List Nat) : hasD d (l ++ [0]) = hasD d l := by
  unfold hasD; rw [hasRaw_snoc, hasHost_snoc, hasMail_snoc, Rd.nums_snoc]; simp
theorem hasD_raw (d : Dv) (l : List Nat) {p : Nat} (h1 : 1 ≤ p) (h4 : p ≤ 4) : { hasD d l with raw := d.raw } = hasD d (l ++ [p]) := by
  unfold hasD; rw [hasRaw_snoc, hasHost_snoc, hasMail_snoc, Rd.nums_snoc]
  rcases (by omega : p = 1 ∨ p = 2 ∨ p = 3 ∨ p = 4) with rfl | rfl | rfl | rfl <;> simp
theorem hasD_host (d : Dv) (l : List Nat) {p : Nat} (h : p = 5 ∨ p = 6) : { hasD d l with host := d.host } = hasD d (l ++ [p]) := by
  unfold hasD; rw [hasRaw_snoc, hasHost_snoc, hasMail_snoc, Rd.nums_snoc]
  rcases h with rfl | rfl <;> simp
theorem hasD_mail (d : Dv) (l : List Nat) : { hasD d l with mail := d.mail } = hasD d (l ++ [7]) := by
  unfold hasD; rw [hasRaw_snoc, hasHost_snoc, hasMail_snoc, Rd.nums_snoc]
  simp
theorem rC_num (A : Option Addr) (m c i e : Nat) (d : Dv) (l : List Nat) {p : Nat} (h : p = 8 ∨ p = 9) (hn : Rd.nums l < 5) (j : Nat) :
    ((((rC A m c i e (hasD d l) (Rd.nums l)).setIfInBounds (6 + Rd.nums l) (.int .u32 (d.n (Rd.nums l) : Nat))).setIfInBounds 11 (.int .i64 (Rd.nums l + 1 : Nat))).setIfInBounds 1 (.int .i64 j)) = rC A m c j e (hasD d (l ++ [p])) (Rd.nums (l ++ [p])) := by
  unfold hasD; rw [hasRaw_snoc, hasHost_snoc, hasMail_snoc, Rd.nums_snoc, if_pos h]
  generalize Rd.nums l = n at *
  have e : (p == 1 || p == 2 || p == 3 || p == 4) = false ∧ (p == 5 || p == 6) = false ∧ (p == 7) = false := by rcases h with rfl | rfl <;> decide
  rw [e.1, e.2.1, e.2.2, Bool.or_false, Bool.or_false, Bool.or_false]
  rcases (by omega : n = 0 ∨ n = 1 ∨ n = 2 ∨ n = 3 ∨ n = 4) with rfl | rfl | rfl | rfl | rfl <;> simp [rC, Dv.n]
theorem rdb_take {L : List UInt8} {i j : Nat} {ls : List (List UInt8)} {s : ByteArray} (h : Pr.Rdb L i ls i j) (hs : Nm.split s.data.toList = some ls) (hi : i ≤ L.length) : prTakeV L i = .tuple #[.string s, .int .i64 j, .int .i64 0] := by
  obtain ⟨e1, e2, e3⟩ := Nm.split_some.1 hs
  unfold prTakeV
  have h2 := h [] i 1 (Nat.le_refl _) (by rw [e1, Pr.tot_glue] at e3; omega)
  rw [List.append_nil] at h2
  rw [if_neg (by omega), show ((i : Int)).toNat = i from rfl, h2]
  show Value.tuple #[sv (Nm.glue ls), .int .i64 j, .int .i64 0] = _
  rw [string_eq e1]
theorem quiet_same {P : Program} {f : FuncId} {args : Array Value} {w : World} {n : Nat} {v : Value} (h : Calls P f args (w.drewN n) fun e w' => e = .returned v ∧ w.drewN n = w') :
    Calls P f args (w.drewN n) fun e w'' => e = .returned v ∧ ∃ m, w'' = w.drewN m := h.mono fun _ _ ⟨he, hw⟩ => ⟨he, n, hw.symm⟩
theorem below_qn (B : Nat) (W : World) (n : Nat) : Below B W (W.drewN n) := below_q B rfl
/-- what the names of data are. -/
def Nms (d : Dv) (hl ml : List (List UInt8)) (p : Nat) : Prop := (p = 5 ∨ p = 6 → Nm.split d.host.data.toList = some hl) ∧ (p = 7 → Nm.split d.mail.data.toList = some ml)
section
variable {g B i j e c p : Nat} {A : Option Addr} {L : List UInt8} {d : Dv} {hl ml : List (List UInt8)} {ps : List Nat} {W : World}
set_option maxHeartbeats 1000000 in
set_option maxRecDepth 100000 in
theorem part_any (h : Has W g 101 (rC A L.length c i e (hasD d ps) (Rd.nums ps))) (hB : B ≤ g) (hA : Ad A L c) (hc : L.length ≤ c) (hm : c ≤ 9223372036854775807) (hl1 : L.length ≤ 211106232532992) (he1 : e ≤ 140737488355328) (hb : Bs W 0 B A L)
    (hp9 : p ≤ 9) (hone : Rd.One L d.dt hl ml (Rd.nums ps) p i j) (hje : j ≤ e) (heL : e ≤ L.length) (hraw : 1 ≤ p → p ≤ 4 → j = e ∧ d.raw.size ≤ 65535) (hnm : Nms d hl ml p) (hn5 : p = 8 ∨ p = 9 → Rd.nums ps < 5) (hfit : d.fits) :
    Calls Tryd.prog 65 #[.pointer (some ⟨g, 0, none⟩), .int .u8 p] W fun en W' => en = .returned (.int .i64 0) ∧ Has W' g 101 (rC A L.length c j e (hasD d (ps ++ [p])) (Rd.nums (ps ++ [p]))) ∧ Below B W W' := by
  have HH := Lib.hid h
  have HNM := Lib.hid hnm
  obtain ⟨o1, o2, o3, o4, o5, o6, o7, o8⟩ := hone
  have hij : i ≤ L.length := by omega
  by_cases p0 : p = 0
  · subst p0
    obtain rfl := o3 rfl
    have hnum : Rd.nums (ps ++ [0]) = Rd.nums ps := by rw [Rd.nums_snoc]; rfl
    rw [hasD_zero, hnum]
    clear h hb o4 o5 o6 o7 o8 hnm hraw
    go_enter Tryd.func65, Tryd.ntmps65
    go_wp2
    go_ret
    exact ⟨rfl, HH.out, Below.refl _ _⟩
  by_cases p4 : p ≤ 4
  · obtain ⟨q1, q2⟩ := o4 (by omega) p4
    obtain ⟨rfl, q3⟩ := hraw (by omega) p4
    have hrl : d.dt.raw.length = d.raw.size := by simp [Dv.dt]
    have hnum : Rd.nums (ps ++ [p]) = Rd.nums ps := by rw [Rd.nums_snoc, if_neg (by omega)]; rfl
    have HR := Lib.hid (rd_raw h hB hA o1 heL (by omega) hc hm hb d.raw (by rw [show j - i = d.dt.raw.length by omega]; exact q2))
    rw [hasD_raw d ps (by omega) p4] at HR
    rw [hnum]
    clear h hb o4 o5 o6 o7 o8 hnm hraw q2 hnum
    rcases (by omega : p = 1 ∨ p = 2 ∨ p = 3 ∨ p = 4) with rfl | rfl | rfl | rfl
    all_goals
      (go_enter Tryd.func65, Tryd.ntmps65
       go_wp2_with (go_at_call 111; refine HR.out.mono ?_; rintro e' w5 ⟨rfl, H5, B5⟩; have HH5 := Lib.hid H5; have HB5 := Lib.hid B5; clear H5 B5)
       go_ret
       exact ⟨rfl, HH5.out, HB5.out⟩)
  by_cases p7 : p ≤ 7
  · have hnum : Rd.nums (ps ++ [p]) = Rd.nums ps := by rw [Rd.nums_snoc, if_neg (by omega)]; rfl
    rw [hnum]
    rcases (by omega : (p = 5 ∨ p = 6) ∨ p = 7) with p56 | rfl
    · have HR := Lib.hid (rd_name h hB hc hl1 hb (k := 4) (.inl rfl) hje (rdb_take (o5 p56) (HNM.out.1 p56) hij))
      rw [show ((rC A L.length c i e (hasD d ps) (Rd.nums ps)).setIfInBounds 4 (.string d.host)).setIfInBounds 1 (.int .i64 j) = rC A L.length c j e { hasD d ps with host := d.host } (Rd.nums ps) from rfl, hasD_host d ps p56] at HR
      clear h hb o4 o5 o6 o7 o8 hnm hraw hnum
      rcases p56 with rfl | rfl
      all_goals
        (go_enter Tryd.func65, Tryd.ntmps65
         go_wp2_with (go_at_call 112; refine HR.out.mono ?_; rintro e' w5 ⟨rfl, H5, B5⟩; have HH5 := Lib.hid H5; have HB5 := Lib.hid B5; clear H5 B5)
         go_ret
         exact ⟨rfl, HH5.out, HB5.out⟩)
    · have HR := Lib.hid (rd_name h hB hc hl1 hb (k := 5) (.inr rfl) hje (rdb_take (o6 rfl) (HNM.out.2 rfl) hij))
      rw [show ((rC A L.length c i e (hasD d ps) (Rd.nums ps)).setIfInBounds 5 (.string d.mail)).setIfInBounds 1 (.int .i64 j) = rC A L.length c j e { hasD d ps with mail := d.mail } (Rd.nums ps) from rfl, hasD_mail d ps] at HR
      clear h hb o4 o5 o6 o7 o8 hnm hraw hnum
      go_enter Tryd.func65, Tryd.ntmps65
      go_wp2_with (go_at_call 112; refine HR.out.mono ?_; rintro e' w5 ⟨rfl, H5, B5⟩; have HH5 := Lib.hid H5; have HB5 := Lib.hid B5; clear H5 B5)
      go_ret
      exact ⟨rfl, HH5.out, HB5.out⟩
  have hn := hn5 (by omega)
  have c0 : W.cell? ⟨g, 0, none⟩ = some (.slice A L.length c) := by rw [h.cell]; rfl
  have c1 : W.cell? ⟨g, 1, none⟩ = some (.int .i64 i) := by rw [h.cell]; rfl
  have c2 : W.cell? ⟨g, 2, none⟩ = some (.int .i64 e) := by rw [h.cell]; rfl
  have hec : e ≤ c := by omega
  have hle : (L.take e).length = e := by rw [List.length_take]; omega
  obtain ⟨g0, o0, rfl⟩ : ∃ g0 o0, A = some ⟨g0, o0, none⟩ := by
    rcases hA with ⟨_, h0, _⟩ | h0
    · rcases (by omega : p = 8 ∨ p = 9) with rfl | rfl
      · have := (o7 rfl).1; subst h0; simp at heL; omega
      · have := (o8 rfl).1; subst h0; simp at heL; omega
    · exact h0
  have hN : Rd.hasN d.dt (Rd.nums ps) = d.n (Rd.nums ps) := rd_hasN d hn
  have hxn : d.n (Rd.nums ps) ≤ 4294967295 := hfit _
  have hwn : IntKind.u32.wrap ((d.n (Rd.nums ps) : Nat) : Int) = ((d.n (Rd.nums ps) : Nat) : Int) := by rw [IntKind.wrap_u32]; omega
  rcases (by omega : p = 8 ∨ p = 9) with rfl | rfl
  · obtain ⟨q1, q2⟩ := o7 rfl
    have hT : ∀ k : Nat, Calls Tryd.prog 91 #[.slice (some ⟨g0, o0, none⟩) e c, .int .i64 i] (W.drewN k) fun e' w' => e' = .returned (.tuple #[.int .u16 (d.n (Rd.nums ps) : Nat), .int .i64 j, .int .i64 0]) ∧ W.drewN k = w' := fun k => by
      have := take_u16_ok (some ⟨g0, o0, none⟩) (L.take e) c i (W.drewN k) (by omega) (by omega) 0 B ((hb.take e).drewN k) (by omega)
      rw [hle, List.drop_take, List.take_take, Nat.min_eq_left (by omega), q2, hN] at this
      rw [q1]
      exact this
    have HT := Lib.hid hT
    have hR : ∀ k : Nat, Calls Tryd.prog 113 #[.pointer (some ⟨g, 0, none⟩), .int .u32 (d.n (Rd.nums ps) : Nat), .int .i64 j, .int .i64 0] (W.drewN k) fun en W' => en = .returned (.int .i64 0) ∧ Has W' g 101 (rC (some ⟨g0, o0, none⟩) L.length c j e (hasD d (ps ++ [8])) (Rd.nums (ps ++ [8]))) ∧ Below B W W' := fun k => by
      have := rd_num (W := W.drewN k) (show Has (W.drewN k) g 101 _ from h) hB (d.n (Rd.nums ps)) j hn
      rw [rC_num _ _ _ _ _ _ _ (p := 8) (.inl rfl) hn] at this
      exact this.mono fun _ _ ⟨h1, h2, h3⟩ => ⟨h1, h2, (below_qn B W k).trans h3⟩
    have HR := Lib.hid hR
    clear h hb o4 o5 o6 o7 o8 hnm hraw hT q1 q2 hN hR
    go_enter Tryd.func65, Tryd.ntmps65
    go_wp2
    go_quiet ((go_at_call 91; exact quiet_same (HT.out _)))
    go_wp2_with (go_at_call 113; (with_reducible refine (HR.out _).mono ?_); rintro e' w5 ⟨rfl, H5, B5⟩; have HH5 := Lib.hid H5; have HB5 := Lib.hid B5; clear H5 B5)
    go_ret
    exact ⟨rfl, HH5.out, HB5.out⟩
  · obtain ⟨q1, q2⟩ := o8 rfl
    have hT : ∀ k : Nat, Calls Tryd.prog 114 #[.slice (some ⟨g0, o0, none⟩) e c, .int .i64 i] (W.drewN k) fun e' w' => e' = .returned (.tuple #[.int .u32 (d.n (Rd.nums ps) : Nat), .int .i64 j, .int .i64 0]) ∧ W.drewN k = w' := fun k => by
      have := take_u32_ok (some ⟨g0, o0, none⟩) (L.take e) c i (W.drewN k) (by omega) (by omega) 0 B ((hb.take e).drewN k) (by omega)
      rw [hle, List.drop_take, List.take_take, Nat.min_eq_left (by omega), q2, hN] at this
      rw [q1]
      exact this
    have HT := Lib.hid hT
    have hR : ∀ k : Nat, Calls Tryd.prog 113 #[.pointer (some ⟨g, 0, none⟩), .int .u32 (d.n (Rd.nums ps) : Nat), .int .i64 j, .int .i64 0] (W.drewN k) fun en W' => en = .returned (.int .i64 0) ∧ Has W' g 101 (rC (some ⟨g0, o0, none⟩) L.length c j e (hasD d (ps ++ [9])) (Rd.nums (ps ++ [9]))) ∧ Below B W W' := fun k => by
      have := rd_num (W := W.drewN k) (show Has (W.drewN k) g 101 _ from h) hB (d.n (Rd.nums ps)) j hn
      rw [rC_num _ _ _ _ _ _ _ (p := 9) (.inr rfl) hn] at this
      exact this.mono fun _ _ ⟨h1, h2, h3⟩ => ⟨h1, h2, (below_qn B W k).trans h3⟩
    have HR := Lib.hid hR
    clear h hb o4 o5 o6 o7 o8 hnm hraw hT q1 q2 hN hR
    go_enter Tryd.func65, Tryd.ntmps65
    go_wp2
    go_quiet ((go_at_call 114; exact quiet_same (HT.out _)))
    go_wp2_with (go_at_call 113; (with_reducible refine (HR.out _).mono ?_); rintro e' w5 ⟨rfl, H5, B5⟩; have HH5 := Lib.hid H5; have HB5 := Lib.hid B5; clear H5 B5)
    go_ret
    exact ⟨rfl, HH5.out, HB5.out⟩
end
end Go.Proofs.YtbipcflmmfipbaaDoor
/- Take of data: data whose parts stand at their places are read. -/
namespace Go.Proofs.YtbipcflmmfipbaaDoor
open Go.RowKit

theorem rC_data (A : Option Addr) (m c i e : Nat) (d : Dv) (n : Nat) {W : World} {g : Nat} {t : TypeId} (h : Has W g t (rC A m c i e d n)) :
    W.cell? ⟨g, 1, none⟩ = some (.int .i64 i) ∧ W.cell? ⟨g, 2, none⟩ = some (.int .i64 e) ∧ W.cell? ⟨g, 3, none⟩ = some (.string d.raw) ∧ W.cell? ⟨g, 4, none⟩ = some (.string d.host) ∧ W.cell? ⟨g, 5, none⟩ = some (.string d.mail) ∧
      W.cell? ⟨g, 6, none⟩ = some (.int .u32 d.n0) ∧ W.cell? ⟨g, 7, none⟩ = some (.int .u32 d.n1) ∧ W.cell? ⟨g, 8, none⟩ = some (.int .u32 d.n2) ∧ W.cell? ⟨g, 9, none⟩ = some (.int .u32 d.n3) ∧ W.cell? ⟨g, 10, none⟩ = some (.int .u32 d.n4) := by
  refine ⟨?_, ?_, ?_, ?_, ?_, ?_, ?_, ?_, ?_, ?_⟩ <;> (rw [h.cell]; rfl)
theorem hasD_all {t : Nat} {d : Dv} (hok : Rd.ok t d.dt = true) : hasD d (Rd.parts t) = d := by
  have h := bare_eq d (Rd.parts t)
  rw [Rd.ok_parts, Bool.and_eq_true] at hok
  rw [hok.2] at h
  exact (dvB_iff _ _).1 h
set_option maxHeartbeats 2000000 in
set_option maxRecDepth 100000 in
theorem pdTake_any (t : Nat) (d : Dv) (hl ml : List (List UInt8)) (A : Option Addr) (L : List UInt8) (c i0 n : Nat) (q : Nat → Nat) (w : World) (ht : t ≤ 65535) (hL : LayR w) (hA : Ad A L c) (hc : L.length ≤ c) (hm : c ≤ 9223372036854775807) (hl1 : L.length ≤ 140737488355328) (hb : Bs w 0 w.heap.size A L)
    (h0 : q 0 = i0) (h7 : q 7 = i0 + n) (hall : Rd.All L d.dt hl ml (Rd.parts t) q) (hok : Rd.ok t d.dt = true) (hf : d.fits) (hr0 : d.raw.size ≤ 65535) (hh0 : d.host.size ≤ 140737488355328) (hm0 : d.mail.size ≤ 140737488355328)
    (hnm : ∀ k (hk : k < (Rd.parts t).length), Nms d hl ml (Rd.parts t)[k]) :
    Calls Tryd.prog 17 #[.slice A L.length c, .int .i64 i0, .int .i64 n, .int .u16 t] w fun e w' => e = .returned (.tuple #[d.val, .int .i64 0]) ∧ Below w.heap.size w w' := by
  have htop : q 7 ≤ L.length := hall.top (Nat.le_refl _)
  have hi0 : i0 + n ≤ L.length := by omega
  have hw1 : IntKind.i64.wrap ((i0 : Int) + (n : Int)) = (i0 : Int) + (n : Int) := by rw [IntKind.wrap_i64]; omega
  have hw2 : IntKind.i64.wrap ((L.length : Int) - (i0 : Int)) = (L.length : Int) - (i0 : Int) := by rw [IntKind.wrap_i64]; omega
  have d1 : decide ((L.length : Int) < (i0 : Int)) = false := by simp; omega
  have d2 : decide ((L.length : Int) - (i0 : Int) < (n : Int)) = false := by simp; omega
  have e1 : decide ((i0 : Int) < 0) = false := by simp
  have e2 : decide ((n : Int) < 0) = false := by simp
  have e3 : decide (L.length < i0) = false := by simp; omega
  have HL := Lib.hid hL
  have HB0 := Lib.hid hb
  have HALL := Lib.hid hall
  have HNM := Lib.hid hnm
  have HOK := Lib.hid hok
  have HF := Lib.hid hf
  have H7 := Lib.hid h7
  have H0 := Lib.hid h0
  have HPO : ∀ W : World, LayR W → Hid (Calls Tryd.prog 41 #[.int .u16 t] W fun e w' => e = .returned (.agg (partC t)) ∧ Below W.heap.size W w') := fun W h => partsOf_any t W ht h
  have hval : d.val = .agg d.cells := rfl
  clear hL hb hall hnm hok hf h7 h0 htop
  go_enter Tryd.func17, Tryd.ntmps17
  go_wp2_with (go_at_call 41; refine (HPO _ (HL.out.below (((Below.refl _ _).alloc (Nat.le_refl _) _).alloc (by simp) _) (Nat.le_refl _))).out.mono ?_; rintro e w1 ⟨rfl, B1⟩)
  have HB : Hid (Below w.heap.size w w1) := ((((Below.refl _ _).alloc (Nat.le_refl _) _).alloc (by simp) _).trans (B1.mono (by simp; omega)))
  have HZ : Hid (Has w1 w.heap.size 27 (hasD d []).cells) := ((Has.fresh w 27 (hasD d []).cells).alloc _).below B1 (by simp; omega)
  have HG : Hid (Has w1 (w.heap.size + 1) 101 (rC A L.length c i0 (i0 + n) (hasD d []) 0)) := by
    have h : Has ((w.alloc (.cells (hasD d []).cells 27)).alloc (.cells (rC A L.length c i0 (i0 + n) (hasD d []) 0) 101)) (w.alloc (.cells (hasD d []).cells 27)).heap.size 101 (rC A L.length c i0 (i0 + n) (hasD d []) 0) := Has.fresh _ _ _
    have h2 := h.below B1 (by simp)
    have e : (w.alloc (.cells (hasD d []).cells 27)).heap.size = w.heap.size + 1 := by simp
    rw [e] at h2
    exact h2
  have hz1 : w.heap.size + 1 < w1.heap.size := by have := B1.size; simp at this; omega
  clear B1
  obtain ⟨E, hE⟩ : ∃ E, i0 + n = E := ⟨_, rfl⟩
  rw [hE] at HG H7
  have HE := Lib.hid hE
  have hEL : E ≤ L.length := by omega
  clear hE e1 e2 e3 d1 d2 hw1 hw2 hi0
  go_loopw [43] (fun i wr => ∃ k : Nat, i = .int .i64 k ∧ k ≤ 7 ∧ Hid (Has wr (w.heap.size + 1) 101 (rC A L.length c (q k) E (hasD d ((Rd.parts t).take k)) (Rd.nums ((Rd.parts t).take k)))) ∧ Hid (Has wr w.heap.size 27 (hasD d []).cells) ∧ Hid (Below w.heap.size w wr)) (fun i _ => 7 - (intOf i).toNat)
  case atStart => exact ⟨0, rfl, by omega, by rw [H0.out]; exact HG, HZ, HB⟩
  case round =>
    obtain ⟨k, rfl, hk, HG1, HZ1, HB1⟩ := hrel
    have hbs := HB1.out.size
    have hg2 := HG1.out.lt
    by_cases hlt : k < 7
    · have hkl : k < (Rd.parts t).length := by rw [Rd.parts_len]; exact hlt
      have hix := part_at hkl
      have hp9 : (Rd.parts t)[k] ≤ 9 := Rd.parts_lt t _ (List.getElem_mem hkl)
      have htk : (Rd.parts t).take (k + 1) = (Rd.parts t).take k ++ [(Rd.parts t)[k]] := List.take_succ_eq_append_getElem hkl
      have hn5 : Rd.nums ((Rd.parts t).take (k + 1)) ≤ 5 := Rd.nums_le
      have hone := HALL.out k hkl
      have hra : 1 ≤ (Rd.parts t)[k] → (Rd.parts t)[k] ≤ 4 → q (k + 1) = q 7 := HALL.out.raw_end hkl
      have hje : q (k + 1) ≤ q 7 := HALL.out.up (k + 1) 7 (by omega) (Nat.le_refl _)
      have hnk := HNM.out k hkl
      rw [H7.out] at hra hje
      rw [htk, Rd.nums_snoc] at hn5
      have HTK := Lib.hid htk
      clear htk
      generalize (Rd.parts t)[k] = p at *
      generalize (Rd.parts t).take k = ps at *
      have HP := Lib.hid (part_any (B := w.heap.size + 1) HG1.out (Nat.le_refl _) hA hc hm (by omega) (by omega) ((HB0.out.keep HB1.out).more (Nat.le_refl _) (by omega)) hp9 hone hje hEL (fun h1 h4 => ⟨hra h1 h4, hr0⟩) hnk (fun h => by rw [if_pos h] at hn5; omega) HF.out)
      have hd7 : decide ((k : Int) < 7) = true := by simp; omega
      obtain ⟨z, hz⟩ : ∃ z : Int, ((p : Nat) : Int) = z := ⟨_, rfl⟩
      rw [hz] at hix HP
      clear hz hone hra hnk hn5
      go_wp2_with (go_at_call 65; (with_reducible refine HP.out.mono ?_); rintro e' w5 ⟨rfl, H5, B5⟩; have HG5 := Lib.hid H5; have HZ5 := Lib.hid (HZ1.out.below B5 (by omega)); have HB5 := Lib.hid (HB1.out.trans (B5.mono (by omega))); clear H5 B5)
      go_roundw
      case rel => exact ⟨k + 1, by go_num, by omega, by rw [HTK.out]; exact HG5, HZ5, HB5⟩
      case measure => simp [intOf]; omega
    · obtain rfl : k = 7 := by omega
      have hall' : (Rd.parts t).take 7 = Rd.parts t := List.take_of_length_le (by rw [Rd.parts_len]; omega)
      have hnn : q 7 = E := H7.out
      rw [hall', hasD_all HOK.out, hnn] at HG1
      obtain ⟨x1, x2, x3, x4, x5, x6, x7, x8, x9, x10⟩ := rC_data _ _ _ _ _ _ _ HG1.out
      have hi8 : (Tryd.prog.info? 27).map (·.size) = some 8 := by kernel_rfl
      have HI := Lib.hid hi8
      have HCK := Lib.hid (pdCheck_any t d wr ht (HL.out.below HB1.out (Nat.le_refl _)) HF.out (by omega) hh0 hm0)
      rw [HOK.out, hval] at HCK
      have HCK2 : Hid (Calls Tryd.prog 16 #[.int .u16 t, .agg #[.string d.raw, .string d.host, .string d.mail, .int .u32 d.n0, .int .u32 d.n1, .int .u32 d.n2, .int .u32 d.n3, .int .u32 d.n4]] wr fun e w' => e = .returned (.int .i64 0) ∧ Below wr.heap.size wr w') := HCK.out
      clear hi8 hall' hnn HCK
      go_wp2_with (first
        | (go_at_call 16; (with_reducible refine HCK2.out.mono ?_); rintro e' w5 ⟨rfl, B5⟩; have HB5 := Lib.hid (HB1.out.trans (B5.mono (by omega))); have HZ5 := Lib.hid (HZ1.out.below B5 (by omega)); obtain ⟨y1, y2, y3, y4, y5, y6, y7, y8, y9, y10⟩ := rC_data _ _ _ _ _ _ _ (HG1.out.below B5 hg2); clear B5)
        | (refine wpList_store_row rfl 27 (.tmp 8) (.tmp 67) rfl w.heap.size d.cells rfl rfl 27 _ HZ5.out HI.out rfl (dv_one d) ?_))
      refine bodyPost_ret (results_row_tmp rfl _ _ w.heap.size 27 d.cells _ rfl (HZ5.out.row _) Tryd.underlying27 rfl HI.out) rfl ?_
      exact ⟨rfl, below_setRow HB5.out (Nat.le_refl _) _⟩
end Go.Proofs.YtbipcflmmfipbaaDoor
/- RdataBack: whatever items and whatever bytes are handed in, the call returns true, and the arguments read behind it as before (where they are at most 1048576 letters). -/
namespace Go.Proofs.YtbipcflmmfipbaaDoor
open Go.RowKit

theorem Tryd.infoDItem : (Tryd.prog.info? 41).map (fun i => (i.zero, i.size, i.bytes)) = some (some (.agg #[.int .i64 0, .int .u16 0, .string ⟨#[]⟩, .string ⟨#[]⟩, .string ⟨#[]⟩, .int .u32 0, .int .u32 0, .int .u32 0, .int .u32 0, .int .u32 0]), 10, 88) := by kernel_rfl
/-- one value of many cells is put behind a row of the call's own. -/
theorem wpList_append_newK {P : Program} {w : World} {ops : Array Oper} {rest : List Oper} {o : Oper} {a : Act} {Q : Exit → Act → World → Prop} (hgd : o.guard = none) (s x : Operand) (t : TypeId)
    (ho : o.op = .call { callee := .builtin .append, args := #[s, x], argTypes := #[t, t] })
    (e : TypeId) (i : TypeInfo) (z : Value) (k bytes : Nat) (ht : P.underlying t = some (.slice e)) (hi : P.info? e = some i) (hz : i.zero = some z)
    (hsize : i.size = k) (hby : i.bytes = bytes) (hzs : z.cells.size = k) (hk : 0 < k)
    (base : Nat) (w0 : World) (v : Value) (n : Nat) (xs : List Value) (hs : a.eval s = v) (hown : w.ownsRow base e k v n xs) (hb : Below base w0 w) (hbase : base ≤ w0.heap.size)
    (us : List Value) (hu : ∀ u ∈ us, u.oneCell' = true) (et : TypeId) (hul : us.length = 1 * k) (hx : a.eval x = .slice (some ⟨w.heap.size, 0, none⟩) 1 1)
    (h63 : n + 1 ≤ maxLen) (hbytes : (n + 1) * bytes ≤ 140737488355328)
    (h : ∀ v' w', w'.ownsRow base e k v' (n + 1) (xs ++ us) → Below base w0 w' → (w.alloc (.cells us.toArray et)).grownBy w' v.ownBlock → wpList P ops Q rest (a.put o.dst v') w') : wpList P ops Q (o :: rest) a (w.alloc (.cells us.toArray et)) := by
  have hbs := hb.size
  refine wpList_append_own _ hgd s x t ho base e i z k bytes ht hi hz hsize hby hzs hk v n xs hs (hown.alloc _) ⟨w.heap.size, 0, none⟩ 1 1 us hx hul ?_ hu h63 hbytes (by simp; omega) (fun v' w' h1 h2 _ => h v' w' h1 ?_ h2)
  · intro j u hj
    have hH := Has.fresh w et us.toArray
    rw [addr_add, Nat.zero_add, hH.cell]
    simpa using hj
  · exact (hb.alloc (by omega) _).grown h2 (by simp; omega) (fun k hk => (hown.lt k hk).1)
/-- the cells of an item. -/
def CIt (W : World) (g o : Nat) (s : Int) (t : Nat) (d : Dv) : Prop :=
  W.cell? ⟨g, o, none⟩ = some (.int .i64 s) ∧ W.cell? ⟨g, o + 1, none⟩ = some (.int .u16 t) ∧ W.cell? ⟨g, o + 2, none⟩ = some (.string d.raw) ∧ W.cell? ⟨g, o + 2 + 1, none⟩ = some (.string d.host) ∧ W.cell? ⟨g, o + 2 + 2, none⟩ = some (.string d.mail) ∧
    W.cell? ⟨g, o + 2 + 3, none⟩ = some (.int .u32 d.n0) ∧ W.cell? ⟨g, o + 2 + 4, none⟩ = some (.int .u32 d.n1) ∧ W.cell? ⟨g, o + 2 + 5, none⟩ = some (.int .u32 d.n2) ∧ W.cell? ⟨g, o + 2 + 6, none⟩ = some (.int .u32 d.n3) ∧ W.cell? ⟨g, o + 2 + 7, none⟩ = some (.int .u32 d.n4)
theorem dits_cit {w : World} {hi : Nat} {A : Option Addr} {its : List DIt} (h : DIts w hi A its) {k : Nat} (hk : k < its.length) :
    ∃ g o, A = some ⟨g, o, none⟩ ∧ g < hi ∧ CIt w g (o + k * 10) (its[k]'hk).skip (its[k]'hk).ty (its[k]'hk).data := by
  obtain ⟨g, o, h1, h2, h3⟩ := h (by omega)
  obtain ⟨q0, q1, q2⟩ := h3 k hk
  exact ⟨g, o, h1, h2, q0, q1, q2 0 (by omega), q2 1 (by omega), q2 2 (by omega), q2 3 (by omega), q2 4 (by omega), q2 5 (by omega), q2 6 (by omega), q2 7 (by omega)⟩
/-- the same cells, counted on from the item's head. -/
theorem CIt.on {W : World} {g o : Nat} {s : Int} {t : Nat} {d : Dv} (h : CIt W g o s t d) : W.cell? ⟨g, o + 3, none⟩ = some (.string d.host) ∧ W.cell? ⟨g, o + 4, none⟩ = some (.string d.mail) ∧
    W.cell? ⟨g, o + 5, none⟩ = some (.int .u32 d.n0) ∧ W.cell? ⟨g, o + 6, none⟩ = some (.int .u32 d.n1) ∧ W.cell? ⟨g, o + 7, none⟩ = some (.int .u32 d.n2) ∧ W.cell? ⟨g, o + 8, none⟩ = some (.int .u32 d.n3) ∧ W.cell? ⟨g, o + 9, none⟩ = some (.int .u32 d.n4) :=
  ⟨h.2.2.2.1, h.2.2.2.2.1, h.2.2.2.2.2.1, h.2.2.2.2.2.2.1, h.2.2.2.2.2.2.2.1, h.2.2.2.2.2.2.2.2.1, h.2.2.2.2.2.2.2.2.2⟩
/-- all bytes, all places and all items. -/
def Rb2 (w : World) (L : List UInt8) (ps : List Nat) (ks : List DIt) (vL vT vK : Value) (W : World) : Prop :=
  W.ownsRow w.heap.size 5 1 vL L.length (bv L) ∧ W.ownsRow w.heap.size 3 1 vT ps.length (ints ps) ∧ W.ownsRow w.heap.size 41 10 vK ks.length (dcs ks) ∧ Below w.heap.size w W
theorem Rb2.low {w W W' : World} {L : List UInt8} {ps : List Nat} {ks : List DIt} {vL vT vK : Value} (h : Rb2 w L ps ks vL vT vK W) (hb : Below W.heap.size W W') : Rb2 w L ps ks vL vT vK W' :=
  ⟨own_below h.1 hb (Nat.le_refl _), own_below h.2.1 hb (Nat.le_refl _), own_below h.2.2.1 hb (Nat.le_refl _), h.2.2.2.trans (hb.mono h.2.2.2.size)⟩
theorem RbW.all {w W W' : World} {T : Tab} {b l : List UInt8} {ps : List Nat} {ks : List DIt} {vb vat vk v3 v4 : Value} (h : RbW w T b ps ks vb vat vk W) (h3 : W.ownsRow w.heap.size 5 1 v3 b.length (bv b)) (h4 : W'.ownsRow w.heap.size 5 1 v4 (b.length + l.length) (bv b ++ bv l)) (hG : W.grownBy W' v3.ownBlock) :
    Rb2 w (b ++ l) ps ks v4 vat vk W' :=
  ⟨own_to h4 List.length_append.symm (bv_append _ _).symm, own_stillK h3 h.2.2.1 (by decide) hG, own_stillK h3 h.2.2.2.1 (by decide) hG, h.2.2.2.2.grown hG h.2.2.2.2.size (fun k hk => (h3.lt k hk).1)⟩
theorem own_ad {w : World} {B n c : Nat} {A : Option Addr} {L : List UInt8} (h : w.ownsRow B 5 1 (.slice A n c) n (bv L)) (hn : n = L.length) : Ad A L c ∧ L.length ≤ c ∧ c ≤ 9223372036854775807 := by
  subst hn
  rcases h.2 with ⟨hv, h0⟩ | ⟨g, cap, cur, hv, _, _, hc, hcm, _⟩
  · injection hv with h1 h2 h3
    exact ⟨.inl ⟨h1, List.eq_nil_of_length_eq_zero h0, h3⟩, by omega, by omega⟩
  · injection hv with h1 h2 h3
    subst h1 h3
    exact ⟨.inr ⟨g, 0, rfl⟩, hc, hcm⟩
theorem kit_cells {W : World} {B cK : Nat} {A : Option Addr} {ks : List DIt} (h : W.ownsRow B 41 10 (.slice A ks.length cK) ks.length (dcs ks)) {j : Nat} (hj : j < ks.length) :
    ∃ g, A = some ⟨g, 0, none⟩ ∧ g < W.heap.size ∧ CIt W g (j * 10) (ks[j]'hj).skip (ks[j]'hj).ty (ks[j]'hj).data := by
  rcases h.2 with ⟨_, h0⟩ | ⟨g, cap, cur, hv, _, hg, _⟩
  · omega
  · injection hv with h1 h2 h3
    subst h1
    have hc : ∀ i, i < 10 → W.cell? ⟨g, j * 10 + i, none⟩ = (Value.int .i64 (ks[j]'hj).skip :: .int .u16 (ks[j]'hj).ty :: (ks[j]'hj).data.cells.toList)[i]? := fun i hi => by
      have h1 := dcs_at ks j i hj hi
      have hx : (Value.int .i64 (ks[j]'hj).skip :: .int .u16 (ks[j]'hj).ty :: (ks[j]'hj).data.cells.toList)[i]? = some ((Value.int .i64 (ks[j]'hj).skip :: .int .u16 (ks[j]'hj).ty :: (ks[j]'hj).data.cells.toList)[i]'(by show _ < 10; exact hi)) := List.getElem?_eq_getElem _
      rw [hx] at h1 ⊢
      have := h.cells (g := g) rfl (j * 10 + i) _ h1
      rw [addr_add, Nat.zero_add] at this
      exact this
    exact ⟨g, rfl, (Array.getElem?_eq_some_iff.1 hg).1, hc 0 (by omega), hc 1 (by omega), hc 2 (by omega), hc 3 (by omega), hc 4 (by omega), hc 5 (by omega), hc 6 (by omega), hc 7 (by omega), hc 8 (by omega), hc 9 (by omega)⟩
end Go.Proofs.YtbipcflmmfipbaaDoor
