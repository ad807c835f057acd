/- Texts of the proofs, merged. -/
import Derived.Test.YtopcklpmeaghmaaGreatDoorG23
import Derived.Test.YtopcklpmeaghmaaGreatDoorG25
import Derived.Test.YtopcklpmeaghmaaGreatDoorG5
import Derived.Test.YtopcklpmeaghmaaGreatDoorG9
import Derived.Deep.CutBlock
/- Take of data: every part, by its kind. -/
namespace Go.Proofs.YtopcklpmeaghmaaGreatDoor
open Go.RowKit

theorem hasD_zero (d : Dv) (l : List Nat) : hasD d (l ++ [0]) = hasD d l := by
  unfold hasD; rw [hasRaw_snoc, hasHost_snoc, hasMail_snoc, Rd.nums_snoc]; simp
theorem hasD_raw (d : Dv) (l : List Nat) {p : Nat} (h1 : 1 ≤ p) (h4 : p ≤ 4) : { hasD d l with raw := d.raw } = hasD d (l ++ [p]) := by
  unfold hasD; rw [hasRaw_snoc, hasHost_snoc, hasMail_snoc, Rd.nums_snoc]
  rcases (by omega : p = 1 ∨ p = 2 ∨ p = 3 ∨ p = 4) with rfl | rfl | rfl | rfl <;> simp
theorem hasD_host (d : Dv) (l : List Nat) {p : Nat} (h : p = 5 ∨ p = 6) : { hasD d l with host := d.host } = hasD d (l ++ [p]) := by
  unfold hasD; rw [hasRaw_snoc, hasHost_snoc, hasMail_snoc, Rd.nums_snoc]
  rcases h with rfl | rfl <;> simp
theorem hasD_mail (d : Dv) (l : List Nat) : { hasD d l with mail := d.mail } = hasD d (l ++ [7]) := by
  unfold hasD; rw [hasRaw_snoc, hasHost_snoc, hasMail_snoc, Rd.nums_snoc]
  simp
theorem rC_num (A : Option Addr) (m c i e : Nat) (d : Dv) (l : List Nat) {p : Nat} (h : p = 8 ∨ p = 9) (hn : Rd.nums l < 5) (j : Nat) :
    ((((rC A m c i e (hasD d l) (Rd.nums l)).setIfInBounds (6 + Rd.nums l) (.int .u32 (d.n (Rd.nums l) : Nat))).setIfInBounds 11 (.int .i64 (Rd.nums l + 1 : Nat))).setIfInBounds 1 (.int .i64 j)) = rC A m c j e (hasD d (l ++ [p])) (Rd.nums (l ++ [p])) := by
  unfold hasD; rw [hasRaw_snoc, hasHost_snoc, hasMail_snoc, Rd.nums_snoc, if_pos h]
  generalize Rd.nums l = n at *
  have e : (p == 1 || p == 2 || p == 3 || p == 4) = false ∧ (p == 5 || p == 6) = false ∧ (p == 7) = false := by rcases h with rfl | rfl <;> decide
  rw [e.1, e.2.1, e.2.2, Bool.or_false, Bool.or_false, Bool.or_false]
  rcases (by omega : n = 0 ∨ n = 1 ∨ n = 2 ∨ n = 3 ∨ n = 4) with rfl | rfl | rfl | rfl | rfl <;> simp [rC, Dv.n]
theorem rdb_take {L : List UInt8} {i j : Nat} {ls : List (List UInt8)} {s : ByteArray} (h : Pr.Rdb L i ls i j) (hs : Nm.split s.data.toList = some ls) (hi : i ≤ L.length) : prTakeV L i = .tuple #[.string s, .int .i64 j, .int .i64 0] := by
  obtain ⟨e1, e2, e3⟩ := Nm.split_some.1 hs
  unfold prTakeV
  have h2 := h [] i 1 (Nat.le_refl _) (by rw [e1, Pr.tot_glue] at e3; omega)
  rw [List.append_nil] at h2
  rw [if_neg (by omega), show ((i : Int)).toNat = i from rfl, h2]
  show Value.tuple #[sv (Nm.glue ls), .int .i64 j, .int .i64 0] = _
  rw [string_eq e1]
theorem quiet_same {P : Program} {f : FuncId} {args : Array Value} {w : World} {n : Nat} {v : Value} (h : Calls P f args (w.drewN n) fun e w' => e = .returned v ∧ w.drewN n = w') :
    Calls P f args (w.drewN n) fun e w'' => e = .returned v ∧ ∃ m, w'' = w.drewN m := h.mono fun _ _ ⟨he, hw⟩ => ⟨he, n, hw.symm⟩
theorem below_qn (B : Nat) (W : World) (n : Nat) : Below B W (W.drewN n) := below_q B rfl
/-- what the names of data are. -/
def Nms (d : Dv) (hl ml : List (List UInt8)) (p : Nat) : Prop := (p = 5 ∨ p = 6 → Nm.split d.host.data.toList = some hl) ∧ (p = 7 → Nm.split d.mail.data.toList = some ml)
section
variable {g B i j e c p : Nat} {A : Option Addr} {L : List UInt8} {d : Dv} {hl ml : List (List UInt8)} {ps : List Nat} {W : World}
set_option maxHeartbeats 1000000 in
set_option maxRecDepth 100000 in
theorem part_any (h : Has W g 123 (rC A L.length c i e (hasD d ps) (Rd.nums ps))) (hB : B ≤ g) (hA : Ad A L c) (hc : L.length ≤ c) (hm : c ≤ 9223372036854775807) (hl1 : L.length ≤ 211106232532992) (he1 : e ≤ 140737488355328) (hb : Bs W 0 B A L)
    (hp9 : p ≤ 9) (hone : Rd.One L d.dt hl ml (Rd.nums ps) p i j) (hje : j ≤ e) (heL : e ≤ L.length) (hraw : 1 ≤ p → p ≤ 4 → j = e ∧ d.raw.size ≤ 65535) (hnm : Nms d hl ml p) (hn5 : p = 8 ∨ p = 9 → Rd.nums ps < 5) (hfit : d.fits) :
    Calls Tryz.prog 74 #[.pointer (some ⟨g, 0, none⟩), .int .u8 p] W fun en W' => en = .returned (.int .i64 0) ∧ Has W' g 123 (rC A L.length c j e (hasD d (ps ++ [p])) (Rd.nums (ps ++ [p]))) ∧ Below B W W' := by
  have HH := Lib.hid h
  have HNM := Lib.hid hnm
  obtain ⟨o1, o2, o3, o4, o5, o6, o7, o8⟩ := hone
  have hij : i ≤ L.length := by omega
  by_cases p0 : p = 0
  · subst p0
    obtain rfl := o3 rfl
    have hnum : Rd.nums (ps ++ [0]) = Rd.nums ps := by rw [Rd.nums_snoc]; rfl
    rw [hasD_zero, hnum]
    clear h hb o4 o5 o6 o7 o8 hnm hraw
    go_enter Tryz.func74, Tryz.ntmps74
    go_wp2
    go_ret
    exact ⟨rfl, HH.out, Below.refl _ _⟩
  by_cases p4 : p ≤ 4
  · obtain ⟨q1, q2⟩ := o4 (by omega) p4
    obtain ⟨rfl, q3⟩ := hraw (by omega) p4
    have hrl : d.dt.raw.length = d.raw.size := by simp [Dv.dt]
    have hnum : Rd.nums (ps ++ [p]) = Rd.nums ps := by rw [Rd.nums_snoc, if_neg (by omega)]; rfl
    have HR := Lib.hid (rd_raw h hB hA o1 heL (by omega) hc hm hb d.raw (by rw [show j - i = d.dt.raw.length by omega]; exact q2))
    rw [hasD_raw d ps (by omega) p4] at HR
    rw [hnum]
    clear h hb o4 o5 o6 o7 o8 hnm hraw q2 hnum
    rcases (by omega : p = 1 ∨ p = 2 ∨ p = 3 ∨ p = 4) with rfl | rfl | rfl | rfl
    all_goals
      (go_enter Tryz.func74, Tryz.ntmps74
       go_wp2_with (go_at_call 96; refine HR.out.mono ?_; rintro e' w5 ⟨rfl, H5, B5⟩; have HH5 := Lib.hid H5; have HB5 := Lib.hid B5; clear H5 B5)
       go_ret
       exact ⟨rfl, HH5.out, HB5.out⟩)
  by_cases p7 : p ≤ 7
  · have hnum : Rd.nums (ps ++ [p]) = Rd.nums ps := by rw [Rd.nums_snoc, if_neg (by omega)]; rfl
    rw [hnum]
    rcases (by omega : (p = 5 ∨ p = 6) ∨ p = 7) with p56 | rfl
    · have HR := Lib.hid (rd_name h hB hc hl1 hb (k := 4) (.inl rfl) hje (rdb_take (o5 p56) (HNM.out.1 p56) hij))
      rw [show ((rC A L.length c i e (hasD d ps) (Rd.nums ps)).setIfInBounds 4 (.string d.host)).setIfInBounds 1 (.int .i64 j) = rC A L.length c j e { hasD d ps with host := d.host } (Rd.nums ps) from rfl, hasD_host d ps p56] at HR
      clear h hb o4 o5 o6 o7 o8 hnm hraw hnum
      rcases p56 with rfl | rfl
      all_goals
        (go_enter Tryz.func74, Tryz.ntmps74
         go_wp2_with (go_at_call 97; refine HR.out.mono ?_; rintro e' w5 ⟨rfl, H5, B5⟩; have HH5 := Lib.hid H5; have HB5 := Lib.hid B5; clear H5 B5)
         go_ret
         exact ⟨rfl, HH5.out, HB5.out⟩)
    · have HR := Lib.hid (rd_name h hB hc hl1 hb (k := 5) (.inr rfl) hje (rdb_take (o6 rfl) (HNM.out.2 rfl) hij))
      rw [show ((rC A L.length c i e (hasD d ps) (Rd.nums ps)).setIfInBounds 5 (.string d.mail)).setIfInBounds 1 (.int .i64 j) = rC A L.length c j e { hasD d ps with mail := d.mail } (Rd.nums ps) from rfl, hasD_mail d ps] at HR
      clear h hb o4 o5 o6 o7 o8 hnm hraw hnum
      go_enter Tryz.func74, Tryz.ntmps74
      go_wp2_with (go_at_call 97; refine HR.out.mono ?_; rintro e' w5 ⟨rfl, H5, B5⟩; have HH5 := Lib.hid H5; have HB5 := Lib.hid B5; clear H5 B5)
      go_ret
      exact ⟨rfl, HH5.out, HB5.out⟩
  have hn := hn5 (by omega)
  have c0 : W.cell? ⟨g, 0, none⟩ = some (.slice A L.length c) := by rw [h.cell]; rfl
  have c1 : W.cell? ⟨g, 1, none⟩ = some (.int .i64 i) := by rw [h.cell]; rfl
  have c2 : W.cell? ⟨g, 2, none⟩ = some (.int .i64 e) := by rw [h.cell]; rfl
  have hec : e ≤ c := by omega
  have hle : (L.take e).length = e := by rw [List.length_take]; omega
  obtain ⟨g0, o0, rfl⟩ : ∃ g0 o0, A = some ⟨g0, o0, none⟩ := by
    rcases hA with ⟨_, h0, _⟩ | h0
    · rcases (by omega : p = 8 ∨ p = 9) with rfl | rfl
      · have := (o7 rfl).1; subst h0; simp at heL; omega
      · have := (o8 rfl).1; subst h0; simp at heL; omega
    · exact h0
  have hN : Rd.hasN d.dt (Rd.nums ps) = d.n (Rd.nums ps) := rd_hasN d hn
  have hxn : d.n (Rd.nums ps) ≤ 4294967295 := hfit _
  have hwn : IntKind.u32.wrap ((d.n (Rd.nums ps) : Nat) : Int) = ((d.n (Rd.nums ps) : Nat) : Int) := by rw [IntKind.wrap_u32]; omega
  rcases (by omega : p = 8 ∨ p = 9) with rfl | rfl
  · obtain ⟨q1, q2⟩ := o7 rfl
    have hT : ∀ k : Nat, Calls Tryz.prog 26 #[.slice (some ⟨g0, o0, none⟩) e c, .int .i64 i] (W.drewN k) fun e' w' => e' = .returned (.tuple #[.int .u16 (d.n (Rd.nums ps) : Nat), .int .i64 j, .int .i64 0]) ∧ W.drewN k = w' := fun k => by
      have := take_u16_ok (some ⟨g0, o0, none⟩) (L.take e) c i (W.drewN k) (by omega) (by omega) 0 B ((hb.take e).drewN k) (by omega)
      rw [hle, List.drop_take, List.take_take, Nat.min_eq_left (by omega), q2, hN] at this
      rw [q1]
      exact this
    have HT := Lib.hid hT
    have hR : ∀ k : Nat, Calls Tryz.prog 98 #[.pointer (some ⟨g, 0, none⟩), .int .u32 (d.n (Rd.nums ps) : Nat), .int .i64 j, .int .i64 0] (W.drewN k) fun en W' => en = .returned (.int .i64 0) ∧ Has W' g 123 (rC (some ⟨g0, o0, none⟩) L.length c j e (hasD d (ps ++ [8])) (Rd.nums (ps ++ [8]))) ∧ Below B W W' := fun k => by
      have := rd_num (W := W.drewN k) (show Has (W.drewN k) g 123 _ from h) hB (d.n (Rd.nums ps)) j hn
      rw [rC_num _ _ _ _ _ _ _ (p := 8) (.inl rfl) hn] at this
      exact this.mono fun _ _ ⟨h1, h2, h3⟩ => ⟨h1, h2, (below_qn B W k).trans h3⟩
    have HR := Lib.hid hR
    clear h hb o4 o5 o6 o7 o8 hnm hraw hT q1 q2 hN hR
    go_enter Tryz.func74, Tryz.ntmps74
    go_wp2
    go_quiet ((go_at_call 26; exact quiet_same (HT.out _)))
    go_wp2_with (go_at_call 98; (with_reducible refine (HR.out _).mono ?_); rintro e' w5 ⟨rfl, H5, B5⟩; have HH5 := Lib.hid H5; have HB5 := Lib.hid B5; clear H5 B5)
    go_ret
    exact ⟨rfl, HH5.out, HB5.out⟩
  · obtain ⟨q1, q2⟩ := o8 rfl
    have hT : ∀ k : Nat, Calls Tryz.prog 99 #[.slice (some ⟨g0, o0, none⟩) e c, .int .i64 i] (W.drewN k) fun e' w' => e' = .returned (.tuple #[.int .u32 (d.n (Rd.nums ps) : Nat), .int .i64 j, .int .i64 0]) ∧ W.drewN k = w' := fun k => by
      have := take_u32_ok (some ⟨g0, o0, none⟩) (L.take e) c i (W.drewN k) (by omega) (by omega) 0 B ((hb.take e).drewN k) (by omega)
      rw [hle, List.drop_take, List.take_take, Nat.min_eq_left (by omega), q2, hN] at this
      rw [q1]
      exact this
    have HT := Lib.hid hT
    have hR : ∀ k : Nat, Calls Tryz.prog 98 #[.pointer (some ⟨g, 0, none⟩), .int .u32 (d.n (Rd.nums ps) : Nat), .int .i64 j, .int .i64 0] (W.drewN k) fun en W' => en = .returned (.int .i64 0) ∧ Has W' g 123 (rC (some ⟨g0, o0, none⟩) L.length c j e (hasD d (ps ++ [9])) (Rd.nums (ps ++ [9]))) ∧ Below B W W' := fun k => by
      have := rd_num (W := W.drewN k) (show Has (W.drewN k) g 123 _ from h) hB (d.n (Rd.nums ps)) j hn
      rw [rC_num _ _ _ _ _ _ _ (p := 9) (.inr rfl) hn] at this
      exact this.mono fun _ _ ⟨h1, h2, h3⟩ => ⟨h1, h2, (below_qn B W k).trans h3⟩
    have HR := Lib.hid hR
    clear h hb o4 o5 o6 o7 o8 hnm hraw hT q1 q2 hN hR
    go_enter Tryz.func74, Tryz.ntmps74
    go_wp2
    go_quiet ((go_at_call 99; exact quiet_same (HT.out _)))
    go_wp2_with (go_at_call 98; (with_reducible refine (HR.out _).mono ?_); rintro e' w5 ⟨rfl, H5, B5⟩; have HH5 := Lib.hid H5; have HB5 := Lib.hid B5; clear H5 B5)
    go_ret
    exact ⟨rfl, HH5.out, HB5.out⟩
end
end Go.Proofs.YtopcklpmeaghmaaGreatDoor
/- The document's answer on data: Fold. -/
namespace Go.Proofs.YtopcklpmeaghmaaGreatDoor
open Go.RowKit

/-- data with names in small letters. -/
def Dv.fold (t : Nat) (d : Dv) : Dv :=
  { d with host := if Rd.isHost t then ⟨(Nm.fold d.host.data.toList).toArray⟩ else d.host, mail := if Rd.isMail t then ⟨(Nm.fold d.mail.data.toList).toArray⟩ else d.mail }
theorem eight {W : World} {g : Nat} {t : TypeId} {a b c d e f g2 h : Value} (k : Has W g t #[a, b, c, d, e, f, g2, h]) :
    W.cell? ⟨g, 0, none⟩ = some a ∧ W.cell? ⟨g, 1, none⟩ = some b ∧ W.cell? ⟨g, 2, none⟩ = some c ∧ W.cell? ⟨g, 3, none⟩ = some d ∧ W.cell? ⟨g, 4, none⟩ = some e ∧ W.cell? ⟨g, 5, none⟩ = some f ∧ W.cell? ⟨g, 6, none⟩ = some g2 ∧ W.cell? ⟨g, 7, none⟩ = some h ∧ (∀ j, W.frozen? ⟨g, j, none⟩ = false) := by
  refine ⟨?_, ?_, ?_, ?_, ?_, ?_, ?_, ?_, fun j => k.free j⟩ <;> (rw [k.cell]; rfl)
theorem eight_set {W : World} {g : Nat} {t : TypeId} {a b c d e f g2 h a' b' c' d' e' f' g' h' : Value} (k : Has W g t #[a', b', c', d', e', f', g', h']) :
    Has ((((((((W.setCell ⟨g, 0, none⟩ a).setCell ⟨g, 1, none⟩ b).setCell ⟨g, 2, none⟩ c).setCell ⟨g, 3, none⟩ d).setCell ⟨g, 4, none⟩ e).setCell ⟨g, 5, none⟩ f).setCell ⟨g, 6, none⟩ g2).setCell ⟨g, 7, none⟩ h) g t #[a, b, c, d, e, f, g2, h] := by
  have k8 := (((((((k.set 0 a).set 1 b).set 2 c).set 3 d).set 4 e).set 5 f).set 6 g2).set 7 h
  simp only [List.setIfInBounds_toArray, List.set_cons_zero, List.set_cons_succ] at k8
  exact k8
theorem eight_below {w W : World} {g B : Nat} {a b c d e f g2 h : Value} (k : Below B w W) (hg : B ≤ g) :
    Below B w ((((((((W.setCell ⟨g, 0, none⟩ a).setCell ⟨g, 1, none⟩ b).setCell ⟨g, 2, none⟩ c).setCell ⟨g, 3, none⟩ d).setCell ⟨g, 4, none⟩ e).setCell ⟨g, 5, none⟩ f).setCell ⟨g, 6, none⟩ g2).setCell ⟨g, 7, none⟩ h) :=
  (((((((k.setCell (p := ⟨g, 0, none⟩) hg a).setCell (p := ⟨g, 1, none⟩) hg b).setCell (p := ⟨g, 2, none⟩) hg c).setCell (p := ⟨g, 3, none⟩) hg d).setCell (p := ⟨g, 4, none⟩) hg e).setCell (p := ⟨g, 5, none⟩) hg f).setCell (p := ⟨g, 6, none⟩) hg g2).setCell (p := ⟨g, 7, none⟩) hg h
end Go.Proofs.YtopcklpmeaghmaaGreatDoor
/- Fold: the program's. -/
namespace Go.Proofs.YtopcklpmeaghmaaGreatDoor
open Go.RowKit

/-- one part more in small letters. -/
def fold1 (d : Dv) (p : Nat) : Dv :=
  if p = 5 ∨ p = 6 then { d with host := ⟨(Nm.fold d.host.data.toList).toArray⟩ } else if p = 7 then { d with mail := ⟨(Nm.fold d.mail.data.toList).toArray⟩ } else d
theorem fold1_size (d : Dv) (p : Nat) : (fold1 d p).host.size = d.host.size ∧ (fold1 d p).mail.size = d.mail.size := by
  have h : ∀ s : ByteArray, (⟨(Nm.fold s.data.toList).toArray⟩ : ByteArray).size = s.size := fun s => by
    show ((Nm.fold s.data.toList).toArray).size = s.size
    simp [Nm.fold]
  unfold fold1
  split
  · exact ⟨h _, rfl⟩
  split
  · exact ⟨rfl, h _⟩
  · exact ⟨rfl, rfl⟩
theorem dv_one (D : Dv) : (D.cells.all fun x => x.oneCell') = true := by simp [Dv.cells, Value.oneCell']
theorem foldAll (t : Nat) (d : Dv) : (Rd.parts t).foldl fold1 d = d.fold t := by
  refine Rd.by_type (P := fun t => (Rd.parts t).foldl fold1 d = d.fold t) rfl rfl rfl rfl rfl rfl rfl rfl rfl (fun t a b c e f g h i j => ?_) t
  rw [Rd.parts_other a b c e f g h i j]
  have h1 : Rd.isHost t = false := by simp [Rd.isHost, *]
  have h2 : Rd.isMail t = false := by simp [Rd.isMail, *]
  unfold Dv.fold
  rw [h1, h2]
  rfl
end Go.Proofs.YtopcklpmeaghmaaGreatDoor
/- Take of data: data whose parts stand at their places are read. -/
namespace Go.Proofs.YtopcklpmeaghmaaGreatDoor
open Go.RowKit

theorem rC_data (A : Option Addr) (m c i e : Nat) (d : Dv) (n : Nat) {W : World} {g : Nat} {t : TypeId} (h : Has W g t (rC A m c i e d n)) :
    W.cell? ⟨g, 1, none⟩ = some (.int .i64 i) ∧ W.cell? ⟨g, 2, none⟩ = some (.int .i64 e) ∧ W.cell? ⟨g, 3, none⟩ = some (.string d.raw) ∧ W.cell? ⟨g, 4, none⟩ = some (.string d.host) ∧ W.cell? ⟨g, 5, none⟩ = some (.string d.mail) ∧
      W.cell? ⟨g, 6, none⟩ = some (.int .u32 d.n0) ∧ W.cell? ⟨g, 7, none⟩ = some (.int .u32 d.n1) ∧ W.cell? ⟨g, 8, none⟩ = some (.int .u32 d.n2) ∧ W.cell? ⟨g, 9, none⟩ = some (.int .u32 d.n3) ∧ W.cell? ⟨g, 10, none⟩ = some (.int .u32 d.n4) := by
  refine ⟨?_, ?_, ?_, ?_, ?_, ?_, ?_, ?_, ?_, ?_⟩ <;> (rw [h.cell]; rfl)
theorem hasD_all {t : Nat} {d : Dv} (hok : Rd.ok t d.dt = true) : hasD d (Rd.parts t) = d := by
  have h := bare_eq d (Rd.parts t)
  rw [Rd.ok_parts, Bool.and_eq_true] at hok
  rw [hok.2] at h
  exact (dvB_iff _ _).1 h
set_option maxHeartbeats 2000000 in
set_option maxRecDepth 100000 in
theorem pdTake_any (t : Nat) (d : Dv) (hl ml : List (List UInt8)) (A : Option Addr) (L : List UInt8) (c i0 n : Nat) (q : Nat → Nat) (w : World) (ht : t ≤ 65535) (hL : LayR w) (hA : Ad A L c) (hc : L.length ≤ c) (hm : c ≤ 9223372036854775807) (hl1 : L.length ≤ 140737488355328) (hb : Bs w 0 w.heap.size A L)
    (h0 : q 0 = i0) (h7 : q 7 = i0 + n) (hall : Rd.All L d.dt hl ml (Rd.parts t) q) (hok : Rd.ok t d.dt = true) (hf : d.fits) (hr0 : d.raw.size ≤ 65535) (hh0 : d.host.size ≤ 140737488355328) (hm0 : d.mail.size ≤ 140737488355328)
    (hnm : ∀ k (hk : k < (Rd.parts t).length), Nms d hl ml (Rd.parts t)[k]) :
    Calls Tryz.prog 45 #[.slice A L.length c, .int .i64 i0, .int .i64 n, .int .u16 t] w fun e w' => e = .returned (.tuple #[d.val, .int .i64 0]) ∧ Below w.heap.size w w' := by
  have htop : q 7 ≤ L.length := hall.top (Nat.le_refl _)
  have hi0 : i0 + n ≤ L.length := by omega
  have hw1 : IntKind.i64.wrap ((i0 : Int) + (n : Int)) = (i0 : Int) + (n : Int) := by rw [IntKind.wrap_i64]; omega
  have hw2 : IntKind.i64.wrap ((L.length : Int) - (i0 : Int)) = (L.length : Int) - (i0 : Int) := by rw [IntKind.wrap_i64]; omega
  have d1 : decide ((L.length : Int) < (i0 : Int)) = false := by simp; omega
  have d2 : decide ((L.length : Int) - (i0 : Int) < (n : Int)) = false := by simp; omega
  have e1 : decide ((i0 : Int) < 0) = false := by simp
  have e2 : decide ((n : Int) < 0) = false := by simp
  have e3 : decide (L.length < i0) = false := by simp; omega
  have HL := Lib.hid hL
  have HB0 := Lib.hid hb
  have HALL := Lib.hid hall
  have HNM := Lib.hid hnm
  have HOK := Lib.hid hok
  have HF := Lib.hid hf
  have H7 := Lib.hid h7
  have H0 := Lib.hid h0
  have HPO : ∀ W : World, LayR W → Hid (Calls Tryz.prog 9 #[.int .u16 t] W fun e w' => e = .returned (.agg (partC t)) ∧ Below W.heap.size W w') := fun W h => partsOf_any t W ht h
  have hval : d.val = .agg d.cells := rfl
  clear hL hb hall hnm hok hf h7 h0 htop
  go_enter Tryz.func45, Tryz.ntmps45
  go_wp2_with (go_at_call 9; refine (HPO _ (HL.out.below (((Below.refl _ _).alloc (Nat.le_refl _) _).alloc (by simp) _) (Nat.le_refl _))).out.mono ?_; rintro e w1 ⟨rfl, B1⟩)
  have HB : Hid (Below w.heap.size w w1) := ((((Below.refl _ _).alloc (Nat.le_refl _) _).alloc (by simp) _).trans (B1.mono (by simp; omega)))
  have HZ : Hid (Has w1 w.heap.size 27 (hasD d []).cells) := ((Has.fresh w 27 (hasD d []).cells).alloc _).below B1 (by simp; omega)
  have HG : Hid (Has w1 (w.heap.size + 1) 123 (rC A L.length c i0 (i0 + n) (hasD d []) 0)) := by
    have h : Has ((w.alloc (.cells (hasD d []).cells 27)).alloc (.cells (rC A L.length c i0 (i0 + n) (hasD d []) 0) 123)) (w.alloc (.cells (hasD d []).cells 27)).heap.size 123 (rC A L.length c i0 (i0 + n) (hasD d []) 0) := Has.fresh _ _ _
    have h2 := h.below B1 (by simp)
    have e : (w.alloc (.cells (hasD d []).cells 27)).heap.size = w.heap.size + 1 := by simp
    rw [e] at h2
    exact h2
  have hz1 : w.heap.size + 1 < w1.heap.size := by have := B1.size; simp at this; omega
  clear B1
  obtain ⟨E, hE⟩ : ∃ E, i0 + n = E := ⟨_, rfl⟩
  rw [hE] at HG H7
  have HE := Lib.hid hE
  have hEL : E ≤ L.length := by omega
  clear hE e1 e2 e3 d1 d2 hw1 hw2 hi0
  go_loopw [43] (fun i wr => ∃ k : Nat, i = .int .i64 k ∧ k ≤ 7 ∧ Hid (Has wr (w.heap.size + 1) 123 (rC A L.length c (q k) E (hasD d ((Rd.parts t).take k)) (Rd.nums ((Rd.parts t).take k)))) ∧ Hid (Has wr w.heap.size 27 (hasD d []).cells) ∧ Hid (Below w.heap.size w wr)) (fun i _ => 7 - (intOf i).toNat)
  case atStart => exact ⟨0, rfl, by omega, by rw [H0.out]; exact HG, HZ, HB⟩
  case round =>
    obtain ⟨k, rfl, hk, HG1, HZ1, HB1⟩ := hrel
    have hbs := HB1.out.size
    have hg2 := HG1.out.lt
    by_cases hlt : k < 7
    · have hkl : k < (Rd.parts t).length := by rw [Rd.parts_len]; exact hlt
      have hix := part_at hkl
      have hp9 : (Rd.parts t)[k] ≤ 9 := Rd.parts_lt t _ (List.getElem_mem hkl)
      have htk : (Rd.parts t).take (k + 1) = (Rd.parts t).take k ++ [(Rd.parts t)[k]] := List.take_succ_eq_append_getElem hkl
      have hn5 : Rd.nums ((Rd.parts t).take (k + 1)) ≤ 5 := Rd.nums_le
      have hone := HALL.out k hkl
      have hra : 1 ≤ (Rd.parts t)[k] → (Rd.parts t)[k] ≤ 4 → q (k + 1) = q 7 := HALL.out.raw_end hkl
      have hje : q (k + 1) ≤ q 7 := HALL.out.up (k + 1) 7 (by omega) (Nat.le_refl _)
      have hnk := HNM.out k hkl
      rw [H7.out] at hra hje
      rw [htk, Rd.nums_snoc] at hn5
      have HTK := Lib.hid htk
      clear htk
      generalize (Rd.parts t)[k] = p at *
      generalize (Rd.parts t).take k = ps at *
      have HP := Lib.hid (part_any (B := w.heap.size + 1) HG1.out (Nat.le_refl _) hA hc hm (by omega) (by omega) ((HB0.out.keep HB1.out).more (Nat.le_refl _) (by omega)) hp9 hone hje hEL (fun h1 h4 => ⟨hra h1 h4, hr0⟩) hnk (fun h => by rw [if_pos h] at hn5; omega) HF.out)
      have hd7 : decide ((k : Int) < 7) = true := by simp; omega
      obtain ⟨z, hz⟩ : ∃ z : Int, ((p : Nat) : Int) = z := ⟨_, rfl⟩
      rw [hz] at hix HP
      clear hz hone hra hnk hn5
      go_wp2_with (go_at_call 74; (with_reducible refine HP.out.mono ?_); rintro e' w5 ⟨rfl, H5, B5⟩; have HG5 := Lib.hid H5; have HZ5 := Lib.hid (HZ1.out.below B5 (by omega)); have HB5 := Lib.hid (HB1.out.trans (B5.mono (by omega))); clear H5 B5)
      go_roundw
      case rel => exact ⟨k + 1, by go_num, by omega, by rw [HTK.out]; exact HG5, HZ5, HB5⟩
      case measure => simp [intOf]; omega
    · obtain rfl : k = 7 := by omega
      have hall' : (Rd.parts t).take 7 = Rd.parts t := List.take_of_length_le (by rw [Rd.parts_len]; omega)
      have hnn : q 7 = E := H7.out
      rw [hall', hasD_all HOK.out, hnn] at HG1
      obtain ⟨x1, x2, x3, x4, x5, x6, x7, x8, x9, x10⟩ := rC_data _ _ _ _ _ _ _ HG1.out
      have hi8 : (Tryz.prog.info? 27).map (·.size) = some 8 := by kernel_rfl
      have HI := Lib.hid hi8
      have HCK := Lib.hid (pdCheck_any t d wr ht (HL.out.below HB1.out (Nat.le_refl _)) HF.out (by omega) hh0 hm0)
      rw [HOK.out, hval] at HCK
      have HCK2 : Hid (Calls Tryz.prog 8 #[.int .u16 t, .agg #[.string d.raw, .string d.host, .string d.mail, .int .u32 d.n0, .int .u32 d.n1, .int .u32 d.n2, .int .u32 d.n3, .int .u32 d.n4]] wr fun e w' => e = .returned (.int .i64 0) ∧ Below wr.heap.size wr w') := HCK.out
      clear hi8 hall' hnn HCK
      go_wp2_with (first
        | (go_at_call 8; (with_reducible refine HCK2.out.mono ?_); rintro e' w5 ⟨rfl, B5⟩; have HB5 := Lib.hid (HB1.out.trans (B5.mono (by omega))); have HZ5 := Lib.hid (HZ1.out.below B5 (by omega)); obtain ⟨y1, y2, y3, y4, y5, y6, y7, y8, y9, y10⟩ := rC_data _ _ _ _ _ _ _ (HG1.out.below B5 hg2); clear B5)
        | (refine wpList_store_row rfl 27 (.tmp 8) (.tmp 67) rfl w.heap.size d.cells rfl rfl 27 _ HZ5.out HI.out rfl (dv_one d) ?_))
      refine bodyPost_ret (results_row_tmp rfl _ _ w.heap.size 27 d.cells _ rfl (HZ5.out.row _) Tryz.underlying27 rfl HI.out) rfl ?_
      exact ⟨rfl, below_setRow HB5.out (Nat.le_refl _) _⟩
end Go.Proofs.YtopcklpmeaghmaaGreatDoor
