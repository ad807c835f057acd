/- Texts of the proofs, merged. -/
import Derived.Test.YtopcklpmeaghmaaGreatDoorG35
import Derived.Test.YtopcklpmeaghmaaGreatDoorG9
import Derived.Test.YtopcklpmeaghmaaGreatDoorG16
import Derived.Deep.CutBlock
import Derived.Test.YtopcklpmeaghmaaGreatDoorG21
import Derived.Test.YtopcklpmeaghmaaGreatDoorG1
import Derived.MapKept
import Derived.Laws.StructEq
import Derived.Test.YtopcklpmeaghmaaGreatDoorG5
import Derived.Test.YtopcklpmeaghmaaGreatDoorG12
import Derived.Laws.AppendOwnNone
import Derived.Lib.AppendStr
import Derived.Test.YtopcklpmeaghmaaGreatDoorG32
import Derived.Test.YtopcklpmeaghmaaGreatDoorG22
import Derived.Test.YtopcklpmeaghmaaGreatDoorG25
import Derived.Test.YtopcklpmeaghmaaGreatDoorG13
/- Put: the program's, any type: the walk. -/
namespace Go.Proofs.YtopcklpmeaghmaaGreatDoor
open Go.RowKit

theorem rd_hasN2 (d : Dv) {n : Nat} (h : n < 5) : Rd.hasN d.dt n = d.n n := by
  rcases (by omega : n = 0 ∨ n = 1 ∨ n = 2 ∨ n = 3 ∨ n = 4) with rfl | rfl | rfl | rfl | rfl <;> rfl
theorem rds_tight2 {W : World} {b g cp m : Nat} {l : List UInt8} (h : W.ownsRow b 5 1 (.slice (some ⟨g, 0, none⟩) m cp) m (bv l)) (hm : m = l.length) : RowO W b (.slice (some ⟨g, 0, none⟩) m m) l := by
  subst hm
  exact .inr ⟨_, _, rfl, h⟩
theorem concat_raw {wr w3 : World} {A' : Option Addr} {c' c3 n3 : Nat} {l2 r : List UInt8} (h : Bs wr 0 wr.heap.size A' l2) (n0 : A' = none → c' = 0) (b3 : Bs w3 wr.heap.size (wr.heap.size + 1) (some ⟨wr.heap.size, 0, none⟩) r) (hr : n3 = r.length)
    (B3 : Below wr.heap.size wr w3) (z3 : w3.heap.size = wr.heap.size + 1) (hm : (l2 ++ r).length ≤ 140737488355328) (et : TypeId) :
    Calls Tryz.prog 34 #[.slice (some ⟨w3.heap.size, 0, none⟩) 2 2] (w3.alloc (.cells #[.slice A' l2.length c', .slice (some ⟨wr.heap.size, 0, none⟩) n3 c3] et)) fun e w' => ∃ v, e = .returned v ∧ RowO w' wr.heap.size v (l2 ++ r) ∧ Below wr.heap.size wr w' := by
  have hX := Has.fresh w3 et #[.slice A' l2.length c', .slice (some ⟨wr.heap.size, 0, none⟩) n3 c3]
  have hB : Below wr.heap.size wr (w3.alloc (.cells #[.slice A' l2.length c', .slice (some ⟨wr.heap.size, 0, none⟩) n3 c3] et)) := B3.alloc B3.size _
  have hs : (w3.alloc (.cells #[.slice A' l2.length c', .slice (some ⟨wr.heap.size, 0, none⟩) n3 c3] et)).heap.size = w3.heap.size + 1 := by simp
  refine (concat2 w3.heap.size A' (some ⟨wr.heap.size, 0, none⟩) c' c3 l2.length n3 l2 r _ (by rw [hs]; omega) (by rw [hX.cell]; rfl) (by rw [hX.cell]; rfl) rfl hr ((h.keep hB).more (Nat.le_refl _) (by rw [hs]; omega)) ((b3.alloc (by omega) _).more (Nat.zero_le _) (by rw [hs]; omega)) n0 (fun e => by cases e) hm).mono fun e w' ⟨v, he, ho, hb⟩ => ⟨v, he, .inl (own_mono ho (by rw [hs]; omega)), hB.trans (hb.mono (by rw [hs]; omega))⟩
set_option maxHeartbeats 4000000 in
set_option maxRecDepth 100000 in
theorem pdPut_loop (t : Nat) (d : Dv) (g base : Nat) (mp : Option Nat) (T : Tab) (A : Option Addr) (l : List UInt8) (c : Nat) (hl ml : List (List UInt8)) (w : World) (ht : t ≤ 65535) (hL : LayR w) (hT : Tb w g base mp T) (hb : base ≤ w.heap.size)
    (hr0 : RdS w (.slice A l.length c) l) (hll : l.length ≤ 140737487000000) (hTl : T.length ≤ 140737480000000)
    (hf : d.fits) (hck : ∀ W : World, LayR W → Calls Tryz.prog 8 #[.int .u16 t, .agg d.cells] W fun e w' => e = .returned (.int .i64 0) ∧ Below W.heap.size W w')
    (hraw : d.raw.size ≤ 65535) (hn16 : ∀ k (hk : k < (Rd.parts t).length), (Rd.parts t)[k] = 8 → d.n (Rd.nums ((Rd.parts t).take k)) ≤ 65535)
    (hh : ∀ k (hk : k < (Rd.parts t).length), ((Rd.parts t)[k] = 5 ∨ (Rd.parts t)[k] = 6) → Nm.split d.host.data.toList = some hl) (hm : ∀ k (hk : k < (Rd.parts t).length), (Rd.parts t)[k] = 7 → Nm.split d.mail.data.toList = some ml) :
    Calls Tryz.prog 17 #[.slice A l.length c, .pointer (some ⟨g, 0, none⟩), .int .u16 t, d.val] w fun e W' => ∃ v, e = .returned (.tuple #[v, .int .i64 0]) ∧ PuP w g base w.heap.size T l d hl ml (Rd.parts t) v W' := by
  have HL := Lib.hid hL
  have HT := Lib.hid hT
  have HR0 := Lib.hid hr0
  have HCK := Lib.hid hck
  have HF := Lib.hid hf
  have HN16 := Lib.hid hn16
  have HH := Lib.hid hh
  have HM := Lib.hid hm
  have hgw : g < w.heap.size := hT.2.1.lt
  have hX0 : Has (w.alloc (.cells d.cells 27)) w.heap.size 27 d.cells := Has.fresh w _ _
  have hB0 : Below w.heap.size w (w.alloc (.cells d.cells 27)) := (Below.refl _ _).alloc (Nat.le_refl _) _
  have HL0 := Lib.hid (hL.below hB0 (Nat.le_refl _))
  have hi8 : (Tryz.prog.info? 27).map (·.size) = some 8 := by kernel_rfl
  have HI := Lib.hid hi8
  have HX0 := Lib.hid hX0
  have HB0 := Lib.hid hB0
  have HPO : ∀ W : World, LayR W → Hid (Calls Tryz.prog 9 #[.int .u16 t] W fun e w' => e = .returned (.agg (partC t)) ∧ Below W.heap.size W w') := fun W h => partsOf_any t W ht h
  have hval : d.val = .agg d.cells := rfl
  clear hL hT hr0 hck hf hn16 hh hm hi8 hX0 hB0
  go_enter Tryz.func17, Tryz.ntmps17
  go_wp2_with (first
    | (refine wpList_load_row rfl 27 (.tmp 7) rfl w.heap.size rfl 27 d.cells (0, 0) _ HX0.out Tryz.underlying27 rfl HI.out ?_)
    | (go_at_call 8; refine (HCK.out _ HL0.out).mono ?_; rintro e w1 ⟨rfl, B1⟩; replace HX0 := Lib.hid (HX0.out.below B1 HX0.out.lt); replace HB0 := Lib.hid (HB0.out.trans (B1.mono HB0.out.size)); replace HL0 := Lib.hid (HL.out.below HB0.out (Nat.le_refl _)); clear B1)
    | (go_at_call 9; refine (HPO _ HL0.out).out.mono ?_; rintro e w2 ⟨rfl, B2⟩; replace HX0 := Lib.hid (HX0.out.below B2 HX0.out.lt); replace HB0 := Lib.hid (HB0.out.trans (B2.mono HB0.out.size)); clear B2 HL0))
  have hne : w.heap.size ≠ g := by omega
  have HR1 : Hid (RdS w2 (.slice A l.length c) l) := by
    obtain ⟨A', c', e, k1, k2, k3⟩ := HR0.out
    exact ⟨A', c', e, k1, k2, (k3.keep HB0.out).more (Nat.le_refl _) HB0.out.size⟩
  have HP0 : Hid (PuP w g base w.heap.size T l d hl ml [] (.slice A l.length c) w2) := ⟨mp, HR1.out, HT.out.below HB0.out, Rg.of_below HB0.out hb, HX0.out, HB0.out.size, by rw [Rd.wrs_nil]; simp, by rw [Rd.wrs_nil]; simp, fun ⟨_, hq, _⟩ => by cases hq⟩
  clear HR1 HX0 HB0 HT HR0
  go_loopw [11, 12, 26] (fun v nn i wr => ∃ k : Nat, i = .int .i64 k ∧ k ≤ 7 ∧ nn = .int .i64 (Rd.nums ((Rd.parts t).take k) : Nat) ∧ Hid (PuP w g base w.heap.size T l d hl ml ((Rd.parts t).take k) v wr)) (fun _ _ i _ => 7 - (intOf i).toNat)
  case atStart => exact ⟨0, rfl, by omega, by simp [Rd.nums], HP0⟩
  case round =>
    obtain ⟨k, rfl, hk, rfl, HP⟩ := hrel
    by_cases hlt : k < 7
    · have hkl : k < (Rd.parts t).length := by rw [Rd.parts_len]; exact hlt
      have hix := part_at hkl
      have hp9 : (Rd.parts t)[k] ≤ 9 := Rd.parts_lt t _ (List.getElem_mem hkl)
      have htk : (Rd.parts t).take (k + 1) = (Rd.parts t).take k ++ [(Rd.parts t)[k]] := List.take_succ_eq_append_getElem hkl
      have hn5 : Rd.nums ((Rd.parts t).take (k + 1)) ≤ 5 := Rd.nums_le
      have hlen : ((Rd.parts t).take k).length ≤ 7 := by rw [List.length_take]; omega
      have h16 := HN16.out k hkl
      have hhk := HH.out k hkl
      have hmk := HM.out k hkl
      rw [htk] at hn5
      have HTK := Lib.hid htk
      have H16 := Lib.hid h16
      have HHK := Lib.hid hhk
      have HMK := Lib.hid hmk
      clear htk h16 hhk hmk
      generalize (Rd.parts t)[k] = p at *
      generalize (Rd.parts t).take k = ps at *
      obtain ⟨q, hq⟩ : ∃ q : Int, ((p : Nat) : Int) = q := ⟨_, rfl⟩
      rw [hq] at hix
      have HQ := Lib.hid hq
      clear hq
      have hd7 : decide ((k : Int) < 7) = true := by simp; omega
      obtain ⟨mq, h1, h2, h3, h4, h5, h6, h7, _⟩ := HP.out
      obtain ⟨A', c', rfl, k1, k2, k3⟩ := h1
      have hlx : (Rd.wrs T l d.dt hl ml ps).2.1.length ≤ 140737488000000 := by omega
      have htx : (Rd.wrs T l d.dt hl ml ps).1.length ≤ 140737488350000 := by omega
      have H2 := Lib.hid h2
      have K2 := Lib.hid k2
      have K3 := Lib.hid k3
      have H4 := Lib.hid h4
      clear h2 h3 h6 h7 k2 k3 h4
      have cr := dv_raw H4.out
      have ch := dv_host H4.out
      have cm := dv_mail H4.out
      have H5 := Lib.hid h5
      by_cases p0 : p = 0
      · subst p0
        obtain rfl : q = 0 := HQ.out.symm
        go_wp2
        go_roundw
        case rel => exact ⟨k + 1, by go_num, by omega, by rw [HTK.out, Rd.nums_snoc]; rfl, by rw [HTK.out]; exact pup_same HP.out 0 rfl rfl⟩
        case measure => simp [intOf]; omega
      by_cases p4 : p ≤ 4
      · have HNU : Hid (Rd.nums (ps ++ [p]) = Rd.nums ps) := by rw [Hid, Rd.nums_snoc, if_neg (by omega)]; rfl
        have hq := HQ.out
        have HW := Lib.hid (Rd.wr1_raw (d := d.dt) (hl := hl) (ml := ml) (n := Rd.nums ps) (T := (Rd.wrs T l d.dt hl ml ps).1) (l := (Rd.wrs T l d.dt hl ml ps).2.1) (p := p) (by omega) p4)
        have hrl : d.raw.data.toList.length = d.raw.size := by simp
        rcases (by omega : (p = 1 ∧ q = 1) ∨ (p = 2 ∧ q = 2) ∨ (p = 3 ∧ q = 3) ∨ (p = 4 ∧ q = 4)) with ⟨rfl, rfl⟩ | ⟨rfl, rfl⟩ | ⟨rfl, rfl⟩ | ⟨rfl, rfl⟩
        all_goals
            (clear hq
             have HRL := Lib.hid hrl
             clear hrl
             go_wp2_with (first
               | (refine wpList_convert_text rfl 9 48 (.tmp 37) rfl 5 Tryz.underlying9 Tryz.underlying48 Tryz.underlying5 d.raw rfl ?_; intro c3 w3 hc3 b3 B3 z3; have HB3 := Lib.hid B3; have HS3 := Lib.hid b3; have HZ3 := Lib.hid z3; clear B3 b3 z3)
               | (go_at_call 34; refine (concat_raw K3.out K2.out HS3.out HRL.out.symm HB3.out HZ3.out (by rw [List.length_append, HRL.out]; omega) _).mono ?_; rintro e w4 ⟨v4, rfl, R4, B4⟩; have HP4 := Lib.hid (pup_low HP.out hb B4 _ d.raw.data.toList (by rw [HRL.out]; omega) HW.out R4); clear R4 B4))
             go_roundw
             case rel => exact ⟨k + 1, by go_num, by omega, by rw [HTK.out, HNU.out], by rw [HTK.out]; exact HP4⟩
             case measure => simp [intOf]; omega)
      by_cases p5 : p = 5
      · subst p5
        obtain rfl : q = 5 := HQ.out.symm
        have HNU : Hid (Rd.nums (ps ++ [5]) = Rd.nums ps) := by rw [Hid, Rd.nums_snoc, if_neg (by omega)]; rfl
        have hsp := HHK.out (Or.inl rfl)
        have hgd := (Nm.split_some.1 hsp).2
        have HSP := Lib.hid hsp
        have HGD := Lib.hid hgd
        have HGL := Lib.hid (Nm.split_some.1 hsp).1
        clear hsp hgd
        go_wp2_with (go_at_call 35; refine (put_in g base mq (Rd.wrs T l d.dt hl ml ps).1 A' (Rd.wrs T l d.dt hl ml ps).2.1 c' d.host hl _ H2.out (by omega) HSP.out k1 K2.out (by omega) K3.out (by omega)).mono ?_; intro e w4 PD; obtain ⟨v4, rfl, P4⟩ := pup_name HP.out hne false hl HGD.out.1 (by rw [← HGL.out]; exact HGD.out.2) 5 rfl PD; have HP4 := Lib.hid P4; clear P4 PD)
        go_roundw
        case rel => exact ⟨k + 1, by go_num, by omega, by rw [HTK.out, HNU.out], by rw [HTK.out]; exact HP4⟩
        case measure => simp [intOf]; omega
      by_cases p6 : p = 6
      · subst p6
        obtain rfl : q = 6 := HQ.out.symm
        have HNU : Hid (Rd.nums (ps ++ [6]) = Rd.nums ps) := by rw [Hid, Rd.nums_snoc, if_neg (by omega)]; rfl
        have hsp := HHK.out (Or.inr rfl)
        have hgd := (Nm.split_some.1 hsp).2
        have HSP := Lib.hid hsp
        have HGD := Lib.hid hgd
        have HGL := Lib.hid (Nm.split_some.1 hsp).1
        clear hsp hgd
        go_wp2_with (go_at_call 36; refine (plain_in g base mq (Rd.wrs T l d.dt hl ml ps).1 A' (Rd.wrs T l d.dt hl ml ps).2.1 c' d.host hl _ H2.out (by omega) HSP.out k1 K2.out (by omega) K3.out (by omega)).mono ?_; intro e w4 PD; obtain ⟨v4, rfl, P4⟩ := pup_name HP.out hne true hl HGD.out.1 (by rw [← HGL.out]; exact HGD.out.2) 6 rfl PD; have HP4 := Lib.hid P4; clear P4 PD)
        go_roundw
        case rel => exact ⟨k + 1, by go_num, by omega, by rw [HTK.out, HNU.out], by rw [HTK.out]; exact HP4⟩
        case measure => simp [intOf]; omega
      by_cases p7 : p = 7
      · subst p7
        obtain rfl : q = 7 := HQ.out.symm
        have HNU : Hid (Rd.nums (ps ++ [7]) = Rd.nums ps) := by rw [Hid, Rd.nums_snoc, if_neg (by omega)]; rfl
        have hsp := HMK.out rfl
        have hgd := (Nm.split_some.1 hsp).2
        have HSP := Lib.hid hsp
        have HGD := Lib.hid hgd
        have HGL := Lib.hid (Nm.split_some.1 hsp).1
        clear hsp hgd
        go_wp2_with (go_at_call 35; refine (put_in g base mq (Rd.wrs T l d.dt hl ml ps).1 A' (Rd.wrs T l d.dt hl ml ps).2.1 c' d.mail ml _ H2.out (by omega) HSP.out k1 K2.out (by omega) K3.out (by omega)).mono ?_; intro e w4 PD; obtain ⟨v4, rfl, P4⟩ := pup_name HP.out hne false ml HGD.out.1 (by rw [← HGL.out]; exact HGD.out.2) 7 rfl PD; have HP4 := Lib.hid P4; clear P4 PD)
        go_roundw
        case rel => exact ⟨k + 1, by go_num, by omega, by rw [HTK.out, HNU.out], by rw [HTK.out]; exact HP4⟩
        case measure => simp [intOf]; omega
      have hq := HQ.out
      have hn4 : Rd.nums ps < 5 := by rw [Rd.nums_snoc, if_pos (by omega)] at hn5; omega
      have HNU : Hid (Rd.nums (ps ++ [p]) = Rd.nums ps + 1) := by rw [Hid, Rd.nums_snoc, if_pos (by omega)]
      have cn := dv_n H4.out hn4
      have hx : d.n (Rd.nums ps) ≤ 4294967295 := HF.out _
      have HXN := Lib.hid (rd_hasN2 d hn4)
      have hni : ((Rd.nums ps : Nat) : Int) < 5 := by omega
      have hnj : (0 : Int) ≤ ((Rd.nums ps : Nat) : Int) := by omega
      rcases (by omega : (p = 8 ∧ q = 8) ∨ (p = 9 ∧ q = 9)) with ⟨rfl, rfl⟩ | ⟨rfl, rfl⟩
      · clear hq
        have h16 := H16.out rfl
        go_wp2_with (go_at_call 37; refine (put_u16 A' (Rd.wrs T l d.dt hl ml ps).2.1 c' (d.n (Rd.nums ps)) _ k1 (by omega) (by omega) 0 K3.out).mono ?_; rintro e w4 ⟨g4, cp, rfl, O4, B4⟩; have HP4 : Hid (PuP w g base w.heap.size T l d hl ml (ps ++ [8]) (.slice (some ⟨g4, 0, none⟩) ((Rd.wrs T l d.dt hl ml ps).2.1.length + 2) ((Rd.wrs T l d.dt hl ml ps).2.1.length + 2)) w4) := pup_low HP.out hb B4 8 (Oc.beb 2 (d.n (Rd.nums ps))) (by rw [Oc.beb_length]; omega) (by rw [← HXN.out]; rfl) (rds_tight2 O4 (by simp [Oc.beb_length])); clear O4 B4)
        go_roundw
        case rel => exact ⟨k + 1, by go_num, by omega, by rw [HTK.out, HNU.out]; go_num, by rw [HTK.out]; exact HP4⟩
        case measure => simp [intOf]; omega
      · clear hq
        go_wp2_with (go_at_call 38; refine (put_u32 A' (Rd.wrs T l d.dt hl ml ps).2.1 c' (d.n (Rd.nums ps)) _ k1 (by omega) (by omega) 0 K3.out).mono ?_; rintro e w4 ⟨g4, cp, rfl, O4, B4⟩; have HP4 : Hid (PuP w g base w.heap.size T l d hl ml (ps ++ [9]) (.slice (some ⟨g4, 0, none⟩) ((Rd.wrs T l d.dt hl ml ps).2.1.length + 4) ((Rd.wrs T l d.dt hl ml ps).2.1.length + 4)) w4) := pup_low HP.out hb B4 9 (Oc.beb 4 (d.n (Rd.nums ps))) (by rw [Oc.beb_length]; omega) (by rw [← HXN.out]; rfl) (rds_tight2 O4 (by simp [Oc.beb_length])); clear O4 B4)
        go_roundw
        case rel => exact ⟨k + 1, by go_num, by omega, by rw [HTK.out, HNU.out]; go_num, by rw [HTK.out]; exact HP4⟩
        case measure => simp [intOf]; omega
    · obtain rfl : k = 7 := by omega
      have hall : (Rd.parts t).take 7 = Rd.parts t := List.take_of_length_le (by rw [Rd.parts_len]; omega)
      rw [hall] at HP
      clear hall
      go_wp2
      go_ret2
      exact ⟨_, rfl, HP.out⟩
end Go.Proofs.YtopcklpmeaghmaaGreatDoor
/- The document's table of names: what is remembered, and where it is found. -/
namespace Go.Proofs.YtopcklpmeaghmaaGreatDoor
open Go.RowKit

def ints (t : List Nat) : List Value := t.map fun (p : Nat) => Value.int .i64 p
theorem str_eq {a n : ByteArray} (h : a.data.toList = n.data.toList) : (a.toList == n.toList) = true :=
  (beq_toListBytes a n).symm.trans <| (MapKept.bytes_beq _ _).2 (by rw [string_eq (s := a) rfl, string_eq (s := n) rfl, h])
theorem str_ne {a n : ByteArray} (h : a.data.toList ≠ n.data.toList) : (a.toList == n.toList) = false := by
  rw [← beq_toListBytes, Bool.eq_false_iff]
  intro hb
  have := (MapKept.bytes_beq _ _).1 hb
  subst this
  exact h rfl
theorem sv_of (l : List UInt8) : ∃ s : ByteArray, sv l = .string s ∧ s.data.toList = l := ⟨⟨l.toArray⟩, rfl, rfl⟩

end Go.Proofs.YtopcklpmeaghmaaGreatDoor
/- The document's table: keeping names and places. Laws for rows of the call's own. -/
namespace Go.Proofs.YtopcklpmeaghmaaGreatDoor
open Go.RowKit

theorem Tryz.infoApiName : (Tryz.prog.info? 23).map (fun i => (i.zero, i.size, i.bytes)) = some (some (.string ⟨#[]⟩), 1, 16) := by kernel_rfl
theorem Tryz.infoIntT : (Tryz.prog.info? 3).map (fun i => (i.zero, i.size, i.bytes)) = some (some (.int .i64 0), 1, 8) := by kernel_rfl

section
variable {w w' : World} {b b2 n n2 : Nat} {e e2 : TypeId} {v v2 : Value} {xs ys : List Value}
/-- rows of two types are two. -/
theorem own_apart (h : w.ownsRow b e 1 v n xs) (h2 : w.ownsRow b2 e2 1 v2 n2 ys) (hne : e2 ≠ e) : v2.ownBlock = none ∨ v2.ownBlock ≠ v.ownBlock := by
  rcases h2.2 with ⟨rfl, _⟩ | ⟨g2, cap2, cur2, rfl, _, hg2, _⟩
  · exact .inl rfl
  · refine .inr fun e' => ?_
    rcases h.2 with ⟨rfl, _⟩ | ⟨g, cap, cur, rfl, _, hg, _⟩
    · simp [Value.ownBlock] at e'
    · have : g2 = g := by simpa [Value.ownBlock] using e'
      subst this
      rw [hg] at hg2
      cases hg2
      exact hne rfl
theorem own_still (h : w.ownsRow b e 1 v n xs) (h2 : w.ownsRow b2 e2 1 v2 n2 ys) (hne : e2 ≠ e) (hg : w.grownBy w' v.ownBlock) : w'.ownsRow b2 e2 1 v2 n2 ys := h2.kept hg (own_apart h h2 hne)
theorem own_alloc (h : w.ownsRow b e 1 v n xs) (o : Obj) : (w.alloc o).ownsRow b e 1 v n xs := World.ownsRow.alloc h o
end
/-- values that are built into a new slice are put behind a row of the call's own. -/
theorem wpList_append_new {P : Program} {w : World} {ops : Array Oper} {rest : List Oper} {o : Oper} {a : Act} {Q : Exit → Act → World → Prop} (hgd : o.guard = none) (s x : Operand) (t : TypeId)
    (ho : o.op = .call { callee := .builtin .append, args := #[s, x], argTypes := #[t, t] })
    (e : TypeId) (i : TypeInfo) (z : Value) (bytes : Nat) (ht : P.underlying t = some (.slice e)) (hi : P.info? e = some i) (hz : i.zero = some z)
    (hsize : i.size = 1) (hby : i.bytes = bytes) (hzs : z.cells.size = 1)
    (base : Nat) (w0 : World) (v : Value) (n : Nat) (xs : List Value) (hs : a.eval s = v) (hown : w.ownsRow base e 1 v n xs) (hb : Below base w0 w) (hbase : base ≤ w0.heap.size)
    (us : List Value) (hu : ∀ u ∈ us, u.oneCell' = true) (et : TypeId) (m : Nat) (hm : us.length = m) (hx : a.eval x = .slice (some ⟨w.heap.size, 0, none⟩) m m)
    (h63 : n + m ≤ 140737488355328) (hbytes : (n + m) * bytes ≤ 140737488355328)
    (h : ∀ v' w', w'.ownsRow base e 1 v' (n + m) (xs ++ us) → Below base w0 w' → (w.alloc (.cells us.toArray et)).grownBy w' v.ownBlock → wpList P ops Q rest (a.put o.dst v') w') : wpList P ops Q (o :: rest) a (w.alloc (.cells us.toArray et)) := by
  have hbs := hb.size
  subst hm
  refine wpList_append_own _ hgd s x t ho base e i z 1 bytes ht hi hz hsize hby hzs (by decide) v n xs hs (hown.alloc _) ⟨w.heap.size, 0, none⟩ us.length us.length us hx (by omega) ?_ hu (by unfold maxLen; omega) hbytes (by simp; omega) (fun v' w' h1 h2 _ => h v' w' h1 ?_ h2)
  · intro j u hj
    have hH := Has.fresh w et us.toArray
    rw [addr_add, Nat.zero_add, hH.cell]
    simpa using hj
  · exact (hb.alloc (by omega) _).grown h2 (by simp; omega) (fun k hk => (hown.lt k hk).1)
/-- a row of the call's own is put behind another one. -/
theorem append_rows {P : Program} {w : World} (t ty e : TypeId) (i : TypeInfo) (z : Value) (bytes : Nat) (ht : P.underlying t = some (.slice e)) (hi : P.info? e = some i) (hz : i.zero = some z)
    (hsize : i.size = 1) (hby : i.bytes = bytes) (hzs : z.cells.size = 1)
    (base b2 : Nat) (v v2 : Value) (n m : Nat) (xs us : List Value) (hown : w.ownsRow base e 1 v n xs) (h2 : w.ownsRow b2 e 1 v2 m us) (hu : ∀ u ∈ us, u.oneCell' = true)
    (h63 : n + m ≤ 140737488355328) (hbytes : (n + m) * bytes ≤ 140737488355328) (hbase : base ≤ w.heap.size) :
    ∃ v' w', (Builtin.append_ #[t, t] ty #[v, v2]).run P w = .ok v' w' ∧ w'.ownsRow base e 1 v' (n + m) (xs ++ us) ∧ w.grownBy w' v.ownBlock := by
  have hl : us.length = m := by have := h2.1; omega
  rcases h2.2 with ⟨rfl, h0⟩ | ⟨g, cap, cur, rfl, hb, hg, hc, _⟩
  · subst h0
    have hus : us = [] := List.eq_nil_of_length_eq_zero hl
    subst hus
    refine ⟨v, w, ?_, by simpa using hown, World.grownBy.refl w _⟩
    exact run_append_owned_none (P := P) (w := w) base t ty e i 1 ht hi v n xs hown
  · obtain ⟨v', w', hrun, a1, a2, _⟩ := run_append_own (P := P) w base t ty e i z 1 bytes ht hi hz hsize hby hzs (by decide) v n xs hown ⟨g, 0, none⟩ m cap us (by omega) (fun j u hj => by rw [addr_add, Nat.zero_add]; exact own_cells h2 j u hj) hu (by unfold maxLen; omega) hbytes hbase
    exact ⟨v', w', hrun, a1, a2⟩

theorem svs_one (ls : List (List UInt8)) : ∀ u ∈ svs ls, u.oneCell' = true := by
  intro u hu
  simp only [svs, List.mem_map] at hu
  obtain ⟨_, _, rfl⟩ := hu
  rfl
theorem ints_one (ls : List Nat) : ∀ u ∈ ints ls, u.oneCell' = true := by
  intro u hu
  simp only [ints, List.mem_map] at hu
  obtain ⟨_, _, rfl⟩ := hu
  rfl
theorem ints_append (a b : List Nat) : ints (a ++ b) = ints a ++ ints b := by simp [ints]

section
variable {base : Nat} {w w' w2 : World}
end
theorem has_not_own {w : World} {g b n : Nat} {t e : TypeId} {cs : Array Value} {v : Value} {xs : List Value} (h : Has w g t cs) (ho : w.ownsRow b e 1 v n xs) (hte : t ≠ e) : some g ≠ v.ownBlock := by
  rcases ho.2 with ⟨rfl, _⟩ | ⟨g', cap, cur, rfl, _, hgb, _⟩
  · simp [Value.ownBlock]
  · intro e'
    obtain rfl : g = g' := by simpa [Value.ownBlock] using e'
    rw [show w.heap[g]? = _ from h] at hgb
    cases hgb
    exact hte rfl
theorem gr_set (W : World) (b i : Nat) (u : Value) : W.grownBy (W.setCell ⟨b, i, none⟩ u) (some b) := ⟨rfl, rfl, rfl, by simp, fun j _ hj => heap_setCell_other W ⟨b, i, none⟩ j u (fun e => hj (by rw [e]))⟩

end Go.Proofs.YtopcklpmeaghmaaGreatDoor
/- The document's answer to writing a name. -/
namespace Go.Proofs.YtopcklpmeaghmaaGreatDoor
open Go.RowKit

theorem own_tail {w : World} {b n g c m : Nat} {e : TypeId} {ls : List (List UInt8)} (h : w.ownsRow b e 1 (.slice (some ⟨g, 0, none⟩) n c) n (svs ls)) (hn : n = ls.length) (hm : m ≤ n) :
    Rd w w.heap.size (.slice (some ⟨g, m, none⟩) (n - m) (c - m)) (ls.drop m) := by
  subst hn
  have hg : g < w.heap.size := (h.lt g rfl).2
  have hc := own_le h
  refine ⟨_, _, by rw [List.length_drop], by rw [List.length_drop]; omega, fun _ => ⟨g, m, rfl, hg, fun j hj => ?_⟩⟩
  rw [List.length_drop] at hj
  exact own_cells h (m + j) _ (by simp [svs, show m + j < ls.length by omega])
/-- how far it has come. -/
def RpI (plain : Bool) (t : Tab) (l : List UInt8) (ls : List (List UInt8)) (w : World) (vL : Value) (k : Nat) (nw : Tab) (vO vN vP : Value) (wr : World) : Prop :=
  wr.ownsRow w.heap.size 5 1 vO (l ++ Nm.body (ls.take k)).length (bv (l ++ Nm.body (ls.take k))) ∧ wr.ownsRow w.heap.size 23 1 vN nw.length (svs (nw.map (·.1))) ∧ wr.ownsRow w.heap.size 3 1 vP nw.length (ints (nw.map (·.2))) ∧
  wr.ownsRow w.heap.size 9 1 vL ls.length (svs ls) ∧ Below w.heap.size w wr ∧ Pr.Cont plain t l.length ls k (t ++ nw) ∧ Pr.Ahead t (t ++ nw) ls k ∧ nw.length ≤ k

/-- one byte, then a label: the row of bytes is a label longer. -/
theorem lab_bytes (l : List UInt8) {ls : List (List UInt8)} {k : Nat} (hk : k < ls.length) : l ++ Nm.body (ls.take (k + 1)) = (l ++ Nm.body (ls.take k)) ++ [UInt8.ofNat (ls[k]'hk).length] ++ (ls[k]'hk) := by
  rw [List.take_succ_eq_append_getElem hk, Nm.body_append]
  simp [Nm.body, Nm.lab]
theorem bv_one8 (n : Nat) (h : n < 256) : [Value.int .u8 (n : Int)] = bv [UInt8.ofNat n] := by
  simp [bv]; omega

end Go.Proofs.YtopcklpmeaghmaaGreatDoor
/- The document's answer on data: Put. -/
namespace Go.Proofs.YtopcklpmeaghmaaGreatDoor
open Go.RowKit

namespace Rd
/-- the bytes that data of a type come to, at a place; hl and ml: the labels of its names. -/
def put (T : Tab) (a t : Nat) (d : Dt) (hl ml : List By) : Tab × By :=
  if t = 2 ∨ t = 5 ∨ t = 12 then Pr.pw false T a hl
  else if t = 15 then ((Pr.pw false T (a + 2) hl).1, Oc.beb 2 d.n0 ++ (Pr.pw false T (a + 2) hl).2)
  else if t = 33 then ((Pr.pw true T (a + 6) hl).1, Oc.beb 2 d.n0 ++ (Oc.beb 2 d.n1 ++ (Oc.beb 2 d.n2 ++ (Pr.pw true T (a + 6) hl).2)))
  else if t = 6 then ((Pr.pw false (Pr.pw false T a hl).1 (a + (Pr.pw false T a hl).2.length) ml).1, (Pr.pw false T a hl).2 ++ ((Pr.pw false (Pr.pw false T a hl).1 (a + (Pr.pw false T a hl).2.length) ml).2 ++ (Oc.beb 4 d.n0 ++ (Oc.beb 4 d.n1 ++ (Oc.beb 4 d.n2 ++ (Oc.beb 4 d.n3 ++ Oc.beb 4 d.n4))))))
  else (T, d.raw)
end Rd
theorem own_nilA {w : World} {b n c : Nat} {e : TypeId} {A : Option Addr} {xs : List Value} (h : w.ownsRow b e 1 (.slice A n c) n xs) (hA : A = none) : c = 0 := by
  subst hA
  rcases h.2 with ⟨hv, _⟩ | ⟨g, cap, cur, hv, _⟩
  · injection hv
  · injection hv with h1; cases h1
section
variable {w W : World} {g base : Nat} {T : Tab} {d : Dv} {l : List UInt8} {n c : Nat} {A : Option Addr}
end
end Go.Proofs.YtopcklpmeaghmaaGreatDoor
/- What the parts of data come to: the document's bytes. Nothing of the program. -/
namespace Go.Proofs.YtopcklpmeaghmaaGreatDoor.Rd

theorem wrs_put (T : Tab) (l : By) (t : Nat) (d : Dt) (hl ml : List By) : (wrs T l d hl ml (parts t)).1 = (put T l.length t d hl ml).1 ∧ (wrs T l d hl ml (parts t)).2.1 = l ++ (put T l.length t d hl ml).2 := by
  refine by_type (P := fun t => (wrs T l d hl ml (parts t)).1 = (put T l.length t d hl ml).1 ∧ (wrs T l d hl ml (parts t)).2.1 = l ++ (put T l.length t d hl ml).2) ?_ ?_ ?_ ?_ ?_ ?_ ?_ ?_ ?_ (fun t a b c e f g h i j => ?_) t
  all_goals first
    | (rw [parts_other a b c e f g h i j]; simp [wrs, wr1, put, hasN, b, c, e, f, g, j])
    | (simp [parts, wrs, wr1, put, hasN, Oc.beb_length, List.append_assoc])
theorem parts_some (t : Nat) : ∃ p ∈ parts t, p ≠ 0 := by
  refine by_type (P := fun t => ∃ p ∈ parts t, p ≠ 0) ?_ ?_ ?_ ?_ ?_ ?_ ?_ ?_ ?_ (fun t a b c d e f g h i => ?_) t
  all_goals first
    | (rw [parts_other a b c d e f g h i]; decide)
    | decide
end Go.Proofs.YtopcklpmeaghmaaGreatDoor.Rd
/- Tables made, sizes, and the known names of each statement. -/
namespace Go.Proofs.YtopcklpmeaghmaaGreatDoor
open Go.RowKit

set_option maxHeartbeats 400000 in
theorem pnew_any (w : World) :
    Calls Tryz.prog 18 #[] w fun e w' => e = .returned (.pointer (some ⟨w.heap.size, 0, none⟩)) ∧ w' = w.alloc (.cells #[.map none] 87) := by
  go_enter Tryz.func18, Tryz.ntmps18
  go_wp2
  go_ret
  exact ⟨rfl, rfl⟩
theorem Tb.new (w : World) {base : Nat} (hb : base ≤ w.heap.size) : Tb (w.alloc (.cells #[.map none] 87)) w.heap.size base none [] :=
  ⟨hb, Has.fresh w _ _, (fun x hx => by cases hx), fun _ => rfl, fun m e => by cases e⟩
def ab : List (List UInt8) := [[97], [98]]
def cb : List (List UInt8) := [[99], [98]]
def tab1 : Tab := [([1, 97, 1, 98, 0], 0), ([1, 98, 0], 2)]
theorem ab_split : Nm.split [1, 97, 1, 98, 0] = some ab := by rfl
theorem cb_split : Nm.split [1, 99, 1, 98, 0] = some cb := by rfl
theorem ab_put : Pr.pw false [] 0 ab = (tab1, [1, 97, 1, 98, 0]) := by rfl
theorem cb_put : Pr.pw false tab1 5 cb = (tab1 ++ [([1, 99, 1, 98, 0], 5)], [1, 99, 192, 2]) := by rfl
theorem cb_take : Pr.tk [1, 97, 1, 98, 0, 1, 99, 192, 2] 5 5 1 = .ok cb 9 := by
  have h1 := Pr.pw_sound (ls := ab) (t := []) (b := []) false (Nm.split_some.1 ab_split).2.1 (by decide) (Pr.Snd.nil _)
  rw [show ([] : List UInt8).length = 0 from rfl, ab_put] at h1
  have h2 := Pr.pw_sound (ls := cb) (t := tab1) (b := [1, 97, 1, 98, 0]) false (Nm.split_some.1 cb_split).2.1 (by decide) h1.2
  rw [show ([1, 97, 1, 98, 0] : List UInt8).length = 5 from rfl, cb_put] at h2
  exact h2.1 [] 5 1 (Nat.le_refl _) (by decide)
theorem wput1 (g base : Nat) (w : World) (hT : Tb w g base none []) (hb : base ≤ w.heap.size) :
    Calls Tryz.prog 35 #[.pointer (some ⟨g, 0, none⟩), .slice none 0 0, .string ⟨#[1, 97, 1, 98, 0]⟩] w fun e w' => ∃ A c mp, e = .returned (.tuple #[.slice A 5 c, .int .i64 0]) ∧ w'.ownsRow w.heap.size 5 1 (.slice A 5 c) 5 (bv [1, 97, 1, 98, 0]) ∧ Tb w' g base mp tab1 ∧ Rg g base w w' := by
  refine (put_in g base none [] none [] 0 ⟨#[1, 97, 1, 98, 0]⟩ ab w hT hb ab_split (by simp) (fun _ => rfl) (by simp) Bs.nil (by simp)).mono ?_
  rintro e w' ⟨v, mp, rfl, h1, h2, h3⟩
  rw [show ([] : List UInt8).length = 0 from rfl, ab_put] at h1 h2
  obtain ⟨A, c, rfl⟩ := own_form h1
  exact ⟨A, c, mp, rfl, h1, h2, h3⟩
theorem wput2 (g base : Nat) (mp : Option Nat) (A : Option Addr) (c : Nat) (w : World) (hT : Tb w g base mp tab1) (hb : base ≤ w.heap.size) (ho : w.ownsRow base 5 1 (.slice A 5 c) 5 (bv [1, 97, 1, 98, 0])) :
    Calls Tryz.prog 35 #[.pointer (some ⟨g, 0, none⟩), .slice A 5 c, .string ⟨#[1, 99, 1, 98, 0]⟩] w fun e w' => ∃ A c, e = .returned (.tuple #[.slice A 9 c, .int .i64 0]) ∧ w'.ownsRow w.heap.size 5 1 (.slice A 9 c) 9 (bv [1, 97, 1, 98, 0, 1, 99, 192, 2]) ∧ Below base w w' := by
  obtain ⟨g0, hA, hc, _⟩ := own_at ho (by omega : 0 < 5)
  refine (put_in g base mp tab1 A [1, 97, 1, 98, 0] c ⟨#[1, 99, 1, 98, 0]⟩ cb w hT hb cb_split hc (fun e => by rw [hA] at e; cases e) (by simp) ((Bs.of_own ho).more (Nat.zero_le _) (Nat.le_refl _)) (by simp [tab1])).mono ?_
  rintro e w' ⟨v, mp, rfl, h1, h2, h3⟩
  rw [show ([1, 97, 1, 98, 0] : List UInt8).length = 5 from rfl, cb_put] at h1 h2
  obtain ⟨A, c, rfl⟩ := own_form h1
  exact ⟨A, c, rfl, h1, h3.below⟩
theorem wtake (A : Option Addr) (c b : Nat) (w : World) (ho : w.ownsRow b 5 1 (.slice A 9 c) 9 (bv [1, 97, 1, 98, 0, 1, 99, 192, 2])) :
    Calls Tryz.prog 114 #[.slice A 9 c, .int .i64 5] w fun e w' => e = .returned (.tuple #[.string ⟨#[1, 99, 1, 98, 0]⟩, .int .i64 9, .int .i64 0]) ∧ Below w.heap.size w w' := by
  obtain ⟨g0, hA, hc, _⟩ := own_at ho (by omega : 0 < 9)
  refine (prTake_any A [1, 97, 1, 98, 0, 1, 99, 192, 2] c 5 w hc (by simp) 0 ((Bs.of_own ho).more (Nat.zero_le _) (Nat.le_refl _))).mono ?_
  rintro e w' ⟨rfl, h⟩
  refine ⟨?_, h⟩
  unfold prTakeV
  rw [if_neg (by simp), show ((5 : Int).toNat) = 5 from rfl, cb_take]
  rfl
end Go.Proofs.YtopcklpmeaghmaaGreatDoor
/- The known data of the statements on data: what is asked of them. -/
namespace Go.Proofs.YtopcklpmeaghmaaGreatDoor
open Go.RowKit

def d0 : Dv := ⟨⟨#[]⟩, ⟨#[1, 97, 0]⟩, ⟨#[]⟩, 10, 0, 0, 0, 0⟩
theorem d0_fits : d0.fits := fun k => by
  match k with
  | 0 => show 10 ≤ 4294967295; omega
  | 1 => show 0 ≤ 4294967295; omega
  | 2 => show 0 ≤ 4294967295; omega
  | 3 => show 0 ≤ 4294967295; omega
  | _ + 4 => show 0 ≤ 4294967295; omega
theorem d0_ok : Rd.ok 15 d0.dt = true := by kernel_rfl
theorem d0_no : Rd.ok 1 d0.dt = false := by kernel_rfl
theorem d0_split : Nm.split d0.host.data.toList = some [[97]] := by kernel_rfl
theorem d0_put : (Rd.wrs [] [] d0.dt [[97]] [] (Rd.parts 15)).2.1 = [0, 10, 1, 97, 0] := by kernel_rfl
theorem d0_words : (Rd.wds d0.dt (fun _ => []) (Rd.parts 15)).1 = [[49, 48], [97, 46]] := by
  have h1 : (Rd.wds d0.dt (fun _ => []) (Rd.parts 15)).1 = [Rd.dec 10, Nm.text [1, 97, 0]] := rfl
  have h2 : Nm.text [1, 97, 0] = [97, 46] := by kernel_rfl
  have h3 : Rd.dec 10 = [49, 48] := by rw [Rd.dec_more (by omega), Rd.dec_small (by omega)]; rfl
  rw [h1, h2, h3]
theorem d0_check (W : World) (h : LayR W) : Calls Tryz.prog 8 #[.int .u16 15, .agg d0.cells] W fun e w' => e = .returned (.int .i64 0) ∧ Below W.heap.size W w' := by
  have := pdCheck_any 15 d0 W (by omega) h d0_fits (by decide) (by decide) (by decide)
  rw [d0_ok] at this
  exact this
theorem d0_check1 (W : World) (h : LayR W) : Calls Tryz.prog 8 #[.int .u16 1, .agg d0.cells] W fun e w' => e = .returned (.int .i64 40) ∧ Below W.heap.size W w' := by
  have := pdCheck_any 1 d0 W (by omega) h d0_fits (by decide) (by decide) (by decide)
  rw [d0_no] at this
  exact this
theorem d0_show (W : World) (h : LayA W) : Calls Tryz.prog 4 #[.int .u16 15, .agg d0.cells] W fun e w' => e = .returned (.tuple #[.string ⟨#[49, 48, 32, 97, 46]⟩, .int .i64 0]) ∧ Below W.heap.size W w' := by
  have := pdShow_loop 15 d0 (fun _ => []) W (by omega) h d0_fits (by decide) (by decide) d0_check (fun h => absurd h (by decide)) (fun h => absurd h (by decide)) (fun h => absurd h (by decide)) (fun h => absurd h (by decide)) (fun _ => by simp) (by rw [d0_words]; simp) (by rw [d0_words]; decide)
  rw [d0_words] at this
  exact this
theorem no7 : ∀ k : Fin 7, ([8, 5, 0, 0, 0, 0, 0] : List Nat)[k] ≠ 7 := by decide
theorem d0_puts (W : World) (g base : Nat) (mp : Option Nat) (h : LayR W) (hT : Tb W g base mp []) (hb : base ≤ W.heap.size) :
    Calls Tryz.prog 17 #[.slice none 0 0, .pointer (some ⟨g, 0, none⟩), .int .u16 15, .agg d0.cells] W fun e W' => ∃ A c, e = .returned (.tuple #[.slice A 5 c, .int .i64 0]) ∧ Bs W' 0 W'.heap.size A [0, 10, 1, 97, 0] ∧ Rg g base W W' ∧ W.heap.size ≤ W'.heap.size := by
  have := pdPut_loop 15 d0 g base mp [] none [] 0 [[97]] [] W (by omega) h hT hb ⟨none, 0, rfl, Nat.le_refl _, fun _ => rfl, Bs.nil⟩ (by simp) (by simp) d0_fits d0_check (by decide) (fun k hk e => by
      have h7 : k < 7 := hk
      rcases (by omega : k = 0 ∨ k = 1 ∨ k = 2 ∨ k = 3 ∨ k = 4 ∨ k = 5 ∨ k = 6) with rfl | rfl | rfl | rfl | rfl | rfl | rfl <;> decide)
    (fun _ _ _ => d0_split) (fun k hk e => absurd e (no7 ⟨k, hk⟩))
  refine this.mono fun e W' ⟨v, he, mq, hr, _, hg, _, hs, _⟩ => ?_
  rw [d0_put] at hr
  obtain ⟨A, c, rfl, _, _, hbs⟩ := hr
  exact ⟨A, c, he, hbs, hg, hs⟩
end Go.Proofs.YtopcklpmeaghmaaGreatDoor
