/- TokenLaid's walk. -/
import Derived.Test.YtgmemngfkajnbaaTkLyF
import Derived.Test.YtgmemngfkajnbaaTkLyO
import Derived.Test.YtgmemngfkajnbaaTkOwn
import Derived.Test.YtgmemngfkajnbaaTkSame
import Derived.Deep.CutRange
import Derived.Deep.CutBlock
namespace Go.Proofs.Ytgmemngfkajnbaa
open Go.RowKit

/-- ahead of an entry. -/
def LaO (w W : World) (i : Nat) (ve : Value) : Prop := ∃ vb B out, LO w W (w.heap.size + 1) w.heap.size vb ve B out ∧ Tk.Tl B (fun _ => True) Tk.hb 0 (Tk.advs (1, 1) B).1 [] (out.map Ex.en) ∧ B.length ≤ i * 5101 ∧ out.length ≤ i
/-- ahead of a word. -/
def LaW (w W : World) (nb i k : Nat) (ve : Value) (bl : Bool) (el : Nat) (out : List Ex) : Prop := ∃ vb vw B o ws, LM w W (w.heap.size + 1) w.heap.size nb vb vw ve B o bl el ws out ∧ Tk.Lv bl k B ws o el (out.map Ex.en) ∧ B.length ≤ i * 5101 + 1 + k * 253 ∧ o ≤ k
/-- with the gap laid. -/
def LaR (w W : World) (nb i k : Nat) (ve : Value) (bl : Bool) (el : Nat) (out : List Ex) (gx : Nat) (x : Sd) : Prop := ∃ vb vw B o ws, LM w W (w.heap.size + 1) w.heap.size nb vb vw ve B o bl el ws out ∧ Tk.Lr bl k B ws o el (out.map Ex.en) ∧ B.length ≤ i * 5101 + 1 + k * 253 + 11 ∧ o ≤ k + 1 ∧ Has W gx 35 #[.string x.s, .bool x.q]
/-- behind the words. -/
def LaF (w W : World) (nb i : Nat) (ve : Value) (bl : Bool) (el : Nat) (out : List Ex) : Prop := ∃ vb vw B o ws, LM w W (w.heap.size + 1) w.heap.size nb vb vw ve B o bl el ws out ∧ Tk.Lf bl B ws o el (out.map Ex.en) ∧ B.length + o ≤ i * 5101 + 1 + 20 * 253 + 11 + 21
/-- how many parentheses are open, by the sheet. -/
def openOf (g : Nat) (W : World) : Nat := match W.cell? ⟨g, 3, none⟩ with
  | some (.int _ n) => n.toNat
  | _ => 0
theorem LM.setO {w0 W : World} {b g nb : Nat} {vb vw ve : Value} {B : List UInt8} {o : Nat} {bl : Bool} {el : Nat} {ws : List Tk.Wd} {out : List Ex} (h : LM w0 W b g nb vb vw ve B o bl el ws out) (o' : Nat) :
    LM w0 (W.setCell ⟨g, 3, none⟩ (.int .i64 o')) b g nb vb vw ve B o' bl el ws out :=
  h.pt (h.sh.setO o') ((Pt.refl g vb W).set 3 _)
theorem st_emp (q : Bool) (s : List UInt8) : (Tk.stW q s).isEmpty = s.isEmpty := by
  cases s with
  | nil => rfl
  | cons c s =>
    have : Tk.stW q (c :: s) ≠ [] := fun e => by have := (Tk.stW_eq_nil q (c :: s)).1 e; cases this
    simp [this]
theorem wd_empty {t : ByteArray} {q : Bool} {s : List UInt8} (h : t.data.toList = Tk.stW q s) : (t.toList == (⟨#[]⟩ : ByteArray).toList) = s.isEmpty := by
  rw [Lib.toList_data, h]
  rw [show (⟨#[]⟩ : ByteArray).toList = [] from by rw [Lib.toList_data]]
  cases s with
  | nil => rfl
  | cons c s =>
    have : Tk.stW q (c :: s) ≠ [] := fun e => by have := (Tk.stW_eq_nil q (c :: s)).1 e; cases this
    simp [this]
set_option maxHeartbeats 8000000 in
set_option maxRecDepth 100000 in
theorem laid_main (w : World) (A : Option Addr) (ls : List Ld) (c : Nat) (hr : Srow ldc 3 w 0 w.heap.size A ls) (hf : ∀ r ∈ ls, r.lies w) (hn : ls.length ≤ 40) :
    Calls Try.prog 3 #[.slice A ls.length c] w fun e w' => e = .returned (.bool true) ∧ Below w.heap.size w w' := by
  have hn2 : ¬ (40 : Int) < (ls.length : Int) := by omega
  have HR := Lib.hid hr
  have HF := Lib.hid hf
  clear hr hf
  go_enter Try.func3, Try.ntmps3
  go_wp2
  go_loopw [4, 5] (fun ve iv wr => ∃ i : Nat, iv = .int .i64 i ∧ i ≤ ls.length ∧ Hid (LaO w wr i ve)) (fun _ i _ => ls.length - (intOf i).toNat)
  case atStart =>
    exact ⟨0, rfl, Nat.zero_le _, .slice none 0 0, [], [], ⟨⟨Has.fresh w _ _, ⟨rfl, .inl ⟨rfl, rfl⟩⟩, Nat.lt_succ_self _, by simp⟩, Ers.nil _ _, (fun _ e => by cases e), (fun x h => by cases h), (Below.refl _ _).alloc (Nat.le_refl _) _⟩, Tk.Tl.start, Nat.le_refl _, Nat.le_refl _⟩
  case round =>
    obtain ⟨i, rfl, hi, HO⟩ := hrel
    by_cases hlt : i < ls.length
    · have hlti : (i : Int) < (ls.length : Int) := by omega
      obtain ⟨vb, B, out, hO, hT, hBl, hol⟩ := HO.out
      clear HO
      obtain ⟨aE, cE, hve, _⟩ := ownK_form hO.er.own
      subst hve
      obtain ⟨ga, oa, hA, _, hga, hc⟩ := HR.out.at_ hlt
      subst hA
      have HLI := Lib.hid (HF.out ls[i] (List.getElem_mem hlt))
      generalize hr : ls[i] = r at *
      obtain ⟨bl, wA, wds, wcp, gA, gs, gcp⟩ := r
      have HLW := Lib.hid HLI.out.row
      have HLG := Lib.hid HLI.out.gap
      have HLN := Lib.hid HLI.out.num
      simp only at HLW HLG HLN
      have HC0 : Hid (∀ W, Below w.heap.size w W → W.cell? ⟨ga, oa + i * 3, none⟩ = some (.bool bl) ∧ W.cell? ⟨ga, oa + i * 3 + 1, none⟩ = some (.slice wA wds.length wcp) ∧ W.cell? ⟨ga, oa + i * 3 + 2, none⟩ = some (.slice gA gs.length gcp)) := fun W hW => by
        have h := range_below hW hga hc
        exact ⟨h 0 _ rfl, h 1 _ rfl, h 2 _ rfl⟩
      clear hc HLI hr
      obtain ⟨x0, x1, x2⟩ := HC0.out wr hO.be
      by_cases hw20 : 20 < wds.length
      · have hw : (20 : Int) < (wds.length : Int) := by omega
        have HB := Lib.hid hO.be
        clear hO hT hBl hol HC0
        go_wp2
        go_ret
        exact ⟨rfl, HB.out⟩
      have hw : ¬ (20 : Int) < (wds.length : Int) := by omega
      have s1 : wr.cell? ⟨w.heap.size, 1, none⟩ = some (.int .i64 (Tk.advs (1, 1) B).1) := hO.sh.has.cell 1
      have hOa : Below w.heap.size w (wr.alloc (.cells #[.bool false, .int .i64 0, .slice none 0 0] 32)) := hO.be.alloc hO.be.size _
      have x0a := (HC0.out _ hOa).1
      have s1a : (wr.alloc (.cells #[.bool false, .int .i64 0, .slice none 0 0] 32)).cell? ⟨w.heap.size, 1, none⟩ = some (.int .i64 (Tk.advs (1, 1) B).1) := (hO.sh.has.alloc _).cell 1
      clear hOa
      have HBD := Lib.hid hO.sh.bound
      have HM0 := Lib.hid (hO.begin bl (Tk.advs (1, 1) B).1)
      have HT0 := Lib.hid hT
      have HBL := Lib.hid hBl
      have HOL := Lib.hid hol
      clear hO hT hBl hol
      have hel : (Tk.advs (1, 1) B).1 ≤ 1048576 := by have := HBD.out; have := HBL.out; omega
      generalize hELg : (Tk.advs (1, 1) B).1 = el at *
      clear HBD hELg
      have hnbl : w.heap.size < wr.heap.size := by have := HM0.out.nb_; omega
      have hb20 : wds.length ≤ 20 := by omega
      clear hw20
      go_upto_region 10 with fail
      go_cut [6] from 18 to 139 (fun p wx => p = .pointer (some ⟨wr.heap.size, 0, none⟩) ∧ Hid (LM w wx (w.heap.size + 1) w.heap.size wr.heap.size vb (.slice none 0 0) (.slice aE out.length cE) B 0 bl el [] out))
      case first =>
        go_region
        all_goals
          go_wp2
          go_meet
          exact ⟨rfl, HM0.out.drewN 1⟩
      case rest =>
      obtain ⟨rfl, HM1⟩ := hcut
      rename World => wa
      clear x0 x1 x2 s1 x0a s1a HM0 hw
      generalize wr.heap.size = nb at *
      clear wr
      obtain ⟨x0, x1, x2⟩ := HC0.out wa HM1.out.be
      go_upto_if 43 with fail
      go_cut [6] from 18 to 139 (fun p wx => p = .pointer (some ⟨nb, 0, none⟩) ∧ Hid (LaW w wx nb i 0 (.slice aE out.length cE) bl el out))
      case first =>
        have HPS := Lib.hid (sput_any ⟨#[32]⟩ _ _ vb B 0 _ HM1.out.sh (by have := HBL.out; show B.length + 1 ≤ 1048576; omega))
        cases bl
        · go_wp2
          go_meet
          exact ⟨rfl, _, _, _, _, _, HM1.out, Tk.Lv.startBare HT0.out, by have := HBL.out; omega, Nat.le_refl _⟩
        · go_wp2_with (
            go_at_call 4
            refine HPS.out.mono ?_
            rintro e w2 ⟨rfl, v2, hS, hP⟩
            have HM2 := Lib.hid (HM1.out.pt hS hP)
            clear hS hP)
          go_meet
          exact ⟨rfl, _, _, _, _, _, HM2.out, Tk.Lv.startBlank HT0.out, by have := HBL.out; simp; omega, Nat.le_refl _⟩
      case rest =>
      obtain ⟨rfl, HW0⟩ := hcut
      rename World => wb
      clear x0 x1 x2 HM1 HT0 HBL
      clear wa
      go_wp2
      go_loopw [7] (fun kv wc => ∃ k : Nat, kv = .int .i64 k ∧ k ≤ wds.length ∧ Hid (LaW w wc nb i k (.slice aE out.length cE) bl el out)) (fun kv _ => wds.length - (intOf kv).toNat)
      case atStart => exact ⟨0, rfl, Nat.zero_le _, HW0⟩
      case round =>
        obtain ⟨k, rfl, hk, HK⟩ := hrel
        clear HW0
        rename World => wc
        obtain ⟨vb1, vw1, B1, o1, ws1, hM, hV, hB1, ho1⟩ := HK.out
        clear HK
        obtain ⟨x0, x1, x2⟩ := HC0.out wc hM.be
        by_cases hkl : k < wds.length
        · have hkli : (k : Int) < (wds.length : Int) := by omega
          obtain ⟨gw, ow, hwA, _, hgw, hcw⟩ := HLW.out.at_ hkl
          subst hwA
          generalize wds[k] = x at *
          have hcw2 := range_below hM.be hgw hcw
          have z0 : wc.cell? ⟨gw, ow + k * 2, none⟩ = some (.string x.s) := hcw2 0 _ rfl
          have z1 : wc.cell? ⟨gw, ow + k * 2 + 1, none⟩ = some (.bool x.q) := hcw2 1 _ rfl
          clear hcw hcw2
          by_cases h60 : 60 < x.s.size
          · have h60i : (60 : Int) < (x.s.size : Int) := by omega
            have HB := Lib.hid hM.be
            clear hM hV
            go_wp2
            go_ret
            exact ⟨rfl, HB.out.alloc HB.out.size _⟩
          have h60i : ¬ (60 : Int) < (x.s.size : Int) := by omega
          have hxs : x.s.data.toList.length ≤ 60 := by simp; omega
          have HXS := Lib.hid hxs
          clear hxs h60
          have HM := Lib.hid (hM.alloc (.cells #[.string x.s, .bool x.q] 35))
          have HX := Lib.hid (Has.fresh wc 35 #[.string x.s, .bool x.q])
          have HQ : Hid (vb1.ownBlock ≠ some wc.heap.size) := fun e => by have := (hM.sh.row.lt _ e).2; omega
          have HGX : Hid (wc.heap.size ≠ w.heap.size) := by have := hM.no.lt; have := hM.nb_; unfold Hid; omega
          have HV := Lib.hid hV
          have HB1 := Lib.hid hB1
          have HO1 := Lib.hid ho1
          go_upto_region 19 with fail
          clear hM hV hB1 ho1 x0 x1 x2
          generalize wc.alloc (.cells #[.string x.s, .bool x.q] 35) = wd at *
          obtain ⟨x0, x1, x2⟩ := HC0.out wd HM.out.be
          clear z0 z1 h60i
          generalize wc.heap.size = gx at *
          clear wc
          go_cut [8, 75] from 45 to 109 (fun p c wx => p = .pointer (some ⟨gx, 0, none⟩) ∧ c = .bool (decide (0 < k) || bl) ∧ wx = wd)
          case first =>
            by_cases hk0 : 0 < k
            · have hk0i : (0 : Int) < (k : Int) := by omega
              go_wp2
              go_meet
              exact ⟨rfl, by simp [hk0], rfl⟩
            · have hk0i : ¬ (0 : Int) < (k : Int) := by omega
              go_wp2
              go_meet
              exact ⟨rfl, by simp [hk0], rfl⟩
          case rest =>
          obtain ⟨rfl, rfl, hwx⟩ := hcut
          obtain rfl := hwx.symm
          have HGG : Hid ((decide (0 < k) || bl) = true ↔ (bl = true ∨ 0 < k)) := by rw [Hid, Bool.or_eq_true, decide_eq_true_eq]; exact Or.comm
          generalize (decide (0 < k) || bl) = gg at *
          go_upto_if 75 with fail
          go_cut [8] from 45 to 109 (fun p wx => p = .pointer (some ⟨gx, 0, none⟩) ∧ Hid (LaR w wx nb i k (.slice aE out.length cE) bl el out gx x))
          case first =>
            have HGA := Lib.hid (gapOf_any gA gs gcp w.heap.size k wd (HLG.out.keep HM.out.be) (by omega))
            have HGP := Lib.hid (gap_any (gs[k]?.getD 0) _ _ _ _ _ _ HM.out.sh (by have := HB1.out; omega) (by have := HO1.out; omega))
            cases gg
            · have HG2 := HGG.out
              go_wp2
              go_meet
              exact ⟨rfl, _, _, _, _, _, HM.out, HV.out.nogap (fun e => by have := HG2.2 e; cases this), by have := HB1.out; omega, by have := HO1.out; omega, HX.out⟩
            · have HG2 := Lib.hid (HGG.out.1 rfl)
              clear HGG
              go_wp2_with (first
                | (go_at_call 6
                   refine HGA.out.mono ?_
                   rintro e w2 ⟨rfl, hw2⟩
                   obtain rfl := hw2.symm)
                | (go_at_call 5
                   refine HGP.out.mono ?_
                   rintro e w3 ⟨rfl, v3, hS, hP⟩
                   have HM3 := Lib.hid (HM.out.pt hS hP)
                   have HX3 := Lib.hid (HX.out.pt hP HGX.out HQ.out)
                   clear hS hP))
              go_meet
              exact ⟨rfl, _, _, _, _, _, HM3.out, HV.out.gap HG2.out _, by have := HB1.out; have := Tk.gapB_len (gs[k]?.getD 0) o1; simp only [List.length_append]; omega, by have := HO1.out; have := Tk.gapO_le (gs[k]?.getD 0) o1; omega, HX3.out⟩
          case rest =>
          obtain ⟨rfl, HR2⟩ := hcut
          clear HM HX HQ HGX HV HB1 HO1 x0 x1 x2 HGG hwx
          clear wd
          rename World => wd
          obtain ⟨vb2, vw2, B2, o2, ws2, hM2, hR2, hB2, ho2, hX2⟩ := HR2.out
          clear HR2
          have HST := Lib.hid (stands_any x.s x.q wd (by have := HXS.out; simp at this; omega))
          have z0 : wd.cell? ⟨gx, 0, none⟩ = some (.string x.s) := hX2.cell 0
          have z1 : wd.cell? ⟨gx, 1, none⟩ = some (.bool x.q) := hX2.cell 1
          have HM2 := Lib.hid hM2
          have HX2 := Lib.hid hX2
          have HRR := Lib.hid hR2
          have HBB := Lib.hid hB2
          have HOO := Lib.hid ho2
          clear hM2 hX2 hR2 hB2 ho2
          have HTW : Hid ((⟨(Tk.stW x.q x.s.data.toList).toArray⟩ : ByteArray).data.toList = Tk.stW x.q x.s.data.toList) := rfl
          generalize hsl : x.s.data.toList = sl at *
          have HWE := Lib.hid (wd_empty HTW.out)
          clear HTW
          go_upto_region 22 with (
            go_at_call 7
            refine HST.out.mono ?_
            rintro e w4 ⟨rfl, B4⟩
            have HM4 := Lib.hid (HM2.out.above B4)
            have HX4 := Lib.hid (HX2.out.below B4 HX2.out.lt)
            have y1 : w4.cell? ⟨gx, 1, none⟩ = some (.bool x.q) := HX4.out.cell 1
            clear B4 HM2 HX2 z0 z1)
          go_cut [10] from 45 to 109 (fun p wx => p = .bool (Tk.wdq x.q sl) ∧ wx = w4)
          case first =>
            by_cases hxq : x.q = true
            · rw [hxq] at y1
              have HQ2 := Lib.hid hxq
              clear hxq
              go_wp2
              go_meet
              exact ⟨by simp [Tk.wdq, HQ2.out], rfl⟩
            · have hxf : x.q = false := by simpa using hxq
              rw [hxf] at y1
              have HQ2 := Lib.hid hxf
              clear hxq hxf HWE
              go_wp2
              go_meet
              exact ⟨by rw [Tk.wdq, st_emp, HQ2.out, Bool.false_or], rfl⟩
          case rest =>
          obtain ⟨rfl, hwx⟩ := hcut
          obtain rfl := hwx.symm
          clear hwx y1 HWE
          have n2 : w4.cell? ⟨nb, 2, none⟩ = some vw2 := HM4.out.no.cell 2
          have t1 : w4.cell? ⟨w.heap.size, 1, none⟩ = some (.int .i64 (Tk.advs (1, 1) B2).1) := HM4.out.sh.has.cell 1
          have t2 : w4.cell? ⟨w.heap.size, 2, none⟩ = some (.int .i64 (Tk.advs (1, 1) B2).2) := HM4.out.sh.has.cell 2
          have hwsn : ws2.length ≤ 1048576 := by rw [HRR.out.n]; omega
          obtain ⟨A5, c5, w5, hr5, m2, f2, hes⟩ := HM4.out.word hwsn ⟨Tk.stW x.q sl, Tk.wdq x.q sl, (Tk.advs (1, 1) B2).1, (Tk.advs (1, 1) B2).2⟩ (z := w4.heap.size) rfl
          obtain ⟨aw, cw, hvw2, _⟩ := ownK_form HM4.out.tx.wr
          subst hvw2
          have HR5 := Lib.hid hr5
          have HM5 := Lib.hid hes
          have HV5 := Lib.hid (HRR.out.word x.q sl)
          have hwl := Tk.wdT_len x.q sl
          have hsz2 : (Tk.stW x.q sl).length ≤ 240 := by have := Tk.stW_len x.q sl; have := HXS.out; omega
          have hsz : (⟨(Tk.stW x.q sl).toArray⟩ : ByteArray).size ≤ 240 := by have := Tk.stW_len x.q sl; have := HXS.out; show (Tk.stW x.q sl).length ≤ 240; omega
          have HWL := Lib.hid (show (Tk.wdT x.q sl).length ≤ 242 by have := HXS.out; omega)
          have HWT : Hid ((Tk.wdq x.q sl = true → ((⟨#[34]⟩ : ByteArray) ++ ⟨(Tk.stW x.q sl).toArray⟩ ++ ⟨#[34]⟩).data.toList = Tk.wdT x.q sl) ∧ (Tk.wdq x.q sl = false → (⟨(Tk.stW x.q sl).toArray⟩ : ByteArray).data.toList = Tk.wdT x.q sl)) := ⟨fun h => by rw [Tk.wdT, h]; simp, fun h => by rw [Tk.wdT, h]; rfl⟩
          have HSS : Hid (∀ (W : World) (v : Value) (t : ByteArray), Sh W (w.heap.size + 1) w.heap.size v B2 o2 → t.data.toList = Tk.wdT x.q sl → Calls Try.prog 4 #[.pointer (some ⟨w.heap.size, 0, none⟩), .string t] W fun e w' => e = .returned (.tuple #[]) ∧ ∃ v', Sh w' (w.heap.size + 1) w.heap.size v' (B2 ++ Tk.wdT x.q sl) o2 ∧ Pt w.heap.size v v' W w') := fun W v t hS ht => by
            have hl : t.size = (Tk.wdT x.q sl).length := by rw [← ht]; simp
            rw [← ht]
            exact sput_any t _ _ v B2 o2 W hS (by have := HWL.out; have := HBB.out; omega)
          clear hr5 hes hwl hwsn HST
          generalize Tk.wdT x.q sl = wt at *
          generalize Tk.wdq x.q sl = wq at *
          generalize (Tk.advs (1, 1) B2).1 = L2 at *
          generalize (Tk.advs (1, 1) B2).2 = C2 at *
          cases wq
          · have HTT := Lib.hid (HWT.out.2 rfl)
            have HPP := Lib.hid (HSS.out _ _ _ HM5.out.sh HTT.out)
            go_wp2_with (first
              | (at_builtin
                 refine wpList_append_run rfl (.tmp 93) (.tmp 101) _ _ rfl _ _ rfl rfl (R := fun v W => v = .slice A5 (ws2.length + 1) c5 ∧ W = w5) ⟨_, _, HR5.out, rfl, rfl⟩ ?_
                 rintro _ _ ⟨rfl, rfl⟩)
              | (go_at_call 4
                 refine HPP.out.mono ?_
                 rintro e w6 ⟨rfl, v6, hS, hP⟩
                 have HM6 := Lib.hid (HM5.out.pt hS hP)
                 clear hS hP))
            go_roundw
            case rel => exact ⟨k + 1, by go_num, by omega, _, _, _, _, _, HM6.out, HV5.out, by have := HBB.out; have := HWL.out; simp only [List.length_append]; omega, HOO.out⟩
            case measure => simp [intOf]; omega
          · have HTT := Lib.hid (HWT.out.1 rfl)
            have HPP := Lib.hid (HSS.out _ _ _ HM5.out.sh HTT.out)
            go_wp2_with (first
              | (at_builtin
                 refine wpList_append_run rfl (.tmp 93) (.tmp 101) _ _ rfl _ _ rfl rfl (R := fun v W => v = .slice A5 (ws2.length + 1) c5 ∧ W = w5) ⟨_, _, HR5.out, rfl, rfl⟩ ?_
                 rintro _ _ ⟨rfl, rfl⟩)
              | (go_at_call 4
                 refine HPP.out.mono ?_
                 rintro e w6 ⟨rfl, v6, hS, hP⟩
                 have HM6 := Lib.hid (HM5.out.pt hS hP)
                 clear hS hP))
            go_roundw
            case rel => exact ⟨k + 1, by go_num, by omega, _, _, _, _, _, HM6.out, HV5.out, by have := HBB.out; have := HWL.out; simp only [List.length_append]; omega, HOO.out⟩
            case measure => simp [intOf]; omega
        · obtain rfl : k = wds.length := by omega
          have HGA := Lib.hid (gapOf_any gA gs gcp w.heap.size wds.length wc (HLG.out.keep hM.be) (by omega))
          have HGP := Lib.hid (fun W (hS : Sh W (w.heap.size + 1) w.heap.size vb1 B1 o1) => gap_any (gs[wds.length]?.getD 0) _ _ _ _ _ W hS (by omega) (by omega))
          have HM := Lib.hid hM
          have HV := Lib.hid hV
          have HB1 := Lib.hid hB1
          have HO1 := Lib.hid ho1
          clear hM hV hB1 ho1
          have HSW : Hid (∀ n, Sh (wc.drewN n) (w.heap.size + 1) w.heap.size vb1 B1 o1) := fun n => (HM.out.drewN n).sh
          go_upto_region 27 with fail
          go_cut [6] from 18 to 139 (fun p wx => p = .pointer (some ⟨nb, 0, none⟩) ∧ Hid (LaF w wx nb i (.slice aE out.length cE) bl el out))
          case first =>
            go_region_with (first
              | (go_at_call 6
                 refine (gapOf_any gA gs gcp w.heap.size wds.length _ (HLG.out.keep (below_drewN HM.out.be 1)) (by omega)).mono ?_
                 rintro e w2 ⟨rfl, hw2⟩
                 obtain rfl := hw2.symm)
              | (go_at_call 5
                 refine (HGP.out _ (HSW.out 1)).mono ?_
                 rintro e w3 ⟨rfl, v3, hS, hP⟩
                 have HM3 := Lib.hid ((HM.out.drewN 1).pt hS hP)
                 clear hS hP))
            all_goals
              go_wp2
              go_meet
              exact ⟨rfl, _, _, _, _, _, HM3.out, HV.out.last _, by have := HB1.out; have := HO1.out; have := Tk.gapB_len (gs[wds.length]?.getD 0) o1; have := Tk.gapO_le (gs[wds.length]?.getD 0) o1; simp only [List.length_append]; omega⟩
          case rest =>
          obtain ⟨rfl, HF1⟩ := hcut
          rename World => wd
          clear HM HV HB1 HO1 HSW HGP HGA x0 x1 x2
          clear wc
          go_wp2
          go_loopw [] (fun wz => Hid (LaF w wz nb i (.slice aE out.length cE) bl el out)) (fun wz => openOf w.heap.size wz)
          case atStart => exact HF1
          case round =>
            have HZ := hrel
            clear hrel
            clear HF1
            rename World => wz
            obtain ⟨vb3, vw3, B3, o3, ws3, hM3, hF3, hB3⟩ := HZ.out
            clear HZ
            have y3 : wz.cell? ⟨w.heap.size, 3, none⟩ = some (.int .i64 o3) := hM3.sh.has.cell 3
            have hO : openOf w.heap.size wz = o3 := by rw [openOf, y3]; rfl
            have HM3 := Lib.hid hM3
            have HF3 := Lib.hid hF3
            have HB3 := Lib.hid hB3
            have HOO := Lib.hid hO
            clear hM3 hF3 hB3 hO
            have hob : o3 ≤ 1048576 := by have := HB3.out; omega
            by_cases ho3 : 0 < o3
            · have ho3i : (0 : Int) < (o3 : Int) := by omega
              obtain ⟨o4, rfl⟩ : ∃ m, o3 = m + 1 := ⟨o3 - 1, by omega⟩
              have HPP := Lib.hid (sput_any ⟨#[41]⟩ _ _ _ _ _ _ HM3.out.sh (by have := HB3.out; show B3.length + 1 ≤ 1048576; omega))
              go_wp2_with (
                go_at_call 4
                refine HPP.out.mono ?_
                rintro e w6 ⟨rfl, v6, hS, hP⟩
                have z3 : w6.cell? ⟨w.heap.size, 3, none⟩ = some (.int .i64 ((o4 + 1 : Nat) : Int)) := hS.has.cell 3
                have f3 := hS.has.free 3
                have HM6 := Lib.hid ((HM3.out.pt hS hP).setO o4)
                clear hS hP)
              refine ⟨⟨v6, vw3, B3 ++ [41], o4, ws3, HM6.out, HF3.out.close, by have := HB3.out; simp only [List.length_append, List.length_singleton]; omega⟩, ?_⟩
              have y : (w6.setCell ⟨w.heap.size, 3, none⟩ (.int .i64 (o4 : Int))).cell? ⟨w.heap.size, 3, none⟩ = some (.int .i64 o4) := HM6.out.sh.has.cell 3
              rw [openOf, y, HOO.out]
              show (o4 : Int).toNat < o4 + 1
              omega
            · obtain rfl : o3 = 0 := by omega
              obtain ⟨aw, cw, hvw3, _⟩ := ownK_form HM3.out.tx.wr
              subst hvw3
              have HPP := Lib.hid (sput_any ⟨#[32, 59, 32, 34, 32, 40, 32, 10]⟩ _ _ _ _ _ _ HM3.out.sh (by have := HB3.out; show B3.length + 8 ≤ 1048576; omega))
              have HFI := Lib.hid HF3.out.fin
              have hon : out.length ≤ 1048576 := by have := HOL.out; omega
              have HON := Lib.hid hon
              clear hon HF3 ho3
              by_cases hw : ws3 = []
              · have hw0 : ¬ (0 : Int) < (ws3.length : Int) := by rw [hw]; simp
                rw [if_pos hw] at HFI
                clear hw
                go_wp2_with (
                  go_at_call 4
                  refine HPP.out.mono ?_
                  rintro e w6 ⟨rfl, v6, hS, hP⟩
                  have n2 : w6.cell? ⟨nb, 2, none⟩ = some (.slice aw ws3.length cw) := (HM3.out.pt hS hP).no.cell 2
                  have HM6 := Lib.hid (HM3.out.pt hS hP).shut
                  clear hS hP)
                go_roundw
                case rel => exact ⟨i + 1, by go_num, by omega, _, _, _, HM6.out, HFI.out, by have := HB3.out; simp only [List.length_append, List.length_cons, List.length_nil]; omega, by have := HOL.out; omega⟩
                case measure => simp [intOf]; omega
              · have hw0 : (0 : Int) < (ws3.length : Int) := by have := List.length_pos_iff.2 hw; omega
                rw [if_neg hw] at HFI
                clear hw
                go_wp2_with (first
                  | (go_at_call 4
                     refine HPP.out.mono ?_
                     rintro e w6 ⟨rfl, v6, hS, hP⟩
                     have n0 : w6.cell? ⟨nb, 0, none⟩ = some (.bool bl) := (HM3.out.pt hS hP).no.cell 0
                     have n1 : w6.cell? ⟨nb, 1, none⟩ = some (.int .i64 el) := (HM3.out.pt hS hP).no.cell 1
                     have n2 : w6.cell? ⟨nb, 2, none⟩ = some (.slice aw ws3.length cw) := (HM3.out.pt hS hP).no.cell 2
                     obtain ⟨v7, w7, hr7, hLO⟩ := (HM3.out.pt hS hP).close HON.out (z := w6.heap.size) rfl
                     have HR7 := Lib.hid hr7
                     have HM6 := Lib.hid hLO
                     clear hS hP hr7 hLO)
                  | (at_builtin
                     refine wpList_append_run rfl (.tmp 136) (.tmp 138) _ _ rfl _ _ rfl rfl (R := fun v W => v = v7 ∧ W = w7) ⟨_, _, HR7.out, rfl, rfl⟩ ?_
                     rintro _ _ ⟨rfl, rfl⟩))
                go_roundw
                case rel => exact ⟨i + 1, by go_num, by omega, _, _, _, HM6.out, by rw [List.map_append]; exact HFI.out, by have := HB3.out; simp only [List.length_append, List.length_cons, List.length_nil]; omega, by have := HOL.out; simp only [List.length_append, List.length_singleton]; omega⟩
                case measure => simp [intOf]; omega
    · obtain rfl : i = ls.length := by omega
      obtain ⟨vb, B, out, hO, hT, hBl, hol⟩ := HO.out
      clear HO
      obtain ⟨aE, cE, hve, _⟩ := ownK_form hO.er.own
      subst hve
      obtain ⟨aB, cB, hvb, _⟩ := ownK_form hO.sh.row
      subst hvb
      have hTD : Tk.tells B = .ok (out.map Ex.en) := hT.done trivial
      have hfit := Tk.tells_fit hTD
      have hB2 : B.length ≤ 262144 := by omega
      have HE := Lib.hid (fun W => entries_ok (s := ⟨B.toArray⟩) W hB2 hTD)
      have HF5 : Hid ((out.map Ex.en).length ≤ 1048576 ∧ ∀ x ∈ out.map Ex.en, x.words.length ≤ 1048576) := ⟨by omega, fun x hx => by have := (hfit.2 x hx).2; omega⟩
      have HS5 := Lib.hid (fun (v1 v2 : Value) (W : World) (a : EnsAt W v1 (out.map Ex.en)) (b : EnsAt W v2 (out.map Ex.en)) => same_any v1 v2 (out.map Ex.en) W a b HF5.out.1 HF5.out.2)
      have HA0 := Lib.hid hO.er.at_
      have HB0 := Lib.hid hO.be
      have HRO := Lib.hid hO.sh.row
      have s0 : wr.cell? ⟨w.heap.size, 0, none⟩ = some (.slice aB B.length cB) := hO.sh.has.cell 0
      clear hO hT hTD hfit hBl hol hB2
      generalize out.map Ex.en = es at *
      go_wp2_with (first
        | (refine wpList_convert_own _ rfl 23 9 (.tmp 142) rfl 5 Try.underlying23 Try.underlying5 Try.underlying9 (w.heap.size + 1) _ _ B rfl HRO.out ?_)
        | (go_at_call 8
           refine (HE.out _).mono ?_
           rintro e w1 ⟨B1, ve1, out1, rfl, hE1, hM1⟩
           have hE2 := hE1.at_
           rw [hM1] at hE2
           have HA1 := Lib.hid (hE2.below ((Below.refl w1.heap.size w1).alloc (Nat.le_refl _) (.cells #[.int .i64 0, .int .i64 0] 42)))
           have HA2 := Lib.hid ((HA0.out.below B1).below ((Below.refl w1.heap.size w1).alloc (Nat.le_refl _) (.cells #[.int .i64 0, .int .i64 0] 42)))
           have HB1 := Lib.hid ((HB0.out.trans (B1.mono HB0.out.size)).alloc (Nat.le_trans HB0.out.size B1.size) (.cells #[.int .i64 0, .int .i64 0] 42))
           clear B1 hE1 hM1 hE2)
        | (go_at_call 9
           refine (HS5.out _ _ _ HA1.out HA2.out).mono ?_
           rintro e w4 ⟨rfl, n, hw⟩
           have HBZ : Hid (Below w.heap.size w w4) := (by rw [Hid, hw]; exact below_drewN HB1.out n)
           clear hw)
        | (go_at_call 10
           refine (reads_any _).mono ?_
           rintro e w8 ⟨rfl, B8⟩
           have HB8 := Lib.hid (HBZ.out.trans (B8.mono HBZ.out.size))
           clear B8))
      go_ret
      exact ⟨rfl, HB8.out⟩
set_option maxRecDepth 100000 in
theorem walk_TokenLaid (w : World) (A : Option Addr) (ls : List Ld) (c : Nat) (hr : Srow ldc 3 w 0 w.heap.size A ls) (hf : ∀ r ∈ ls, r.lies w) :
    Calls Try.prog 3 #[.slice A ls.length c] w fun e w' => e = .returned (.bool true) ∧ Below w.heap.size w w' := by
  by_cases hn : ls.length ≤ 40
  · exact laid_main w A ls c hr hf hn
  · have hn2 : (40 : Int) < (ls.length : Int) := by omega
    clear hr hf hn
    go_enter Try.func3, Try.ntmps3
    go_wp2
    go_ret
    exact ⟨rfl, Below.refl _ _⟩
end Go.Proofs.Ytgmemngfkajnbaa
