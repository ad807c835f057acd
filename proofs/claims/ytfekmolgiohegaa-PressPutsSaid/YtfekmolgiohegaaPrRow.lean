/- Reading a name in a packet: a row, the whole. -/
import Derived.Test.YtfekmolgiohegaaPrTake
namespace Go.Proofs.Ytfekmolgiohegaa
open Go.RowKit

/-- what is told of a row. -/
def RowPost (l X : List UInt8) (g B c b0 : Nat) (A : Option Addr) (W : World) (e : Ending) (W' : World) : Prop :=
  Below B W W' ∧
  ((∃ er : Int, (er == 0) = false ∧ e = .returned (.tuple #[.int .i64 0, .int .i64 er]) ∧ ∀ acc o, Pr.fin acc o (Pr.tk l b0 b0 (1 + X.length)) = .err er) ∨
   (∃ ls bh to, e = .returned (.tuple #[.int .i64 (bh : Nat), .int .i64 0]) ∧ RS W' g B A l.length c (X ++ Nm.body ls) false to ∧ (X ++ Nm.body ls).length ≤ 254 ∧ ∀ acc o, Pr.fin acc o (Pr.tk l b0 b0 (1 + X.length)) = .ok (acc ++ ls) (o.getD bh)) ∨
   (∃ ls bh p, e = .returned (.tuple #[.int .i64 (bh : Nat), .int .i64 0]) ∧ RS W' g B A l.length c (X ++ Nm.body ls) true (p : Nat) ∧ p < b0 ∧ (X ++ Nm.body ls).length ≤ 254 ∧
      ∀ acc o, Pr.fin acc o (Pr.tk l b0 b0 (1 + X.length)) = Pr.fin (acc ++ ls) (some (o.getD bh)) (Pr.tk l p p (1 + (X ++ Nm.body ls).length))))
theorem body_snoc' (ls : List (List UInt8)) (x : List UInt8) : Nm.body (ls ++ [x]) = Nm.body ls ++ Nm.lab x := by rw [Nm.body_append]; simp [Nm.body]

set_option maxHeartbeats 4000000 in
set_option maxRecDepth 100000 in
theorem row_in (g B b0 c lo : Nat) (A : Option Addr) (l X : List UInt8) (ld : Bool) (to : Int) (W : World) (h : RS W g B A l.length c X ld to) (hc : l.length ≤ c) (hm : l.length ≤ 211106232532992) (hb : Bs W lo B A l) (hBW : B ≤ W.heap.size)
    (hb0 : b0 ≤ l.length) (hX : X.length ≤ 254) :
    Calls Try.prog 27 #[.pointer (some ⟨g, 0, none⟩), .int .i64 b0] W (RowPost l X g B c b0 A W) := by
  have H := Lib.hid h
  have HB := Lib.hid hb
  clear h hb
  go_enter Try.func27, Try.ntmps27
  go_wp2
  go_loopw [6] (fun a wr => ∃ (n : Nat) (ls : List (List UInt8)) (ld : Bool) (to : Int), a = .int .i64 n ∧ n ≤ l.length ∧ RS wr g B A l.length c (X ++ Nm.body ls) ld to ∧ Below B W wr ∧ (X ++ Nm.body ls).length ≤ 254 ∧ Hid (∀ acc o, Pr.fin acc o (Pr.tk l b0 b0 (1 + X.length)) = Pr.fin (acc ++ ls) o (Pr.tk l b0 n (1 + (X ++ Nm.body ls).length)))) (fun a _ => l.length - (intOf a).toNat)
  case atStart => exact ⟨b0, [], ld, to, rfl, hb0, by simpa [Nm.body] using H.out, Below.refl _ _, by simpa [Nm.body] using hX, by intro acc o; simp [Nm.body]⟩
  case round =>
    obtain ⟨n, ls, ld, to, rfl, hn, hrs, hbw, hXl, HF⟩ := hrel
    obtain ⟨Y, hY⟩ : ∃ Y, X ++ Nm.body ls = Y := ⟨_, rfl⟩
    rw [hY] at hrs hXl
    have HY := Lib.hid hY
    have HR := Lib.hid hrs
    have HW := Lib.hid hbw
    have hbs := hbw.size
    have HBr := Lib.hid (HB.out.keep hbw)
    have hF := HF.out
    rw [hY] at hF
    have HF2 := Lib.hid hF
    obtain ⟨hgB, vL, hh1, hh2⟩ := hrs
    have c0 : wr.cell? ⟨g, 0, none⟩ = some (.slice A l.length c) := by rw [hh1.cell]; rfl
    have hT := take_u8 A l c n wr hc hm lo B (HB.out.keep hbw)
    have hh1' := Lib.hid hh1
    clear hY hbw hF HF hh2
    by_cases hlt : n < l.length
    · rw [takeV_ok (by omega), num1 l n hlt] at hT
      have hk8 := (l[n]'hlt).toNat_lt
      obtain ⟨k, hk⟩ : ∃ k, (l[n]'hlt).toNat = k := ⟨_, rfl⟩
      rw [hk] at hT hk8
      have HK := Lib.hid hk
      have HT := Lib.hid hT
      clear hT hk
      by_cases h0 : k = 0
      · subst h0
        have hTE : ∀ acc o, Pr.fin acc o (Pr.tk l b0 b0 (1 + X.length)) = .ok (acc ++ ls) (o.getD (n + 1)) := fun acc o => by
          rw [HF2.out acc o, Pr.tk_end hlt HK.out]; simp [Pr.fin]
        have HTE := Lib.hid hTE
        have f2 := hh1.free 2
        have c2 : wr.cell? ⟨g, 2, none⟩ = some (.bool ld) := by rw [hh1.cell]; rfl
        have hwn : Hid (RS (wr.setCell ⟨g, 2, none⟩ (.bool false)) g B A l.length c Y false to) := by
          obtain ⟨_, vL2, k1, k2⟩ := HR.out
          refine ⟨hgB, vL2, ?_, k2.kept (set_gr _ g 2 _) (.inr (has_ne_own k1 k2 (by decide)).symm)⟩
          exact k1.set 2 (.bool false)
        clear hTE hh1
        go_wp2_with (go_at_call 39; refine HT.out.mono ?_; rintro e w' ⟨rfl, rfl⟩)
        go_ret2
        refine ⟨HW.out.setCell (by show B ≤ g; exact hgB) _, .inr (.inl ⟨ls, n + 1, to, rfl, ?_, ?_, HTE.out⟩)⟩
        · rw [HY.out]; exact hwn.out
        · rw [HY.out]; exact hXl
      · by_cases h1 : 192 ≤ k
        · have hk1 : ((k : Int) == 0) = false := by simp; omega
          by_cases h2 : n + 1 < l.length
          · obtain ⟨p, hp⟩ : ∃ p, ((l[n]'hlt).toNat - 192) * 256 + (l[n + 1]'h2).toNat = p := ⟨_, rfl⟩
            have HPC := Lib.hid (ptr_any g B n b0 c lo B p A l Y ld to wr HR.out hc hm HBr.out h2 (by rw [HK.out]; exact h1) hp)
            by_cases hlp : p < b0
            · have hTE : ∀ acc o, Pr.fin acc o (Pr.tk l b0 b0 (1 + X.length)) = Pr.fin (acc ++ ls) (some (o.getD (n + 2))) (Pr.tk l p p (1 + Y.length)) := fun acc o => by
                rw [HF2.out acc o, Pr.tk_jump _ _ hlt (by rw [HK.out]; exact h1) h2 (by rw [hp]; exact hlp), hp]
              have HTE := Lib.hid hTE
              clear hTE hp hh1
              go_wp2_with (first
                | (go_at_call 39; refine HT.out.mono ?_; rintro e w' ⟨rfl, rfl⟩)
                | (go_at_call 40; refine HPC.out.mono ?_; rw [if_pos hlp]; rintro e w' ⟨rfl, hr5, hb5⟩))
              go_ret2
              refine ⟨HW.out.trans hb5, .inr (.inr ⟨ls, n + 2, p, rfl, ?_, hlp, ?_, ?_⟩)⟩
              · rw [HY.out]; exact hr5
              · rw [HY.out]; exact hXl
              · rw [HY.out]; exact HTE.out
            · have hTE : ∀ acc o, Pr.fin acc o (Pr.tk l b0 b0 (1 + X.length)) = .err 30 := fun acc o => by
                rw [HF2.out acc o, Pr.tk_back hlt (by rw [HK.out]; exact h1) h2 (by rw [hp]; exact hlp)]; rfl
              have HTE := Lib.hid hTE
              clear hTE hp hh1
              go_wp2_with (first
                | (go_at_call 39; refine HT.out.mono ?_; rintro e w' ⟨rfl, rfl⟩)
                | (go_at_call 40; refine HPC.out.mono ?_; rw [if_neg hlp]; rintro e w' ⟨rfl, hr5, hb5⟩))
              go_ret2
              exact ⟨HW.out.trans hb5, .inl ⟨30, rfl, rfl, HTE.out⟩⟩
          · have hTE : ∀ acc o, Pr.fin acc o (Pr.tk l b0 b0 (1 + X.length)) = .err 6 := fun acc o => by
              rw [HF2.out acc o, Pr.tk_short hlt (by rw [HK.out]; exact h1) h2]; rfl
            have HTE := Lib.hid hTE
            have HPC := Lib.hid (ptr_short g B n b0 c lo B A l Y ld to wr HR.out hc hm HBr.out hlt h2)
            clear hTE hh1
            go_wp2_with (first
              | (go_at_call 39; refine HT.out.mono ?_; rintro e w' ⟨rfl, rfl⟩)
              | (go_at_call 40; refine HPC.out.mono ?_; rintro e w' ⟨rfl, rfl⟩))
            go_ret2
            exact ⟨HW.out, .inl ⟨6, rfl, rfl, HTE.out⟩⟩
        · have hk1 : ((k : Int) == 0) = false := by simp; omega
          by_cases h3 : 64 ≤ k
          · have hTE : ∀ acc o, Pr.fin acc o (Pr.tk l b0 b0 (1 + X.length)) = .err 31 := fun acc o => by
              rw [HF2.out acc o, Pr.tk_kind hlt (by rw [HK.out]; exact h3) (by rw [HK.out]; exact h1)]; rfl
            have HTE := Lib.hid hTE
            clear hTE hh1
            go_wp2_with (go_at_call 39; refine HT.out.mono ?_; rintro e w' ⟨rfl, rfl⟩)
            go_ret2
            exact ⟨HW.out, .inl ⟨31, rfl, rfl, HTE.out⟩⟩
          · by_cases h4 : l.length < n + 1 + k
            · have hTE : ∀ acc o, Pr.fin acc o (Pr.tk l b0 b0 (1 + X.length)) = .err 6 := fun acc o => by
                rw [HF2.out acc o, Pr.tk_few hlt (by rw [HK.out]; exact h0) (by rw [HK.out]; exact h3) (by rw [HK.out]; exact h4)]; rfl
              have HTE := Lib.hid hTE
              have HLC := Lib.hid (lab_few g B n c k lo B A l Y ld to wr HR.out hc hm HBr.out hlt HK.out h4)
              clear hTE hh1
              go_wp2_with (first
                | (go_at_call 39; refine HT.out.mono ?_; rintro e w' ⟨rfl, rfl⟩)
                | (go_at_call 41; refine HLC.out.mono ?_; rintro e w' ⟨rfl, rfl⟩))
              go_ret2
              exact ⟨HW.out, .inl ⟨6, rfl, rfl, HTE.out⟩⟩
            · by_cases h5 : 255 < 1 + Y.length + 1 + k
              · have hTE : ∀ acc o, Pr.fin acc o (Pr.tk l b0 b0 (1 + X.length)) = .err 2 := fun acc o => by
                  rw [HF2.out acc o, Pr.tk_long hlt (by rw [HK.out]; exact h0) (by rw [HK.out]; exact h3) (by rw [HK.out]; exact h4) (by rw [HK.out]; exact h5)]; rfl
                have HTE := Lib.hid hTE
                have HLC := Lib.hid (lab_long g B n c k lo B A l Y ld to wr HR.out hc hm HBr.out hlt HK.out (by omega) hXl (by omega))
                clear hTE hh1
                go_wp2_with (first
                  | (go_at_call 39; refine HT.out.mono ?_; rintro e w' ⟨rfl, rfl⟩)
                  | (go_at_call 41; refine HLC.out.mono ?_; rintro e w' ⟨rfl, rfl⟩))
                go_ret2
                exact ⟨HW.out, .inl ⟨2, rfl, rfl, HTE.out⟩⟩
              · have hTE : ∀ acc o, Pr.fin acc o (Pr.tk l b0 b0 (1 + X.length)) = Pr.fin (acc ++ (ls ++ [(l.drop (n + 1)).take k])) o (Pr.tk l b0 (n + 1 + k) (1 + Y.length + 1 + k)) := fun acc o => by
                  rw [HF2.out acc o, Pr.tk_label _ _ hlt (by rw [HK.out]; exact h0) (by rw [HK.out]; exact h3) (by rw [HK.out]; exact h4) (by rw [HK.out]; exact h5), HK.out, List.append_assoc]
                have HTE := Lib.hid hTE
                have HLC := Lib.hid (lab_ok g B n c k lo B A l Y ld to wr HR.out hc hm HBr.out (by omega) hlt HK.out (by omega) (by omega))
                have hll : ((l.drop (n + 1)).take k).length = k := by rw [List.length_take, List.length_drop]; omega
                have HLL := Lib.hid hll
                clear hTE hh1 hll
                go_wp2_with (first
                  | (go_at_call 39; refine HT.out.mono ?_; rintro e w' ⟨rfl, rfl⟩)
                  | (go_at_call 41; refine HLC.out.mono ?_; rintro e w' ⟨rfl, hr5, hb5⟩))
                go_roundw
                case rel =>
                  have hYY : X ++ Nm.body (ls ++ [(l.drop (n + 1)).take k]) = Y ++ Nm.lab ((l.drop (n + 1)).take k) := by rw [body_snoc', ← HY.out, List.append_assoc]
                  have hYl : (Y ++ Nm.lab ((l.drop (n + 1)).take k)).length = Y.length + 1 + k := by rw [List.length_append, Nm.lab_length, HLL.out]; omega
                  refine ⟨n + 1 + k, ls ++ [(l.drop (n + 1)).take k], ld, to, congrArg (Value.int .i64) (by omega), by omega, by rw [hYY]; exact hr5, HW.out.trans hb5, by rw [hYY, hYl]; omega, ?_⟩
                  show ∀ acc o, _
                  intro acc o
                  rw [HTE.out, hYY, hYl]
                  congr 2
                  omega
                case measure => simp [intOf]; omega
    · have hTE : ∀ acc o, Pr.fin acc o (Pr.tk l b0 b0 (1 + X.length)) = .err 6 := fun acc o => by
        rw [HF2.out acc o, Pr.tk_out hlt]; rfl
      have HTE := Lib.hid hTE
      rw [takeV_short (by omega) (by omega)] at hT
      have HT := Lib.hid hT
      clear hTE hT hh1
      go_wp2_with (go_at_call 39; refine HT.out.mono ?_; rintro e w' ⟨rfl, rfl⟩)
      go_ret2
      exact ⟨HW.out, .inl ⟨6, rfl, rfl, HTE.out⟩⟩
end Go.Proofs.Ytfekmolgiohegaa
