/- The document's answer to reading a name in a packet. -/
import Derived.Test.YtfekmolgiohegaaGlue
import Derived.Test.YtfekmolgiohegaaPrPure
import Derived.Laws.AppendOwnNone
namespace Go.Proofs.Ytfekmolgiohegaa
open Go.RowKit

/-- what is told of a reading. -/
def trV : Pr.TR → Value
  | .err e => .tuple #[.string ⟨#[]⟩, .int .i64 0, .int .i64 e]
  | .ok ls bh => .tuple #[sv (Nm.glue ls), .int .i64 bh, .int .i64 0]
/-- what Take answers. -/
def prTakeV (l : List UInt8) (z : Int) : Value :=
  if z < 0 ∨ (l.length : Int) < z then .tuple #[.string ⟨#[]⟩, .int .i64 0, .int .i64 1] else trV (Pr.tk l z.toNat z.toNat 1)
/-- the place behind, as the loop keeps it. -/
def bhI : Option Nat → Int
  | none => -1
  | some n => n

theorem svs_snoc (a : List (List UInt8)) (l : List UInt8) : svs (a ++ [l]) = svs a ++ [sv l] := by simp [svs]
theorem app_small {acc : List (List UInt8)} {x : List UInt8} (h : ∀ y ∈ acc, y.length ≤ 255) (hx : x.length ≤ 255) : ∀ y ∈ acc ++ [x], y.length ≤ 255 := by
  intro y hy
  rcases List.mem_append.1 hy with h1 | h1
  · exact h y h1
  · simp at h1; subst h1; exact hx
/-- one string put behind a row of the call's own. -/
theorem wpList_append_str1 {P : Program} {w : World} {ops : Array Oper} {rest : List Oper} {o : Oper} {a : Act} {Q : Exit → Act → World → Prop} (hgd : o.guard = none) (s x : Operand) (t : TypeId)
    (ho : o.op = .call { callee := .builtin .append, args := #[s, x], argTypes := #[t, t] })
    (e : TypeId) (i : TypeInfo) (z : Value) (ht : P.underlying t = some (.slice e)) (hi : P.info? e = some i) (hz : i.zero = some z)
    (hsize : i.size = 1) (hby : i.bytes = 16) (hzs : z.cells.size = 1)
    (base : Nat) (w0 : World) (v : Value) (n : Nat) (xs : List Value) (hs : a.eval s = v) (hown : w.ownsRow base e 1 v n xs) (hb : Below base w0 w) (hbase : base ≤ w0.heap.size)
    (u : Value) (hu : u.oneCell' = true) (et : TypeId) (hx : a.eval x = .slice (some ⟨w.heap.size, 0, none⟩) 1 1)
    (h63 : n + 1 ≤ 8796093022208)
    (h : ∀ v' w', w'.ownsRow base e 1 v' (n + 1) (xs ++ [u]) → Below base w0 w' → wpList P ops Q rest (a.put o.dst v') w') : wpList P ops Q (o :: rest) a (w.alloc (.cells #[u] et)) := by
  have hbs := hb.size
  refine wpList_append_own _ hgd s x t ho base e i z 1 16 ht hi hz hsize hby hzs (by decide) v n xs hs (hown.alloc _) ⟨w.heap.size, 0, none⟩ 1 1 [u] hx rfl (cell_one_new _ _ _) ?_ (by unfold maxLen; omega) (by omega) (by simp; omega) (fun v' w' h1 h2 _ => h v' w' h1 ?_)
  · intro y hy
    simp at hy
    subst hy
    exact hu
  · exact (hb.alloc (by omega) _).grown h2 (by simp; omega) (fun k hk => (hown.lt k hk).1)

set_option maxHeartbeats 2000000 in
set_option maxRecDepth 100000 in
theorem prRefTake_in (A : Option Addr) (l : List UInt8) (c n : Nat) (w : World) (hc : l.length ≤ c) (hm : l.length ≤ 140737488355328) (lo : Nat) (hr : Bs w lo w.heap.size A l) (hn : n ≤ l.length) :
    Calls Try.prog 17 #[.slice A l.length c, .int .i64 n] w fun e w' => e = .returned (trV (Pr.tk l n n 1)) ∧ Below w.heap.size w w' := by
  obtain ⟨i0, hi, hz0, hz1, hz2⟩ := info_parts Try.infoString
  have HB := Lib.hid hr
  have hd : decide (l.length < n) = false := decide_eq_false (by omega)
  clear hr
  go_enter Try.func17, Try.ntmps17
  go_wp2
  go_loopw [1, 7, 8, 9, 10] (fun s1 s7 s8 s9 s10 wr => ∃ (at_ row size : Nat) (acc : List (List UInt8)) (o : Option Nat), s1 = .int .i64 at_ ∧ s10 = .int .i64 row ∧ s8 = .int .i64 size ∧ s9 = .int .i64 (bhI o) ∧ wr.ownsRow w.heap.size 9 1 s7 acc.length (svs acc) ∧ at_ ≤ l.length ∧ row ≤ l.length ∧ size ≤ 255 ∧ acc.length ≤ size ∧ (∀ x ∈ acc, x.length ≤ 255) ∧ Below w.heap.size w wr ∧ Hid (Pr.fin acc o (Pr.tk l row at_ size) = Pr.tk l n n 1)) (fun s1 _ _ _ s10 _ => (intOf s10).toNat * (l.length + 2) + (l.length + 1 - (intOf s1).toNat))
  case atStart => exact ⟨n, n, 1, [], none, rfl, rfl, rfl, rfl, World.ownsRow_nil _ _ _ _, hn, hn, by omega, by simp, (fun x hx => by cases hx), Below.refl _ _, Pr.fin_nil _⟩
  case round =>
    obtain ⟨at_, row, size, acc, o, rfl, rfl, rfl, rfl, hown, ha, hrow, hsz, hal, hax, hbw, HF⟩ := hrel
    have HO := Lib.hid hown
    have HX := Lib.hid hax
    have HW := Lib.hid hbw
    have hbs := hbw.size
    clear hown hax hbw
    by_cases hlt : at_ < l.length
    · obtain ⟨g0, o0, rfl, _, _, hcl⟩ := (HB.out.keep HW.out) (by omega)
      have hce := hcl at_ hlt
      have hk8 := (l[at_]'hlt).toNat_lt
      have HC := Lib.hid hcl
      clear hcl
      by_cases h0 : (l[at_]'hlt).toNat = 0
      · have hF := HF.out
        rw [Pr.tk_end hlt h0] at hF
        have HE := Lib.hid hF
        clear hF HF
        generalize (l[at_]'hlt).toNat = k at *
        subst h0
        cases o with
        | none =>
          have HE2 : Hid (trV (Pr.tk l n n 1) = .tuple #[sv (Nm.glue acc), .int .i64 ((at_ : Int) + 1), .int .i64 0]) := by show _ = _; rw [← HE.out]; simp [Pr.fin, trV]
          have hbn : bhI none = -1 := rfl
          rw [hbn]
          clear HE hbn
          go_wp2_with (go_at_call 28; refine (Glue_any wr.heap.size _ acc _ (Rd.of_own HO.out) (Nat.le_refl _) (by omega) HX.out).mono ?_; rintro e w5 ⟨rfl, hb5⟩)
          go_ret3
          exact ⟨by rw [HE2.out]; rfl, HW.out.trans (hb5.mono hbs)⟩
        | some b =>
          have HE2 : Hid (trV (Pr.tk l n n 1) = .tuple #[sv (Nm.glue acc), .int .i64 (b : Int), .int .i64 0]) := by show _ = _; rw [← HE.out]; simp [Pr.fin, trV]
          have hbn : bhI (some b) = (b : Int) := rfl
          rw [hbn]
          clear HE hbn
          go_wp2_with (go_at_call 28; refine (Glue_any wr.heap.size _ acc _ (Rd.of_own HO.out) (Nat.le_refl _) (by omega) HX.out).mono ?_; rintro e w5 ⟨rfl, hb5⟩)
          go_ret3
          exact ⟨by rw [HE2.out]; rfl, HW.out.trans (hb5.mono hbs)⟩
      · by_cases h1 : 192 ≤ (l[at_]'hlt).toNat
        · by_cases h2 : at_ + 1 < l.length
          · have hc1 := HC.out (at_ + 1) h2
            have hx8 := (l[at_ + 1]'h2).toNat_lt
            by_cases hp : ((l[at_]'hlt).toNat - 192) * 256 + (l[at_ + 1]'h2).toNat < row
            · have hF := HF.out
              rw [Pr.tk_jump acc o hlt h1 h2 hp] at hF
              have HE := Lib.hid hF
              have HM := Lib.hid (Pr.meas (L := l.length) (a := at_) hp)
              clear hF HF
              generalize (l[at_]'hlt).toNat = k at *
              generalize (l[at_ + 1]'h2).toNat = x at *
              have hpi : ((k : Int) - 192) * 256 + (x : Int) < (row : Int) := by omega
              cases o with
              | none =>
                have hbn : bhI none = -1 := rfl
                rw [hbn]
                clear hbn
                go_wp2
                go_roundw
                case rel => exact ⟨(k - 192) * 256 + x, (k - 192) * 256 + x, size, acc, some (at_ + 2), congrArg (Value.int .i64) (by omega), congrArg (Value.int .i64) (by omega), rfl, congrArg (Value.int .i64) (by simp [bhI]), HO.out, by omega, by omega, hsz, hal, HX.out, HW.out, HE.out⟩
                case measure =>
                  have e : (((k : Int) - 192) * 256 + (x : Int)).toNat = (k - 192) * 256 + x := by omega
                  simp only [intOf, Int.toNat_natCast]
                  rw [e]
                  exact HM.out
              | some b =>
                have hbn : bhI (some b) = (b : Int) := rfl
                rw [hbn]
                clear hbn
                go_wp2
                go_roundw
                case rel => exact ⟨(k - 192) * 256 + x, (k - 192) * 256 + x, size, acc, some b, congrArg (Value.int .i64) (by omega), congrArg (Value.int .i64) (by omega), rfl, rfl, HO.out, by omega, by omega, hsz, hal, HX.out, HW.out, HE.out⟩
                case measure =>
                  have e : (((k : Int) - 192) * 256 + (x : Int)).toNat = (k - 192) * 256 + x := by omega
                  simp only [intOf, Int.toNat_natCast]
                  rw [e]
                  exact HM.out
            · have hpi : (row : Int) ≤ (((l[at_]'hlt).toNat : Int) - 192) * 256 + ((l[at_ + 1]'h2).toNat : Int) := by omega
              have hF := HF.out
              rw [Pr.tk_back hlt h1 h2 hp] at hF
              have HE : Hid (trV (Pr.tk l n n 1) = .tuple #[.string ⟨#[]⟩, .int .i64 0, .int .i64 30]) := by show _ = _; rw [← hF]; rfl
              clear hF HF
              generalize (l[at_]'hlt).toNat = k at *
              generalize (l[at_ + 1]'h2).toNat = x at *
              go_wp2
              all_goals (go_ret3; exact ⟨by rw [HE.out]; rfl, HW.out⟩)
          · have h2i : (l.length : Int) ≤ (at_ : Int) + 1 := by omega
            have hF := HF.out
            rw [Pr.tk_short hlt h1 h2] at hF
            have HE : Hid (trV (Pr.tk l n n 1) = .tuple #[.string ⟨#[]⟩, .int .i64 0, .int .i64 6]) := by show _ = _; rw [← hF]; rfl
            clear hF HF
            generalize (l[at_]'hlt).toNat = k at *
            go_wp2
            go_ret3
            exact ⟨by rw [HE.out]; rfl, HW.out⟩
        · by_cases h3 : 64 ≤ (l[at_]'hlt).toNat
          · have hF := HF.out
            rw [Pr.tk_kind hlt h3 h1] at hF
            have HE : Hid (trV (Pr.tk l n n 1) = .tuple #[.string ⟨#[]⟩, .int .i64 0, .int .i64 31]) := by show _ = _; rw [← hF]; rfl
            clear hF HF
            generalize (l[at_]'hlt).toNat = k at *
            go_wp2
            go_ret3
            exact ⟨by rw [HE.out]; rfl, HW.out⟩
          · by_cases h4 : l.length < at_ + 1 + (l[at_]'hlt).toNat
            · have h4i : (l.length : Int) - (at_ : Int) - 1 < ((l[at_]'hlt).toNat : Int) := by omega
              have hF := HF.out
              rw [Pr.tk_few hlt h0 h3 h4] at hF
              have HE : Hid (trV (Pr.tk l n n 1) = .tuple #[.string ⟨#[]⟩, .int .i64 0, .int .i64 6]) := by show _ = _; rw [← hF]; rfl
              clear hF HF
              generalize (l[at_]'hlt).toNat = k at *
              go_wp2
              go_ret3
              exact ⟨by rw [HE.out]; rfl, HW.out⟩
            · have h4i : ((l[at_]'hlt).toNat : Int) ≤ (l.length : Int) - (at_ : Int) - 1 := by omega
              by_cases h5 : 255 < size + 1 + (l[at_]'hlt).toNat
              · have hF := HF.out
                rw [Pr.tk_long hlt h0 h3 h4 h5] at hF
                have HE : Hid (trV (Pr.tk l n n 1) = .tuple #[.string ⟨#[]⟩, .int .i64 0, .int .i64 2]) := by show _ = _; rw [← hF]; rfl
                clear hF HF
                generalize (l[at_]'hlt).toNat = k at *
                go_wp2
                go_ret3
                exact ⟨by rw [HE.out]; rfl, HW.out⟩
              · have hF := HF.out
                rw [Pr.tk_label acc o hlt h0 h3 h4 h5] at hF
                have HE := Lib.hid hF
                clear hF HF
                generalize (l[at_]'hlt).toNat = k at *
                have HS := Lib.hid (((HB.out.keep HW.out).sub (at_ + 1) k (by omega)))
                have hac : at_ + 1 < c := by omega
                have hl8 : acc.length ≤ 255 := by omega
                go_wp2_with (first
                  | (refine wpList_convert_bs rfl 31 9 (.tmp 89) rfl 5 Try.underlying31 Try.underlying5 Try.underlying9 lo w.heap.size _ _ _ ((l.drop (at_ + 1)).take k) (by rw [List.length_take, List.length_drop]; omega) rfl HS.out ?_)
                  | (at_builtin; refine wpList_append_str1 rfl (.tmp 81) (.tmp 91) _ rfl _ i0 _ Try.underlying63 hi hz0 hz1 hz2 rfl w.heap.size w _ acc.length _ rfl HO.out HW.out (Nat.le_refl _) _ rfl _ rfl (by omega) ?_; intro v6 w6 O6 B6))
                go_roundw
                case rel => exact ⟨at_ + 1 + k, row, size + 1 + k, acc ++ [(l.drop (at_ + 1)).take k], o, congrArg (Value.int .i64) (by omega), rfl, congrArg (Value.int .i64) (by omega), rfl, own_to O6 (by simp) (svs_snoc _ _).symm, by omega, hrow, by omega, by simp; omega, app_small HX.out (by have := List.length_take_le k (l.drop (at_ + 1)); omega), B6, HE.out⟩
                case measure =>
                  simp [intOf]; omega
    · have hF := HF.out
      rw [Pr.tk_out hlt] at hF
      have HE : Hid (trV (Pr.tk l n n 1) = .tuple #[.string ⟨#[]⟩, .int .i64 0, .int .i64 6]) := by show _ = _; rw [← hF]; rfl
      clear hF HF
      go_wp2
      go_ret3
      exact ⟨by rw [HE.out]; rfl, HW.out⟩
theorem prRefTake_any (A : Option Addr) (l : List UInt8) (c : Nat) (z : Int) (w : World) (hc : l.length ≤ c) (hm : l.length ≤ 140737488355328) (lo : Nat) (hr : Bs w lo w.heap.size A l) :
    Calls Try.prog 17 #[.slice A l.length c, .int .i64 z] w fun e w' => e = .returned (prTakeV l z) ∧ Below w.heap.size w w' := by
  unfold prTakeV
  by_cases h0 : z < 0
  · rw [if_pos (.inl h0)]
    go_enter Try.func17, Try.ntmps17
    go_wp2
    go_ret3
    exact ⟨rfl, Below.refl _ _⟩
  · obtain ⟨n, rfl⟩ : ∃ n : Nat, z = n := ⟨z.toNat, by omega⟩
    by_cases h1 : l.length < n
    · rw [if_pos (.inr (by omega))]
      go_enter Try.func17, Try.ntmps17
      go_wp2
      go_ret3
      exact ⟨rfl, Below.refl _ _⟩
    · rw [if_neg (by omega)]
      exact prRefTake_in A l c n w hc hm lo hr (by omega)
end Go.Proofs.Ytfekmolgiohegaa
