/- The document's kinds: the walk. -/
import Derived.Test.YtbmobaomnfchkaaTkRefB
namespace Go.Proofs.Ytbmobaomnfchkaa
open Go.RowKit

/-- what is known of the kinds and of the open parentheses. -/
def KS (w W : World) (n : Nat) (V : Value) (o acc : List Nat) : Prop :=
  W.ownsRow w.heap.size 3 1 V o.length (iv o) ∧ OutIs W w.heap.size n acc ∧ Below w.heap.size w W ∧ ∀ q, V.ownBlock = some q → w.heap.size < q
section
variable {w W : World} {n p : Nat} {V : Value} {o acc : List Nat}
theorem KS.push (h : KS w W n V o acc) (hl : acc.length < n) (k : Nat) (hp : acc.length = p) : KS w (W.setCell ⟨w.heap.size, p, none⟩ (.int .i64 k)) n V o (acc ++ [k]) :=
  ⟨own_off h.1 h.2.2.2, h.2.1.push hl k hp, h.2.2.1.setCell (p := ⟨w.heap.size, p, none⟩) (Nat.le_refl _) _, h.2.2.2⟩
theorem KS.last {j : Nat} (h : KS w W n V o (acc ++ [j])) (k : Nat) (hp : acc.length = p) : KS w (W.setCell ⟨w.heap.size, p, none⟩ (.int .i64 k)) n V o (acc ++ [k]) :=
  ⟨own_off h.1 h.2.2.2, h.2.1.last k hp, h.2.2.1.setCell (p := ⟨w.heap.size, p, none⟩) (Nat.le_refl _) _, h.2.2.2⟩
theorem KS.cell (h : KS w W n V o acc) (hl : acc.length < n) (hp : acc.length = p) : W.cell? ⟨w.heap.size, p, none⟩ = some (.int .i64 0) := by
  subst hp; exact h.2.1.cell hl
theorem KS.free (h : KS w W n V o acc) (i : Nat) : W.frozen? ⟨w.heap.size, i, none⟩ = false := h.2.1.free i
end
theorem rep_succ (k x : Nat) : List.replicate k x ++ [x] = List.replicate (k + 1) x := (List.replicate_succ' ..).symm
theorem ends_of {c : UInt8} {v : Nat} (h : c.toNat = v) (hv : v = 10 ∨ v = 59 ∨ v = 40 ∨ v = 41 ∨ v = 34) : Tk.ends c = true := by
  rcases hv with rfl | rfl | rfl | rfl | rfl <;> simp [Tk.ends, h]
/-- a parenthesis opens. -/
theorem KS.open {w W : World} {n : Nat} {V : Value} {o acc : List Nat} (h : KS w W n V o acc) (hol : o.length < 262144) (p : Nat) {z : Nat} (hz : z = W.heap.size) :
    ∃ v2 w2, (Builtin.append_ #[50, 50] 50 #[V, .slice (some ⟨z, 0, none⟩) 1 1]).run Try.prog (W.alloc (.cells #[.int .i64 p] 3)) = .ok v2 w2 ∧ KS w w2 n v2 (o ++ [p]) acc := by
  subst hz
  obtain ⟨i1, z1, hi1, hz1, hs1, hb1, hc1⟩ := info_int
  have hsw : w.heap.size ≤ W.heap.size := h.2.2.1.size
  have hsz : w.heap.size < W.heap.size := h.2.1.1.lt
  obtain ⟨v2, w2, hr, ho2, hg2, hv2⟩ := run_append_where (P := Try.prog) (w := W.alloc (.cells #[.int .i64 p] 3)) w.heap.size 50 50 3 i1 z1 1 8 Try.underlying50 hi1 hz1 hs1 hb1 hc1 (by decide) _ _ _ (h.1.alloc _) ⟨W.heap.size, 0, none⟩ 1 1 _ rfl (tk_cells_new _ 3 [.int .i64 p]) (by simp [Value.oneCell']) (by decide) (by unfold maxLen; omega) (by omega) (by simp; omega)
  have hne : some w.heap.size ≠ V.ownBlock := fun e => by have := h.2.2.2 _ e.symm; omega
  refine ⟨v2, w2, hr, ?_, (h.2.1.kept (World.grownBy_alloc _ _ none) (by simp)).kept hg2 hne, (h.2.2.1.alloc hsw _).grown hg2 (by simp; omega) (fun q e => Nat.le_of_lt (h.2.2.2 q e)), fun q e => ?_⟩
  · rw [List.length_append, iv_append]; exact ho2
  · rcases hv2 with h2 | h2
    · exact h.2.2.2 q (h2.symm.trans e)
    · rw [h2] at e
      injection e with e
      simp at e
      omega
/-- a parenthesis ends. -/
theorem KS.shut {w W : World} {n m cp : Nat} {ad : Option Addr} {o acc : List Nat} (h : KS w W n (.slice ad (m + 1) cp) o acc) (hm : o.length = m + 1) : KS w W n (.slice ad m cp) o.dropLast acc := by
  have h1 := h.1
  rw [hm] at h1
  have e : o.dropLast.length = m := by rw [List.length_dropLast]; omega
  refine ⟨?_, h.2.1, h.2.2.1, fun q e => h.2.2.2 q (by cases ad with
    | none => simp [Value.ownBlock] at e
    | some _ => simpa [Value.ownBlock] using e)⟩
  rw [e]
  exact own_cut h1
theorem KS.len {w W : World} {n : Nat} {V : Value} {o acc : List Nat} (h : KS w W n V o acc) : ∃ ad cp, V = .slice ad o.length cp ∧ o.length ≤ cp := ownK_form h.1
theorem OutIs.cell2 {w : World} {go n p : Nat} {acc : List Nat} (h : OutIs w go n acc) (hp : acc.length = p) (hl : p + 1 < n) : w.cell? ⟨go, p + 1, none⟩ = some (.int .i64 0) := by
  subst hp
  rw [h.1.cell]
  obtain ⟨m, hm⟩ : ∃ m, n - acc.length = m + 2 := ⟨n - acc.length - 2, by omega⟩
  rw [hm, List.replicate_succ, List.replicate_succ]
  simp [iv]
/-- the first of the open ones. -/
theorem KS.head {w W : World} {n p : Nat} {V : Value} {o acc : List Nat} (h : KS w W n V (p :: o) acc) : ∃ g cp, V = .slice (some ⟨g, 0, none⟩) (o.length + 1) cp ∧ W.cell? ⟨g, 0, none⟩ = some (.int .i64 p) := by
  obtain ⟨g, cp, cur, hv, _, _, _, hh, ht⟩ := ownK_pos h.1 (by simp)
  refine ⟨g, cp, hv, ?_⟩
  have hH : Has W g 3 cur := hh
  rw [hH.cell]
  have e : (cur.toList.take ((p :: o).length * 1))[0]? = some (.int .i64 p) := by rw [ht]; simp [iv]
  rw [List.getElem?_take_of_lt (by simp)] at e
  simpa using e
set_option maxHeartbeats 40000000 in
set_option maxRecDepth 100000 in
theorem kinds_any (s : ByteArray) (w : World) (hs : s.size ≤ 262144) : Calls Try.prog 20 #[.string s] w (KnP s w) := by
  have hl : s.data.toList.length = s.size := by simp
  have HL := Lib.hid hl
  have HSP := Lib.hid special_any
  have HTK := Lib.hid (fun (p : Nat) (W : World) (hp : p < s.size) => takes_any s p W hp (by omega))
  obtain ⟨i1, z1, hi1, hz1, hs1, hb1, hc1⟩ := info_int
  have HINF := Lib.hid (⟨hi1, hz1, hs1, hb1, hc1⟩ : _ ∧ _ ∧ _ ∧ _ ∧ _)
  clear hl hi1 hz1 hs1 hb1 hc1
  go_enter Try.func20, Try.ntmps20
  go_wp2_with (refine wpList_zeros rfl (.tmp 11) (.tmp 11) rfl s.size rfl rfl (by omega) ?_
               intro w1 h1 b1
               have HO1 := Lib.hid h1
               have HB1 := Lib.hid b1
               clear h1 b1)
  obtain ⟨K, hK⟩ : ∃ K, K = Tk.kin (Tk.lx s.data.toList) 0 [] [] := ⟨_, rfl⟩
  have HK := Lib.hid hK
  clear hK
  go_loopw [6, 7] (fun vo ia wr => ∃ (p : Nat) (o acc : List Nat) (V : Value), vo = V ∧ ia = .int .i64 p ∧ p ≤ s.size ∧ acc.length = p ∧ o.length ≤ p ∧ Hid (KS w wr s.size V o acc) ∧ Hid (Tk.kin (Tk.lx (s.data.toList.drop p)) p o acc = K)) (fun _ ia _ => s.size - (intOf ia).toNat)
  case atStart => exact ⟨0, [], [], _, rfl, rfl, Nat.zero_le _, rfl, Nat.le_refl _, ⟨⟨rfl, .inl ⟨rfl, rfl⟩⟩, HO1.out, HB1.out, (fun q e => by cases e)⟩, HK.out.symm⟩
  case round =>
    obtain ⟨p, o, acc, V, rfl, rfl, hp, hap, hop, HS, HKP⟩ := hrel
    obtain ⟨ad, cp, hV, hcpo⟩ := HS.out.len
    subst hV
    by_cases hlt : p < s.size
    · have hd : s.data.toList.drop p = s[p] :: s.data.toList.drop (p + 1) := by rw [nb_drop hlt, nb_at hlt]
      have HD := Lib.hid hd
      have k1 : (p : Int) < (s.size : Int) := by omega
      have z0 := HS.out.cell (by omega) hap
      have f0 := HS.out.free p
      have HS1 := Lib.hid (HS.out.push (by omega) 1 hap)
      have HS2 : Hid (∀ k : Nat, KS w ((wr.setCell ⟨w.heap.size, p, none⟩ (.int .i64 1)).setCell ⟨w.heap.size, p, none⟩ (.int .i64 k)) s.size (.slice ad o.length cp) o (acc ++ [k])) := fun k => HS1.out.last k hap
      clear hd
      by_cases c10 : s[p].toNat = 10
      · have hlx : Tk.lx (s.data.toList.drop p) = .ch s[p] :: Tk.lx (s.data.toList.drop (p + 1)) := by rw [HD.out]; exact Tk.lx_ch (by omega) (by omega) (ends_of c10 (.inl rfl))
        by_cases ho : o = []
        · have HKN : Hid (Tk.kin (Tk.lx (s.data.toList.drop (p + 1))) (p + 1) o (acc ++ [2]) = K) := by rw [Hid, ← HKP.out, hlx, Tk.kin, if_pos ⟨c10, ho⟩]
          subst ho
          have q10 : ((s[p].toNat : Int) == 10) = true := beq_iff_eq.2 (by omega)
          clear c10 hlx
          go_wp2
          go_roundw
          case rel => exact ⟨p + 1, [], acc ++ [2], _, rfl, by go_num, by omega, by simp; omega, Nat.zero_le _, HS2.out 2, HKN.out⟩
          case measure => simp [intOf]; omega
        · have HKN : Hid (Tk.kin (Tk.lx (s.data.toList.drop (p + 1))) (p + 1) o (acc ++ [1]) = K) := by rw [Hid, ← HKP.out, hlx, Tk.kin, if_neg (fun e => ho e.2), if_neg (by omega), if_neg (by omega)]
          have hol : ((o.length : Int) == 0) = false := beq_eq_false_iff_ne.2 (by have := List.length_pos_iff.2 ho; omega)
          have HE := Lib.hid (HSP.out s[p])
          rw [ends_of c10 (.inl rfl)] at HE
          have q10 : ((s[p].toNat : Int) == 10) = true := beq_iff_eq.2 (by omega)
          have q59 : ((s[p].toNat : Int) == 59) = false := beq_eq_false_iff_ne.2 (by omega)
          have q40 : ((s[p].toNat : Int) == 40) = false := beq_eq_false_iff_ne.2 (by omega)
          have q41 : ((s[p].toNat : Int) == 41) = false := beq_eq_false_iff_ne.2 (by omega)
          have q34 : ((s[p].toNat : Int) == 34) = false := beq_eq_false_iff_ne.2 (by omega)
          clear c10 hlx ho
          go_wp2_with (go_at_call 33; refine (HE.out _).mono ?_; rintro e w5 ⟨rfl, hw5⟩; subst hw5)
          go_roundw
          case rel => exact ⟨p + 1, o, acc ++ [1], _, rfl, by go_num, by omega, by simp; omega, by omega, HS1.out, HKN.out⟩
          case measure => simp [intOf]; omega
      by_cases c59 : s[p].toNat = 59
      · have hkl := Tk.remLen_le (s.data.toList.drop (p + 1))
        rw [List.length_drop, HL.out] at hkl
        have hlx : Tk.lx (s.data.toList.drop p) = .rem (s[p] :: (s.data.toList.drop (p + 1)).take (Tk.remLen (s.data.toList.drop (p + 1)))) :: Tk.lx (s.data.toList.drop (p + 1 + Tk.remLen (s.data.toList.drop (p + 1)))) := by rw [HD.out, Tk.lx_rem c59, List.drop_drop]
        have HKN : Hid (Tk.kin (Tk.lx (s.data.toList.drop (p + 1 + Tk.remLen (s.data.toList.drop (p + 1))))) (p + 1 + Tk.remLen (s.data.toList.drop (p + 1))) o (acc ++ List.replicate (Tk.remLen (s.data.toList.drop (p + 1)) + 1) 1) = K) := by
          rw [Hid, ← HKP.out, hlx, Tk.kin]
          have e : (s[p] :: (s.data.toList.drop (p + 1)).take (Tk.remLen (s.data.toList.drop (p + 1)))).length = Tk.remLen (s.data.toList.drop (p + 1)) + 1 := by
            rw [List.length_cons, List.length_take, List.length_drop, HL.out]
            omega
          rw [e, show p + 1 + Tk.remLen (s.data.toList.drop (p + 1)) = p + (Tk.remLen (s.data.toList.drop (p + 1)) + 1) by omega]
        have q10 : ((s[p].toNat : Int) == 10) = false := beq_eq_false_iff_ne.2 (by omega)
        have q59 : ((s[p].toNat : Int) == 59) = true := beq_iff_eq.2 (by omega)
        clear c59 c10 hlx hkl
        go_wp2
        go_loopw [7] (fun ia wr => ∃ p2 : Nat, ia = .int .i64 p2 ∧ p ≤ p2 ∧ p2 < s.size ∧ Hid (p2 + 1 + Tk.remLen (s.data.toList.drop (p2 + 1)) = p + 1 + Tk.remLen (s.data.toList.drop (p + 1))) ∧ Hid (KS w wr s.size (.slice ad o.length cp) o (acc ++ List.replicate (p2 - p + 1) 1))) (fun ia _ => s.size - (intOf ia).toNat)
        case atStart => exact ⟨p, rfl, Nat.le_refl _, hlt, rfl, by rw [Nat.sub_self]; exact HS1.out⟩
        case round =>
          obtain ⟨p2, rfl, hpp, hp2, HR, HS3⟩ := hrel
          by_cases hn : p2 + 1 < s.size
          · have n1 : (p2 : Int) + 1 < (s.size : Int) := by omega
            by_cases hc : s[p2 + 1].toNat = 10
            · have qc : ((s[p2 + 1].toNat : Int) != 10) = false := by simp; omega
              have h0 : p2 + 1 = p + 1 + Tk.remLen (s.data.toList.drop (p + 1)) := by
                rw [← HR.out, nb_drop hn, Tk.remLen, if_pos (by rw [nb_at hn]; exact hc)]
              have H0 := Lib.hid h0
              clear hc h0
              go_wp2
              go_roundw
              case rel =>
                refine ⟨p2 + 1, o, _, _, rfl, by go_num, by omega, ?_, by omega, HS3.out, ?_⟩
                · simp; omega
                · rw [Hid, H0.out, show p2 - p = Tk.remLen (s.data.toList.drop (p + 1)) by have := H0.out; omega]
                  exact HKN.out
              case measure => simp [intOf]; omega
            · have qc : ((s[p2 + 1].toNat : Int) != 10) = true := by simp; omega
              have HR2 : Hid (p2 + 1 + 1 + Tk.remLen (s.data.toList.drop (p2 + 1 + 1)) = p + 1 + Tk.remLen (s.data.toList.drop (p + 1))) := by
                rw [Hid, ← HR.out]
                rw [nb_drop hn, Tk.remLen, if_neg (by rw [nb_at hn]; exact hc)]
                omega
              have hal : (acc ++ List.replicate (p2 - p + 1) 1).length = p2 + 1 := by simp; omega
              have z1 := HS3.out.cell (by omega) hal
              have f1 := HS3.out.free (p2 + 1)
              have HS4 := Lib.hid (HS3.out.push (by omega) 1 hal)
              clear hc hal
              go_wp2
              go_roundw
              case rel => exact ⟨p2 + 1, by go_num, by omega, by omega, HR2.out, by
                have h := HS4.out
                rw [List.append_assoc, rep_succ] at h
                rw [Hid, show p2 + 1 - p + 1 = p2 - p + 1 + 1 by omega]
                exact h⟩
              case measure => simp [intOf]; omega
          · have n1 : ¬ (p2 : Int) + 1 < (s.size : Int) := by omega
            have h0 : p2 + 1 = p + 1 + Tk.remLen (s.data.toList.drop (p + 1)) := by
              rw [← HR.out, drop_end (by omega)]
              rfl
            have H0 := Lib.hid h0
            clear h0
            go_wp2
            go_roundw
            case rel =>
              refine ⟨p2 + 1, o, _, _, rfl, by go_num, by omega, ?_, by omega, HS3.out, ?_⟩
              · simp; omega
              · rw [Hid, H0.out, show p2 - p = Tk.remLen (s.data.toList.drop (p + 1)) by have := H0.out; omega]
                exact HKN.out
            case measure => simp [intOf]; omega
      by_cases c40 : s[p].toNat = 40
      · have hlx : Tk.lx (s.data.toList.drop p) = .ch s[p] :: Tk.lx (s.data.toList.drop (p + 1)) := by rw [HD.out]; exact Tk.lx_ch (by omega) (by omega) (ends_of c40 (.inr (.inr (.inl rfl))))
        have HKN : Hid (Tk.kin (Tk.lx (s.data.toList.drop (p + 1))) (p + 1) (o ++ [p]) (acc ++ [1]) = K) := by rw [Hid, ← HKP.out, hlx, Tk.kin, if_neg (fun e => c10 e.1), if_pos c40]
        have q10 : ((s[p].toNat : Int) == 10) = false := beq_eq_false_iff_ne.2 (by omega)
        have q59 : ((s[p].toNat : Int) == 59) = false := beq_eq_false_iff_ne.2 (by omega)
        have q40 : ((s[p].toNat : Int) == 40) = true := beq_iff_eq.2 (by omega)
        obtain ⟨v2, w2, hr, hks⟩ := HS1.out.open (by omega) p (z := wr.heap.size) (by simp [World.setCell])
        have HS4 := Lib.hid hks
        have HR := Lib.hid hr
        clear c40 c10 c59 hlx hr hks
        go_wp2_with (at_builtin
                     refine wpList_append_run rfl (.tmp 57) (.tmp 59) _ _ rfl (.slice ad o.length cp) _ rfl rfl (R := fun v W => v = v2 ∧ W = w2) ⟨_, _, HR.out, rfl, rfl⟩ ?_
                     rintro _ _ ⟨rfl, rfl⟩)
        go_roundw
        case rel => exact ⟨p + 1, o ++ [p], acc ++ [1], _, rfl, by go_num, by omega, by simp; omega, by simp; omega, HS4.out, HKN.out⟩
        case measure => simp [intOf]; omega
      by_cases c41 : s[p].toNat = 41
      · have hlx : Tk.lx (s.data.toList.drop p) = .ch s[p] :: Tk.lx (s.data.toList.drop (p + 1)) := by rw [HD.out]; exact Tk.lx_ch (by omega) (by omega) (ends_of c41 (.inr (.inr (.inr (.inl rfl)))))
        have q10 : ((s[p].toNat : Int) == 10) = false := beq_eq_false_iff_ne.2 (by omega)
        have q59 : ((s[p].toNat : Int) == 59) = false := beq_eq_false_iff_ne.2 (by omega)
        have q40 : ((s[p].toNat : Int) == 40) = false := beq_eq_false_iff_ne.2 (by omega)
        have q41 : ((s[p].toNat : Int) == 41) = true := beq_iff_eq.2 (by omega)
        by_cases ho : o = []
        · have HR : Hid (K = .err p 81) := by rw [Hid, ← HKP.out, hlx, Tk.kin, if_neg (fun e => c10 e.1), if_neg c40, if_pos c41, if_pos ho]; rfl
          subst ho
          clear c41 c40 c10 c59 hlx
          go_wp2
          refine bodyPost_ret (results_tmp3 rfl _ _ _) rfl ?_
          refine ⟨HS1.out.2.2.1, ?_⟩
          rw [← HK.out, HR.out]
          rfl
        · obtain ⟨m, hm⟩ : ∃ m, o.length = m + 1 := ⟨o.length - 1, by have := List.length_pos_iff.2 ho; omega⟩
          have HKN : Hid (Tk.kin (Tk.lx (s.data.toList.drop (p + 1))) (p + 1) o.dropLast (acc ++ [1]) = K) := by rw [Hid, ← HKP.out, hlx, Tk.kin, if_neg (fun e => c10 e.1), if_neg c40, if_pos c41, if_neg ho]
          have HS4 : Hid (KS w (wr.setCell ⟨w.heap.size, p, none⟩ (.int .i64 1)) s.size (.slice ad m cp) o.dropLast (acc ++ [1])) := by
            have h1 := HS1.out
            rw [hm] at h1
            exact h1.shut hm
          have HDL : Hid (o.dropLast.length ≤ p) := by rw [Hid, List.length_dropLast]; omega
          have hcpm : m + 1 ≤ cp := by omega
          rw [hm]
          have hmm : m ≤ 1048576 := by omega
          clear c41 c40 c10 c59 hlx ho
          have i2 : (0 : Int) ≤ (m : Int) := by omega
          have i3 : (m : Int) ≤ (cp : Int) := by omega
          go_wp2
          go_roundw
          case rel => exact ⟨p + 1, o.dropLast, acc ++ [1], _, rfl, by go_num, by omega, by simp; omega, by have := HDL.out; omega, HS4.out, HKN.out⟩
          case measure => simp [intOf]; omega
      by_cases c34 : s[p].toNat = 34
      · have HQ1 : Hid (Tk.quoLen (s.data.toList.drop (p + 1)) = none → K = .err p Tk.eQuote) := by
          rw [Hid]
          intro hq
          rw [← HKP.out, HD.out, Tk.lx_bad c34 hq]
          rfl
        have HQ2 : Hid (∀ k, Tk.quoLen (s.data.toList.drop (p + 1)) = some k → Tk.kin (Tk.lx (s.data.toList.drop (p + (k + 2)))) (p + (k + 2)) o (acc ++ 5 :: List.replicate (k + 1) 4) = K) := by
          rw [Hid]
          intro k hq
          have hk := Tk.quoLen_lt _ _ hq
          rw [← HKP.out, HD.out, Tk.lx_quo c34 hq, Tk.kin, List.drop_drop]
          have e : ((s.data.toList.drop (p + 1)).take k).length = k := by rw [List.length_take]; omega
          rw [e, show p + 1 + (k + 1) = p + (k + 2) by omega]
        have HS5 : Hid (KS w ((wr.setCell ⟨w.heap.size, p, none⟩ (.int .i64 1)).setCell ⟨w.heap.size, p, none⟩ (.int .i64 5)) s.size (.slice ad o.length cp) o (acc ++ [5])) := HS2.out 5
        have q10 : ((s[p].toNat : Int) == 10) = false := beq_eq_false_iff_ne.2 (by omega)
        have q59 : ((s[p].toNat : Int) == 59) = false := beq_eq_false_iff_ne.2 (by omega)
        have q40 : ((s[p].toNat : Int) == 40) = false := beq_eq_false_iff_ne.2 (by omega)
        have q41 : ((s[p].toNat : Int) == 41) = false := beq_eq_false_iff_ne.2 (by omega)
        have q34 : ((s[p].toNat : Int) == 34) = true := beq_iff_eq.2 (by omega)
        clear c34 c10 c40 c41 c59 HS2 HS1
        go_wp2
        go_loopw [7] (fun ia wr => ∃ p2 : Nat, ia = .int .i64 p2 ∧ p + 1 ≤ p2 ∧ p2 ≤ s.size ∧ Hid (Tk.quoLen (s.data.toList.drop (p + 1)) = (Tk.quoLen (s.data.toList.drop p2)).map (p2 - (p + 1) + ·)) ∧ Hid (KS w wr s.size (.slice ad o.length cp) o (acc ++ 5 :: List.replicate (p2 - p - 1) 4))) (fun ia _ => s.size - (intOf ia).toNat)
        case atStart =>
          refine ⟨p + 1, by go_num, Nat.le_refl _, hlt, ?_, ?_⟩
          · rw [Hid]; simp
          · rw [show p + 1 - p - 1 = 0 by omega]; exact HS5.out
        case round =>
          obtain ⟨p2, rfl, hpp, hp2, HR, HS3⟩ := hrel
          by_cases hn : p2 < s.size
          · have n1 : (p2 : Int) < (s.size : Int) := by omega
            have n2 : ¬ (s.size : Int) ≤ (p2 : Int) := by omega
            have n3 : ¬ (s.size : Nat) ≤ p2 := by omega
            by_cases hc : s[p2].toNat = 10
            · have qc : ((s[p2].toNat : Int) != 10) = false := by simp; omega
              have qd : ((s[p2].toNat : Int) == 10) = true := by simp; omega
              have HE : Hid (K = .err p Tk.eQuote) := HQ1.out (by rw [HR.out, nb_drop hn, Tk.quoLen_lf (by rw [nb_at hn]; exact hc)]; rfl)
              clear hc
              go_wp2
              refine bodyPost_ret (results_tmp3 rfl _ _ _) rfl ?_
              refine ⟨HS3.out.2.2.1, ?_⟩
              rw [← HK.out, HE.out]
              rfl
            · by_cases hq : s[p2].toNat = 34
              · have qc : ((s[p2].toNat : Int) != 10) = true := by simp; omega
                have qd : ((s[p2].toNat : Int) == 10) = false := by simp; omega
                have qe : ((s[p2].toNat : Int) != 34) = false := by simp; omega
                have HE := HQ2.out (p2 - (p + 1)) (by rw [HR.out, nb_drop hn, Tk.quoLen_q (by rw [nb_at hn]; exact hq)]; rfl)
                rw [show p + (p2 - (p + 1) + 2) = p2 + 1 by omega] at HE
                have HE2 := Lib.hid HE
                have hal : (acc ++ 5 :: List.replicate (p2 - p - 1) 4).length = p2 := by simp; omega
                have z1 := HS3.out.cell (by omega) hal
                have f1 := HS3.out.free p2
                have HS4 := Lib.hid (HS3.out.push (by omega) 4 hal)
                clear hc hq hal HE
                go_wp2
                go_roundw
                case rel =>
                  refine ⟨p2 + 1, o, acc ++ 5 :: List.replicate (p2 - (p + 1) + 1) 4, _, rfl, by go_num, by omega, ?_, by omega, ?_, HE2.out⟩
                  · simp; omega
                  · have h := HS4.out
                    rw [List.append_assoc, List.cons_append, rep_succ, show p2 - p - 1 = p2 - (p + 1) by omega] at h
                    exact h
                case measure => simp [intOf]; omega
              · have qc : ((s[p2].toNat : Int) != 10) = true := by simp; omega
                have qe : ((s[p2].toNat : Int) != 34) = true := by simp; omega
                have HR2 := Lib.hid (quo_step hpp hn (by rw [nb_at hn]; exact hc) (by rw [nb_at hn]; exact hq) HR.out)
                have hal : (acc ++ 5 :: List.replicate (p2 - p - 1) 4).length = p2 := by simp; omega
                have z1 := HS3.out.cell (by omega) hal
                have f1 := HS3.out.free p2
                have HS4 := Lib.hid (HS3.out.push (by omega) 4 hal)
                have hle2 := tk1_le hn
                have htt := tk1_two s p2
                clear hc hq
                by_cases ht : tk1 s p2 = 2
                · rw [ht] at HR2 hle2
                  have b1 : (tk1 s p2 == 2) = true := by rw [ht]; rfl
                  have z2 := HS3.out.2.1.cell2 hal (by omega)
                  have f2 := HS3.out.free (p2 + 1)
                  have n4 : (p2 : Int) + 1 < (s.size : Int) := by omega
                  have HS6 := Lib.hid (HS4.out.push (p := p2 + 1) (by simp; omega) 4 (by simp; omega))
                  clear hal ht htt
                  go_wp2_with (go_at_call 32; refine (HTK.out p2 _ hn).mono ?_; rintro e w5 ⟨rfl, hw5⟩; subst hw5; simp only [b1])
                  go_roundw
                  case rel =>
                    refine ⟨p2 + 2, by go_num, by omega, by omega, HR2.out, ?_⟩
                    have h := HS6.out
                    rw [List.append_assoc, List.append_assoc, List.cons_append] at h
                    rw [Hid, show p2 + 2 - p - 1 = p2 - p - 1 + 1 + 1 by omega, ← rep_succ, ← rep_succ, List.append_assoc]
                    exact h
                  case measure => simp [intOf]; omega
                · have ht1 : tk1 s p2 = 1 := by omega
                  rw [ht1] at HR2
                  have b1 : (tk1 s p2 == 2) = false := by rw [ht1]; rfl
                  clear hal ht htt hle2 ht1
                  go_wp2_with (go_at_call 32; refine (HTK.out p2 _ hn).mono ?_; rintro e w5 ⟨rfl, hw5⟩; subst hw5; simp only [b1])
                  go_roundw
                  case rel =>
                    refine ⟨p2 + 1, by go_num, by omega, by omega, HR2.out, ?_⟩
                    have h := HS4.out
                    rw [List.append_assoc, List.cons_append, rep_succ] at h
                    rw [Hid, show p2 + 1 - p - 1 = p2 - p - 1 + 1 by omega]
                    exact h
                  case measure => simp [intOf]; omega
          · have n1 : ¬ (p2 : Int) < (s.size : Int) := by omega
            have n2 : (s.size : Int) ≤ (p2 : Int) := by omega
            have HE : Hid (K = .err p Tk.eQuote) := HQ1.out (by rw [HR.out, drop_end (by omega)]; rfl)
            go_wp2
            refine bodyPost_ret (results_tmp3 rfl _ _ _) rfl ?_
            refine ⟨HS3.out.2.2.1, ?_⟩
            rw [← HK.out, HE.out]
            rfl
      cases he : Tk.ends s[p] with
      | true =>
        have hlx : Tk.lx (s.data.toList.drop p) = .ch s[p] :: Tk.lx (s.data.toList.drop (p + 1)) := by rw [HD.out]; exact Tk.lx_ch (by omega) (by omega) he
        have HKN : Hid (Tk.kin (Tk.lx (s.data.toList.drop (p + 1))) (p + 1) o (acc ++ [1]) = K) := by rw [Hid, ← HKP.out, hlx, Tk.kin, if_neg (fun e => c10 e.1), if_neg c40, if_neg c41]
        have HE := Lib.hid (HSP.out s[p])
        rw [he] at HE
        have q10 : ((s[p].toNat : Int) == 10) = false := beq_eq_false_iff_ne.2 (by omega)
        have q59 : ((s[p].toNat : Int) == 59) = false := beq_eq_false_iff_ne.2 (by omega)
        have q40 : ((s[p].toNat : Int) == 40) = false := beq_eq_false_iff_ne.2 (by omega)
        have q41 : ((s[p].toNat : Int) == 41) = false := beq_eq_false_iff_ne.2 (by omega)
        have q34 : ((s[p].toNat : Int) == 34) = false := beq_eq_false_iff_ne.2 (by omega)
        clear c10 c34 c40 c41 c59 he hlx HS2
        go_wp2_with (go_at_call 33; refine (HE.out _).mono ?_; rintro e w5 ⟨rfl, hw5⟩; subst hw5)
        go_roundw
        case rel => exact ⟨p + 1, o, acc ++ [1], _, rfl, by go_num, by omega, by simp; omega, by omega, HS1.out, HKN.out⟩
        case measure => simp [intOf]; omega
      | false =>
        have hbp : 1 ≤ Tk.bareLen (s.data.toList.drop p) := by rw [HD.out]; exact Tk.bareLen_pos he
        have hbl := Tk.bareLen_le (s.data.toList.drop p)
        have HKN : Hid (Tk.kin (Tk.lx (s.data.toList.drop (p + Tk.bareLen (s.data.toList.drop p)))) (p + Tk.bareLen (s.data.toList.drop p)) o (acc ++ 3 :: List.replicate (Tk.bareLen (s.data.toList.drop p) - 1) 4) = K) := by
          rw [Hid, ← HKP.out]
          have hlx : Tk.lx (s.data.toList.drop p) = .bare ((s.data.toList.drop p).take (Tk.bareLen (s.data.toList.drop p))) :: Tk.lx (s.data.toList.drop (p + Tk.bareLen (s.data.toList.drop p))) := by
            rw [← List.drop_drop, HD.out]; exact Tk.lx_bare he
          rw [hlx, Tk.kin]
          have e : ((s.data.toList.drop p).take (Tk.bareLen (s.data.toList.drop p))).length = Tk.bareLen (s.data.toList.drop p) := by rw [List.length_take]; omega
          rw [e]
        have HB := Lib.hid (bare_step hlt (by rw [nb_at hlt]; exact he) rfl)
        have HE := Lib.hid (HSP.out s[p])
        rw [he] at HE
        have q10 : ((s[p].toNat : Int) == 10) = false := beq_eq_false_iff_ne.2 (by omega)
        have q59 : ((s[p].toNat : Int) == 59) = false := beq_eq_false_iff_ne.2 (by omega)
        have q40 : ((s[p].toNat : Int) == 40) = false := beq_eq_false_iff_ne.2 (by omega)
        have q41 : ((s[p].toNat : Int) == 41) = false := beq_eq_false_iff_ne.2 (by omega)
        have q34 : ((s[p].toNat : Int) == 34) = false := beq_eq_false_iff_ne.2 (by omega)
        have HS5 : Hid (KS w ((wr.setCell ⟨w.heap.size, p, none⟩ (.int .i64 1)).setCell ⟨w.heap.size, p, none⟩ (.int .i64 3)) s.size (.slice ad o.length cp) o (acc ++ [3])) := HS2.out 3
        have hle3 := tk1_le hlt
        have htt3 := tk1_two s p
        clear c10 c34 c40 c41 c59 he HS2 HS1 hbp hbl
        by_cases ht3 : tk1 s p = 2
        · rw [ht3] at HB hle3
          have b3 : (tk1 s p == 2) = true := by rw [ht3]; rfl
          have z3 := HS.out.2.1.cell2 hap (by omega)
          have f3 := HS.out.free (p + 1)
          have HS7 := Lib.hid (HS5.out.push (p := p + 1) (by simp; omega) 4 (by simp; omega))
          have n5 : (p : Int) + 1 < (s.size : Int) := by omega
          clear ht3 htt3
          go_wp2_with (first
            | go_at_call 33; refine (HE.out _).mono ?_; rintro e w5 ⟨rfl, hw5⟩; subst hw5
            | go_at_call 32; refine (HTK.out p _ hlt).mono ?_; rintro e w5 ⟨rfl, hw5⟩; subst hw5; simp only [b3])
          go_loopw [7] (fun ia wr => ∃ p2 : Nat, ia = .int .i64 p2 ∧ p ≤ p2 ∧ p2 < s.size ∧ Hid (p2 + 1 + Tk.bareLen (s.data.toList.drop (p2 + 1)) = p + Tk.bareLen (s.data.toList.drop p)) ∧ Hid (KS w wr s.size (.slice ad o.length cp) o (acc ++ 3 :: List.replicate (p2 - p) 4))) (fun ia _ => s.size - (intOf ia).toNat)
          case atStart => exact ⟨p + 1, by go_num, by omega, by omega, HB.out, by
              have h := HS7.out
              rw [List.append_assoc] at h
              rw [Hid, show p + 1 - p = 1 by omega]; exact h⟩
          case round =>
            obtain ⟨p2, rfl, hpp, hp2, HR, HS3⟩ := hrel
            by_cases hn : p2 + 1 < s.size
            · have n1 : (p2 : Int) + 1 < (s.size : Int) := by omega
              have HC := Lib.hid (HSP.out s[p2 + 1])
              cases he : Tk.ends s[p2 + 1] with
              | true =>
                rw [he] at HC
                have h0 : p2 + 1 = p + Tk.bareLen (s.data.toList.drop p) := by
                  rw [← HR.out, nb_drop hn, Tk.bareLen_end (by rw [nb_at hn]; exact he)]
                have H0 := Lib.hid h0
                clear he h0
                go_wp2_with (go_at_call 33; refine (HC.out _).mono ?_; rintro e w5 ⟨rfl, hw5⟩; subst hw5)
                go_roundw
                case rel =>
                  refine ⟨p2 + 1, o, _, _, rfl, by go_num, by omega, ?_, by omega, HS3.out, ?_⟩
                  · simp; omega
                  · have h := HKN.out
                    rw [← H0.out, show Tk.bareLen (s.data.toList.drop p) - 1 = p2 - p by have := H0.out; omega] at h
                    exact h
                case measure => simp [intOf]; omega
              | false =>
                rw [he] at HC
                have HR2 := Lib.hid (bare_step hn (by rw [nb_at hn]; exact he) HR.out)
                have hal : (acc ++ 3 :: List.replicate (p2 - p) 4).length = p2 + 1 := by simp; omega
                have z1 := HS3.out.cell (by omega) hal
                have f1 := HS3.out.free (p2 + 1)
                have HS4 := Lib.hid (HS3.out.push (by omega) 4 hal)
                have hle2 := tk1_le hn
                have htt := tk1_two s (p2 + 1)
                clear he
                by_cases ht : tk1 s (p2 + 1) = 2
                · rw [ht] at HR2 hle2
                  have b1 : (tk1 s (p2 + 1) == 2) = true := by rw [ht]; rfl
                  have z2 := HS3.out.2.1.cell2 hal (by omega)
                  have f2 := HS3.out.free (p2 + 1 + 1)
                  have n4 : (p2 : Int) + 1 + 1 < (s.size : Int) := by omega
                  have HS6 := Lib.hid (HS4.out.push (p := p2 + 1 + 1) (by simp; omega) 4 (by simp; omega))
                  clear hal ht htt
                  go_wp2_with (first
                    | go_at_call 33; refine (HC.out _).mono ?_; rintro e w5 ⟨rfl, hw5⟩; subst hw5
                    | go_at_call 32; refine (HTK.out (p2 + 1) _ hn).mono ?_; rintro e w5 ⟨rfl, hw5⟩; subst hw5; simp only [b1])
                  go_roundw
                  case rel =>
                    refine ⟨p2 + 1 + 1, by go_num, by omega, by omega, HR2.out, ?_⟩
                    have h := HS6.out
                    rw [List.append_assoc, List.append_assoc, List.cons_append] at h
                    rw [Hid, show p2 + 1 + 1 - p = p2 - p + 1 + 1 by omega, ← rep_succ, ← rep_succ, List.append_assoc]
                    exact h
                  case measure => simp [intOf]; omega
                · have ht1 : tk1 s (p2 + 1) = 1 := by omega
                  rw [ht1] at HR2
                  have b1 : (tk1 s (p2 + 1) == 2) = false := by rw [ht1]; rfl
                  clear hal ht htt hle2 ht1
                  go_wp2_with (first
                    | go_at_call 33; refine (HC.out _).mono ?_; rintro e w5 ⟨rfl, hw5⟩; subst hw5
                    | go_at_call 32; refine (HTK.out (p2 + 1) _ hn).mono ?_; rintro e w5 ⟨rfl, hw5⟩; subst hw5; simp only [b1])
                  go_roundw
                  case rel =>
                    refine ⟨p2 + 1, by go_num, by omega, by omega, HR2.out, ?_⟩
                    have h := HS4.out
                    rw [List.append_assoc, List.cons_append, rep_succ] at h
                    rw [Hid, show p2 + 1 - p = p2 - p + 1 by omega]
                    exact h
                  case measure => simp [intOf]; omega
            · have n1 : ¬ (p2 : Int) + 1 < (s.size : Int) := by omega
              have h0 : p2 + 1 = p + Tk.bareLen (s.data.toList.drop p) := by
                rw [← HR.out, drop_end (by omega)]
                rfl
              have H0 := Lib.hid h0
              clear h0
              go_wp2
              go_roundw
              case rel =>
                refine ⟨p2 + 1, o, _, _, rfl, by go_num, by omega, ?_, by omega, HS3.out, ?_⟩
                · simp; omega
                · have h := HKN.out
                  rw [← H0.out, show Tk.bareLen (s.data.toList.drop p) - 1 = p2 - p by have := H0.out; omega] at h
                  exact h
              case measure => simp [intOf]; omega
        · have ht1 : tk1 s p = 1 := by omega
          rw [ht1] at HB
          have b3 : (tk1 s p == 2) = false := by rw [ht1]; rfl
          clear ht3 htt3 hle3 ht1
          go_wp2_with (first
            | go_at_call 33; refine (HE.out _).mono ?_; rintro e w5 ⟨rfl, hw5⟩; subst hw5
            | go_at_call 32; refine (HTK.out p _ hlt).mono ?_; rintro e w5 ⟨rfl, hw5⟩; subst hw5; simp only [b3])
          go_loopw [7] (fun ia wr => ∃ p2 : Nat, ia = .int .i64 p2 ∧ p ≤ p2 ∧ p2 < s.size ∧ Hid (p2 + 1 + Tk.bareLen (s.data.toList.drop (p2 + 1)) = p + Tk.bareLen (s.data.toList.drop p)) ∧ Hid (KS w wr s.size (.slice ad o.length cp) o (acc ++ 3 :: List.replicate (p2 - p) 4))) (fun ia _ => s.size - (intOf ia).toNat)
          case atStart => exact ⟨p, by go_num, by omega, by omega, HB.out, by rw [Hid, Nat.sub_self]; exact HS5.out⟩
          case round =>
            obtain ⟨p2, rfl, hpp, hp2, HR, HS3⟩ := hrel
            by_cases hn : p2 + 1 < s.size
            · have n1 : (p2 : Int) + 1 < (s.size : Int) := by omega
              have HC := Lib.hid (HSP.out s[p2 + 1])
              cases he : Tk.ends s[p2 + 1] with
              | true =>
                rw [he] at HC
                have h0 : p2 + 1 = p + Tk.bareLen (s.data.toList.drop p) := by
                  rw [← HR.out, nb_drop hn, Tk.bareLen_end (by rw [nb_at hn]; exact he)]
                have H0 := Lib.hid h0
                clear he h0
                go_wp2_with (go_at_call 33; refine (HC.out _).mono ?_; rintro e w5 ⟨rfl, hw5⟩; subst hw5)
                go_roundw
                case rel =>
                  refine ⟨p2 + 1, o, _, _, rfl, by go_num, by omega, ?_, by omega, HS3.out, ?_⟩
                  · simp; omega
                  · have h := HKN.out
                    rw [← H0.out, show Tk.bareLen (s.data.toList.drop p) - 1 = p2 - p by have := H0.out; omega] at h
                    exact h
                case measure => simp [intOf]; omega
              | false =>
                rw [he] at HC
                have HR2 := Lib.hid (bare_step hn (by rw [nb_at hn]; exact he) HR.out)
                have hal : (acc ++ 3 :: List.replicate (p2 - p) 4).length = p2 + 1 := by simp; omega
                have z1 := HS3.out.cell (by omega) hal
                have f1 := HS3.out.free (p2 + 1)
                have HS4 := Lib.hid (HS3.out.push (by omega) 4 hal)
                have hle2 := tk1_le hn
                have htt := tk1_two s (p2 + 1)
                clear he
                by_cases ht : tk1 s (p2 + 1) = 2
                · rw [ht] at HR2 hle2
                  have b1 : (tk1 s (p2 + 1) == 2) = true := by rw [ht]; rfl
                  have z2 := HS3.out.2.1.cell2 hal (by omega)
                  have f2 := HS3.out.free (p2 + 1 + 1)
                  have n4 : (p2 : Int) + 1 + 1 < (s.size : Int) := by omega
                  have HS6 := Lib.hid (HS4.out.push (p := p2 + 1 + 1) (by simp; omega) 4 (by simp; omega))
                  clear hal ht htt
                  go_wp2_with (first
                    | go_at_call 33; refine (HC.out _).mono ?_; rintro e w5 ⟨rfl, hw5⟩; subst hw5
                    | go_at_call 32; refine (HTK.out (p2 + 1) _ hn).mono ?_; rintro e w5 ⟨rfl, hw5⟩; subst hw5; simp only [b1])
                  go_roundw
                  case rel =>
                    refine ⟨p2 + 1 + 1, by go_num, by omega, by omega, HR2.out, ?_⟩
                    have h := HS6.out
                    rw [List.append_assoc, List.append_assoc, List.cons_append] at h
                    rw [Hid, show p2 + 1 + 1 - p = p2 - p + 1 + 1 by omega, ← rep_succ, ← rep_succ, List.append_assoc]
                    exact h
                  case measure => simp [intOf]; omega
                · have ht1 : tk1 s (p2 + 1) = 1 := by omega
                  rw [ht1] at HR2
                  have b1 : (tk1 s (p2 + 1) == 2) = false := by rw [ht1]; rfl
                  clear hal ht htt hle2 ht1
                  go_wp2_with (first
                    | go_at_call 33; refine (HC.out _).mono ?_; rintro e w5 ⟨rfl, hw5⟩; subst hw5
                    | go_at_call 32; refine (HTK.out (p2 + 1) _ hn).mono ?_; rintro e w5 ⟨rfl, hw5⟩; subst hw5; simp only [b1])
                  go_roundw
                  case rel =>
                    refine ⟨p2 + 1, by go_num, by omega, by omega, HR2.out, ?_⟩
                    have h := HS4.out
                    rw [List.append_assoc, List.cons_append, rep_succ] at h
                    rw [Hid, show p2 + 1 - p = p2 - p + 1 by omega]
                    exact h
                  case measure => simp [intOf]; omega
            · have n1 : ¬ (p2 : Int) + 1 < (s.size : Int) := by omega
              have h0 : p2 + 1 = p + Tk.bareLen (s.data.toList.drop p) := by
                rw [← HR.out, drop_end (by omega)]
                rfl
              have H0 := Lib.hid h0
              clear h0
              go_wp2
              go_roundw
              case rel =>
                refine ⟨p2 + 1, o, _, _, rfl, by go_num, by omega, ?_, by omega, HS3.out, ?_⟩
                · simp; omega
                · have h := HKN.out
                  rw [← H0.out, show Tk.bareLen (s.data.toList.drop p) - 1 = p2 - p by have := H0.out; omega] at h
                  exact h
              case measure => simp [intOf]; omega
    · have n1 : ¬ (p : Int) < (s.size : Int) := by omega
      have hps : p = s.size := by omega
      have HKE : Hid (Tk.kin [] p o acc = K) := by
        have h := HKP.out
        rw [drop_end (by omega), Tk.lx_nil] at h
        exact h
      cases o with
      | nil =>
        have o1 : ¬ (0 : Int) < ((([] : List Nat).length : Nat) : Int) := by simp
        have HD := Lib.hid (HS.out.2.1.done (b := w.heap.size) (by omega) (Nat.le_refl _) (by omega))
        go_wp2
        refine bodyPost_ret (results_tmp3 rfl _ _ _) rfl ?_
        refine ⟨HS.out.2.2.1, ?_⟩
        rw [← HK.out, ← HKE.out]
        exact ⟨_, rfl, HD.out⟩
      | cons q o =>
        obtain ⟨g, cq, hv, hc⟩ := HS.out.head
        injection hv with e1 e2 e3
        subst e1 e3
        have o1 : (0 : Int) < (((q :: o).length : Nat) : Int) := by simp
        have o2 : 0 < (q :: o).length := by simp
        have o3 : 0 < o.length + 1 := by omega
        have hcn : ∀ n, (wr.drewN n).cell? ⟨g, 0, none⟩ = some (.int .i64 q) := fun n => hc
        go_wp2
        go_quiet (fail)
        go_wp2
        refine bodyPost_ret (results_tmp3 rfl _ _ _) rfl ?_
        refine ⟨below_drewN HS.out.2.2.1 _, ?_⟩
        rw [← HK.out, ← HKE.out]
        rfl
end Go.Proofs.Ytbmobaomnfchkaa
