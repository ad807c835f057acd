/- Reading a name in a packet: a label, a pointer. -/
import Derived.Test.YtfekmolgiohegaaPrRef
import Derived.Test.YtfekmolgiohegaaOctText
import Derived.OrdersHeld
import Derived.Deep.RegionHeld
namespace Go.Proofs.Ytfekmolgiohegaa
open Go.RowKit

theorem Try.infoReading : (Try.prog.info? 60).map (·.size) = some 4 := by kernel_rfl
/-- a reading under way: its bytes, the labels so far, whether a pointer leads on, and whither. -/
structure RS (W : World) (g B : Nat) (A : Option Addr) (n c : Nat) (X : List UInt8) (ld : Bool) (to : Int) : Prop where
  hB : B ≤ g
  own : ∃ vL, Has W g 60 #[.slice A n c, vL, .bool ld, .int .i64 to] ∧ W.ownsRow B 5 1 vL X.length (bv X)
theorem has_ne_own {W : World} {g B : Nat} {t e : TypeId} {cs : Array Value} {v : Value} {n : Nat} {xs : List Value} (h : Has W g t cs) (ho : W.ownsRow B e 1 v n xs) (hte : t ≠ e) : some g ≠ v.ownBlock := by
  rcases ho.2 with ⟨rfl, _⟩ | ⟨g', cap, cur, rfl, _, hgb, _⟩
  · simp [Value.ownBlock]
  · intro e'
    obtain rfl : g = g' := by simpa [Value.ownBlock] using e'
    rw [show W.heap[g]? = _ from h] at hgb
    cases hgb
    exact hte rfl
theorem RS.below {W W' : World} {g B : Nat} {A : Option Addr} {n c : Nat} {X : List UInt8} {ld : Bool} {to : Int} (h : RS W g B A n c X ld to) (hb : Below W.heap.size W W') : RS W' g B A n c X ld to := by
  obtain ⟨hB, vL, h1, h2⟩ := h
  exact ⟨hB, vL, h1.below hb h1.lt, own_below h2 hb (Nat.le_refl _)⟩
theorem oper_append_run {P : Program} {w : World} {o : Oper} {a : Act} {K : Act → World → Prop} {Q : Exit → Act → World → Prop} (s x : Operand) (t u : TypeId)
    (ho : o.op = .call { callee := .builtin .append, args := #[s, x], argTypes := #[t, u] }) (v y : Value) (hs : a.eval s = v) (hx : a.eval x = y) {v' : Value} {w' : World}
    (hr : (Builtin.append_ #[t, u] o.type #[v, y]).run P w = .ok v' w') (h : K (a.put o.dst v') w') : o.wp P a w K Q := by
  unfold Oper.wp execOp
  simp only [ho, resolve, invoke, builtin, Sem.run_bind, Sem.run_pure, Result.andThen_ok, List.map_toArray, List.map_cons, List.map_nil, hs, hx, hr]
  exact h
theorem set_gr (W : World) (b i : Nat) (u : Value) : W.grownBy (W.setCell ⟨b, i, none⟩ u) (some b) := ⟨rfl, rfl, rfl, by simp, fun j _ hj => heap_setCell_other W ⟨b, i, none⟩ j u (fun e => hj (by rw [e]))⟩
theorem num1 (l : List UInt8) (n : Nat) (h : n < l.length) : Oc.num ((l.drop n).take 1) = (l[n]'h).toNat := by
  have := num_step l n 0 h
  simpa [Oc.num] using this
theorem num2 (l : List UInt8) (n : Nat) (h : n + 1 < l.length) : Oc.num ((l.drop n).take 2) = (l[n]'(by omega)).toNat * 256 + (l[n + 1]'h).toNat := by
  have := num_step l n 1 h
  rw [num1 l n (by omega)] at this
  exact this
theorem take_lab (l : List UInt8) (n k : Nat) (h : n < l.length) (hk : (l[n]'h).toNat = k) (h2 : n + 1 + k ≤ l.length) : (l.drop n).take (1 + k) = Nm.lab ((l.drop (n + 1)).take k) := by
  rw [List.drop_eq_getElem_cons h, Nat.add_comm 1 k, List.take_succ_cons]
  unfold Nm.lab
  have : ((l.drop (n + 1)).take k).length = k := by rw [List.length_take, List.length_drop]; omega
  rw [this, ← hk]
  simp

set_option maxHeartbeats 1000000 in
set_option maxRecDepth 100000 in
theorem lab_few (g B n c k lo hi : Nat) (A : Option Addr) (l : List UInt8) (X : List UInt8) (ld : Bool) (to : Int) (W : World) (h : RS W g B A l.length c X ld to) (hc : l.length ≤ c) (hm : l.length ≤ 211106232532992) (hb : Bs W lo hi A l)
    (hn : n < l.length) (hk : (l[n]'hn).toNat = k) (hf : l.length < n + 1 + k) :
    Calls Try.prog 41 #[.pointer (some ⟨g, 0, none⟩), .int .i64 n] W fun e W' => e = .returned (.tuple #[.int .i64 0, .int .i64 6]) ∧ W = W' := by
  obtain ⟨hB, vL, h1, h2⟩ := h
  have c0 : W.cell? ⟨g, 0, none⟩ = some (.slice A l.length c) := by rw [h1.cell]; rfl
  have hT := takeText A l c n W hc hm lo hi hb
  have hnum : Oc.num ((l.drop n).take 1) = k := by rw [num1 l n hn, hk]
  have hv : takeTextV l n = .tuple #[.string ⟨#[]⟩, .int .i64 0, .int .i64 6] := by
    unfold takeTextV
    rw [if_neg (by omega)]
    simp only [Int.toNat_natCast, hnum]
    rw [if_pos (.inl (by omega))]
  rw [hv] at hT
  have HT := Lib.hid hT
  clear h1 h2 hT hv hnum hb
  go_enter Try.func41, Try.ntmps41
  go_wp2_with (go_at_call 46; refine HT.out.mono ?_; rintro e w' ⟨rfl, rfl⟩)
  go_ret2
  exact ⟨rfl, rfl⟩
set_option maxHeartbeats 1000000 in
set_option maxRecDepth 100000 in
theorem lab_long (g B n c k lo hi : Nat) (A : Option Addr) (l : List UInt8) (X : List UInt8) (ld : Bool) (to : Int) (W : World) (h : RS W g B A l.length c X ld to) (hc : l.length ≤ c) (hm : l.length ≤ 211106232532992) (hb : Bs W lo hi A l)
    (hn : n < l.length) (hk : (l[n]'hn).toNat = k) (hf : n + 1 + k ≤ l.length) (hX : X.length ≤ 254) (hL : 255 < X.length + 1 + k + 1) :
    Calls Try.prog 41 #[.pointer (some ⟨g, 0, none⟩), .int .i64 n] W fun e W' => e = .returned (.tuple #[.int .i64 0, .int .i64 2]) ∧ W = W' := by
  obtain ⟨hB, vL, h1, h2⟩ := h
  obtain ⟨aL, cL, rfl⟩ := own_form h2
  have c0 : W.cell? ⟨g, 0, none⟩ = some (.slice A l.length c) := by rw [h1.cell]; rfl
  have c1 : W.cell? ⟨g, 1, none⟩ = some (.slice aL X.length cL) := by rw [h1.cell]; rfl
  have hT := takeText A l c n W hc hm lo hi hb
  have hnum : Oc.num ((l.drop n).take 1) = k := by rw [num1 l n hn, hk]
  have hk8 : k < 256 := by rw [← hk]; exact (l[n]'hn).toNat_lt
  have hv : takeTextV l n = .tuple #[sv ((l.drop (n + 1)).take k), .int .i64 ((n : Int) + 1 + k), .int .i64 0] := by
    unfold takeTextV
    rw [if_neg (by omega)]
    simp only [Int.toNat_natCast, hnum]
    rw [if_neg (by omega)]
  rw [hv] at hT
  have HT := Lib.hid hT
  have hkn : Hid ((l[n]'hn).toNat = k) := hk
  clear h1 h2 hT hv hnum hb hk
  go_enter Try.func41, Try.ntmps41
  go_wp2_with (go_at_call 46; refine HT.out.mono ?_; rintro e w' ⟨rfl, rfl⟩)
  go_ret2
  exact ⟨rfl, rfl⟩

set_option maxHeartbeats 1000000 in
set_option maxRecDepth 100000 in
theorem lab_ok (g B n c k lo hi : Nat) (A : Option Addr) (l : List UInt8) (X : List UInt8) (ld : Bool) (to : Int) (W : World) (h : RS W g B A l.length c X ld to) (hc : l.length ≤ c) (hm : l.length ≤ 211106232532992) (hb : Bs W lo hi A l) (hBW : B ≤ W.heap.size)
    (hn : n < l.length) (hk : (l[n]'hn).toNat = k) (hf : n + 1 + k ≤ l.length) (hL : ¬ 255 < X.length + 1 + k + 1) :
    Calls Try.prog 41 #[.pointer (some ⟨g, 0, none⟩), .int .i64 n] W fun e W' => e = .returned (.tuple #[.int .i64 (n + 1 + k), .int .i64 0]) ∧ RS W' g B A l.length c (X ++ Nm.lab ((l.drop (n + 1)).take k)) ld to ∧ Below B W W' := by
  obtain ⟨hB, vL, h1, h2⟩ := h
  obtain ⟨i0, hi0, hz0, hz1, hz2⟩ := info_parts Try.infoByte
  obtain ⟨g0, o0, rfl, hlo, hhi, hcell⟩ := hb (by omega)
  obtain ⟨aL, cL, rfl⟩ := own_form h2
  have mixed : Try.prog.follows .mixedOrders = true := by kernel_rfl
  have c0 : W.cell? ⟨g, 0, none⟩ = some (.slice (some ⟨g0, o0, none⟩) l.length c) := by rw [h1.cell]; rfl
  have c1 : W.cell? ⟨g, 1, none⟩ = some (.slice aL X.length cL) := by rw [h1.cell]; rfl
  have hT := takeText (some ⟨g0, o0, none⟩) l c n W hc hm lo hi hb
  have hnum : Oc.num ((l.drop n).take 1) = k := by rw [num1 l n hn, hk]
  have hk8 : k < 256 := by rw [← hk]; exact (l[n]'hn).toNat_lt
  obtain ⟨m, hmm⟩ : ∃ m : Nat, n + 1 + k = m := ⟨_, rfl⟩
  have hv : takeTextV l n = .tuple #[sv ((l.drop (n + 1)).take k), .int .i64 (m : Nat), .int .i64 0] := by
    unfold takeTextV
    rw [if_neg (by omega)]
    simp only [Int.toNat_natCast, hnum]
    rw [if_neg (by omega), ← hmm]
    congr 4
  rw [hv] at hT
  have HT := Lib.hid hT
  have hbs : Bs W.drew lo hi (some ⟨g0, o0 + n, none⟩) ((l.drop n).take (m - n)) := hb.sub n (m - n) (by omega)
  have hll : ((l.drop n).take (m - n)).length = m - n := by rw [List.length_take, List.length_drop]; omega
  obtain ⟨v', w', hrun, hO', hG', _⟩ := run_append_own (P := Try.prog) W.drew B 31 31 5 i0 (.int .u8 0) 1 1 Try.underlying31 hi0 hz0 hz1 hz2 rfl (by decide) (.slice aL X.length cL) X.length (bv X) h2 ⟨g0, o0 + n, none⟩ (m - n) (c - n) (bv ((l.drop n).take (m - n))) (by rw [bv_length, hll]; omega) hbs.at_ (bv_one _) (by unfold maxLen; omega) (by omega) hBW
  obtain ⟨aN, cN, rfl⟩ := own_form hO'
  have hq1 : (m : Int) ≤ (c : Int) := by omega
  have hq2 : n ≤ m := by omega
  have hq3 : ¬ c = n := by omega
  have hq4 : (X.length : Int) + m - n + 1 ≤ 255 := by omega
  have hq5 : m ≤ l.length := by omega
  have H1 := Lib.hid h1
  have HO := Lib.hid hO'
  have HG := Lib.hid hG'
  have H2 := Lib.hid h2
  have HTL : Hid ((l.drop n).take (m - n) = Nm.lab ((l.drop (n + 1)).take k)) := by
    have := take_lab l n k hn hk hf
    rw [show m - n = 1 + k from by omega]
    exact this
  have HM := Lib.hid hmm
  have HRUN := Lib.hid hrun
  have HL : Hid (m - n = 1 + k) := by show _ = _; omega
  clear h1 h2 hT hv hnum hb hk hO' hG' hbs hll hcell hmm hf hL hrun hi0 hz0 hz1 hz2
  go_enter Try.func41, Try.ntmps41
  go_wp2_with (go_at_call 46; refine HT.out.mono ?_; rintro e w' ⟨rfl, rfl⟩)
  refine wp_region_held (S := fun W' => W'.cell? ⟨g, 0, none⟩ = some (.slice (some ⟨g0, o0, none⟩) l.length c)) mixed ?_
  have hS0 : W.drew.cell? ⟨g, 0, none⟩ = some (.slice (some ⟨g0, o0, none⟩) l.length c) := c0
  show wpAnyH _ _ _ _ _ 16 #[false, false, false, false, false, false, false, false, false, false, false, false, false, false, false, false] _ W.drew
  refine wpAnyH_take (i := 0) (v := .pointer (some ⟨g, 0, none⟩)) rfl (by kernel_rfl) (by kernel_rfl) (by kernel_rfl) (fun _ _ _ h => h) (Or.inl ⟨by rfl, fun W' hW' => (by go_simp)⟩) hS0 ?_
  simp only [Act.put, List.setIfInBounds_toArray, List.set_cons_zero]
  refine wpAnyH_take (i := 1) (v := .pointer (some ⟨g, 0, none⟩)) rfl (by kernel_rfl) (by kernel_rfl) (by kernel_rfl) (fun _ _ _ h => h) (Or.inl ⟨by rfl, fun W' hW' => (by go_simp)⟩) hS0 ?_
  simp only [Act.put, List.setIfInBounds_toArray, List.set_cons_zero, List.set_cons_succ]
  refine wpAnyH_take (i := 2) (v := .pointer (some ⟨g, 0, none⟩)) rfl (by kernel_rfl) (by kernel_rfl) (by kernel_rfl) (fun _ _ _ h => h) (Or.inl ⟨by rfl, fun W' hW' => (by go_simp)⟩) hS0 ?_
  simp only [Act.put, List.setIfInBounds_toArray, List.set_cons_zero, List.set_cons_succ]
  refine wpAnyH_take (i := 3) (v := .pointer (some ⟨g, 1, none⟩)) rfl (by kernel_rfl) (by kernel_rfl) (by kernel_rfl) (fun _ _ _ h => h) (Or.inl ⟨by rfl, fun W' hW' => (by go_simp)⟩) hS0 ?_
  simp only [Act.put, List.setIfInBounds_toArray, List.set_cons_zero, List.set_cons_succ]
  refine wpAnyH_take (i := 5) (v := .pointer (some ⟨g, 0, none⟩)) rfl (by kernel_rfl) (by kernel_rfl) (by kernel_rfl) (fun _ _ _ h => h) (Or.inl ⟨by rfl, fun W' hW' => (by go_simp)⟩) hS0 ?_
  simp only [Act.put, List.setIfInBounds_toArray, List.set_cons_zero, List.set_cons_succ]
  refine wpAnyH_take (i := 6) (v := .pointer (some ⟨g, 0, none⟩)) rfl (by kernel_rfl) (by kernel_rfl) (by kernel_rfl) (fun _ _ _ h => h) (Or.inl ⟨by rfl, fun W' hW' => (by go_simp)⟩) hS0 ?_
  simp only [Act.put, List.setIfInBounds_toArray, List.set_cons_zero, List.set_cons_succ]
  refine wpAnyH_take (i := 7) (v := .pointer (some ⟨g, 0, none⟩)) rfl (by kernel_rfl) (by kernel_rfl) (by kernel_rfl) (fun _ _ _ h => h) (Or.inl ⟨by rfl, fun W' hW' => (by go_simp)⟩) hS0 ?_
  simp only [Act.put, List.setIfInBounds_toArray, List.set_cons_zero, List.set_cons_succ]
  refine wpAnyH_take (i := 8) (v := .slice (some ⟨g0, o0, none⟩) l.length c) rfl (by kernel_rfl) (by kernel_rfl) (by kernel_rfl) (fun _ _ _ h => h) (Or.inl ⟨by rfl, fun W' hW' => (by have := hW'; go_simp)⟩) hS0 ?_
  simp only [Act.put, List.setIfInBounds_toArray, List.set_cons_zero, List.set_cons_succ]
  refine wpAnyH_take (i := 9) (v := .int .i64 n) rfl (by kernel_rfl) (by kernel_rfl) (by kernel_rfl) (fun _ _ _ h => h) (Or.inl ⟨by rfl, fun W' hW' => (by go_simp)⟩) hS0 ?_
  simp only [Act.put, List.setIfInBounds_toArray, List.set_cons_zero, List.set_cons_succ]
  refine wpAnyH_take (i := 10) (v := .int .i64 (m : Nat)) rfl (by kernel_rfl) (by kernel_rfl) (by kernel_rfl) (fun _ _ _ h => h) (Or.inl ⟨by rfl, fun W' hW' => (by go_simp)⟩) hS0 ?_
  simp only [Act.put, List.setIfInBounds_toArray, List.set_cons_zero, List.set_cons_succ]
  refine wpAnyH_take (i := 11) (v := .slice (some ⟨g0, o0 + n, none⟩) (m - n) (c - n)) rfl (by kernel_rfl) (by kernel_rfl) (by kernel_rfl) (fun _ _ _ h => h) (Or.inl ⟨by rfl, fun W' hW' => (by go_simp)⟩) hS0 ?_
  simp only [Act.put, List.setIfInBounds_toArray, List.set_cons_zero, List.set_cons_succ]
  refine wpAnyH_ready (rs := [4]) (by kernel_rfl) (by simp) (AllReadyH.cons rfl (fun K hK => ?_) AllReadyH.nil)
  go_simp
  refine hK.out _ _ hS0 (fun _ => ?_)
  clear hK K
  refine wpAnyH_ready (rs := [12]) (by kernel_rfl) (by simp) (AllReadyH.cons (o := { dst := some 45, op := .call { callee := .builtin .append, args := #[.tmp 37, .tmp 44], argTypes := #[31, 31] }, type := 31, pos := "take.go:60", after := #[{ on := 4, ground := .data }, { on := 11, ground := .data }], guard := none }) rfl (fun K hK => ?_) AllReadyH.nil)
  rw [if_pos (by rfl)]
  refine oper_append_run (.tmp 37) (.tmp 44) _ _ rfl _ _ rfl rfl HRUN.out ?_
  simp only [Act.put, List.setIfInBounds_toArray, List.set_cons_zero, List.set_cons_succ]
  have hw1 : Has w' g 60 #[.slice (some ⟨g0, o0, none⟩) l.length c, .slice aL X.length cL, .bool ld, .int .i64 to] := Has.grown (w := W.drew) H1.out HG.out (has_ne_own H1.out H2.out (by decide))
  have hS1 : w'.cell? ⟨g, 0, none⟩ = some (.slice (some ⟨g0, o0, none⟩) l.length c) := by rw [hw1.cell]; rfl
  have hc1 : w'.cell? ⟨g, 1, none⟩ = some (.slice aL X.length cL) := by rw [hw1.cell]; rfl
  have hf1 := hw1.free 1
  refine hK.out _ _ hS1 (fun _ => ?_)
  clear hK K
  refine wpAnyH_take (i := 13) (v := .pointer (some ⟨g, 0, none⟩)) rfl (by kernel_rfl) (by kernel_rfl) (by kernel_rfl) (fun _ _ _ h => h) (Or.inl ⟨by rfl, fun W' hW' => (by go_simp)⟩) hS1 ?_
  simp only [Act.put, List.setIfInBounds_toArray, List.set_cons_zero, List.set_cons_succ]
  refine wpAnyH_take (i := 14) (v := .pointer (some ⟨g, 1, none⟩)) rfl (by kernel_rfl) (by kernel_rfl) (by kernel_rfl) (fun _ _ _ h => h) (Or.inl ⟨by rfl, fun W' hW' => (by go_simp)⟩) hS1 ?_
  simp only [Act.put, List.setIfInBounds_toArray, List.set_cons_zero, List.set_cons_succ]
  refine wpAnyH_ready (rs := [15]) (by kernel_rfl) (by simp) (AllReadyH.cons rfl (fun K hK => ?_) AllReadyH.nil)
  go_simp
  have hw2 := hw1.set 1 (.slice aN (X.length + (m - n)) cN)
  have hw3 : Has (w'.setCell ⟨g, 1, none⟩ (.slice aN (X.length + (m - n)) cN)) g 60 #[.slice (some ⟨g0, o0, none⟩) l.length c, .slice aN (X.length + (m - n)) cN, .bool ld, .int .i64 to] := hw2
  refine hK.out _ _ (by rw [hw3.cell]; rfl) (fun _ => ?_)
  clear hK K
  refine wpAnyH_done (by kernel_rfl) ?_ _
  go_wp2
  go_ret2
  have hlen : X.length + (m - n) = (X ++ Nm.lab ((l.drop (n + 1)).take k)).length := by
    rw [← HTL.out, List.length_append, List.length_take, List.length_drop]
    have := HM.out
    have := HL.out
    omega
  refine ⟨?_, ⟨hB, _, hw3, ?_⟩, ?_⟩
  · rw [← HM.out]; rfl
  · refine own_to (w := w'.setCell ⟨g, 1, none⟩ (.slice aN (X.length + (m - n)) cN)) (HO.out.kept (set_gr w' g 1 _) (.inr (has_ne_own hw1 HO.out (by decide)).symm)) hlen ?_
    rw [HTL.out, bv_append]
  · exact (((Below.refl B W).drew.grown HG.out hBW (fun r e => (H2.out.lt r e).1)).setCell (by show B ≤ g; exact hB) _)

set_option maxHeartbeats 1000000 in
theorem ptr_short (g B n b0 c lo hi : Nat) (A : Option Addr) (l : List UInt8) (X : List UInt8) (ld : Bool) (to : Int) (W : World) (h : RS W g B A l.length c X ld to) (hc : l.length ≤ c) (hm : l.length ≤ 211106232532992) (hb : Bs W lo hi A l)
    (hn : n < l.length) (hf : ¬ n + 1 < l.length) :
    Calls Try.prog 40 #[.pointer (some ⟨g, 0, none⟩), .int .i64 b0, .int .i64 n] W fun e W' => e = .returned (.tuple #[.int .i64 0, .int .i64 6]) ∧ W = W' := by
  obtain ⟨hB, vL, h1, h2⟩ := h
  have c0 : W.cell? ⟨g, 0, none⟩ = some (.slice A l.length c) := by rw [h1.cell]; rfl
  have hT := take_u16 A l c n W hc hm lo hi hb
  rw [takeV_short (by omega) (by omega)] at hT
  have HT := Lib.hid hT
  clear h1 h2 hT hb
  go_enter Try.func40, Try.ntmps40
  go_wp2_with (go_at_call 45; refine HT.out.mono ?_; rintro e w' ⟨rfl, rfl⟩)
  go_ret2
  exact ⟨rfl, rfl⟩
set_option maxHeartbeats 1000000 in
set_option maxRecDepth 100000 in
theorem ptr_any (g B n b0 c lo hi p : Nat) (A : Option Addr) (l : List UInt8) (X : List UInt8) (ld : Bool) (to : Int) (W : World) (h : RS W g B A l.length c X ld to) (hc : l.length ≤ c) (hm : l.length ≤ 211106232532992) (hb : Bs W lo hi A l)
    (hn : n + 1 < l.length) (h192 : 192 ≤ (l[n]'(by omega)).toNat) (hp : ((l[n]'(by omega)).toNat - 192) * 256 + (l[n + 1]'hn).toNat = p) :
    Calls Try.prog 40 #[.pointer (some ⟨g, 0, none⟩), .int .i64 b0, .int .i64 n] W fun e W' =>
      e = .returned (if p < b0 then .tuple #[.int .i64 (n + 2), .int .i64 0] else .tuple #[.int .i64 0, .int .i64 30]) ∧ RS W' g B A l.length c X true p ∧ Below B W W' := by
  obtain ⟨hB, vL, h1, h2⟩ := h
  obtain ⟨aL, cL, rfl⟩ := own_form h2
  have c0 : W.cell? ⟨g, 0, none⟩ = some (.slice A l.length c) := by rw [h1.cell]; rfl
  have c2 : W.cell? ⟨g, 2, none⟩ = some (.bool ld) := by rw [h1.cell]; rfl
  have c3 : (W.setCell ⟨g, 2, none⟩ (.bool true)).cell? ⟨g, 3, none⟩ = some (.int .i64 to) := by rw [(h1.set 2 _).cell]; rfl
  have f2 := h1.free 2
  have f3 := h1.free 3
  have hT := take_u16 A l c n W hc hm lo hi hb
  rw [takeV_ok (by omega)] at hT
  obtain ⟨N, hN⟩ : ∃ N, Oc.num ((l.drop n).take 2) = N := ⟨_, rfl⟩
  rw [hN] at hT
  rw [num2 l n hn] at hN
  have hx8 := (l[n + 1]'hn).toNat_lt
  have hk8 := (l[n]'(by omega)).toNat_lt
  have hNp : N = 49152 + p := by omega
  have hp16 : p ≤ 16383 := by omega
  subst hNp
  have hw : IntKind.u16.wrap (((49152 + p : Nat) : Int) - 49152) = p := by rw [IntKind.wrap_u16]; omega
  have HT := Lib.hid hT
  have H1 := Lib.hid h1
  have H2 := Lib.hid h2
  have hw2 : Has ((W.setCell ⟨g, 2, none⟩ (.bool true)).setCell ⟨g, 3, none⟩ (.int .i64 p)) g 60 #[.slice A l.length c, .slice aL X.length cL, .bool true, .int .i64 p] := (h1.set 2 _).set 3 _
  have c4 : ((W.setCell ⟨g, 2, none⟩ (.bool true)).setCell ⟨g, 3, none⟩ (.int .i64 p)).cell? ⟨g, 3, none⟩ = some (.int .i64 p) := by rw [hw2.cell]; rfl
  have HW := Lib.hid hw2
  have HRS : Hid (RS ((W.setCell ⟨g, 2, none⟩ (.bool true)).setCell ⟨g, 3, none⟩ (.int .i64 p)) g B A l.length c X true p ∧ Below B W ((W.setCell ⟨g, 2, none⟩ (.bool true)).setCell ⟨g, 3, none⟩ (.int .i64 p))) := by
    refine ⟨⟨hB, _, hw2, ?_⟩, ((Below.refl _ _).setCell (by show B ≤ g; exact hB) _).setCell (by show B ≤ g; exact hB) _⟩
    exact (h2.kept (set_gr W g 2 _) (.inr (has_ne_own h1 h2 (by decide)).symm)).kept (set_gr _ g 3 _) (.inr (has_ne_own h1 h2 (by decide)).symm)
  clear h1 h2 hT hb hN hw2 hp h192
  by_cases hlt : p < b0
  · rw [if_pos hlt]
    go_enter Try.func40, Try.ntmps40
    go_wp2_with (go_at_call 45; refine HT.out.mono ?_; rintro e w' ⟨rfl, rfl⟩)
    go_ret2
    refine ⟨rfl, ?_⟩
    rw [show (49152 : Int) + p - 49152 = p from by omega]
    exact HRS.out
  · rw [if_neg hlt]
    go_enter Try.func40, Try.ntmps40
    go_wp2_with (go_at_call 45; refine HT.out.mono ?_; rintro e w' ⟨rfl, rfl⟩)
    go_ret2
    refine ⟨rfl, ?_⟩
    rw [show (49152 : Int) + p - 49152 = p from by omega]
    exact HRS.out
end Go.Proofs.Ytfekmolgiohegaa
