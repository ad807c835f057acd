/- Two lists of entries that are one: Same. -/
import Derived.Test.YtgmemngfkajnbaaTkSt
import Derived.BigQuiet
namespace Go.Proofs.Ytgmemngfkajnbaa
open Go.RowKit

/-- entries that are read. -/
def EnsAt (w : World) (v : Value) (es : List Tk.En) : Prop :=
  ∃ (out : List Ex) (A : Option Addr) (c : Nat), out.map Ex.en = es ∧ v = .slice A out.length c ∧ Srow ec 3 w 0 w.heap.size A out ∧ ∀ x ∈ out, ∃ A' c', x.v = .slice A' x.ws.length c' ∧ Srow wc 4 w 0 w.heap.size A' x.ws
theorem EnsAt.nil (w : World) : EnsAt w (.slice none 0 0) [] := ⟨[], none, 0, rfl, rfl, fun h => absurd h (by simp), by simp⟩
theorem Srow.below {α : Type} {enc : α → List Value} {k : Nat} {w w' : World} {B lo : Nat} {A : Option Addr} {xs : List α} (h : Srow enc k w lo B A xs) (hb : Below B w w') {hi : Nat} (hh : B ≤ hi) : Srow enc k w' lo hi A xs := fun h0 => by
  obtain ⟨g, o, e, h1, h2, h3⟩ := h h0
  exact ⟨g, o, e, h1, by omega, fun j hj => range_below hb h2 (h3 j hj)⟩
theorem EnsAt.below {w w' : World} {v : Value} {es : List Tk.En} (h : EnsAt w v es) (hb : Below w.heap.size w w') : EnsAt w' v es := by
  obtain ⟨out, A, c, h1, h2, h3, h4⟩ := h
  refine ⟨out, A, c, h1, h2, h3.below hb hb.size, fun x hx => ?_⟩
  obtain ⟨A', c', e, hr⟩ := h4 x hx
  exact ⟨A', c', e, hr.below hb hb.size⟩
theorem Ers.at_ {w : World} {b : Nat} {v : Value} {out : List Ex} (h : Ers w b v out) : EnsAt w v (out.map Ex.en) := by
  obtain ⟨A, c, hv, _, hS⟩ := Own.srow ec_len h.own
  refine ⟨out, A, c, rfl, hv, hS.more (Nat.zero_le _) (Nat.le_refl _), fun x hx => ?_⟩
  obtain ⟨A', c', hv', _, hS'⟩ := Own.srow wc_len (h.dat x hx)
  exact ⟨A', c', hv', hS'.more (Nat.zero_le _) (Nat.le_refl _)⟩
/-- the cells of a struct in a row. -/
theorem Srow.cells {α : Type} {enc : α → List Value} {k : Nat} {w : World} {lo hi : Nat} {A : Option Addr} {xs : List α} (h : Srow enc k w lo hi A xs) {j : Nat} (hj : j < xs.length) : ∃ g o, A = some ⟨g, o, none⟩ ∧ g < hi ∧ ∀ i u, (enc xs[j])[i]? = some u → w.cell? ⟨g, o + j * k + i, none⟩ = some u := by
  obtain ⟨g, o, e, _, h2, h3⟩ := h (by omega)
  exact ⟨g, o, e, h2, fun i u hu => h3 j hj i u hu⟩
theorem EnsAt.form {w : World} {v : Value} {es : List Tk.En} (h : EnsAt w v es) : ∃ A c, v = .slice A es.length c ∧ ∀ j (hj : j < es.length), ∃ g o B d, A = some ⟨g, o, none⟩ ∧ g < w.heap.size ∧
    w.cell? ⟨g, o + j * 3, none⟩ = some (.bool es[j].blank) ∧ w.cell? ⟨g, o + j * 3 + 1, none⟩ = some (.int .i64 es[j].line) ∧ w.cell? ⟨g, o + j * 3 + 2, none⟩ = some (.slice B es[j].words.length d) ∧ Srow wc 4 w 0 w.heap.size B es[j].words := by
  obtain ⟨out, A, c, rfl, h2, h3, h4⟩ := h
  refine ⟨A, c, by rw [h2, List.length_map], fun j hj => ?_⟩
  have hj' : j < out.length := by simpa using hj
  obtain ⟨g, o, hA, hg, hc⟩ := h3.cells hj'
  obtain ⟨B, d, hv, hB⟩ := h4 _ (List.getElem_mem hj')
  have c2 : w.cell? ⟨g, o + j * 3 + 2, none⟩ = some out[j].v := hc 2 _ rfl
  rw [hv] at c2
  refine ⟨g, o, B, d, hA, hg, ?_, ?_, ?_, ?_⟩
  · rw [List.getElem_map]; exact hc 0 _ rfl
  · rw [List.getElem_map]; exact hc 1 _ rfl
  · rw [List.getElem_map]; exact c2
  · rw [List.getElem_map]; exact hB
/-- the cells of a word. -/
theorem word_cells {w : World} {hi : Nat} {A : Option Addr} {ws : List Tk.Wd} (h : Srow wc 4 w 0 hi A ws) {k : Nat} (hk : k < ws.length) : ∃ g o, A = some ⟨g, o, none⟩ ∧ g < hi ∧ w.cell? ⟨g, o + k * 4, none⟩ = some (.string ⟨ws[k].text.toArray⟩) ∧
    w.cell? ⟨g, o + k * 4 + 1, none⟩ = some (.bool ws[k].quoted) ∧ w.cell? ⟨g, o + k * 4 + 2, none⟩ = some (.int .i64 ws[k].line) ∧ w.cell? ⟨g, o + k * 4 + 3, none⟩ = some (.int .i64 ws[k].col) := by
  obtain ⟨g, o, e, hg, hc⟩ := h.cells hk
  exact ⟨g, o, e, hg, hc 0 _ rfl, hc 1 _ rfl, hc 2 _ rfl, hc 3 _ rfl⟩
theorem same_entry {o1 o2 : List Ex} (h : o1.map Ex.en = o2.map Ex.en) {j : Nat} (h1 : j < o1.length) (h2 : j < o2.length) : o1[j].bl = o2[j].bl ∧ o1[j].el = o2[j].el ∧ o1[j].ws = o2[j].ws := by
  have e : (o1.map Ex.en)[j]'(by simpa using h1) = (o2.map Ex.en)[j]'(by simpa using h2) := by simp only [h]
  rw [List.getElem_map, List.getElem_map] at e
  simp only [Ex.en, Tk.En.mk.injEq] at e
  exact e

set_option maxHeartbeats 2000000 in
set_option maxRecDepth 100000 in
theorem same_any (v1 v2 : Value) (es : List Tk.En) (w : World) (ha : EnsAt w v1 es) (hb : EnsAt w v2 es) (hn : es.length ≤ 1048576) (hw : ∀ x ∈ es, x.words.length ≤ 1048576) :
    Calls Try.prog 9 #[v1, v2] w fun e w' => e = .returned (.bool true) ∧ ∃ n, w' = w.drewN n := by
  obtain ⟨o1, A1, c1, he1, rfl, hS1, hW1⟩ := ha
  obtain ⟨o2, A2, c2, he2, rfl, hS2, hW2⟩ := hb
  have hl : o1.length = o2.length := by
    have := congrArg List.length (he1.trans he2.symm)
    simpa using this
  have hn1 : o1.length ≤ 1048576 := by
    have := congrArg List.length he1
    simp at this
    omega
  have HWN : Hid (∀ j (h : j < o1.length), (o1[j]'h).ws.length ≤ 1048576) := fun j h => hw _ (by rw [← he1]; exact List.mem_map_of_mem (f := Ex.en) (List.getElem_mem h))
  have HSE := Lib.hid (fun j h1 h2 => same_entry (he1.trans he2.symm) (j := j) h1 h2)
  have HS1 := Lib.hid hS1
  have HS2 := Lib.hid hS2
  have HW1 := Lib.hid hW1
  have HW2 := Lib.hid hW2
  clear hS1 hS2 hW1 hW2 he1 he2 hn hw
  rw [← hl]
  have HL := Lib.hid hl
  clear hl
  go_enter Try.func9, Try.ntmps9
  go_wp2
  go_loopw [5] (fun i wr => ∃ j q : Nat, i = .int .i64 j ∧ j ≤ o1.length ∧ wr = w.drewN q) (fun i _ => o1.length - (intOf i).toNat)
  case atStart => exact ⟨0, 0, rfl, Nat.zero_le _, rfl⟩
  case round =>
    obtain ⟨j, q, rfl, hj, rfl⟩ := hrel
    by_cases hlt : j < o1.length
    · have hlt2 : j < o2.length := by rw [← HL.out]; exact hlt
      obtain ⟨g1, p1, rfl, _, hc1⟩ := HS1.out.cells hlt
      obtain ⟨g2, p2, rfl, _, hc2⟩ := HS2.out.cells hlt2
      obtain ⟨e1, e2, e3⟩ := HSE.out j hlt hlt2
      obtain ⟨B1, d1, x1, hB1⟩ := HW1.out _ (List.getElem_mem hlt)
      obtain ⟨B2, d2, x2, hB2⟩ := HW2.out _ (List.getElem_mem hlt2)
      have hwn := HWN.out j hlt
      have a0 : w.cell? ⟨g1, p1 + j * 3 + 0, none⟩ = some (.bool o1[j].bl) := hc1 0 _ rfl
      have a1 : w.cell? ⟨g1, p1 + j * 3 + 1, none⟩ = some (.int .i64 o1[j].el) := hc1 1 _ rfl
      have a2 : w.cell? ⟨g1, p1 + j * 3 + 2, none⟩ = some o1[j].v := hc1 2 _ rfl
      have b0 : w.cell? ⟨g2, p2 + j * 3 + 0, none⟩ = some (.bool o2[j].bl) := hc2 0 _ rfl
      have b1 : w.cell? ⟨g2, p2 + j * 3 + 1, none⟩ = some (.int .i64 o2[j].el) := hc2 1 _ rfl
      have b2 : w.cell? ⟨g2, p2 + j * 3 + 2, none⟩ = some o2[j].v := hc2 2 _ rfl
      rw [x1] at a2
      rw [x2] at b2
      rw [← e1] at b0
      rw [← e2] at b1
      rw [← e3] at b2 hB2
      rw [Nat.add_zero] at a0 b0
      clear hc1 hc2 e1 e2 e3 x1 x2
      generalize o1[j].bl = bl at *
      generalize o1[j].el = el at *
      generalize o1[j].ws = ws at *
      generalize hwq : w.drewN q = wq at *
      have HWQ := Lib.hid hwq
      have a0' : wq.cell? ⟨g1, p1 + j * 3, none⟩ = some (.bool bl) := by rw [← hwq]; exact a0
      have a1' : wq.cell? ⟨g1, p1 + j * 3 + 1, none⟩ = some (.int .i64 el) := by rw [← hwq]; exact a1
      have a2' : wq.cell? ⟨g1, p1 + j * 3 + 2, none⟩ = some (.slice B1 ws.length d1) := by rw [← hwq]; exact a2
      have b0' : wq.cell? ⟨g2, p2 + j * 3, none⟩ = some (.bool bl) := by rw [← hwq]; exact b0
      have b1' : wq.cell? ⟨g2, p2 + j * 3 + 1, none⟩ = some (.int .i64 el) := by rw [← hwq]; exact b1
      have b2' : wq.cell? ⟨g2, p2 + j * 3 + 2, none⟩ = some (.slice B2 ws.length d2) := by rw [← hwq]; exact b2
      have HB1 := Lib.hid hB1
      have HB2 := Lib.hid hB2
      clear hwq hB1 hB2 a0 a1 a2 b0 b1 b2 hlt2
      have HA2 := Lib.hid (fun n => show (wq.drewN n).cell? ⟨g1, p1 + j * 3 + 2, none⟩ = some (.slice B1 ws.length d1) from a2')
      have HB2c := Lib.hid (fun n => show (wq.drewN n).cell? ⟨g2, p2 + j * 3 + 2, none⟩ = some (.slice B2 ws.length d2) from b2')
      have hlti : (j : Int) < (o1.length : Int) := by omega
      go_wp2_with fail
      go_quiet (fail)
      go_wp2
      rename_i nq
      clear a0' a1' b0' b1'
      go_loopw [6] (fun i wr => ∃ k m : Nat, i = .int .i64 k ∧ k ≤ ws.length ∧ wr = wq.drewN m) (fun i _ => ws.length - (intOf i).toNat)
      case atStart => exact ⟨0, nq, rfl, Nat.zero_le _, rfl⟩
      case round =>
        obtain ⟨k, m, rfl, hk, rfl⟩ := hrel
        have y2 := HA2.out m
        have z2 := HB2c.out m
        by_cases hkl : k < ws.length
        · obtain ⟨h1, r1, rfl, _, hd1⟩ := HB1.out.cells hkl
          obtain ⟨h2, r2, rfl, _, hd2⟩ := HB2.out.cells hkl
          have HD1 := Lib.hid (fun i u (h : (wc ws[k])[i]? = some u) => show ((w.drewN q).drewN m).cell? ⟨h1, r1 + k * 4 + i, none⟩ = some u from hd1 i u h)
          have HD2 := Lib.hid (fun i u (h : (wc ws[k])[i]? = some u) => show ((w.drewN q).drewN m).cell? ⟨h2, r2 + k * 4 + i, none⟩ = some u from hd2 i u h)
          rw [HWQ.out] at HD1 HD2
          generalize hwz : wq.drewN m = wz at *
          have HWZ := Lib.hid hwz
          generalize ws[k] = x at *
          have s0 : wz.cell? ⟨h1, r1 + k * 4 + 0, none⟩ = some (.string ⟨x.text.toArray⟩) := HD1.out 0 _ rfl
          have s1 : wz.cell? ⟨h1, r1 + k * 4 + 1, none⟩ = some (.bool x.quoted) := HD1.out 1 _ rfl
          have s2 : wz.cell? ⟨h1, r1 + k * 4 + 2, none⟩ = some (.int .i64 x.line) := HD1.out 2 _ rfl
          have s3 : wz.cell? ⟨h1, r1 + k * 4 + 3, none⟩ = some (.int .i64 x.col) := HD1.out 3 _ rfl
          have t0 : wz.cell? ⟨h2, r2 + k * 4 + 0, none⟩ = some (.string ⟨x.text.toArray⟩) := HD2.out 0 _ rfl
          have t1 : wz.cell? ⟨h2, r2 + k * 4 + 1, none⟩ = some (.bool x.quoted) := HD2.out 1 _ rfl
          have t2 : wz.cell? ⟨h2, r2 + k * 4 + 2, none⟩ = some (.int .i64 x.line) := HD2.out 2 _ rfl
          have t3 : wz.cell? ⟨h2, r2 + k * 4 + 3, none⟩ = some (.int .i64 x.col) := HD2.out 3 _ rfl
          rw [Nat.add_zero] at s0 t0
          clear hwz hd1 hd2 HD1 HD2
          have hkli : (k : Int) < (ws.length : Int) := by omega
          go_wp2_with fail
          go_quiet (fail)
          go_wp2
          go_roundw
          case rel => exact ⟨k + 1, _, by go_num, by omega, by rw [← HWZ.out, World.drewN_drewN]⟩
          case measure => simp [intOf]; omega
        · obtain rfl : k = ws.length := by omega
          go_wp2
          go_roundw
          case rel => exact ⟨j + 1, q + m, by go_num, by omega, by rw [← HWQ.out, World.drewN_drewN]⟩
          case measure => simp [intOf]; omega
    · obtain rfl : j = o1.length := by omega
      go_wp2
      go_ret
      exact ⟨rfl, q, rfl⟩
end Go.Proofs.Ytgmemngfkajnbaa
