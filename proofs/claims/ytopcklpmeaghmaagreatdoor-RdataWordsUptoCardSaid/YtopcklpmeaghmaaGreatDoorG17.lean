/- Texts of the proofs, merged. -/
import Derived.Test.YtopcklpmeaghmaaGreatDoorG14
import Derived.Test.YtopcklpmeaghmaaGreatDoorG16
import Derived.Test.YtopcklpmeaghmaaGreatDoorG10
import Derived.Lib.SlicesS
import Derived.Test.YtopcklpmeaghmaaGreatDoorG6
import Derived.Lib.SplitLaws
import Derived.Test.YtopcklpmeaghmaaGreatDoorG15
/- The reader's numbers and names are kept. -/
namespace Go.Proofs.YtopcklpmeaghmaaGreatDoor
open Go.RowKit

theorem setN_cells (v : Value) (o : ByteArray) (d : Rd.Dt) (n k : Nat) (hn : n < 5) : (rdC v o d n).setIfInBounds (5 + n) (.int .u32 k) = rdC v o (Rd.setN d n k) n := by
  rcases (by omega : n = 0 ∨ n = 1 ∨ n = 2 ∨ n = 3 ∨ n = 4) with rfl | rfl | rfl | rfl | rfl <;> rfl
section
variable {g hi n : Nat} {o : ByteArray} {ws : List Rd.W2} {x : Rd.W2} {d : Rd.Dt} {w : World}
theorem Kb.heapOf {g b : Nat} {w w1 w2 : World} (h : Kb g b w w1) (e1 : w2.heap = w1.heap) (e2 : w2.os = w1.os) (e3 : w2.tape = w1.tape) (e4 : w2.output = w1.output) : Kb g b w w2 :=
  ⟨e2.trans h.os, e3.trans h.tape, e4.trans h.output, by rw [e1]; exact h.size, fun k hk hne => by rw [e1]; exact h.block k hk hne⟩
set_option maxHeartbeats 1000000 in
set_option maxRecDepth 100000 in
theorem rdKeep_any (h : St w g hi o ws d n) (hn : n < 5) (k : Nat) :
    Calls Tryz.prog 81 #[.pointer (some ⟨g, 0, none⟩), .int .u32 k] w fun e w' => e = .returned (.tuple #[]) ∧ St w' g hi o ws (Rd.setN d n k) (n + 1) ∧ Kb g w.heap.size w w' := by
  obtain ⟨v, hh⟩ := h.has
  have c10 : w.cell? ⟨g, 10, none⟩ = some (.int .i64 n) := by rw [hh.cell]; rfl
  obtain ⟨u, hu⟩ : ∃ u, (rdC v o d n)[5 + n]'(by show _ < 11; omega) = u := ⟨_, rfl⟩
  have cn : w.cell? ⟨g, 5 + n, none⟩ = some u := by rw [hh.cell, ← hu]; simp
  have f10 := hh.free 10
  have fn := hh.free (5 + n)
  have hni : ((n : Nat) : Int) < 5 := by omega
  have hnj : (0 : Int) ≤ ((n : Nat) : Int) := by omega
  have hw : IntKind.i64.wrap ((n : Int) + 1) = (n : Int) + 1 := by rw [IntKind.wrap_i64]; omega
  have HS := Lib.hid h
  clear h hu hh
  go_enter Tryz.func81, Tryz.ntmps81
  go_wp2
  go_region
  obtain ⟨W1, hW1⟩ : ∃ W1, w.setCell ⟨g, 5 + n, none⟩ (.int .u32 k) = W1 := ⟨_, rfl⟩
  rw [hW1]
  have hk1 := (Kb.refl g w.heap.size w).set (5 + n) (.int .u32 k)
  rw [hW1] at hk1
  have h1 : St W1.drew g hi o ws (Rd.setN d n k) n := HS.out.put (i := 5 + n) (u := .int .u32 k) (by rw [hW1]; rfl) (fun v => setN_cells v o d n k hn)
  have hk2 : Kb g w.heap.size w W1.drew := hk1.heapOf rfl rfl rfl rfl
  obtain ⟨v2, hh2⟩ := h1.has
  have d10 : W1.drew.cell? ⟨g, 10, none⟩ = some (.int .i64 n) := by rw [hh2.cell]; rfl
  have g10 := hh2.free 10
  have H1 := Lib.hid h1
  have HK := Lib.hid hk2
  clear h1 hk2 hk1 hW1 c10 cn f10 fn hh2
  generalize W1.drew = W2 at *
  go_wp2
  go_end0
  exact ⟨rfl, H1.out.put (i := 10) (u := .int .i64 ((n : Int) + 1)) rfl (fun v => rfl), HK.out.set 10 _⟩
set_option maxRecDepth 100000 in
theorem rdNarrow_ok (h : St w g hi o (x :: ws) d n) (hx : x.2 = false) (hn : n < 5) {k : Nat} (hv : Rd.num x.1 65535 = some k) :
    Calls Tryz.prog 52 #[.pointer (some ⟨g, 0, none⟩)] w fun e w' => e = .returned (.tuple #[]) ∧ St w' g hi o ws (Rd.setN d n k) (n + 1) ∧ Kb g w.heap.size w w' := by
  have HN := Lib.hid (rdNumberR_ok h hx 16 (.inr (.inl rfl)) (v := k) hv)
  clear h hv
  go_enter Tryz.func52, Tryz.ntmps52
  go_wp2_with (first
    | (go_at_call 24; refine (width_8 _).mono ?_; rintro e w0 ⟨rfl, rfl⟩)
    | (go_at_call 41; refine HN.out.mono ?_; rintro e w1 ⟨rfl, S1, K1⟩; have HC := Lib.hid (rdKeep_any S1 hn k); have HK := Lib.hid K1; clear S1 K1)
    | (go_at_call 81; refine HC.out.mono ?_; rintro e w2 ⟨rfl, S2, K2⟩; have HS2 := Lib.hid S2; have HK2 := Lib.hid (HK.out.on K2); clear S2 K2))
  go_end0
  exact ⟨rfl, HS2.out, HK2.out⟩
set_option maxRecDepth 100000 in
theorem rdWide_ok (h : St w g hi o (x :: ws) d n) (hx : x.2 = false) (hn : n < 5) {k : Nat} (hv : Rd.num x.1 4294967295 = some k) :
    Calls Tryz.prog 53 #[.pointer (some ⟨g, 0, none⟩)] w fun e w' => e = .returned (.tuple #[]) ∧ St w' g hi o ws (Rd.setN d n k) (n + 1) ∧ Kb g w.heap.size w w' := by
  have HN := Lib.hid (rdNumberR_ok h hx 32 (.inr (.inr rfl)) (v := k) hv)
  clear h hv
  go_enter Tryz.func53, Tryz.ntmps53
  go_wp2_with (first
    | (go_at_call 24; refine (width_9 _).mono ?_; rintro e w0 ⟨rfl, rfl⟩)
    | (go_at_call 41; refine HN.out.mono ?_; rintro e w1 ⟨rfl, S1, K1⟩; have HC := Lib.hid (rdKeep_any S1 hn k); have HK := Lib.hid K1; clear S1 K1)
    | (go_at_call 81; refine HC.out.mono ?_; rintro e w2 ⟨rfl, S2, K2⟩; have HS2 := Lib.hid S2; have HK2 := Lib.hid (HK.out.on K2); clear S2 K2))
  go_end0
  exact ⟨rfl, HS2.out, HK2.out⟩
set_option maxRecDepth 100000 in
theorem rdName_ok (h : St w g hi o (x :: ws) d n) (hx : x.2 = false) (ho : o.size ≤ 140737488355328) {r : List UInt8} (hr : Rd.nameR o.data.toList x.1 = some r) :
    Calls Tryz.prog 80 #[.pointer (some ⟨g, 0, none⟩)] w fun e w' => e = .returned (sv r) ∧ St w' g hi o ws d n ∧ Kb g w.heap.size w w' := by
  have hl := h.one
  have HN := Lib.hid (rdPlain_any h hx)
  clear h
  unfold Rd.nameR at hr
  by_cases h64 : x.1 = [64]
  · rw [if_pos h64] at hr
    injection hr with hr
    have ho2 : sv r = .string o := by rw [← hr]
    rw [ho2]
    rw [h64] at HN
    have hb64 : ((⟨#[64]⟩ : ByteArray).toList == (⟨#[64]⟩ : ByteArray).toList) = true := (Lib.bytes_beq_iff _ _).2 rfl
    go_enter Tryz.func80, Tryz.ntmps80
    go_wp2_with (go_at_call 42; refine HN.out.mono ?_; rintro e w1 ⟨rfl, S1, K1⟩; obtain ⟨v, hh⟩ := S1.has; have c1 : w1.cell? ⟨g, 1, none⟩ = some (.string o) := (by rw [hh.cell]; rfl); have HS := Lib.hid S1; have HK := Lib.hid K1; clear S1 K1 hh)
    go_ret
    exact ⟨rfl, HS.out, HK.out⟩
  · rw [if_neg h64] at hr
    have hpr : (Nm.parse x.1 o.data.toList).2 = 0 ∧ (Nm.parse x.1 o.data.toList).1 = r := by
      by_cases hp : (Nm.parse x.1 o.data.toList).2 = 0
      · rw [if_pos hp] at hr
        injection hr with hr
        exact ⟨hp, hr⟩
      · rw [if_neg hp] at hr; cases hr
    have hR : parseR x.1 o.data.toList = .tuple #[sv r, .int .i64 0] := by
      unfold parseR
      rw [← hpr.2, hpr.1]
      rfl
    have hb64 : (x.1 == ([64] : List UInt8)) = false := beq_eq_false_iff_ne.2 h64
    have HP := Lib.hid (fun (W : World) (hL : Lay W) => by have := Parse_any ⟨x.1.toArray⟩ o W hL (by rw [mk_size]; exact hl) ho; rw [show (⟨x.1.toArray⟩ : ByteArray).data.toList = x.1 from by simp, hR] at this; exact this)
    clear hr hpr hR hl
    go_enter Tryz.func80, Tryz.ntmps80
    go_wp2_with (first
      | (go_at_call 42; refine HN.out.mono ?_; rintro e w1 ⟨rfl, S1, K1⟩; obtain ⟨v, hh⟩ := S1.has; have c1 : w1.cell? ⟨g, 1, none⟩ = some (.string o) := (by rw [hh.cell]; rfl); have HS := Lib.hid S1; have HK := Lib.hid K1; clear S1 K1 hh)
      | (go_at_call 104; refine (HP.out _ HS.out.gl.1).mono ?_; rintro e w2 ⟨rfl, B2⟩; have HB := Lib.hid B2; clear B2))
    go_ret
    exact ⟨rfl, HS.out.keep HB.out, HK.out.onB HB.out⟩
set_option maxRecDepth 100000 in
theorem rdHost_ok (h : St w g hi o (x :: ws) d n) (hx : x.2 = false) (ho : o.size ≤ 140737488355328) {r : List UInt8} (hr : Rd.nameR o.data.toList x.1 = some r) :
    Calls Tryz.prog 50 #[.pointer (some ⟨g, 0, none⟩)] w fun e w' => e = .returned (.tuple #[]) ∧ St w' g hi o ws { d with host := r } n ∧ Kb g w.heap.size w w' := by
  have HN := Lib.hid (rdName_ok h hx ho hr)
  clear h hr
  go_enter Tryz.func50, Tryz.ntmps50
  go_wp2_with (go_at_call 80; refine HN.out.mono ?_; rintro e w1 ⟨rfl, S1, K1⟩; obtain ⟨v, hh⟩ := S1.has; have c3 : w1.cell? ⟨g, 3, none⟩ = some (sv d.host) := (by rw [hh.cell]; rfl); have f3 := hh.free 3; have HS := Lib.hid S1; have HK := Lib.hid K1; clear S1 K1 hh)
  go_end0
  exact ⟨rfl, HS.out.put (i := 3) (u := sv r) rfl (fun v => rfl), HK.out.set 3 _⟩
set_option maxRecDepth 100000 in
theorem rdMail_ok (h : St w g hi o (x :: ws) d n) (hx : x.2 = false) (ho : o.size ≤ 140737488355328) {r : List UInt8} (hr : Rd.nameR o.data.toList x.1 = some r) :
    Calls Tryz.prog 51 #[.pointer (some ⟨g, 0, none⟩)] w fun e w' => e = .returned (.tuple #[]) ∧ St w' g hi o ws { d with mail := r } n ∧ Kb g w.heap.size w w' := by
  have HN := Lib.hid (rdName_ok h hx ho hr)
  clear h hr
  go_enter Tryz.func51, Tryz.ntmps51
  go_wp2_with (go_at_call 80; refine HN.out.mono ?_; rintro e w1 ⟨rfl, S1, K1⟩; obtain ⟨v, hh⟩ := S1.has; have c4 : w1.cell? ⟨g, 4, none⟩ = some (sv d.mail) := (by rw [hh.cell]; rfl); have f4 := hh.free 4; have HS := Lib.hid S1; have HK := Lib.hid K1; clear S1 K1 hh)
  go_end0
  exact ⟨rfl, HS.out.put (i := 4) (u := sv r) rfl (fun v => rfl), HK.out.set 4 _⟩
end
end Go.Proofs.YtopcklpmeaghmaaGreatDoor
/- What strings.Split and strings.Cut tell, as the pure side says it. Nothing of the program. -/
namespace Go.Proofs.YtopcklpmeaghmaaGreatDoor.Rd

theorem at_first (b : UInt8) : ∀ s : By, (∀ c ∈ s, c ≠ b) ∨ ∃ p t, s = p ++ b :: t ∧ ∀ c ∈ p, c ≠ b
  | [] => .inl (fun _ h => by cases h)
  | c :: r => by
    by_cases h : c = b
    · exact .inr ⟨[], r, by rw [h]; rfl, fun _ h => by cases h⟩
    · rcases at_first b r with h1 | ⟨p, t, rfl, h1⟩
      · exact .inl (fun x hx => by rcases List.mem_cons.1 hx with rfl | hx; exact h; exact h1 x hx)
      · exact .inr ⟨c :: p, t, rfl, fun x hx => by rcases List.mem_cons.1 hx with rfl | hx; exact h; exact h1 x hx⟩
theorem idx_cons {b c : UInt8} {r : By} (h : c ≠ b) : Lib.index (c :: r) [b] = if Lib.index r [b] == -1 then -1 else Lib.index r [b] + 1 := by
  have hp : ([b] : By).isPrefixOf (c :: r) = false := by
    have : (b == c) = false := beq_eq_false_iff_ne.2 (fun e => h e.symm)
    simp [List.isPrefixOf, this]
  rw [Lib.index, hp]
  rfl
theorem idx_no {b : UInt8} : ∀ {s : By}, (∀ c ∈ s, c ≠ b) → Lib.index s [b] = -1
  | [], _ => rfl
  | c :: r, h => by rw [idx_cons (h c (by simp)), idx_no (fun x hx => h x (by simp [hx]))]; rfl
theorem idx_at {b : UInt8} {t : By} : ∀ {p : By}, (∀ c ∈ p, c ≠ b) → Lib.index (p ++ b :: t) [b] = (p.length : Int)
  | [], _ => by rw [List.nil_append, Lib.index, if_pos (by simp [List.isPrefixOf])]; rfl
  | c :: r, h => by
    rw [List.cons_append, idx_cons (h c (by simp)), idx_at (fun x hx => h x (by simp [hx])), if_neg (by simp), List.length_cons]
    omega
theorem splitK_eq (b : UInt8) : ∀ (n : Nat) (s : By), s.length ≤ n → Lib.splitK [b] 0 (Lib.count s [b]) s = splitB b s
  | 0, s, h => by
    have : s = [] := List.length_eq_zero_iff.1 (by omega)
    subst this
    rfl
  | n + 1, s, h => by
    rcases at_first b s with h1 | ⟨p, t, rfl, h1⟩
    · rw [Lib.count_miss (idx_no h1), splitB_no h1]
      rfl
    · have hi := idx_at (t := t) h1
      have hd : (p ++ b :: t).drop (p.length + ([b] : By).length) = t := by
        rw [List.length_singleton, List.drop_append, List.drop_eq_nil_of_le (by omega), List.nil_append, show p.length + 1 - p.length = 1 by omega]
        rfl
      rw [Lib.count_hit (by simp) hi, hd, Nat.add_comm 1, Lib.splitK, hi, if_neg (by simp), Int.toNat_natCast, hd, splitB_cons t h1, Nat.add_zero, splitK_eq b n t (by simp at h; omega)]
      congr 1
      simp
theorem split_lib (s : ByteArray) (b : UInt8) : (Lib.splitB ⟨#[b]⟩ 0 (Lib.countB s ⟨#[b]⟩) s).map (·.data.toList) = splitB b s.data.toList := by
  rw [Lib.splitB_data]
  exact splitK_eq b _ _ (Nat.le_refl _)
theorem cut2_lib : ∀ s : By, Lib.cut s [58, 58] = cut2 s
  | [] => rfl
  | [c] => by simp [cut2, Lib.cut, Lib.index, List.isPrefixOf]
  | c :: d :: r => by
    have ih := cut2_lib (d :: r)
    by_cases h : c = 58 ∧ d = 58
    · obtain ⟨rfl, rfl⟩ := h
      simp [cut2, Lib.cut, Lib.index, List.isPrefixOf]
    · have hp : ([58, 58] : By).isPrefixOf (c :: d :: r) = false := by
        by_cases hc : c = 58
        · have hd : ¬ d = 58 := fun e => h ⟨hc, e⟩
          have : ((58 : UInt8) == d) = false := beq_eq_false_iff_ne.2 (fun e => hd e.symm)
          simp [List.isPrefixOf, this]
        · have : ((58 : UInt8) == c) = false := beq_eq_false_iff_ne.2 (fun e => hc e.symm)
          simp [List.isPrefixOf, this]
      have e : Lib.index (c :: d :: r) [58, 58] = if Lib.index (d :: r) [58, 58] == -1 then -1 else Lib.index (d :: r) [58, 58] + 1 := by
        rw [Lib.index, hp]
        rfl
      rw [cut2, if_neg h, ← ih]
      unfold Lib.cut
      rw [e]
      have hge := Lib.index_ge (d :: r) [58, 58]
      generalize Lib.index (d :: r) [58, 58] = i at *
      by_cases h0 : 0 ≤ i
      · obtain ⟨k, rfl⟩ := Int.eq_ofNat_of_zero_le h0
        have e1 : ((k : Int) == -1) = false := beq_eq_false_iff_ne.2 (by omega)
        have e3 : (if ((k : Int) == -1) = true then (-1 : Int) else (k : Int) + 1) = (k : Int) + 1 := by rw [e1]; rfl
        rw [e3, if_pos (by omega), if_pos (by omega)]
        have e2 : ((k : Int) + 1).toNat = k + 1 := by omega
        rw [e2, Int.toNat_natCast]
        simp
      · have e1 : i = -1 := by omega
        subst e1
        rfl
end Go.Proofs.YtopcklpmeaghmaaGreatDoor.Rd
/- An address of four bytes, read of a word: the program's. -/
namespace Go.Proofs.YtopcklpmeaghmaaGreatDoor
open Go.RowKit

theorem split_any (s : List UInt8) (b : UInt8) (w : World) (hs : s.length < 4294967281) (hm : ∃ m : Int, w.cell? ⟨2, 0, none⟩ = some (.int .i64 m)) :
    Calls Tryz.prog 75 #[sv s, .string ⟨#[b]⟩] w fun e w' => e = .returned (.slice (some ⟨w.heap.size, 0, none⟩) (Rd.splitB b s).length (Rd.splitB b s).length) ∧ w' = w.alloc (.cells (svs (Rd.splitB b s)).toArray 9) := by
  obtain ⟨m, hm⟩ := hm
  have hl := Rd.split_lib ⟨s.toArray⟩ b
  have hn := Lib.splitB_all ⟨#[b]⟩ (Nat.le_refl 1) 0 _ ⟨s.toArray⟩ rfl
  have e1 : Lib.countB ⟨s.toArray⟩ ⟨#[b]⟩ + 1 = (Rd.splitB b s).length := by
    rw [← hn, ← List.length_map (f := fun x : ByteArray => x.data.toList), hl]
  have e2 : (Lib.splitB ⟨#[b]⟩ 0 (Lib.countB ⟨s.toArray⟩ ⟨#[b]⟩) ⟨s.toArray⟩).map Value.string = svs (Rd.splitB b s) := by
    have : Rd.splitB b s = (Lib.splitB ⟨#[b]⟩ 0 (Lib.countB ⟨s.toArray⟩ ⟨#[b]⟩) ⟨s.toArray⟩).map (·.data.toList) := by rw [hl]
    rw [this, svs, List.map_map]
    congr 1
  have H := Tryz.strings_Split ⟨s.toArray⟩ ⟨#[b]⟩ m w (by simpa [ByteArray.size] using hs) hm (Nat.le_refl 1)
  rw [e1, e2] at H
  exact H
theorem Rd.splitB_len {b : UInt8} : ∀ {s p : List UInt8}, p ∈ Rd.splitB b s → p.length ≤ s.length
  | [], p, h => by
    have : p = [] := by simpa [Rd.splitB] using h
    rw [this]
    simp
  | c :: r, p, h => by
    rw [Rd.splitB] at h
    split at h
    · rcases List.mem_cons.1 h with rfl | h
      · simp
      · have := Rd.splitB_len h
        rw [List.length_cons]; omega
    · split at h
      · rename_i e
        have : p = [c] := by simpa using h
        rw [this]; simp
      · rename_i q qs e
        rcases List.mem_cons.1 h with rfl | h
        · have := Rd.splitB_len (b := b) (s := r) (p := q) (by rw [e]; simp)
          rw [List.length_cons, List.length_cons]; omega
        · have := Rd.splitB_len (b := b) (s := r) (p := p) (by rw [e]; exact List.mem_cons_of_mem _ h)
          rw [List.length_cons]; omega
/-- four bytes, as they are written. -/
def r4 (out : List UInt8) : Array Value := (bv out ++ List.replicate (4 - out.length) (Value.int .u8 0)).toArray
theorem r4_set (out : List UInt8) (c : UInt8) (h : out.length < 4) : (r4 out).setIfInBounds out.length (.int .u8 (c.toNat : Int)) = r4 (out ++ [c]) := by
  unfold r4
  have e : 4 - out.length = (4 - (out ++ [c]).length) + 1 := by simp; omega
  rw [List.setIfInBounds_toArray, List.set_append_right _ _ (by simp [bv]), bv_length, Nat.sub_self, e, List.replicate_succ, List.set_cons_zero]
  simp [bv]
theorem r4_at (out : List UInt8) (h : out.length < 4) : (r4 out)[out.length]? = some (.int .u8 0) := by
  unfold r4
  rw [List.getElem?_toArray, List.getElem?_append_right (by simp [bv]), bv_length, Nat.sub_self, List.getElem?_replicate, if_pos (by omega)]
theorem Rd.allM_at {f : List UInt8 → Option Nat} : ∀ {l : List (List UInt8)} {vs : List Nat}, Rd.allM f l = some vs → vs.length = l.length ∧ ∀ j (h : j < l.length) (h2 : j < vs.length), f l[j] = some vs[j]
  | [], vs, h => by
    injection h with h
    subst h
    exact ⟨rfl, fun j h => absurd h (by simp)⟩
  | p :: r, vs, h => by
    rw [Rd.allM] at h
    split at h
    · rename_i v vs' h1 h2
      injection h with h
      subst h
      obtain ⟨e1, e2⟩ := Rd.allM_at h2
      refine ⟨by simp [e1], fun j hj hj2 => ?_⟩
      cases j with
      | zero => exact h1
      | succ j => exact e2 j (by simpa using hj) (by simpa using hj2)
    · cases h
section
variable {g hi n : Nat} {o : ByteArray} {ws : List Rd.W2} {x : Rd.W2} {d : Rd.Dt} {w : World}
theorem St.ml (h : St w g hi o ws d n) : ∃ m : Int, w.cell? ⟨2, 0, none⟩ = some (.int .i64 m) := h.gl.2.2.1
set_option maxHeartbeats 1000000 in
set_option maxRecDepth 100000 in
theorem rdFour_ok (h : St w g hi o (x :: ws) d n) (hx : x.2 = false) (h32 : x.1.length < 4294967281) {r : List UInt8} (hr : Rd.addr4 x.1 = some r) :
    Calls Tryz.prog 47 #[.pointer (some ⟨g, 0, none⟩)] w fun e w' => e = .returned (.tuple #[]) ∧ St w' g hi o ws { d with raw := r } n ∧ Kb g w.heap.size w w' := by
  have HP := Lib.hid (rdPlain_any h hx)
  have HSP := Lib.hid (fun (W : World) hm => split_any x.1 46 W h32 hm)
  clear h
  obtain ⟨ps, hps⟩ : ∃ ps, Rd.splitB 46 x.1 = ps := ⟨_, rfl⟩
  unfold Rd.addr4 at hr
  rw [hps] at hr HSP
  have h4 : ps.length = 4 := Decidable.byContradiction fun h4 => by rw [if_neg h4] at hr; cases hr
  rw [if_pos h4] at hr
  cases hv : Rd.allM (fun p => Rd.num p 255) ps with
  | none => rw [hv] at hr; cases hr
  | some vs =>
    rw [hv, Option.map_some] at hr
    injection hr with hr
    obtain ⟨hvl, hva⟩ := Rd.allM_at hv
    have HVA := Lib.hid hva
    have HVL := Lib.hid (hvl.trans h4)
    have HR := Lib.hid hr
    have HP4 := Lib.hid h4
    have hpl : ∀ p ∈ ps, p.length ≤ 140737488355328 := fun p hp => by
      rw [← hps] at hp
      have := Rd.splitB_len hp
      omega
    have HPL := Lib.hid hpl
    rw [h4] at HSP
    clear hv hva hvl hr hps hpl h4
    go_enter Tryz.func47, Tryz.ntmps47
    go_wp2_with (first
      | (go_at_call 42; refine HP.out.mono ?_; rintro e w1 ⟨rfl, S1, K1⟩; have HM := Lib.hid S1.ml; have HS := Lib.hid S1; have HK := Lib.hid K1; clear S1 K1)
      | (go_at_call 75; refine (HSP.out _ HM.out).mono ?_; rintro e w2 ⟨rfl, E2⟩; have HE2 := Lib.hid E2; clear E2))
    have hB12 : Below w1.heap.size w1 w2 := by rw [HE2.out]; exact (Below.refl _ _).alloc (Nat.le_refl _) _
    have hlt12 : w1.heap.size < w2.heap.size := by rw [HE2.out]; simp
    have hpc : ∀ j (hj : j < ps.length), w2.cell? ⟨w1.heap.size, j, none⟩ = some (sv (ps[j]'hj)) := fun j hj => by
      rw [HE2.out, (Has.fresh w1 9 (svs ps).toArray).cell]
      simp [svs, hj]
    have HPC := Lib.hid hpc
    have HB12 := Lib.hid hB12
    have HB0 := Lib.hid ((Below.refl w2.heap.size w2).alloc (Nat.le_refl _) (.cells #[.int .u8 0, .int .u8 0, .int .u8 0, .int .u8 0] 126))
    clear hpc hB12 HE2 HM
    go_loopw [16] (fun i wr => ∃ k : Nat, i = .int .i64 k ∧ k ≤ 4 ∧ Hid (Below w2.heap.size w2 wr) ∧ Hid (Has wr w2.heap.size 126 (r4 (r.take k)))) (fun i _ => 4 - (intOf i).toNat)
    case atStart => exact ⟨0, rfl, by omega, HB0.out, Has.fresh w2 _ _⟩
    case round =>
      obtain ⟨k, rfl, hk, HB, HH⟩ := hrel
      have hsz := HB.out.size
      by_cases hlt : k < 4
      · have hj : k < ps.length := by rw [HP4.out]; exact hlt
        have hj2 : k < vs.length := by rw [HVL.out]; exact hlt
        have hnum := HVA.out k hj hj2
        have hle := Rd.num_le hnum
        have cp : wr.cell? ⟨w1.heap.size, k, none⟩ = some (sv (ps[k]'hj)) := (HB.out.cell (p := ⟨w1.heap.size, k, none⟩) hlt12).trans (HPC.out k hj)
        have hpk := HPL.out _ (List.getElem_mem hj)
        have hrl : r.length = 4 := by rw [← HR.out, List.length_map, HVL.out]
        have hrt : (r.take k).length = k := by rw [List.length_take, hrl]; omega
        have hrk : r.take (k + 1) = r.take k ++ [UInt8.ofNat (vs[k]'hj2)] := by
          rw [List.take_succ_eq_append_getElem (by omega)]
          simp only [← HR.out, List.getElem_map]
        have ht8 : (UInt8.ofNat (vs[k]'hj2)).toNat = vs[k]'hj2 := by simp; omega
        have hset := r4_set (r.take k) (UInt8.ofNat (vs[k]'hj2)) (by omega)
        rw [hrt, ht8, ← hrk] at hset
        have hat := r4_at (r.take k) (by omega)
        rw [hrt] at hat
        have HSET := Lib.hid hset
        have ck : wr.cell? ⟨w2.heap.size, k, none⟩ = some (.int .u8 0) := by rw [HH.out.cell]; exact hat
        have HDG := Lib.hid (fun (W : World) => rdDigits_ok (.pointer (some ⟨g, 0, none⟩)) ⟨(ps[k]'hj).toArray⟩ W 8 (.inl rfl) (by rw [mk_size]; exact hpk) (by simpa using hnum))
        generalize ps[k]'hj = pk at *
        generalize vs[k]'hj2 = vk at *
        have hwr : IntKind.u8.wrap (vk : Int) = (vk : Int) := by rw [IntKind.wrap_u8]; omega
        have hki : (k : Int) < 4 := by omega
        clear hset hat hrk hrt ht8 hnum hpk hrl
        go_wp2_with (go_at_call 72; refine (HDG.out _).mono ?_; rintro e w3 ⟨rfl, B3⟩; have c3 := (B3.cell (p := ⟨w2.heap.size, k, none⟩) HH.out.lt).trans ck; have HH3 := Lib.hid (HH.out.below B3 HH.out.lt); have f3 := HH3.out.free k; have HB3 := Lib.hid (HB.out.trans (B3.mono hsz)); clear B3)
        exact ⟨⟨k + 1, by go_num, by omega, HB3.out.setCell (Nat.le_refl _) _, by rw [← HSET.out]; exact HH3.out.set _ _⟩, by simp [intOf]; omega⟩
      · obtain rfl : k = 4 := by omega
        have hrl : r.length = 4 := by rw [← HR.out, List.length_map, HVL.out]
        have hR4 : Has wr w2.heap.size 126 (bv r).toArray := by
          have := HH.out
          rw [List.take_of_length_le (by omega)] at this
          unfold r4 at this
          rw [hrl] at this
          simpa using this
        have hcv := run_convert_bs (w := wr) (P := Tryz.prog) 48 9 5 Tryz.underlying48 Tryz.underlying5 Tryz.underlying9 0 (w2.heap.size + 1) (some ⟨w2.heap.size, 0, none⟩) 4 4 r hrl.symm (fun _ => ⟨w2.heap.size, 0, rfl, Nat.zero_le _, by omega, fun j hj => by rw [hR4.cell, Nat.zero_add]; simp [bv, hj]⟩)
        have SW := HS.out.keep (HB12.out.trans (HB.out.mono (by omega)))
        obtain ⟨v, hh⟩ := SW.has
        have c2 : wr.cell? ⟨g, 2, none⟩ = some (sv d.raw) := by rw [hh.cell]; rfl
        have f2 := hh.free 2
        have HSW := Lib.hid SW
        have HKW := Lib.hid (HK.out.onB (HB12.out.trans (HB.out.mono (by omega))))
        clear hR4 SW hh hrl HH HB HR HVA HVL HPL HPC
        go_wp2
        trace_state
        go_end0
        exact ⟨rfl, HSW.out.put (i := 2) (u := sv r) rfl (fun v => rfl), HKW.out.set 2 _⟩
end
end Go.Proofs.YtopcklpmeaghmaaGreatDoor
/- Groups of digits to the base 16, read of a text: the program's. -/
namespace Go.Proofs.YtopcklpmeaghmaaGreatDoor
open Go.RowKit

theorem Tryz.infoU16 : (Tryz.prog.info? 22).map (fun i => (i.zero, i.size, i.bytes)) = some (some (.int .u16 0), 1, 2) := by kernel_rfl
/-- numbers of 16 bits as values. -/
def u16s (vs : List Nat) : List Value := vs.map fun (n : Nat) => Value.int .u16 (n : Int)
theorem u16s_snoc (vs : List Nat) (k : Nat) (h : k < vs.length) : u16s (vs.take (k + 1)) = u16s (vs.take k) ++ [.int .u16 ((vs[k]'h : Nat) : Int)] := by
  rw [List.take_succ_eq_append_getElem h]
  unfold u16s
  rw [List.map_append]
  rfl
theorem Rd.splitB_count (b : UInt8) : ∀ s : List UInt8, (Rd.splitB b s).length ≤ s.length + 1
  | [] => by simp [Rd.splitB]
  | c :: r => by
    have := Rd.splitB_count b r
    rw [Rd.splitB]
    split
    · simp; omega
    · split
      · simp
      · rename_i e
        rw [e] at this
        simp at this ⊢
        omega
set_option maxHeartbeats 1000000 in
set_option maxRecDepth 100000 in
theorem rdGroups_ok (p : Value) (s : List UInt8) (w : World) (h32 : s.length < 4294967281) (hm : ∃ m : Int, w.cell? ⟨2, 0, none⟩ = some (.int .i64 m)) {vs : List Nat} (hv : Rd.groupsR s = some vs) :
    Calls Tryz.prog 77 #[p, sv s] w fun e w' => ∃ v, e = .returned v ∧ w'.ownsRow w.heap.size 22 1 v vs.length (u16s vs) ∧ Below w.heap.size w w' := by
  obtain ⟨i0, hi0, hz0, hz1, hz2⟩ := info_parts Tryz.infoU16
  unfold Rd.groupsR at hv
  have hz : (⟨s.toArray⟩ : ByteArray).size = s.length := mk_size s
  by_cases h0 : s = []
  · rw [if_pos h0] at hv
    injection hv with hv
    subst h0
    subst hv
    clear hz hm
    have he : (⟨#[]⟩ : ByteArray).toList.isEmpty = true := empty_yes rfl
    go_enter Tryz.func77, Tryz.ntmps77
    go_wp2
    go_ret
    exact ⟨_, rfl, World.ownsRow_nil _ _ _ _, Below.refl _ _⟩
  · rw [if_neg h0] at hv
    have HSP := Lib.hid (split_any s 58 w h32 hm)
    have hl0 : s.length ≠ 0 := fun e => h0 (List.length_eq_zero_iff.1 e)
    have he := empty_no (s := (⟨s.toArray⟩ : ByteArray)) (by rw [hz]; exact hl0)
    obtain ⟨ps, hps⟩ : ∃ ps, Rd.splitB 58 s = ps := ⟨_, rfl⟩
    rw [hps] at hv HSP
    obtain ⟨hvl, hva⟩ := Rd.allM_at hv
    have HVA := Lib.hid hva
    have HVL := Lib.hid hvl
    have hpn : ps.length ≤ 4294967281 := by have := Rd.splitB_count 58 s; rw [hps] at this; omega
    have HZ := Lib.hid hz
    clear hv hva hps h0 hm hvl hl0 hz
    have HSP2 : Hid (Calls Tryz.prog 75 #[.string ⟨s.toArray⟩, .string ⟨#[58]⟩] w _) := HSP.out
    clear HSP
    show Calls Tryz.prog 77 #[p, .string ⟨s.toArray⟩] w _
    generalize (⟨s.toArray⟩ : ByteArray) = t at *
    go_enter Tryz.func77, Tryz.ntmps77
    go_wp2_with (go_at_call 75; refine HSP2.out.mono ?_; rintro e w1 ⟨rfl, E1⟩; have HE1 := Lib.hid E1; clear E1)
    have hlt1 : w.heap.size < w1.heap.size := by rw [HE1.out]; simp
    have hpc : ∀ j (hj : j < ps.length), w1.cell? ⟨w.heap.size, j, none⟩ = some (sv (ps[j]'hj)) := fun j hj => by
      rw [HE1.out, (Has.fresh w 9 (svs ps).toArray).cell]
      simp [svs, hj]
    have HPC := Lib.hid hpc
    have HB1 : Hid (Below w.heap.size w w1) := by rw [Hid, HE1.out]; exact (Below.refl _ _).alloc (Nat.le_refl _) _
    clear hpc HE1
    go_loopw [5, 13] (fun v i wr => ∃ k : Nat, i = .int .i64 k ∧ k ≤ ps.length ∧ Hid (wr.ownsRow w1.heap.size 22 1 v k (u16s (vs.take k))) ∧ Hid (Below w1.heap.size w1 wr)) (fun _ i _ => ps.length - (intOf i).toNat)
    case atStart => exact ⟨0, rfl, by omega, World.ownsRow_nil _ _ _ _, Below.refl _ _⟩
    case round =>
      obtain ⟨k, rfl, hk, HO, HB⟩ := hrel
      have hsz := HB.out.size
      obtain ⟨ad, cp, hv⟩ := own_form HO.out
      subst hv
      by_cases hlt : k < ps.length
      · have hj2 : k < vs.length := by rw [HVL.out]; exact hlt
        have cp : wr.cell? ⟨w.heap.size, k, none⟩ = some (sv (ps[k]'hlt)) := (HB.out.cell (p := ⟨w.heap.size, k, none⟩) hlt1).trans (HPC.out k hlt)
        have HX := Lib.hid (fun (W : World) => rdHex_ok p (ps[k]'hlt) W (HVA.out k hlt hj2))
        have HSN := Lib.hid (u16s_snoc vs k hj2)
        generalize ps[k]'hlt = pk at *
        generalize vs[k]'hj2 = vk at *
        go_wp2_with (first
          | (go_at_call 44; refine (HX.out _).mono ?_; rintro e w3 ⟨rfl, B3⟩; have HO3 := Lib.hid (own_below HO.out B3 (Nat.le_refl _)); have HB3 := Lib.hid (HB.out.trans (B3.mono hsz)); have hsz3 := B3.size; clear B3)
          | (at_builtin; refine wpList_append_own _ rfl (.tmp 17) (.tmp 21) _ rfl w1.heap.size 22 i0 _ 1 2 Tryz.underlying129 hi0 hz0 hz1 hz2 rfl (by decide) _ k (u16s (vs.take k)) rfl (HO3.out.alloc _) ⟨w3.heap.size, 0, none⟩ 1 1 [.int .u16 vk] rfl rfl ?c1 ?c2 ?c3 ?c4 ?c5 (fun v' w4 hown1 hg1 _ => ?_)))
        case c1 => exact cell_one_new _ _ _
        case c2 => simp [Value.oneCell']
        case c3 => unfold maxLen; omega
        case c4 => omega
        case c5 => simp; omega
        exact ⟨⟨k + 1, rfl, by omega, by rw [HSN.out]; exact hown1, (HB3.out.alloc (by omega) _).grown hg1 (by simp; omega) (fun j hj => (HO3.out.lt j hj).1)⟩, by simp [intOf]; omega⟩
      · obtain rfl : k = ps.length := by omega
        have hvt : vs.take ps.length = vs := List.take_of_length_le (by rw [HVL.out]; exact Nat.le_refl _)
        have HVT := Lib.hid hvt
        clear hvt
        go_wp2
        go_ret
        exact ⟨_, rfl, own_to (own_mono HO.out (by omega)) HVL.out.symm (by rw [HVT.out]), HB1.out.trans (HB.out.mono (by omega))⟩
end Go.Proofs.YtopcklpmeaghmaaGreatDoor
/- The reader's short texts: the program's. -/
namespace Go.Proofs.YtopcklpmeaghmaaGreatDoor
open Go.RowKit

theorem putText_new (s : List UInt8) (hs : s.length ≤ 255) (W : World) :
    Calls Tryz.prog 79 #[.slice none 0 0, sv s] W fun e w' => ∃ g, e = .returned (.tuple #[.slice (some ⟨g, 0, none⟩) (s.length + 1) (s.length + 1), .int .i64 0]) ∧ Bs w' W.heap.size w'.heap.size (some ⟨g, 0, none⟩) (UInt8.ofNat s.length :: s) ∧ Below W.heap.size W w' := by
  have hz : (⟨s.toArray⟩ : ByteArray).size = s.length := mk_size s
  refine (putText_ok none [] 0 ⟨s.toArray⟩ W (Nat.le_refl _) (by simp) (by rw [hz]; exact hs) 0 Bs.nil).mono ?_
  rintro e w' ⟨g, cp, rfl, O, B⟩
  rw [hz] at O ⊢
  have e1 : ([] : List UInt8).length + 1 + s.length = s.length + 1 := by simp; omega
  rw [e1] at O ⊢
  refine ⟨g, rfl, ?_, B⟩
  have hb : bv ([] ++ Oc.beb 1 s.length ++ (⟨s.toArray⟩ : ByteArray).data.toList) = bv (UInt8.ofNat s.length :: s) := by
    congr 1
    simp [Oc.beb]
  rw [hb] at O
  exact Bs.of_own O
/-- how many words are left. -/
def wlen (w : World) (g : Nat) : Nat := match w.cell? ⟨g, 0, none⟩ with
  | some (.slice _ n _) => n
  | _ => 0
section
variable {g hi n : Nat} {o : ByteArray} {ws : List Rd.W2} {x : Rd.W2} {d : Rd.Dt} {w w' : World}
theorem St.front (h : St w g hi o ws d n) : ∃ A c, w.cell? ⟨g, 0, none⟩ = some (.slice A ws.length c) := by
  obtain ⟨v, h1, ⟨A, c, rfl, _⟩, _⟩ := h
  exact ⟨A, c, by rw [h1.cell]; rfl⟩
theorem St.wlen (h : St w g hi o ws d n) : wlen w g = ws.length := by
  obtain ⟨A, c, h⟩ := h.front
  unfold Proofs.YtopcklpmeaghmaaGreatDoor.wlen
  rw [h]
theorem St.keepG (h : St w g hi o ws d n) (hb : Below (g + 1) w w') : St w' g hi o ws d n := by
  obtain ⟨v, h1, h2, h3, h4⟩ := h
  exact ⟨v, h1.below hb (by omega), h2.keep (hb.mono (by omega)), h3, h4.below (hb.mono (by omega))⟩
theorem Kb.ownRow {b : Nat} {w1 w2 : World} {row : Option Nat} (h : Kb g b w w1) (G : w1.grownBy w2 row) (hr : ∀ k, row = some k → b ≤ k) (hb : b ≤ w1.heap.size) : Kb g b w w2 :=
  h.trans ⟨G.os, G.tape, G.output, G.size, fun k hk _ => G.block k (by omega) (fun e => by have := hr k e.symm; omega)⟩
theorem St.cell2 (h : St w g hi o ws d n) : w.cell? ⟨g, 2, none⟩ = some (sv d.raw) := by
  obtain ⟨v, h1⟩ := h.has
  rw [h1.cell]; rfl
theorem St.free (h : St w g hi o ws d n) (i : Nat) : w.frozen? ⟨g, i, none⟩ = false := by
  obtain ⟨v, h1⟩ := h.has
  exact h1.free i
theorem own_kb {B m : Nat} {v : Value} {xs : List Value} (h : w.ownsRow B 5 1 v m xs) (hk : Kb g w.heap.size w w') (hB : g < B) : w'.ownsRow B 5 1 v m xs := by
  refine ⟨h.1, ?_⟩
  rcases h.2 with hn | ⟨g', cap, cur, hv, hg, hh, rest⟩
  · exact .inl hn
  · exact .inr ⟨g', cap, cur, hv, hg, (hk.block g' (Array.getElem?_eq_some_iff.1 hh).1 (by omega)).trans hh, rest⟩
set_option maxHeartbeats 2000000 in
set_option maxRecDepth 100000 in
theorem rdTexts_ok (h : St w g hi o (x :: ws) d n) {r : List UInt8} (hr : Rd.textsR [] (x :: ws) = some r) :
    Calls Tryz.prog 49 #[.pointer (some ⟨g, 0, none⟩)] w fun e w' => e = .returned (.tuple #[]) ∧ St w' g hi o [] { d with raw := r } n ∧ Kb g w.heap.size w w' := by
  obtain ⟨i0, hi0, hz0, hz1, hz2⟩ := info_parts Tryz.infoByte
  have hgw := h.lt
  have hfld : ∀ (W : World) (s : ByteArray) (b : Bool) (l k : Int), (Instr.field 57 (.agg #[.string s, .bool b, .int .i64 l, .int .i64 k]) 0).run Tryz.prog W = .ok (.string s) W := fun _ _ _ _ _ => rfl
  have HS0 := Lib.hid h
  have HR0 := Lib.hid hr
  have HK0 := Lib.hid (Kb.refl g w.heap.size w)
  clear h hr
  go_enter Tryz.func49, Tryz.ntmps49
  go_wp2
  go_loopw [2] (fun v wr => ∃ (acc : List UInt8) (x : Rd.W2) (rest : List Rd.W2), acc.length ≤ 65535 ∧ Hid (Rd.textsR acc (x :: rest) = some r) ∧ Hid (wr.ownsRow w.heap.size 5 1 v acc.length (bv acc)) ∧ Hid (St wr g hi o (x :: rest) d n) ∧ Hid (Kb g w.heap.size w wr)) (fun _ wr => wlen wr g)
  case atStart => exact ⟨[], x, ws, by simp, HR0.out, World.ownsRow_nil _ _ _ _, HS0.out, HK0.out⟩
  case round =>
    obtain ⟨acc, x, rest, hacc, HR, HO, HS, HK⟩ := hrel
    have hsz := HK.out.size
    have hl := HS.out.one
    have hr := HR.out
    rw [Rd.textsR] at hr
    cases hu : Nm.unesc x.1 with
    | none => rw [hu] at hr; cases hr
    | some l =>
      rw [hu] at hr
      by_cases hb : 255 < l.length ∨ 65535 < acc.length + (1 + l.length)
      · simp only [hb, if_true] at hr
        cases hr
      · simp only [hb, if_false] at hr
        have hb1 : l.length ≤ 255 := by omega
        have hb2 : acc.length + (l.length + 1) ≤ 65535 := by omega
        have hb3 : decide ((65535 : Int) < (acc.length : Int) + ((l.length : Int) + 1)) = false := by simp; omega
        have HR2 := Lib.hid hr
        have HB := Lib.hid (fun (W : World) (hW : Lay W) => Bytes_yes x.1 l W hW hl hu)
        have HPT := Lib.hid (fun (W : World) => putText_new l hb1 W)
        have HN := Lib.hid (rdNext_any HS.out)
        have HW := Lib.hid HS.out.wlen
        obtain ⟨ad, cp, hv⟩ := own_form HO.out
        subst hv
        clear hr hb hu hl HR HS
        cases rest with
        | nil =>
          have hrr : acc ++ UInt8.ofNat l.length :: l = r := by
            have := HR2.out
            rw [Rd.textsR] at this
            injection this
          have HRR := Lib.hid hrr
          clear hrr
          go_wp2_with (first
            | (go_at_call 40; refine HN.out.mono ?_; rintro e w1 ⟨l1, k1, rfl, S1, K1⟩; have HS1 := Lib.hid S1; have HK1 := Lib.hid (HK.out.trans (K1.mono hsz)); have HO1 := Lib.hid (own_kb HO.out K1 hgw); have HL1 := Lib.hid S1.gl.1; clear S1 K1)
            | (go_at_call 78; refine (HB.out _ HL1.out).mono ?_; rintro e w2 ⟨rfl, B2⟩; have HB2 := Lib.hid B2; clear B2)
            | (go_at_call 79; refine (HPT.out _).mono ?_; rintro e w3 ⟨g3, rfl, BS3, B3⟩; have HBS3 := Lib.hid BS3; have HB3 := Lib.hid B3; have HO3 := Lib.hid (own_below (own_below HO1.out HB2.out (Nat.le_refl _)) B3 (Nat.le_refl _)); have hsz3 : w.heap.size ≤ w3.heap.size := Nat.le_trans HK1.out.size (Nat.le_trans HB2.out.size B3.size); have HS3 := Lib.hid ((HS1.out.keep HB2.out).keep B3); have HK3 := Lib.hid ((HK1.out.onB HB2.out).onB B3); clear BS3 B3)
            | (at_builtin; refine wpList_append_bs rfl (.tmp 34) (.tmp 35) 48 rfl w.heap.size 5 i0 _ Tryz.underlying48 hi0 hz0 hz1 hz2 rfl _ acc.length (bv acc) rfl HO3.out _ _ (some ⟨g3, 0, none⟩) (l.length + 1) (UInt8.ofNat l.length :: l) rfl HBS3.out (fun e => by cases e) (by simp; omega) hsz3 ?_; intro v4 w4 O4 G4; have B4 := below_self G4 (B := g + 1) (by omega) (fun k hk => by have := (HO3.out.lt k hk).1; omega); have HS4 := Lib.hid (HS3.out.keepG B4); obtain ⟨A4, C4, c4⟩ := HS4.out.front; have HO4 := Lib.hid O4; have HK4 := Lib.hid (HK3.out.ownRow G4 (fun k hk => (HO3.out.lt k hk).1) hsz3); have HO4 := Lib.hid (own_to HO4.out (m := (acc ++ UInt8.ofNat l.length :: l).length) (ys := bv (acc ++ UInt8.ofNat l.length :: l)) (by simp) (by rw [bv_append])); have hcv := run_convert_own w4 (P := Tryz.prog) 48 9 5 Tryz.underlying48 Tryz.underlying5 Tryz.underlying9 w.heap.size _ v4 (acc ++ UInt8.ofNat l.length :: l) HO4.out; have c2 : w4.cell? ⟨g, 2, none⟩ = some (sv d.raw) := HS4.out.cell2; have f2 := HS4.out.free 2; clear O4 G4 B4))
          go_end0
          exact ⟨rfl, by rw [← HRR.out]; exact HS4.out.put (i := 2) (u := sv (acc ++ UInt8.ofNat l.length :: l)) rfl (fun v => rfl), HK4.out.set 2 _⟩
        | cons y rest =>
          go_wp2_with (first
            | (go_at_call 40; refine HN.out.mono ?_; rintro e w1 ⟨l1, k1, rfl, S1, K1⟩; have HS1 := Lib.hid S1; have HK1 := Lib.hid (HK.out.trans (K1.mono hsz)); have HO1 := Lib.hid (own_kb HO.out K1 hgw); have HL1 := Lib.hid S1.gl.1; clear S1 K1)
            | (go_at_call 78; refine (HB.out _ HL1.out).mono ?_; rintro e w2 ⟨rfl, B2⟩; have HB2 := Lib.hid B2; clear B2)
            | (go_at_call 79; refine (HPT.out _).mono ?_; rintro e w3 ⟨g3, rfl, BS3, B3⟩; have HBS3 := Lib.hid BS3; have HB3 := Lib.hid B3; have HO3 := Lib.hid (own_below (own_below HO1.out HB2.out (Nat.le_refl _)) B3 (Nat.le_refl _)); have hsz3 : w.heap.size ≤ w3.heap.size := Nat.le_trans HK1.out.size (Nat.le_trans HB2.out.size B3.size); have HS3 := Lib.hid ((HS1.out.keep HB2.out).keep B3); have HK3 := Lib.hid ((HK1.out.onB HB2.out).onB B3); clear BS3 B3)
            | (at_builtin; refine wpList_append_bs rfl (.tmp 34) (.tmp 35) 48 rfl w.heap.size 5 i0 _ Tryz.underlying48 hi0 hz0 hz1 hz2 rfl _ acc.length (bv acc) rfl HO3.out _ _ (some ⟨g3, 0, none⟩) (l.length + 1) (UInt8.ofNat l.length :: l) rfl HBS3.out (fun e => by cases e) (by simp; omega) hsz3 ?_; intro v4 w4 O4 G4; have B4 := below_self G4 (B := g + 1) (by omega) (fun k hk => by have := (HO3.out.lt k hk).1; omega); have HS4 := Lib.hid (HS3.out.keepG B4); obtain ⟨A4, C4, c4⟩ := HS4.out.front; have HO4 := Lib.hid O4; have HK4 := Lib.hid (HK3.out.ownRow G4 (fun k hk => (HO3.out.lt k hk).1) hsz3); have HO4 := Lib.hid (own_to HO4.out (m := (acc ++ UInt8.ofNat l.length :: l).length) (ys := bv (acc ++ UInt8.ofNat l.length :: l)) (by simp) (by rw [bv_append])); have hcv := run_convert_own w4 (P := Tryz.prog) 48 9 5 Tryz.underlying48 Tryz.underlying5 Tryz.underlying9 w.heap.size _ v4 (acc ++ UInt8.ofNat l.length :: l) HO4.out; have c2 : w4.cell? ⟨g, 2, none⟩ = some (sv d.raw) := HS4.out.cell2; have f2 := HS4.out.free 2; clear O4 G4 B4))
          trace_state
          exact ⟨⟨acc ++ UInt8.ofNat l.length :: l, y, rest, by simp; omega, HR2.out, HO4.out, HS4.out, HK4.out⟩, by rw [HS4.out.wlen, HW.out]; simp⟩
end
end Go.Proofs.YtopcklpmeaghmaaGreatDoor
