/- Texts of the proofs, merged. -/
import Derived.Test.YtgcaephfhfkjcaaGreatDoorZh19
import Derived.Test.YtgcaephfhfkjcaaGreatDoorZh18
namespace Go.Proofs.YtgcaephfhfkjcaaGreatDoor
open Go.RowKit

set_option maxRecDepth 100000 in
theorem keyword_any (x : Tk.Wd) (w : World) (hx : x.text.length ≤ 262144) :
    Calls Tryz.prog 52 #[.agg #[sv x.text, .bool x.quoted, .int .i64 x.line, .int .i64 x.col]] w fun e w' => e = .returned (sv (Ma.kw x)) ∧ Below w.heap.size w w' := by
  obtain ⟨t, q, l, c⟩ := x
  have HF := Lib.hid (fun W : World => Fold_any ⟨t.toArray⟩ W (by rw [mk_size]; exact Nat.le_trans hx (by decide)))
  clear hx
  cases q with
  | true =>
    go_enter Tryz.func52, Tryz.ntmps52
    go_wp2
    go_ret
    exact ⟨rfl, (Below.refl _ _).alloc (Nat.le_refl _) _⟩
  | false =>
    go_enter Tryz.func52, Tryz.ntmps52
    go_wp2_with (go_at_call 40; refine (HF.out _).mono ?_; rintro e w1 ⟨rfl, B1⟩)
    go_ret
    exact ⟨rfl, ((Below.refl w.heap.size w).alloc (Nat.le_refl _) _).trans (B1.mono (by simp))⟩
set_option maxRecDepth 100000 in
theorem parse32_ok (s : ByteArray) (w : World) (hs : s.size ≤ 140737488355328) (hz : ¬ (1 < s.data.toList.length ∧ s.data.toList.head? = some 48)) {v : Nat} (h : Rd.num s.data.toList 4294967295 = some v) :
    Calls Tryz.prog 112 #[.string s, .int .i64 10, .int .i64 32] w fun e w' => e = .returned (.tuple #[.int .u64 v, .nilIface]) ∧ Below w.heap.size w w' := by
  refine (Tryz.strconv_ParseUint_10_at32_ok s (by omega) v ((Rd.parse32 hz v).2 h) w).mono ?_
  rintro e w' ⟨rfl, rfl | rfl⟩
  · exact ⟨rfl, Below.refl _ _⟩
  · exact ⟨rfl, bytesWorld_below _ _ _⟩
set_option maxRecDepth 100000 in
theorem parse32_no (s : ByteArray) (w : World) (hL : Lay w) (hs : s.size ≤ 140737488355328) (hz : ¬ (1 < s.data.toList.length ∧ s.data.toList.head? = some 48)) (h : Rd.num s.data.toList 4294967295 = none) :
    Calls Tryz.prog 112 #[.string s, .int .i64 10, .int .i64 32] w fun e w' => ∃ x t a, e = .returned (.tuple #[.int .u64 x, .iface t (.pointer (some a))]) ∧ Below w.heap.size w w' := by
  obtain ⟨⟨t1, p1, h1⟩, t2, p2, h2⟩ := hL
  have hno : ∀ v, Lib.parseUintB 32 s.data.toList ≠ .ok v := fun v hv => by
    have := (Rd.parse32 hz v).1 hv
    rw [h] at this; cases this
  rcases hp : Lib.parseUintB 32 s.data.toList with v | _ | _
  · exact absurd hp (hno v)
  · refine (Tryz.strconv_ParseUint_10_at32_syntax s (by omega) hp _ w h1 (.inr ⟨_, _, rfl⟩)).mono ?_
    rintro e w' ⟨N, rfl, _, _, hb⟩
    exact ⟨_, _, _, rfl, hb⟩
  · refine (Tryz.strconv_ParseUint_10_at32_range s (by omega) hp _ w h2 (.inr ⟨_, _, rfl⟩)).mono ?_
    rintro e w' ⟨N, rfl, _, _, hb⟩
    exact ⟨_, _, _, rfl, hb⟩
set_option maxHeartbeats 1000000 in
set_option maxRecDepth 100000 in
theorem maNumber_any (x : Tk.Wd) (w : World) (hL : Lay w) (hx : x.text.length ≤ 262144) :
    Calls Tryz.prog 93 #[.agg #[sv x.text, .bool x.quoted, .int .i64 x.line, .int .i64 x.col]] w fun e w' => e = .returned (uintV (Ma.num x)) ∧ Below w.heap.size w w' := by
  obtain ⟨t, q, l, c⟩ := x
  have hBa := fun cs ty => (Below.refl w.heap.size w).alloc (Nat.le_refl _) (.cells cs ty)
  cases q with
  | true =>
    clear hL hx
    go_enter Tryz.func93, Tryz.ntmps93
    go_wp2
    go_ret2
    exact ⟨rfl, (Below.refl _ _).alloc (Nat.le_refl _) _⟩
  | false =>
    obtain ⟨s, hs⟩ : ∃ s : ByteArray, s = ⟨t.toArray⟩ := ⟨_, rfl⟩
    have htl : t = s.data.toList := by rw [hs]
    have hsz : s.size ≤ 140737488355328 := by rw [hs, mk_size]; exact Nat.le_trans hx (by decide)
    show Calls _ _ #[.agg #[.string ⟨t.toArray⟩, .bool false, .int .i64 l, .int .i64 c]] _ fun e w' => e = .returned (uintV (Rd.num t 4294967295)) ∧ _
    rw [← hs, htl]
    clear hs htl hx
    have hl : s.data.toList.length = s.size := by simp
    have hLA : ∀ cs ty, Lay (w.alloc (.cells cs ty)) := fun cs ty => hL.below ((Below.refl w.heap.size w).alloc (Nat.le_refl _) _) hL.size
    have key : ∀ (hz : ¬ (1 < s.data.toList.length ∧ s.data.toList.head? = some 48)), (∃ v, v ≤ 4294967295 ∧ Rd.num s.data.toList 4294967295 = some v ∧ ∀ cs ty, Calls Tryz.prog 112 #[.string s, .int .i64 10, .int .i64 32] (w.alloc (.cells cs ty)) fun e w' => e = .returned (.tuple #[.int .u64 v, .nilIface]) ∧ Below (w.alloc (.cells cs ty)).heap.size (w.alloc (.cells cs ty)) w') ∨
        (Rd.num s.data.toList 4294967295 = none ∧ ∀ cs ty, Calls Tryz.prog 112 #[.string s, .int .i64 10, .int .i64 32] (w.alloc (.cells cs ty)) fun e w' => ∃ x t a, e = .returned (.tuple #[.int .u64 x, .iface t (.pointer (some a))]) ∧ Below (w.alloc (.cells cs ty)).heap.size (w.alloc (.cells cs ty)) w') := fun hz => by
      cases h : Rd.num s.data.toList 4294967295 with
      | some v => exact .inl ⟨v, Rd.num_le h, rfl, fun cs ty => parse32_ok s _ hsz hz h⟩
      | none => exact .inr ⟨rfl, fun cs ty => parse32_no s _ (hLA cs ty) hsz hz h⟩
    have HBa := Lib.hid hBa
    clear hBa hLA hL
    by_cases h1 : 1 < s.size
    · have h0s : 0 < s.size := by clear hl key; omega
      have hd := Rd.head_of (s := s) h0s
      have hi1 : (1 : Int) < (s.size : Int) := by omega
      by_cases h48 : (s[0]'h0s).toNat = 48
      · have hn : Rd.num s.data.toList 4294967295 = none := Rd.num_bad (.inr (.inl ⟨by omega, by rw [hd]; congr 1; exact UInt8.toNat_inj.1 h48⟩))
        have HN := Lib.hid hn
        have hb : (((s[0]'h0s).toNat : Int) == 48) = true := by rw [h48]; rfl
        clear hn hd key hl h48
        go_enter Tryz.func93, Tryz.ntmps93
        go_wp2
        go_ret2
        exact ⟨by rw [HN.out]; rfl, HBa.out _ _⟩
      · have hz : ¬ (1 < s.data.toList.length ∧ s.data.toList.head? = some 48) := fun ⟨_, e⟩ => h48 (by rw [hd] at e; injection e with e; rw [e]; rfl)
        have hb : (((s[0]'h0s).toNat : Int) == 48) = false := beq_eq_false_iff_ne.2 (by omega)
        rcases key hz with ⟨v, hv, hn, hc⟩ | ⟨hn, hc⟩
        · have HN := Lib.hid hn
          have HC := Lib.hid hc
          clear hn hc hd key hl h48 hz
          go_enter Tryz.func93, Tryz.ntmps93
          go_wp2_with (go_at_call 112; refine (HC.out _ _).mono ?_; rintro e w1 ⟨rfl, hB⟩)
          go_ret2
          exact ⟨by rw [HN.out]; rfl, (HBa.out _ _).trans (hB.mono (by simp))⟩
        · have HN := Lib.hid hn
          have HC := Lib.hid hc
          clear hn hc hd key hl h48 hz
          go_enter Tryz.func93, Tryz.ntmps93
          go_wp2_with (go_at_call 112; refine (HC.out _ _).mono ?_; rintro e w1 ⟨x, ty, a, rfl, hB⟩)
          go_ret2
          exact ⟨by rw [HN.out]; rfl, (HBa.out _ _).trans (hB.mono (by simp))⟩
    · have hz : ¬ (1 < s.data.toList.length ∧ s.data.toList.head? = some 48) := fun ⟨e, _⟩ => h1 (by omega)
      rcases key hz with ⟨v, hv, hn, hc⟩ | ⟨hn, hc⟩
      · have HN := Lib.hid hn
        have HC := Lib.hid hc
        clear hn hc key hl hz
        go_enter Tryz.func93, Tryz.ntmps93
        go_wp2_with (go_at_call 112; refine (HC.out _ _).mono ?_; rintro e w1 ⟨rfl, hB⟩)
        go_ret2
        exact ⟨by rw [HN.out]; rfl, (HBa.out _ _).trans (hB.mono (by simp))⟩
      · have HN := Lib.hid hn
        have HC := Lib.hid hc
        clear hn hc key hl hz
        go_enter Tryz.func93, Tryz.ntmps93
        go_wp2_with (go_at_call 112; refine (HC.out _ _).mono ?_; rintro e w1 ⟨x, ty, a, rfl, hB⟩)
        go_ret2
        exact ⟨by rw [HN.out]; rfl, (HBa.out _ _).trans (hB.mono (by simp))⟩
end Go.Proofs.YtgcaephfhfkjcaaGreatDoor
namespace Go.Proofs.YtgcaephfhfkjcaaGreatDoor
open Go.RowKit

/-- what is thrown. -/
def flt (x : Ma.Er) : Value := .iface 77 (.agg #[.int .i64 x.e, .int .i64 x.line, .int .i64 x.col])
/-- a call that gave up: nothing below g has changed. -/
def Fell (w : World) (g : Nat) (x : Ma.Er) (e : Ending) (w' : World) : Prop := e = .panicked [{ v := flt x, recovered := false }] ∧ Below g w w'
theorem Fell.after {w w1 w' : World} {g g' : Nat} {x : Ma.Er} {e : Ending} (h : Fell w1 g x e w') (hb : Below g' w w1) (hg : g' ≤ g) : Fell w g' x e w' := ⟨h.1, hb.trans (h.2.mono hg)⟩
/-- a word's value. -/
def wv (x : Tk.Wd) : Value := .agg #[sv x.text, .bool x.quoted, .int .i64 x.line, .int .i64 x.col]
set_option maxRecDepth 100000 in
theorem maGiveUp_any (x : Tk.Wd) (n : Nat) (w : World) :
    Calls Tryz.prog 54 #[wv x, .int .i64 n] w fun e w' => Fell w w.heap.size (Ma.at_ x n) e w' := by
  obtain ⟨t, q, l, c⟩ := x
  show Calls _ _ #[.agg #[sv t, .bool q, .int .i64 l, .int .i64 c], .int .i64 n] _ _
  have hB := (Below.refl w.heap.size w).alloc (Nat.le_refl _) (.cells #[sv t, .bool q, .int .i64 l, .int .i64 c] 79)
  have HB := Lib.hid hB
  clear hB
  go_enter Tryz.func54, Tryz.ntmps54
  go_wp2
  exact ⟨rfl, ⟨rfl, HB.out⟩⟩
theorem MM.two {w : World} {g : Nat} {hi : Nat × Nat} {s : Ma.S} {f : Tk.Wd} {ws : List Tk.Wd} (h : MM w g hi s f ws) (o1 o2 : Obj) : MM ((w.alloc o1).alloc o2) g hi s f ws :=
  (h.keep ((Below.refl _ _).alloc (Nat.le_refl _) o1)).keep ((Below.refl _ _).alloc (Nat.le_refl _) o2)
section
variable {g : Nat} {hi : Nat × Nat} {s : Ma.S} {f x : Tk.Wd} {ws : List Tk.Wd} {w : World}
set_option maxHeartbeats 1000000 in
set_option maxRecDepth 100000 in
theorem maTake_any (h : MM w g hi s f (x :: ws)) :
    Calls Tryz.prog 91 #[.pointer (some ⟨g, 0, none⟩)] w fun e w' => e = .returned (wv x) ∧ MM w' g hi s f ws ∧ Kb g w.heap.size w w' := by
  have HM := Lib.hid h
  obtain ⟨vr, vw, h1, h2⟩ := h.wp
  obtain ⟨q, p, c, rfl, hc, hm, hq, hr, h4, _⟩ := h2.head
  have hle := h.le
  have HR := Lib.hid (fun (W : World) (hb : Below w.heap.size w W) => range_below hb (by have := h1.lt; omega) hr)
  have hi4 : (Tryz.prog.info? 79).map (·.size) = some 4 := by kernel_rfl
  have HI := Lib.hid hi4
  clear hi4
  have c0 : w.cell? ⟨g, 8, none⟩ = some (.slice (some ⟨q, p, none⟩) (ws.length + 1) c) := by rw [h1.cell]; rfl
  have f0 := h1.free 8
  have hg := h1.lt
  have hqg : q ≠ g := by omega
  have e0 : ((((ws.length + 1 : Nat) : Int)) == 0) = false := beq_eq_false_iff_ne.2 (by omega)
  have H4 := Lib.hid h4
  clear h1 h2 h4 hr h
  obtain ⟨t, b, l, k⟩ := x
  go_enter Tryz.func91, Tryz.ntmps91
  go_wp2_with (refine wpList_load_mid rfl 79 (.tmp 8) rfl q _ rfl [sv t, .bool b, .int .i64 l, .int .i64 k] _ (HR.out _ ((Below.refl _ _).alloc (Nat.le_refl _) _)) Tryz.underlying79 rfl HI.out ?_)
  all_goals
    have h4 := H4.out
    first | rw [if_neg (by assumption)] at h4 | (subst_vars; rw [if_pos rfl] at h4)
    have hk := fun v' : Value => (((Kb.refl g w.heap.size w).set 8 v').alloc (by simp) (.cells #[sv t, .bool b, .int .i64 l, .int .i64 k] 79)).alloc (by simp) (.cells #[sv t, .bool b, .int .i64 l, .int .i64 k] 79)
    refine bodyPost_ret (results_cell_row rfl _ _ w.heap.size 79 #[sv t, .bool b, .int .i64 l, .int .i64 k] (0, 0) _ rfl new_two Tryz.underlying79 rfl HI.out) rfl ?_
    exact ⟨rfl, (HM.out.putW h4).two _ _, hk _⟩
set_option maxHeartbeats 1000000 in
set_option maxRecDepth 100000 in
theorem maTell_any (h : MM w g hi s f ws) (x : Tk.Wd) (v : Nat) :
    Calls Tryz.prog 113 #[.pointer (some ⟨g, 0, none⟩), wv x, .int .u32 v] w fun e w' =>
      if 2147483647 < v then Fell w w.heap.size (Ma.at_ x 91) e w' else e = .returned (.tuple #[]) ∧ MM w' g hi { s with ttl := if s.fx then s.ttl else v } f ws ∧ Kb g w.heap.size w w' := by
  obtain ⟨t, q, l, c⟩ := x
  show Calls _ _ #[_, .agg #[sv t, .bool q, .int .i64 l, .int .i64 c], _] _ _
  have HG := Lib.hid (fun W : World => maGiveUp_any ⟨t, q, l, c⟩ 91 W)
  have HM := Lib.hid h
  obtain ⟨o, ttl, fx, recs⟩ := s
  have hA := h.keep ((Below.refl w.heap.size w).alloc (Nat.le_refl _) (.cells #[sv t, .bool q, .int .i64 l, .int .i64 c] 79))
  have hk := (Kb.refl g w.heap.size w).alloc (Nat.le_refl _) (.cells #[sv t, .bool q, .int .i64 l, .int .i64 c] 79)
  have hb := (Below.refl w.heap.size w).alloc (Nat.le_refl _) (.cells #[sv t, .bool q, .int .i64 l, .int .i64 c] 79)
  have hlt := h.lt
  obtain ⟨vr, vw, hh⟩ := hA.has
  have c2 : (w.alloc (.cells #[sv t, .bool q, .int .i64 l, .int .i64 c] 79)).cell? ⟨g, 2, none⟩ = some (.bool fx) := by rw [hh.cell]; rfl
  have c1 : (w.alloc (.cells #[sv t, .bool q, .int .i64 l, .int .i64 c] 79)).cell? ⟨g, 1, none⟩ = some (.int .u32 ttl) := by rw [hh.cell]; rfl
  have f1 := hh.free 1
  have HA := Lib.hid hA
  have HK := Lib.hid hk
  have HB := Lib.hid hb
  clear h hA hk hb hh
  by_cases hv : 2147483647 < v
  · have hvi : (2147483647 : Int) < (v : Int) := by omega
    simp only [if_pos hv]
    clear hv
    go_enter Tryz.func113, Tryz.ntmps113
    go_wp2_with (go_at_call 54; refine (HG.out _).mono ?_; rintro e w1 ⟨rfl, B1⟩; exact ⟨rfl, ⟨rfl, HB.out.trans (B1.mono HB.out.size)⟩⟩)
  · have hvi : ¬ (2147483647 : Int) < (v : Int) := by omega
    simp only [if_neg hv]
    clear hv
    cases fx with
    | true =>
      go_enter Tryz.func113, Tryz.ntmps113
      go_wp2
      go_end0
      exact ⟨rfl, HA.out, HK.out⟩
    | false =>
      go_enter Tryz.func113, Tryz.ntmps113
      go_wp2
      go_end0
      exact ⟨rfl, (HM.out.put (s' := ⟨o, v, false, recs⟩) (i := 1) (u := .int .u32 v) (fun _ _ => rfl) rfl).keep ((Below.refl _ _).alloc (Nat.le_refl _) _), ((Kb.refl g w.heap.size w).set 1 _).alloc (by simp) _⟩
end
end Go.Proofs.YtgcaephfhfkjcaaGreatDoor
namespace Go.Proofs.YtgcaephfhfkjcaaGreatDoor
open Go.RowKit

set_option maxHeartbeats 1000000 in
set_option maxRecDepth 100000 in
theorem maClass_any (x : Tk.Wd) (w : World) (hx : x.text.length ≤ 262144) :
    Calls Tryz.prog 114 #[wv x] w fun e w' => e = .returned (.bool (Ma.isClass x)) ∧ Below w.heap.size w w' := by
  have HK := Lib.hid (fun W : World => keyword_any x W hx)
  have hR : ∃ R, Ma.isClass x = R := ⟨_, rfl⟩
  obtain ⟨R, hR⟩ := hR
  rw [hR]
  unfold Ma.isClass at hR
  obtain ⟨k, hk⟩ : ∃ k, Ma.kw x = k := ⟨_, rfl⟩
  rw [hk] at hR HK
  clear hk hx
  obtain ⟨t, q, l, c⟩ := x
  show Calls _ _ #[.agg #[sv t, .bool q, .int .i64 l, .int .i64 c]] _ _
  have hB := (Below.refl w.heap.size w).alloc (Nat.le_refl _) (.cells #[sv t, .bool q, .int .i64 l, .int .i64 c] 79)
  have HB := Lib.hid hB
  clear hB
  cases h1 : (k == ([105, 110] : List UInt8)) with
  | true =>
    have HR := Lib.hid (show R = true by rw [← hR, h1]; rfl)
    clear hR
    go_enter Tryz.func114, Tryz.ntmps114
    go_wp2_with (go_at_call 52; refine (HK.out _).mono ?_; rintro e w1 ⟨rfl, B1⟩)
    go_ret
    exact ⟨by rw [HR.out]; rfl, HB.out.trans (B1.mono HB.out.size)⟩
  | false =>
    cases h2 : (k == ([99, 104] : List UInt8)) with
    | true =>
      have HR := Lib.hid (show R = true by rw [← hR, h1, h2]; rfl)
      clear hR
      go_enter Tryz.func114, Tryz.ntmps114
      go_wp2_with (go_at_call 52; refine (HK.out _).mono ?_; rintro e w1 ⟨rfl, B1⟩)
      go_ret
      exact ⟨by rw [HR.out]; rfl, HB.out.trans (B1.mono HB.out.size)⟩
    | false =>
      cases h3 : (k == ([99, 115] : List UInt8)) with
      | true =>
        have HR := Lib.hid (show R = true by rw [← hR, h1, h2, h3]; rfl)
        clear hR
        go_enter Tryz.func114, Tryz.ntmps114
        go_wp2_with (go_at_call 52; refine (HK.out _).mono ?_; rintro e w1 ⟨rfl, B1⟩)
        go_ret
        exact ⟨by rw [HR.out]; rfl, HB.out.trans (B1.mono HB.out.size)⟩
      | false =>
        cases h4 : (k == ([104, 115] : List UInt8)) with
        | true =>
          have HR := Lib.hid (show R = true by rw [← hR, h1, h2, h3, h4]; rfl)
          clear hR
          go_enter Tryz.func114, Tryz.ntmps114
          go_wp2_with (go_at_call 52; refine (HK.out _).mono ?_; rintro e w1 ⟨rfl, B1⟩)
          go_ret
          exact ⟨by rw [HR.out]; rfl, HB.out.trans (B1.mono HB.out.size)⟩
        | false =>
          have HR := Lib.hid (show R = false by rw [← hR, h1, h2, h3, h4]; rfl)
          clear hR
          go_enter Tryz.func114, Tryz.ntmps114
          go_wp2_with (go_at_call 52; refine (HK.out _).mono ?_; rintro e w1 ⟨rfl, B1⟩)
          go_ret
          exact ⟨by rw [HR.out]; rfl, HB.out.trans (B1.mono HB.out.size)⟩
end Go.Proofs.YtgcaephfhfkjcaaGreatDoor
namespace Go.Proofs.YtgcaephfhfkjcaaGreatDoor.Rd

theorem parseM_ok {M : Nat} (hM : M ≤ 4294967295) : ∀ (l : By) (a : Nat), a ≤ M → digs l = true → vl a l ≤ M → Lib.parseUintM M a l = .ok (vl a l) := by
  intro l
  induction l with
  | nil => intro a ha _ _; rfl
  | cons c r ih =>
    intro a ha hd hv
    have hd2 : ((decide (48 ≤ c.toNat) && decide (c.toNat ≤ 57)) && digs r) = true := hd
    have hv2 : vl (10 * a + (c.toNat - 48)) r ≤ M := hv
    rw [Bool.and_eq_true, Bool.and_eq_true, decide_eq_true_eq, decide_eq_true_eq] at hd2
    obtain ⟨hc, hr⟩ := hd2
    have hle := vl_le r (10 * a + (c.toNat - 48))
    rw [Lib.parseUintM, if_pos hc, if_neg (by omega), show a * 10 = 10 * a from by omega, if_neg (by omega)]
    exact ih _ (by omega) hr hv2
theorem parse_ok {B : Nat} {l : By} {v : Nat} (hB : 2 ^ B - 1 ≤ 4294967295) (h : num l (2 ^ B - 1) = some v) : Lib.parseUintB B l = .ok v := by
  have h0 : ¬ (l.length = 0 ∨ (1 < l.length ∧ l.head? = some 48) ∨ 12 < l.length) := fun hb => by rw [num_bad hb] at h; cases h
  have hd : digs l = true := by
    cases hd : digs l with
    | true => rfl
    | false => rw [num_nodig hd] at h; cases h
  have hm : val l ≤ 2 ^ B - 1 ∧ val l = v := by
    rw [num_dig h0 hd] at h
    by_cases hm : 2 ^ B - 1 < val l
    · rw [if_pos hm] at h; cases h
    · rw [if_neg hm] at h
      injection h with h
      exact ⟨by omega, h⟩
  have hl : l ≠ [] := fun e => h0 (.inl (by rw [e]; rfl))
  have hvv : vl 0 l = val l := rfl
  unfold Lib.parseUintB
  rw [if_neg hl, parseM_ok hB l 0 (by omega) hd (by rw [hvv]; exact hm.1), hvv, hm.2]
theorem num_nz {l : By} {m v : Nat} (h : num l m = some v) : ¬ (1 < l.length ∧ l.head? = some 48) := fun hb => by rw [num_bad (.inr (.inl hb))] at h; cases h
end Go.Proofs.YtgcaephfhfkjcaaGreatDoor.Rd
namespace Go.Proofs.YtgcaephfhfkjcaaGreatDoor
open Go.RowKit

set_option maxRecDepth 100000 in
theorem parseB_ok (s : ByteArray) (w : World) (B : Nat) (hB : B = 8 ∨ B = 16 ∨ B = 32) (hs : s.size ≤ 140737488355328) {v : Nat} (h : Rd.num s.data.toList (2 ^ B - 1) = some v) :
    Calls Tryz.prog 112 #[.string s, .int .i64 10, .int .i64 (B : Nat)] w fun e w' => e = .returned (.tuple #[.int .u64 v, .nilIface]) ∧ Below w.heap.size w w' := by
  rcases hB with rfl | rfl | rfl
  · refine (Tryz.strconv_ParseUint_10_at8_ok s (by omega) v (Rd.parse_ok (by decide) h) w).mono ?_
    rintro e w' ⟨rfl, rfl | rfl⟩
    · exact ⟨rfl, Below.refl _ _⟩
    · exact ⟨rfl, bytesWorld_below _ _ _⟩
  · refine (Tryz.strconv_ParseUint_10_at16_ok s (by omega) v (Rd.parse_ok (by decide) h) w).mono ?_
    rintro e w' ⟨rfl, rfl | rfl⟩
    · exact ⟨rfl, Below.refl _ _⟩
    · exact ⟨rfl, bytesWorld_below _ _ _⟩
  · refine (Tryz.strconv_ParseUint_10_at32_ok s (by omega) v (Rd.parse_ok (by decide) h) w).mono ?_
    rintro e w' ⟨rfl, rfl | rfl⟩
    · exact ⟨rfl, Below.refl _ _⟩
    · exact ⟨rfl, bytesWorld_below _ _ _⟩
theorem num_max {s : List UInt8} {B v : Nat} (hB : B = 8 ∨ B = 16 ∨ B = 32) (h : Rd.num s (2 ^ B - 1) = some v) : v ≤ 2 ^ B - 1 ∧ 2 ^ B - 1 ≤ 4294967295 := by
  rcases hB with rfl | rfl | rfl
  all_goals
    have := Rd.num_le h
    exact ⟨this, by decide⟩
set_option maxHeartbeats 1000000 in
set_option maxRecDepth 100000 in
theorem numberB_ok (s : ByteArray) (w : World) (B : Nat) (hB : B = 8 ∨ B = 16 ∨ B = 32) (hs : s.size ≤ 140737488355328) {v : Nat} (h : Rd.num s.data.toList (2 ^ B - 1) = some v) :
    Calls Tryz.prog 117 #[.string s, .int .i64 (B : Nat)] w fun e w' => e = .returned (.tuple #[.int .u32 v, .bool true]) ∧ Below w.heap.size w w' := by
  have hl : s.data.toList.length = s.size := by simp
  obtain ⟨hv1, hv2⟩ := num_max hB h
  have hv : v ≤ 4294967295 := by omega
  have hz := Rd.num_nz h
  have HC := Lib.hid (parseB_ok s w B hB hs h)
  clear h hB hv1 hv2
  by_cases h1 : 1 < s.size
  · have h0s : 0 < s.size := by omega
    have hd := Rd.head_of (s := s) h0s
    have hi1 : (1 : Int) < (s.size : Int) := by omega
    have h48 : (s[0]'h0s).toNat ≠ 48 := fun h48 => hz ⟨by omega, by rw [hd]; congr 1; exact UInt8.toNat_inj.1 h48⟩
    have hb : (((s[0]'h0s).toNat : Int) == 48) = false := beq_eq_false_iff_ne.2 (by omega)
    clear hd hl h48 hz
    go_enter Tryz.func117, Tryz.ntmps117
    go_wp2_with (go_at_call 112; refine HC.out.mono ?_; rintro e w1 ⟨rfl, hB⟩)
    go_ret2
    exact ⟨rfl, hB⟩
  · clear hl hz
    go_enter Tryz.func117, Tryz.ntmps117
    go_wp2_with (go_at_call 112; refine HC.out.mono ?_; rintro e w1 ⟨rfl, hB⟩)
    go_ret2
    exact ⟨rfl, hB⟩
set_option maxRecDepth 100000 in
theorem rdDigits_ok (p : Value) (s : ByteArray) (w : World) (B : Nat) (hB : B = 8 ∨ B = 16 ∨ B = 32) (hs : s.size ≤ 140737488355328) {v : Nat} (h : Rd.num s.data.toList (2 ^ B - 1) = some v) :
    Calls Tryz.prog 163 #[p, .string s, .int .i64 (B : Nat)] w fun e w' => e = .returned (.int .u32 v) ∧ Below w.heap.size w w' := by
  have HC := Lib.hid (numberB_ok s w B hB hs h)
  clear h hB
  go_enter Tryz.func163, Tryz.ntmps163
  go_wp2_with (go_at_call 117; refine HC.out.mono ?_; rintro e w1 ⟨rfl, hB⟩)
  go_ret
  exact ⟨rfl, hB⟩
section
variable {g hi n : Nat} {o : ByteArray} {ws : List Rd.W2} {x : Rd.W2} {d : Rd.Dt} {w : World}
theorem St.one (h : St w g hi o (x :: ws) d n) : x.1.length ≤ 140737488355328 := by
  obtain ⟨v, _, ⟨A, c, _, _, _, h4, _⟩, _⟩ := h
  exact h4 x (by simp)
theorem Kb.on {w1 w2 : World} (h : Kb g w.heap.size w w1) (h2 : Kb g w1.heap.size w1 w2) : Kb g w.heap.size w w2 := h.trans (h2.mono h.size)
theorem Kb.onB {w1 w2 : World} (h : Kb g w.heap.size w w1) (h2 : Below w1.heap.size w1 w2) : Kb g w.heap.size w w2 := h.trans (Kb.of_below (h2.mono h.size))
set_option maxRecDepth 100000 in
theorem rdNumberR_ok (h : St w g hi o (x :: ws) d n) (hx : x.2 = false) (B : Nat) (hB : B = 8 ∨ B = 16 ∨ B = 32) {v : Nat} (hv : Rd.num x.1 (2 ^ B - 1) = some v) :
    Calls Tryz.prog 137 #[.pointer (some ⟨g, 0, none⟩), .int .i64 (B : Nat)] w fun e w' => e = .returned (.int .u32 v) ∧ St w' g hi o ws d n ∧ Kb g w.heap.size w w' := by
  have hl := h.one
  have HN := Lib.hid (rdPlain_any h hx)
  have HC := Lib.hid (fun W : World => rdDigits_ok (.pointer (some ⟨g, 0, none⟩)) ⟨x.1.toArray⟩ W B hB (by rw [mk_size]; exact hl) (by simpa using hv))
  clear h hB hv hl
  go_enter Tryz.func137, Tryz.ntmps137
  go_wp2_with (first
    | (go_at_call 138; refine HN.out.mono ?_; rintro e w1 ⟨rfl, S1, K1⟩; have HS := Lib.hid S1; have HK := Lib.hid K1; clear S1 K1)
    | (go_at_call 163; refine (HC.out _).mono ?_; rintro e w2 ⟨rfl, B2⟩; have HB := Lib.hid B2; clear B2))
  go_ret
  exact ⟨rfl, HS.out.keep HB.out, HK.out.onB HB.out⟩
end
end Go.Proofs.YtgcaephfhfkjcaaGreatDoor
