/- Texts of the proofs, merged. -/
import Derived.Test.YtapbcepjcnnkgabEdWakes
import Derived.Test.YtapbcepjcnnkgabRrEqR
import Derived.BigQuiet
/- Which record is an OPT, and where: isOPT, IndexFunc, ContainsFunc, said. -/
namespace Go.Proofs.Ytapbcepjcnnkgab
open Go.RowKit Go.Sort Go.Shelf

namespace Ed
def isO (r : Rv) : Bool := r.ty == 41
/-- none of these is an OPT. -/
def Non (es : List Rv) : Prop := ∀ r ∈ es, isO r = false
/-- the first OPT stands at k. -/
def Fst (es : List Rv) (k : Nat) : Prop := ∃ h : k < es.length, isO (es[k]'h) = true ∧ Non (es.take k)
theorem non_or : ∀ es : List Rv, Non es ∨ ∃ k, Fst es k
  | [] => .inl (fun _ h => by cases h)
  | r :: es => by
    cases hr : isO r with
    | true => exact .inr ⟨0, by simp, hr, fun _ h => by cases h⟩
    | false =>
      rcases non_or es with h | ⟨k, h1, h2, h3⟩
      · refine .inl fun x hx => ?_
        rcases List.mem_cons.1 hx with rfl | hx
        · exact hr
        · exact h x hx
      · refine .inr ⟨k + 1, by simpa using h1, by simpa using h2, fun x hx => ?_⟩
        rw [List.take_succ_cons] at hx
        rcases List.mem_cons.1 hx with rfl | hx
        · exact hr
        · exact h3 x hx
/-- where the first one stands, or -1. -/
def Idx (es : List Rv) (i : Int) : Prop := (Non es ∧ i = -1) ∨ ∃ k : Nat, Fst es k ∧ i = k
end Ed
def Rv.saysE (r : Rv) : Ev := ⟨r.cl, r.ttl / 16777216, r.ttl / 65536 % 256, r.ttl % 65536, r.d.raw⟩
set_option maxRecDepth 100000 in
theorem isOPT_any (r : Rv) (w : World) : Calls Try.prog 12 #[.agg r.cells] w fun e w' => e = .returned (.bool (Ed.isO r)) ∧ Below w.heap.size w w' := by
  have HB := Lib.hid ((Below.refl w.heap.size w).alloc (Nat.le_refl _) (.cells r.cells 40))
  have hq : ((r.ty : Int) == 41) = Ed.isO r := by unfold Ed.isO; rw [Bool.eq_iff_iff]; simp; omega
  generalize Ed.isO r = b at *
  obtain ⟨nm, ty, cl, ttl, ra, ho, ma, n0, n1, n2, n3, n4⟩ := r
  dsimp only [Rv.cells] at *
  cases b
  all_goals
    go_enter Try.func12, Try.ntmps12
    go_wp2
    go_ret
    exact ⟨rfl, HB.out⟩
set_option maxHeartbeats 2000000 in
set_option maxRecDepth 100000 in
theorem idx_any (es : List Rv) (A : Option Addr) (c : Nat) (w : World) (hS : Srow rcl 12 w 0 w.heap.size A es) (hn : es.length ≤ 4398046511104) :
    Calls Try.prog 15 #[.slice A es.length c, .func (.func 12) #[] #[]] w fun e w' => (∃ i, e = .returned (.int .i64 i) ∧ Ed.Idx es i) ∧ Below w.heap.size w w' := by
  have HS := Lib.hid hS
  have HO := Lib.hid (fun (r : Rv) (W : World) => isOPT_any r W)
  clear hS
  have hi12 : (Try.prog.info? 40).map (·.size) = some 12 := by kernel_rfl
  have HI := Lib.hid hi12
  clear hi12
  go_enter Try.func15, Try.ntmps15
  go_wp2
  go_loopw [8] (fun i wr => ∃ k : Nat, i = .int .i64 k ∧ k ≤ es.length ∧ Hid (Ed.Non (es.take k)) ∧ Hid (Below w.heap.size w wr)) (fun i _ => es.length - (intOf i).toNat)
  case atStart => exact ⟨0, rfl, Nat.zero_le _, (fun _ h => by cases h), Below.refl _ _⟩
  case round =>
    obtain ⟨k, rfl, hk, HM, HB⟩ := hrel
    by_cases hlt : k < es.length
    · obtain ⟨g, o, rfl, _, hg, hc⟩ := HS.out.at_ hlt
      have hc2 := Lib.hid (range_below HB.out hg hc)
      have HT : Hid (es.take (k + 1) = es.take k ++ [es[k]]) := List.take_succ_eq_append_getElem hlt
      have HX : Hid (Ed.isO es[k] = true → Ed.Fst es k) := fun h => ⟨hlt, h, HM.out⟩
      clear hc
      generalize es[k] = r at *
      cases hr : Ed.isO r
      · have HO2 : Hid (∀ W : World, Calls Try.prog 12 #[.agg r.cells] W fun e w' => e = .returned (.bool false) ∧ Below W.heap.size W w') := by rw [← hr]; exact HO.out r
        have HR := Lib.hid hr
        clear hr
        go_wp2_with (first
          | (refine wpList_load_mid rfl 40 (.tmp 14) rfl g _ rfl (rcl r) _ hc2.out Try.underlying40 rfl HI.out ?_)
          | (go_at_call 12; refine (HO2.out _).mono ?_; rintro e w2 ⟨rfl, B2⟩; have HB2 := Lib.hid (HB.out.trans (B2.mono HB.out.size)); clear B2))
        go_roundw
        case rel =>
          refine ⟨k + 1, by go_num, by omega, ?_, HB2⟩
          intro x hx
          rw [HT.out] at hx
          rcases List.mem_append.1 hx with hx | hx
          · exact HM.out x hx
          · rw [List.mem_singleton.1 hx]; exact HR.out
        case measure => simp [intOf]; omega
      · have HO2 : Hid (∀ W : World, Calls Try.prog 12 #[.agg r.cells] W fun e w' => e = .returned (.bool true) ∧ Below W.heap.size W w') := by rw [← hr]; exact HO.out r
        have HR := Lib.hid hr
        clear hr
        go_wp2_with (first
          | (refine wpList_load_mid rfl 40 (.tmp 14) rfl g _ rfl (rcl r) _ hc2.out Try.underlying40 rfl HI.out ?_)
          | (go_at_call 12; refine (HO2.out _).mono ?_; rintro e w2 ⟨rfl, B2⟩; have HB2 := Lib.hid (HB.out.trans (B2.mono HB.out.size)); clear B2))
        go_ret
        exact ⟨⟨k, rfl, .inr ⟨k, HX.out HR.out, rfl⟩⟩, HB2.out⟩
    · obtain rfl : k = es.length := by omega
      go_wp2
      go_ret
      exact ⟨⟨-1, rfl, .inl ⟨by have := HM.out; rwa [List.take_length] at this, rfl⟩⟩, HB.out⟩
set_option maxRecDepth 100000 in
theorem contains_any (es : List Rv) (A : Option Addr) (c : Nat) (w : World) (hS : Srow rcl 12 w 0 w.heap.size A es) (hn : es.length ≤ 4398046511104) :
    Calls Try.prog 16 #[.slice A es.length c, .func (.func 12) #[] #[]] w fun e w' => (∃ b, e = .returned (.bool b) ∧ ((b = false ∧ Ed.Non es) ∨ (b = true ∧ ∃ k, Ed.Fst es k))) ∧ Below w.heap.size w w' := by
  rcases Ed.non_or es with h | ⟨k, h⟩
  · have HX : Hid (Calls Try.prog 15 #[.slice A es.length c, .func (.func 12) #[] #[]] w fun e w' => e = .returned (.int .i64 (-1)) ∧ Below w.heap.size w w') := (idx_any es A c w hS hn).mono fun e w' ⟨⟨i, he, hi⟩, hb⟩ => by
      rcases hi with ⟨_, rfl⟩ | ⟨k, ⟨h1, h2, _⟩, _⟩
      · exact ⟨he, hb⟩
      · have := h _ (List.getElem_mem h1)
        rw [h2] at this
        cases this
    have HH := Lib.hid h
    clear h hS hn
    go_enter Try.func16, Try.ntmps16
    go_wp2_with (go_at_call 15; refine HX.out.mono ?_; rintro e w1 ⟨rfl, B1⟩; have HB1 := Lib.hid B1; clear B1)
    go_ret
    exact ⟨⟨false, rfl, .inl ⟨rfl, HH.out⟩⟩, HB1.out⟩
  · have HX : Hid (Calls Try.prog 15 #[.slice A es.length c, .func (.func 12) #[] #[]] w fun e w' => (∃ j : Nat, e = .returned (.int .i64 j)) ∧ Below w.heap.size w w') := (idx_any es A c w hS hn).mono fun e w' ⟨⟨i, he, hi⟩, hb⟩ => by
      rcases hi with ⟨h2, _⟩ | ⟨k, _, rfl⟩
      · obtain ⟨h1, h3, _⟩ := h
        have := h2 _ (List.getElem_mem h1)
        rw [h3] at this
        cases this
      · exact ⟨⟨k, he⟩, hb⟩
    have HH := Lib.hid h
    clear h hS hn
    go_enter Try.func16, Try.ntmps16
    go_wp2_with (go_at_call 15; refine HX.out.mono ?_; rintro e w1 ⟨⟨j, rfl⟩, B1⟩; have HB1 := Lib.hid B1; have hj : (0 : Int) ≤ (j : Int) := Int.natCast_nonneg j; clear B1)
    go_ret
    exact ⟨⟨true, rfl, .inr ⟨rfl, k, HH.out⟩⟩, HB1.out⟩
set_option maxRecDepth 100000 in
theorem said_any (r : Rv) (hr : r.ttl ≤ 4294967295) (w : World) : Calls Try.prog 18 #[.agg r.cells] w fun e w' => e = .returned (.agg r.saysE.cells) ∧ Below w.heap.size w w' := by
  have hi5 : (Try.prog.info? 28).map (·.size) = some 5 := by kernel_rfl
  have HI := Lib.hid hi5
  clear hi5
  unfold Rv.saysE Ev.cells
  have HR : Hid (Has (w.alloc (.cells r.cells 40)) w.heap.size 40 r.cells) := Has.fresh w _ _
  have HG : Hid (Has ((w.alloc (.cells r.cells 40)).alloc (.cells #[.int .u16 0, .int .u8 0, .int .u8 0, .int .u16 0, .string ⟨#[]⟩] 28)) (w.heap.size + 1) 28 #[.int .u16 0, .int .u8 0, .int .u8 0, .int .u16 0, .string ⟨#[]⟩]) := by
    have h := Has.fresh (w.alloc (.cells r.cells 40)) 28 #[.int .u16 0, .int .u8 0, .int .u8 0, .int .u16 0, .string ⟨#[]⟩]
    rw [World.size_alloc] at h
    exact h
  have HB : Hid (Below w.heap.size w ((w.alloc (.cells r.cells 40)).alloc (.cells #[.int .u16 0, .int .u8 0, .int .u8 0, .int .u16 0, .string ⟨#[]⟩] 28))) := ((Below.refl _ _).alloc (Nat.le_refl _) _).alloc (by simp) _
  obtain ⟨nm, ty, cl, ttl, ra, ho, ma, n0, n1, n2, n3, n4⟩ := r
  dsimp only [Rv.cells] at *
  have s1 : IntKind.u8.wrap ((ttl : Int) / 16777216) = ((ttl / 16777216 : Nat) : Int) := by rw [IntKind.wrap_u8]; omega
  have s2 : IntKind.u8.wrap ((ttl : Int) / 65536) = ((ttl / 65536 % 256 : Nat) : Int) := by rw [IntKind.wrap_u8]; omega
  have s3 : IntKind.u16.wrap (ttl : Int) = ((ttl % 65536 : Nat) : Int) := by rw [IntKind.wrap_u16]; omega
  go_enter Try.func18, Try.ntmps18
  go_wp2
  refine bodyPost_ret (results_cell_row rfl _ _ (w.heap.size + 1) 28 #[.int .u16 cl, .int .u8 ((ttl : Int) / 16777216), .int .u8 ((ttl : Int) / 65536 % 256), .int .u16 ((ttl : Int) % 65536), .string ra] (0, 0) _ rfl (?_ : Has _ _ _ _) Try.underlying28 rfl HI.out) rfl ?_
  · have h := Has.fresh (w.alloc (.cells #[.string nm, .int .u16 ty, .int .u16 cl, .int .u32 ttl, .string ra, .string ho, .string ma, .int .u32 n0, .int .u32 n1, .int .u32 n2, .int .u32 n3, .int .u32 n4] 40)) 28 #[.int .u16 cl, .int .u8 ((ttl : Int) / 16777216), .int .u8 ((ttl : Int) / 65536 % 256), .int .u16 ((ttl : Int) % 65536), .string ra]
    rw [World.size_alloc] at h
    exact h
  · exact ⟨rfl, ((Below.refl _ _).alloc (Nat.le_refl _) _).alloc (by simp) _⟩
end Go.Proofs.Ytapbcepjcnnkgab
/- Whether an OPT may be; a message's code. -/
namespace Go.Proofs.Ytapbcepjcnnkgab
open Go.RowKit Go.Sort Go.Shelf

def Dv.rawOnly (d : Dv) : Dv := ⟨d.raw, ⟨#[]⟩, ⟨#[]⟩, 0, 0, 0, 0, 0⟩
def Rv.root (r : Rv) : Bool := decide (r.nm = ⟨#[0]⟩)
def Rv.bare (r : Rv) : Bool := dvB r.d r.d.rawOnly
def Rv.sound (r : Rv) : Bool := r.root && r.bare && Ed.may r.d.raw.data.toList
section
variable {w : World} {ops : Array Oper} {rest : List Oper} {o : Oper} {a : Act} {Q : Exit → Act → World → Prop}
theorem wpList_eql_dataG (hw : Region.wanted o (yielded ops a.tmps) = true) (x y : Operand) (ho : o.op = .binOp .eql 38 x y 38) (A B : Dv) (hx : a.eval x = .agg A.cells) (hy : a.eval y = .agg B.cells) (b : Bool) (hb : dvB A B = b)
    (h : wpList Try.prog ops Q rest (a.put o.dst (.bool b)) w) : wpList Try.prog ops Q (o :: rest) a w := by
  subst hb
  refine wpList_step fun K hK => ?_
  rw [if_pos hw]
  unfold Oper.wp execOp
  simp only [ho, hx, hy, Sem.run_bind, Sem.run_pure, Result.andThen_ok, run_eqGuard_agg w .eql _ _ _ _ _ Try.eqGuardType38, eqlRun]
  exact hK _ _ h
theorem wpList_neq_dataG (hw : Region.wanted o (yielded ops a.tmps) = true) (x y : Operand) (ho : o.op = .binOp .neq 38 x y 38) (A B : Dv) (hx : a.eval x = .agg A.cells) (hy : a.eval y = .agg B.cells) (b : Bool) (hb : dvB A B = b)
    (h : wpList Try.prog ops Q rest (a.put o.dst (.bool (!b))) w) : wpList Try.prog ops Q (o :: rest) a w := by
  subst hb
  refine wpList_step fun K hK => ?_
  rw [if_pos hw]
  unfold Oper.wp execOp
  simp only [ho, hx, hy, Sem.run_bind, Sem.run_pure, Result.andThen_ok, run_eqGuard_agg w .neq _ _ _ _ _ Try.eqGuardType38, neqRun]
  exact hK _ _ h
end
set_option maxHeartbeats 1000000 in
set_option maxRecDepth 100000 in
theorem sound_any (r : Rv) (w : World) (hs : r.d.raw.size ≤ maxLen) : Calls Try.prog 17 #[.agg r.cells] w fun e w' => e = .returned (.bool r.sound) ∧ Below w.heap.size w w' := by
  have HM := Lib.hid (fun W : World => mayBe_any r.d.raw W hs)
  have HB := Lib.hid ((Below.refl w.heap.size w).alloc (Nat.le_refl _) (.cells r.cells 40))
  have hq0 : (⟨#[0]⟩ : ByteArray).toList = [0] := by kernel_rfl
  have hq : (r.nm.toList == ([0] : List UInt8)) = r.root := by rw [← hq0, strB]; rfl
  clear hq0
  have HD : Hid (dvB r.d r.d.rawOnly = r.bare) := rfl
  have HS : Hid (r.sound = (r.root && r.bare && Ed.may r.d.raw.data.toList)) := rfl
  generalize r.sound = so at *
  generalize r.root = b1 at *
  generalize r.bare = b2 at *
  generalize Ed.may r.d.raw.data.toList = b3 at *
  obtain ⟨nm, ty, cl, ttl, ra, ho, ma, n0, n1, n2, n3, n4⟩ := r
  dsimp only [Rv.cells, Dv.cells, Dv.rawOnly] at *
  have hso := HS.out
  subst hso
  clear HS hs
  cases b1
  · go_enter Try.func17, Try.ntmps17
    go_wp2
    go_ret
    exact ⟨rfl, HB.out⟩
  · cases b2
    · go_enter Try.func17, Try.ntmps17
      go_wp2_with (refine wpList_eql_dataG (by rfl) (.tmp 8) (.tmp 12) rfl ⟨ra, ho, ma, n0, n1, n2, n3, n4⟩ ⟨ra, ⟨#[]⟩, ⟨#[]⟩, 0, 0, 0, 0, 0⟩ rfl rfl _ HD.out ?_)
      go_ret
      exact ⟨rfl, HB.out⟩
    · go_enter Try.func17, Try.ntmps17
      go_wp2_with (first
        | (refine wpList_eql_dataG (by rfl) (.tmp 8) (.tmp 12) rfl ⟨ra, ho, ma, n0, n1, n2, n3, n4⟩ ⟨ra, ⟨#[]⟩, ⟨#[]⟩, 0, 0, 0, 0, 0⟩ rfl rfl _ HD.out ?_)
        | (go_at_call 14; refine (HM.out _).mono ?_; rintro e w1 ⟨rfl, B1⟩; have HB1 := Lib.hid (HB.out.trans (B1.mono HB.out.size)); clear B1))
      go_ret
      exact ⟨rfl, HB1.out⟩
end Go.Proofs.Ytapbcepjcnnkgab
/- A message's code: by both. -/
namespace Go.Proofs.Ytapbcepjcnnkgab
open Go.RowKit Go.Sort Go.Shelf

theorem fst_find {es : List Rv} {k : Nat} (h : Ed.Fst es k) : ∃ hk : k < es.length, es.find? Ed.isO = some (es[k]'hk) := by
  obtain ⟨hk, h1, h2⟩ := h
  refine ⟨hk, ?_⟩
  have h0 : es.find? Ed.isO = (es.take k ++ es.drop k).find? Ed.isO := by rw [List.take_append_drop]
  rw [h0, List.find?_append]
  have h3 : (es.take k).find? Ed.isO = none := by
    rw [List.find?_eq_none]
    intro x hx
    simp [h2 x hx]
  rw [h3, List.drop_eq_getElem_cons hk, List.find?_cons, h1]
  rfl
theorem non_find {es : List Rv} (h : Ed.Non es) : es.find? Ed.isO = none := by
  rw [List.find?_eq_none]
  intro x hx
  simp [h x hx]
theorem fst_uniq {es : List Rv} {k j : Nat} (h : Ed.Fst es k) (h2 : Ed.Fst es j) : k = j := by
  obtain ⟨hk, a1, a2⟩ := h
  obtain ⟨hj, b1, b2⟩ := h2
  rcases Nat.lt_trichotomy k j with h | h | h
  · have := b2 (es[k]'hk) (by rw [List.mem_take_iff_getElem]; exact ⟨k, by omega, rfl⟩)
    rw [a1] at this; cases this
  · exact h
  · have := a2 (es[j]'hj) (by rw [List.mem_take_iff_getElem]; exact ⟨j, by omega, rfl⟩)
    rw [b1] at this; cases this
theorem field_high (a b c d e : Value) (W : World) : (Instr.field 28 (.agg #[a, b, c, d, e]) 1).run Try.prog W = .ok b W := by
  rfl
/-- the code. -/
def codeV (rc : Nat) (es : List Rv) : Nat := match es.find? Ed.isO with
  | none => rc
  | some r => rc + 16 * (r.ttl / 16777216)
/-- what is known of a message within a call. -/
theorem lies_es {m : Mv} {w W : World} (h : m.lies w) (hb : Below w.heap.size w W) : Srow rcl 12 W 0 W.heap.size m.eA m.es := (h.2.2.2.2.2.keep hb).more (Nat.le_refl _) hb.size
theorem lies_later {m : Mv} {w W : World} (h : m.lies w) (hb : Below w.heap.size w W) : m.lies W :=
  ⟨⟨h.1.1, h.1.2.1, (h.1.2.2.keep hb).more (Nat.le_refl _) hb.size⟩, ⟨h.2.1.1, h.2.1.2.1, (h.2.1.2.2.keep hb).more (Nat.le_refl _) hb.size⟩, ⟨h.2.2.1.1, h.2.2.1.2.1, (h.2.2.1.2.2.keep hb).more (Nat.le_refl _) hb.size⟩, ⟨h.2.2.2.1, h.2.2.2.2.1, (h.2.2.2.2.2.keep hb).more (Nat.le_refl _) hb.size⟩⟩
theorem idx_non {es : List Rv} {A : Option Addr} {c : Nat} {w : World} (hS : Srow rcl 12 w 0 w.heap.size A es) (hn : es.length ≤ 4398046511104) (h : Ed.Non es) :
    Calls Try.prog 15 #[.slice A es.length c, .func (.func 12) #[] #[]] w fun e w' => e = .returned (.int .i64 (-1)) ∧ Below w.heap.size w w' := (idx_any es A c w hS hn).mono fun e w' ⟨⟨i, he, hi⟩, hb⟩ => by
  rcases hi with ⟨_, rfl⟩ | ⟨k, ⟨h1, h2, _⟩, _⟩
  · exact ⟨he, hb⟩
  · have := h _ (List.getElem_mem h1)
    rw [h2] at this
    cases this
theorem idx_fst {es : List Rv} {A : Option Addr} {c k : Nat} {w : World} (hS : Srow rcl 12 w 0 w.heap.size A es) (hn : es.length ≤ 4398046511104) (h : Ed.Fst es k) :
    Calls Try.prog 15 #[.slice A es.length c, .func (.func 12) #[] #[]] w fun e w' => e = .returned (.int .i64 k) ∧ Below w.heap.size w w' := (idx_any es A c w hS hn).mono fun e w' ⟨⟨i, he, hi⟩, hb⟩ => by
  rcases hi with ⟨h2, _⟩ | ⟨j, h2, rfl⟩
  · obtain ⟨h1, h3, _⟩ := h
    have := h2 _ (List.getElem_mem h1)
    rw [h3] at this
    cases this
  · rw [fst_uniq h h2]
    exact ⟨he, hb⟩
set_option maxHeartbeats 1000000 in
set_option maxRecDepth 100000 in
theorem code_any (m : Mv) (w : World) (hf : m.fits) (hl : m.lies w) (hn : m.es.length ≤ 4398046511104) :
    Calls Try.prog 9 #[.agg m.cells] w fun e w' => e = .returned (.int .u16 (codeV m.rc m.es : Nat)) ∧ Below w.heap.size w w' := by
  have hB0 := (Below.refl w.heap.size w).alloc (Nat.le_refl _) (.cells m.cells 26)
  have hM0 := Has.fresh w 26 m.cells
  have hrc := hf.2.2.2.1
  rcases Ed.non_or m.es with h | ⟨k, h⟩
  · have HX := Lib.hid (idx_non (c := m.ec) (lies_es hl hB0) hn h)
    have HV : Hid (codeV m.rc m.es = m.rc) := by unfold codeV; rw [Hid, non_find h]
    have HB0 := Lib.hid hB0
    have HM0 := Lib.hid hM0
    clear hB0 hM0 hf hl hn h
    unfold Mv.cells at *
    go_enter Try.func9, Try.ntmps9
    go_wp2_with (go_at_call 15; refine HX.out.mono ?_; rintro e w1 ⟨rfl, B1⟩; have HB1 := Lib.hid (HB0.out.trans (B1.mono HB0.out.size)); clear B1)
    go_ret
    exact ⟨by rw [HV.out]; rfl, HB1.out⟩
  · obtain ⟨hk, hfd⟩ := fst_find h
    have HX := Lib.hid (idx_fst (c := m.ec) (lies_es hl hB0) hn h)
    have HV : Hid (codeV m.rc m.es = m.rc + 16 * ((m.es[k]'hk).ttl / 16777216)) := by unfold codeV; rw [Hid, hfd]
    have hft := hf.2.2.2.2.2.2.2 (m.es[k]'hk) (List.getElem_mem hk)
    have hcap := hl.2.2.2.1
    obtain ⟨g, o, hA, _, hg, hc⟩ := hl.2.2.2.2.2.at_ hk
    have hmg : g < w.heap.size := hg
    have HC := Lib.hid hc
    have hi12 : (Try.prog.info? 40).map (·.size) = some 12 := by kernel_rfl
    have HI := Lib.hid hi12
    have hk0 : (0 : Int) ≤ (k : Int) := by omega
    have hk1 : (k : Int) < (m.es.length : Int) := by omega
    have hs := hft.2.2.1
    generalize m.es[k] = r at *
    have HSD := Lib.hid (fun W : World => said_any r hs W)
    obtain ⟨hi, hhi⟩ : ∃ hi, r.ttl / 16777216 = hi := ⟨_, rfl⟩
    have hh : hi ≤ 255 := by omega
    have eS : r.saysE.cells = #[.int .u16 r.cl, .int .u8 hi, .int .u8 (r.ttl / 65536 % 256 : Nat), .int .u16 (r.ttl % 65536 : Nat), .string r.d.raw] := by rw [← hhi]; rfl
    rw [hhi] at HV
    rw [eS] at HSD
    have HB0 := Lib.hid hB0
    have HM0 := Lib.hid hM0
    clear hB0 hM0 hf hl hn h hfd hc hi12 hft hs hhi eS hg
    obtain ⟨id, rep, op, aa, tc, rd, ra, z, rc, qA, qs, qc, aA, an, ac, uA, us, uc, eA, es, ec⟩ := m
    dsimp only [Mv.cells] at *
    subst hA
    have hfl := field_high
    go_enter Try.func9, Try.ntmps9
    go_wp2_with (first
      | (go_at_call 15; refine HX.out.mono ?_; rintro e w1 ⟨rfl, B1⟩; have HB1 := Lib.hid (HB0.out.trans (B1.mono HB0.out.size)); have c12 : w1.cell? ⟨w.heap.size, 12, none⟩ = some (.slice (some ⟨g, o, none⟩) es.length ec) := (by rw [(HM0.out.below B1 HM0.out.lt).cell]; rfl); have HC1 := Lib.hid (range_below HB1.out hmg HC.out); clear B1)
      | (refine wpList_load_mid rfl 40 (.tmp 17) rfl g _ rfl (rcl r) _ HC1.out Try.underlying40 rfl HI.out ?_)
      | (go_at_call 18; refine (HSD.out _).mono ?_; rintro e w2 ⟨rfl, B2⟩; have HB2 := Lib.hid (HB1.out.trans (B2.mono HB1.out.size)); clear B2))
    go_ret
    exact ⟨by rw [HV.out]; rfl, HB2.out⟩
end Go.Proofs.Ytapbcepjcnnkgab
