/- Which record is an OPT, and where: isOPT, IndexFunc, ContainsFunc, said. -/
import Derived.Test.YtnpimahgdhpmfaaEdWakes
namespace Go.Proofs.Ytnpimahgdhpmfaa
open Go.RowKit Go.Sort Go.Shelf

namespace Ed
def isO (r : Rv) : Bool := r.ty == 41
/-- none of these is an OPT. -/
def Non (es : List Rv) : Prop := ∀ r ∈ es, isO r = false
/-- the first OPT stands at k. -/
def Fst (es : List Rv) (k : Nat) : Prop := ∃ h : k < es.length, isO (es[k]'h) = true ∧ Non (es.take k)
theorem non_or : ∀ es : List Rv, Non es ∨ ∃ k, Fst es k
  | [] => .inl (fun _ h => by cases h)
  | r :: es => by
    cases hr : isO r with
    | true => exact .inr ⟨0, by simp, hr, fun _ h => by cases h⟩
    | false =>
      rcases non_or es with h | ⟨k, h1, h2, h3⟩
      · refine .inl fun x hx => ?_
        rcases List.mem_cons.1 hx with rfl | hx
        · exact hr
        · exact h x hx
      · refine .inr ⟨k + 1, by simpa using h1, by simpa using h2, fun x hx => ?_⟩
        rw [List.take_succ_cons] at hx
        rcases List.mem_cons.1 hx with rfl | hx
        · exact hr
        · exact h3 x hx
/-- where the first one stands, or -1. -/
def Idx (es : List Rv) (i : Int) : Prop := (Non es ∧ i = -1) ∨ ∃ k : Nat, Fst es k ∧ i = k
end Ed
def Rv.saysE (r : Rv) : Ev := ⟨r.cl, r.ttl / 16777216, r.ttl / 65536 % 256, r.ttl % 65536, r.d.raw⟩
set_option maxRecDepth 100000 in
theorem isOPT_any (r : Rv) (w : World) : Calls Try.prog 20 #[.agg r.cells] w fun e w' => e = .returned (.bool (Ed.isO r)) ∧ Below w.heap.size w w' := by
  have HB := Lib.hid ((Below.refl w.heap.size w).alloc (Nat.le_refl _) (.cells r.cells 41))
  have hq : ((r.ty : Int) == 41) = Ed.isO r := by unfold Ed.isO; rw [Bool.eq_iff_iff]; simp; omega
  generalize Ed.isO r = b at *
  obtain ⟨nm, ty, cl, ttl, ra, ho, ma, n0, n1, n2, n3, n4⟩ := r
  dsimp only [Rv.cells] at *
  cases b
  all_goals
    go_enter Try.func20, Try.ntmps20
    go_wp2
    go_ret
    exact ⟨rfl, HB.out⟩
set_option maxHeartbeats 2000000 in
set_option maxRecDepth 100000 in
theorem idx_any (es : List Rv) (A : Option Addr) (c : Nat) (w : World) (hS : Srow rcl 12 w 0 w.heap.size A es) (hn : es.length ≤ 4398046511104) :
    Calls Try.prog 19 #[.slice A es.length c, .func (.func 20) #[] #[]] w fun e w' => (∃ i, e = .returned (.int .i64 i) ∧ Ed.Idx es i) ∧ Below w.heap.size w w' := by
  have HS := Lib.hid hS
  have HO := Lib.hid (fun (r : Rv) (W : World) => isOPT_any r W)
  clear hS
  have hi12 : (Try.prog.info? 41).map (·.size) = some 12 := by kernel_rfl
  have HI := Lib.hid hi12
  clear hi12
  go_enter Try.func19, Try.ntmps19
  go_wp2
  go_loopw [8] (fun i wr => ∃ k : Nat, i = .int .i64 k ∧ k ≤ es.length ∧ Hid (Ed.Non (es.take k)) ∧ Hid (Below w.heap.size w wr)) (fun i _ => es.length - (intOf i).toNat)
  case atStart => exact ⟨0, rfl, Nat.zero_le _, (fun _ h => by cases h), Below.refl _ _⟩
  case round =>
    obtain ⟨k, rfl, hk, HM, HB⟩ := hrel
    by_cases hlt : k < es.length
    · obtain ⟨g, o, rfl, _, hg, hc⟩ := HS.out.at_ hlt
      have hc2 := Lib.hid (range_below HB.out hg hc)
      have HT : Hid (es.take (k + 1) = es.take k ++ [es[k]]) := List.take_succ_eq_append_getElem hlt
      have HX : Hid (Ed.isO es[k] = true → Ed.Fst es k) := fun h => ⟨hlt, h, HM.out⟩
      clear hc
      generalize es[k] = r at *
      cases hr : Ed.isO r
      · have HO2 : Hid (∀ W : World, Calls Try.prog 20 #[.agg r.cells] W fun e w' => e = .returned (.bool false) ∧ Below W.heap.size W w') := by rw [← hr]; exact HO.out r
        have HR := Lib.hid hr
        clear hr
        go_wp2_with (first
          | (refine wpList_load_mid rfl 41 (.tmp 14) rfl g _ rfl (rcl r) _ hc2.out Try.underlying41 rfl HI.out ?_)
          | (go_at_call 20; refine (HO2.out _).mono ?_; rintro e w2 ⟨rfl, B2⟩; have HB2 := Lib.hid (HB.out.trans (B2.mono HB.out.size)); clear B2))
        go_roundw
        case rel =>
          refine ⟨k + 1, by go_num, by omega, ?_, HB2⟩
          intro x hx
          rw [HT.out] at hx
          rcases List.mem_append.1 hx with hx | hx
          · exact HM.out x hx
          · rw [List.mem_singleton.1 hx]; exact HR.out
        case measure => simp [intOf]; omega
      · have HO2 : Hid (∀ W : World, Calls Try.prog 20 #[.agg r.cells] W fun e w' => e = .returned (.bool true) ∧ Below W.heap.size W w') := by rw [← hr]; exact HO.out r
        have HR := Lib.hid hr
        clear hr
        go_wp2_with (first
          | (refine wpList_load_mid rfl 41 (.tmp 14) rfl g _ rfl (rcl r) _ hc2.out Try.underlying41 rfl HI.out ?_)
          | (go_at_call 20; refine (HO2.out _).mono ?_; rintro e w2 ⟨rfl, B2⟩; have HB2 := Lib.hid (HB.out.trans (B2.mono HB.out.size)); clear B2))
        go_ret
        exact ⟨⟨k, rfl, .inr ⟨k, HX.out HR.out, rfl⟩⟩, HB2.out⟩
    · obtain rfl : k = es.length := by omega
      go_wp2
      go_ret
      exact ⟨⟨-1, rfl, .inl ⟨by have := HM.out; rwa [List.take_length] at this, rfl⟩⟩, HB.out⟩
set_option maxRecDepth 100000 in
theorem contains_any (es : List Rv) (A : Option Addr) (c : Nat) (w : World) (hS : Srow rcl 12 w 0 w.heap.size A es) (hn : es.length ≤ 4398046511104) :
    Calls Try.prog 21 #[.slice A es.length c, .func (.func 20) #[] #[]] w fun e w' => (∃ b, e = .returned (.bool b) ∧ ((b = false ∧ Ed.Non es) ∨ (b = true ∧ ∃ k, Ed.Fst es k))) ∧ Below w.heap.size w w' := by
  rcases Ed.non_or es with h | ⟨k, h⟩
  · have HX : Hid (Calls Try.prog 19 #[.slice A es.length c, .func (.func 20) #[] #[]] w fun e w' => e = .returned (.int .i64 (-1)) ∧ Below w.heap.size w w') := (idx_any es A c w hS hn).mono fun e w' ⟨⟨i, he, hi⟩, hb⟩ => by
      rcases hi with ⟨_, rfl⟩ | ⟨k, ⟨h1, h2, _⟩, _⟩
      · exact ⟨he, hb⟩
      · have := h _ (List.getElem_mem h1)
        rw [h2] at this
        cases this
    have HH := Lib.hid h
    clear h hS hn
    go_enter Try.func21, Try.ntmps21
    go_wp2_with (go_at_call 19; refine HX.out.mono ?_; rintro e w1 ⟨rfl, B1⟩; have HB1 := Lib.hid B1; clear B1)
    go_ret
    exact ⟨⟨false, rfl, .inl ⟨rfl, HH.out⟩⟩, HB1.out⟩
  · have HX : Hid (Calls Try.prog 19 #[.slice A es.length c, .func (.func 20) #[] #[]] w fun e w' => (∃ j : Nat, e = .returned (.int .i64 j)) ∧ Below w.heap.size w w') := (idx_any es A c w hS hn).mono fun e w' ⟨⟨i, he, hi⟩, hb⟩ => by
      rcases hi with ⟨h2, _⟩ | ⟨k, _, rfl⟩
      · obtain ⟨h1, h3, _⟩ := h
        have := h2 _ (List.getElem_mem h1)
        rw [h3] at this
        cases this
      · exact ⟨⟨k, he⟩, hb⟩
    have HH := Lib.hid h
    clear h hS hn
    go_enter Try.func21, Try.ntmps21
    go_wp2_with (go_at_call 19; refine HX.out.mono ?_; rintro e w1 ⟨⟨j, rfl⟩, B1⟩; have HB1 := Lib.hid B1; have hj : (0 : Int) ≤ (j : Int) := Int.natCast_nonneg j; clear B1)
    go_ret
    exact ⟨⟨true, rfl, .inr ⟨rfl, k, HH.out⟩⟩, HB1.out⟩
set_option maxRecDepth 100000 in
theorem said_any (r : Rv) (hr : r.ttl ≤ 4294967295) (w : World) : Calls Try.prog 23 #[.agg r.cells] w fun e w' => e = .returned (.agg r.saysE.cells) ∧ Below w.heap.size w w' := by
  have hi5 : (Try.prog.info? 28).map (·.size) = some 5 := by kernel_rfl
  have HI := Lib.hid hi5
  clear hi5
  unfold Rv.saysE Ev.cells
  have HR : Hid (Has (w.alloc (.cells r.cells 41)) w.heap.size 41 r.cells) := Has.fresh w _ _
  have HG : Hid (Has ((w.alloc (.cells r.cells 41)).alloc (.cells #[.int .u16 0, .int .u8 0, .int .u8 0, .int .u16 0, .string ⟨#[]⟩] 28)) (w.heap.size + 1) 28 #[.int .u16 0, .int .u8 0, .int .u8 0, .int .u16 0, .string ⟨#[]⟩]) := by
    have h := Has.fresh (w.alloc (.cells r.cells 41)) 28 #[.int .u16 0, .int .u8 0, .int .u8 0, .int .u16 0, .string ⟨#[]⟩]
    rw [World.size_alloc] at h
    exact h
  have HB : Hid (Below w.heap.size w ((w.alloc (.cells r.cells 41)).alloc (.cells #[.int .u16 0, .int .u8 0, .int .u8 0, .int .u16 0, .string ⟨#[]⟩] 28))) := ((Below.refl _ _).alloc (Nat.le_refl _) _).alloc (by simp) _
  obtain ⟨nm, ty, cl, ttl, ra, ho, ma, n0, n1, n2, n3, n4⟩ := r
  dsimp only [Rv.cells] at *
  have s1 : IntKind.u8.wrap ((ttl : Int) / 16777216) = ((ttl / 16777216 : Nat) : Int) := by rw [IntKind.wrap_u8]; omega
  have s2 : IntKind.u8.wrap ((ttl : Int) / 65536) = ((ttl / 65536 % 256 : Nat) : Int) := by rw [IntKind.wrap_u8]; omega
  have s3 : IntKind.u16.wrap (ttl : Int) = ((ttl % 65536 : Nat) : Int) := by rw [IntKind.wrap_u16]; omega
  go_enter Try.func23, Try.ntmps23
  go_wp2
  refine bodyPost_ret (results_cell_row rfl _ _ (w.heap.size + 1) 28 #[.int .u16 cl, .int .u8 ((ttl : Int) / 16777216), .int .u8 ((ttl : Int) / 65536 % 256), .int .u16 ((ttl : Int) % 65536), .string ra] (0, 0) _ rfl (?_ : Has _ _ _ _) Try.underlying28 rfl HI.out) rfl ?_
  · have h := Has.fresh (w.alloc (.cells #[.string nm, .int .u16 ty, .int .u16 cl, .int .u32 ttl, .string ra, .string ho, .string ma, .int .u32 n0, .int .u32 n1, .int .u32 n2, .int .u32 n3, .int .u32 n4] 41)) 28 #[.int .u16 cl, .int .u8 ((ttl : Int) / 16777216), .int .u8 ((ttl : Int) / 65536 % 256), .int .u16 ((ttl : Int) % 65536), .string ra]
    rw [World.size_alloc] at h
    exact h
  · exact ⟨rfl, ((Below.refl _ _).alloc (Nat.le_refl _) _).alloc (by simp) _⟩
end Go.Proofs.Ytnpimahgdhpmfaa
