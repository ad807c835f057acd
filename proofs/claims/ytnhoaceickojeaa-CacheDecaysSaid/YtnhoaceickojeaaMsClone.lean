/- slices.Clone of records and of questions: the program's. -/
import Derived.Test.YtnhoaceickojeaaSrowFlat
import Derived.Test.YtnhoaceickojeaaMsOpen
import Derived.Lib.SliceRun
namespace Go.Proofs.Ytnhoaceickojeaa
open Go.RowKit

theorem fl_one_cell {α : Type} {enc : α → List Value} (h : ∀ x, ∀ v ∈ enc x, v.oneCell' = true) (xs : List α) : ∀ u ∈ fl enc xs, u.oneCell' = true := fun u hu => by
  obtain ⟨x, _, hx⟩ := List.mem_flatMap.1 hu
  exact h x u hx
theorem kcl_one (q : Kv) : ∀ v ∈ kcl q, v.oneCell' = true := by
  intro v hv
  simp only [kcl, List.mem_cons, List.not_mem_nil, or_false] at hv
  rcases hv with rfl | rfl | rfl <;> rfl
set_option maxHeartbeats 2000000 in
set_option maxRecDepth 100000 in
theorem cloneR_any (rs : List Rv) (A : Option Addr) (c : Nat) (w : World) (hS : Srow rcl 12 w 0 w.heap.size A rs) (hnil : A = none → c = 0) (hn : rs.length * 96 ≤ 140737488355328) :
    Calls Try.prog 65 #[.slice A rs.length c] w fun e w' => ∃ v, e = .returned v ∧ Own rcl 12 w' w.heap.size 50 v rs ∧ Below w.heap.size w w' := by
  obtain ⟨ti, tz, ht1, ht2, ht3, ht4, ht5⟩ : ∃ i z, Try.prog.info? 50 = some i ∧ i.zero = some z ∧ i.size = 12 ∧ i.bytes = 96 ∧ z.cells.size = 12 := ⟨_, .agg #[.string ⟨#[]⟩, .int .u16 0, .int .u16 0, .int .u32 0, .string ⟨#[]⟩, .string ⟨#[]⟩, .string ⟨#[]⟩, .int .u32 0, .int .u32 0, .int .u32 0, .int .u32 0, .int .u32 0], rfl, by kernel_rfl, by kernel_rfl, by kernel_rfl, by kernel_rfl⟩
  have HT := Lib.hid (And.intro ht1 (And.intro ht2 (And.intro ht3 (And.intro ht4 ht5))))
  clear ht1 ht2 ht3 ht4 ht5
  have hq : ∀ (W : World) (a : Option Addr) (n c n' c' : Nat), (binOp .eql 36 (.slice a n c) (.slice none n' c')).run Try.prog W = .ok (.bool a.isNone) W := fun W a n c n' c' => Lib.run_eql_slice_nil W _ _ a n c n' c' Try.underlying36
  rcases A with _ | ⟨g, o, sp⟩
  · have h0 : rs = [] := by
      rcases rs with _ | ⟨x, r⟩
      · rfl
      · obtain ⟨g, o, hA, _⟩ := hS (by simp); cases hA
    subst h0
    have := hnil rfl
    subst this
    clear hS hnil HT
    go_enter Try.func65, Try.ntmps65
    go_wp2
    go_ret
    exact ⟨_, rfl, ⟨rfl, .inl ⟨rfl, rfl⟩⟩, Below.refl _ _⟩
  · have HFL : Hid (∀ ob j u, (fl rcl rs)[j]? = some u → (w.alloc ob).cell? ((⟨g, o, sp⟩ : Addr).add j) = some u) := by
      rcases rs with _ | ⟨x, r⟩
      · intro _ j u hu; cases hu
      · obtain ⟨g', o', hA, _⟩ := id (hS (by simp))
        injection hA with hA
        injection hA with e1 e2 e3
        subst e1 e2 e3
        intro ob j u hu
        exact Lib.cell?_alloc_some _ (srow_flat rcl_len hS j u hu)
    have HLN : Hid ((fl rcl rs).length = rs.length * 12) := fl_len rcl_len rs
    have HON := Lib.hid (fl_one_cell (enc := rcl) rcl_one rs)
    clear hS hnil
    go_enter Try.func65, Try.ntmps65
    go_wp2_with (at_builtin
                 refine wpList_append_own _ rfl (.tmp 5) (.tmp 6) _ rfl w.heap.size 50 ti _ 12 96 Try.underlying36 HT.out.1 HT.out.2.1 HT.out.2.2.1 HT.out.2.2.2.1 HT.out.2.2.2.2 (by decide) _ _ _ rfl (World.ownsRow_made w #[] 0 (Nat.le_refl _) (Nat.zero_le _) (by simp)) ⟨g, o, sp⟩ rs.length c (fl rcl rs) rfl HLN.out (HFL.out _) HON.out (by unfold maxLen; omega) (by omega) (by simp) ?_
                 intro v1 w1 ho1 hg1 _
                 rw [Nat.zero_add] at ho1
                 have HO1 := Lib.hid ho1
                 have HG1 := Lib.hid hg1
                 clear ho1 hg1)
    go_ret
    exact ⟨_, rfl, by simpa using HO1.out, ((Below.refl _ w).alloc (Nat.le_refl _) _).grown HG1.out (by simp) (by intro k hk; injection hk with hk; exact Nat.le_of_eq hk)⟩
end Go.Proofs.Ytnhoaceickojeaa
