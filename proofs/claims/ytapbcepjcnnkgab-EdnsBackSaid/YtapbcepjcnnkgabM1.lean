/- Texts of the proofs, merged. -/
import Derived.Test.YtapbcepjcnnkgabRrApp
import Derived.Test.YtapbcepjcnnkgabRrOpen
import Derived.Great.BuildSlice
import Derived.Test.YtapbcepjcnnkgabEdFind
import Derived.Test.YtapbcepjcnnkgabMsOpen
import Derived.Lib.SliceRun
/- All cells of a read-only row of structs. Nothing of the program. -/
namespace Go.Proofs.Ytapbcepjcnnkgab
open Go.RowKit Go.Sort Go.Shelf

theorem srow_flat {α : Type} {enc : α → List Value} {k : Nat} (hk : ∀ x, (enc x).length = k) {w : World} {lo hi g o : Nat} {xs : List α} (h : Srow enc k w lo hi (some ⟨g, o, none⟩) xs) :
    ∀ j u, (fl enc xs)[j]? = some u → w.cell? ((⟨g, o, none⟩ : Addr).add j) = some u := fun j u hu => by
  have hj : j < xs.length * k := by rw [← fl_len hk]; exact (List.getElem?_eq_some_iff.1 hu).1
  have h0 : 0 < k := by
    rcases Nat.eq_zero_or_pos k with h | h
    · subst h; simp at hj
    · exact h
  have hi' : j / k < xs.length := Nat.div_lt_of_lt_mul (by rw [Nat.mul_comm]; exact hj)
  have hm : j % k < k := Nat.mod_lt _ h0
  have e : j / k * k + j % k = j := by rw [Nat.mul_comm]; exact Nat.div_add_mod j k
  have h1 := fl_get hk xs hi' hm
  rw [e, hu] at h1
  obtain ⟨g', o', hA, _, _, hc⟩ := h (Nat.zero_lt_of_lt hi')
  injection hA with hA
  injection hA with e1 e2 _
  subst e1 e2
  have := hc (j / k) hi' (j % k) u h1.symm
  rw [addr_add, ← e, ← Nat.add_assoc]
  rw [Nat.add_assoc] at this ⊢
  exact this
theorem rcl_flat_one (xs : List Rv) : ∀ u ∈ fl rcl xs, u.oneCell' = true := fun u hu => by
  obtain ⟨x, _, hx⟩ := List.mem_flatMap.1 hu
  exact rcl_one x u hx
end Go.Proofs.Ytapbcepjcnnkgab
/- A slice of one struct, laid. Nothing of the program. -/
namespace Go.Proofs.Ytapbcepjcnnkgab
open Go.RowKit

section
variable {P : Program} {w : World} {ops : Array Oper} {rest : List Oper} {o : Oper} {a : Act} {Q : Exit → Act → World → Prop}
theorem wpList_build_one (hgd : o.guard = none) (t e : TypeId) (x : Operand) (ho : o.op = .buildSlice t 1 #[(0, x)]) (k : Nat) (cells : Array Value) (ie : TypeInfo) (z : Value) (hu : P.underlying t = some (.slice e)) (hie : P.info? e = some ie) (hz : ie.zero = some z) (hk : ie.size = k) (h0 : 0 < k) (hk2 : k ≤ 1000)
    (hx : a.eval x = .agg cells) (hf : Instr.fill (fun i => some (i * k, k)) ((Array.range (1 * k)).map (z.cells[· % z.cells.size]!)) [(0, .agg cells)] = some cells)
    (h : ∀ w2, Has w2 w.heap.size e cells → w.grownBy w2 none → w2.heap.size = w.heap.size + 1 → wpList P ops Q rest (a.put o.dst (.slice (some ⟨w.heap.size, 0, none⟩) 1 1)) w2) : wpList P ops Q (o :: rest) a w := by
  subst hk
  refine wpList_buildSlice hgd t e 1 #[(0, x)] ho cells ie z hu hie hz (by omega) (by omega) (by simp only [List.map_toArray, List.map_cons, List.map_nil, hx]; exact hf) ?_
  exact h _ (Has.fresh w e cells) (World.grownBy_alloc w _ none) (by simp)
end
set_option maxRecDepth 100000 in
theorem fill_rec (r : Rv) : Instr.fill (fun i => some (i * 12, 12)) ((Array.range (1 * 12)).map ((Value.agg (rcl ⟨⟨#[]⟩, 0, 0, 0, ⟨⟨#[]⟩, ⟨#[]⟩, ⟨#[]⟩, 0, 0, 0, 0, 0⟩⟩).toArray).cells[· % (Value.agg (rcl ⟨⟨#[]⟩, 0, 0, 0, ⟨⟨#[]⟩, ⟨#[]⟩, ⟨#[]⟩, 0, 0, 0, 0, 0⟩⟩).toArray).cells.size]!)) [(0, .agg r.cells)] = some r.cells := by kernel_rfl
end Go.Proofs.Ytapbcepjcnnkgab
/- A message with a code and an OPT: what Find and Code tell of it. Nothing of the program. -/
namespace Go.Proofs.Ytapbcepjcnnkgab

namespace Ed
/-- the records that are no OPT. -/
def rest (es : List Rv) : List Rv := es.filter fun r => !isO r
theorem rest_le (es : List Rv) : (rest es).length ≤ es.length := List.length_filter_le _ _
theorem rest_mem {es : List Rv} {r : Rv} (h : r ∈ rest es) : r ∈ es ∧ isO r = false := by
  have := List.mem_filter.1 h
  exact ⟨this.1, by simpa using this.2⟩
theorem rest_non (es : List Rv) : Non (rest es) := fun _ h => (rest_mem h).2
theorem put_filter (es : List Rv) {o : Rv} (h : isO o = true) : (rest es ++ [o]).filter isO = [o] := by
  rw [List.filter_append, filter_non (rest_non es), List.filter_cons, h]
  rfl
theorem put_find (es : List Rv) {o : Rv} (h : isO o = true) : (rest es ++ [o]).find? isO = some o := by
  rw [List.find?_append, non_find (rest_non es), List.find?_cons, h]
  rfl
theorem rest_snoc (es : List Rv) (r : Rv) : rest (es ++ [r]) = if isO r then rest es else rest es ++ [r] := by
  unfold rest
  rw [List.filter_append]
  cases h : isO r <;> simp [h]
theorem rest_take {es : List Rv} {k : Nat} (hk : k < es.length) : rest (es.take (k + 1)) = if isO (es[k]'hk) then rest (es.take k) else rest (es.take k) ++ [es[k]'hk] := by
  rw [List.take_succ_eq_append_getElem hk, rest_snoc]
/-- where the k-th one, that is no OPT, comes to stand. -/
theorem rest_at {es : List Rv} {k : Nat} (hk : k < es.length) (h : isO (es[k]'hk) = false) : ∃ hi : (rest (es.take k)).length < (rest es).length, (rest es)[(rest (es.take k)).length]'hi = es[k]'hk := by
  have e : rest es = rest (es.take k) ++ (es[k]'hk) :: rest (es.drop (k + 1)) := by
    have h0 : rest es = rest (es.take k ++ es.drop k) := by rw [List.take_append_drop]
    rw [h0, List.drop_eq_getElem_cons hk]
    unfold rest
    rw [List.filter_append, List.filter_cons, h]
    rfl
  refine ⟨by rw [e]; simp, ?_⟩
  have := List.getElem_of_eq e (i := (rest (es.take k)).length) (by rw [e]; simp)
  rw [this, List.getElem_append_right (Nat.le_refl _)]
  simp
end Ed
theorem opt_isO (x : Ev) : Ed.isO x.opt' = true := rfl
theorem opt_sound {x : Ev} (h : x.ok = true) : x.opt'.sound = true := by
  unfold Ev.ok at h
  rw [Bool.and_eq_true] at h
  have h1 : x.opt'.root = true := decide_eq_true rfl
  have h2 : x.opt'.bare = true := (dvB_iff _ _).2 rfl
  unfold Rv.sound
  rw [h1, h2, Bool.true_and, Bool.true_and]
  exact h.2
theorem opt_says {x : Ev} (h : x.fits) : x.opt'.saysE = x := by
  obtain ⟨s, hi, v, f, o⟩ := x
  obtain ⟨h1, h2, h3, h4⟩ := h
  simp only at h1 h2 h3 h4
  unfold Rv.saysE Ev.opt' Ev.ttl
  simp only [Ev.mk.injEq, true_and, and_true]
  refine ⟨?_, ?_, ?_⟩ <;> omega
theorem findV_put (es : List Rv) {x : Ev} (h : x.ok = true) (hf : x.fits) : findV (Ed.rest es ++ [x.opt']) = (x, true, 0) := by
  unfold findV
  rw [Ed.put_filter es (opt_isO x)]
  simp only
  rw [opt_sound h, if_pos rfl, opt_says hf]
theorem codeV_put (es : List Rv) {x : Ev} (hf : x.fits) (code : Nat) (hh : x.high = code / 16) : codeV (code % 16) (Ed.rest es ++ [x.opt']) = code := by
  unfold codeV
  rw [Ed.put_find es (opt_isO x)]
  obtain ⟨s, hi, v, f, o⟩ := x
  obtain ⟨h1, h2, h3, h4⟩ := hf
  simp only at h1 h2 h3 h4 hh
  show code % 16 + 16 * ((hi * 16777216 + v * 65536 + f) / 16777216) = code
  omega
end Go.Proofs.Ytapbcepjcnnkgab
/- slices.Clone of records and of questions: the program's. -/
namespace Go.Proofs.Ytapbcepjcnnkgab
open Go.RowKit Go.Sort Go.Shelf

theorem fl_one_cell {α : Type} {enc : α → List Value} (h : ∀ x, ∀ v ∈ enc x, v.oneCell' = true) (xs : List α) : ∀ u ∈ fl enc xs, u.oneCell' = true := fun u hu => by
  obtain ⟨x, _, hx⟩ := List.mem_flatMap.1 hu
  exact h x u hx
theorem kcl_one (q : Kv) : ∀ v ∈ kcl q, v.oneCell' = true := by
  intro v hv
  simp only [kcl, List.mem_cons, List.not_mem_nil, or_false] at hv
  rcases hv with rfl | rfl | rfl <;> rfl
set_option maxHeartbeats 2000000 in
set_option maxRecDepth 100000 in
theorem cloneR_any (rs : List Rv) (A : Option Addr) (c : Nat) (w : World) (hS : Srow rcl 12 w 0 w.heap.size A rs) (hnil : A = none → c = 0) (hn : rs.length * 96 ≤ 140737488355328) :
    Calls Try.prog 11 #[.slice A rs.length c] w fun e w' => ∃ v, e = .returned v ∧ Own rcl 12 w' w.heap.size 40 v rs ∧ Below w.heap.size w w' := by
  obtain ⟨ti, tz, ht1, ht2, ht3, ht4, ht5⟩ : ∃ i z, Try.prog.info? 40 = some i ∧ i.zero = some z ∧ i.size = 12 ∧ i.bytes = 96 ∧ z.cells.size = 12 := ⟨_, .agg #[.string ⟨#[]⟩, .int .u16 0, .int .u16 0, .int .u32 0, .string ⟨#[]⟩, .string ⟨#[]⟩, .string ⟨#[]⟩, .int .u32 0, .int .u32 0, .int .u32 0, .int .u32 0, .int .u32 0], rfl, by kernel_rfl, by kernel_rfl, by kernel_rfl, by kernel_rfl⟩
  have HT := Lib.hid (And.intro ht1 (And.intro ht2 (And.intro ht3 (And.intro ht4 ht5))))
  clear ht1 ht2 ht3 ht4 ht5
  have hq : ∀ (W : World) (a : Option Addr) (n c n' c' : Nat), (binOp .eql 24 (.slice a n c) (.slice none n' c')).run Try.prog W = .ok (.bool a.isNone) W := fun W a n c n' c' => Lib.run_eql_slice_nil W _ _ a n c n' c' Try.underlying24
  rcases A with _ | ⟨g, o, sp⟩
  · have h0 : rs = [] := by
      rcases rs with _ | ⟨x, r⟩
      · rfl
      · obtain ⟨g, o, hA, _⟩ := hS (by simp); cases hA
    subst h0
    have := hnil rfl
    subst this
    clear hS hnil HT
    go_enter Try.func11, Try.ntmps11
    go_wp2
    go_ret
    exact ⟨_, rfl, ⟨rfl, .inl ⟨rfl, rfl⟩⟩, Below.refl _ _⟩
  · have HFL : Hid (∀ ob j u, (fl rcl rs)[j]? = some u → (w.alloc ob).cell? ((⟨g, o, sp⟩ : Addr).add j) = some u) := by
      rcases rs with _ | ⟨x, r⟩
      · intro _ j u hu; cases hu
      · obtain ⟨g', o', hA, _⟩ := id (hS (by simp))
        injection hA with hA
        injection hA with e1 e2 e3
        subst e1 e2 e3
        intro ob j u hu
        exact Lib.cell?_alloc_some _ (srow_flat rcl_len hS j u hu)
    have HLN : Hid ((fl rcl rs).length = rs.length * 12) := fl_len rcl_len rs
    have HON := Lib.hid (fl_one_cell (enc := rcl) rcl_one rs)
    clear hS hnil
    go_enter Try.func11, Try.ntmps11
    go_wp2_with (at_builtin
                 refine wpList_append_own _ rfl (.tmp 5) (.tmp 6) _ rfl w.heap.size 40 ti _ 12 96 Try.underlying24 HT.out.1 HT.out.2.1 HT.out.2.2.1 HT.out.2.2.2.1 HT.out.2.2.2.2 (by decide) _ _ _ rfl (World.ownsRow_made w #[] 0 (Nat.le_refl _) (Nat.zero_le _) (by simp)) ⟨g, o, sp⟩ rs.length c (fl rcl rs) rfl HLN.out (HFL.out _) HON.out (by unfold maxLen; omega) (by omega) (by simp) ?_
                 intro v1 w1 ho1 hg1 _
                 rw [Nat.zero_add] at ho1
                 have HO1 := Lib.hid ho1
                 have HG1 := Lib.hid hg1
                 clear ho1 hg1)
    go_ret
    exact ⟨_, rfl, by simpa using HO1.out, ((Below.refl _ w).alloc (Nat.le_refl _) _).grown HG1.out (by simp) (by intro k hk; injection hk with hk; exact Nat.le_of_eq hk)⟩
set_option maxHeartbeats 2000000 in
set_option maxRecDepth 100000 in
theorem cloneQ_any (rs : List Kv) (A : Option Addr) (c : Nat) (w : World) (hS : Srow kcl 3 w 0 w.heap.size A rs) (hnil : A = none → c = 0) (hn : rs.length * 24 ≤ 140737488355328) :
    Calls Try.prog 13 #[.slice A rs.length c] w fun e w' => ∃ v, e = .returned v ∧ Own kcl 3 w' w.heap.size 53 v rs ∧ Below w.heap.size w w' := by
  obtain ⟨ti, tz, ht1, ht2, ht3, ht4, ht5⟩ : ∃ i z, Try.prog.info? 53 = some i ∧ i.zero = some z ∧ i.size = 3 ∧ i.bytes = 24 ∧ z.cells.size = 3 := ⟨_, .agg #[.string ⟨#[]⟩, .int .u16 0, .int .u16 0], rfl, by kernel_rfl, by kernel_rfl, by kernel_rfl, by kernel_rfl⟩
  have HT := Lib.hid (And.intro ht1 (And.intro ht2 (And.intro ht3 (And.intro ht4 ht5))))
  clear ht1 ht2 ht3 ht4 ht5
  have hq : ∀ (W : World) (a : Option Addr) (n c n' c' : Nat), (binOp .eql 23 (.slice a n c) (.slice none n' c')).run Try.prog W = .ok (.bool a.isNone) W := fun W a n c n' c' => Lib.run_eql_slice_nil W _ _ a n c n' c' Try.underlying23
  rcases A with _ | ⟨g, o, sp⟩
  · have h0 : rs = [] := by
      rcases rs with _ | ⟨x, r⟩
      · rfl
      · obtain ⟨g, o, hA, _⟩ := hS (by simp); cases hA
    subst h0
    have := hnil rfl
    subst this
    clear hS hnil HT
    go_enter Try.func13, Try.ntmps13
    go_wp2
    go_ret
    exact ⟨_, rfl, ⟨rfl, .inl ⟨rfl, rfl⟩⟩, Below.refl _ _⟩
  · have HFL : Hid (∀ ob j u, (fl kcl rs)[j]? = some u → (w.alloc ob).cell? ((⟨g, o, sp⟩ : Addr).add j) = some u) := by
      rcases rs with _ | ⟨x, r⟩
      · intro _ j u hu; cases hu
      · obtain ⟨g', o', hA, _⟩ := id (hS (by simp))
        injection hA with hA
        injection hA with e1 e2 e3
        subst e1 e2 e3
        intro ob j u hu
        exact Lib.cell?_alloc_some _ (srow_flat kcl_len hS j u hu)
    have HLN : Hid ((fl kcl rs).length = rs.length * 3) := fl_len kcl_len rs
    have HON := Lib.hid (fl_one_cell (enc := kcl) kcl_one rs)
    clear hS hnil
    go_enter Try.func13, Try.ntmps13
    go_wp2_with (at_builtin
                 refine wpList_append_own _ rfl (.tmp 5) (.tmp 6) _ rfl w.heap.size 53 ti _ 3 24 Try.underlying23 HT.out.1 HT.out.2.1 HT.out.2.2.1 HT.out.2.2.2.1 HT.out.2.2.2.2 (by decide) _ _ _ rfl (World.ownsRow_made w #[] 0 (Nat.le_refl _) (Nat.zero_le _) (by simp)) ⟨g, o, sp⟩ rs.length c (fl kcl rs) rfl HLN.out (HFL.out _) HON.out (by unfold maxLen; omega) (by omega) (by simp) ?_
                 intro v1 w1 ho1 hg1 _
                 rw [Nat.zero_add] at ho1
                 have HO1 := Lib.hid ho1
                 have HG1 := Lib.hid hg1
                 clear ho1 hg1)
    go_ret
    exact ⟨_, rfl, by simpa using HO1.out, ((Below.refl _ w).alloc (Nat.le_refl _) _).grown HG1.out (by simp) (by intro k hk; injection hk with hk; exact Nat.le_of_eq hk)⟩
end Go.Proofs.Ytapbcepjcnnkgab
/- slices.DeleteFunc of records, what is an OPT: the program's. -/
namespace Go.Proofs.Ytapbcepjcnnkgab
open Go.RowKit Go.Sort Go.Shelf

theorem has_setCells {t : TypeId} : ∀ (vs : List Value) (g o : Nat) (cur : Array Value) (w : World), Has w g t cur → ∃ cur', Has (w.setCells g o vs) g t cur' ∧ cur'.size = cur.size
  | [], _, _, cur, _, h => ⟨cur, h, rfl⟩
  | v :: r, g, o, cur, w, h => by
    rw [World.setCells]
    obtain ⟨c, h1, h2⟩ := has_setCells r g (o + 1) _ _ (h.set o v)
    exact ⟨c, h1, by rw [h2]; simp⟩
theorem below_setCells {B : Nat} {a : World} : ∀ (vs : List Value) (g o : Nat) (w : World), Below B a w → B ≤ g → Below B a (w.setCells g o vs)
  | [], _, _, _, h, _ => h
  | v :: r, g, o, w, h, hg => by
    rw [World.setCells]
    exact below_setCells r g (o + 1) _ (h.setCell (p := ⟨g, o, none⟩) hg v) hg
theorem size_setCells : ∀ (vs : List Value) (g o : Nat) (w : World), (w.setCells g o vs).heap.size = w.heap.size
  | [], _, _, _ => rfl
  | v :: r, g, o, w => by
    rw [World.setCells, size_setCells r]
    simp
theorem has_there {w : World} {g : Nat} {t : TypeId} {cur : Array Value} (h : Has w g t cur) {o n : Nat} (hn : o + n ≤ cur.size) : w.there g o n := fun j hj =>
  ⟨by rw [h.cell, Array.getElem?_eq_getElem (by omega)]; rfl, h.free _⟩
/-- the first j are gone through: the i that are kept stand ahead, the others as they did. -/
structure DI (rs : List Rv) (g cap : Nat) (t : TypeId) (B : Nat) (w wr : World) (i j : Nat) : Prop where
  lt : i < j ∧ j ≤ rs.length ∧ rs.length ≤ cap ∧ cap ≤ maxLen
  len : (Ed.rest (rs.take j)).length = i
  has : ∃ cur, Has wr g t cur ∧ cur.size = cap * 12
  low : ∀ q (h : q < (Ed.rest (rs.take j)).length), wr.rangeAt g (q * 12) (rcl (Ed.rest (rs.take j))[q])
  high : ∀ q (h : q < rs.length), j ≤ q → wr.rangeAt g (q * 12) (rcl rs[q])
  bel : Below B w wr
  blk : B ≤ g ∧ g < wr.heap.size ∧ B ≤ wr.heap.size
section
variable {rs : List Rv} {g cap : Nat} {t : TypeId} {B : Nat} {w wr w1 : World} {i j : Nat}
theorem DI.keep (h : DI rs g cap t B w wr i j) (hb : Below wr.heap.size wr w1) : DI rs g cap t B w w1 i j := by
  obtain ⟨cur, h1, h2⟩ := h.has
  exact ⟨h.lt, h.len, ⟨cur, h1.below hb h.blk.2.1, h2⟩, fun q hq => range_below hb h.blk.2.1 (h.low q hq), fun q hq hj => range_below hb h.blk.2.1 (h.high q hq hj), h.bel.trans (hb.mono h.blk.2.2), ⟨h.blk.1, Nat.lt_of_lt_of_le h.blk.2.1 hb.size, Nat.le_trans h.blk.2.2 hb.size⟩⟩
theorem DI.there (h : DI rs g cap t B w wr i j) : wr.there g (i * 12) 12 := by
  obtain ⟨cur, h1, h2⟩ := h.has
  have := h.lt
  exact has_there h1 (by omega)
theorem DI.skip (h : DI rs g cap t B w wr i j) (hj : j < rs.length) (hr : Ed.isO (rs[j]'hj) = true) : DI rs g cap t B w wr i (j + 1) := by
  have e : Ed.rest (rs.take (j + 1)) = Ed.rest (rs.take j) := by rw [Ed.rest_take hj, if_pos hr]
  have := h.lt
  refine ⟨by omega, by rw [e]; exact h.len, h.has, ?_, fun q hq hjq => h.high q hq (by omega), h.bel, h.blk⟩
  rw [e]
  exact h.low
theorem DI.put (h : DI rs g cap t B w wr i j) (hj : j < rs.length) (hr : Ed.isO (rs[j]'hj) = false) : DI rs g cap t B w (wr.setCells g (i * 12) (rs[j]'hj).cells.toList) (i + 1) (j + 1) := by
  have e : Ed.rest (rs.take (j + 1)) = Ed.rest (rs.take j) ++ [rs[j]'hj] := by rw [Ed.rest_take hj, hr]; rfl
  have hlt := h.lt
  obtain ⟨cur, h1, h2⟩ := h.has
  obtain ⟨c', h3, h4⟩ := has_setCells (rs[j]'hj).cells.toList g (i * 12) cur wr h1
  refine ⟨by omega, by rw [e, List.length_append, h.len]; rfl, ⟨c', h3, by rw [h4]; exact h2⟩, fun q hq => ?_, fun q hq hjq => ?_, below_setCells _ _ _ _ h.bel h.blk.1, ⟨h.blk.1, by rw [size_setCells]; exact h.blk.2.1, by rw [size_setCells]; exact h.blk.2.2⟩⟩
  · have hq2 : q < i + 1 := by rw [e, List.length_append, h.len] at hq; exact hq
    by_cases hqi : q = i
    · subst hqi
      have eq1 : (Ed.rest (rs.take (j + 1)))[q]'hq = rs[j]'hj := by
        have := List.getElem_of_eq e hq
        rw [this, List.getElem_append_right (by rw [h.len]; exact Nat.le_refl _)]
        simp
      rw [eq1]
      exact World.rangeAt_setCells_same wr g (q * 12) _ h.there
    · have hq3 : q < (Ed.rest (rs.take j)).length := by rw [h.len]; omega
      have eq1 : (Ed.rest (rs.take (j + 1)))[q]'hq = (Ed.rest (rs.take j))[q]'hq3 := by
        have := List.getElem_of_eq e hq
        rw [this, List.getElem_append_left hq3]
      rw [eq1]
      exact World.rangeAt_setCells_apart (h.low q hq3) g (i * 12) _ (.inr (.inl (by rw [rcl_len]; omega)))
  · exact World.rangeAt_setCells_apart (h.high q hq (by omega)) g (i * 12) _ (.inr (.inr (by show i * 12 + 12 ≤ _; omega)))
/-- behind the end zeros are written; what is ahead is the row. -/
theorem DI.ends (h : DI rs g cap 40 B w wr i rs.length) (Z : List Value) : Own rcl 12 (wr.setCells g (i * 12) Z) B 40 (.slice (some ⟨g, 0, none⟩) i cap) (Ed.rest rs) ∧ Below B w (wr.setCells g (i * 12) Z) := by
  have hlt := h.lt
  obtain ⟨cur, h1, h2⟩ := h.has
  obtain ⟨c', h3, h4⟩ := has_setCells Z g (i * 12) cur wr h1
  have hlen := h.len
  have hlow := h.low
  simp only [List.take_length] at hlen hlow
  refine ⟨⟨fl_len rcl_len _, .inr ⟨g, cap, c', by rw [hlen], h.blk.1, h3, by omega, hlt.2.2.2, by rw [h4]; exact h2, ?_⟩⟩, below_setCells _ _ _ _ h.bel h.blk.1⟩
  apply List.ext_getElem?
  intro s
  by_cases hs : s < (Ed.rest rs).length * 12
  · rw [List.getElem?_take, if_pos hs, Array.getElem?_toList]
    have hq : s / 12 < (Ed.rest rs).length := Nat.div_lt_of_lt_mul (by omega)
    have hm : s % 12 < 12 := Nat.mod_lt _ (by omega)
    have es : s / 12 * 12 + s % 12 = s := by omega
    have hf := fl_get rcl_len (Ed.rest rs) hq hm
    rw [es] at hf
    rw [hf, ← h3.cell]
    have hr := World.rangeAt_setCells_apart (hlow _ hq) g (i * 12) Z (.inr (.inl (by rw [rcl_len]; omega)))
    have hl : s % 12 < (rcl (Ed.rest rs)[s / 12]).length := by rw [rcl_len]; exact hm
    have := hr (s % 12) _ (List.getElem?_eq_getElem hl)
    rw [es] at this
    rw [this, List.getElem?_eq_getElem hl]
  · rw [List.getElem?_eq_none (by rw [List.length_take]; omega), List.getElem?_eq_none (by rw [fl_len rcl_len]; omega)]
end
theorem run_clear_structs {P : Program} (w : World) (t e ty : TypeId) (z : Value) (ht : P.underlying t = some (.slice e)) (hv : ∀ w, (zeroValue e).run P w = .ok z w) (h1 : ∀ v ∈ z.cells, v.oneCell' = true) (b o n c : Nat) (hn : 0 < n) (hth : w.there b o (n * z.cells.size)) (hz : 0 < z.cells.size) :
    (Builtin.clear_ #[t] ty #[.slice (some ⟨b, o, none⟩) n c]).run P w = .ok (.tuple #[]) (w.setCells b o (Builtin.zeroCells z.cells n).toList) := by
  have hl : (Builtin.zeroCells z.cells n).toList.length = n * z.cells.size := by simp [Builtin.zeroCells]
  have hst := run_storeCells_cells (P := P) b o (Builtin.zeroCells z.cells n).toList 0 w (fun j hj => by simpa using (hth j (by rw [hl] at hj; exact hj)).1) (fun j hj => by simpa using (hth j (by rw [hl] at hj; exact hj)).2) (by
    intro v hv'
    simp only [Builtin.zeroCells, Array.toList_map, List.mem_map] at hv'
    obtain ⟨i, _, rfl⟩ := hv'
    have hi : i % z.cells.size < z.cells.size := Nat.mod_lt _ hz
    rw [getElem!_pos z.cells _ hi]
    exact h1 _ (Array.getElem_mem hi))
  simp only [Nat.add_zero] at hst
  obtain ⟨m, rfl⟩ : ∃ m, n = m + 1 := ⟨n - 1, by omega⟩
  simp [Builtin.clear_, run_underlying ht, hv, hst]
set_option maxHeartbeats 4000000 in
set_option maxRecDepth 100000 in
theorem del_any (rs : List Rv) (v : Value) (B : Nat) (w : World) (ho : Own rcl 12 w B 40 v rs) (hB : B ≤ w.heap.size) (hn : rs.length ≤ 4398046511104) :
    Calls Try.prog 10 #[v, .func (.func 12) #[] #[]] w fun e w' => ∃ v', e = .returned v' ∧ Own rcl 12 w' B 40 v' (Ed.rest rs) ∧ Below B w w' := by
  obtain ⟨A, c, rfl, hc, hS⟩ := Own.srow rcl_len ho
  have hS0 : Srow rcl 12 w 0 w.heap.size A rs := hS.more (Nat.zero_le _) (Nat.le_refl _)
  have hi12 : (Try.prog.info? 40).map (·.size) = some 12 := by kernel_rfl
  have HI := Lib.hid hi12
  rcases Ed.non_or rs with h | ⟨k, h⟩
  · have e : Ed.rest rs = rs := List.filter_eq_self.2 (fun r hr => by rw [h r hr]; rfl)
    rw [e]
    have HX := Lib.hid (idx_non (c := c) hS0 hn h)
    have HO := Lib.hid ho
    have HBB : Hid (B ≤ w.heap.size) := hB
    clear ho hB hS hS0 h e hi12
    go_enter Try.func10, Try.ntmps10
    go_wp2_with (go_at_call 15; refine HX.out.mono ?_; rintro e w1 ⟨rfl, B1⟩; have HB1 := Lib.hid B1; clear B1)
    go_ret
    exact ⟨_, rfl, ownK_below HO.out HB1.out (Nat.le_refl _), HB1.out.mono HBB.out⟩
  · obtain ⟨hk, hko, hkn⟩ := id h
    obtain ⟨g, c, cur, hv, hnc, hbg, hg, hh, htk⟩ := ownK_pos ho (by omega)
    injection hv with hv _ hv2
    subst hv hv2
    have HX := Lib.hid (idx_fst (c := c) hS0 hn h)
    have HDI : Hid (∀ W : World, Below w.heap.size w W → DI rs g c 40 B w W k (k + 1)) := fun W hW => by
      have e1 : Ed.rest (rs.take k) = rs.take k := List.filter_eq_self.2 (fun r hr => by rw [hkn r hr]; rfl)
      have e2 : Ed.rest (rs.take (k + 1)) = rs.take k := by rw [Ed.rest_take hk, if_pos hko, e1]
      obtain ⟨cur', hHas, hcm, hcs⟩ : ∃ cur', Has w g 40 cur' ∧ c ≤ maxLen ∧ cur'.size = c * 12 := by
        rcases ho.2 with ⟨h0, h1⟩ | ⟨g2, cap2, cur2, a1, a2, a3, a4, a5, a6, a7⟩
        · omega
        · injection a1 with a1 _ a1'
          injection a1 with a1
          injection a1 with a1
          subst a1 a1'
          exact ⟨cur2, a3, a5, a6⟩
      have hrow : ∀ q (h : q < rs.length), W.rangeAt g (q * 12) (rcl rs[q]) := fun q hq => by
        obtain ⟨g', o', hA, _, _, hcc⟩ := hS (by omega)
        injection hA with hA
        injection hA with hA1 hA2 _
        subst hA1 hA2
        have := range_below hW hg (hcc q hq)
        rwa [Nat.zero_add] at this
      refine ⟨⟨by omega, by omega, hnc, hcm⟩, by rw [e2, List.length_take]; omega, ⟨cur', hHas.below hW hg, hcs⟩, ?_, fun q hq _ => hrow q hq, hW.mono hB, ⟨hbg, Nat.lt_of_lt_of_le hg hW.size, Nat.le_trans hB hW.size⟩⟩
      rw [e2]
      intro q hq
      rw [List.length_take] at hq
      rw [List.getElem_take]
      exact hrow q (by omega)
    have HO2 := Lib.hid (fun (r : Rv) (W : World) => isOPT_any r W)
    have hk1 : (k : Int) < (rs.length : Int) := by omega
    have hk0 : (0 : Int) ≤ (k : Int) := by omega
    have hz0 : ∀ W, (zeroValue 40).run Try.prog W = .ok (.agg #[.string ⟨#[]⟩, .int .u16 0, .int .u16 0, .int .u32 0, .string ⟨#[]⟩, .string ⟨#[]⟩, .string ⟨#[]⟩, .int .u32 0, .int .u32 0, .int .u32 0, .int .u32 0, .int .u32 0]) W := fun W => by kernel_rfl
    have HZ := Lib.hid hz0
    clear ho hB hS hS0 h hko hkn hh htk hi12 hz0 hbg hg cur
    have hne1 : ((k : Int) == -1) = false := beq_eq_false_iff_ne.2 (by omega)
    go_enter Try.func10, Try.ntmps10
    go_wp2_with (go_at_call 15; refine HX.out.mono ?_; rintro e w1 ⟨rfl, B1⟩; have HD1 := Lib.hid (HDI.out _ B1); clear B1)
    go_loopw [5, 6, 7] (fun s5 s6 _ wr => ∃ i j : Nat, s5 = .int .i64 i ∧ s6 = .int .i64 j ∧ i < j ∧ j ≤ rs.length ∧ Hid (DI rs g c 40 B w wr i j)) (fun _ s6 _ _ => rs.length - (intOf s6).toNat)
    case atStart => exact ⟨k, k + 1, rfl, by go_num, by omega, by omega, HD1⟩
    case round =>
      obtain ⟨i, j, rfl, rfl, hij, hjn, HD⟩ := hrel
      have i0 : (0 : Int) ≤ (i : Int) := by omega
      have i1 : (i : Int) < (rs.length : Int) := by omega
      by_cases hlt : j < rs.length
      · have hr := Lib.hid (HD.out.high j hlt (Nat.le_refl _))
        have hwg := HD.out.blk
        have HPUT : Hid (∀ W, DI rs g c 40 B w W i j → Ed.isO rs[j] = false → DI rs g c 40 B w (W.setCells g (i * 12) (rs[j]).cells.toList) (i + 1) (j + 1)) := fun W hW h => hW.put hlt h
        have HSK : Hid (∀ W, DI rs g c 40 B w W i j → Ed.isO rs[j] = true → DI rs g c 40 B w W i (j + 1)) := fun W hW h => hW.skip hlt h
        generalize rs[j] = r at *
        have hq := HO2.out r
        cases hb : Ed.isO r
        · rw [hb] at hq
          have HQ := Lib.hid hq
          have HB' := Lib.hid hb
          clear hq hb
          go_wp2_with (first
            | (refine wpList_load_mid rfl 40 (.tmp 24) rfl g _ rfl (rcl r) _ hr.out Try.underlying40 rfl HI.out ?_)
            | (refine wpList_store_boxed rfl 40 (.tmp 7) (.tmp 25) rfl 40 _ r.cells rfl rfl HI.out rfl (rec_one r) ?_; intro w2 hY g2 hs2; have HY2 := Lib.hid hY; have HD2 := Lib.hid (HD.out.keep (grown_none g2 (Below.refl _ _) (Nat.le_refl _))); have hw2 := (by omega : wr.heap.size < w2.heap.size); clear hY g2 hs2)
            | (refine wpList_load_row rfl 40 (.tmp 7) rfl wr.heap.size rfl 40 r.cells (0, 0) _ HY2.out Try.underlying40 rfl HI.out ?_)
            | (go_at_call 12; refine (HQ.out _).mono ?_; rintro e w3 ⟨rfl, B3⟩; have HY3 := Lib.hid (HY2.out.below B3 hw2); have HD3 := Lib.hid (HD2.out.keep B3); have HT3 := Lib.hid HD3.out.there; have HD4 := Lib.hid (HPUT.out _ HD3.out HB'.out); clear B3)
            | (refine wpList_load_row rfl 40 (.tmp 7) rfl wr.heap.size rfl 40 r.cells (0, 0) _ HY3.out Try.underlying40 rfl HI.out ?_)
            | (refine wpList_store_mid rfl 40 (.tmp 33) (.tmp 32) rfl g (i * 12) r.cells rfl rfl HT3.out HI.out (rec_one r) ?_; revert HD4; generalize w3.setCells g (i * 12) r.cells.toList = w4; intro HD4))
          go_roundw
          case rel => exact ⟨i + 1, j + 1, by go_num, by go_num, by omega, by omega, HD4⟩
          case measure => simp [intOf]; omega
        · rw [hb] at hq
          have HQ := Lib.hid hq
          have HB' := Lib.hid hb
          clear hq hb
          go_wp2_with (first
            | (refine wpList_load_mid rfl 40 (.tmp 24) rfl g _ rfl (rcl r) _ hr.out Try.underlying40 rfl HI.out ?_)
            | (refine wpList_store_boxed rfl 40 (.tmp 7) (.tmp 25) rfl 40 _ r.cells rfl rfl HI.out rfl (rec_one r) ?_; intro w2 hY g2 hs2; have HY2 := Lib.hid hY; have HD2 := Lib.hid (HD.out.keep (grown_none g2 (Below.refl _ _) (Nat.le_refl _))); clear hY g2 hs2)
            | (refine wpList_load_row rfl 40 (.tmp 7) rfl wr.heap.size rfl 40 r.cells (0, 0) _ HY2.out Try.underlying40 rfl HI.out ?_)
            | (go_at_call 12; refine (HQ.out _).mono ?_; rintro e w3 ⟨rfl, B3⟩; have HD3 := Lib.hid (HSK.out _ (HD2.out.keep B3) HB'.out); clear B3))
          go_roundw
          case rel => exact ⟨i, j + 1, rfl, by go_num, by omega, by omega, HD3⟩
          case measure => simp [intOf]; omega
      · obtain rfl : j = rs.length := by omega
        have HEND := Lib.hid (fun Z => HD.out.ends Z)
        have hcl : ∀ ty, (Builtin.clear_ #[24] ty #[.slice (some ⟨g, i * 12, none⟩) (rs.length - i) (c - i)]).run Try.prog wr = .ok (.tuple #[]) (wr.setCells g (i * 12) (Builtin.zeroCells _ (rs.length - i)).toList) := fun ty => run_clear_structs wr 24 40 ty _ Try.underlying24 HZ.out (by intro v hv; simp only [Value.cells, List.mem_toArray, List.mem_cons, List.not_mem_nil, or_false] at hv; rcases hv with rfl | rfl | rfl | rfl | rfl | rfl | rfl | rfl | rfl | rfl | rfl | rfl <;> rfl) g (i * 12) (rs.length - i) (c - i) (by omega) (by
          obtain ⟨cur, h1, h2⟩ := HD.out.has
          refine has_there h1 ?_
          show i * 12 + (rs.length - i) * 12 ≤ _
          have := HD.out.lt
          omega) (by show 0 < 12; omega)
        have hend := HEND.out (Builtin.zeroCells (Value.cells (.agg #[.string ⟨#[]⟩, .int .u16 0, .int .u16 0, .int .u32 0, .string ⟨#[]⟩, .string ⟨#[]⟩, .string ⟨#[]⟩, .int .u32 0, .int .u32 0, .int .u32 0, .int .u32 0, .int .u32 0])) (rs.length - i)).toList
        have hcp := HD.out.lt
        have i2 : (i : Int) ≤ (c : Int) := by omega
        obtain ⟨W9, hW9⟩ : ∃ W9, wr.setCells g (i * 12) (Builtin.zeroCells (Value.cells (.agg #[.string ⟨#[]⟩, .int .u16 0, .int .u16 0, .int .u32 0, .string ⟨#[]⟩, .string ⟨#[]⟩, .string ⟨#[]⟩, .int .u32 0, .int .u32 0, .int .u32 0, .int .u32 0, .int .u32 0])) (rs.length - i)).toList = W9 := ⟨_, rfl⟩
        rw [hW9] at hcl hend
        have HE := Lib.hid hend
        clear hend hW9
        go_wp2
        go_ret
        exact ⟨_, rfl, HE.out.1, HE.out.2⟩
end Go.Proofs.Ytapbcepjcnnkgab
