/- Texts of the proofs, merged. -/
import Derived.Test.YtpinhpnmnfcdoaaDoorG9
import Derived.Test.YtpinhpnmnfcdoaaDoorG3
import Derived.Laws.AppendOwnNone
import Derived.Test.YtpinhpnmnfcdoaaDoorG8
import Derived.Test.YtpinhpnmnfcdoaaDoorG4
import Derived.Test.YtpinhpnmnfcdoaaDoorG6
import Derived.OrdersHeld
import Derived.Deep.RegionHeld
import Derived.Test.YtpinhpnmnfcdoaaDoorG2
import Derived.MapKept
import Derived.Laws.StructEq
import Derived.Lib.AppendStr
import Derived.Test.YtpinhpnmnfcdoaaDoorG5
/- Of, Labels, Parent, Last, Under, Join, Wild: the document's answers. -/
namespace Go.Proofs.YtpinhpnmnfcdoaaDoor
open Go.RowKit

theorem any_take_false {ls : List (List UInt8)} {k : Nat} (h : (ls.take k).any badL = false) (hk : k < ls.length) (hg : 1 ≤ ls[k].length ∧ ls[k].length ≤ 63) : (ls.take (k + 1)).any badL = false := by
  rw [List.take_succ_eq_append_getElem hk, List.any_append, h]; simp [badL, good_true hg]
theorem any_bad {ls : List (List UInt8)} {k : Nat} (hk : k < ls.length) (hg : ¬ (1 ≤ ls[k].length ∧ ls[k].length ≤ 63)) : ls.any badL = true :=
  List.any_eq_true.2 ⟨_, List.getElem_mem hk, by simp [badL, good_false hg]⟩
theorem good_of_any {ls : List (List UInt8)} (h : ls.any badL = false) : Nm.Good ls := fun l hl => by
  by_cases hg : 1 ≤ l.length ∧ l.length ≤ 63
  · exact hg
  · have hb : badL l = true := by simp [badL, good_false hg]
    rw [List.any_eq_true.2 ⟨l, hl, hb⟩] at h
    cases h
theorem ofR_ok {ls : List (List UInt8)} (h : ls.any badL = false) : ofR ls = nameR ls := by unfold ofR; rw [h]; rfl
theorem nameR_long {ls : List (List UInt8)} (h : 255 < (Nm.body ls).length + 1) : nameR ls = .tuple #[.string ⟨#[]⟩, .int .i64 2] := by unfold nameR; rw [if_pos h]
theorem nameR_short {ls : List (List UInt8)} (h : ¬ 255 < (Nm.body ls).length + 1) : nameR ls = .tuple #[sv (Nm.glue ls), .int .i64 0] := by unfold nameR; rw [if_neg h]
theorem body_mono {ls : List (List UInt8)} (k : Nat) : (Nm.body (ls.take k)).length ≤ (Nm.body ls).length := Nm.body_take_le

theorem own_drop {w : World} {b n g c m : Nat} {e : TypeId} {ls : List (List UInt8)} (h : w.ownsRow b e 1 (.slice (some ⟨g, 0, none⟩) n c) n (svs ls)) (hn : n = ls.length) (hm : m ≤ n) :
    Rd w w.heap.size (.slice (some ⟨g, m, none⟩) (n - m) (c - m)) (ls.drop m) ∧ (c = m → Rd w w.heap.size (.slice (some ⟨g, 0, none⟩) (n - m) 0) (ls.drop m)) := by
  subst hn
  have hg : g < w.heap.size := (h.lt g rfl).2
  have hc : ls.length ≤ c := by
    rcases h.2 with ⟨hv, _⟩ | ⟨g', cap, cur, hv, _, _, hc, _⟩
    · simp at hv
    · injection hv with _ _ h3; omega
  constructor
  · refine ⟨_, _, by rw [List.length_drop], by rw [List.length_drop]; omega, fun _ => ⟨g, m, rfl, hg, fun j hj => ?_⟩⟩
    rw [List.length_drop] at hj
    exact own_cells h (m + j) _ (by simp [svs, show m + j < ls.length by omega])
  · intro he
    refine ⟨_, _, by rw [List.length_drop], by rw [List.length_drop]; omega, fun h0 => ?_⟩
    rw [List.length_drop] at h0; omega

theorem own_cut {w : World} {b n c d m : Nat} {e : TypeId} {ad : Option Addr} {ls : List (List UInt8)} (h : w.ownsRow b e 1 (.slice ad n c) n (svs ls)) (hl : ls.length = n) (hn : n = d + m) :
    Rd w w.heap.size (.slice (ad.map (·.add d)) m (c - d)) (ls.drop d) ∧ (c = d → Rd w w.heap.size (.slice ad m 0) (ls.drop d)) := by
  subst hl
  have hdl : (ls.drop d).length = m := by rw [List.length_drop]; omega
  rcases Nat.eq_zero_or_pos ls.length with h0 | h0
  · have hm : m = 0 := by omega
    subst hm
    exact ⟨⟨_, _, by rw [hdl], by omega, fun h => by omega⟩, fun _ => ⟨_, _, by rw [hdl], by omega, fun h => by omega⟩⟩
  · obtain ⟨g, rfl, hc, _⟩ := own_at h h0
    have h1 := own_drop h rfl (m := d) (by omega)
    have e : ls.length - d = m := by omega
    rw [e] at h1
    refine ⟨?_, h1.2⟩
    have : (⟨g, 0, none⟩ : Addr).add d = ⟨g, d, none⟩ := by unfold Addr.add; split <;> simp_all
    simp only [Option.map_some, this]
    exact h1.1

abbrev yes_ (l : List UInt8) : Value := .tuple #[sv l, .bool true]
abbrev no_ : Value := .tuple #[.string ⟨#[]⟩, .bool false]
/-- the last k labels, if there are so many. -/
def lastR (l : List UInt8) (k : Int) : Value := match Nm.split l with
  | none => no_
  | some ls => if k < 0 ∨ (ls.length : Int) < k then no_ else yes_ (Nm.glue (ls.drop (ls.length - k.toNat)))
def parentR (l : List UInt8) : Value := match labelsOf l with
  | [] => no_
  | _ :: r => yes_ (Nm.glue r)

end Go.Proofs.YtpinhpnmnfcdoaaDoor
/- Alike, Under, Join, Wild, text: the document's answers. -/
namespace Go.Proofs.YtpinhpnmnfcdoaaDoor
open Go.RowKit

section
variable {P : Program} {w : World}
/-- strings that are read are put behind a row. -/
theorem wpList_append_rd {ops : Array Oper} {rest : List Oper} {o : Oper} {a : Act} {Q : Exit → Act → World → Prop} (hgd : o.guard = none) (s x : Operand) (t : TypeId)
    (ho : o.op = .call { callee := .builtin .append, args := #[s, x], argTypes := #[t, t] })
    (base : Nat) (e : TypeId) (i : TypeInfo) (z : Value) (ht : P.underlying t = some (.slice e)) (hi : P.info? e = some i) (hz : i.zero = some z)
    (hsize : i.size = 1) (hby : i.bytes = 16) (hzs : z.cells.size = 1)
    (v : Value) (n : Nat) (xs : List Value) (hs : a.eval s = v) (hown : w.ownsRow base e 1 v n xs)
    (B : Nat) (vs : Value) (ls : List (List UInt8)) (hx : a.eval x = vs) (hr : Rd w B vs ls) (hnil : ls = [] → ∃ A c, vs = .slice A 0 c ∧ (A = none → c = 0))
    (h63 : (n + ls.length) * 16 ≤ 140737488355328) (hbase : base ≤ w.heap.size)
    (h : ∀ v' w', w'.ownsRow base e 1 v' (n + ls.length) (xs ++ svs ls) → w.grownBy w' v.ownBlock → wpList P ops Q rest (a.put o.dst v') w') : wpList P ops Q (o :: rest) a w := by
  obtain ⟨A, c, rfl, hc, hcell⟩ := hr
  rcases A with _ | ad
  · have h0 : ls.length = 0 := by
      rcases Nat.eq_zero_or_pos ls.length with h0 | h0
      · exact h0
      · obtain ⟨g, o, hh, _⟩ := hcell h0; cases hh
    have hl : ls = [] := List.eq_nil_of_length_eq_zero h0
    subst hl
    obtain ⟨A, c', e1, e2⟩ := hnil rfl
    injection e1 with e3 _ e4
    subst e4 e3
    have := e2 rfl
    subst this
    exact wpList_append_own_none hgd s x t ho base e i 1 ht hi v n xs hs hown hx (h _ _ (by simpa [svs] using hown) (World.grownBy.refl w _))
  · refine wpList_append_own w hgd s x t ho base e i z 1 16 ht hi hz hsize hby hzs (by decide) v n xs hs hown ad ls.length c (svs ls) hx (by simp [svs]) ?_ ?_ (by unfold maxLen; omega) h63 hbase (fun v' w' a b _ => h v' w' a b)
    · intro j u hu
      have hj : j < ls.length := by
        have := (List.getElem?_eq_some_iff.1 hu).1
        simpa [svs] using this
      obtain ⟨g, o, hh, _, hce⟩ := hcell (by omega)
      injection hh with hh
      subst hh
      have e1 : (⟨g, o, none⟩ : Addr).add j = ⟨g, o + j, none⟩ := by unfold Addr.add; split <;> simp_all
      rw [e1, hce j hj]
      simp [svs, hj] at hu
      rw [← hu]
    · intro u hu
      simp [svs] at hu
      obtain ⟨l, _, rfl⟩ := hu
      rfl
end
theorem own_nil {w : World} {b n : Nat} {e : TypeId} {v : Value} {ls : List (List UInt8)} (h : w.ownsRow b e 1 v n (svs ls)) (hl : n = ls.length) : ls = [] → ∃ A c, v = .slice A 0 c ∧ (A = none → c = 0) := by
  rintro rfl
  subst hl
  rcases h.2 with ⟨rfl, _⟩ | ⟨g, cap, cur, rfl, _⟩
  · exact ⟨none, 0, rfl, fun _ => rfl⟩
  · exact ⟨_, _, rfl, fun h => by cases h⟩

def joinR (f b : List UInt8) : Value := match Nm.split f, Nm.split b with
  | some x, some y => nameR (x ++ y)
  | _, _ => .tuple #[.string ⟨#[]⟩, .int .i64 11]
theorem any_of_good {ls : List (List UInt8)} (h : Nm.Good ls) : ls.any badL = false := List.any_eq_false.2 fun l hl => by simp [badL, good_true (h l hl)]
theorem good_app {a b : List (List UInt8)} (h : Nm.Good a) (k : Nm.Good b) : Nm.Good (a ++ b) := fun l hl => (List.mem_append.1 hl).elim (h l) (k l)

def OfPost (w : World) (ls : List (List UInt8)) (e : Ending) (w' : World) : Prop := ∃ x y, e = .returned (.tuple #[x, y]) ∧ ofR ls = .tuple #[x, y] ∧ Below w.heap.size w w'
theorem ofR_form (ls : List (List UInt8)) : ∃ x y, ofR ls = .tuple #[x, y] := by
  unfold ofR nameR
  split
  · exact ⟨_, _, rfl⟩
  · split <;> exact ⟨_, _, rfl⟩
end Go.Proofs.YtpinhpnmnfcdoaaDoor
/- Show: the program's, any type; what bytes are told by is handed in. -/
namespace Go.Proofs.YtpinhpnmnfcdoaaDoor
open Go.RowKit

/-- the tables are as their initialisers lay them. -/
def cells64 : Array Value := #[.int .u8 0, .int .u8 1, .int .u8 56, .int .u8 2, .int .u8 57, .int .u8 49, .int .u8 28, .int .u8 3, .int .u8 61, .int .u8 58, .int .u8 42, .int .u8 50, .int .u8 38, .int .u8 29, .int .u8 17, .int .u8 4, .int .u8 62, .int .u8 47, .int .u8 59, .int .u8 36, .int .u8 45, .int .u8 43, .int .u8 51, .int .u8 22, .int .u8 53, .int .u8 39, .int .u8 33, .int .u8 30, .int .u8 24, .int .u8 18, .int .u8 12, .int .u8 5, .int .u8 63, .int .u8 55, .int .u8 48, .int .u8 27, .int .u8 60, .int .u8 41, .int .u8 37, .int .u8 16, .int .u8 46, .int .u8 35, .int .u8 44, .int .u8 21, .int .u8 52, .int .u8 32, .int .u8 23, .int .u8 11, .int .u8 54, .int .u8 26, .int .u8 40, .int .u8 15, .int .u8 34, .int .u8 20, .int .u8 31, .int .u8 10, .int .u8 25, .int .u8 14, .int .u8 19, .int .u8 9, .int .u8 13, .int .u8 8, .int .u8 7, .int .u8 6]
def LayD (w : World) : Prop := ∃ t, Has w 6 t cells64
theorem LayD.below {w w' : World} {B : Nat} (h : LayD w) (hb : Below B w w') (hB : w.heap.size ≤ B) : LayD w' := h.elim fun t h => ⟨t, h.below hb (Nat.lt_of_lt_of_le h.lt hB)⟩
def LayA (w : World) : Prop := LayR w ∧ LayP w ∧ LayD w
theorem LayA.below {w w' : World} {B : Nat} (h : LayA w) (hb : Below B w w') (hB : w.heap.size ≤ B) : LayA w' := ⟨h.1.below hb hB, h.2.1.below hb hB, h.2.2.below hb hB⟩
theorem nil_form {W : World} {b : Nat} {v : Value} {xs : List (List UInt8)} (h : W.ownsRow b 9 1 v xs.length (svs xs)) (e : xs = []) : ∃ A c, v = .slice A 0 c ∧ (A = none → c = 0) := by
  subst e
  rcases h.2 with ⟨rfl, _⟩ | ⟨g, cap, cur, rfl, _⟩
  · exact ⟨none, 0, rfl, fun _ => rfl⟩
  · exact ⟨_, _, rfl, fun e => by cases e⟩
/-- what bytes are told by: one word, or several. -/
def OneW (f : FuncId) (r : ByteArray) (x : List UInt8) : Prop := ∀ W : World, LayA W → Calls Tryd.prog f #[.string r] W fun e w' => e = .returned (sv x) ∧ Below W.heap.size W w'
def ManyW (f : FuncId) (r : ByteArray) (xs : List (List UInt8)) : Prop := ∀ W : World, LayA W → Calls Tryd.prog f #[.string r] W fun e w' => ∃ v, e = .returned v ∧ w'.ownsRow W.heap.size 9 1 v xs.length (svs xs) ∧ Below W.heap.size W w'
theorem rd_hasN3 (d : Dv) {n : Nat} (h : n < 5) : Rd.hasN d.dt n = d.n n := by
  rcases (by omega : n = 0 ∨ n = 1 ∨ n = 2 ∨ n = 3 ∨ n = 4) with rfl | rfl | rfl | rfl | rfl <;> rfl
theorem wds_len {d : Rd.Dt} {X : Nat → List (List UInt8)} (h : ∀ p, (X p).length ≤ 100000) (t k : Nat) : (Rd.wds d X ((Rd.parts t).take k)).1.length ≤ 100001 * k := by
  induction k with
  | zero => simp [Rd.wds]
  | succ k ih =>
    by_cases hk : k < (Rd.parts t).length
    · rw [List.take_succ_eq_append_getElem hk, Rd.wds_snoc, List.length_append]
      have := Rd.pcs_len (d := d) (n := Rd.nums ((Rd.parts t).take k)) (p := (Rd.parts t)[k]) h
      omega
    · rw [List.take_of_length_le (by omega)]
      rw [List.take_of_length_le (by omega)] at ih
      omega
theorem join_words {W : World} {b g cp : Nat} {ws : List (List UInt8)} (h : W.ownsRow b 9 1 (.slice (some ⟨g, 0, none⟩) ws.length cp) ws.length (svs ws)) (hg : g < W.heap.size) (hc : ws.length ≤ cp) (hl : ws.length ≤ 140737488355328) (hj : (Lib.join ws [32]).length ≤ 140737488355328) :
    Calls Tryd.prog 37 #[.slice (some ⟨g, 0, none⟩) ws.length cp, .string ⟨#[32]⟩] W fun e w' => e = .returned (sv (Lib.join ws [32])) ∧ Below W.heap.size W w' := by
  have hm : (ws.map fun l => (⟨l.toArray⟩ : ByteArray)).map (·.data.toList) = ws := by
    rw [List.map_map]
    exact (List.map_congr_left (fun _ _ => rfl)).trans (List.map_id _)
  have := Tryd.strings_Join g 0 cp (ws.map fun l => (⟨l.toArray⟩ : ByteArray)) ⟨#[32]⟩ W (fun j x hx => by
    have hj2 : j < ws.length := by have := (List.getElem?_eq_some_iff.1 hx).1; simpa using this
    rw [Nat.zero_add]
    have hx2 : x = ⟨(ws[j]).toArray⟩ := by simp [hj2] at hx; exact hx.symm
    rw [hx2]
    exact own_cells h j _ (by simp [svs, hj2])) hg (by simpa using hl) (by simpa using hc) (by rw [hm]; exact hj)
  rw [hm, List.length_map] at this
  exact this
set_option maxHeartbeats 8000000 in
set_option maxRecDepth 100000 in
theorem pdShow_loop (t : Nat) (d : Dv) (X : Nat → List (List UInt8)) (w : World) (ht : t ≤ 65535) (hL : LayA w) (hf : d.fits) (hh : d.host.size ≤ 140737488355328) (hm : d.mail.size ≤ 140737488355328)
    (hck : ∀ W : World, LayR W → Calls Tryd.prog 20 #[.int .u16 t, .agg d.cells] W fun e w' => e = .returned (.int .i64 0) ∧ Below W.heap.size W w')
    (h1 : 1 ∈ Rd.parts t → ∃ x, X 1 = [x] ∧ OneW 31 d.raw x) (h2 : 2 ∈ Rd.parts t → ∃ x, X 2 = [x] ∧ OneW 32 d.raw x)
    (h3 : 3 ∈ Rd.parts t → ManyW 33 d.raw (X 3)) (h4 : 4 ∈ Rd.parts t → ManyW 34 d.raw (X 4))
    (hXl : ∀ p, (X p).length ≤ 100000) (hne : (Rd.wds d.dt X (Rd.parts t)).1 ≠ []) (hjl : (Lib.join (Rd.wds d.dt X (Rd.parts t)).1 [32]).length ≤ 140737488355328) :
    Calls Tryd.prog 19 #[.int .u16 t, d.val] w fun e W' => e = .returned (.tuple #[sv (Lib.join (Rd.wds d.dt X (Rd.parts t)).1 [32]), .int .i64 0]) ∧ Below w.heap.size w W' := by
  obtain ⟨i0, hi, hz0, hz1, hz2⟩ := info_parts Tryd.infoString
  obtain ⟨R, hR⟩ : ∃ R, Lib.join (Rd.wds d.dt X (Rd.parts t)).1 [32] = R := ⟨_, rfl⟩
  rw [hR]
  have HRES := Lib.hid hR
  clear hR
  have HLw0 := Lib.hid hL
  have HCK := Lib.hid hck
  have HF := Lib.hid hf
  have H1 := Lib.hid h1
  have H2 := Lib.hid h2
  have H3 := Lib.hid h3
  have H4 := Lib.hid h4
  have HXL := Lib.hid hXl
  have HNE := Lib.hid hne
  have HJL := Lib.hid hjl
  have hX0 : Has (w.alloc (.cells d.cells 51)) w.heap.size 51 d.cells := Has.fresh w _ _
  have hB0 : Below w.heap.size w (w.alloc (.cells d.cells 51)) := (Below.refl _ _).alloc (Nat.le_refl _) _
  have HL0 := Lib.hid (hL.1.below hB0 (Nat.le_refl _))
  have hi8 : (Tryd.prog.info? 51).map (·.size) = some 8 := by kernel_rfl
  have HI := Lib.hid hi8
  have HX0 := Lib.hid hX0
  have HB0 := Lib.hid hB0
  have HPO : ∀ W : World, LayR W → Hid (Calls Tryd.prog 25 #[.int .u16 t] W fun e w' => e = .returned (.agg (partC t)) ∧ Below W.heap.size W w') := fun W h => partsOf_any t W ht h
  have hval : d.val = .agg d.cells := rfl
  clear hL hck hf hi8 hX0 hB0 h1 h2 h3 h4 hXl hne hjl
  go_enter Tryd.func19, Tryd.ntmps19
  go_wp2_with (first
    | (refine wpList_load_row rfl 51 (.tmp 3) rfl w.heap.size rfl 51 d.cells (0, 0) _ HX0.out Tryd.underlying51 rfl HI.out ?_)
    | (go_at_call 20; refine (HCK.out _ HL0.out).mono ?_; rintro e wc ⟨rfl, B1⟩; replace HX0 := Lib.hid (HX0.out.below B1 HX0.out.lt); replace HB0 := Lib.hid (HB0.out.trans (B1.mono HB0.out.size)); replace HL0 := Lib.hid (HLw0.out.1.below HB0.out (Nat.le_refl _)); clear B1)
    | (go_at_call 25; refine (HPO _ HL0.out).out.mono ?_; rintro e w1 ⟨rfl, B2⟩; replace HX0 := Lib.hid (HX0.out.below B2 HX0.out.lt); replace HB0 := Lib.hid (HB0.out.trans (B2.mono HB0.out.size)); clear B2 HL0))
  have HLw : Hid (LayA w1) := HLw0.out.below HB0.out (Nat.le_refl _)
  have hsw := HX0.out.lt
  go_loopw [7, 8, 19] (fun v nn i wr => ∃ k : Nat, i = .int .i64 k ∧ k ≤ 7 ∧ nn = .int .i64 (Rd.nums ((Rd.parts t).take k) : Nat) ∧ Hid (wr.ownsRow w1.heap.size 9 1 v (Rd.wds d.dt X ((Rd.parts t).take k)).1.length (svs (Rd.wds d.dt X ((Rd.parts t).take k)).1)) ∧ Hid (Below w1.heap.size w1 wr)) (fun _ _ i _ => 7 - (intOf i).toNat)
  case atStart => exact ⟨0, rfl, by omega, by simp [Rd.nums], World.ownsRow_nil _ _ _ _, Below.refl _ _⟩
  case round =>
    obtain ⟨k, rfl, hk, rfl, HO, HB⟩ := hrel
    have hbs := HB.out.size
    by_cases hlt : k < 7
    · have hkl : k < (Rd.parts t).length := by rw [Rd.parts_len]; exact hlt
      have hix := part_at hkl
      have hp9 : (Rd.parts t)[k] ≤ 9 := Rd.parts_lt t _ (List.getElem_mem hkl)
      have htk : (Rd.parts t).take (k + 1) = (Rd.parts t).take k ++ [(Rd.parts t)[k]] := List.take_succ_eq_append_getElem hkl
      have hn5 : Rd.nums ((Rd.parts t).take (k + 1)) ≤ 5 := Rd.nums_le
      have hmem : (Rd.parts t)[k] ∈ Rd.parts t := List.getElem_mem hkl
      have hwl : (Rd.wds d.dt X ((Rd.parts t).take k)).1.length ≤ 100001 * k := wds_len HXL.out t k
      rw [htk] at hn5
      have HTK := Lib.hid htk
      have HME := Lib.hid hmem
      have H4D := Lib.hid (HX0.out.below HB.out (by omega))
      clear htk hmem
      generalize (Rd.parts t)[k] = p at *
      generalize (Rd.parts t).take k = ps at *
      obtain ⟨q, hq⟩ : ∃ q : Int, ((p : Nat) : Int) = q := ⟨_, rfl⟩
      rw [hq] at hix
      have HQ := Lib.hid hq
      clear hq
      obtain ⟨ad, cp, hv⟩ := own_form HO.out
      subst hv
      have cr := dv_raw H4D.out
      have ch := dv_host H4D.out
      have cm := dv_mail H4D.out
      by_cases p0 : p = 0
      · subst p0
        obtain rfl : q = 0 := HQ.out.symm
        go_wp2
        go_roundw
        case rel => exact ⟨k + 1, by go_num, by omega, by rw [HTK.out, Rd.nums_snoc]; rfl, by rw [HTK.out, Rd.wds_snoc]; show World.ownsRow _ _ _ _ _ (_ ++ []).length (svs (_ ++ [])); rw [List.append_nil]; exact HO, HB⟩
        case measure => simp [intOf]; omega
      by_cases p1 : p = 1
      · subst p1
        obtain rfl : q = 1 := HQ.out.symm
        have HNU : Hid (Rd.nums (ps ++ [1]) = Rd.nums ps) := by rw [Hid, Rd.nums_snoc, if_neg (by omega)]; rfl
        obtain ⟨x, hx, hone⟩ := H1.out HME.out
        have HPC : Hid (Rd.pcs d.dt X (Rd.nums ps) 1 = [x]) := (Rd.pcs_raw (by omega) (by omega)).trans hx
        have HON := Lib.hid hone
        clear hx hone
        go_wp2_with (first
          | (go_at_call 31; refine (HON.out _ (HLw.out.below HB.out (Nat.le_refl _))).mono ?_; rintro e w2 ⟨rfl, B2⟩; have HB2 := Lib.hid (HB.out.trans (B2.mono hbs)); have HO2 := Lib.hid (own_below HO.out B2 (Nat.le_refl _)); have hs2 := B2.size; clear B2)
          | (at_builtin; refine wpList_append_own _ rfl (.tmp 25) (.tmp 29) _ rfl w1.heap.size 9 i0 _ 1 16 Tryd.underlying40 hi hz0 hz1 hz2 rfl (by decide) _ _ (svs (Rd.wds d.dt X ps).1) rfl (HO2.out.alloc _) ⟨w2.heap.size, 0, none⟩ 1 1 [sv x] rfl rfl ?c1 ?c2 ?c3 ?c4 ?c5 (fun v' w4 hown1 hg1 _ => ?_)))
        case c1 => exact cell_one_new _ _ _
        case c2 => simp [Value.oneCell']
        case c3 => unfold maxLen; omega
        case c4 => omega
        case c5 => simp; omega
        go_roundw
        case rel => exact ⟨k + 1, by go_num, by omega, by rw [HTK.out, HNU.out], by rw [HTK.out, Rd.wds_snoc, HPC.out, List.length_append, svs_append]; exact hown1, (HB2.out.alloc (by omega) _).grown hg1 (by simp; omega) (fun j hj => (HO2.out.lt j hj).1)⟩
        case measure => simp [intOf]; omega
      by_cases p2 : p = 2
      · subst p2
        obtain rfl : q = 2 := HQ.out.symm
        have HNU : Hid (Rd.nums (ps ++ [2]) = Rd.nums ps) := by rw [Hid, Rd.nums_snoc, if_neg (by omega)]; rfl
        obtain ⟨x, hx, hone⟩ := H2.out HME.out
        have HPC : Hid (Rd.pcs d.dt X (Rd.nums ps) 2 = [x]) := (Rd.pcs_raw (by omega) (by omega)).trans hx
        have HON := Lib.hid hone
        clear hx hone
        go_wp2_with (first
          | (go_at_call 32; refine (HON.out _ (HLw.out.below HB.out (Nat.le_refl _))).mono ?_; rintro e w2 ⟨rfl, B2⟩; have HB2 := Lib.hid (HB.out.trans (B2.mono hbs)); have HO2 := Lib.hid (own_below HO.out B2 (Nat.le_refl _)); have hs2 := B2.size; clear B2)
          | (at_builtin; refine wpList_append_own _ rfl (.tmp 33) (.tmp 37) _ rfl w1.heap.size 9 i0 _ 1 16 Tryd.underlying40 hi hz0 hz1 hz2 rfl (by decide) _ _ (svs (Rd.wds d.dt X ps).1) rfl (HO2.out.alloc _) ⟨w2.heap.size, 0, none⟩ 1 1 [sv x] rfl rfl ?c1 ?c2 ?c3 ?c4 ?c5 (fun v' w4 hown1 hg1 _ => ?_)))
        case c1 => exact cell_one_new _ _ _
        case c2 => simp [Value.oneCell']
        case c3 => unfold maxLen; omega
        case c4 => omega
        case c5 => simp; omega
        go_roundw
        case rel => exact ⟨k + 1, by go_num, by omega, by rw [HTK.out, HNU.out], by rw [HTK.out, Rd.wds_snoc, HPC.out, List.length_append, svs_append]; exact hown1, (HB2.out.alloc (by omega) _).grown hg1 (by simp; omega) (fun j hj => (HO2.out.lt j hj).1)⟩
        case measure => simp [intOf]; omega
      by_cases p3 : p = 3
      · subst p3
        obtain rfl : q = 3 := HQ.out.symm
        have HNU : Hid (Rd.nums (ps ++ [3]) = Rd.nums ps) := by rw [Hid, Rd.nums_snoc, if_neg (by omega)]; rfl
        have HON := Lib.hid (H3.out HME.out)
        have HPC : Hid (Rd.pcs d.dt X (Rd.nums ps) 3 = X 3) := Rd.pcs_raw (by omega) (by omega)
        have hxl := HXL.out 3
        go_wp2_with (first
          | (go_at_call 33; refine (HON.out _ (HLw.out.below (HB.out) (Nat.le_refl _))).mono ?_; rintro e w2 ⟨v2, rfl, O2, B2⟩; have HB2 := Lib.hid (HB.out.trans (B2.mono hbs)); have HO2 := Lib.hid (own_below HO.out B2 (Nat.le_refl _)); have hs2 := B2.size; clear B2; have HV2 := Lib.hid O2; have HRD := Lib.hid (Rd.of_own O2); clear O2)
          | (at_builtin; refine wpList_append_rd rfl (.tmp 41) (.tmp 44) _ rfl w1.heap.size 9 i0 _ Tryd.underlying40 hi hz0 hz1 hz2 rfl _ _ (svs (Rd.wds d.dt X ps).1) rfl HO2.out w2.heap.size v2 (X 3) rfl HRD.out (fun e => nil_form HV2.out e) (by omega) (by omega) (fun v' w4 hown1 hg1 => ?_)))
        go_roundw
        case rel => exact ⟨k + 1, by go_num, by omega, by rw [HTK.out, HNU.out], by rw [HTK.out, Rd.wds_snoc, HPC.out, List.length_append, svs_append]; exact hown1, HB2.out.grown hg1 (by omega) (fun j hj => (HO2.out.lt j hj).1)⟩
        case measure => simp [intOf]; omega
      by_cases p4 : p = 4
      · subst p4
        obtain rfl : q = 4 := HQ.out.symm
        have HNU : Hid (Rd.nums (ps ++ [4]) = Rd.nums ps) := by rw [Hid, Rd.nums_snoc, if_neg (by omega)]; rfl
        have HON := Lib.hid (H4.out HME.out)
        have HPC : Hid (Rd.pcs d.dt X (Rd.nums ps) 4 = X 4) := Rd.pcs_raw (by omega) (by omega)
        have hxl := HXL.out 4
        go_wp2_with (first
          | (go_at_call 34; refine (HON.out _ (HLw.out.below (HB.out) (Nat.le_refl _))).mono ?_; rintro e w2 ⟨v2, rfl, O2, B2⟩; have HB2 := Lib.hid (HB.out.trans (B2.mono hbs)); have HO2 := Lib.hid (own_below HO.out B2 (Nat.le_refl _)); have hs2 := B2.size; clear B2; have HV2 := Lib.hid O2; have HRD := Lib.hid (Rd.of_own O2); clear O2)
          | (at_builtin; refine wpList_append_rd rfl (.tmp 48) (.tmp 51) _ rfl w1.heap.size 9 i0 _ Tryd.underlying40 hi hz0 hz1 hz2 rfl _ _ (svs (Rd.wds d.dt X ps).1) rfl HO2.out w2.heap.size v2 (X 4) rfl HRD.out (fun e => nil_form HV2.out e) (by omega) (by omega) (fun v' w4 hown1 hg1 => ?_)))
        go_roundw
        case rel => exact ⟨k + 1, by go_num, by omega, by rw [HTK.out, HNU.out], by rw [HTK.out, Rd.wds_snoc, HPC.out, List.length_append, svs_append]; exact hown1, HB2.out.grown hg1 (by omega) (fun j hj => (HO2.out.lt j hj).1)⟩
        case measure => simp [intOf]; omega
      by_cases p5 : p = 5
      · subst p5
        obtain rfl : q = 5 := HQ.out.symm
        have HNU : Hid (Rd.nums (ps ++ [5]) = Rd.nums ps) := by rw [Hid, Rd.nums_snoc, if_neg (by omega)]; rfl
        obtain ⟨x, hx⟩ : ∃ x, Nm.text d.host.data.toList = x := ⟨_, rfl⟩
        have HPC : Hid (Rd.pcs d.dt X (Rd.nums ps) 5 = [x]) := by rw [← hx]; rfl
        have HON := Lib.hid (fun W : World => Text_any d.host W hh)
        rw [hx] at HON
        clear hx
        go_wp2_with (first
          | (go_at_call 35; refine (HON.out _).mono ?_; rintro e w2 ⟨rfl, B2⟩; have HB2 := Lib.hid (HB.out.trans (B2.mono hbs)); have HO2 := Lib.hid (own_below HO.out B2 (Nat.le_refl _)); have hs2 := B2.size; clear B2)
          | (at_builtin; refine wpList_append_own _ rfl (.tmp 56) (.tmp 60) _ rfl w1.heap.size 9 i0 _ 1 16 Tryd.underlying40 hi hz0 hz1 hz2 rfl (by decide) _ _ (svs (Rd.wds d.dt X ps).1) rfl (HO2.out.alloc _) ⟨w2.heap.size, 0, none⟩ 1 1 [sv x] rfl rfl ?c1 ?c2 ?c3 ?c4 ?c5 (fun v' w4 hown1 hg1 _ => ?_)))
        case c1 => exact cell_one_new _ _ _
        case c2 => simp [Value.oneCell']
        case c3 => unfold maxLen; omega
        case c4 => omega
        case c5 => simp; omega
        go_roundw
        case rel => exact ⟨k + 1, by go_num, by omega, by rw [HTK.out, HNU.out], by rw [HTK.out, Rd.wds_snoc, HPC.out, List.length_append, svs_append]; exact hown1, (HB2.out.alloc (by omega) _).grown hg1 (by simp; omega) (fun j hj => (HO2.out.lt j hj).1)⟩
        case measure => simp [intOf]; omega
      by_cases p6 : p = 6
      · subst p6
        obtain rfl : q = 6 := HQ.out.symm
        have HNU : Hid (Rd.nums (ps ++ [6]) = Rd.nums ps) := by rw [Hid, Rd.nums_snoc, if_neg (by omega)]; rfl
        obtain ⟨x, hx⟩ : ∃ x, Nm.text d.host.data.toList = x := ⟨_, rfl⟩
        have HPC : Hid (Rd.pcs d.dt X (Rd.nums ps) 6 = [x]) := by rw [← hx]; rfl
        have HON := Lib.hid (fun W : World => Text_any d.host W hh)
        rw [hx] at HON
        clear hx
        go_wp2_with (first
          | (go_at_call 35; refine (HON.out _).mono ?_; rintro e w2 ⟨rfl, B2⟩; have HB2 := Lib.hid (HB.out.trans (B2.mono hbs)); have HO2 := Lib.hid (own_below HO.out B2 (Nat.le_refl _)); have hs2 := B2.size; clear B2)
          | (at_builtin; refine wpList_append_own _ rfl (.tmp 56) (.tmp 60) _ rfl w1.heap.size 9 i0 _ 1 16 Tryd.underlying40 hi hz0 hz1 hz2 rfl (by decide) _ _ (svs (Rd.wds d.dt X ps).1) rfl (HO2.out.alloc _) ⟨w2.heap.size, 0, none⟩ 1 1 [sv x] rfl rfl ?c1 ?c2 ?c3 ?c4 ?c5 (fun v' w4 hown1 hg1 _ => ?_)))
        case c1 => exact cell_one_new _ _ _
        case c2 => simp [Value.oneCell']
        case c3 => unfold maxLen; omega
        case c4 => omega
        case c5 => simp; omega
        go_roundw
        case rel => exact ⟨k + 1, by go_num, by omega, by rw [HTK.out, HNU.out], by rw [HTK.out, Rd.wds_snoc, HPC.out, List.length_append, svs_append]; exact hown1, (HB2.out.alloc (by omega) _).grown hg1 (by simp; omega) (fun j hj => (HO2.out.lt j hj).1)⟩
        case measure => simp [intOf]; omega
      by_cases p7 : p = 7
      · subst p7
        obtain rfl : q = 7 := HQ.out.symm
        have HNU : Hid (Rd.nums (ps ++ [7]) = Rd.nums ps) := by rw [Hid, Rd.nums_snoc, if_neg (by omega)]; rfl
        obtain ⟨x, hx⟩ : ∃ x, Nm.text d.mail.data.toList = x := ⟨_, rfl⟩
        have HPC : Hid (Rd.pcs d.dt X (Rd.nums ps) 7 = [x]) := by rw [← hx]; rfl
        have HON := Lib.hid (fun W : World => Text_any d.mail W hm)
        rw [hx] at HON
        clear hx
        go_wp2_with (first
          | (go_at_call 35; refine (HON.out _).mono ?_; rintro e w2 ⟨rfl, B2⟩; have HB2 := Lib.hid (HB.out.trans (B2.mono hbs)); have HO2 := Lib.hid (own_below HO.out B2 (Nat.le_refl _)); have hs2 := B2.size; clear B2)
          | (at_builtin; refine wpList_append_own _ rfl (.tmp 64) (.tmp 68) _ rfl w1.heap.size 9 i0 _ 1 16 Tryd.underlying40 hi hz0 hz1 hz2 rfl (by decide) _ _ (svs (Rd.wds d.dt X ps).1) rfl (HO2.out.alloc _) ⟨w2.heap.size, 0, none⟩ 1 1 [sv x] rfl rfl ?c1 ?c2 ?c3 ?c4 ?c5 (fun v' w4 hown1 hg1 _ => ?_)))
        case c1 => exact cell_one_new _ _ _
        case c2 => simp [Value.oneCell']
        case c3 => unfold maxLen; omega
        case c4 => omega
        case c5 => simp; omega
        go_roundw
        case rel => exact ⟨k + 1, by go_num, by omega, by rw [HTK.out, HNU.out], by rw [HTK.out, Rd.wds_snoc, HPC.out, List.length_append, svs_append]; exact hown1, (HB2.out.alloc (by omega) _).grown hg1 (by simp; omega) (fun j hj => (HO2.out.lt j hj).1)⟩
        case measure => simp [intOf]; omega
      have hq := HQ.out
      have hn4 : Rd.nums ps < 5 := by rw [Rd.nums_snoc, if_pos (by omega)] at hn5; omega
      have HNU : Hid (Rd.nums (ps ++ [p]) = Rd.nums ps + 1) := by rw [Hid, Rd.nums_snoc, if_pos (by omega)]
      have cn := dv_n H4D.out hn4
      have hx4 : d.n (Rd.nums ps) ≤ 4294967295 := HF.out _
      have hni : ((Rd.nums ps : Nat) : Int) < 5 := by omega
      have hnj : (0 : Int) ≤ ((Rd.nums ps : Nat) : Int) := by omega
      obtain ⟨x, hx⟩ : ∃ x, Rd.dec (d.n (Rd.nums ps)) = x := ⟨_, rfl⟩
      have HON := Lib.hid (fun (W : World) h => fmtU_any (d.n (Rd.nums ps)) W (by omega) h)
      have hpc : Rd.pcs d.dt X (Rd.nums ps) p = [x] := by
        unfold Rd.pcs
        rw [if_neg (by omega), if_neg (by omega), if_neg (by omega), if_pos (by omega), rd_hasN3 d hn4, hx]
      have HPC := Lib.hid hpc
      rw [hx] at HON
      clear hx hpc
      generalize d.n (Rd.nums ps) = y at *
      rcases (by omega : (p = 8 ∧ q = 8) ∨ (p = 9 ∧ q = 9)) with ⟨rfl, rfl⟩ | ⟨rfl, rfl⟩
      · clear hq
        go_wp2_with (first
          | (go_at_call 36; refine (HON.out _ (HLw.out.below HB.out (Nat.le_refl _)).2.1).mono ?_; rintro e w2 ⟨rfl, B2⟩; have HB2 := Lib.hid (HB.out.trans (B2.mono hbs)); have HO2 := Lib.hid (own_below HO.out B2 (Nat.le_refl _)); have hs2 := B2.size; clear B2)
          | (at_builtin; refine wpList_append_own _ rfl (.tmp 73) (.tmp 80) _ rfl w1.heap.size 9 i0 _ 1 16 Tryd.underlying40 hi hz0 hz1 hz2 rfl (by decide) _ _ (svs (Rd.wds d.dt X ps).1) rfl (HO2.out.alloc _) ⟨w2.heap.size, 0, none⟩ 1 1 [sv x] rfl rfl ?c1 ?c2 ?c3 ?c4 ?c5 (fun v' w4 hown1 hg1 _ => ?_)))
        case c1 => exact cell_one_new _ _ _
        case c2 => simp [Value.oneCell']
        case c3 => unfold maxLen; omega
        case c4 => omega
        case c5 => simp; omega
        go_roundw
        case rel => exact ⟨k + 1, by go_num, by omega, by rw [HTK.out, HNU.out]; go_num, by rw [HTK.out, Rd.wds_snoc, HPC.out, List.length_append, svs_append]; exact hown1, (HB2.out.alloc (by omega) _).grown hg1 (by simp; omega) (fun j hj => (HO2.out.lt j hj).1)⟩
        case measure => simp [intOf]; omega
      · clear hq
        go_wp2_with (first
          | (go_at_call 36; refine (HON.out _ (HLw.out.below HB.out (Nat.le_refl _)).2.1).mono ?_; rintro e w2 ⟨rfl, B2⟩; have HB2 := Lib.hid (HB.out.trans (B2.mono hbs)); have HO2 := Lib.hid (own_below HO.out B2 (Nat.le_refl _)); have hs2 := B2.size; clear B2)
          | (at_builtin; refine wpList_append_own _ rfl (.tmp 73) (.tmp 80) _ rfl w1.heap.size 9 i0 _ 1 16 Tryd.underlying40 hi hz0 hz1 hz2 rfl (by decide) _ _ (svs (Rd.wds d.dt X ps).1) rfl (HO2.out.alloc _) ⟨w2.heap.size, 0, none⟩ 1 1 [sv x] rfl rfl ?c1 ?c2 ?c3 ?c4 ?c5 (fun v' w4 hown1 hg1 _ => ?_)))
        case c1 => exact cell_one_new _ _ _
        case c2 => simp [Value.oneCell']
        case c3 => unfold maxLen; omega
        case c4 => omega
        case c5 => simp; omega
        go_roundw
        case rel => exact ⟨k + 1, by go_num, by omega, by rw [HTK.out, HNU.out]; go_num, by rw [HTK.out, Rd.wds_snoc, HPC.out, List.length_append, svs_append]; exact hown1, (HB2.out.alloc (by omega) _).grown hg1 (by simp; omega) (fun j hj => (HO2.out.lt j hj).1)⟩
        case measure => simp [intOf]; omega
    · obtain rfl : k = 7 := by omega
      have hall : (Rd.parts t).take 7 = Rd.parts t := List.take_of_length_le (by rw [Rd.parts_len]; omega)
      rw [hall] at HO
      have hwl : (Rd.wds d.dt X ((Rd.parts t).take 7)).1.length ≤ 100001 * 7 := wds_len HXL.out t 7
      rw [hall] at hwl
      clear hall
      have HJ := HJL.out
      obtain ⟨ws, hws⟩ : ∃ ws, (Rd.wds d.dt X (Rd.parts t)).1 = ws := ⟨_, rfl⟩
      rw [hws] at HO HNE HJ hwl HRES
      have HJ2 := Lib.hid HJ
      clear hws HJL HJ
      obtain ⟨g, cp, rfl, hcp, hg1, hg2⟩ := own_pos HO.out (by have := HNE.out; cases ws with | nil => exact absurd rfl this | cons a b => simp)
      have HJN := Lib.hid (join_words HO.out hg2 hcp (by omega) HJ2.out)
      go_wp2_with (go_at_call 37; refine HJN.out.mono ?_; rintro e w3 ⟨rfl, B3⟩)
      go_ret2
      exact ⟨by rw [← HRES.out]; rfl, HB0.out.trans ((HB.out.mono (by omega)).trans (B3.mono (by omega)))⟩
end Go.Proofs.YtpinhpnmnfcdoaaDoor
/- The document's answer to reading a name in a packet. -/
namespace Go.Proofs.YtpinhpnmnfcdoaaDoor
open Go.RowKit

/-- what is told of a reading. -/
def trV : Pr.TR → Value
  | .err e => .tuple #[.string ⟨#[]⟩, .int .i64 0, .int .i64 e]
  | .ok ls bh => .tuple #[sv (Nm.glue ls), .int .i64 bh, .int .i64 0]
/-- what Take answers. -/
def prTakeV (l : List UInt8) (z : Int) : Value :=
  if z < 0 ∨ (l.length : Int) < z then .tuple #[.string ⟨#[]⟩, .int .i64 0, .int .i64 1] else trV (Pr.tk l z.toNat z.toNat 1)
/-- the place behind, as the loop keeps it. -/
def bhI : Option Nat → Int
  | none => -1
  | some n => n

theorem svs_snoc (a : List (List UInt8)) (l : List UInt8) : svs (a ++ [l]) = svs a ++ [sv l] := by simp [svs]
theorem app_small {acc : List (List UInt8)} {x : List UInt8} (h : ∀ y ∈ acc, y.length ≤ 255) (hx : x.length ≤ 255) : ∀ y ∈ acc ++ [x], y.length ≤ 255 := by
  intro y hy
  rcases List.mem_append.1 hy with h1 | h1
  · exact h y h1
  · simp at h1; subst h1; exact hx
/-- one string put behind a row of the call's own. -/
theorem wpList_append_str1 {P : Program} {w : World} {ops : Array Oper} {rest : List Oper} {o : Oper} {a : Act} {Q : Exit → Act → World → Prop} (hgd : o.guard = none) (s x : Operand) (t : TypeId)
    (ho : o.op = .call { callee := .builtin .append, args := #[s, x], argTypes := #[t, t] })
    (e : TypeId) (i : TypeInfo) (z : Value) (ht : P.underlying t = some (.slice e)) (hi : P.info? e = some i) (hz : i.zero = some z)
    (hsize : i.size = 1) (hby : i.bytes = 16) (hzs : z.cells.size = 1)
    (base : Nat) (w0 : World) (v : Value) (n : Nat) (xs : List Value) (hs : a.eval s = v) (hown : w.ownsRow base e 1 v n xs) (hb : Below base w0 w) (hbase : base ≤ w0.heap.size)
    (u : Value) (hu : u.oneCell' = true) (et : TypeId) (hx : a.eval x = .slice (some ⟨w.heap.size, 0, none⟩) 1 1)
    (h63 : n + 1 ≤ 8796093022208)
    (h : ∀ v' w', w'.ownsRow base e 1 v' (n + 1) (xs ++ [u]) → Below base w0 w' → wpList P ops Q rest (a.put o.dst v') w') : wpList P ops Q (o :: rest) a (w.alloc (.cells #[u] et)) := by
  have hbs := hb.size
  refine wpList_append_own _ hgd s x t ho base e i z 1 16 ht hi hz hsize hby hzs (by decide) v n xs hs (hown.alloc _) ⟨w.heap.size, 0, none⟩ 1 1 [u] hx rfl (cell_one_new _ _ _) ?_ (by unfold maxLen; omega) (by omega) (by simp; omega) (fun v' w' h1 h2 _ => h v' w' h1 ?_)
  · intro y hy
    simp at hy
    subst hy
    exact hu
  · exact (hb.alloc (by omega) _).grown h2 (by simp; omega) (fun k hk => (hown.lt k hk).1)

end Go.Proofs.YtpinhpnmnfcdoaaDoor
/- Reading a name in a packet: a label, a pointer. -/
namespace Go.Proofs.YtpinhpnmnfcdoaaDoor
open Go.RowKit

theorem has_ne_own2 {W : World} {g B : Nat} {t e : TypeId} {cs : Array Value} {v : Value} {n : Nat} {xs : List Value} (h : Has W g t cs) (ho : W.ownsRow B e 1 v n xs) (hte : t ≠ e) : some g ≠ v.ownBlock := by
  rcases ho.2 with ⟨rfl, _⟩ | ⟨g', cap, cur, rfl, _, hgb, _⟩
  · simp [Value.ownBlock]
  · intro e'
    obtain rfl : g = g' := by simpa [Value.ownBlock] using e'
    rw [show W.heap[g]? = _ from h] at hgb
    cases hgb
    exact hte rfl
theorem oper_append_run {P : Program} {w : World} {o : Oper} {a : Act} {K : Act → World → Prop} {Q : Exit → Act → World → Prop} (s x : Operand) (t u : TypeId)
    (ho : o.op = .call { callee := .builtin .append, args := #[s, x], argTypes := #[t, u] }) (v y : Value) (hs : a.eval s = v) (hx : a.eval x = y) {v' : Value} {w' : World}
    (hr : (Builtin.append_ #[t, u] o.type #[v, y]).run P w = .ok v' w') (h : K (a.put o.dst v') w') : o.wp P a w K Q := by
  unfold Oper.wp execOp
  simp only [ho, resolve, invoke, builtin, Sem.run_bind, Sem.run_pure, Result.andThen_ok, List.map_toArray, List.map_cons, List.map_nil, hs, hx, hr]
  exact h
theorem set_gr (W : World) (b i : Nat) (u : Value) : W.grownBy (W.setCell ⟨b, i, none⟩ u) (some b) := ⟨rfl, rfl, rfl, by simp, fun j _ hj => heap_setCell_other W ⟨b, i, none⟩ j u (fun e => hj (by rw [e]))⟩
theorem num1 (l : List UInt8) (n : Nat) (h : n < l.length) : Oc.num ((l.drop n).take 1) = (l[n]'h).toNat := by
  have := num_step l n 0 h
  simpa [Oc.num] using this
theorem num2 (l : List UInt8) (n : Nat) (h : n + 1 < l.length) : Oc.num ((l.drop n).take 2) = (l[n]'(by omega)).toNat * 256 + (l[n + 1]'h).toNat := by
  have := num_step l n 1 h
  rw [num1 l n (by omega)] at this
  exact this
theorem take_lab (l : List UInt8) (n k : Nat) (h : n < l.length) (hk : (l[n]'h).toNat = k) (h2 : n + 1 + k ≤ l.length) : (l.drop n).take (1 + k) = Nm.lab ((l.drop (n + 1)).take k) := by
  rw [List.drop_eq_getElem_cons h, Nat.add_comm 1 k, List.take_succ_cons]
  unfold Nm.lab
  have : ((l.drop (n + 1)).take k).length = k := by rw [List.length_take, List.length_drop]; omega
  rw [this, ← hk]
  simp

end Go.Proofs.YtpinhpnmnfcdoaaDoor
/- Reading a name in a packet: a row, the whole. -/
namespace Go.Proofs.YtpinhpnmnfcdoaaDoor
open Go.RowKit

theorem body_snoc' (ls : List (List UInt8)) (x : List UInt8) : Nm.body (ls ++ [x]) = Nm.body ls ++ Nm.lab x := by rw [Nm.body_append]; simp [Nm.body]

end Go.Proofs.YtpinhpnmnfcdoaaDoor
/- Reading a name in a packet: the whole of Take. -/
namespace Go.Proofs.YtpinhpnmnfcdoaaDoor
open Go.RowKit

/-- how far a reading has tw go yet. -/
def rdM (g : Nat) (e : Value) (w : World) : Nat :=
  if intOf e = 0 then match w.cell? ⟨g, 2, none⟩, w.cell? ⟨g, 3, none⟩ with
    | some (.bool true), some (.int _ p) => p.toNat + 1
    | _, _ => 0
  else 0
theorem rdM_err {g : Nat} {er : Int} {w : World} (h : (er == 0) = false) : rdM g (.int .i64 er) w = 0 := by
  unfold rdM; rw [if_neg (by simpa [intOf] using h)]
theorem rdM_any {g : Nat} {er : Int} {w : World} {p : Nat} (h : (er == 0) = false) : rdM g (.int .i64 er) w < p + 1 := by rw [rdM_err h]; omega

end Go.Proofs.YtpinhpnmnfcdoaaDoor
/- The document's table of names: what is remembered, and where it is found. -/
namespace Go.Proofs.YtpinhpnmnfcdoaaDoor
open Go.RowKit

def ints (t : List Nat) : List Value := t.map fun (p : Nat) => Value.int .i64 p
theorem str_eq {a n : ByteArray} (h : a.data.toList = n.data.toList) : (a.toList == n.toList) = true :=
  (beq_toListBytes a n).symm.trans <| (MapKept.bytes_beq _ _).2 (by rw [string_eq (s := a) rfl, string_eq (s := n) rfl, h])
theorem str_ne {a n : ByteArray} (h : a.data.toList ≠ n.data.toList) : (a.toList == n.toList) = false := by
  rw [← beq_toListBytes, Bool.eq_false_iff]
  intro hb
  have := (MapKept.bytes_beq _ _).1 hb
  subst this
  exact h rfl
theorem sv_of (l : List UInt8) : ∃ s : ByteArray, sv l = .string s ∧ s.data.toList = l := ⟨⟨l.toArray⟩, rfl, rfl⟩

end Go.Proofs.YtpinhpnmnfcdoaaDoor
/- The document's table: keeping names and places. Laws for rows of the call's own. -/
namespace Go.Proofs.YtpinhpnmnfcdoaaDoor
open Go.RowKit

theorem Tryd.infoApiName : (Tryd.prog.info? 48).map (fun i => (i.zero, i.size, i.bytes)) = some (some (.string ⟨#[]⟩), 1, 16) := by kernel_rfl
theorem Tryd.infoIntT : (Tryd.prog.info? 3).map (fun i => (i.zero, i.size, i.bytes)) = some (some (.int .i64 0), 1, 8) := by kernel_rfl

section
variable {w w' : World} {b b2 n n2 : Nat} {e e2 : TypeId} {v v2 : Value} {xs ys : List Value}
/-- rows of two types are two. -/
theorem own_apart (h : w.ownsRow b e 1 v n xs) (h2 : w.ownsRow b2 e2 1 v2 n2 ys) (hne : e2 ≠ e) : v2.ownBlock = none ∨ v2.ownBlock ≠ v.ownBlock := by
  rcases h2.2 with ⟨rfl, _⟩ | ⟨g2, cap2, cur2, rfl, _, hg2, _⟩
  · exact .inl rfl
  · refine .inr fun e' => ?_
    rcases h.2 with ⟨rfl, _⟩ | ⟨g, cap, cur, rfl, _, hg, _⟩
    · simp [Value.ownBlock] at e'
    · have : g2 = g := by simpa [Value.ownBlock] using e'
      subst this
      rw [hg] at hg2
      cases hg2
      exact hne rfl
theorem own_still (h : w.ownsRow b e 1 v n xs) (h2 : w.ownsRow b2 e2 1 v2 n2 ys) (hne : e2 ≠ e) (hg : w.grownBy w' v.ownBlock) : w'.ownsRow b2 e2 1 v2 n2 ys := h2.kept hg (own_apart h h2 hne)
theorem own_alloc (h : w.ownsRow b e 1 v n xs) (o : Obj) : (w.alloc o).ownsRow b e 1 v n xs := World.ownsRow.alloc h o
end
/-- values that are built into a new slice are put behind a row of the call's own. -/
theorem wpList_append_new {P : Program} {w : World} {ops : Array Oper} {rest : List Oper} {o : Oper} {a : Act} {Q : Exit → Act → World → Prop} (hgd : o.guard = none) (s x : Operand) (t : TypeId)
    (ho : o.op = .call { callee := .builtin .append, args := #[s, x], argTypes := #[t, t] })
    (e : TypeId) (i : TypeInfo) (z : Value) (bytes : Nat) (ht : P.underlying t = some (.slice e)) (hi : P.info? e = some i) (hz : i.zero = some z)
    (hsize : i.size = 1) (hby : i.bytes = bytes) (hzs : z.cells.size = 1)
    (base : Nat) (w0 : World) (v : Value) (n : Nat) (xs : List Value) (hs : a.eval s = v) (hown : w.ownsRow base e 1 v n xs) (hb : Below base w0 w) (hbase : base ≤ w0.heap.size)
    (us : List Value) (hu : ∀ u ∈ us, u.oneCell' = true) (et : TypeId) (m : Nat) (hm : us.length = m) (hx : a.eval x = .slice (some ⟨w.heap.size, 0, none⟩) m m)
    (h63 : n + m ≤ 140737488355328) (hbytes : (n + m) * bytes ≤ 140737488355328)
    (h : ∀ v' w', w'.ownsRow base e 1 v' (n + m) (xs ++ us) → Below base w0 w' → (w.alloc (.cells us.toArray et)).grownBy w' v.ownBlock → wpList P ops Q rest (a.put o.dst v') w') : wpList P ops Q (o :: rest) a (w.alloc (.cells us.toArray et)) := by
  have hbs := hb.size
  subst hm
  refine wpList_append_own _ hgd s x t ho base e i z 1 bytes ht hi hz hsize hby hzs (by decide) v n xs hs (hown.alloc _) ⟨w.heap.size, 0, none⟩ us.length us.length us hx (by omega) ?_ hu (by unfold maxLen; omega) hbytes (by simp; omega) (fun v' w' h1 h2 _ => h v' w' h1 ?_ h2)
  · intro j u hj
    have hH := Has.fresh w et us.toArray
    rw [addr_add, Nat.zero_add, hH.cell]
    simpa using hj
  · exact (hb.alloc (by omega) _).grown h2 (by simp; omega) (fun k hk => (hown.lt k hk).1)
/-- a row of the call's own is put behind another one. -/
theorem append_rows {P : Program} {w : World} (t ty e : TypeId) (i : TypeInfo) (z : Value) (bytes : Nat) (ht : P.underlying t = some (.slice e)) (hi : P.info? e = some i) (hz : i.zero = some z)
    (hsize : i.size = 1) (hby : i.bytes = bytes) (hzs : z.cells.size = 1)
    (base b2 : Nat) (v v2 : Value) (n m : Nat) (xs us : List Value) (hown : w.ownsRow base e 1 v n xs) (h2 : w.ownsRow b2 e 1 v2 m us) (hu : ∀ u ∈ us, u.oneCell' = true)
    (h63 : n + m ≤ 140737488355328) (hbytes : (n + m) * bytes ≤ 140737488355328) (hbase : base ≤ w.heap.size) :
    ∃ v' w', (Builtin.append_ #[t, t] ty #[v, v2]).run P w = .ok v' w' ∧ w'.ownsRow base e 1 v' (n + m) (xs ++ us) ∧ w.grownBy w' v.ownBlock := by
  have hl : us.length = m := by have := h2.1; omega
  rcases h2.2 with ⟨rfl, h0⟩ | ⟨g, cap, cur, rfl, hb, hg, hc, _⟩
  · subst h0
    have hus : us = [] := List.eq_nil_of_length_eq_zero hl
    subst hus
    refine ⟨v, w, ?_, by simpa using hown, World.grownBy.refl w _⟩
    exact run_append_owned_none (P := P) (w := w) base t ty e i 1 ht hi v n xs hown
  · obtain ⟨v', w', hrun, a1, a2, _⟩ := run_append_own (P := P) w base t ty e i z 1 bytes ht hi hz hsize hby hzs (by decide) v n xs hown ⟨g, 0, none⟩ m cap us (by omega) (fun j u hj => by rw [addr_add, Nat.zero_add]; exact own_cells h2 j u hj) hu (by unfold maxLen; omega) hbytes hbase
    exact ⟨v', w', hrun, a1, a2⟩

theorem svs_one (ls : List (List UInt8)) : ∀ u ∈ svs ls, u.oneCell' = true := by
  intro u hu
  simp only [svs, List.mem_map] at hu
  obtain ⟨_, _, rfl⟩ := hu
  rfl
theorem ints_one (ls : List Nat) : ∀ u ∈ ints ls, u.oneCell' = true := by
  intro u hu
  simp only [ints, List.mem_map] at hu
  obtain ⟨_, _, rfl⟩ := hu
  rfl
theorem ints_append (a b : List Nat) : ints (a ++ b) = ints a ++ ints b := by simp [ints]

section
variable {base : Nat} {w w' w2 : World}
end
theorem has_not_own {w : World} {g b n : Nat} {t e : TypeId} {cs : Array Value} {v : Value} {xs : List Value} (h : Has w g t cs) (ho : w.ownsRow b e 1 v n xs) (hte : t ≠ e) : some g ≠ v.ownBlock := by
  rcases ho.2 with ⟨rfl, _⟩ | ⟨g', cap, cur, rfl, _, hgb, _⟩
  · simp [Value.ownBlock]
  · intro e'
    obtain rfl : g = g' := by simpa [Value.ownBlock] using e'
    rw [show w.heap[g]? = _ from h] at hgb
    cases hgb
    exact hte rfl
theorem gr_set (W : World) (b i : Nat) (u : Value) : W.grownBy (W.setCell ⟨b, i, none⟩ u) (some b) := ⟨rfl, rfl, rfl, by simp, fun j _ hj => heap_setCell_other W ⟨b, i, none⟩ j u (fun e => hj (by rw [e]))⟩

end Go.Proofs.YtpinhpnmnfcdoaaDoor
/- The document's answer to writing a name. -/
namespace Go.Proofs.YtpinhpnmnfcdoaaDoor
open Go.RowKit

theorem own_tail {w : World} {b n g c m : Nat} {e : TypeId} {ls : List (List UInt8)} (h : w.ownsRow b e 1 (.slice (some ⟨g, 0, none⟩) n c) n (svs ls)) (hn : n = ls.length) (hm : m ≤ n) :
    Rd w w.heap.size (.slice (some ⟨g, m, none⟩) (n - m) (c - m)) (ls.drop m) := by
  subst hn
  have hg : g < w.heap.size := (h.lt g rfl).2
  have hc := own_le h
  refine ⟨_, _, by rw [List.length_drop], by rw [List.length_drop]; omega, fun _ => ⟨g, m, rfl, hg, fun j hj => ?_⟩⟩
  rw [List.length_drop] at hj
  exact own_cells h (m + j) _ (by simp [svs, show m + j < ls.length by omega])
/-- how far it has come. -/
def RpI (plain : Bool) (t : Tab) (l : List UInt8) (ls : List (List UInt8)) (w : World) (vL : Value) (k : Nat) (nw : Tab) (vO vN vP : Value) (wr : World) : Prop :=
  wr.ownsRow w.heap.size 5 1 vO (l ++ Nm.body (ls.take k)).length (bv (l ++ Nm.body (ls.take k))) ∧ wr.ownsRow w.heap.size 48 1 vN nw.length (svs (nw.map (·.1))) ∧ wr.ownsRow w.heap.size 3 1 vP nw.length (ints (nw.map (·.2))) ∧
  wr.ownsRow w.heap.size 9 1 vL ls.length (svs ls) ∧ Below w.heap.size w wr ∧ Pr.Cont plain t l.length ls k (t ++ nw) ∧ Pr.Ahead t (t ++ nw) ls k ∧ nw.length ≤ k

/-- one byte, then a label: the row of bytes is a label longer. -/
theorem lab_bytes (l : List UInt8) {ls : List (List UInt8)} {k : Nat} (hk : k < ls.length) : l ++ Nm.body (ls.take (k + 1)) = (l ++ Nm.body (ls.take k)) ++ [UInt8.ofNat (ls[k]'hk).length] ++ (ls[k]'hk) := by
  rw [List.take_succ_eq_append_getElem hk, Nm.body_append]
  simp [Nm.body, Nm.lab]
theorem bv_one8 (n : Nat) (h : n < 256) : [Value.int .u8 (n : Int)] = bv [UInt8.ofNat n] := by
  simp [bv]; omega

end Go.Proofs.YtpinhpnmnfcdoaaDoor
/- Tables made, sizes, and the known names of each statement. -/
namespace Go.Proofs.YtpinhpnmnfcdoaaDoor
open Go.RowKit

set_option maxHeartbeats 400000 in
theorem pnew_any (w : World) :
    Calls Tryd.prog 18 #[] w fun e w' => e = .returned (.pointer (some ⟨w.heap.size, 0, none⟩)) ∧ w' = w.alloc (.cells #[.map none] 73) := by
  go_enter Tryd.func18, Tryd.ntmps18
  go_wp2
  go_ret
  exact ⟨rfl, rfl⟩
theorem Tb.new (w : World) {base : Nat} (hb : base ≤ w.heap.size) : Tb (w.alloc (.cells #[.map none] 73)) w.heap.size base none [] :=
  ⟨hb, Has.fresh w _ _, (fun x hx => by cases hx), fun _ => rfl, fun m e => by cases e⟩
def ab : List (List UInt8) := [[97], [98]]
def cb : List (List UInt8) := [[99], [98]]
def tab1 : Tab := [([1, 97, 1, 98, 0], 0), ([1, 98, 0], 2)]
theorem ab_split : Nm.split [1, 97, 1, 98, 0] = some ab := by rfl
theorem cb_split : Nm.split [1, 99, 1, 98, 0] = some cb := by rfl
theorem ab_put : Pr.pw false [] 0 ab = (tab1, [1, 97, 1, 98, 0]) := by rfl
theorem cb_put : Pr.pw false tab1 5 cb = (tab1 ++ [([1, 99, 1, 98, 0], 5)], [1, 99, 192, 2]) := by rfl
theorem cb_take : Pr.tk [1, 97, 1, 98, 0, 1, 99, 192, 2] 5 5 1 = .ok cb 9 := by
  have h1 := Pr.pw_sound (ls := ab) (t := []) (b := []) false (Nm.split_some.1 ab_split).2.1 (by decide) (Pr.Snd.nil _)
  rw [show ([] : List UInt8).length = 0 from rfl, ab_put] at h1
  have h2 := Pr.pw_sound (ls := cb) (t := tab1) (b := [1, 97, 1, 98, 0]) false (Nm.split_some.1 cb_split).2.1 (by decide) h1.2
  rw [show ([1, 97, 1, 98, 0] : List UInt8).length = 5 from rfl, cb_put] at h2
  exact h2.1 [] 5 1 (Nat.le_refl _) (by decide)
theorem wput1 (g base : Nat) (w : World) (hT : Tb w g base none []) (hb : base ≤ w.heap.size) :
    Calls Tryd.prog 27 #[.pointer (some ⟨g, 0, none⟩), .slice none 0 0, .string ⟨#[1, 97, 1, 98, 0]⟩] w fun e w' => ∃ A c mp, e = .returned (.tuple #[.slice A 5 c, .int .i64 0]) ∧ w'.ownsRow w.heap.size 5 1 (.slice A 5 c) 5 (bv [1, 97, 1, 98, 0]) ∧ Tb w' g base mp tab1 ∧ Rg g base w w' := by
  refine (put_in g base none [] none [] 0 ⟨#[1, 97, 1, 98, 0]⟩ ab w hT hb ab_split (by simp) (fun _ => rfl) (by simp) Bs.nil (by simp)).mono ?_
  rintro e w' ⟨v, mp, rfl, h1, h2, h3⟩
  rw [show ([] : List UInt8).length = 0 from rfl, ab_put] at h1 h2
  obtain ⟨A, c, rfl⟩ := own_form h1
  exact ⟨A, c, mp, rfl, h1, h2, h3⟩
theorem wput2 (g base : Nat) (mp : Option Nat) (A : Option Addr) (c : Nat) (w : World) (hT : Tb w g base mp tab1) (hb : base ≤ w.heap.size) (ho : w.ownsRow base 5 1 (.slice A 5 c) 5 (bv [1, 97, 1, 98, 0])) :
    Calls Tryd.prog 27 #[.pointer (some ⟨g, 0, none⟩), .slice A 5 c, .string ⟨#[1, 99, 1, 98, 0]⟩] w fun e w' => ∃ A c, e = .returned (.tuple #[.slice A 9 c, .int .i64 0]) ∧ w'.ownsRow w.heap.size 5 1 (.slice A 9 c) 9 (bv [1, 97, 1, 98, 0, 1, 99, 192, 2]) ∧ Below base w w' := by
  obtain ⟨g0, hA, hc, _⟩ := own_at ho (by omega : 0 < 5)
  refine (put_in g base mp tab1 A [1, 97, 1, 98, 0] c ⟨#[1, 99, 1, 98, 0]⟩ cb w hT hb cb_split hc (fun e => by rw [hA] at e; cases e) (by simp) ((Bs.of_own ho).more (Nat.zero_le _) (Nat.le_refl _)) (by simp [tab1])).mono ?_
  rintro e w' ⟨v, mp, rfl, h1, h2, h3⟩
  rw [show ([1, 97, 1, 98, 0] : List UInt8).length = 5 from rfl, cb_put] at h1 h2
  obtain ⟨A, c, rfl⟩ := own_form h1
  exact ⟨A, c, rfl, h1, h3.below⟩
end Go.Proofs.YtpinhpnmnfcdoaaDoor
/- The known data of the statements on data: what is asked of them. -/
namespace Go.Proofs.YtpinhpnmnfcdoaaDoor
open Go.RowKit

def d0 : Dv := ⟨⟨#[]⟩, ⟨#[1, 97, 0]⟩, ⟨#[]⟩, 10, 0, 0, 0, 0⟩
theorem d0_fits : d0.fits := fun k => by
  match k with
  | 0 => show 10 ≤ 4294967295; omega
  | 1 => show 0 ≤ 4294967295; omega
  | 2 => show 0 ≤ 4294967295; omega
  | 3 => show 0 ≤ 4294967295; omega
  | _ + 4 => show 0 ≤ 4294967295; omega
theorem d0_ok : Rd.ok 15 d0.dt = true := by kernel_rfl
theorem d0_no : Rd.ok 1 d0.dt = false := by kernel_rfl
theorem d0_split : Nm.split d0.host.data.toList = some [[97]] := by kernel_rfl
theorem d0_put : (Rd.wrs [] [] d0.dt [[97]] [] (Rd.parts 15)).2.1 = [0, 10, 1, 97, 0] := by kernel_rfl
theorem d0_words : (Rd.wds d0.dt (fun _ => []) (Rd.parts 15)).1 = [[49, 48], [97, 46]] := by
  have h1 : (Rd.wds d0.dt (fun _ => []) (Rd.parts 15)).1 = [Rd.dec 10, Nm.text [1, 97, 0]] := rfl
  have h2 : Nm.text [1, 97, 0] = [97, 46] := by kernel_rfl
  have h3 : Rd.dec 10 = [49, 48] := by rw [Rd.dec_more (by omega), Rd.dec_small (by omega)]; rfl
  rw [h1, h2, h3]
theorem d0_check (W : World) (h : LayR W) : Calls Tryd.prog 20 #[.int .u16 15, .agg d0.cells] W fun e w' => e = .returned (.int .i64 0) ∧ Below W.heap.size W w' := by
  have := pdCheck_any 15 d0 W (by omega) h d0_fits (by decide) (by decide) (by decide)
  rw [d0_ok] at this
  exact this
theorem d0_check1 (W : World) (h : LayR W) : Calls Tryd.prog 20 #[.int .u16 1, .agg d0.cells] W fun e w' => e = .returned (.int .i64 40) ∧ Below W.heap.size W w' := by
  have := pdCheck_any 1 d0 W (by omega) h d0_fits (by decide) (by decide) (by decide)
  rw [d0_no] at this
  exact this
theorem d0_show (W : World) (h : LayA W) : Calls Tryd.prog 19 #[.int .u16 15, .agg d0.cells] W fun e w' => e = .returned (.tuple #[.string ⟨#[49, 48, 32, 97, 46]⟩, .int .i64 0]) ∧ Below W.heap.size W w' := by
  have := pdShow_loop 15 d0 (fun _ => []) W (by omega) h d0_fits (by decide) (by decide) d0_check (fun h => absurd h (by decide)) (fun h => absurd h (by decide)) (fun h => absurd h (by decide)) (fun h => absurd h (by decide)) (fun _ => by simp) (by rw [d0_words]; simp) (by rw [d0_words]; decide)
  rw [d0_words] at this
  exact this
theorem no7 : ∀ k : Fin 7, ([8, 5, 0, 0, 0, 0, 0] : List Nat)[k] ≠ 7 := by decide
theorem d0_puts (W : World) (g base : Nat) (mp : Option Nat) (h : LayR W) (hT : Tb W g base mp []) (hb : base ≤ W.heap.size) :
    Calls Tryd.prog 17 #[.slice none 0 0, .pointer (some ⟨g, 0, none⟩), .int .u16 15, .agg d0.cells] W fun e W' => ∃ A c, e = .returned (.tuple #[.slice A 5 c, .int .i64 0]) ∧ Bs W' 0 W'.heap.size A [0, 10, 1, 97, 0] ∧ Rg g base W W' ∧ W.heap.size ≤ W'.heap.size := by
  have := pdPut_loop 15 d0 g base mp [] none [] 0 [[97]] [] W (by omega) h hT hb ⟨none, 0, rfl, Nat.le_refl _, fun _ => rfl, Bs.nil⟩ (by simp) (by simp) d0_fits d0_check (by decide) (fun k hk e => by
      have h7 : k < 7 := hk
      rcases (by omega : k = 0 ∨ k = 1 ∨ k = 2 ∨ k = 3 ∨ k = 4 ∨ k = 5 ∨ k = 6) with rfl | rfl | rfl | rfl | rfl | rfl | rfl <;> decide)
    (fun _ _ _ => d0_split) (fun k hk e => absurd e (no7 ⟨k, hk⟩))
  refine this.mono fun e W' ⟨v, he, mq, hr, _, hg, _, hs, _⟩ => ?_
  rw [d0_put] at hr
  obtain ⟨A, c, rfl, _, _, hbs⟩ := hr
  exact ⟨A, c, he, hbs, hg, hs⟩
end Go.Proofs.YtpinhpnmnfcdoaaDoor
