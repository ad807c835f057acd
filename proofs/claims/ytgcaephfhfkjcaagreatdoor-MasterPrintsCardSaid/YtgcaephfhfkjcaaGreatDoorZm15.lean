/- Texts of the proofs, merged. -/
import Derived.Test.YtgcaephfhfkjcaaGreatDoorZm14
import Derived.Laws.AppendOwnNone
import Derived.Test.YtgcaephfhfkjcaaGreatDoorZm3
import Derived.Test.YtgcaephfhfkjcaaGreatDoorZm6
import Derived.Deep.RegionHeld3
import Derived.Deep.LoopGhost
import Derived.Test.YtgcaephfhfkjcaaGreatDoorZm7
import Derived.Test.YtgcaephfhfkjcaaGreatDoorZm4
import Derived.BigQuiet
import Derived.Test.YtgcaephfhfkjcaaGreatDoorZm8
import Derived.Test.YtgcaephfhfkjcaaGreatDoorZm2
import Derived.Deep.MidRow
import Derived.Test.YtgcaephfhfkjcaaGreatDoorZm9
import Derived.Test.YtgcaephfhfkjcaaGreatDoorZm5
import Derived.Test.YtgcaephfhfkjcaaGreatDoorZm1
import Derived.Test.YtgcaephfhfkjcaaGreatDoorZm11
import Derived.Lib.AppendIntMem
namespace Go.Proofs.YtgcaephfhfkjcaaGreatDoor
open Go.RowKit

section
variable {P : Program} {w : World}
/-- strings that are read are put behind a row. -/
theorem wpList_append_rd {ops : Array Oper} {rest : List Oper} {o : Oper} {a : Act} {Q : Exit → Act → World → Prop} (hgd : o.guard = none) (s x : Operand) (t : TypeId)
    (ho : o.op = .call { callee := .builtin .append, args := #[s, x], argTypes := #[t, t] })
    (base : Nat) (e : TypeId) (i : TypeInfo) (z : Value) (ht : P.underlying t = some (.slice e)) (hi : P.info? e = some i) (hz : i.zero = some z)
    (hsize : i.size = 1) (hby : i.bytes = 16) (hzs : z.cells.size = 1)
    (v : Value) (n : Nat) (xs : List Value) (hs : a.eval s = v) (hown : w.ownsRow base e 1 v n xs)
    (B : Nat) (vs : Value) (ls : List (List UInt8)) (hx : a.eval x = vs) (hr : Rd w B vs ls) (hnil : ls = [] → ∃ A c, vs = .slice A 0 c ∧ (A = none → c = 0))
    (h63 : (n + ls.length) * 16 ≤ 140737488355328) (hbase : base ≤ w.heap.size)
    (h : ∀ v' w', w'.ownsRow base e 1 v' (n + ls.length) (xs ++ svs ls) → w.grownBy w' v.ownBlock → wpList P ops Q rest (a.put o.dst v') w') : wpList P ops Q (o :: rest) a w := by
  obtain ⟨A, c, rfl, hc, hcell⟩ := hr
  rcases A with _ | ad
  · have h0 : ls.length = 0 := by
      rcases Nat.eq_zero_or_pos ls.length with h0 | h0
      · exact h0
      · obtain ⟨g, o, hh, _⟩ := hcell h0; cases hh
    have hl : ls = [] := List.eq_nil_of_length_eq_zero h0
    subst hl
    obtain ⟨A, c', e1, e2⟩ := hnil rfl
    injection e1 with e3 _ e4
    subst e4 e3
    have := e2 rfl
    subst this
    exact wpList_append_own_none hgd s x t ho base e i 1 ht hi v n xs hs hown hx (h _ _ (by simpa [svs] using hown) (World.grownBy.refl w _))
  · refine wpList_append_own w hgd s x t ho base e i z 1 16 ht hi hz hsize hby hzs (by decide) v n xs hs hown ad ls.length c (svs ls) hx (by simp [svs]) ?_ ?_ (by unfold maxLen; omega) h63 hbase (fun v' w' a b _ => h v' w' a b)
    · intro j u hu
      have hj : j < ls.length := by
        have := (List.getElem?_eq_some_iff.1 hu).1
        simpa [svs] using this
      obtain ⟨g, o, hh, _, hce⟩ := hcell (by omega)
      injection hh with hh
      subst hh
      have e1 : (⟨g, o, none⟩ : Addr).add j = ⟨g, o + j, none⟩ := by unfold Addr.add; split <;> simp_all
      rw [e1, hce j hj]
      simp [svs, hj] at hu
      rw [← hu]
    · intro u hu
      simp [svs] at hu
      obtain ⟨l, _, rfl⟩ := hu
      rfl
end
theorem good_app {a b : List (List UInt8)} (h : Nm.Good a) (k : Nm.Good b) : Nm.Good (a ++ b) := fun l hl => (List.mem_append.1 hl).elim (h l) (k l)

end Go.Proofs.YtgcaephfhfkjcaaGreatDoor
namespace Go.Proofs.YtgcaephfhfkjcaaGreatDoor
open Go.RowKit

theorem keep_cell {W W1 : World} {p : Addr} {v : Value} (hb : Below W.heap.size W W1) (h : W.cell? p = some v) : W1.cell? p = some v := (hb.cell (block_lt_of_cell h)).trans h
theorem keep_below {B : Nat} {w W W1 : World} (hb : Below W.heap.size W W1) (h : Below B w W) (hB : B ≤ w.heap.size) : Below B w W1 := h.trans (hb.mono (Nat.le_trans hB h.size))

theorem Split_no (s : ByteArray) (w : World) (hs : s.size ≤ 140737488355328) (h : Nm.split s.data.toList = none) :
    Calls Tryz.prog 30 #[.string s] w fun e w' => ∃ v, e = .returned (.tuple #[v, .bool false]) ∧ Below w.heap.size w w' :=
  (Split_any s w hs).mono fun _ _ hp => by rw [h] at hp; obtain ⟨v, hb, he⟩ := hp; exact ⟨v, he, hb⟩
theorem Split_yes (s : ByteArray) (ls : List (List UInt8)) (w : World) (hs : s.size ≤ 140737488355328) (h : Nm.split s.data.toList = some ls) :
    Calls Tryz.prog 30 #[.string s] w fun e w' => ∃ ad cp, e = .returned (.tuple #[.slice ad ls.length cp, .bool true]) ∧ w'.ownsRow w.heap.size 9 1 (.slice ad ls.length cp) ls.length (svs ls) ∧ Below w.heap.size w w' :=
  (Split_any s w hs).mono fun _ _ hp => by
    rw [h] at hp
    obtain ⟨v, hb, he, ho⟩ := hp
    obtain ⟨ad, cp, rfl⟩ := own_form ho
    exact ⟨ad, cp, he, ho, hb⟩

end Go.Proofs.YtgcaephfhfkjcaaGreatDoor
namespace Go.Proofs.YtgcaephfhfkjcaaGreatDoor
open Go.RowKit

theorem Has.drewN {w : World} {g : Nat} {t : TypeId} {cs : Array Value} (h : Has w g t cs) (n : Nat) : Has (w.drewN n) g t cs := h
end Go.Proofs.YtgcaephfhfkjcaaGreatDoor
namespace Go.Proofs.YtgcaephfhfkjcaaGreatDoor
open Go.RowKit

/-- one part more in small letters. -/
def fold1 (d : Dv) (p : Nat) : Dv :=
  if p = 5 ∨ p = 6 then { d with host := ⟨(Nm.fold d.host.data.toList).toArray⟩ } else if p = 7 then { d with mail := ⟨(Nm.fold d.mail.data.toList).toArray⟩ } else d
theorem fold1_size (d : Dv) (p : Nat) : (fold1 d p).host.size = d.host.size ∧ (fold1 d p).mail.size = d.mail.size := by
  have h : ∀ s : ByteArray, (⟨(Nm.fold s.data.toList).toArray⟩ : ByteArray).size = s.size := fun s => by
    show ((Nm.fold s.data.toList).toArray).size = s.size
    simp [Nm.fold]
  unfold fold1
  split
  · exact ⟨h _, rfl⟩
  split
  · exact ⟨rfl, h _⟩
  · exact ⟨rfl, rfl⟩
theorem dv_one (D : Dv) : (D.cells.all fun x => x.oneCell') = true := by simp [Dv.cells, Value.oneCell']
theorem foldAll (t : Nat) (d : Dv) : (Rd.parts t).foldl fold1 d = d.fold t := by
  refine Rd.by_type (P := fun t => (Rd.parts t).foldl fold1 d = d.fold t) rfl rfl rfl rfl rfl rfl rfl rfl rfl (fun t a b c e f g h i j => ?_) t
  rw [Rd.parts_other a b c e f g h i j]
  have h1 : Rd.isHost t = false := by simp [Rd.isHost, *]
  have h2 : Rd.isMail t = false := by simp [Rd.isMail, *]
  unfold Dv.fold
  rw [h1, h2]
  rfl
set_option maxHeartbeats 4000000 in
set_option maxRecDepth 100000 in
theorem pdFold_any (t : Nat) (d : Dv) (w : World) (ht : t ≤ 65535) (hL : LayR w) (hh : d.host.size ≤ 140737488355328) (hm : d.mail.size ≤ 140737488355328) :
    Calls Tryz.prog 42 #[.int .u16 t, d.val] w fun e w' => e = .returned (d.fold t).val ∧ Below w.heap.size w w' := by
  obtain ⟨R, hR⟩ : ∃ R, (d.fold t).val = R := ⟨_, rfl⟩
  rw [hR]
  have HRES := Lib.hid hR
  clear hR
  have HL := Lib.hid hL
  clear hL
  have hval : d.val = .agg d.cells := rfl
  have HX0 : Hid (Has (w.alloc (.cells d.cells 34)) w.heap.size 34 d.cells) := Has.fresh w _ _
  have HPO : ∀ W : World, LayR W → Hid (Calls Tryz.prog 57 #[.int .u16 t] W fun e w' => e = .returned (.agg (partC t)) ∧ Below W.heap.size W w') := fun W h => partsOf_any t W ht h
  go_enter Tryz.func42, Tryz.ntmps42
  go_wp2_with (go_at_call 57; refine (HPO _ (HL.out.below (((Below.refl _ _).alloc (Nat.le_refl _) _).alloc (by simp) _) (Nat.le_refl _))).out.mono ?_; rintro e w1 ⟨rfl, B1⟩)
  have HB : Hid (Below w.heap.size w w1) := ((((Below.refl _ _).alloc (Nat.le_refl _) _).alloc (by simp) _).trans (B1.mono (by simp; omega)))
  have HD : Hid (Has w1 w.heap.size 34 d.cells) := (HX0.out.alloc _).below B1 (by simp; omega)
  have HG : Hid (Has w1 (w.heap.size + 1) 34 #[.string ⟨#[]⟩, .string ⟨#[]⟩, .string ⟨#[]⟩, .int .u32 0, .int .u32 0, .int .u32 0, .int .u32 0, .int .u32 0]) := by
    have h : Has ((w.alloc (.cells d.cells 34)).alloc (.cells #[.string ⟨#[]⟩, .string ⟨#[]⟩, .string ⟨#[]⟩, .int .u32 0, .int .u32 0, .int .u32 0, .int .u32 0, .int .u32 0] 34)) (w.alloc (.cells d.cells 34)).heap.size 34 _ := Has.fresh _ _ _
    have h2 := h.below B1 (by simp)
    have e : (w.alloc (.cells d.cells 34)).heap.size = w.heap.size + 1 := by simp
    rw [e] at h2
    exact h2
  have hz1 : w.heap.size + 1 < w1.heap.size := by have := B1.size; simp at this; omega
  clear B1 HX0
  go_loopw [9] (fun i wr => ∃ k : Nat, i = .int .i64 k ∧ k ≤ 7 ∧ Hid (Has wr w.heap.size 34 (((Rd.parts t).take k).foldl fold1 d).cells) ∧ Hid (Has wr (w.heap.size + 1) 34 #[.string ⟨#[]⟩, .string ⟨#[]⟩, .string ⟨#[]⟩, .int .u32 0, .int .u32 0, .int .u32 0, .int .u32 0, .int .u32 0]) ∧ Hid (Below w.heap.size w wr) ∧
      (((Rd.parts t).take k).foldl fold1 d).host.size ≤ 140737488355328 ∧ (((Rd.parts t).take k).foldl fold1 d).mail.size ≤ 140737488355328) (fun i _ => 7 - (intOf i).toNat)
  case atStart => exact ⟨0, rfl, by omega, HD, HG, HB, hh, hm⟩
  case round =>
    obtain ⟨k, rfl, hk, HD1, HG1, HB1, hh1, hm1⟩ := hrel
    have hg2 := HG1.out.lt
    by_cases hlt : k < 7
    · have hkl : k < (Rd.parts t).length := by rw [Rd.parts_len]; exact hlt
      have hix := part_at hkl
      have hp9 : (Rd.parts t)[k] ≤ 9 := Rd.parts_lt t _ (List.getElem_mem hkl)
      have htk : (Rd.parts t).take (k + 1) = (Rd.parts t).take k ++ [(Rd.parts t)[k]] := List.take_succ_eq_append_getElem hkl
      have hfo : ((Rd.parts t).take (k + 1)).foldl fold1 d = fold1 (((Rd.parts t).take k).foldl fold1 d) (Rd.parts t)[k] := by rw [htk, List.foldl_append]; rfl
      have hs1 := fold1_size (((Rd.parts t).take k).foldl fold1 d) (Rd.parts t)[k]
      have HFO := Lib.hid hfo
      have HS1 := Lib.hid hs1
      clear hfo htk hs1
      generalize (Rd.parts t)[k] = p at *
      generalize ((Rd.parts t).take k).foldl fold1 d = d1 at *
      obtain ⟨q, hq⟩ : ∃ q : Int, ((p : Nat) : Int) = q := ⟨_, rfl⟩
      rw [hq] at hix
      have HQ := Lib.hid hq
      clear hq
      have hq := HQ.out
      have ch := dv_host HD1.out
      have cm := dv_mail HD1.out
      by_cases p7 : p = 5 ∨ p = 6 ∨ p = 7
      · have HF1 := Lib.hid (fun W : World => Fold_any d1.host W hh1)
        have HF2 := Lib.hid (fun W : World => Fold_any d1.mail W hm1)
        by_cases p5 : p = 7
        · obtain rfl : q = 7 := by omega
          subst p5
          clear hq p7
          go_wp2_with (go_at_call 40; refine (HF2.out _).mono ?_; rintro e w2 ⟨rfl, B2⟩; have hs2 := B2.size; have HD2 := Lib.hid (HD1.out.below B2 (by omega)); have HG2 := Lib.hid (HG1.out.below B2 (by omega)); have HB2 := Lib.hid (HB1.out.trans (B2.mono (by omega))); have cm2 := dv_mail HD2.out; have fm2 := HD2.out.free 2; clear B2)
          go_roundw
          case rel => exact ⟨k + 1, by go_num, by omega, by rw [HFO.out]; exact HD2.out.set 2 _, HG2.out.far (by simp) _, HB2.out.setCell (by simp) _, by rw [HFO.out, HS1.out.1]; exact hh1, by rw [HFO.out, HS1.out.2]; exact hm1⟩
          case measure => simp [intOf]; omega
        · rcases (by omega : (p = 5 ∧ q = 5) ∨ (p = 6 ∧ q = 6)) with ⟨rfl, rfl⟩ | ⟨rfl, rfl⟩
          all_goals
            (clear hq p7 p5
             go_wp2_with (go_at_call 40; refine (HF1.out _).mono ?_; rintro e w2 ⟨rfl, B2⟩; have hs2 := B2.size; have HD2 := Lib.hid (HD1.out.below B2 (by omega)); have HG2 := Lib.hid (HG1.out.below B2 (by omega)); have HB2 := Lib.hid (HB1.out.trans (B2.mono (by omega))); have ch2 := dv_host HD2.out; have fh2 := HD2.out.free 1; clear B2)
             go_roundw
             case rel => exact ⟨k + 1, by go_num, by omega, by rw [HFO.out]; exact HD2.out.set 1 _, HG2.out.far (by simp) _, HB2.out.setCell (by simp) _, by rw [HFO.out, HS1.out.1]; exact hh1, by rw [HFO.out, HS1.out.2]; exact hm1⟩
             case measure => simp [intOf]; omega)
      · have hf1 : fold1 d1 p = d1 := by unfold fold1; rw [if_neg (by omega), if_neg (by omega)]
        have h5 : ((q : Int) == 5) = false := beq_eq_false_iff_ne.2 (by omega)
        have h6 : ((q : Int) == 6) = false := beq_eq_false_iff_ne.2 (by omega)
        have h7 : ((q : Int) == 7) = false := beq_eq_false_iff_ne.2 (by omega)
        have HF0 := Lib.hid hf1
        clear hf1 hq p7
        go_wp2
        go_roundw
        case rel => exact ⟨k + 1, by go_num, by omega, by rw [HFO.out, HF0.out]; exact HD1, HG1, HB1, by rw [HFO.out, HF0.out]; exact hh1, by rw [HFO.out, HF0.out]; exact hm1⟩
        case measure => simp [intOf]; omega
    · obtain rfl : k = 7 := by omega
      have hall : (Rd.parts t).take 7 = Rd.parts t := List.take_of_length_le (by rw [Rd.parts_len]; omega)
      rw [hall, foldAll] at HD1
      have hi8 : (Tryz.prog.info? 34).map (·.size) = some 8 := by kernel_rfl
      have HI := Lib.hid hi8
      clear hi8 hall
      generalize d.fold t = D at *
      go_wp2_with (first
        | (refine wpList_load_row rfl 34 (.tmp 3) rfl w.heap.size rfl 34 D.cells (0, 0) _ HD1.out Tryz.underlying34 rfl HI.out ?_)
        | (refine wpList_store_row rfl 34 (.tmp 4) (.tmp 27) rfl (w.heap.size + 1) D.cells rfl rfl 34 _ HG1.out HI.out rfl (dv_one D) ?_))
      refine bodyPost_ret (results_cell_row rfl _ _ (w.heap.size + 1) 34 D.cells (0, 0) _ rfl (HG1.out.row _) Tryz.underlying34 rfl HI.out) rfl ?_
      exact ⟨by rw [← HRES.out]; rfl, below_setRow HB1.out (by omega) _⟩
end Go.Proofs.YtgcaephfhfkjcaaGreatDoor
namespace Go.Proofs.YtgcaephfhfkjcaaGreatDoor
open Go.RowKit

/-- structs of k cells that stand from a slice's head on, in a block from lo on and below hi. -/
def Srow {α : Type} (enc : α → List Value) (k : Nat) (w : World) (lo hi : Nat) (A : Option Addr) (xs : List α) : Prop :=
  0 < xs.length → ∃ g o, A = some ⟨g, o, none⟩ ∧ lo ≤ g ∧ g < hi ∧ ∀ j (h : j < xs.length), w.rangeAt g (o + j * k) (enc xs[j])
theorem range_below {B : Nat} {w w' : World} (hb : Below B w w') {g o : Nat} (hg : g < B) {vs : List Value} (h : w.rangeAt g o vs) : w'.rangeAt g o vs := fun j v hj => by
  have := h j v hj
  first
    | exact (hb.cell (p := ⟨g, o + j, none⟩) hg).trans this
    | (rw [← this]; exact hb.cell (p := ⟨g, o + j, none⟩) hg)
section
variable {α : Type} {enc : α → List Value} {k : Nat} {w w' : World} {lo hi lo' hi' : Nat} {A : Option Addr} {xs : List α}
theorem Srow.nil : Srow enc k w lo hi A [] := fun h => absurd h (by simp)
theorem Srow.keep (h : Srow enc k w lo hi A xs) (hb : Below hi w w') : Srow enc k w' lo hi A xs := fun h0 => by
  obtain ⟨g, o, rfl, hlo, hhi, hc⟩ := h h0
  exact ⟨g, o, rfl, hlo, hhi, fun j hj => range_below hb hhi (hc j hj)⟩
theorem Srow.more (h : Srow enc k w lo hi A xs) (h1 : lo' ≤ lo) (h2 : hi ≤ hi') : Srow enc k w lo' hi' A xs := fun h0 => by
  obtain ⟨g, o, rfl, hlo, hhi, hc⟩ := h h0
  exact ⟨g, o, rfl, by omega, by omega, hc⟩
theorem Srow.at_ (h : Srow enc k w lo hi A xs) {j : Nat} (hj : j < xs.length) : ∃ g o, A = some ⟨g, o, none⟩ ∧ lo ≤ g ∧ g < hi ∧ w.rangeAt g (o + j * k) (enc xs[j]) := by
  obtain ⟨g, o, rfl, hlo, hhi, hc⟩ := h (by omega)
  exact ⟨g, o, rfl, hlo, hhi, hc j hj⟩
end
theorem Has.farCells {w : World} {g : Nat} {t : TypeId} {cs : Array Value} (h : Has w g t cs) {g' : Nat} (hp : g ≠ g') : ∀ (vs : List Value) (o : Nat), Has (w.setCells g' o vs) g t cs
  | [], _ => h
  | v :: r, o => by
    rw [World.setCells]
    exact Has.farCells (w := w.setCell ⟨g', o, none⟩ v) (h.far (p := ⟨g', o, none⟩) hp v) hp r (o + 1)
end Go.Proofs.YtgcaephfhfkjcaaGreatDoor
namespace Go.Proofs.YtgcaephfhfkjcaaGreatDoor
open Go.RowKit

/-- a record in small letters. -/
def Rv.fold (r : Rv) : Rv := { r with nm := ⟨(Nm.fold r.nm.data.toList).toArray⟩, d := r.d.fold r.ty }
def Rv.nums (r : Rv) : Prop := r.ty ≤ 65535 ∧ r.cl ≤ 65535
theorem rv_nm {W : World} {g : Nat} {r : Rv} {t : TypeId} (h : Has W g t r.cells) : W.cell? ⟨g, 0, none⟩ = some (.string r.nm) := by rw [h.cell]; rfl
theorem rv_ty {W : World} {g : Nat} {r : Rv} {t : TypeId} (h : Has W g t r.cells) : W.cell? ⟨g, 1, none⟩ = some (.int .u16 r.ty) := by rw [h.cell]; rfl
theorem rv_ttl {W : World} {g : Nat} {r : Rv} {t : TypeId} (h : Has W g t r.cells) : W.cell? ⟨g, 3, none⟩ = some (.int .u32 r.ttl) := by rw [h.cell]; rfl
theorem rv_data {W : World} {g : Nat} {r : Rv} {t : TypeId} (h : Has W g t r.cells) : W.rangeAt g 4 r.d.cells.toList := fun j v hj => by
  rw [h.cell]
  have hl : j < 8 := (List.getElem?_eq_some_iff.1 hj).1
  rw [← hj]
  rcases (by omega : j = 0 ∨ j = 1 ∨ j = 2 ∨ j = 3 ∨ j = 4 ∨ j = 5 ∨ j = 6 ∨ j = 7) with rfl | rfl | rfl | rfl | rfl | rfl | rfl | rfl <;> rfl
theorem rv_there {W : World} {g : Nat} {r : Rv} {t : TypeId} (h : Has W g t r.cells) : W.there g 4 8 := fun j hj => by
  refine ⟨?_, h.free _⟩
  rw [h.cell]
  rcases (by omega : j = 0 ∨ j = 1 ∨ j = 2 ∨ j = 3 ∨ j = 4 ∨ j = 5 ∨ j = 6 ∨ j = 7) with rfl | rfl | rfl | rfl | rfl | rfl | rfl | rfl <;> rfl
theorem rv_one (r : Rv) : (r.cells.all fun x => x.oneCell') = true := by simp [Rv.cells, Value.oneCell']
theorem set_range {g : Nat} {t : TypeId} : ∀ (vs : List Value) (o : Nat) (F : Array Value) {w : World}, Has w g t F → ∃ F', Has (w.setCells g o vs) g t F' ∧ F'.size = F.size ∧ (∀ B, B ≤ g → ∀ a, Below B a w → Below B a (w.setCells g o vs)) ∧ (∀ j, F'[j]? = if o ≤ j ∧ j < o + vs.length ∧ j < F.size then vs[j - o]? else F[j]?)
  | [], o, F, w, h => ⟨F, h, rfl, fun _ _ _ h => h, fun j => by rw [if_neg (by simp; omega)]⟩
  | v :: r, o, F, w, h => by
    obtain ⟨F', h1, h2, h3, h4⟩ := set_range r (o + 1) _ (h.set o v)
    refine ⟨F', h1, by simpa using h2, fun B hB a hb => h3 B hB a (hb.setCell (p := ⟨g, o, none⟩) hB v), fun j => ?_⟩
    rw [h4]
    by_cases e : o = j
    · subst e
      rw [if_neg (by omega)]
      by_cases hs : o < F.size
      · rw [if_pos ⟨by omega, by simp, hs⟩]
        simp [hs]
      · rw [if_neg (by omega)]
        simp [hs]
    · by_cases hc : o + 1 ≤ j ∧ j < o + 1 + r.length ∧ j < F.size
      · rw [if_pos (by simpa using hc), if_pos (by simp; omega)]
        rw [show j - o = (j - (o + 1)) + 1 by omega, List.getElem?_cons_succ]
      · rw [if_neg (by simpa using hc), if_neg (by simp; omega)]
        simp [e]
/-- data stored into a record. -/
theorem rv_set_data {w : World} {g : Nat} {t : TypeId} {r : Rv} (h : Has w g t r.cells) (d : Dv) : Has (w.setCells g 4 d.cells.toList) g t ({ r with d := d } : Rv).cells ∧ ∀ B, B ≤ g → ∀ a, Below B a w → Below B a (w.setCells g 4 d.cells.toList) := by
  obtain ⟨F', h1, h2, h3, h4⟩ := set_range (w := w) d.cells.toList 4 _ h
  have e : F' = ({ r with d := d } : Rv).cells := by
    apply Array.ext_getElem?
    intro j
    rw [h4]
    by_cases hj : j < 12
    · rcases (by omega : j = 0 ∨ j = 1 ∨ j = 2 ∨ j = 3 ∨ j = 4 ∨ j = 5 ∨ j = 6 ∨ j = 7 ∨ j = 8 ∨ j = 9 ∨ j = 10 ∨ j = 11) with rfl | rfl | rfl | rfl | rfl | rfl | rfl | rfl | rfl | rfl | rfl | rfl <;> rfl
    · rw [if_neg (by simp [Rv.cells]; omega), Array.getElem?_eq_none (by simp [Rv.cells]; omega), Array.getElem?_eq_none (by simp [Rv.cells]; omega)]
  rw [e] at h1
  exact ⟨h1, h3⟩
end Go.Proofs.YtgcaephfhfkjcaaGreatDoor
namespace Go.Proofs.YtgcaephfhfkjcaaGreatDoor
open Go.RowKit

theorem rv_cl {W : World} {g : Nat} {r : Rv} {t : TypeId} (h : Has W g t r.cells) : W.cell? ⟨g, 2, none⟩ = some (.int .u16 r.cl) := by rw [h.cell]; rfl
theorem folded_size (s : ByteArray) : (⟨(Nm.fold s.data.toList).toArray⟩ : ByteArray).size = s.size := by
  show ((Nm.fold s.data.toList).toArray).size = s.size
  simp [Nm.fold]
set_option maxHeartbeats 400000 in
set_option maxRecDepth 100000 in
theorem msmall_any (s : ByteArray) (w : World) (hs : s.size ≤ 140737488355328) :
    Calls Tryz.prog 23 #[.string s] w fun e w' => e = .returned (sv (Nm.text (Nm.fold s.data.toList))) ∧ Below w.heap.size w w' := by
  have HF := Lib.hid (fun W : World => Fold_any s W hs)
  have HT := Lib.hid (fun W : World => (show Calls Tryz.prog 39 #[.string ⟨(Nm.fold s.data.toList).toArray⟩] W fun e w' => e = .returned (sv (Nm.text (Nm.fold s.data.toList))) ∧ Below W.heap.size W w' from by
    have h := Text_any ⟨(Nm.fold s.data.toList).toArray⟩ W (by rw [folded_size]; exact hs)
    simpa using h))
  generalize (⟨(Nm.fold s.data.toList).toArray⟩ : ByteArray) = N at *
  generalize Nm.text (Nm.fold s.data.toList) = T at *
  go_enter Tryz.func23, Tryz.ntmps23
  go_wp2_with (first
    | (go_at_call 40
       refine (HF.out _).mono ?_
       rintro e w1 ⟨rfl, B1⟩)
    | (go_at_call 39
       refine (HT.out _).mono ?_
       rintro e w2 ⟨rfl, B2⟩
       have B3 := Lib.hid (B1.trans (B2.mono B1.size))
       clear B2))
  go_ret
  exact ⟨rfl, B3.out⟩
set_option maxHeartbeats 400000 in
set_option maxRecDepth 100000 in
theorem mcheck_any (r : Rv) (w : World) (ht : r.ty ≤ 65535) (hL : LayR w) (hf : r.d.fits) (hs : r.short) (hr : r.d.raw.size ≤ 8796093022208) :
    Calls Tryz.prog 20 #[r.val] w fun e w' => e = .returned (.int .i64 (Mp.okL r : Nat)) ∧ Below w.heap.size w w' := by
  have HN := Lib.hid (fun W : World => Check_any r.nm W hs.1)
  have HD := Lib.hid (fun (W : World) (h : LayR W) => (show Calls Tryz.prog 36 #[.int .u16 r.ty, .agg r.d.cells] W (fun e w' => e = .returned (.int .i64 (if Rd.ok r.ty r.d.dt then 0 else 40 : Nat)) ∧ Below W.heap.size W w') from pdCheck_any r.ty r.d W ht h hf hr hs.2.1 hs.2.2))
  have HL := Lib.hid hL
  have hval : r.val = .agg r.cells := rfl
  have hi8 : (Tryz.prog.info? 34).map (·.size) = some 8 := by kernel_rfl
  have HI8 := Lib.hid hi8
  clear hi8 ht hL hf hs hr
  have hX0 := Has.fresh w 36 r.cells
  have HX := Lib.hid hX0
  have HB : Hid (Below w.heap.size w (w.alloc (.cells r.cells 36))) := (Below.refl _ _).alloc (Nat.le_refl _) _
  have c0 := rv_nm HX.out
  clear hX0
  have hok : Mp.okL r = if (Nm.split r.nm.data.toList).isSome then (if r.cl = 1 then (if r.ttl ≤ 2147483647 then (if Rd.ok r.ty r.d.dt then 0 else 40) else 91) else 92) else 90 := rfl
  by_cases hn : (Nm.split r.nm.data.toList).isSome = true
  · rw [if_pos hn] at HN hok
    by_cases hc : r.cl = 1
    · have ic : (r.cl : Int) = 1 := by omega
      rw [if_pos hc] at hok
      by_cases hl : r.ttl ≤ 2147483647
      · have il : ¬ (2147483647 : Int) < (r.ttl : Int) := by omega
        rw [if_pos hl] at hok
        rw [hok]
        clear hok hn hc hl
        generalize (if Rd.ok r.ty r.d.dt = true then 0 else 40 : Nat) = Z at *
        go_enter Tryz.func20, Tryz.ntmps20
        go_wp2_with (first
          | (go_at_call 19
             refine (HN.out _).mono ?_
             rintro e w1 ⟨rfl, B1⟩
             have HX1 := Lib.hid (HX.out.below B1 (by simp))
             have HB1 := Lib.hid (HB.out.trans (B1.mono (by simp)))
             have c1 := rv_ty HX1.out
             have c2 := rv_cl HX1.out
             have c3 := rv_ttl HX1.out
             clear B1)
          | (refine wpList_load_mid rfl 34 (.tmp 18) rfl w.heap.size 4 rfl r.d.cells.toList _ (by have h := rv_data HX1.out; exact h) Tryz.underlying34 rfl HI8.out ?_)
          | (go_at_call 36
             refine (HD.out _ (HL.out.below HB1.out (Nat.le_refl _))).mono ?_
             rintro e w2 ⟨rfl, B2⟩
             have HB2 := Lib.hid (HB1.out.trans (B2.mono HB1.out.size))
             clear B2))
        go_ret
        exact ⟨rfl, HB2.out⟩
      · have il : (2147483647 : Int) < (r.ttl : Int) := by omega
        rw [if_neg hl] at hok
        rw [hok]
        clear hok hn hc hl
        go_enter Tryz.func20, Tryz.ntmps20
        go_wp2_with (go_at_call 19; refine (HN.out _).mono ?_; rintro e w1 ⟨rfl, B1⟩; have HX1 := Lib.hid (HX.out.below B1 (by simp)); have HB1 := Lib.hid (HB.out.trans (B1.mono (by simp))); have c2 := rv_cl HX1.out; have c3 := rv_ttl HX1.out; clear B1)
        go_ret
        exact ⟨rfl, HB1.out⟩
    · have ic : ¬ (r.cl : Int) = 1 := by omega
      rw [if_neg hc] at hok
      rw [hok]
      clear hok hn hc
      go_enter Tryz.func20, Tryz.ntmps20
      go_wp2_with (go_at_call 19; refine (HN.out _).mono ?_; rintro e w1 ⟨rfl, B1⟩; have HX1 := Lib.hid (HX.out.below B1 (by simp)); have HB1 := Lib.hid (HB.out.trans (B1.mono (by simp))); have c2 := rv_cl HX1.out; clear B1)
      go_ret
      exact ⟨rfl, HB1.out⟩
  · rw [if_neg hn] at HN hok
    rw [hok]
    clear hok hn
    go_enter Tryz.func20, Tryz.ntmps20
    go_wp2_with (go_at_call 19; refine (HN.out _).mono ?_; rintro e w1 ⟨rfl, B1⟩; have HB1 := Lib.hid (HB.out.trans (B1.mono (by simp))); clear B1)
    go_ret
    exact ⟨rfl, HB1.out⟩
end Go.Proofs.YtgcaephfhfkjcaaGreatDoor
namespace Go.Proofs.YtgcaephfhfkjcaaGreatDoor.Rd

/-- the words of one part; X: what bytes are told by. -/
def pcs (d : Dt) (X : Nat → List By) (n p : Nat) : List By :=
  if 1 ≤ p ∧ p ≤ 4 then X p
  else if p = 5 ∨ p = 6 then [Nm.text d.host] else if p = 7 then [Nm.text d.mail]
  else if p = 8 ∨ p = 9 then [dec (hasN d n)] else []
/-- the words of all parts of a list. -/
def wds (d : Dt) (X : Nat → List By) (ps : List Nat) : List By × Nat :=
  ps.foldl (fun s p => (s.1 ++ pcs d X s.2 p, s.2 + if p = 8 ∨ p = 9 then 1 else 0)) ([], 0)
theorem wds_n (d : Dt) (X : Nat → List By) (ps : List Nat) : (wds d X ps).2 = nums ps := by
  unfold wds
  suffices H : ∀ (ps : List Nat) (s : List By × Nat), (ps.foldl (fun s p => (s.1 ++ pcs d X s.2 p, s.2 + if p = 8 ∨ p = 9 then 1 else 0)) s).2 = s.2 + nums ps from by rw [H]; simp
  intro ps
  induction ps with
  | nil => intro s; rfl
  | cons p r ih =>
    intro s
    rw [List.foldl_cons, ih]
    have e : nums (p :: r) = (if p = 8 ∨ p = 9 then 1 else 0) + nums r := by
      unfold nums
      by_cases h : p = 8 ∨ p = 9
      · rw [if_pos h, List.filter_cons_of_pos (by simpa using h), List.length_cons]; omega
      · rw [if_neg h, List.filter_cons_of_neg (by simpa using h)]; omega
    rw [e]; simp only; omega
theorem wds_snoc (d : Dt) (X : Nat → List By) (ps : List Nat) (p : Nat) : (wds d X (ps ++ [p])).1 = (wds d X ps).1 ++ pcs d X (nums ps) p := by
  have e := wds_n d X ps
  unfold wds at e ⊢
  rw [List.foldl_append, List.foldl_cons, List.foldl_nil, e]
theorem pcs_raw {d : Dt} {X : Nat → List By} {n p : Nat} (h1 : 1 ≤ p) (h4 : p ≤ 4) : pcs d X n p = X p := by unfold pcs; rw [if_pos ⟨h1, h4⟩]
theorem pcs_len {d : Dt} {X : Nat → List By} {n p : Nat} {m : Nat} (hX : ∀ p, (X p).length ≤ m) : (pcs d X n p).length ≤ m + 1 := by
  unfold pcs
  have := hX p
  split
  · omega
  split
  · simp
  split
  · simp
  split
  · simp
  · simp
end Go.Proofs.YtgcaephfhfkjcaaGreatDoor.Rd
namespace Go.Proofs.YtgcaephfhfkjcaaGreatDoor
open Go.RowKit Go.Sort Go.Lib

/-- the table of the powers of ten is as its initialiser lays it. -/
def LayP (w : World) : Prop := ∃ t, Has w 1 t ((Lib.pow10Tab.map fun z => Value.int .u64 z).toArray)
theorem LayP.below {w w' : World} {B : Nat} (h : LayP w) (hb : Below B w w') (hB : w.heap.size ≤ B) : LayP w' := h.elim fun t h => ⟨t, h.below hb (Nat.lt_of_lt_of_le h.lt hB)⟩
theorem LayP.tab {w : World} (h : LayP w) : Lib.TabIs Tryz.prog w "internal/strconv.uint64pow10" .u64 Lib.pow10Tab := by
  obtain ⟨t, h⟩ := h
  have hg : Tryz.prog.globalNamed "internal/strconv.uint64pow10" = some 1 := by kernel_rfl
  unfold Lib.TabIs World.var?
  rw [hg]
  simp only [Option.bind_some]
  rw [show w.heap[(1 : Nat)]? = _ from h]
theorem decDigits_dec (u : Nat) : Lib.decDigits u = Rd.dec u := by
  induction u using Nat.strongRecOn with
  | ind u ih =>
    rw [Lib.decDigits, Rd.dec]
    by_cases h : u < 10
    · rw [dif_pos h, if_pos h]
    · rw [dif_neg h, if_neg h, ih _ (by omega)]
set_option maxHeartbeats 1000000 in
set_option maxRecDepth 100000 in
theorem fmtU10_any (u : Nat) (w : World) (hu64 : u < 18446744073709551616) (hL : LayP w) :
    Calls Tryz.prog 71 #[.int .u64 u, .int .i64 10] w fun e w' => e = .returned (sv (Rd.dec u)) ∧ Below w.heap.size w w' := by
  unfold sv
  rw [← decDigits_dec]
  by_cases hs : u < 100
  · go_enter Tryz.func71, Tryz.ntmps71
    go_wp2_with (go_at_call 103; refine (Tryz.internal_strconv_small u hs _).mono ?_; rintro e w' ⟨rfl, rfl⟩)
    go_ret
    exact ⟨rfl, Below.refl _ _⟩
  · have hu1 : 1 ≤ u := by omega
    have hnd20 : Lib.nDigits u ≤ 20 := by have := Lib.numDigits_eq u hu1 hu64; split at this <;> omega
    have hb3 : Lib.nDigits u ≤ 24 := by omega
    have htab := Lib.hid hL.tab
    have hal : Tryz.prog.arrayLen 155 = 24 := by kernel_rfl
    have hsl1 : ∀ W, (Instr.sliceAt 155 (.pointer (some ⟨w.heap.size, 0, none⟩)) none (some (.int .i64 (Lib.nDigits u : Int))) none).run Tryz.prog W = .ok (.slice (some ⟨w.heap.size, 0, none⟩) (Lib.nDigits u) 24) W := fun W => by
      rw [run_sliceAt_array_h W 155 ⟨w.heap.size, 0, none⟩ (by kernel_rfl) .i64 (Lib.nDigits u : Int) (by omega) (by rw [hal]; omega)]
      go_simp
    have hH0 := Lib.holds_zero0 w 155 (Lib.nDigits u) (by omega)
    have hfmt := Tryz.internal_strconv_formatBase10 w.heap.size 0 24 u (Array.replicate (Lib.nDigits u) 0) (w.alloc (.cells Lib.zeros24 155)) hH0 (by rw [Array.size_replicate]; exact Lib.lt_pow_nDigits u) hu64 (by rw [Array.size_replicate]; omega)
    rw [Array.size_replicate] at hfmt
    have HH0 := Lib.hid hH0
    have HFM := Lib.hid hfmt
    have iu : (100 : Int) ≤ (u : Int) := by omega
    clear hH0 hal hfmt hL
    go_enter Tryz.func71, Tryz.ntmps71
    go_wp2_with (first
      | (go_at_call 104; refine (Tryz.internal_strconv_numDigits u hu1 hu64 _ (Lib.tabIs_alloc htab.out _)).mono ?_; rintro e w' ⟨rfl, rfl⟩))
    go_at_call 105
    refine HFM.out.mono ?_
    rintro e w' ⟨rfl, k, v', dk, rfl, hF⟩
    have hcv : (convert 56 9 (.slice (some ⟨w.heap.size, 0, none⟩) (Lib.nDigits u) 24)).run Tryz.prog ((putRow (fun (b : UInt8) => Value.int .u8 (b.toNat : Int)) (w.alloc (.cells Lib.zeros24 155)) w.heap.size 0 dk).drewN k) = .ok (.string ⟨(Lib.decDigits u).toArray⟩) ((putRow (fun (b : UInt8) => Value.int .u8 (b.toNat : Int)) (w.alloc (.cells Lib.zeros24 155)) w.heap.size 0 dk).drewN k) := by
      have h := run_convert_bytes_back (P := Tryz.prog) ((putRow (fun (b : UInt8) => Value.int .u8 (b.toNat : Int)) (w.alloc (.cells Lib.zeros24 155)) w.heap.size 0 dk).drewN k) 56 9 5 ⟨w.heap.size, 0, none⟩ 24 (Lib.decDigits u) Tryz.underlying56 Tryz.underlying5 Tryz.underlying9 (fun j hj => by
        rw [Lib.row_is_numeral hF j hj, Lib.add_plain, World.cell?_drewN]
        exact cell?_putRow (fun (b : UInt8) => Value.int .u8 (b.toNat : Int)) _ w.heap.size 0 _ dk HH0.out (by rw [hF.size, Array.size_replicate]) j (by rw [hF.size]; rw [Lib.decDigits_length] at hj; exact hj))
      rw [Lib.decDigits_length] at h
      exact h
    obtain ⟨os, eo⟩ := Lib.fin_at w (.cells Lib.zeros24 155) dk k 0
    have HEO := Lib.hid eo
    clear eo
    go_wp2
    go_ret
    exact ⟨rfl, by rw [HEO.out]; exact Lib.below_grow _ w (Nat.le_refl _) k os⟩
set_option maxRecDepth 100000 in
theorem fmtU_any (u : Nat) (w : World) (hu64 : u < 18446744073709551616) (hL : LayP w) :
    Calls Tryz.prog 43 #[.int .u64 u, .int .i64 10] w fun e w' => e = .returned (sv (Rd.dec u)) ∧ Below w.heap.size w w' := by
  obtain ⟨v, hv⟩ : ∃ v, sv (Rd.dec u) = v := ⟨_, rfl⟩
  have HC := fmtU10_any u w hu64 hL
  rw [hv] at HC ⊢
  obtain ⟨U, hU⟩ : ∃ U : Int, ((u : Nat) : Int) = U := ⟨_, rfl⟩
  rw [hU] at HC ⊢
  have HH := Lib.hid HC
  clear HC hU hv hu64
  go_enter Tryz.func43, Tryz.ntmps43
  go_wp2_with (go_at_call 71; refine HH.out.mono ?_; rintro e w1 ⟨rfl, hb⟩)
  go_ret
  exact ⟨rfl, hb⟩
theorem itoa_any (u : Nat) (w : World) (hu : u ≤ 4294967295) (hL : LayP w) :
    Calls Tryz.prog 72 #[.int .i64 u] w fun e w' => e = .returned (sv (Rd.dec u)) ∧ Below w.heap.size w w' :=
  (Tryz.strconv_Itoa u (by omega) (by omega) w hL.tab).mono fun e w' ⟨he, k, os, hw⟩ => ⟨by rw [he, Lib.itoa_nonneg, decDigits_dec], by rw [hw]; exact Lib.below_grow _ w (Nat.le_refl _) k os⟩
end Go.Proofs.YtgcaephfhfkjcaaGreatDoor
