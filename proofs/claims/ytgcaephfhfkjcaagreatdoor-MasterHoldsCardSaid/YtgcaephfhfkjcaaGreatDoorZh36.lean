/- Texts of the proofs, merged. -/
import Derived.Test.YtgcaephfhfkjcaaGreatDoorZh6
import Derived.Test.YtgcaephfhfkjcaaGreatDoorZh35
import Derived.Deep.CutRange
namespace Go.Proofs.YtgcaephfhfkjcaaGreatDoor
open Go.RowKit

section
variable {P : Program} {w : World} {ops : Array Oper} {rest : List Oper} {op : Oper} {a : Act} {Q : Exit → Act → World → Prop}
theorem run_storeVar_at (w : World) (b o : Nat) (ty : TypeId) (v : Value) (ht : w.there b o 1) (hi : (P.info? ty).map (·.size) = some 1) (h1 : v.oneCell' = true) : (storeVar ty ⟨b, o, none⟩ v).run P w = .ok () (w.setCells b o [v]) := by
  have := run_storeCells_cells (P := P) b o [v] 0 w (fun j hj => by simpa using (ht j (by simpa using hj)).1) (fun j hj => by simpa using (ht j (by simpa using hj)).2) (fun x hx => by rw [List.mem_singleton.1 hx]; exact h1)
  have hc : v.cells = #[v] := by cases v <;> first | rfl | cases h1
  cases hq : P.info? ty with
  | none => simp [hq] at hi
  | some i =>
    have hs : i.size = 1 := by simpa [hq] using hi
    simp only [Nat.add_zero] at this
    simp [storeVar, sizeOf, typeInfo, hq, hc, hs, this]
/-- one cell of a row is stored. -/
theorem wpList_store_field (hgd : op.guard = none) (ty : TypeId) (x y : Operand) (ho : op.op = .store ty x y) (g i : Nat) (v : Value) (hx : a.eval x = .pointer (some ⟨g, i, none⟩)) (hy : a.eval y = v) (t : TypeId) (cs : Array Value) (hX : Has w g t cs) (hlt : i < cs.size)
    (h1 : v.oneCell' = true) (hi : (P.info? ty).map (·.size) = some 1)
    (h : ∀ w2, Has w2 g t (cs.setIfInBounds i v) → w.grownBy w2 (some g) → w2.heap.size = w.heap.size → wpList P ops Q rest (a.put op.dst undef) w2) : wpList P ops Q (op :: rest) a w := by
  have ht : w.there g i 1 := fun j hj => by
    obtain rfl : j = 0 := by omega
    exact ⟨by rw [Nat.add_zero, hX.cell, Array.getElem?_eq_getElem hlt]; rfl, frozen_of_row w g _ cs t hX⟩
  refine wpList_plain hgd fun _ hK => ?_
  unfold Oper.wp execOp
  simp only [ho, hx, hy, Instr.storeAt, Instr.sureAddr, Sem.run_bind, Sem.run_pure, Result.andThen_ok, run_storeVar_at w g i ty v ht hi h1]
  refine hK _ _ (h _ ?_ ?_ ?_)
  · exact hX.set i v
  · exact ⟨rfl, rfl, rfl, by simp [World.setCells], fun j _ hne => heap_setCell_other _ ⟨g, i, none⟩ j v (fun e => hne (by rw [e]))⟩
  · simp [World.setCells]
end
/-- a line while it is laid: its box, and what is wanted so far. -/
structure Mh.At (w wr W : World) (r : Hl) (v : Value) (rs : List Ma.Rc) : Prop where
  be : Below w.heap.size w W
  row : Own mcl 12 W w.heap.size 36 v rs
  box : Has W wr.heap.size 47 (hlc r).toArray
  lo : w.heap.size ≤ wr.heap.size
theorem Mh.At.below {w wr W W' : World} {r : Hl} {v : Value} {rs : List Ma.Rc} (h : Mh.At w wr W r v rs) (hb : Below W.heap.size W W') : Mh.At w wr W' r v rs :=
  ⟨h.be.trans (hb.mono h.be.size), ownK_below h.row hb (Nat.le_refl _), h.box.below hb h.box.lt, h.lo⟩
theorem Mh.At.cells {w wr W : World} {r : Hl} {v : Value} {rs : List Ma.Rc} (h : Mh.At w wr W r v rs) : W.cell? ⟨wr.heap.size, 0, none⟩ = some (.int .u8 r.how) ∧ W.cell? ⟨wr.heap.size, 1, none⟩ = some (.int .u8 r.own) ∧ W.cell? ⟨wr.heap.size, 2, none⟩ = some (.int .u16 r.ttl) ∧ W.cell? ⟨wr.heap.size, 3, none⟩ = some (.bool r.tm) ∧ W.cell? ⟨wr.heap.size, 4, none⟩ = some (.bool r.cl) ∧ W.cell? ⟨wr.heap.size, 5, none⟩ = some (.bool r.bh) := by
  refine ⟨?_, ?_, ?_, ?_, ?_, ?_⟩ <;> (rw [h.box.cell]; rfl)
/-- with the record in its box. -/
structure Mh.At2 (w wr W : World) (r : Hl) (v : Value) (rs : List Ma.Rc) (g : Nat) (x : Ma.Rc) : Prop where
  at_ : Mh.At w wr W r v rs
  box2 : Has W g 36 (rvOf x).cells
  lo : wr.heap.size < g
  ne : v.ownBlock ≠ some g
theorem Mh.At2.below {w wr W W' : World} {r : Hl} {v : Value} {rs : List Ma.Rc} {g : Nat} {x : Ma.Rc} (h : Mh.At2 w wr W r v rs g x) (hb : Below W.heap.size W W') : Mh.At2 w wr W' r v rs g x :=
  ⟨h.at_.below hb, h.box2.below hb h.box2.lt, h.lo, h.ne⟩
theorem Mh.At.boxed {w wr W W' : World} {r : Hl} {v : Value} {rs : List Ma.Rc} {x : Ma.Rc} (h : Mh.At w wr W r v rs) (hX : Has W' W.heap.size 36 (rvOf x).cells) (hg : W.grownBy W' none) : Mh.At2 w wr W' r v rs W.heap.size x :=
  ⟨h.below (below_self hg (Nat.le_refl _) (fun k e => by cases e)), hX, h.box.lt, fun e => by have := (h.row.lt _ e).2; omega⟩
theorem Mh.At2.setTTL {w wr W W' : World} {r : Hl} {v : Value} {rs : List Ma.Rc} {g : Nat} {x : Ma.Rc} {n : Nat} (h : Mh.At2 w wr W r v rs g x) (hX : Has W' g 36 ((rvOf x).cells.setIfInBounds 3 (.int .u32 n))) (hg : W.grownBy W' (some g)) : Mh.At2 w wr W' r v rs g { x with ttl := n } := by
  have hbb : Below g W W' := below_self hg (Nat.le_of_lt h.box2.lt) (fun k e => by injection e with e; omega)
  refine ⟨⟨h.at_.be.grown hg h.at_.be.size (fun k e => by injection e with e; have := h.at_.lo; have := h.lo; omega), ⟨h.at_.row.1, ?_⟩, h.at_.box.below hbb h.lo, h.at_.lo⟩, hX, h.lo, h.ne⟩
  rcases h.at_.row.2 with h0 | ⟨q, cap, cur, rfl, hb, hq, rest⟩
  · exact .inl h0
  · exact .inr ⟨q, cap, cur, rfl, hb, (hg.block q (Array.getElem?_eq_some_iff.1 hq).1 (fun e => h.ne (by rw [← e]; rfl))).trans hq, rest⟩
theorem Mh.fresh_row {w : World} {g : Nat} {X : Ma.Rc} (h : Has w g 36 (rvOf X).cells) : w.rangeAt g 0 (mcl X) := fun i u hu => by
  rw [Nat.zero_add, h.cell]
  simpa [mcl] using hu
theorem Mh.srow_of {w : World} {lo hi : Nat} {A : Option Addr} {rs : List Ma.Rc} (h : Srow mcl 12 w lo hi A rs) : Srow rcl 12 w lo hi A (rs.map rvOf) := fun h0 => by
  obtain ⟨g, o, e, h1, h2, h3⟩ := h (by simpa using h0)
  exact ⟨g, o, e, h1, h2, fun j hj => by rw [List.getElem_map]; exact h3 j (by simpa using hj)⟩
theorem Mh.srow_own {w : World} {base : Nat} {A : Option Addr} {c : Nat} {rs : List Ma.Rc} (h : Own mcl 12 w base 36 (.slice A rs.length c) rs) : Srow rcl 12 w 0 w.heap.size A (rs.map rvOf) := by
  obtain ⟨A', c', e, _, hs⟩ := Own.srow mcl_len h
  injection e with e _ _
  subst e
  exact (Mh.srow_of hs).more (Nat.zero_le _) (Nat.le_refl _)
theorem Mh.equal_any {w : World} {A B : Option Addr} {c c2 : Nat} {rs : List Ma.Rc} (hA : Srow rcl 12 w 0 w.heap.size A (rs.map rvOf)) (hB : Srow rcl 12 w 0 w.heap.size B (rs.map rvOf)) (hn : rs.length ≤ 4294967296) :
    Calls Tryz.prog 11 #[.slice A rs.length c, .slice B rs.length c2] w fun e w' => e = .returned (.bool true) ∧ Below w.heap.size w w' := by
  have := refEqual_any (rs.map rvOf) A B c c2 w hA hB (by rw [List.length_map]; exact hn)
  rwa [List.length_map] at this
theorem Mh.info_line : (Tryz.prog.info? 47).map (·.size) = some 6 := by kernel_rfl
theorem Mh.info_u32 : (Tryz.prog.info? 31).map (·.size) = some 1 := by kernel_rfl
theorem Mh.info_rec : (Tryz.prog.info? 36).map (·.size) = some 12 := by kernel_rfl
theorem Mh.hlc_one (r : Hl) : ((hlc r).toArray.all fun x => x.oneCell') = true := by simp [hlc, Value.oneCell']
/-- ahead of a line. -/
def Mh.Rel (w W : World) (ttl : Nat) (i : Nat) (b o ow : List UInt8) (h : Nat) (fx : Bool) (v : Value) : Prop := ∃ rs, Mh.Hn ttl b o ow h fx rs i ∧ Own mcl 12 W w.heap.size 36 v rs ∧ Below w.heap.size w W
set_option maxHeartbeats 8000000 in
set_option maxRecDepth 100000 in
theorem walk_MasterHolds (w : World) (hL : LayA w ∧ Lay w) (hm : ∃ m : Int, w.cell? ⟨2, 0, none⟩ = some (.int .i64 m)) (A : Option Addr) (ls : List Hl) (c : Nat) (hr : Srow hlc 6 w 0 w.heap.size A ls) (hf : ∀ r ∈ ls, r.fits) (t : Int) (ht : (Lit.int .u16 t).wf = true) :
    Calls Tryz.prog 5 #[.slice A ls.length c, .int .u16 t] w fun e w' => e = .returned (.bool true) ∧ Below w.heap.size w w' := by
  obtain ⟨ttl, rfl, httl⟩ := wf_u16h ht
  by_cases hn : ls.length ≤ 40
  · have hn2 : ¬ (40 : Int) < (ls.length : Int) := by omega
    have HG := Lib.hid (ga_lay hL.1 hL.2 hm)
    have HR := Lib.hid hr
    have HF := Lib.hid hf
    have HI6 := Lib.hid Mh.info_line
    have HI1 := Lib.hid Mh.info_u32
    have HI12 := Lib.hid Mh.info_rec
    obtain ⟨i4, z4, hi4, hz4, hs4, hb4, hc4, hf4⟩ := info_rec12
    have HT4 := Lib.hid (And.intro hi4 (And.intro hz4 (And.intro hs4 (And.intro hb4 hc4))))
    have HF4 := Lib.hid hf4
    have it : IntKind.u32.wrap (ttl : Int) = (ttl : Int) := by rw [IntKind.wrap_u32]; omega
    have HS := Lib.hid (Mh.Hn.start httl)
    clear hL hm hr hf ht hi4 hz4 hs4 hb4 hc4 hf4
    go_enter Tryz.func5, Tryz.ntmps5
    go_wp2
    go_loopw [5, 6, 7, 8, 9, 10, 11] (fun s5 s6 s7 s8 s9 s10 s11 wr => ∃ (b o ow : List UInt8) (h : Nat) (fx : Bool) (i : Nat), s5 = sv b ∧ s6 = sv o ∧ s7 = sv ow ∧ s8 = .int .u32 h ∧ s9 = .bool fx ∧ s11 = .int .i64 i ∧ i ≤ ls.length ∧ Hid (Mh.Rel w wr ttl i b o ow h fx s10)) (fun _ _ _ _ _ _ s11 _ => ls.length - (intOf s11).toNat)
    case atStart => exact ⟨[], [1, 122, 0], [], ttl, false, 0, rfl, rfl, rfl, rfl, rfl, rfl, Nat.zero_le _, [], HS.out, ⟨rfl, .inl ⟨rfl, rfl⟩⟩, Below.refl _ _⟩
    case round =>
      obtain ⟨b, o, ow, h, fx, i, rfl, rfl, rfl, rfl, rfl, rfl, hi, HRL⟩ := hrel
      obtain ⟨rs, hh, hO, hB⟩ := HRL.out
      clear HRL
      have hbl : b.length ≤ 1600 := by have := hh.len; omega
      have hol := hh.ol
      have hwl := hh.owl
      have hh65 := hh.hb
      have hrl := hh.few
      obtain ⟨vA, vc, rfl, _⟩ := ownK_form hO
      have HH := Lib.hid hh
      have HO := Lib.hid hO
      have HB := Lib.hid hB
      clear hh hO hB
      by_cases hlt : i < ls.length
      · have hlti : (i : Int) < (ls.length : Int) := by omega
        have h0i : (0 : Int) ≤ (i : Int) := by omega
        have hi40 : i < 4096 := by omega
        obtain ⟨ga, oa, hA, _, hga, hc⟩ := HR.out.at_ hlt
        subst hA
        have hfr := HF.out ls[i] (List.getElem_mem hlt)
        have hc2 : wr.rangeAt ga (oa + i * 6) (hlc ls[i]) := range_below HB.out hga hc
        have HC := Lib.hid hc2
        clear hc hc2
        generalize ls[i] = r at *
        obtain ⟨h8, h9, h16⟩ := hfr
        have hxl := Mh.lt_any r.own
        have HLT := Lib.hid (fun W : World => letter_any W h9)
        obtain ⟨x, hx⟩ : ∃ x, Mh.lt r.own = x := ⟨_, rfl⟩
        rw [hx] at HLT hxl
        clear hx
        have HUC0 := Lib.hid (fun W : World => hunder_any [x] [0] W (by simp) (by simp))
        have HUQ := Lib.hid (fun W : World => hunder_any [113] [0] W (by simp) (by simp))
        have HUCQ := Lib.hid (fun W : World => hunder_any [x] ([1] ++ [113] ++ [0]) W (by simp) (by simp))
        have HUCO := Lib.hid (fun W : World => hunder_any [x] o W (by simp) (by omega))
        have HUN := Lib.hid (fun W : World => hunder_any [110] o W (by simp) (by omega))
        have HDG := Lib.hid (fun W : World => hdigits_any r.ttl W h16)
        have hdl : (Rd.dec r.ttl).length ≤ 10 := Mh.dec_le h16
        have j1 : IntKind.i64.wrap (r.ttl : Int) = (r.ttl : Int) := IntWalk.i64_in _ (by omega)
        have j2 : IntKind.u32.wrap (r.ttl : Int) = (r.ttl : Int) := by rw [IntKind.wrap_u32]; omega
        have j3 : IntKind.i64.wrap ((i : Int) + 1) = (i : Int) + 1 := IntWalk.i64_in _ (by omega)
        have HAT : Hid (∀ w2, Has w2 wr.heap.size 47 (hlc r).toArray → wr.grownBy w2 none → Mh.At w wr w2 r (.slice vA rs.length vc) rs) := fun w2 hX hg => ⟨HB.out.grown hg HB.out.size (fun k e => by cases e), ownK_below HO.out (below_self hg (Nat.le_refl _) (fun k e => by cases e)) (Nat.le_refl _), hX, HB.out.size⟩
        have hq : r.how % 6 < 6 := Nat.mod_lt _ (by decide)
        have hqe : Int.tmod (r.how : Int) 6 = ((r.how % 6 : Nat) : Int) := by rw [Int.tmod_eq_emod_of_nonneg (by omega)]; omega
        generalize r.how % 6 = q at hq hqe
        clear HO HB HR HF hga
        go_upto_region 12 with fail
        go_upto_region 13 with (first
            | (refine wpList_load_mid rfl 47 (.tmp 31) rfl ga _ rfl (hlc r) _ HC.out Tryz.underlying47 rfl HI6.out ?_)
            | (refine wpList_store_boxed rfl 47 (.tmp 12) (.tmp 32) rfl 47 _ (hlc r).toArray rfl rfl HI6.out rfl (Mh.hlc_one r) ?_
               intro w2 hX2 g2 s2
               have HA2 := Lib.hid (HAT.out w2 hX2 g2)
               obtain ⟨x0, x1, x2, x3, x4, x5⟩ := HA2.out.cells
               clear hX2 g2 s2)
            | fail)
        simp only [Act.put]
        go_cut [13] from 23 to 130 (fun s13 wx => s13 = sv [x] ∧ Hid (Mh.At w wr wx r (.slice vA rs.length vc) rs))
        case first =>
          go_wp2_with (first
            | (go_at_call 16
               refine (HLT.out _).mono ?_
               rintro e w3 ⟨rfl, B3⟩
               have HA3 := Lib.hid (HA2.out.below B3)
               obtain ⟨x0, x1, x2, x3, x4, x5⟩ := HA3.out.cells
               clear B3)
            | fail)
          go_meet
          exact ⟨rfl, HA3.out⟩
        case rest =>
        obtain ⟨rfl, HA3⟩ := hcut
        clear HA2 x0 x1 x2 x3 x4 x5
        obtain ⟨x0, x1, x2, x3, x4, x5⟩ := HA3.out.cells
        rcases (by omega : q = 0 ∨ q = 1 ∨ 2 ≤ q) with rfl | rfl | hq2
        · clear hq
          have hqe : Int.tmod (r.how : Int) 6 = 0 := hqe
          have HN := Lib.hid (Mh.Hn.org HH.out hxl)
          go_wp2_with (first
              | (go_at_call 17
                 refine (HUC0.out _).mono ?_
                 rintro e w4 ⟨rfl, BB⟩
                 have Hw4 := Lib.hid (HA3.out.below BB)
                 obtain ⟨x0, x1, x2, x3, x4, x5⟩ := Hw4.out.cells
                 clear BB HUC0)
          )
          go_roundw
          case rel =>
            refine ⟨b ++ Mh.orgB x, [1, x, 0], ow, h, fx, i + 1, ?_, rfl, rfl, rfl, rfl, by go_num, by omega, rs, HN.out, Hw4.out.row, Hw4.out.be⟩
            exact congrArg Value.string (ByteArray.ext (by simp [Mh.orgB]))
          case measure => simp [intOf]; omega
        · clear hq
          have hqe : Int.tmod (r.how : Int) 6 = 1 := hqe
          have HN := Lib.hid (Mh.Hn.tt HH.out h16)
          go_wp2_with (first
              | (go_at_call 18
                 refine (HDG.out _).mono ?_
                 rintro e w4 ⟨rfl, BB⟩
                 have Hw4 := Lib.hid (HA3.out.below BB)
                 obtain ⟨x0, x1, x2, x3, x4, x5⟩ := Hw4.out.cells
                 clear BB HDG)
          )
          go_roundw
          case rel =>
            refine ⟨b ++ Mh.ttlB r.ttl, o, ow, r.ttl, true, i + 1, ?_, rfl, rfl, rfl, rfl, by go_num, by omega, rs, HN.out, Hw4.out.row, Hw4.out.be⟩
            exact congrArg Value.string (ByteArray.ext (by simp [Mh.ttlB]))
          case measure => simp [intOf]; omega
        · by_cases h5 : q = 5 ∧ ow = []
          · obtain ⟨rfl, rfl⟩ := h5
            clear hq hq2
            have hqe : Int.tmod (r.how : Int) 6 = 5 := hqe
            have HN := Lib.hid HH.out
            go_wp2_with fail
            go_roundw
            case rel => exact ⟨b, o, [], h, fx, i + 1, rfl, rfl, rfl, rfl, rfl, by go_num, by omega, rs, Mh.Hn.skip HN.out, HA3.out.row, HA3.out.be⟩
            case measure => simp [intOf]; omega
          · have n0 : ¬ (q : Int) = 0 := by omega
            rename_i hKK
            refine hKK _ _ ?_
            refine wp_seq_k (fun K2 hK2 => ?_)
            go_cut [5, 6, 7, 8, 9] from 23 to 130 (fun s5 s6 s7 s8 s9 wx => ∃ (T OW : List UInt8), s5 = sv T ∧ s7 = sv OW ∧ s6 = sv o ∧ s8 = .int .u32 h ∧ s9 = .bool fx ∧ T.length ≤ 1610 ∧ OW.length ≤ 5 ∧ OW.isEmpty = false ∧ Hid (∀ tm cl bh : Bool, Mh.Hn ttl (T ++ Mh.recB tm cl bh r.ttl) o OW (if tm && !fx then r.ttl else h) fx (rs ++ [⟨OW, 2, if tm then r.ttl else h, Mh.dat o⟩]) (i + 1)) ∧ Hid (Mh.At w wr wx r (.slice vA rs.length vc) rs))
            case first =>
              rcases (by omega : q = 2 ∨ q = 3 ∨ q = 4 ∨ q = 5) with rfl | rfl | rfl | rfl
              · clear hq hq2 n0
                clear h5
                have hqe : Int.tmod (r.how : Int) 6 = 2 := hqe
                go_wp2_with (first
                  | fail)
                go_meet
                exact ⟨b ++ [64], o, congrArg Value.string (ByteArray.ext (by simp)), rfl, rfl, rfl, rfl, by simp; omega, by first | (simp; done) | (simp; omega) | omega, List.isEmpty_eq_false_iff.2 (by intro e; rw [e] at hol; cases hol), fun tm cl bh => by have := Mh.Hn.at_ HH.out hi40 h16 tm cl bh; rwa [← List.append_assoc] at this, HA3.out⟩
              · clear hq hq2 n0
                clear h5
                have hqe : Int.tmod (r.how : Int) 6 = 3 := hqe
                go_wp2_with (first
                  | (go_at_call 17
                     refine (HUQ.out _).mono ?_
                     rintro e w4 ⟨rfl, BB⟩
                     have Hw4 := Lib.hid (HA3.out.below BB)
                     obtain ⟨x0, x1, x2, x3, x4, x5⟩ := Hw4.out.cells
                     clear BB HUQ)
                  | (go_at_call 17
                     refine (HUCQ.out _).mono ?_
                     rintro e w5 ⟨rfl, BB⟩
                     have Hw5 := Lib.hid (Hw4.out.below BB)
                     obtain ⟨x0, x1, x2, x3, x4, x5⟩ := Hw5.out.cells
                     clear BB HUCQ)
                  | fail)
                go_meet
                exact ⟨b ++ [x, 46, 113, 46], [1, x, 1, 113, 0], congrArg Value.string (ByteArray.ext (by simp)), rfl, rfl, rfl, rfl, by simp; omega, by first | (simp; done) | (simp; omega) | omega, rfl, fun tm cl bh => by have := Mh.Hn.far HH.out hxl hi40 h16 tm cl bh; rwa [← List.append_assoc] at this, Hw5.out⟩
              · clear hq hq2 n0
                clear h5
                have hqe : Int.tmod (r.how : Int) 6 = 4 := hqe
                go_wp2_with (first
                  | (go_at_call 17
                     refine (HUCO.out _).mono ?_
                     rintro e w5 ⟨rfl, BB⟩
                     have Hw5 := Lib.hid (HA3.out.below BB)
                     obtain ⟨x0, x1, x2, x3, x4, x5⟩ := Hw5.out.cells
                     clear BB HUCO)
                  | fail)
                go_meet
                exact ⟨b ++ [x], ([1, x] ++ o), congrArg Value.string (ByteArray.ext (by simp)), rfl, rfl, rfl, rfl, by simp; omega, by first | (simp; done) | (simp; omega) | omega, rfl, fun tm cl bh => by have := Mh.Hn.rel HH.out hxl hi40 h16 tm cl bh; rwa [← List.append_assoc] at this, Hw5.out⟩
              · clear hq hq2 n0
                have hne : ow ≠ [] := fun e => h5 ⟨rfl, e⟩
                clear h5
                have hqe : Int.tmod (r.how : Int) 6 = 5 := hqe
                go_wp2_with (first
                  | fail)
                go_meet
                exact ⟨b, ow, rfl, rfl, rfl, rfl, rfl, by omega, hwl, List.isEmpty_eq_false_iff.2 hne, fun tm cl bh => Mh.Hn.blank_rec HH.out hi40 h16 tm cl bh hne, HA3.out⟩
            case rest =>
            obtain ⟨T, OW, rfl, rfl, rfl, rfl, rfl, hTl, hOl, hne2, HNA, HAc⟩ := hcut
            obtain ⟨x0, x1, x2, x3, x4, x5⟩ := HAc.out.cells
            clear n0 h5 hq hq2 hqe HLT HUC0 HUQ HUCQ HUCO HA3
            rcases htm : r.tm with _ | _
            · rcases hcl : r.cl with _ | _
              · have HN := Lib.hid (HNA.out false false r.bh)
                go_upto_region 32 with (first
                    | fail)
                go_upto_region 33 with (first
                    | (go_at_call 17
                       refine (HUN.out _).mono ?_
                       rintro e w6 ⟨rfl, BB⟩
                       have Hw6 := Lib.hid (HAc.out.below BB)
                       obtain ⟨x0, x1, x2, x3, x4, x5⟩ := Hw6.out.cells
                       clear BB HUN)
                    | (refine wpList_store_boxed rfl 36 (.tmp 14) (.tmp 90) rfl 36 _ (rvOf ⟨OW, 2, h, Mh.dat o⟩).cells rfl rfl HI12.out rfl (rv_one _) ?_
                       intro w7 hX7 g7 s7
                       have Hw7 := Lib.hid (Hw6.out.boxed hX7 g7)
                       obtain ⟨x0, x1, x2, x3, x4, x5⟩ := Hw7.out.at_.cells
                       clear hX7 g7 s7))
                rw [htm] at x3
                rw [hcl] at x4
                go_upto_region 43 with fail
                obtain ⟨X, hX⟩ : ∃ X : Ma.Rc, X = ⟨OW, 2, h, Mh.dat o⟩ := ⟨_, rfl⟩
                have HBX : Hid (Has w7 w6.heap.size 36 (rvOf X).cells) := by rw [hX]; exact Hw7.out.box2
                have HX := Lib.hid hX
                clear hX
                go_wp2_with (first
                    | (at_builtin
                       refine wpList_append_struct2 rfl (.tmp 127) (.tmp 129) 23 rfl mcl_len 36 i4 z4 96 Tryz.underlying23 HT4.out.1 HT4.out.2.1 HT4.out.2.2.1 HT4.out.2.2.2.1 HT4.out.2.2.2.2 (by omega) w.heap.size (.slice vA rs.length vc) rs rfl H10.out.at_.row X (mcl_one _) w7.heap.size 1 rfl (Mh.fresh_row HN10.out) (by unfold maxLen; omega) (by omega) H10.out.at_.be.size ?_
                       intro v11 w11 hO11 g11 _
                       have HO11 := Lib.hid hO11
                       have HB11 := Lib.hid (H10.out.at_.be.grown g11 H10.out.at_.be.size (fun k e => (H10.out.at_.row.lt k e).1))
                       clear hO11 g11)
                    | (refine wpList_load_row rfl 36 (.tmp 14) rfl w6.heap.size rfl 36 (rvOf X).cells (0, 0) _ HBX.out Tryz.underlying36 rfl HI12.out ?_)
                    | (refine wpList_build_one rfl 23 36 (.tmp 128) rfl 12 (rvOf X).cells i4 z4 Tryz.underlying23 HT4.out.1 HT4.out.2.1 HT4.out.2.2.1 (by omega) (by omega) rfl (HF4.out _) ?_
                       intro w10 hN10 g10 s10
                       have HN10 := Lib.hid hN10
                       have H10 := Lib.hid (Hw7.out.below (below_self g10 (Nat.le_refl _) (fun k e => by cases e)))
                       clear hN10 g10 s10))
                go_roundw
                case rel =>
                  refine ⟨T ++ Mh.recB false false r.bh r.ttl, o, OW, _, _, i + 1, ?_, rfl, rfl, ?_, rfl, by go_num, by omega, rs ++ [⟨OW, 2, h, Mh.dat o⟩], HN.out, by rw [← HX.out]; exact HO11.out, HB11.out⟩
                  · exact congrArg Value.string (ByteArray.ext (by simp [Mh.recB, Mh.itB, Mh.its, Mh.tlB]))
                  · rfl
                case measure => simp [intOf]; omega
              · rcases hbh : r.bh with _ | _
                · have HN := Lib.hid (HNA.out false true false)
                  go_upto_region 32 with (first
                      | fail)
                  go_upto_region 33 with (first
                      | (go_at_call 17
                         refine (HUN.out _).mono ?_
                         rintro e w6 ⟨rfl, BB⟩
                         have Hw6 := Lib.hid (HAc.out.below BB)
                         obtain ⟨x0, x1, x2, x3, x4, x5⟩ := Hw6.out.cells
                         clear BB HUN)
                      | (refine wpList_store_boxed rfl 36 (.tmp 14) (.tmp 90) rfl 36 _ (rvOf ⟨OW, 2, h, Mh.dat o⟩).cells rfl rfl HI12.out rfl (rv_one _) ?_
                         intro w7 hX7 g7 s7
                         have Hw7 := Lib.hid (Hw6.out.boxed hX7 g7)
                         obtain ⟨x0, x1, x2, x3, x4, x5⟩ := Hw7.out.at_.cells
                         clear hX7 g7 s7))
                  rw [htm] at x3
                  rw [hcl] at x4
                  rw [hbh] at x5
                  go_upto_region 43 with fail
                  obtain ⟨X, hX⟩ : ∃ X : Ma.Rc, X = ⟨OW, 2, h, Mh.dat o⟩ := ⟨_, rfl⟩
                  have HBX : Hid (Has w7 w6.heap.size 36 (rvOf X).cells) := by rw [hX]; exact Hw7.out.box2
                  have HX := Lib.hid hX
                  clear hX
                  go_wp2_with (first
                      | (at_builtin
                         refine wpList_append_struct2 rfl (.tmp 127) (.tmp 129) 23 rfl mcl_len 36 i4 z4 96 Tryz.underlying23 HT4.out.1 HT4.out.2.1 HT4.out.2.2.1 HT4.out.2.2.2.1 HT4.out.2.2.2.2 (by omega) w.heap.size (.slice vA rs.length vc) rs rfl H10.out.at_.row X (mcl_one _) w7.heap.size 1 rfl (Mh.fresh_row HN10.out) (by unfold maxLen; omega) (by omega) H10.out.at_.be.size ?_
                         intro v11 w11 hO11 g11 _
                         have HO11 := Lib.hid hO11
                         have HB11 := Lib.hid (H10.out.at_.be.grown g11 H10.out.at_.be.size (fun k e => (H10.out.at_.row.lt k e).1))
                         clear hO11 g11)
                      | (refine wpList_load_row rfl 36 (.tmp 14) rfl w6.heap.size rfl 36 (rvOf X).cells (0, 0) _ HBX.out Tryz.underlying36 rfl HI12.out ?_)
                      | (refine wpList_build_one rfl 23 36 (.tmp 128) rfl 12 (rvOf X).cells i4 z4 Tryz.underlying23 HT4.out.1 HT4.out.2.1 HT4.out.2.2.1 (by omega) (by omega) rfl (HF4.out _) ?_
                         intro w10 hN10 g10 s10
                         have HN10 := Lib.hid hN10
                         have H10 := Lib.hid (Hw7.out.below (below_self g10 (Nat.le_refl _) (fun k e => by cases e)))
                         clear hN10 g10 s10))
                  go_roundw
                  case rel =>
                    refine ⟨T ++ Mh.recB false true false r.ttl, o, OW, _, _, i + 1, ?_, rfl, rfl, ?_, rfl, by go_num, by omega, rs ++ [⟨OW, 2, h, Mh.dat o⟩], HN.out, by rw [← HX.out]; exact HO11.out, HB11.out⟩
                    · exact congrArg Value.string (ByteArray.ext (by simp [Mh.recB, Mh.itB, Mh.its, Mh.tlB]))
                    · rfl
                  case measure => simp [intOf]; omega
                · have HN := Lib.hid (HNA.out false true true)
                  go_upto_region 32 with (first
                      | fail)
                  go_upto_region 33 with (first
                      | (go_at_call 17
                         refine (HUN.out _).mono ?_
                         rintro e w6 ⟨rfl, BB⟩
                         have Hw6 := Lib.hid (HAc.out.below BB)
                         obtain ⟨x0, x1, x2, x3, x4, x5⟩ := Hw6.out.cells
                         clear BB HUN)
                      | (refine wpList_store_boxed rfl 36 (.tmp 14) (.tmp 90) rfl 36 _ (rvOf ⟨OW, 2, h, Mh.dat o⟩).cells rfl rfl HI12.out rfl (rv_one _) ?_
                         intro w7 hX7 g7 s7
                         have Hw7 := Lib.hid (Hw6.out.boxed hX7 g7)
                         obtain ⟨x0, x1, x2, x3, x4, x5⟩ := Hw7.out.at_.cells
                         clear hX7 g7 s7))
                  rw [htm] at x3
                  rw [hcl] at x4
                  rw [hbh] at x5
                  go_upto_region 43 with fail
                  obtain ⟨X, hX⟩ : ∃ X : Ma.Rc, X = ⟨OW, 2, h, Mh.dat o⟩ := ⟨_, rfl⟩
                  have HBX : Hid (Has w7 w6.heap.size 36 (rvOf X).cells) := by rw [hX]; exact Hw7.out.box2
                  have HX := Lib.hid hX
                  clear hX
                  go_wp2_with (first
                      | (at_builtin
                         refine wpList_append_struct2 rfl (.tmp 127) (.tmp 129) 23 rfl mcl_len 36 i4 z4 96 Tryz.underlying23 HT4.out.1 HT4.out.2.1 HT4.out.2.2.1 HT4.out.2.2.2.1 HT4.out.2.2.2.2 (by omega) w.heap.size (.slice vA rs.length vc) rs rfl H10.out.at_.row X (mcl_one _) w7.heap.size 1 rfl (Mh.fresh_row HN10.out) (by unfold maxLen; omega) (by omega) H10.out.at_.be.size ?_
                         intro v11 w11 hO11 g11 _
                         have HO11 := Lib.hid hO11
                         have HB11 := Lib.hid (H10.out.at_.be.grown g11 H10.out.at_.be.size (fun k e => (H10.out.at_.row.lt k e).1))
                         clear hO11 g11)
                      | (refine wpList_load_row rfl 36 (.tmp 14) rfl w6.heap.size rfl 36 (rvOf X).cells (0, 0) _ HBX.out Tryz.underlying36 rfl HI12.out ?_)
                      | (refine wpList_build_one rfl 23 36 (.tmp 128) rfl 12 (rvOf X).cells i4 z4 Tryz.underlying23 HT4.out.1 HT4.out.2.1 HT4.out.2.2.1 (by omega) (by omega) rfl (HF4.out _) ?_
                         intro w10 hN10 g10 s10
                         have HN10 := Lib.hid hN10
                         have H10 := Lib.hid (Hw7.out.below (below_self g10 (Nat.le_refl _) (fun k e => by cases e)))
                         clear hN10 g10 s10))
                  go_roundw
                  case rel =>
                    refine ⟨T ++ Mh.recB false true true r.ttl, o, OW, _, _, i + 1, ?_, rfl, rfl, ?_, rfl, by go_num, by omega, rs ++ [⟨OW, 2, h, Mh.dat o⟩], HN.out, by rw [← HX.out]; exact HO11.out, HB11.out⟩
                    · exact congrArg Value.string (ByteArray.ext (by simp [Mh.recB, Mh.itB, Mh.its, Mh.tlB]))
                    · rfl
                  case measure => simp [intOf]; omega
            · rcases hcl : r.cl with _ | _
              · have HN := Lib.hid (HNA.out true false r.bh)
                go_upto_region 32 with (first
                    | fail)
                go_upto_region 33 with (first
                    | (go_at_call 17
                       refine (HUN.out _).mono ?_
                       rintro e w6 ⟨rfl, BB⟩
                       have Hw6 := Lib.hid (HAc.out.below BB)
                       obtain ⟨x0, x1, x2, x3, x4, x5⟩ := Hw6.out.cells
                       clear BB HUN)
                    | (refine wpList_store_boxed rfl 36 (.tmp 14) (.tmp 90) rfl 36 _ (rvOf ⟨OW, 2, h, Mh.dat o⟩).cells rfl rfl HI12.out rfl (rv_one _) ?_
                       intro w7 hX7 g7 s7
                       have Hw7 := Lib.hid (Hw6.out.boxed hX7 g7)
                       obtain ⟨x0, x1, x2, x3, x4, x5⟩ := Hw7.out.at_.cells
                       clear hX7 g7 s7))
                rw [htm] at x3
                rw [hcl] at x4
                go_upto_region 37 with (first
                    | (go_at_call 18
                       refine (HDG.out _).mono ?_
                       rintro e w8 ⟨rfl, BB⟩
                       have Hw8 := Lib.hid (Hw7.out.below BB)
                       obtain ⟨x0, x1, x2, x3, x4, x5⟩ := Hw8.out.at_.cells
                       clear BB HDG)
                    | fail)
                rw [htm] at x3
                rw [hcl] at x4
                go_upto_region 38 with (first
                    | (refine wpList_store_field rfl 31 (.tmp 112) (.tmp 111) rfl w6.heap.size 3 (.int .u32 r.ttl) rfl rfl 36 _ Hw8.out.box2 (by simp [Rv.cells]) rfl HI1.out ?_
                       intro w9 hX9 g9 s9
                       have Hw9 := Lib.hid (Hw8.out.setTTL hX9 g9)
                       obtain ⟨x0, x1, x2, x3, x4, x5⟩ := Hw9.out.at_.cells
                       have r3 : w9.cell? ⟨w6.heap.size, 3, none⟩ = some (.int .u32 r.ttl) := by rw [Hw9.out.box2.cell]; rfl
                       clear hX9 g9 s9))
                rw [htm] at x3
                rw [hcl] at x4
                cases fx with
                | false =>
                  go_upto_region 43 with fail
                  obtain ⟨X, hX⟩ : ∃ X : Ma.Rc, X = ⟨OW, 2, r.ttl, Mh.dat o⟩ := ⟨_, rfl⟩
                  have HBX : Hid (Has w9 w6.heap.size 36 (rvOf X).cells) := by rw [hX]; exact Hw9.out.box2
                  have HX := Lib.hid hX
                  clear hX
                  go_wp2_with (first
                    | (at_builtin
                       refine wpList_append_struct2 rfl (.tmp 127) (.tmp 129) 23 rfl mcl_len 36 i4 z4 96 Tryz.underlying23 HT4.out.1 HT4.out.2.1 HT4.out.2.2.1 HT4.out.2.2.2.1 HT4.out.2.2.2.2 (by omega) w.heap.size (.slice vA rs.length vc) rs rfl H10.out.at_.row X (mcl_one _) w9.heap.size 1 rfl (Mh.fresh_row HN10.out) (by unfold maxLen; omega) (by omega) H10.out.at_.be.size ?_
                       intro v11 w11 hO11 g11 _
                       have HO11 := Lib.hid hO11
                       have HB11 := Lib.hid (H10.out.at_.be.grown g11 H10.out.at_.be.size (fun k e => (H10.out.at_.row.lt k e).1))
                       clear hO11 g11)
                    | (refine wpList_load_row rfl 36 (.tmp 14) rfl w6.heap.size rfl 36 (rvOf X).cells (0, 0) _ HBX.out Tryz.underlying36 rfl HI12.out ?_)
                    | (refine wpList_build_one rfl 23 36 (.tmp 128) rfl 12 (rvOf X).cells i4 z4 Tryz.underlying23 HT4.out.1 HT4.out.2.1 HT4.out.2.2.1 (by omega) (by omega) rfl (HF4.out _) ?_
                       intro w10 hN10 g10 s10
                       have HN10 := Lib.hid hN10
                       have H10 := Lib.hid (Hw9.out.below (below_self g10 (Nat.le_refl _) (fun k e => by cases e)))
                       clear hN10 g10 s10))
                  go_roundw
                  case rel =>
                    refine ⟨T ++ Mh.recB true false r.bh r.ttl, o, OW, _, _, i + 1, ?_, rfl, rfl, ?_, rfl, by go_num, by omega, rs ++ [⟨OW, 2, r.ttl, Mh.dat o⟩], HN.out, by rw [← HX.out]; exact HO11.out, HB11.out⟩
                    · exact congrArg Value.string (ByteArray.ext (by simp [Mh.recB, Mh.itB, Mh.its, Mh.tlB]))
                    · rfl
                  case measure => simp [intOf]; omega
                | true =>
                  go_upto_region 43 with fail
                  obtain ⟨X, hX⟩ : ∃ X : Ma.Rc, X = ⟨OW, 2, r.ttl, Mh.dat o⟩ := ⟨_, rfl⟩
                  have HBX : Hid (Has w9 w6.heap.size 36 (rvOf X).cells) := by rw [hX]; exact Hw9.out.box2
                  have HX := Lib.hid hX
                  clear hX
                  go_wp2_with (first
                    | (at_builtin
                       refine wpList_append_struct2 rfl (.tmp 127) (.tmp 129) 23 rfl mcl_len 36 i4 z4 96 Tryz.underlying23 HT4.out.1 HT4.out.2.1 HT4.out.2.2.1 HT4.out.2.2.2.1 HT4.out.2.2.2.2 (by omega) w.heap.size (.slice vA rs.length vc) rs rfl H10.out.at_.row X (mcl_one _) w9.heap.size 1 rfl (Mh.fresh_row HN10.out) (by unfold maxLen; omega) (by omega) H10.out.at_.be.size ?_
                       intro v11 w11 hO11 g11 _
                       have HO11 := Lib.hid hO11
                       have HB11 := Lib.hid (H10.out.at_.be.grown g11 H10.out.at_.be.size (fun k e => (H10.out.at_.row.lt k e).1))
                       clear hO11 g11)
                    | (refine wpList_load_row rfl 36 (.tmp 14) rfl w6.heap.size rfl 36 (rvOf X).cells (0, 0) _ HBX.out Tryz.underlying36 rfl HI12.out ?_)
                    | (refine wpList_build_one rfl 23 36 (.tmp 128) rfl 12 (rvOf X).cells i4 z4 Tryz.underlying23 HT4.out.1 HT4.out.2.1 HT4.out.2.2.1 (by omega) (by omega) rfl (HF4.out _) ?_
                       intro w10 hN10 g10 s10
                       have HN10 := Lib.hid hN10
                       have H10 := Lib.hid (Hw9.out.below (below_self g10 (Nat.le_refl _) (fun k e => by cases e)))
                       clear hN10 g10 s10))
                  go_roundw
                  case rel =>
                    refine ⟨T ++ Mh.recB true false r.bh r.ttl, o, OW, _, _, i + 1, ?_, rfl, rfl, ?_, rfl, by go_num, by omega, rs ++ [⟨OW, 2, r.ttl, Mh.dat o⟩], HN.out, by rw [← HX.out]; exact HO11.out, HB11.out⟩
                    · exact congrArg Value.string (ByteArray.ext (by simp [Mh.recB, Mh.itB, Mh.its, Mh.tlB]))
                    · rfl
                  case measure => simp [intOf]; omega
              · rcases hbh : r.bh with _ | _
                · have HN := Lib.hid (HNA.out true true false)
                  go_upto_region 32 with (first
                      | fail)
                  go_upto_region 33 with (first
                      | (go_at_call 17
                         refine (HUN.out _).mono ?_
                         rintro e w6 ⟨rfl, BB⟩
                         have Hw6 := Lib.hid (HAc.out.below BB)
                         obtain ⟨x0, x1, x2, x3, x4, x5⟩ := Hw6.out.cells
                         clear BB HUN)
                      | (refine wpList_store_boxed rfl 36 (.tmp 14) (.tmp 90) rfl 36 _ (rvOf ⟨OW, 2, h, Mh.dat o⟩).cells rfl rfl HI12.out rfl (rv_one _) ?_
                         intro w7 hX7 g7 s7
                         have Hw7 := Lib.hid (Hw6.out.boxed hX7 g7)
                         obtain ⟨x0, x1, x2, x3, x4, x5⟩ := Hw7.out.at_.cells
                         clear hX7 g7 s7))
                  rw [htm] at x3
                  rw [hcl] at x4
                  rw [hbh] at x5
                  go_upto_region 37 with (first
                      | (go_at_call 18
                         refine (HDG.out _).mono ?_
                         rintro e w8 ⟨rfl, BB⟩
                         have Hw8 := Lib.hid (Hw7.out.below BB)
                         obtain ⟨x0, x1, x2, x3, x4, x5⟩ := Hw8.out.at_.cells
                         clear BB HDG)
                      | fail)
                  rw [htm] at x3
                  rw [hcl] at x4
                  rw [hbh] at x5
                  go_upto_region 38 with (first
                      | (refine wpList_store_field rfl 31 (.tmp 112) (.tmp 111) rfl w6.heap.size 3 (.int .u32 r.ttl) rfl rfl 36 _ Hw8.out.box2 (by simp [Rv.cells]) rfl HI1.out ?_
                         intro w9 hX9 g9 s9
                         have Hw9 := Lib.hid (Hw8.out.setTTL hX9 g9)
                         obtain ⟨x0, x1, x2, x3, x4, x5⟩ := Hw9.out.at_.cells
                         have r3 : w9.cell? ⟨w6.heap.size, 3, none⟩ = some (.int .u32 r.ttl) := by rw [Hw9.out.box2.cell]; rfl
                         clear hX9 g9 s9))
                  rw [htm] at x3
                  rw [hcl] at x4
                  rw [hbh] at x5
                  cases fx with
                  | false =>
                    go_upto_region 43 with fail
                    obtain ⟨X, hX⟩ : ∃ X : Ma.Rc, X = ⟨OW, 2, r.ttl, Mh.dat o⟩ := ⟨_, rfl⟩
                    have HBX : Hid (Has w9 w6.heap.size 36 (rvOf X).cells) := by rw [hX]; exact Hw9.out.box2
                    have HX := Lib.hid hX
                    clear hX
                    go_wp2_with (first
                      | (at_builtin
                         refine wpList_append_struct2 rfl (.tmp 127) (.tmp 129) 23 rfl mcl_len 36 i4 z4 96 Tryz.underlying23 HT4.out.1 HT4.out.2.1 HT4.out.2.2.1 HT4.out.2.2.2.1 HT4.out.2.2.2.2 (by omega) w.heap.size (.slice vA rs.length vc) rs rfl H10.out.at_.row X (mcl_one _) w9.heap.size 1 rfl (Mh.fresh_row HN10.out) (by unfold maxLen; omega) (by omega) H10.out.at_.be.size ?_
                         intro v11 w11 hO11 g11 _
                         have HO11 := Lib.hid hO11
                         have HB11 := Lib.hid (H10.out.at_.be.grown g11 H10.out.at_.be.size (fun k e => (H10.out.at_.row.lt k e).1))
                         clear hO11 g11)
                      | (refine wpList_load_row rfl 36 (.tmp 14) rfl w6.heap.size rfl 36 (rvOf X).cells (0, 0) _ HBX.out Tryz.underlying36 rfl HI12.out ?_)
                      | (refine wpList_build_one rfl 23 36 (.tmp 128) rfl 12 (rvOf X).cells i4 z4 Tryz.underlying23 HT4.out.1 HT4.out.2.1 HT4.out.2.2.1 (by omega) (by omega) rfl (HF4.out _) ?_
                         intro w10 hN10 g10 s10
                         have HN10 := Lib.hid hN10
                         have H10 := Lib.hid (Hw9.out.below (below_self g10 (Nat.le_refl _) (fun k e => by cases e)))
                         clear hN10 g10 s10))
                    go_roundw
                    case rel =>
                      refine ⟨T ++ Mh.recB true true false r.ttl, o, OW, _, _, i + 1, ?_, rfl, rfl, ?_, rfl, by go_num, by omega, rs ++ [⟨OW, 2, r.ttl, Mh.dat o⟩], HN.out, by rw [← HX.out]; exact HO11.out, HB11.out⟩
                      · exact congrArg Value.string (ByteArray.ext (by simp [Mh.recB, Mh.itB, Mh.its, Mh.tlB]))
                      · rfl
                    case measure => simp [intOf]; omega
                  | true =>
                    go_upto_region 43 with fail
                    obtain ⟨X, hX⟩ : ∃ X : Ma.Rc, X = ⟨OW, 2, r.ttl, Mh.dat o⟩ := ⟨_, rfl⟩
                    have HBX : Hid (Has w9 w6.heap.size 36 (rvOf X).cells) := by rw [hX]; exact Hw9.out.box2
                    have HX := Lib.hid hX
                    clear hX
                    go_wp2_with (first
                      | (at_builtin
                         refine wpList_append_struct2 rfl (.tmp 127) (.tmp 129) 23 rfl mcl_len 36 i4 z4 96 Tryz.underlying23 HT4.out.1 HT4.out.2.1 HT4.out.2.2.1 HT4.out.2.2.2.1 HT4.out.2.2.2.2 (by omega) w.heap.size (.slice vA rs.length vc) rs rfl H10.out.at_.row X (mcl_one _) w9.heap.size 1 rfl (Mh.fresh_row HN10.out) (by unfold maxLen; omega) (by omega) H10.out.at_.be.size ?_
                         intro v11 w11 hO11 g11 _
                         have HO11 := Lib.hid hO11
                         have HB11 := Lib.hid (H10.out.at_.be.grown g11 H10.out.at_.be.size (fun k e => (H10.out.at_.row.lt k e).1))
                         clear hO11 g11)
                      | (refine wpList_load_row rfl 36 (.tmp 14) rfl w6.heap.size rfl 36 (rvOf X).cells (0, 0) _ HBX.out Tryz.underlying36 rfl HI12.out ?_)
                      | (refine wpList_build_one rfl 23 36 (.tmp 128) rfl 12 (rvOf X).cells i4 z4 Tryz.underlying23 HT4.out.1 HT4.out.2.1 HT4.out.2.2.1 (by omega) (by omega) rfl (HF4.out _) ?_
                         intro w10 hN10 g10 s10
                         have HN10 := Lib.hid hN10
                         have H10 := Lib.hid (Hw9.out.below (below_self g10 (Nat.le_refl _) (fun k e => by cases e)))
                         clear hN10 g10 s10))
                    go_roundw
                    case rel =>
                      refine ⟨T ++ Mh.recB true true false r.ttl, o, OW, _, _, i + 1, ?_, rfl, rfl, ?_, rfl, by go_num, by omega, rs ++ [⟨OW, 2, r.ttl, Mh.dat o⟩], HN.out, by rw [← HX.out]; exact HO11.out, HB11.out⟩
                      · exact congrArg Value.string (ByteArray.ext (by simp [Mh.recB, Mh.itB, Mh.its, Mh.tlB]))
                      · rfl
                    case measure => simp [intOf]; omega
                · have HN := Lib.hid (HNA.out true true true)
                  go_upto_region 32 with (first
                      | fail)
                  go_upto_region 33 with (first
                      | (go_at_call 17
                         refine (HUN.out _).mono ?_
                         rintro e w6 ⟨rfl, BB⟩
                         have Hw6 := Lib.hid (HAc.out.below BB)
                         obtain ⟨x0, x1, x2, x3, x4, x5⟩ := Hw6.out.cells
                         clear BB HUN)
                      | (refine wpList_store_boxed rfl 36 (.tmp 14) (.tmp 90) rfl 36 _ (rvOf ⟨OW, 2, h, Mh.dat o⟩).cells rfl rfl HI12.out rfl (rv_one _) ?_
                         intro w7 hX7 g7 s7
                         have Hw7 := Lib.hid (Hw6.out.boxed hX7 g7)
                         obtain ⟨x0, x1, x2, x3, x4, x5⟩ := Hw7.out.at_.cells
                         clear hX7 g7 s7))
                  rw [htm] at x3
                  rw [hcl] at x4
                  rw [hbh] at x5
                  go_upto_region 37 with (first
                      | (go_at_call 18
                         refine (HDG.out _).mono ?_
                         rintro e w8 ⟨rfl, BB⟩
                         have Hw8 := Lib.hid (Hw7.out.below BB)
                         obtain ⟨x0, x1, x2, x3, x4, x5⟩ := Hw8.out.at_.cells
                         clear BB HDG)
                      | fail)
                  rw [htm] at x3
                  rw [hcl] at x4
                  rw [hbh] at x5
                  go_upto_region 38 with (first
                      | (refine wpList_store_field rfl 31 (.tmp 112) (.tmp 111) rfl w6.heap.size 3 (.int .u32 r.ttl) rfl rfl 36 _ Hw8.out.box2 (by simp [Rv.cells]) rfl HI1.out ?_
                         intro w9 hX9 g9 s9
                         have Hw9 := Lib.hid (Hw8.out.setTTL hX9 g9)
                         obtain ⟨x0, x1, x2, x3, x4, x5⟩ := Hw9.out.at_.cells
                         have r3 : w9.cell? ⟨w6.heap.size, 3, none⟩ = some (.int .u32 r.ttl) := by rw [Hw9.out.box2.cell]; rfl
                         clear hX9 g9 s9))
                  rw [htm] at x3
                  rw [hcl] at x4
                  rw [hbh] at x5
                  cases fx with
                  | false =>
                    go_upto_region 43 with fail
                    obtain ⟨X, hX⟩ : ∃ X : Ma.Rc, X = ⟨OW, 2, r.ttl, Mh.dat o⟩ := ⟨_, rfl⟩
                    have HBX : Hid (Has w9 w6.heap.size 36 (rvOf X).cells) := by rw [hX]; exact Hw9.out.box2
                    have HX := Lib.hid hX
                    clear hX
                    go_wp2_with (first
                      | (at_builtin
                         refine wpList_append_struct2 rfl (.tmp 127) (.tmp 129) 23 rfl mcl_len 36 i4 z4 96 Tryz.underlying23 HT4.out.1 HT4.out.2.1 HT4.out.2.2.1 HT4.out.2.2.2.1 HT4.out.2.2.2.2 (by omega) w.heap.size (.slice vA rs.length vc) rs rfl H10.out.at_.row X (mcl_one _) w9.heap.size 1 rfl (Mh.fresh_row HN10.out) (by unfold maxLen; omega) (by omega) H10.out.at_.be.size ?_
                         intro v11 w11 hO11 g11 _
                         have HO11 := Lib.hid hO11
                         have HB11 := Lib.hid (H10.out.at_.be.grown g11 H10.out.at_.be.size (fun k e => (H10.out.at_.row.lt k e).1))
                         clear hO11 g11)
                      | (refine wpList_load_row rfl 36 (.tmp 14) rfl w6.heap.size rfl 36 (rvOf X).cells (0, 0) _ HBX.out Tryz.underlying36 rfl HI12.out ?_)
                      | (refine wpList_build_one rfl 23 36 (.tmp 128) rfl 12 (rvOf X).cells i4 z4 Tryz.underlying23 HT4.out.1 HT4.out.2.1 HT4.out.2.2.1 (by omega) (by omega) rfl (HF4.out _) ?_
                         intro w10 hN10 g10 s10
                         have HN10 := Lib.hid hN10
                         have H10 := Lib.hid (Hw9.out.below (below_self g10 (Nat.le_refl _) (fun k e => by cases e)))
                         clear hN10 g10 s10))
                    go_roundw
                    case rel =>
                      refine ⟨T ++ Mh.recB true true true r.ttl, o, OW, _, _, i + 1, ?_, rfl, rfl, ?_, rfl, by go_num, by omega, rs ++ [⟨OW, 2, r.ttl, Mh.dat o⟩], HN.out, by rw [← HX.out]; exact HO11.out, HB11.out⟩
                      · exact congrArg Value.string (ByteArray.ext (by simp [Mh.recB, Mh.itB, Mh.its, Mh.tlB]))
                      · rfl
                    case measure => simp [intOf]; omega
                  | true =>
                    go_upto_region 43 with fail
                    obtain ⟨X, hX⟩ : ∃ X : Ma.Rc, X = ⟨OW, 2, r.ttl, Mh.dat o⟩ := ⟨_, rfl⟩
                    have HBX : Hid (Has w9 w6.heap.size 36 (rvOf X).cells) := by rw [hX]; exact Hw9.out.box2
                    have HX := Lib.hid hX
                    clear hX
                    go_wp2_with (first
                      | (at_builtin
                         refine wpList_append_struct2 rfl (.tmp 127) (.tmp 129) 23 rfl mcl_len 36 i4 z4 96 Tryz.underlying23 HT4.out.1 HT4.out.2.1 HT4.out.2.2.1 HT4.out.2.2.2.1 HT4.out.2.2.2.2 (by omega) w.heap.size (.slice vA rs.length vc) rs rfl H10.out.at_.row X (mcl_one _) w9.heap.size 1 rfl (Mh.fresh_row HN10.out) (by unfold maxLen; omega) (by omega) H10.out.at_.be.size ?_
                         intro v11 w11 hO11 g11 _
                         have HO11 := Lib.hid hO11
                         have HB11 := Lib.hid (H10.out.at_.be.grown g11 H10.out.at_.be.size (fun k e => (H10.out.at_.row.lt k e).1))
                         clear hO11 g11)
                      | (refine wpList_load_row rfl 36 (.tmp 14) rfl w6.heap.size rfl 36 (rvOf X).cells (0, 0) _ HBX.out Tryz.underlying36 rfl HI12.out ?_)
                      | (refine wpList_build_one rfl 23 36 (.tmp 128) rfl 12 (rvOf X).cells i4 z4 Tryz.underlying23 HT4.out.1 HT4.out.2.1 HT4.out.2.2.1 (by omega) (by omega) rfl (HF4.out _) ?_
                         intro w10 hN10 g10 s10
                         have HN10 := Lib.hid hN10
                         have H10 := Lib.hid (Hw9.out.below (below_self g10 (Nat.le_refl _) (fun k e => by cases e)))
                         clear hN10 g10 s10))
                    go_roundw
                    case rel =>
                      refine ⟨T ++ Mh.recB true true true r.ttl, o, OW, _, _, i + 1, ?_, rfl, rfl, ?_, rfl, by go_num, by omega, rs ++ [⟨OW, 2, r.ttl, Mh.dat o⟩], HN.out, by rw [← HX.out]; exact HO11.out, HB11.out⟩
                      · exact congrArg Value.string (ByteArray.ext (by simp [Mh.recB, Mh.itB, Mh.its, Mh.tlB]))
                      · rfl
                    case measure => simp [intOf]; omega
      · have hie : i = ls.length := by omega
        subst hie
        have i1 : ¬ (ls.length : Int) < (ls.length : Int) := by omega
        obtain ⟨O, el, es, _, _, hT, hw, hle, he⟩ := HH.out.st
        have HP := Lib.hid (parse_ok (text := ⟨b.toArray⟩) (origin := ⟨#[1, 90, 0]⟩) (ttl := ttl) (es := es) (w := wr) (by rw [mk_size]; omega) (by kernel_rfl) (by decide) (by omega) ((HG.out.below HB.out).more HB.out.size) (Tk.Tl.done hT trivial) (fun e h => ⟨(hw e h).1, fun x hx => by have := (hw e h).2 x hx; omega⟩) (by omega) he)
        have HRF := Lib.hid (fun W : World => maReads_any W)
        clear HR HF HI6 HI1 HI12 HT4 HF4 HS hT hw hle he HH
        go_wp2_with (first
          | (go_at_call 14
             refine HP.out.mono ?_
             rintro e w1 ⟨v, rfl, hr1, hb1⟩
             have HB1 := Lib.hid (HB.out.trans (hb1.mono HB.out.size))
             have HO1 := Lib.hid (ownK_below HO.out hb1 (Nat.le_refl _))
             obtain ⟨rA, rc, rfl, _, hs1⟩ := Own.srow mcl_len hr1
             have HS1 := Lib.hid (Mh.srow_of hs1)
             clear hr1 hb1 hs1)
          | (go_at_call 11
             refine (Mh.equal_any ((HS1.out.keep ((Below.refl _ _).alloc (Nat.le_refl _) _)).more (Nat.zero_le _) (Nat.le_of_lt (Nat.lt_of_lt_of_eq (Nat.lt_succ_self _) (World.size_alloc _ _).symm))) ((Mh.srow_own (ownK_below HO1.out ((Below.refl _ _).alloc (Nat.le_refl _) _) (Nat.le_refl _)))) (by omega)).mono ?_
             rintro e w2 ⟨rfl, B2⟩
             have HB2 := Lib.hid ((HB1.out.alloc HB1.out.size _).trans (B2.mono (HB1.out.alloc HB1.out.size _).size))
             clear B2)
          | (go_at_call 12
             refine (HRF.out _ ((HG.out.below HB2.out).more HB2.out.size)).mono ?_
             rintro e w3 ⟨rfl, B3⟩
             have HB3 := Lib.hid (HB2.out.trans (B3.mono HB2.out.size))
             clear B3))
        go_ret
        exact ⟨rfl, HB3.out⟩
  · have hn2 : (40 : Int) < (ls.length : Int) := by omega
    go_enter Tryz.func5, Tryz.ntmps5
    go_wp2
    go_ret
    exact ⟨rfl, Below.refl _ _⟩
end Go.Proofs.YtgcaephfhfkjcaaGreatDoor
