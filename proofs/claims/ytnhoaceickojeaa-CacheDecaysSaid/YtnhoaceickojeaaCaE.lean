/- Merged: CaPutA CaPut CaGet CaNew. -/
import Derived.Test.YtnhoaceickojeaaCaD
import Derived.Test.YtnhoaceickojeaaLabels
import Derived.Deep.CutRange
/- A Put, as far as its entry is built: words and facts. -/
namespace Go.Proofs.Ytnhoaceickojeaa.Ca
open Go.RowKit

theorem Tch.cell {S : List Nat} {w w' : World} (h : Tch S w w') {g o : Nat} {v : Value} (hn : g ∉ S) (hc : w.cell? ⟨g, o, none⟩ = some v) : w'.cell? ⟨g, o, none⟩ = some v :=
  (World.cell?_of_block (w := w) (a := ⟨g, o, none⟩) (h.same g (World.block_lt_of_cell? _ _ hc) hn)).trans hc
theorem srow_tch {α : Type} {enc : α → List Value} {k : Nat} {w w' : World} {lo hi : Nat} {A : Option Addr} {xs : List α} {S : List Nat} (h : Srow enc k w lo hi A xs) (ht : Tch S w w') (hA : ∀ a, A = some a → 0 < xs.length → a.block ∉ S) : Srow enc k w' lo hi A xs := fun h0 => by
  obtain ⟨g, o, rfl, hlo, hhi, hc⟩ := h h0
  exact ⟨g, o, rfl, hlo, hhi, fun j hj i u hu => ht.cell (hA _ rfl h0) (hc j hj i u hu)⟩
namespace Aw
/-- its rows lie in none of these blocks. -/
def away (x : Aw) (S : List Nat) : Prop := (∀ a, x.A1 = some a → 0 < x.a.an.length → a.block ∉ S) ∧ (∀ a, x.A2 = some a → 0 < x.a.au.length → a.block ∉ S) ∧ (∀ a, x.A3 = some a → 0 < x.a.ex.length → a.block ∉ S)
theorem lies.tch {x : Aw} {w w' : World} {S : List Nat} (h : x.lies w) (ht : Tch S w w') (ha : x.away S) : x.lies w' :=
  ⟨(srow_tch h.s1 ht ha.1).more (Nat.le_refl _) ht.size, (srow_tch h.s2 ht ha.2.1).more (Nat.le_refl _) ht.size, (srow_tch h.s3 ht ha.2.2).more (Nat.le_refl _) ht.size, h.n1, h.n2, h.n3⟩
end Aw
theorem srow_in {α : Type} {enc : α → List Value} {k : Nat} {w : World} {lo hi : Nat} {A : Option Addr} {xs : List α} (h : Srow enc k w lo hi A xs) : ∀ a, A = some a → 0 < xs.length → a.block < hi := fun a ha h0 => by
  obtain ⟨g, o, rfl, _, hhi, _⟩ := h h0
  cases ha
  exact hhi
theorem CM.lt {w : World} {lo c m room : Nat} {sn : Int} {l : List Nd} (h : CM w lo c m room sn l) : ∀ k ∈ foot c m l, k < w.heap.size := fun k hk => by
  simp only [foot, List.mem_cons, List.mem_append, List.mem_flatMap] at hk
  rcases hk with rfl | rfl | hk | ⟨d, hd, hk⟩
  · exact h.rm.head.lt
  · exact h.mq.lt
  · exact h.rm.ch.lt k hk
  · exact (h.rows d hd).lt k hk
theorem CM.below {w w' : World} {lo c m room : Nat} {sn : Int} {l : List Nd} (h : CM w lo c m room sn l) (hb : Below w.heap.size w w') : CM w' lo c m room sn l := h.tch (S := []) (Tch.of_below hb) (by simp)
theorem a_cells {w : World} {g : Nat} {t : TypeId} {a b c d e : Value} (h : Has w g t #[a, b, c, d, e]) : w.cell? ⟨g, 0, none⟩ = some a ∧ w.cell? ⟨g, 1, none⟩ = some b ∧ w.cell? ⟨g, 2, none⟩ = some c ∧ w.cell? ⟨g, 3, none⟩ = some d ∧ w.cell? ⟨g, 4, none⟩ = some e := by
  refine ⟨?_, ?_, ?_, ?_, ?_⟩ <;> rw [h.cell] <;> rfl
theorem foot_sub {c m : Nat} {l l' : List Nd} (h : l'.Sublist l) : ∀ k ∈ foot c m l', k ∈ foot c m l := fun k hk => by
  simp only [foot, List.mem_cons, List.mem_append, List.mem_flatMap] at hk ⊢
  rcases hk with e | e | e | ⟨d, hd, hk⟩
  · exact .inl e
  · exact .inr (.inl e)
  · exact .inr (.inr (.inl ((h.map Nd.b).subset e)))
  · exact .inr (.inr (.inr ⟨d, h.subset hd, hk⟩))
theorem foot_bs {c m : Nat} {l : List Nd} : ∀ k ∈ c :: m :: bs l, k ∈ foot c m l := fun k hk => by
  simp only [foot, List.mem_cons, List.mem_append] at hk ⊢
  rcases hk with e | e | e
  · exact .inl e
  · exact .inr (.inl e)
  · exact .inr (.inr (.inl e))
theorem isN_le {s : ByteArray} (h : isN s = true) : s.size ≤ 255 := by
  unfold isN at h
  cases hs : Nm.split s.data.toList with
  | none => rw [hs] at h; cases h
  | some ls =>
    unfold Nm.split at hs
    split at hs
    · cases hs
    · rename_i h1
      have : s.data.toList.length = s.size := by simp
      omega
end Go.Proofs.Ytnhoaceickojeaa.Ca
/- Put: the program's. -/
namespace Go.Proofs.Ytnhoaceickojeaa.Ca
open Go.RowKit

/-- what Put leaves. -/
def PutP (w : World) (lo c m room : Nat) (l : List Nd) (row : List En) (r : Value) (e : Ending) (w' : World) : Prop :=
  e = .returned r ∧ ∃ sn' l', CM w' lo c m room sn' l' ∧ Soon sn' l' ∧ l'.map Nd.e = row ∧ Tch (c :: m :: bs l) w w' ∧ (∀ k ∈ foot c m l', k ∈ foot c m l ∨ w.heap.size ≤ k)
theorem put_no {w W : World} {lo c m room nw : Nat} {s : Int} {l l1 : List Nd} {q : Kv} {a : Av} (hok : putOk q a = false) (hC : CM W lo c m room s l1) (hs : Soon s l1) (hm : l1.map Nd.e = sweep id nw (l.map Nd.e)) (hsub : l1.Sublist l) (hT : Tch (c :: m :: bs l) w W) :
    PutP w lo c m room l (putR room nw q a (l.map Nd.e)) (.bool (putOk q a)) (.returned (.bool false)) W := by
  refine ⟨by rw [hok], s, l1, hC, hs, ?_, hT, fun k hk => .inl (foot_sub hsub k hk)⟩
  unfold putR
  rw [hok, hm]
  rfl
theorem bs_sub {c m : Nat} {l l' : List Nd} (h : l'.Sublist l) : ∀ k ∈ c :: m :: bs l', k ∈ c :: m :: bs l := fun k hk => by
  simp only [List.mem_cons] at hk ⊢
  rcases hk with e | e | e
  · exact .inl e
  · exact .inr (.inl e)
  · exact .inr (.inr ((h.map Nd.b).subset e))
theorem own_alloc {w : World} {b : Nat} {v : Value} {xs : List Rv} {o : Obj} (h : Own rcl 12 w b 50 v xs) : Own rcl 12 (w.alloc o) b 50 v xs := own_below h ((Below.refl _ _).alloc (Nat.le_refl _) _) (Nat.le_refl _)
theorem put_rows {W : World} {b B : Nat} {d : Nd} (ho : Own rcl 12 W b 50 d.v1 (d.e.ans.an.map foldR) ∧ Own rcl 12 W b 50 d.v2 (d.e.ans.au.map foldR) ∧ Own rcl 12 W b 50 d.v3 (d.e.ans.ex.map foldR)) (hb : B ≤ b) : ∀ k ∈ d.rows, B ≤ k ∧ k < W.heap.size := fun k hk => by
  have hr : ∀ (v : Value) (xs : List Rv), Own rcl 12 W b 50 v xs → k ∈ rowB v → B ≤ k ∧ k < W.heap.size := fun v xs h hk => by
    unfold rowB at hk
    cases ho : v.ownBlock with
    | none => rw [ho] at hk; simp at hk
    | some z =>
      rw [ho] at hk
      simp at hk
      subst hk
      have := World.ownsRow.lt h _ ho
      exact ⟨by omega, this.2⟩
  unfold Nd.rows at hk
  rcases List.mem_append.1 hk with hk | hk
  · exact hr _ _ ho.1 hk
  · rcases List.mem_append.1 hk with hk | hk
    · exact hr _ _ ho.2.1 hk
    · exact hr _ _ ho.2.2 hk
theorem put_yes {room nw : Nat} {q : Kv} {a : Av} {l l2 : List Nd} {d : Nd} (hok : putOk q a = true) (hm : l2.map Nd.e = drop id (foldK q) (sweep id nw (l.map Nd.e))) (hd : d.e = ⟨foldK q, a, nw, life a⟩) :
    putR room nw q a (l.map Nd.e) = if room < l2.length + 1 then ((l2 ++ [d]).drop 1).map Nd.e else (l2 ++ [d]).map Nd.e := by
  unfold putR putL
  have e : drop id (foldK q) (sweep id nw (l.map Nd.e)) ++ [⟨foldK q, a, nw, life a⟩] = (l2 ++ [d]).map Nd.e := by rw [List.map_append, ← hm, List.map_cons, List.map_nil, hd]
  rw [hok, if_pos rfl]
  dsimp only
  rw [e]
  have hl : ((l2 ++ [d]).map Nd.e).length = l2.length + 1 := by simp
  rw [hl, List.map_drop]
/-- what keep leaves. -/
def KeepP (w : World) (lo c m room : Nat) (l : List Nd) (e : En) (r : Ending) (w' : World) : Prop :=
  r = .returned (.tuple #[]) ∧ ∃ d sn', Hid (CM w' lo c m room sn' (l ++ [d]) ∧ Soon sn' (l ++ [d]) ∧ d.e = e ∧ (∀ k ∈ foot c m (l ++ [d]), k ∈ foot c m l ∨ w.heap.size ≤ k) ∧ w.heap.size ≤ d.b) ∧ Tch (c :: m :: bs l) w w'
theorem put_keep {w W : World} {lo c m room : Nat} {sn : Int} {l : List Nd} (hC : CM w lo c m room sn l) (hs : Soon sn l) (e : En) (hok : e.ok) (hkey : ∀ y ∈ l, y.e.key ≠ e.key) (b : Nat) (v1 v2 v3 : Value) (hb : w.heap.size ≤ b) (ht : Below w.heap.size w W)
    (ho : Own rcl 12 W b 50 v1 (e.ans.an.map foldR) ∧ Own rcl 12 W b 50 v2 (e.ans.au.map foldR) ∧ Own rcl 12 W b 50 v3 (e.ans.ex.map foldR)) :
    Calls Try.prog 34 #[pt c, pt W.heap.size] (W.alloc (.cells (ecs ⟨W.heap.size, e, v1, v2, v3⟩ nilp nilp) 88)) (KeepP w lo c m room l e) := by
  have hCW : CM W lo c m room sn l := hC.below ht
  have hlt : ∀ k ∈ foot c m l, k < w.heap.size := hC.lt
  have hsz := ht.size
  have hlc := hlt c (by simp [foot])
  have hlm := hlt m (by simp [foot])
  have hlow := hC.low.1
  have hfr := Has.fresh W 88 (ecs ⟨W.heap.size, e, v1, v2, v3⟩ nilp nilp)
  obtain ⟨d, hd⟩ : ∃ d : Nd, d = ⟨W.heap.size, e, v1, v2, v3⟩ := ⟨_, rfl⟩
  have hdb : d.b = W.heap.size := by rw [hd]
  have hde : d.e = e := by rw [hd]
  have ho' : Own rcl 12 W b 50 d.v1 (d.e.ans.an.map foldR) ∧ Own rcl 12 W b 50 d.v2 (d.e.ans.au.map foldR) ∧ Own rcl 12 W b 50 d.v3 (d.e.ans.ex.map foldR) := by rw [hd]; exact ho
  have hwl := put_rows ho' hb
  rw [← hd] at hfr ⊢
  have hCA : CM (W.alloc (.cells (ecs d nilp nilp) 88)) lo c m room sn l := hCW.below ((Below.refl _ _).alloc (Nat.le_refl _) _)
  rw [← hdb] at hfr ⊢
  have hbl : ∀ k ∈ bs l, k < w.heap.size := fun k hk => hlt k (foot_bs _ (by simp [hk]))
  have hkp := keep_any (d := d) hCA hs hfr (fun e1 => by
    rcases List.mem_cons.1 e1 with e2 | e2
    · omega
    · have := hbl _ e2; omega) ⟨own_alloc (own_mono ho'.1 (Nat.zero_le _)), own_alloc (own_mono ho'.2.1 (Nat.zero_le _)), own_alloc (own_mono ho'.2.2 (Nat.zero_le _))⟩ (fun k hk => by
    have h1 := hwl k hk
    refine ⟨fun e1 => ?_, fun e1 => ?_, fun e1 => ?_⟩
    · omega
    · omega
    · rw [bs_append] at e1
      rcases List.mem_append.1 e1 with e2 | e2
      · have := hbl k e2; omega
      · simp at e2; omega) (fun y hy hk => by
    have := hlt d.b (by simp only [foot, List.mem_cons, List.mem_append, List.mem_flatMap]; exact .inr (.inr (.inr ⟨y, hy, hk⟩)))
    omega) (by rw [hde]; exact hok) (by rw [hde]; exact hkey) ⟨by omega, fun k hk => by have := hwl k hk; omega⟩
  refine hkp.mono fun e1 w' ⟨h1, sn', h2, h3, h4⟩ => ⟨h1, d, sn', ⟨h2, h3, hde, fun k hk => ?_, by omega⟩, ?_⟩
  · simp only [foot, bs_append, List.mem_cons, List.mem_append, List.mem_flatMap, List.map_cons, List.map_nil, List.not_mem_nil, or_false] at hk ⊢
    rcases hk with e2 | e2 | (e2 | e2) | ⟨y, (hy | hy), hk⟩
    · exact .inl (.inl e2)
    · exact .inl (.inr (.inl e2))
    · exact .inl (.inr (.inr (.inl e2)))
    · exact .inr (by omega)
    · exact .inl (.inr (.inr (.inr ⟨y, hy, hk⟩)))
    · subst hy
      exact .inr (hwl k hk).1
  · refine ((Tch.of_below ht).trans (Tch.of_below ((Below.refl _ _).alloc (Nat.le_refl _) _))).trans' h4 fun k hk => ?_
    rcases List.mem_cons.1 hk with e2 | e2
    · right
      omega
    · exact .inl e2
set_option maxHeartbeats 2000000 in
set_option maxRecDepth 100000 in
theorem put_any {w : World} {lo c m room : Nat} {sn : Int} {l : List Nd} (h : CM w lo c m room sn l) (hso : Soon sn l) (hroom : 1 ≤ room ∧ room ≤ 4096) (q : Kv) (hq : KvOk q) (x : Aw) (hx : x.lies w) (ha : x.away (c :: m :: bs l)) (hf : x.a.few) (now : Int) :
    Calls Try.prog 13 #[pt c, q.val, x.val, .int .i64 now] w (PutP w lo c m room l (putR room (tick now) q x.a (l.map Nd.e)) (.bool (putOk q x.a))) := by
  have hTk := fun W => tick_any now W
  obtain ⟨nw, hnw⟩ : ∃ nw, tick now = nw := ⟨_, rfl⟩
  have hnt : nw ≤ top := by rw [← hnw]; exact tick_le now
  rw [hnw] at hTk
  rw [hnw]
  clear hnw
  have hw0 : Below w.heap.size w ((w.alloc (.cells #[.string q.nm, .int .u16 (q.ty : Int), .int .u16 (q.cl : Int)] 35)).alloc (.cells #[.int .u16 (x.a.rc : Int), .bool x.a.aa, .slice x.A1 x.a.an.length x.c1, .slice x.A2 x.a.au.length x.c2, .slice x.A3 x.a.ex.length x.c3] 38)) := ((Below.refl _ _).alloc (Nat.le_refl _) _).alloc (by simp) _
  have hQ := (Has.fresh w 35 #[.string q.nm, .int .u16 (q.ty : Int), .int .u16 (q.cl : Int)]).alloc (.cells #[.int .u16 (x.a.rc : Int), .bool x.a.aa, .slice x.A1 x.a.an.length x.c1, .slice x.A2 x.a.au.length x.c2, .slice x.A3 x.a.ex.length x.c3] 38)
  have hA := Has.fresh (w.alloc (.cells #[.string q.nm, .int .u16 (q.ty : Int), .int .u16 (q.cl : Int)] 35)) 38 #[.int .u16 (x.a.rc : Int), .bool x.a.aa, .slice x.A1 x.a.an.length x.c1, .slice x.A2 x.a.au.length x.c2, .slice x.A3 x.a.ex.length x.c3]
  rw [World.size_alloc] at hA
  obtain ⟨W0, hW0⟩ : ∃ W0, W0 = (w.alloc (.cells #[.string q.nm, .int .u16 (q.ty : Int), .int .u16 (q.cl : Int)] 35)).alloc (.cells #[.int .u16 (x.a.rc : Int), .bool x.a.aa, .slice x.A1 x.a.an.length x.c1, .slice x.A2 x.a.au.length x.c2, .slice x.A3 x.a.ex.length x.c3] 38) := ⟨_, rfl⟩
  have hs0 : W0.heap.size = w.heap.size + 1 + 1 := by rw [hW0]; simp
  rw [← hW0] at hw0 hQ hA
  have HW0 := Lib.hid hW0
  have hC0 := h.below hw0
  have k2 : W0.cell? ⟨c, 2, none⟩ = some (.int .i64 (room : Int)) := by rw [hC0.rm.head.cell]; rfl
  have HRm := Lib.hid hroom
  have hr1 : decide ((room : Int) < 1) = false := decide_eq_false (by omega)
  have hTw : Tch (c :: m :: bs l) w W0 := Tch.of_below hw0
  have HS := Lib.hid (sweep_any hC0 hso nw)
  have hfar : ∀ b, w.heap.size ≤ b → b ∉ c :: m :: bs l := fun b hb e => by have := h.lt b (foot_bs b e); omega
  have HC0 := Lib.hid hC0
  have HQ := Lib.hid hQ
  have HA := Lib.hid hA
  have HX := Lib.hid (hx.tch hTw ha)
  have HT0 := Lib.hid hTw
  have HFar := Lib.hid hfar
  have HH := Lib.hid h
  have HS0 := Lib.hid hs0
  clear h hso hw0 hQ hA hW0 hC0 hTw hfar hx hs0 hroom
  unfold Aw.val Aw.cells Kv.val
  go_enter Try.func13, Try.ntmps13
  go_upto_region 1 with (fail)
  rw [← HW0.out]
  clear HW0
  go_upto_region 5 with (first
    | (go_at_call 28; refine (hTk _).mono ?_; rintro e w' ⟨rfl, rfl⟩)
    | (go_at_call 29; refine HS.out.mono ?_; rintro e W1 ⟨rfl, sn1, hC1, hso1, hT1⟩))
  clear k2 hr1 hTk HS HC0
  have hQ1 := hT1.has HQ.out (HFar.out _ (Nat.le_refl _))
  have hA1 := hT1.has HA.out (HFar.out _ (by omega))
  have hx1 := HX.out.tch hT1 ha
  have hT01 := HT0.out.trans hT1
  have hsz1 := hT1.size
  have HL := Lib.hid (fun W hb => life_any x W (hx1.below hb) hf)
  have HCk := Lib.hid (fun W => Check_any q.nm W hq.1)
  obtain ⟨q0, q1, q2⟩ := q_cells hQ1
  obtain ⟨a0, a1, a2, a3, a4⟩ := a_cells hA1
  obtain ⟨l1, hl1⟩ : ∃ l1, l1 = sweep Nd.e nw l := ⟨_, rfl⟩
  have hsub : l1.Sublist l := by rw [hl1]; exact sweep_sub _ _ _
  have hmap : l1.map Nd.e = sweep id nw (l.map Nd.e) := by rw [hl1]; exact sweep_map _ _ _
  rw [← hl1] at hC1 hso1
  have HC1 := Lib.hid hC1
  have HSo := Lib.hid hso1
  have HQ1 := Lib.hid hQ1
  have HA1 := Lib.hid hA1
  have HX1 := Lib.hid hx1
  have HT1 := Lib.hid hT01
  have HSub := Lib.hid hsub
  have HMap := Lib.hid hmap
  clear hC1 hso1 hQ1 hA1 hx1 hT01 hsub hmap hl1 hT1 HQ HA HX HT0
  have HWb := HA1.out.lt
  unfold Aw.val Aw.cells at HL
  by_cases hN : isN q.nm = true
  · by_cases hl0 : life x.a = 0
    · have hok : putOk q x.a = false := by unfold putOk; rw [hl0]; simp
      have hN2 := hN
      unfold isN at hN2
      rw [hN2] at HCk
      rw [hl0] at HL
      have HOk := Lib.hid hok
      clear hok hN hN2 hl0
      go_wp2_with (first
        | (go_at_call 30; refine (HL.out _ (Below.refl _ _)).mono ?_; rintro e W2 ⟨rfl, hb2⟩; have q0' := keep_cell hb2 q0; have HB2 := Lib.hid hb2; clear hb2)
        | (go_at_call 31; refine (HCk.out _).mono ?_; rintro e W3 ⟨rfl, hb3⟩; have HB3 := Lib.hid (HB2.out.trans (hb3.mono HB2.out.size)); clear hb3))
      go_ret
      exact put_no HOk.out (HC1.out.below HB3.out) HSo.out HMap.out HSub.out (HT1.out.trans (Tch.of_below HB3.out))
    · have hlz : ((life x.a : Int) == 0) = false := beq_eq_false_iff_ne.2 (by omega)
      have hok : putOk q x.a = true := by unfold putOk; rw [hN]; simp [hl0]
      have hN2 := hN
      unfold isN at hN2
      rw [hN2] at HCk
      have HOk := Lib.hid hok
      have HN := Lib.hid hN
      have HL0 := Lib.hid hl0
      have HKO := Lib.hid (fun W => keyOf_any q W hq.1)
      unfold Kv.val foldK at HKO
      dsimp only at HKO
      clear hok hN hN2 hl0
      go_upto_region 9 with (first
        | (go_at_call 30; refine (HL.out _ (Below.refl _ _)).mono ?_; rintro e W2 ⟨rfl, hb2⟩; have q0' := keep_cell hb2 q0; have HB2 := Lib.hid hb2; clear hb2)
        | (go_at_call 31; refine (HCk.out _).mono ?_; rintro e W3 ⟨rfl, hb3⟩; have HB3 := Lib.hid (HB2.out.trans (hb3.mono HB2.out.size)); have r0 := keep_cell HB3.out q0; have r1 := keep_cell HB3.out q1; have r2 := keep_cell HB3.out q2; clear hb3)
        | (go_at_call 32; refine (HKO.out _).mono ?_; rintro e W4 ⟨rfl, hb4⟩; have HB4 := Lib.hid (HB3.out.trans (hb4.mono HB3.out.size)); clear hb4))
      have hX5 := Has.fresh W4 35 #[.string (foldB q.nm), .int .u16 (q.ty : Int), .int .u16 (q.cl : Int)]
      have hB5 := HB4.out.alloc HB4.out.size (.cells #[.string (foldB q.nm), .int .u16 (q.ty : Int), .int .u16 (q.cl : Int)] 35)
      obtain ⟨W5, hW5⟩ : ∃ W5, W5 = W4.alloc (.cells #[.string (foldB q.nm), .int .u16 (q.ty : Int), .int .u16 (q.cl : Int)] 35) := ⟨_, rfl⟩
      rw [← hW5] at hX5 hB5 ⊢
      have hb10 : w.heap.size + 1 < W4.heap.size := Nat.lt_of_lt_of_le HWb HB4.out.size
      obtain ⟨b10, hbe⟩ : ∃ b10, W4.heap.size = b10 := ⟨_, rfl⟩
      rw [hbe] at hX5 hb10 ⊢
      clear hW5 hbe HB4 HB3 HB2 r0 r1 r2 q0' HKO HCk HL
      have hC5 := HC1.out.below hB5
      have hko : KvOk (foldK q) := ⟨by rw [show (foldK q).nm = foldB q.nm from rfl, foldB_size]; exact hq.1, hq.2.1, hq.2.2⟩
      have hT5 := HT1.out.trans (Tch.of_below hB5)
      have hA5 := HA1.out.below hB5 HA1.out.lt
      have hlk := mq_look (w := W5.drew) hC5.drew.mq hC5.kvs hC5.mkeys (foldK q) hko
      have hc3 : W5.cell? ⟨c, 3, none⟩ = some (.map (some m)) := by rw [hC5.rm.head.cell]; rfl
      obtain ⟨k0, k1, k2⟩ := q_cells hX5
      have hxl5 := HX1.out.below hB5
      have HX5 := Lib.hid hX5
      have HXL5 := Lib.hid hxl5
      have HC5 := Lib.hid hC5
      have HT5 := Lib.hid hT5
      have HA5 := Lib.hid hA5
      have HB10 := Lib.hid hb10
      have HKO := Lib.hid hko
      clear hX5 hxl5 hC5 hT5 hA5 hb10 hB5 hko q0 q1 q2 a0 a1 a2 a3 a4 HC1 HQ1 HA1 HX1 HT1
      unfold Kv.val foldK at hlk
      dsimp only at hlk
      cases hfi : find Nd.e (foldK q) l1 with
      | none =>
        have hno := find_none Nd.e hfi
        have hlo : lookL (mL l1) ⟨foldB q.nm, q.ty, q.cl⟩ = none := lookL_none fun p hp => by
          obtain ⟨d, hd, rfl⟩ := List.mem_map.1 hp
          exact hno d hd
        rw [hlo] at hlk
        have hD : drop id (foldK q) (l1.map Nd.e) = l1.map Nd.e := by rw [← drop_map, drop_none Nd.e hfi]
        obtain ⟨sn2, hsn2⟩ : ∃ z, z = sn1 := ⟨_, rfl⟩
        obtain ⟨l2, hl2⟩ : ∃ z, z = l1 := ⟨_, rfl⟩
        obtain ⟨W6, hW6⟩ : ∃ z, z = W5.drew := ⟨_, rfl⟩
        have HC6 : Hid (CM W6 lo c m room sn2 l2) := by rw [hW6, hl2, hsn2]; exact HC5.out.drew
        have HSo6 : Hid (Soon sn2 l2) := by rw [hl2, hsn2]; exact HSo.out
        have HKey6 : Hid (∀ e ∈ l2, e.e.key ≠ foldK q) := by rw [hl2]; exact hno
        have HMap6 : Hid (l2.map Nd.e = drop id (foldK q) (sweep id nw (l.map Nd.e))) := by rw [Hid, hl2, ← HMap.out, hD]
        have HSub6 : Hid (l2.Sublist l) := by rw [hl2]; exact HSub.out
        have HT6 : Hid (Tch (c :: m :: bs l) w W6) := by rw [hW6]; exact HT5.out.drew
        have HA6 : Hid (Has W6 (w.heap.size + 1) 38 #[.int .u16 (x.a.rc : Int), .bool x.a.aa, .slice x.A1 x.a.an.length x.c1, .slice x.A2 x.a.au.length x.c2, .slice x.A3 x.a.ex.length x.c3]) := by rw [hW6]; exact HA5.out
        have HX6 : Hid (Has W6 b10 35 #[.string (foldB q.nm), .int .u16 (q.ty : Int), .int .u16 (q.cl : Int)]) := by rw [hW6]; exact HX5.out
        have HXL6 : Hid (x.lies W6) := by rw [hW6]; exact HXL5.out.tch (S := []) (Tch.refl [] W5).drew ⟨fun _ _ _ => by simp, fun _ _ _ => by simp, fun _ _ _ => by simp⟩
        have HW6 : Hid (W6 = W5.drew) := hW6
        clear hno hfi hlo hD hsn2 hl2 hW6
        go_region
        go_upto_region 12 with (fail)
        clear k0 k1 k2
        rw [← HW6.out]
        clear HW6 HC5 HX5 HXL5 HA5 HT5 hc3 hlk
        obtain ⟨k0, k1, k2⟩ := q_cells HX6.out
        obtain ⟨a0, a1, a2, a3, a4⟩ := a_cells HA6.out
        have HKp : Hid (∀ W, Below W6.heap.size W6 W → Calls Try.prog 35 #[.agg #[.int .u16 (x.a.rc : Int), .bool x.a.aa, .slice x.A1 x.a.an.length x.c1, .slice x.A2 x.a.au.length x.c2, .slice x.A3 x.a.ex.length x.c3]] W fun e w' => ∃ v1 v2 v3, e = .returned (.agg #[.int .u16 (x.a.rc : Int), .bool false, v1, v2, v3]) ∧ Hid (Own rcl 12 w' W.heap.size 50 v1 (x.a.an.map foldR) ∧ Own rcl 12 w' W.heap.size 50 v2 (x.a.au.map foldR) ∧ Own rcl 12 w' W.heap.size 50 v3 (x.a.ex.map foldR)) ∧ Below W.heap.size W w') := fun W ht => (kept_any x W (HXL6.out.below ht) hf).mono fun e w' ⟨v1, v2, v3, h1, h2, h3, h4, h5⟩ => ⟨v1, v2, v3, h1, ⟨h2, h3, h4⟩, h5⟩
        have hlp : 0 < life x.a := by have := HL0.out; omega
        have hle := life_le x.a
        have hnm : q.nm.size ≤ 255 := isN_le HN.out
        have HKe : Hid (∀ (W : World) (b : Nat) (v1 v2 v3 : Value), W6.heap.size ≤ b → Below W6.heap.size W6 W → (Own rcl 12 W b 50 v1 (x.a.an.map foldR) ∧ Own rcl 12 W b 50 v2 (x.a.au.map foldR) ∧ Own rcl 12 W b 50 v3 (x.a.ex.map foldR)) →
            Calls Try.prog 34 #[pt c, pt W.heap.size] (W.alloc (.cells #[.string (foldB q.nm), .int .u16 (q.ty : Int), .int .u16 (q.cl : Int), .int .u16 (x.a.rc : Int), .bool false, v1, v2, v3, .int .i64 (nw : Int), .int .i64 ((nw + life x.a * 10 : Nat) : Int), nilp, nilp] 88)) (KeepP W6 lo c m room l2 ⟨foldK q, x.a, nw, life x.a⟩)) := fun W b v1 v2 v3 hb ht ho =>
          put_keep HC6.out HSo6.out ⟨foldK q, x.a, nw, life x.a⟩ ⟨rfl, hlp, hnt, by rw [show (foldK q).nm = foldB q.nm from rfl, foldB_size]; exact hnm, hq.2.1, hq.2.2⟩ HKey6.out b v1 v2 v3 hb ht ho
        obtain ⟨L, hL⟩ : ∃ L, life x.a = L := ⟨_, rfl⟩
        rw [hL] at HKe hlp hle hlz ⊢
        have HLq := Lib.hid hL
        clear hL
        have hw1 : IntKind.i64.wrap ((L : Int) * 10) = (L : Int) * 10 := by rw [IntKind.wrap_i64]; omega
        obtain ⟨OV, hOV⟩ : ∃ OV : Nat, nw + L * 10 = OV := ⟨_, rfl⟩
        rw [hOV] at HKe
        have hw2 : IntKind.i64.wrap ((nw : Int) + (L : Int) * 10) = (OV : Int) := by unfold top at hnt; rw [IntKind.wrap_i64]; omega
        clear hOV
        have HFb : Hid (b10 ∉ c :: m :: bs l2 ∧ w.heap.size + 1 ∉ c :: m :: bs l2) := ⟨fun e => HFar.out b10 (by have := HB10.out; omega) (bs_sub HSub6.out _ e), fun e => HFar.out (w.heap.size + 1) (by omega) (bs_sub HSub6.out _ e)⟩
        clear hlp hle hnm hnt
        go_region_held3 (fun W => W.cell? ⟨b10, 0, none⟩ = some (.string (foldB q.nm)) ∧ W.cell? ⟨b10, 1, none⟩ = some (.int .u16 (q.ty : Int)) ∧ W.cell? ⟨b10, 2, none⟩ = some (.int .u16 (q.cl : Int)) ∧ W.cell? ⟨w.heap.size + 1, 0, none⟩ = some (.int .u16 (x.a.rc : Int)) ∧ W.cell? ⟨w.heap.size + 1, 1, none⟩ = some (.bool x.a.aa) ∧ W.cell? ⟨w.heap.size + 1, 2, none⟩ = some (.slice x.A1 x.a.an.length x.c1) ∧ W.cell? ⟨w.heap.size + 1, 3, none⟩ = some (.slice x.A2 x.a.au.length x.c2) ∧ W.cell? ⟨w.heap.size + 1, 4, none⟩ = some (.slice x.A3 x.a.ex.length x.c3))
          (first
            | (exact ⟨k0, k1, k2, a0, a1, a2, a3, a4⟩)
            | (exact ⟨hT8.cell HFb.out.1 k0, hT8.cell HFb.out.1 k1, hT8.cell HFb.out.1 k2, hT8.cell HFb.out.2 a0, hT8.cell HFb.out.2 a1, hT8.cell HFb.out.2 a2, hT8.cell HFb.out.2 a3, hT8.cell HFb.out.2 a4⟩)
            | (go_split_ands
               try dsimp only
               first
                 | (refine ⟨keep_cell hbW (by assumption), keep_cell hbW (by assumption), keep_cell hbW (by assumption), keep_cell hbW (by assumption), keep_cell hbW (by assumption), keep_cell hbW (by assumption), keep_cell hbW (by assumption), keep_cell hbW (by assumption)⟩)
                 | (refine ⟨keep_cell hbA (by assumption), keep_cell hbA (by assumption), keep_cell hbA (by assumption), keep_cell hbA (by assumption), keep_cell hbA (by assumption), keep_cell hbA (by assumption), keep_cell hbA (by assumption), keep_cell hbA (by assumption)⟩))
            | (go_keep; done))
          (first
            | (go_split_ands; go_at_call 35
               refine (HKp.out _ (Below.refl _ _).drew).mono ?_
               rintro e W7 ⟨v1, v2, v3, rfl, HO7, hbW⟩)
            | (go_split_ands; go_at_call 34
               refine (HKe.out W7 _ v1 v2 v3 (Nat.le_refl _) ((Below.refl _ _).drew.trans hbW) HO7.out).mono ?_
               rintro e W8 ⟨rfl, d8, sn8, HC8, hT8⟩))
        rename_i hHeld
        clear hHeld
        have hC8 := HC8.out.1
        have hT08 : Hid (Tch (c :: m :: bs l) w W8) := HT6.out.trans (hT8.mono (bs_sub HSub6.out))
        have hln := fun ty => mq_len (w := W8.drew) hC8.drew.mq ty
        have hlnn : (mL (l2 ++ [d8])).length = l2.length + 1 := by simp
        rw [hlnn] at hln
        have e3 : W8.cell? ⟨c, 3, none⟩ = some (.map (some m)) := by rw [hC8.rm.head.cell]; rfl
        have e2 : W8.cell? ⟨c, 2, none⟩ = some (.int .i64 (room : Int)) := by rw [hC8.rm.head.cell]; rfl
        have e0 : W8.cell? ⟨c, 0, none⟩ = some (hd (l2 ++ [d8]) nilp) := by rw [hC8.rm.head.cell]; rfl
        have HPR : Hid (putR room nw q x.a (l.map Nd.e) = if room < l2.length + 1 then ((l2 ++ [d8]).drop 1).map Nd.e else (l2 ++ [d8]).map Nd.e) := put_yes HOk.out HMap6.out (by rw [HC8.out.2.2.1, HLq.out])
        have HFt : Hid (∀ k ∈ foot c m (l2 ++ [d8]), k ∈ foot c m l ∨ w.heap.size ≤ k) := fun k hk => by
          rcases HC8.out.2.2.2.1 k hk with e | e
          · exact .inl (foot_sub HSub6.out k e)
          · exact .inr (Nat.le_trans HT6.out.size e)
        clear hlnn hC8 hT8
        generalize hN8 : l2.length + 1 = N at *
        clear hw1 hw2 k0 k1 k2 a0 a1 a2 a3 a4
        by_cases hrm : room < N
        · have hd9 : decide (room < N) = true := decide_eq_true hrm
          rw [if_pos hrm] at HPR
          rcases l2 with _ | ⟨y, ys⟩
          · have := HRm.out.1
            simp at hN8
            omega
          · have HDr := Lib.hid (drop_any (A := []) HC8.out.1.drew)
            have e0' : W8.cell? ⟨c, 0, none⟩ = some (pt y.b) := e0
            have HSo8 : Hid (Soon sn8 (ys ++ [d8])) := fun d hd => HC8.out.2.1 d (List.mem_cons_of_mem _ hd)
            have HT9 : Hid (∀ k ∈ c :: m :: (bs [] ++ bs (ys ++ [d8])), k ∈ c :: m :: bs l ∨ w.heap.size ≤ k) := fun k hk => by
              simp only [List.map_nil, List.nil_append, List.mem_cons, bs_append, List.mem_append, List.map_cons, List.not_mem_nil, or_false] at hk
              rcases hk with e | e | e | e
              · exact .inl (by simp [e])
              · exact .inl (by simp [e])
              · exact .inl (bs_sub HSub6.out k (by simp only [List.mem_cons, List.map_cons]; exact .inr (.inr (.inr e))))
              · exact .inr (by rw [e]; exact Nat.le_trans HT6.out.size HC8.out.2.2.2.2)
            clear e0 hrm
            go_wp2
            go_region
            go_wp2_with (go_at_call 33; refine HDr.out.mono ?_; rintro e W9 ⟨rfl, hC9, _, hT9⟩; have HC9 := Lib.hid hC9; have HTT := Lib.hid hT9; clear hC9 hT9)
            go_ret
            refine ⟨by rw [HOk.out]; rfl, sn8, ys ++ [d8], HC9.out, HSo8.out, HPR.out.symm, hT08.out.drew.trans' HTT.out HT9.out, fun k hk => HFt.out k (foot_sub (List.sublist_cons_self y (ys ++ [d8])) k hk)⟩
        · have hd9 : decide (room < N) = false := decide_eq_false hrm
          rw [if_neg hrm] at HPR
          clear hrm
          go_wp2
          go_region
          go_wp2
          go_ret
          refine ⟨by rw [HOk.out]; rfl, sn8, l2 ++ [d8], HC8.out.1.drew, HC8.out.2.1, HPR.out.symm, hT08.out.drew, HFt.out⟩
      | some d =>
        obtain ⟨A, B, hAB, hdk, hdr⟩ := find_some Nd.e hfi HC5.out.keys
        have hke := drop_key Nd.e (k := foldK q) (l := l1)
        have hdm := drop_map Nd.e (foldK q) l1
        rw [hdr] at hke hdm
        rw [HMap.out] at hdm
        subst hAB
        have hlo : lookL (mL (A ++ d :: B)) ⟨foldB q.nm, q.ty, q.cl⟩ = some (pt d.b) := lookL_some (by
          have : (d.e.key, pt d.b) ∈ mL (A ++ d :: B) := List.mem_map.2 ⟨d, by simp, rfl⟩
          rw [hdk] at this
          exact this) HC5.out.mkeys
        rw [hlo] at hlk
        have HD := Lib.hid (drop_any HC5.out.drew)
        obtain ⟨sn2, hsn2⟩ : ∃ z, z = sn1 := ⟨_, rfl⟩
        obtain ⟨l2, hl2⟩ : ∃ z, z = A ++ B := ⟨_, rfl⟩
        have HSo6 : Hid (Soon sn2 l2) := by
          rw [hl2, hsn2]
          exact fun y hy => HSo.out y ((mid_sub A B d).subset hy)
        have HKey6 : Hid (∀ e ∈ l2, e.e.key ≠ foldK q) := by rw [hl2]; exact hke
        have HMap6 : Hid (l2.map Nd.e = drop id (foldK q) (sweep id nw (l.map Nd.e))) := by rw [hl2]; exact hdm
        have HSub6 : Hid (l2.Sublist l) := by rw [hl2]; exact (mid_sub A B d).trans HSub.out
        have HSS : Hid (∀ k ∈ c :: m :: (bs A ++ bs B), k ∈ c :: m :: bs l) := fun k hk => by
          rw [← bs_append, ← hl2] at hk
          exact bs_sub HSub6.out k hk
        rw [← hl2, ← hsn2] at HD
        have HX10 := Lib.hid HB10.out
        clear hlo hdk hdr hfi hke hdm hsn2 hl2
        go_region
        go_upto_region 12 with (go_at_call 33; refine HD.out.mono ?_; rintro e W6 ⟨rfl, hC6, _, hT6⟩; have HC6 := Lib.hid hC6; have HT6w := Lib.hid hT6; clear hC6 hT6)
        have HT6 : Hid (Tch (c :: m :: bs l) w W6) := HT5.out.drew.trans (HT6w.out.mono HSS.out)
        have HA6 : Hid (Has W6 (w.heap.size + 1) 38 #[.int .u16 (x.a.rc : Int), .bool x.a.aa, .slice x.A1 x.a.an.length x.c1, .slice x.A2 x.a.au.length x.c2, .slice x.A3 x.a.ex.length x.c3]) := HT6w.out.has (w := W5.drew) HA5.out fun e => HFar.out (w.heap.size + 1) (by omega) (HSS.out _ e)
        have HX6 : Hid (Has W6 b10 35 #[.string (foldB q.nm), .int .u16 (q.ty : Int), .int .u16 (q.cl : Int)]) := HT6w.out.has (w := W5.drew) HX5.out fun e => HFar.out b10 (by have := HB10.out; omega) (HSS.out _ e)
        have HXL6 : Hid (x.lies W6) := (HXL5.out.tch (S := []) (Tch.refl [] W5).drew ⟨fun _ _ _ => by simp, fun _ _ _ => by simp, fun _ _ _ => by simp⟩).tch HT6w.out ⟨fun a e z h => ha.1 a e z (HSS.out _ h), fun a e z h => ha.2.1 a e z (HSS.out _ h), fun a e z h => ha.2.2 a e z (HSS.out _ h)⟩
        clear k0 k1 k2 HC5 HX5 HXL5 HA5 HT5 hc3 hlk
        obtain ⟨k0, k1, k2⟩ := q_cells HX6.out
        obtain ⟨a0, a1, a2, a3, a4⟩ := a_cells HA6.out
        have HKp : Hid (∀ W, Below W6.heap.size W6 W → Calls Try.prog 35 #[.agg #[.int .u16 (x.a.rc : Int), .bool x.a.aa, .slice x.A1 x.a.an.length x.c1, .slice x.A2 x.a.au.length x.c2, .slice x.A3 x.a.ex.length x.c3]] W fun e w' => ∃ v1 v2 v3, e = .returned (.agg #[.int .u16 (x.a.rc : Int), .bool false, v1, v2, v3]) ∧ Hid (Own rcl 12 w' W.heap.size 50 v1 (x.a.an.map foldR) ∧ Own rcl 12 w' W.heap.size 50 v2 (x.a.au.map foldR) ∧ Own rcl 12 w' W.heap.size 50 v3 (x.a.ex.map foldR)) ∧ Below W.heap.size W w') := fun W ht => (kept_any x W (HXL6.out.below ht) hf).mono fun e w' ⟨v1, v2, v3, h1, h2, h3, h4, h5⟩ => ⟨v1, v2, v3, h1, ⟨h2, h3, h4⟩, h5⟩
        have hlp : 0 < life x.a := by have := HL0.out; omega
        have hle := life_le x.a
        have hnm : q.nm.size ≤ 255 := isN_le HN.out
        have HKe : Hid (∀ (W : World) (b : Nat) (v1 v2 v3 : Value), W6.heap.size ≤ b → Below W6.heap.size W6 W → (Own rcl 12 W b 50 v1 (x.a.an.map foldR) ∧ Own rcl 12 W b 50 v2 (x.a.au.map foldR) ∧ Own rcl 12 W b 50 v3 (x.a.ex.map foldR)) →
            Calls Try.prog 34 #[pt c, pt W.heap.size] (W.alloc (.cells #[.string (foldB q.nm), .int .u16 (q.ty : Int), .int .u16 (q.cl : Int), .int .u16 (x.a.rc : Int), .bool false, v1, v2, v3, .int .i64 (nw : Int), .int .i64 ((nw + life x.a * 10 : Nat) : Int), nilp, nilp] 88)) (KeepP W6 lo c m room l2 ⟨foldK q, x.a, nw, life x.a⟩)) := fun W b v1 v2 v3 hb ht ho =>
          put_keep HC6.out HSo6.out ⟨foldK q, x.a, nw, life x.a⟩ ⟨rfl, hlp, hnt, by rw [show (foldK q).nm = foldB q.nm from rfl, foldB_size]; exact hnm, hq.2.1, hq.2.2⟩ HKey6.out b v1 v2 v3 hb ht ho
        obtain ⟨L, hL⟩ : ∃ L, life x.a = L := ⟨_, rfl⟩
        rw [hL] at HKe hlp hle hlz ⊢
        have HLq := Lib.hid hL
        clear hL
        have hw1 : IntKind.i64.wrap ((L : Int) * 10) = (L : Int) * 10 := by rw [IntKind.wrap_i64]; omega
        obtain ⟨OV, hOV⟩ : ∃ OV : Nat, nw + L * 10 = OV := ⟨_, rfl⟩
        rw [hOV] at HKe
        have hw2 : IntKind.i64.wrap ((nw : Int) + (L : Int) * 10) = (OV : Int) := by unfold top at hnt; rw [IntKind.wrap_i64]; omega
        clear hOV
        have HFb : Hid (b10 ∉ c :: m :: bs l2 ∧ w.heap.size + 1 ∉ c :: m :: bs l2) := ⟨fun e => HFar.out b10 (by have := HB10.out; omega) (bs_sub HSub6.out _ e), fun e => HFar.out (w.heap.size + 1) (by omega) (bs_sub HSub6.out _ e)⟩
        clear hlp hle hnm hnt
        go_region_held3 (fun W => W.cell? ⟨b10, 0, none⟩ = some (.string (foldB q.nm)) ∧ W.cell? ⟨b10, 1, none⟩ = some (.int .u16 (q.ty : Int)) ∧ W.cell? ⟨b10, 2, none⟩ = some (.int .u16 (q.cl : Int)) ∧ W.cell? ⟨w.heap.size + 1, 0, none⟩ = some (.int .u16 (x.a.rc : Int)) ∧ W.cell? ⟨w.heap.size + 1, 1, none⟩ = some (.bool x.a.aa) ∧ W.cell? ⟨w.heap.size + 1, 2, none⟩ = some (.slice x.A1 x.a.an.length x.c1) ∧ W.cell? ⟨w.heap.size + 1, 3, none⟩ = some (.slice x.A2 x.a.au.length x.c2) ∧ W.cell? ⟨w.heap.size + 1, 4, none⟩ = some (.slice x.A3 x.a.ex.length x.c3))
          (first
            | (exact ⟨k0, k1, k2, a0, a1, a2, a3, a4⟩)
            | (exact ⟨hT8.cell HFb.out.1 k0, hT8.cell HFb.out.1 k1, hT8.cell HFb.out.1 k2, hT8.cell HFb.out.2 a0, hT8.cell HFb.out.2 a1, hT8.cell HFb.out.2 a2, hT8.cell HFb.out.2 a3, hT8.cell HFb.out.2 a4⟩)
            | (go_split_ands
               try dsimp only
               first
                 | (refine ⟨keep_cell hbW (by assumption), keep_cell hbW (by assumption), keep_cell hbW (by assumption), keep_cell hbW (by assumption), keep_cell hbW (by assumption), keep_cell hbW (by assumption), keep_cell hbW (by assumption), keep_cell hbW (by assumption)⟩)
                 | (refine ⟨keep_cell hbA (by assumption), keep_cell hbA (by assumption), keep_cell hbA (by assumption), keep_cell hbA (by assumption), keep_cell hbA (by assumption), keep_cell hbA (by assumption), keep_cell hbA (by assumption), keep_cell hbA (by assumption)⟩))
            | (go_keep; done))
          (first
            | (go_split_ands; go_at_call 35
               refine (HKp.out _ (Below.refl _ _).drew).mono ?_
               rintro e W7 ⟨v1, v2, v3, rfl, HO7, hbW⟩)
            | (go_split_ands; go_at_call 34
               refine (HKe.out W7 _ v1 v2 v3 (Nat.le_refl _) ((Below.refl _ _).drew.trans hbW) HO7.out).mono ?_
               rintro e W8 ⟨rfl, d8, sn8, HC8, hT8⟩))
        rename_i hHeld
        clear hHeld
        have hC8 := HC8.out.1
        have hT08 : Hid (Tch (c :: m :: bs l) w W8) := HT6.out.trans (hT8.mono (bs_sub HSub6.out))
        have hln := fun ty => mq_len (w := W8.drew) hC8.drew.mq ty
        have hlnn : (mL (l2 ++ [d8])).length = l2.length + 1 := by simp
        rw [hlnn] at hln
        have e3 : W8.cell? ⟨c, 3, none⟩ = some (.map (some m)) := by rw [hC8.rm.head.cell]; rfl
        have e2 : W8.cell? ⟨c, 2, none⟩ = some (.int .i64 (room : Int)) := by rw [hC8.rm.head.cell]; rfl
        have e0 : W8.cell? ⟨c, 0, none⟩ = some (hd (l2 ++ [d8]) nilp) := by rw [hC8.rm.head.cell]; rfl
        have HPR : Hid (putR room nw q x.a (l.map Nd.e) = if room < l2.length + 1 then ((l2 ++ [d8]).drop 1).map Nd.e else (l2 ++ [d8]).map Nd.e) := put_yes HOk.out HMap6.out (by rw [HC8.out.2.2.1, HLq.out])
        have HFt : Hid (∀ k ∈ foot c m (l2 ++ [d8]), k ∈ foot c m l ∨ w.heap.size ≤ k) := fun k hk => by
          rcases HC8.out.2.2.2.1 k hk with e | e
          · exact .inl (foot_sub HSub6.out k e)
          · exact .inr (Nat.le_trans HT6.out.size e)
        clear hlnn hC8 hT8
        generalize hN8 : l2.length + 1 = N at *
        clear hw1 hw2 k0 k1 k2 a0 a1 a2 a3 a4
        by_cases hrm : room < N
        · have hd9 : decide (room < N) = true := decide_eq_true hrm
          rw [if_pos hrm] at HPR
          rcases l2 with _ | ⟨y, ys⟩
          · have := HRm.out.1
            simp at hN8
            omega
          · have HDr := Lib.hid (drop_any (A := []) HC8.out.1.drew)
            have e0' : W8.cell? ⟨c, 0, none⟩ = some (pt y.b) := e0
            have HSo8 : Hid (Soon sn8 (ys ++ [d8])) := fun d hd => HC8.out.2.1 d (List.mem_cons_of_mem _ hd)
            have HT9 : Hid (∀ k ∈ c :: m :: (bs [] ++ bs (ys ++ [d8])), k ∈ c :: m :: bs l ∨ w.heap.size ≤ k) := fun k hk => by
              simp only [List.map_nil, List.nil_append, List.mem_cons, bs_append, List.mem_append, List.map_cons, List.not_mem_nil, or_false] at hk
              rcases hk with e | e | e | e
              · exact .inl (by simp [e])
              · exact .inl (by simp [e])
              · exact .inl (bs_sub HSub6.out k (by simp only [List.mem_cons, List.map_cons]; exact .inr (.inr (.inr e))))
              · exact .inr (by rw [e]; exact Nat.le_trans HT6.out.size HC8.out.2.2.2.2)
            clear e0 hrm
            go_wp2
            go_region
            go_wp2_with (go_at_call 33; refine HDr.out.mono ?_; rintro e W9 ⟨rfl, hC9, _, hT9⟩; have HC9 := Lib.hid hC9; have HTT := Lib.hid hT9; clear hC9 hT9)
            go_ret
            refine ⟨by rw [HOk.out]; rfl, sn8, ys ++ [d8], HC9.out, HSo8.out, HPR.out.symm, hT08.out.drew.trans' HTT.out HT9.out, fun k hk => HFt.out k (foot_sub (List.sublist_cons_self y (ys ++ [d8])) k hk)⟩
        · have hd9 : decide (room < N) = false := decide_eq_false hrm
          rw [if_neg hrm] at HPR
          clear hrm
          go_wp2
          go_region
          go_wp2
          go_ret
          refine ⟨by rw [HOk.out]; rfl, sn8, l2 ++ [d8], HC8.out.1.drew, HC8.out.2.1, HPR.out.symm, hT08.out.drew, HFt.out⟩
  · have hok : putOk q x.a = false := by unfold putOk; rw [Bool.not_eq_true] at hN; rw [hN]; rfl
    have hN2 : isN q.nm = false := by simpa using hN
    unfold isN at hN2
    rw [hN2] at HCk
    have HOk := Lib.hid hok
    clear hok hN hN2
    go_wp2_with (first
      | (go_at_call 30; refine (HL.out _ (Below.refl _ _)).mono ?_; rintro e W2 ⟨rfl, hb2⟩; have q0' := keep_cell hb2 q0; have HB2 := Lib.hid hb2; clear hb2)
      | (go_at_call 31; refine (HCk.out _).mono ?_; rintro e W3 ⟨rfl, hb3⟩; have HB3 := Lib.hid (HB2.out.trans (hb3.mono HB2.out.size)); clear hb3))
    go_ret
    exact put_no HOk.out (HC1.out.below HB3.out) HSo.out HMap.out HSub.out (HT1.out.trans (Tch.of_below HB3.out))
end Go.Proofs.Ytnhoaceickojeaa.Ca
/- Get: the program's. -/
namespace Go.Proofs.Ytnhoaceickojeaa.Ca
open Go.RowKit

def zans : Value := .agg #[.int .u16 0, .bool false, .slice none 0 0, .slice none 0 0, .slice none 0 0]
/-- an answer that is told, in new memory. -/
def TellsA (w : World) (b : Nat) (a : Av) (v : Value) : Prop := ∃ v1 v2 v3, v = ansV a.rc v1 v2 v3 ∧ Own rcl 12 w b 50 v1 a.an ∧ Own rcl 12 w b 50 v2 a.au ∧ Own rcl 12 w b 50 v3 a.ex
def GetV (w : World) (b : Nat) (o : Option Av) (v : Value) : Prop := match o with
  | none => v = .tuple #[zans, .bool false]
  | some a => ∃ x, v = .tuple #[x, .bool true] ∧ TellsA w b a x
/-- what Get leaves. -/
def GetP (w : World) (lo c m room : Nat) (l : List Nd) (row : List En) (o : Option Av) (e : Ending) (w' : World) : Prop :=
  ∃ v, e = .returned v ∧ GetV w' w.heap.size o v ∧ ∃ sn' l', CM w' lo c m room sn' l' ∧ Soon sn' l' ∧ l'.map Nd.e = row ∧ Tch (c :: m :: bs l) w w' ∧ (∀ k ∈ foot c m l', k ∈ foot c m l)
theorem move_perm {α : Type} (A B : List α) (d : α) : (A ++ d :: B).Perm (A ++ B ++ [d]) := by
  rw [List.append_assoc]
  exact (List.perm_append_left_iff A).2 (List.perm_append_comm (l₁ := [d]))
theorem CM.move {w w2 : World} {lo c m room : Nat} {sn : Int} {A B : List Nd} {d : Nd} (h : CM w lo c m room sn (A ++ d :: B)) (hR : RM w2 c (.int .i64 (room : Int)) (.map (some m)) (.int .i64 sn) (A ++ B ++ [d])) (hT : Tch (c :: bs (A ++ d :: B)) w w2) : CM w2 lo c m room sn (A ++ B ++ [d]) := by
  have hp := move_perm A B d
  have hF := h.far
  refine ⟨hR, (h.mq.same (hT.same m h.mq.lt fun e => ?_)).perm (hp.map _), fun e he => ?_, fun e he k hk => ?_, fun e he => h.ok e (hp.mem_iff.2 he), ((hp.map fun d => d.e.key).nodup_iff).1 h.keys, h.low.1, h.low.2.1, fun e he => h.low.2.2 e (hp.mem_iff.2 he)⟩
  · rcases List.mem_cons.1 e with e | e
    · exact hF.1 e.symm
    · exact hF.2 e
  · have he' := hp.mem_iff.2 he
    exact (h.rows e he').tch hT fun k hk e1 => by
      obtain ⟨q1, q2, q3⟩ := h.sep e he' k hk
      rcases List.mem_cons.1 e1 with e1 | e1
      · exact q1 e1
      · exact q3 e1
  · obtain ⟨q1, q2, q3⟩ := h.sep e (hp.mem_iff.2 he) k hk
    exact ⟨q1, q2, fun e1 => q3 (((hp.map Nd.b).mem_iff).2 e1)⟩
theorem foot_perm {c m : Nat} {l l' : List Nd} (h : l.Perm l') : ∀ k ∈ foot c m l', k ∈ foot c m l := fun k hk => by
  simp only [foot, List.mem_cons, List.mem_append, List.mem_flatMap] at hk ⊢
  rcases hk with e | e | e | ⟨d, hd, hk⟩
  · exact .inl e
  · exact .inr (.inl e)
  · exact .inr (.inr (.inl (((h.map Nd.b).mem_iff).2 e)))
  · exact .inr (.inr (.inr ⟨d, h.mem_iff.2 hd, hk⟩))
theorem get_row (w : World) (g : Nat) (cs : Array Value) : Tch [g] w (w.setRow g cs) := ⟨rfl, rfl, rfl, by simp, fun k _ hn => setRow_other _ _ _ _ fun e => hn (by simp [e])⟩
set_option maxHeartbeats 2000000 in
set_option maxRecDepth 100000 in
theorem get_any {w : World} {lo c m room : Nat} {sn : Int} {l : List Nd} (h : CM w lo c m room sn l) (hso : Soon sn l) (hfew : ∀ d ∈ l, d.e.ans.few) (q : Kv) (hq : KvOk q) (now : Int) :
    Calls Try.prog 17 #[pt c, q.val, .int .i64 now] w (GetP w lo c m room l (getR (tick now) q (l.map Nd.e)) (getA (tick now) q (l.map Nd.e))) := by
  have hTk := fun W => tick_any now W
  obtain ⟨nw, hnw⟩ : ∃ nw, tick now = nw := ⟨_, rfl⟩
  have hnt : nw ≤ top := by rw [← hnw]; exact tick_le now
  rw [hnw] at hTk
  rw [hnw]
  clear hnw
  have hw0 : Below w.heap.size w ((w.alloc (.cells #[.string q.nm, .int .u16 (q.ty : Int), .int .u16 (q.cl : Int)] 35)).alloc (.cells #[.int .u16 0, .bool false, .slice none 0 0, .slice none 0 0, .slice none 0 0] 38)) := ((Below.refl _ _).alloc (Nat.le_refl _) _).alloc (by simp) _
  have hQ := (Has.fresh w 35 #[.string q.nm, .int .u16 (q.ty : Int), .int .u16 (q.cl : Int)]).alloc (.cells #[.int .u16 0, .bool false, .slice none 0 0, .slice none 0 0, .slice none 0 0] 38)
  have hZ := Has.fresh (w.alloc (.cells #[.string q.nm, .int .u16 (q.ty : Int), .int .u16 (q.cl : Int)] 35)) 38 #[.int .u16 0, .bool false, .slice none 0 0, .slice none 0 0, .slice none 0 0]
  rw [World.size_alloc] at hZ
  obtain ⟨W0, hW0⟩ : ∃ W0, W0 = (w.alloc (.cells #[.string q.nm, .int .u16 (q.ty : Int), .int .u16 (q.cl : Int)] 35)).alloc (.cells #[.int .u16 0, .bool false, .slice none 0 0, .slice none 0 0, .slice none 0 0] 38) := ⟨_, rfl⟩
  rw [← hW0] at hw0 hQ hZ
  have HW0 := Lib.hid hW0
  have hC0 := h.below hw0
  have hTw : Tch (c :: m :: bs l) w W0 := Tch.of_below hw0
  have HS := Lib.hid (sweep_any hC0 hso nw)
  have hfar : ∀ b, w.heap.size ≤ b → b ∉ c :: m :: bs l := fun b hb e => by have := h.lt b (foot_bs b e); omega
  have HQ := Lib.hid hQ
  have HZ := Lib.hid hZ
  have HT0 := Lib.hid hTw
  have HFar := Lib.hid hfar
  have HH := Lib.hid h
  have HFew := Lib.hid hfew
  have hi5 : (Try.prog.info? 38).map (·.size) = some 5 := by kernel_rfl
  have HI := Lib.hid hi5
  clear h hso hw0 hQ hZ hW0 hC0 hTw hfar hfew hi5
  unfold Kv.val
  go_enter Try.func17, Try.ntmps17
  go_upto_region 1 with (fail)
  rw [← HW0.out]
  clear HW0
  go_upto_region 5 with (first
    | (go_at_call 28; refine (hTk _).mono ?_; rintro e w' ⟨rfl, rfl⟩)
    | (go_at_call 29; refine HS.out.mono ?_; rintro e W1 ⟨rfl, sn1, hC1, hso1, hT1⟩))
  clear hTk HS
  have hQ1 := hT1.has HQ.out (HFar.out _ (Nat.le_refl _))
  have hZ1 := hT1.has HZ.out (HFar.out _ (by omega))
  have hT01 := HT0.out.trans hT1
  have HKO := Lib.hid (fun W => keyOf_any q W hq.1)
  obtain ⟨q0, q1, q2⟩ := q_cells hQ1
  obtain ⟨l1, hl1⟩ : ∃ l1, l1 = sweep Nd.e nw l := ⟨_, rfl⟩
  have hsub : l1.Sublist l := by rw [hl1]; exact sweep_sub _ _ _
  have hmap : l1.map Nd.e = sweep id nw (l.map Nd.e) := by rw [hl1]; exact sweep_map _ _ _
  have hlive : ∀ d ∈ l1, nw < d.e.over := fun d hd => by
    rw [hl1] at hd
    have := (List.mem_filter.1 hd).2
    simpa using this
  rw [← hl1] at hC1 hso1
  have hko : KvOk (foldK q) := ⟨by rw [show (foldK q).nm = foldB q.nm from rfl, foldB_size]; exact hq.1, hq.2.1, hq.2.2⟩
  have hlk : ∀ W, Below W1.heap.size W1 W → (Instr.lookup 73 (.map (some m)) (foldK q).val true).run Try.prog W = .ok (.tuple #[(lookL (mL l1) (foldK q)).getD nilp, .bool (lookL (mL l1) (foldK q)).isSome]) W := fun W hb => mq_look (hC1.below hb).mq hC1.kvs hC1.mkeys (foldK q) hko
  have hc3 : W1.cell? ⟨c, 3, none⟩ = some (.map (some m)) := by rw [hC1.rm.head.cell]; rfl
  unfold Kv.val foldK at hlk HKO
  dsimp only at hlk HKO
  have HLk := Lib.hid hlk
  have HC1 := Lib.hid hC1
  have HSo := Lib.hid hso1
  have HZ1 := Lib.hid hZ1
  have HT1 := Lib.hid hT01
  have HSub := Lib.hid hsub
  have HMap := Lib.hid hmap
  have HLv := Lib.hid hlive
  clear hC1 hso1 hQ1 hZ1 hT01 hsub hmap hl1 hT1 HQ HZ HT0 hlive hko hlk
  cases hfi : find Nd.e (foldK q) l1 with
  | none =>
    have hno := find_none Nd.e hfi
    have hlo : lookL (mL l1) ⟨foldB q.nm, q.ty, q.cl⟩ = none := lookL_none fun p hp => by
      obtain ⟨d, hd, rfl⟩ := List.mem_map.1 hp
      exact hno d hd
    rw [hlo] at HLk
    have HFi := Lib.hid hfi
    clear hno hfi hlo
    have hB1 := Below.refl W1.heap.size W1
    go_region_held3 (fun W => W.cell? ⟨w.heap.size, 0, none⟩ = some (.string q.nm) ∧ W.cell? ⟨w.heap.size, 1, none⟩ = some (.int .u16 (q.ty : Int)) ∧ W.cell? ⟨w.heap.size, 2, none⟩ = some (.int .u16 (q.cl : Int)) ∧ W.cell? ⟨c, 3, none⟩ = some (.map (some m)) ∧ (Instr.lookup 73 (.map (some m)) (.agg #[.string (foldB q.nm), .int .u16 (q.ty : Int), .int .u16 (q.cl : Int)]) true).run Try.prog W = .ok (.tuple #[nilp, .bool false]) W ∧ Below W1.heap.size W1 W)
      (first
        | (exact ⟨q0, q1, q2, hc3, HLk.out _ hB1.drew, hB1.drew⟩)
        | (go_split_ands
           try dsimp only
           refine ⟨keep_cell hbW (by assumption), keep_cell hbW (by assumption), keep_cell hbW (by assumption), keep_cell hbW (by assumption), HLk.out _ (keep_below hbW (by assumption) (Nat.le_refl _)), keep_below hbW (by assumption) (Nat.le_refl _)⟩)
        | (go_keep; done))
      (first
        | (go_split_ands; go_at_call 32
           refine (HKO.out _).mono ?_
           rintro e W2 ⟨rfl, hbW⟩))
    rename_i hHeld
    have HB2 := Lib.hid hHeld.2.2.2.2.2
    clear hHeld hB1 hbW q0 q1 q2 hc3
    have HZ2 := Lib.hid (HZ1.out.below HB2.out HZ1.out.lt)
    have HT2 : Hid (Tch (c :: m :: bs l) w W2) := HT1.out.trans (Tch.of_below HB2.out)
    have HC2 := Lib.hid (HC1.out.below HB2.out)
    have HR : Hid (getR nw q (l.map Nd.e) = l1.map Nd.e ∧ getA nw q (l.map Nd.e) = none) := by
      unfold getR getA
      rw [← HMap.out, ← find_map, HFi.out]
      exact ⟨rfl, rfl⟩
    go_wp2_with (refine wpList_store_row rfl 38 (.tmp 6) (.tmp 30) rfl (w.heap.size + 1) _ rfl rfl 38 _ HZ2.out HI.out rfl (by simp [Value.oneCell']) ?_)
    refine bodyPost_ret (results_row_tmp rfl _ _ (w.heap.size + 1) 38 _ _ rfl (HZ2.out.row _) Try.underlying38 rfl HI.out) rfl ?_
    have HTr : Tch [w.heap.size + 1] W2 (W2.setRow (w.heap.size + 1) #[.int .u16 0, .bool false, .slice none 0 0, .slice none 0 0, .slice none 0 0]) := get_row _ _ _
    refine ⟨_, rfl, by rw [HR.out.2]; rfl, sn1, l1, HC2.out.tch HTr fun k hk e => ?_, HSo.out, HR.out.1.symm, HT2.out.trans' HTr fun k hk => .inr (by simp at hk; omega), foot_sub HSub.out⟩
    simp at e
    have := HH.out.lt k (foot_sub HSub.out k hk)
    omega
  | some d =>
    obtain ⟨A, B, hAB, hdk, hdr⟩ := find_some Nd.e hfi HC1.out.keys
    have hdm := drop_map Nd.e (foldK q) l1
    rw [hdr] at hdm
    subst hAB
    have hlo : lookL (mL (A ++ d :: B)) ⟨foldB q.nm, q.ty, q.cl⟩ = some (pt d.b) := lookL_some (by
      have : (d.e.key, pt d.b) ∈ mL (A ++ d :: B) := List.mem_map.2 ⟨d, by simp, rfl⟩
      rw [hdk] at this
      exact this) HC1.out.mkeys
    rw [hlo] at HLk
    have HFi := Lib.hid hfi
    have HDm := Lib.hid hdm
    clear hfi hlo hdr hdk hdm
    have hB1 := Below.refl W1.heap.size W1
    go_region_held3 (fun W => W.cell? ⟨w.heap.size, 0, none⟩ = some (.string q.nm) ∧ W.cell? ⟨w.heap.size, 1, none⟩ = some (.int .u16 (q.ty : Int)) ∧ W.cell? ⟨w.heap.size, 2, none⟩ = some (.int .u16 (q.cl : Int)) ∧ W.cell? ⟨c, 3, none⟩ = some (.map (some m)) ∧ (Instr.lookup 73 (.map (some m)) (.agg #[.string (foldB q.nm), .int .u16 (q.ty : Int), .int .u16 (q.cl : Int)]) true).run Try.prog W = .ok (.tuple #[pt d.b, .bool true]) W ∧ Below W1.heap.size W1 W)
      (first
        | (exact ⟨q0, q1, q2, hc3, HLk.out _ hB1.drew, hB1.drew⟩)
        | (go_split_ands
           try dsimp only
           refine ⟨keep_cell hbW (by assumption), keep_cell hbW (by assumption), keep_cell hbW (by assumption), keep_cell hbW (by assumption), HLk.out _ (keep_below hbW (by assumption) (Nat.le_refl _)), keep_below hbW (by assumption) (Nat.le_refl _)⟩)
        | (go_keep; done))
      (first
        | (go_split_ands; go_at_call 32
           refine (HKO.out _).mono ?_
           rintro e W2 ⟨rfl, hbW⟩))
    rename_i hHeld
    have HB2 := Lib.hid hHeld.2.2.2.2.2
    clear hHeld hB1 hbW q0 q1 q2 hc3
    have hC2 := HC1.out.below HB2.out
    obtain ⟨n1, n2, n3, n4, n5, n6, n7, n8, n9⟩ := nd_split hC2.rm.nd
    have HN := Lib.hid (show d.b ∉ c :: bs (A ++ B) from fun e => by
      rcases List.mem_cons.1 e with e | e
      · exact n3 e.symm
      · rw [bs_append] at e
        rcases List.mem_append.1 e with e | e
        · exact n4 e
        · exact n5 e)
    have HCt := Lib.hid (cut_any hC2.rm)
    have HZ2 := Lib.hid (HZ1.out.below HB2.out HZ1.out.lt)
    have HT2 : Hid (Tch (c :: m :: bs l) w W2) := HT1.out.trans (Tch.of_below HB2.out)
    have HC2 := Lib.hid hC2
    have HR : Hid (getR nw q (l.map Nd.e) = (A ++ B ++ [d]).map Nd.e ∧ getA nw q (l.map Nd.e) = some (told nw d.e)) := by
      unfold getR getA
      rw [← HMap.out, ← find_map, HFi.out]
      refine ⟨?_, rfl⟩
      show drop id (foldK q) ((A ++ d :: B).map Nd.e) ++ [d.e] = _
      rw [← HDm.out, List.map_append (l₁ := A ++ B)]
      rfl
    clear hC2 n1 n2 n3 n4 n5 n6 n7 n8 n9
    go_upto_region 9 with (go_at_call 43; refine HCt.out.mono ?_; rintro e W3 ⟨rfl, hR3, hD3, hT3, hs3⟩)
    have HA4 := Lib.hid (add_any hR3 d hD3 HN.out)
    have HT3 := Lib.hid hT3
    clear hR3 hD3 hT3 hs3
    go_upto_region 10 with (go_at_call 44; refine HA4.out.mono ?_; rintro e W4 ⟨rfl, hR4, hT4, hs4⟩)
    have hT24 : Tch (c :: bs (A ++ d :: B)) W2 W4 := (HT3.out.mono fun k hk => by
      simp only [bs_append, List.mem_cons, List.mem_append, List.map_cons] at hk ⊢
      rcases hk with e | e | e
      · exact .inl e
      · exact .inr (.inl e)
      · exact .inr (.inr (.inr e))).trans (hT4.mono fun k hk => by
      simp only [bs_append, List.mem_cons, List.mem_append, List.map_cons] at hk ⊢
      rcases hk with e | e | e | e
      · exact .inr (.inr (.inl e))
      · exact .inl e
      · exact .inr (.inl e)
      · exact .inr (.inr (.inr e)))
    have hC4 := HC2.out.move hR4 hT24
    obtain ⟨p4, n4, hN4⟩ := hC4.rm.ch.node d (by simp)
    have hTo := told_any d W4 nw hN4 (hC4.rows d (by simp)) (hC4.ok d (by simp)) (HFew.out d (HSub.out.subset (by simp))) hnt (HLv.out d (by simp))
    have hT4w : Tch (c :: m :: bs l) w W4 := HT2.out.trans (hT24.mono fun k hk => by
      rcases List.mem_cons.1 hk with e | e
      · simp [e]
      · exact bs_sub HSub.out k (List.mem_cons_of_mem _ (List.mem_cons_of_mem _ e)))
    have hZ4 : Has W4 (w.heap.size + 1) 38 #[.int .u16 0, .bool false, .slice none 0 0, .slice none 0 0, .slice none 0 0] := hT24.has HZ2.out fun e => by
      rcases List.mem_cons.1 e with e | e
      · have := HH.out.lt c (by simp [foot]); omega
      · have := HH.out.lt _ (foot_bs _ (bs_sub HSub.out _ (List.mem_cons_of_mem _ (List.mem_cons_of_mem _ e)))); omega
    have HTo := Lib.hid hTo
    have HC4 := Lib.hid hC4
    have HT4 := Lib.hid hT4w
    have HZ4 := Lib.hid hZ4
    have HSo4 : Hid (Soon sn1 (A ++ B ++ [d])) := fun y hy => HSo.out y ((move_perm A B d).mem_iff.2 hy)
    clear hT24 hC4 hN4 hTo hT4w hZ4 hR4 hT4 hs4
    go_wp2_with (first
      | (go_at_call 45; refine HTo.out.mono ?_; rintro e W5 ⟨v1, v2, v3, rfl, o1, o2, o3, hb5⟩; have HZ5 := Lib.hid (HZ4.out.below hb5 HZ4.out.lt); have HB5 := Lib.hid hb5; have HO5 := Lib.hid (And.intro o1 (And.intro o2 o3)); have H1c := Lib.hid (ans_one d.e.ans.rc o1 o2 o3); clear o1 o2 o3 hb5; unfold ansV)
      | (refine wpList_store_row rfl 38 (.tmp 6) (.tmp 43) rfl (w.heap.size + 1) _ rfl rfl 38 _ HZ5.out HI.out rfl H1c.out ?_))
    refine bodyPost_ret (results_row_tmp rfl _ _ (w.heap.size + 1) 38 _ _ rfl (HZ5.out.row _) Try.underlying38 rfl HI.out) rfl ?_
    have HTr : Tch [w.heap.size + 1] W5 (W5.setRow (w.heap.size + 1) #[.int .u16 (d.e.ans.rc : Int), .bool false, v1, v2, v3]) := get_row _ _ _
    have hw4 : w.heap.size ≤ W4.heap.size := HT4.out.size
    refine ⟨_, rfl, by rw [HR.out.2]; exact ⟨_, rfl, v1, v2, v3, rfl, ans_row HO5.out.1 HZ5.out hw4, ans_row HO5.out.2.1 HZ5.out hw4, ans_row HO5.out.2.2 HZ5.out hw4⟩, sn1, A ++ B ++ [d], (HC4.out.below HB5.out).tch HTr fun k hk e => ?_, HSo4.out, HR.out.1.symm, (HT4.out.trans (Tch.of_below HB5.out)).trans' HTr fun k hk => .inr (by simp at hk; omega), fun k hk => foot_sub HSub.out k (foot_perm (move_perm A B d) k hk)⟩
    simp at e
    have := HH.out.lt k (foot_sub HSub.out k (foot_perm (move_perm A B d) k hk))
    omega
end Go.Proofs.Ytnhoaceickojeaa.Ca
/- New, Len, Keys: the program's. -/
namespace Go.Proofs.Ytnhoaceickojeaa.Ca
open Go.RowKit

def newOk (n : Int) : Bool := decide (1 ≤ n) && decide (n ≤ 4096)
set_option maxRecDepth 100000 in
theorem new_no (n : Int) (h : newOk n = false) (w : World) : Calls Try.prog 9 #[.int .i64 n] w fun e w' => e = .returned (.tuple #[nilp, .int .i64 1]) ∧ w = w' := by
  unfold newOk at h
  rw [Bool.and_eq_false_iff, decide_eq_false_iff_not, decide_eq_false_iff_not] at h
  by_cases h1 : n < 1
  · clear h
    go_enter Try.func9, Try.ntmps9
    go_wp2
    go_ret2
    exact ⟨rfl, rfl⟩
  · have h2 : (4096 : Int) < n := by omega
    clear h
    go_enter Try.func9, Try.ntmps9
    go_wp2
    go_ret2
    exact ⟨rfl, rfl⟩
set_option maxRecDepth 100000 in
theorem new_yes (n : Nat) (h : newOk n = true) (w : World) : Calls Try.prog 9 #[.int .i64 (n : Int)] w fun e w' => e = .returned (.tuple #[pt (w.heap.size + 1), .int .i64 0]) ∧ CM w' w.heap.size (w.heap.size + 1) w.heap.size n 9223372036854775807 [] ∧ Below w.heap.size w w' ∧ w'.heap.size = w.heap.size + 1 + 1 := by
  unfold newOk at h
  rw [Bool.and_eq_true, decide_eq_true_eq, decide_eq_true_eq] at h
  have h1 : ¬ ((n : Int) < 1) := by omega
  have h2 : ¬ ((4096 : Int) < (n : Int)) := by omega
  clear h
  have hmm := @run_makeMap Try.prog
  go_enter Try.func9, Try.ntmps9
  go_wp2
  go_ret2
  have hM := (Mq.fresh w)
  have hX := Has.fresh (w.alloc (.map #[] 0)) 78 #[nilp, nilp, .int .i64 (n : Int), .map (some w.heap.size), .int .i64 9223372036854775807]
  rw [World.size_alloc] at hX
  refine ⟨rfl, ⟨⟨hX, trivial, by simp⟩, hM.same (heap_alloc_old _ _ hM.lt), fun d hd => (by cases hd), fun d hd => (by cases hd), fun d hd => (by cases hd), by simp, by omega, Nat.le_refl _, fun d hd => (by cases hd)⟩, ((Below.refl _ _).alloc (Nat.le_refl _) _).alloc (by simp) _, by simp⟩
set_option maxRecDepth 100000 in
theorem len_any {w : World} {lo c m room : Nat} {sn : Int} {l : List Nd} (h : CM w lo c m room sn l) : Calls Try.prog 19 #[pt c] w fun e w' => e = .returned (.int .i64 (l.length : Nat)) ∧ w = w' := by
  have hln := fun ty => mq_len (w := w) h.mq ty
  have hll : (mL l).length = l.length := by simp
  rw [hll] at hln
  have c3 : w.cell? ⟨c, 3, none⟩ = some (.map (some m)) := by rw [h.rm.head.cell]; rfl
  clear h hll
  go_enter Try.func19, Try.ntmps19
  go_wp2
  go_ret
  exact ⟨rfl, rfl⟩
theorem kcl_one' (q : Kv) : ∀ v ∈ kcl q, v.oneCell' = true := by
  intro v hv
  simp only [kcl, List.mem_cons, List.not_mem_nil, or_false] at hv
  rcases hv with rfl | rfl | rfl <;> rfl
theorem has_range {w : World} {g : Nat} {t : TypeId} {vs : List Value} (h : Has w g t vs.toArray) : w.rangeAt g 0 vs := fun i u hu => by rw [Nat.zero_add, h.cell, List.getElem?_toArray]; exact hu
theorem keys_keep {B : Nat} {w w1 w2 w3 : World} (h1 : Below B w w1) (_h2 : Below B w w2) (h3 : Below B w w3) {b o : Nat} (hb : b < B) {v : Value} (h : w1.cell? ⟨b, o, none⟩ = some v) : w3.cell? ⟨b, o, none⟩ = some v := ((h3.cell (p := ⟨b, o, none⟩) hb).trans (h1.cell (p := ⟨b, o, none⟩) hb).symm).trans h
set_option maxHeartbeats 800000 in
set_option maxRecDepth 100000 in
theorem keys_any {w : World} {lo c m room : Nat} {sn : Int} {l : List Nd} (h : CM w lo c m room sn l) (hn : l.length ≤ 5000) : Calls Try.prog 21 #[pt c] w fun e w' => ∃ v, e = .returned v ∧ Own kcl 3 w' w.heap.size 35 v (l.map fun d => d.e.key) ∧ Below w.heap.size w w' := by
  obtain ⟨ti, tz, ht1, ht2, ht3, ht4, ht5⟩ : ∃ i z, Try.prog.info? 35 = some i ∧ i.zero = some z ∧ i.size = 3 ∧ i.bytes = 24 ∧ z.cells.size = 3 := ⟨_, .agg #[.string ⟨#[]⟩, .int .u16 0, .int .u16 0], rfl, by kernel_rfl, by kernel_rfl, by kernel_rfl, by kernel_rfl⟩
  have HTI := Lib.hid (And.intro ht1 (And.intro ht2 (And.intro ht3 (And.intro ht4 ht5))))
  have hln := fun ty => mq_len (w := w) h.mq ty
  have hll : (mL l).length = l.length := by simp
  rw [hll] at hln
  have c3 : w.cell? ⟨c, 3, none⟩ = some (.map (some m)) := by rw [h.rm.head.cell]; rfl
  have c0 : w.cell? ⟨c, 0, none⟩ = some (hd l nilp) := by rw [h.rm.head.cell]; rfl
  have H := Lib.hid h
  have HL0 := Lib.hid h.rm.head.lt
  obtain ⟨N, hN⟩ : ∃ N, l.length = N := ⟨_, rfl⟩
  rw [hN] at hln hn
  have HN := Lib.hid hN
  clear h hll ht1 ht2 ht3 ht4 ht5 hN
  go_enter Try.func21, Try.ntmps21
  go_wp2_with (at_make; refine wpList_make_own _ rfl _ _ 58 rfl w.heap.size 35 ti tz 3 Try.underlying58 HTI.out.1 HTI.out.2.1 HTI.out.2.2.1 .i64 .i64 N N rfl rfl rfl (by rw [HTI.out.2.2.2.1]; omega) (by unfold maxLen; omega) (Nat.le_refl _) ?_; intro w1 hown1 hg1; have HO1 := Lib.hid hown1; have HB1 := Lib.hid ((Below.refl w.heap.size w).grown hg1 (Nat.le_refl _) (by simp)); have d0 : w1.cell? ⟨c, 0, none⟩ = some (Ca.hd l nilp) := (HB1.out.cell (p := ⟨c, 0, none⟩) HL0.out).trans c0; clear hown1 hg1)
  go_loopg [3, 4] N (fun gk v x wr => ∃ (P T : List Nd), x = Ca.hd T nilp ∧ Hid (l = P ++ T) ∧ T.length = gk ∧ Hid (Own kcl 3 wr w.heap.size 35 v (P.map fun d => d.e.key)) ∧ Hid (Below w.heap.size w wr))
  case atStart => exact ⟨[], l, rfl, rfl, HN.out, HO1.out, HB1.out⟩
  case round =>
    obtain ⟨P, T, rfl, HE, hg, HO, HB⟩ := hrel
    rcases T with _ | ⟨t, T⟩
    · simp only [hd_nil]
      go_wp2
      go_ret
      have hE := HE.out
      rw [List.append_nil] at hE
      exact ⟨_, rfl, by rw [hE]; exact HO.out, HB.out⟩
    · simp only [hd_cons]
      have hT := H.out
      rw [HE.out] at hT
      have hn3 := (rm_parts hT.rm).2.1
      have hnb := hn3.below HB.out hn3.lt
      obtain ⟨k0, k1, k2⟩ := ecs_key hnb
      have b11 : wr.cell? ⟨t.b, 11, none⟩ = some (Ca.hd T nilp) := by rw [hnb.cell]; rfl
      have hlP : P.length + 1 ≤ 5000 := by
        have := HN.out
        rw [HE.out] at this
        simp at this
        omega
      have HLP := Lib.hid hlP
      have hF := Has.fresh wr 35 #[.string t.e.key.nm, .int .u16 (t.e.key.ty : Int), .int .u16 (t.e.key.cl : Int)]
      have HFr := Lib.hid hF
      have hbl := hn3.lt
      have HBl := Lib.hid hbl
      have hlw : wr.heap.size < wr.heap.size + 1 := by omega
      clear hT hn3 hnb hlP hF hbl
      have HOa : Hid (Own kcl 3 (wr.alloc (.cells #[.string t.e.key.nm, .int .u16 (t.e.key.ty : Int), .int .u16 (t.e.key.cl : Int)] 35)) w.heap.size 35 u3 (P.map fun d => d.e.key)) := own_below HO.out ((Below.refl _ _).alloc (Nat.le_refl _) _) (Nat.le_refl _)
      have HBa : Hid (Below w.heap.size w (wr.alloc (.cells #[.string t.e.key.nm, .int .u16 (t.e.key.ty : Int), .int .u16 (t.e.key.cl : Int)] 35))) := HB.out.alloc HB.out.size _
      have hlen3 : (P.map fun d => d.e.key).length = P.length := List.length_map _
      have HL3 := Lib.hid hlen3
      have HRg := Lib.hid (has_range (vs := kcl t.e.key) HFr.out)
      clear hlen3
      go_wp2_with (at_builtin; refine wpList_append_struct rfl (.tmp 24) (.tmp 29) 58 rfl kcl_len kcl_one' 35 ti tz 24 Try.underlying58 HTI.out.1 HTI.out.2.1 HTI.out.2.2.1 HTI.out.2.2.2.1 HTI.out.2.2.2.2 (by decide) w.heap.size u3 (P.map fun d => d.e.key) rfl HOa.out t.e.key wr.heap.size 1 rfl HRg.out (by rw [HL3.out]; have := HLP.out; unfold maxLen; omega) (by rw [HL3.out]; have := HLP.out; omega) HBa.out.size ?_; intro v2 w2 hO2 hg2 _; have HO2 := Lib.hid hO2; have HB2 := Lib.hid (HBa.out.grown hg2 HBa.out.size (fun k hk => (HOa.out.lt k hk).1)); have e11 : w2.cell? ⟨t.b, 11, none⟩ = some (Ca.hd T nilp) := (keys_keep HB.out HBa.out HB2.out HBl.out b11); clear hO2 hg2)
      go_roundg T.length
      case measure => simp at hg; omega
      case rel => exact ⟨P ++ [t], T, rfl, by rw [HE.out]; simp [Hid], rfl, by rw [List.map_append]; exact HO2.out, HB2.out⟩
end Go.Proofs.Ytnhoaceickojeaa.Ca
