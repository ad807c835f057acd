/- CacheDecays: facts. -/
import Derived.Test.YtnhoaceickojeaaCaApA
import Derived.Test.YtnhoaceickojeaaCaOld
import Derived.Test.YtnhoaceickojeaaRdOpen
namespace Go.Proofs.Ytnhoaceickojeaa.Ca
open Go.ChangeShapes Go.WideShapes Go.Deep Go.RowKit

def ucl (n : Nat) : List Value := [.int .u32 (n : Int)]
theorem ucl_len (n : Nat) : (ucl n).length = 1 := rfl
set_option maxRecDepth 100000 in
theorem open_u32_at {H : Type} {enc : TypeId × Value → H} {W : World} {fuel : Nat} {cs : List Value} {x : DataW H × List MemPlace} (_hl : cs.length = 1) (hf : DataW.trod enc Try.prog W 0 (fun _ => true) true fuel 45 cs = some x) :
    ∃ n : Nat, cs = ucl n ∧ n ≤ 4294967295 ∧ ((x.1.weights Try.prog 45).all (· ≤ reachBytes) = true → True) ∧ 0 ≤ Rows.uptoBulk x.1 := by
  obtain ⟨i, f0, _, w0⟩ := DataW.trod_int Try.underlying45 hf
  obtain ⟨n, rfl, hn⟩ := wf_u32 w0
  exact ⟨n, f0, hn, fun _ => trivial, Nat.zero_le _⟩
set_option maxRecDepth 100000 in
theorem open_u32s {H : Type} {enc : TypeId × Value → H} {W : World} {base : Nat} {v : Value} {d : DataW H} {p : List MemPlace} (hval : Value.okWide Try.prog W .any base 61 v) (h : DataW.Trod enc Try.prog W 0 (fun _ => true) true 61 v d p) :
    ∃ A ns c, v = .slice A ns.length c ∧ Srow ucl 1 W 0 W.heap.size A ns ∧ (∀ n ∈ ns, n ≤ 4294967295) ∧ ((d.weights Try.prog 61).all (· ≤ reachBytes) = true → ns.length * 4 ≤ 140737488351232) := by
  obtain ⟨a0, len, cap, rfl⟩ := okWide_slice Try.underlying61 hval
  obtain ⟨fuel, hf⟩ := h
  have bq : Try.prog.bytesOf 45 = 4 := by kernel_rfl
  obtain ⟨A, ns, c, hcs, hl, _, hS, hF, hN, _, _⟩ := open_rows (B := fun _ => 0) (by decide) ucl_len Try.underlying61 (by kernel_rfl) (fun h1 h2 => open_u32_at h1 h2) hf
  simp [Value.cells] at hcs
  obtain ⟨rfl, rfl, rfl⟩ := hcs
  refine ⟨_, ns, _, rfl, hS, hF, fun hw => ?_⟩
  have := (hN hw).1
  rw [bq] at this
  omega
/-- what a Put of q at t keeps, alone. -/
def deE (q : Kv) (a : Av) (t : Nat) : En := ⟨foldK q, a, t, life a⟩
theorem de_put (q : Kv) (a : Av) (t : Nat) : putR 3 t q a [] = if putOk q a then [deE q a t] else [] := by
  unfold putR
  split <;> rfl
def De (q : Kv) (a : Av) (t : Nat) (L : List En) (gone : Bool) : Prop := L = [] ∨ (L = [deE q a t] ∧ gone = false ∧ putOk q a = true)
theorem de_nil (q : Kv) (t : Nat) : getA t q [] = none ∧ getR t q [] = [] := ⟨rfl, rfl⟩
theorem de_yes {q : Kv} {a : Av} {t now : Nat} (h : now < t + life a * 10) : getA now q [deE q a t] = some (told now (deE q a t)) ∧ getR now q [deE q a t] = [deE q a t] := by
  have hs : sweep id now [deE q a t] = [deE q a t] := by
    unfold sweep
    rw [List.filter_cons_of_pos (by show decide (now < t + life a * 10) = true; exact decide_eq_true h)]
    rfl
  have hf : find id (foldK q) [deE q a t] = some (deE q a t) := by
    unfold find
    rw [List.find?_cons_of_pos (by show decide (foldK q = foldK q) = true; exact decide_eq_true rfl)]
  have hd : drop id (foldK q) [deE q a t] = [] := by
    unfold drop
    rw [List.filter_cons_of_neg (by show ¬ decide (foldK q ≠ foldK q) = true; simp)]
    rfl
  unfold getA getR
  rw [hs, hf]
  refine ⟨rfl, ?_⟩
  show drop id (foldK q) [deE q a t] ++ [deE q a t] = _
  rw [hd]
  rfl
theorem de_no {q : Kv} {a : Av} {t now : Nat} (h : ¬ now < t + life a * 10) : getA now q [deE q a t] = none ∧ getR now q [deE q a t] = [] := by
  have hs : sweep id now [deE q a t] = [] := by
    unfold sweep
    rw [List.filter_cons_of_neg (by show ¬ decide (now < t + life a * 10) = true; simpa using h)]
    rfl
  unfold getA getR
  rw [hs]
  exact ⟨rfl, rfl⟩
/-- what is told at some time, of what is kept. -/
theorem de_get {q : Kv} {a : Av} {t now : Nat} {L : List En} {gone : Bool} (h : De q a t L gone) :
    (getA now q L = none ∧ De q a t (getR now q L) true) ∨ (getA now q L = some (told now (deE q a t)) ∧ De q a t (getR now q L) false ∧ gone = false ∧ putOk q a = true ∧ now < t + life a * 10) := by
  rcases h with rfl | ⟨rfl, hg, hp⟩
  · exact .inl ⟨rfl, .inl rfl⟩
  · by_cases hl : now < t + life a * 10
    · obtain ⟨h1, h2⟩ := de_yes (q := q) (a := a) hl
      exact .inr ⟨h1, .inr ⟨h2, rfl, hp⟩, hg, hp, hl⟩
    · obtain ⟨h1, h2⟩ := de_no (q := q) (a := a) hl
      exact .inl ⟨h1, .inl h2⟩
theorem ok_rc {q : Kv} {a : Av} (h : putOk q a = true) : a.rc = 0 ∨ a.rc = 3 := by
  unfold putOk at h
  rw [Bool.and_eq_true, decide_eq_true_eq] at h
  have h := h.2
  unfold life at h
  by_cases h0 : a.rc = 0
  · exact .inl h0
  · by_cases h3 : a.rc = 3
    · exact .inr h3
    · rw [if_neg (fun e => h0 e.1), if_neg (fun e => e.elim h0 h3)] at h
      exact absurd rfl h
theorem soa_found {g : Nat} : ∀ {l : List Rv}, g < soa l → (l.any fun r => decide (r.ty = 6) && decide (g < r.d.n4)) = true
  | [], h => by simp [soa] at h
  | r :: t, h => by
    unfold soa at h
    rw [List.any_cons, Bool.or_eq_true]
    by_cases h6 : r.ty = 6
    · rw [if_pos h6] at h
      refine .inl ?_
      have : cnt r.d.n4 ≤ r.d.n4 := by unfold cnt; split <;> omega
      rw [decide_eq_true h6, decide_eq_true (by omega)]
      rfl
    · rw [if_neg h6] at h
      exact .inr (soa_found h)
theorem neg_found {a : Av} {g : Nat} (h : g < life a) (hn : a.rc = 3 ∨ a.an.length = 0) : (a.au.any fun r => decide (r.ty = 6) && decide (g < r.d.n4)) = true := by
  refine soa_found (Nat.lt_of_lt_of_le h ?_)
  unfold life
  rw [if_neg ?_]
  · split
    · exact Nat.min_le_right _ _
    · exact Nat.zero_le _
  · rintro ⟨h1, h2⟩
    rcases hn with h3 | h3
    · omega
    · exact h2 (List.length_eq_zero_iff.1 h3)
theorem tick_big {t : Nat} (h : t ≤ 10000000000000) : tick (t : Int) = t := by
  unfold tick top
  rw [if_neg (by omega), if_neg (by omega)]
  rfl
theorem and40 (v : Int) : ∃ u : Nat, bits BinOp.and IntKind.i64 v 1099511627775 = (u : Int) ∧ u ≤ 1099511627775 := by
  have h : (BitVec.ofInt 64 v &&& BitVec.ofInt 64 1099511627775).toNat ≤ 1099511627775 := by
    rw [BitVec.toNat_and]
    exact Nat.and_le_right
  refine ⟨(BitVec.ofInt 64 v &&& BitVec.ofInt 64 1099511627775).toNat, ?_, h⟩
  show IntKind.i64.wrap (((BitVec.ofInt 64 v &&& BitVec.ofInt 64 1099511627775).toNat : Nat) : Int) = _
  rw [IntKind.wrap_i64]
  omega
/-- a cache; a question and an answer in boxes. -/
structure One (w0 W : World) (q : Kv) (x : Aw) (lo c m : Nat) (l : List Nd) : Prop where
  sc : St W lo c m 3 l
  hq : Has W w0.heap.size 35 (kc q)
  ha : Has W (w0.heap.size + 1) 38 x.cells
  lq : w0.heap.size + 2 ≤ lo
  be : Below w0.heap.size w0 W
section
variable {w0 W W' : World} {q : Kv} {x : Aw} {lo c m : Nat} {l l' : List Nd}
theorem One.below (h : One w0 W q x lo c m l) (hb : Below W.heap.size W W') : One w0 W' q x lo c m l :=
  ⟨h.sc.below hb, h.hq.below hb h.hq.lt, h.ha.below hb h.ha.lt, h.lq, h.be.trans (hb.mono h.be.size)⟩
theorem One.next (h : One w0 W q x lo c m l) (h1 : St W' lo c m 3 l') (hT : Tch (c :: m :: bs l) W W') : One w0 W' q x lo c m l' := by
  have hlow : ∀ k ∈ c :: m :: bs l, lo ≤ k := fun k hk => h.sc.low k (foot_bs k hk)
  have := h.lq
  refine ⟨h1, hT.has h.hq fun e => ?_, hT.has h.ha fun e => ?_, h.lq, h.be.trans (hT.below (fun k hk => ?_) h.be.size)⟩
  · have := hlow _ e; omega
  · have := hlow _ e; omega
  · have := hlow _ hk; omega
theorem one_put (h : One w0 W q x lo c m []) (hs : KvOk q) (hy : x.lies w0) (hf : x.a.few) (t : Nat) (ht : t ≤ 10000000000000) :
    Calls Try.prog 13 #[pt c, q.val, x.val, .int .i64 (t : Int)] W fun e W' => e = .returned (.bool (putOk q x.a)) ∧ ∃ l', One w0 W' q x lo c m l' ∧ l'.map Nd.e = if putOk q x.a then [deE q x.a t] else [] := by
  have hlow : ∀ k ∈ c :: m :: bs [], w0.heap.size ≤ k := fun k hk => by have := h.sc.low k (foot_bs k hk); have := h.lq; omega
  have hp := h.sc.put q hs x (hy.below h.be) (lies_away hy hlow) hf (t : Int)
  rw [tick_big ht] at hp
  exact hp.mono fun e W' ⟨h1, l', h2, h3, h4, _⟩ => ⟨h1, l', h.next h2 h4, by rw [h3]; exact de_put q x.a t⟩
theorem one_get (h : One w0 W q x lo c m l) (hs : KvOk q) (t : Nat) (ht : t ≤ 10000000000000) :
    Calls Try.prog 17 #[pt c, q.val, .int .i64 (t : Int)] W fun e W' => ∃ y : Aw, e = .returned (.tuple #[y.val, .bool (getA t q (l.map Nd.e)).isSome]) ∧ y.lies W' ∧ y.a = (getA t q (l.map Nd.e)).getD za ∧ ∃ l', One w0 W' q x lo c m l' ∧ l'.map Nd.e = getR t q (l.map Nd.e) := by
  have hp := h.sc.get q hs (t : Int)
  rw [tick_big ht] at hp
  refine hp.mono fun e W' ⟨v, h1, hv, l', h2, h3, h4, h5⟩ => ?_
  obtain ⟨y, rfl, hy, ha, hw⟩ := getV_aw hv fun a ha => getA_aa ha
  exact ⟨y, h1, hy, ha, l', h.next h2 h4, h3⟩
theorem one_told (h : One w0 W q x lo c m l) (hs : KvOk q) {t now : Nat} (ht : now ≤ 10000000000000) (hg : getA now q (l.map Nd.e) = some (told now (deE q x.a t))) :
    Calls Try.prog 17 #[pt c, q.val, .int .i64 (now : Int)] W fun e W' => ∃ Y1 d1 Y2 d2 Y3 d3, e = .returned (.tuple #[.agg #[.int .u16 (x.a.rc : Int), .bool false, .slice Y1 x.a.an.length d1, .slice Y2 x.a.au.length d2, .slice Y3 x.a.ex.length d3], .bool true]) ∧
      (Srow rcl 12 W' 0 W'.heap.size Y1 ((x.a.an.map foldR).map (agedR ((now - t) / 10))) ∧ Srow rcl 12 W' 0 W'.heap.size Y2 ((x.a.au.map foldR).map (agedR ((now - t) / 10))) ∧ Srow rcl 12 W' 0 W'.heap.size Y3 ((x.a.ex.map foldR).map (agedR ((now - t) / 10)))) ∧ ∃ l', One w0 W' q x lo c m l' ∧ l'.map Nd.e = getR now q (l.map Nd.e) := by
  refine (one_get h hs now ht).mono fun e W' ⟨y, h1, hy, ha, l', h2, h3⟩ => ?_
  rw [hg] at h1 ha
  obtain ⟨ya, Y1, d1, Y2, d2, Y3, d3⟩ := y
  dsimp only at ha
  subst ha
  have l1 : ((x.a.an.map foldR).map (agedR ((now - t) / 10))).length = x.a.an.length := by rw [List.length_map, List.length_map]
  have l2 : ((x.a.au.map foldR).map (agedR ((now - t) / 10))).length = x.a.au.length := by rw [List.length_map, List.length_map]
  have l3 : ((x.a.ex.map foldR).map (agedR ((now - t) / 10))).length = x.a.ex.length := by rw [List.length_map, List.length_map]
  refine ⟨Y1, d1, Y2, d2, Y3, d3, ?_, ⟨hy.s1, hy.s2, hy.s3⟩, l', h2, h3⟩
  rw [h1, ← l1, ← l2, ← l3]
  rfl
theorem one_len (h : One w0 W q x lo c m l) : Calls Try.prog 19 #[pt c] W fun e W' => e = .returned (.int .i64 (l.length : Nat)) ∧ W = W' := by
  obtain ⟨sn, hC, _⟩ := h.sc.cm
  exact len_any hC
theorem One.cells (h : One w0 W q x lo c m l) : W.cell? ⟨w0.heap.size, 0, none⟩ = some (.string q.nm) ∧ W.cell? ⟨w0.heap.size, 1, none⟩ = some (.int .u16 (q.ty : Int)) ∧ W.cell? ⟨w0.heap.size, 2, none⟩ = some (.int .u16 (q.cl : Int)) ∧ W.cell? ⟨w0.heap.size + 1, 0, none⟩ = some (.int .u16 (x.a.rc : Int)) ∧ W.cell? ⟨w0.heap.size + 1, 1, none⟩ = some (.bool x.a.aa) ∧ W.cell? ⟨w0.heap.size + 1, 2, none⟩ = some (.slice x.A1 x.a.an.length x.c1) ∧ W.cell? ⟨w0.heap.size + 1, 3, none⟩ = some (.slice x.A2 x.a.au.length x.c2) ∧ W.cell? ⟨w0.heap.size + 1, 4, none⟩ = some (.slice x.A3 x.a.ex.length x.c3) := by
  obtain ⟨h1, h2, h3⟩ := q_cells (show Has W w0.heap.size 35 #[.string q.nm, .int .u16 (q.ty : Int), .int .u16 (q.cl : Int)] from h.hq)
  exact ⟨h1, h2, h3, a_cells (show Has W (w0.heap.size + 1) 38 #[.int .u16 (x.a.rc : Int), .bool x.a.aa, .slice x.A1 x.a.an.length x.c1, .slice x.A2 x.a.au.length x.c2, .slice x.A3 x.a.ex.length x.c3] from h.ha)⟩
end
theorem older_ok {x : Aw} {g : Nat} (hf : x.a.few) (hg : g < life x.a) : (∀ r ∈ x.a.an, g ≤ r.ttl ∧ r.ttl ≤ 2147483647 ∧ r.nm.size ≤ 140737488355328) ∧ (∀ r ∈ x.a.au, g ≤ r.ttl ∧ r.ttl ≤ 2147483647 ∧ r.nm.size ≤ 140737488355328) ∧ (∀ r ∈ x.a.ex, g ≤ r.ttl ∧ r.ttl ≤ 2147483647 ∧ r.nm.size ≤ 140737488355328) := by
  have h := life_ttl (a := x.a) (by omega)
  have hr : ∀ r ∈ x.a.recs, g ≤ r.ttl ∧ r.ttl ≤ 2147483647 ∧ r.nm.size ≤ 140737488355328 := fun r hm => ⟨by have := (h r hm).1; omega, (h r hm).2, hf.nm r hm⟩
  refine ⟨fun r hm => hr r ?_, fun r hm => hr r ?_, fun r hm => hr r ?_⟩ <;> (unfold Av.recs; simp [hm])
/-- the three calls of older. -/
theorem olders {x : Aw} {w0 W7 : World} {g : Nat} {Y1 Y2 Y3 : Option Addr} {d1 d2 d3 : Nat} (hl : x.lies w0) (hb : Below w0.heap.size w0 W7) (hf : x.a.few) (hg : g < life x.a)
    (h1 : Srow rcl 12 W7 0 W7.heap.size Y1 ((x.a.an.map foldR).map (agedR g))) (h2 : Srow rcl 12 W7 0 W7.heap.size Y2 ((x.a.au.map foldR).map (agedR g))) (h3 : Srow rcl 12 W7 0 W7.heap.size Y3 ((x.a.ex.map foldR).map (agedR g))) :
    (∀ W, Below W7.heap.size W7 W → Calls Try.prog 24 #[.slice Y1 x.a.an.length d1, .slice x.A1 x.a.an.length x.c1, .int .u32 (g : Int)] W fun e w' => e = .returned (.bool true) ∧ Below W.heap.size W w') ∧
    (∀ W, Below W7.heap.size W7 W → Calls Try.prog 24 #[.slice Y2 x.a.au.length d2, .slice x.A2 x.a.au.length x.c2, .int .u32 (g : Int)] W fun e w' => e = .returned (.bool true) ∧ Below W.heap.size W w') ∧
    (∀ W, Below W7.heap.size W7 W → Calls Try.prog 24 #[.slice Y3 x.a.ex.length d3, .slice x.A3 x.a.ex.length x.c3, .int .u32 (g : Int)] W fun e w' => e = .returned (.bool true) ∧ Below W.heap.size W w') := by
  obtain ⟨m1, m2, m3⟩ := older_ok hf hg
  have up : ∀ {W : World} {Y : Option Addr} {xs : List Rv}, Below W7.heap.size W7 W → Srow rcl 12 W7 0 W7.heap.size Y xs → Srow rcl 12 W 0 W.heap.size Y xs := fun hB hS => (hS.keep hB).more (Nat.le_refl _) hB.size
  exact ⟨fun W hB => older_any _ g Y1 x.A1 d1 x.c1 W (up hB h1) ((hl.below (hb.trans (hB.mono hb.size))).s1) hf.l1 m1, fun W hB => older_any _ g Y2 x.A2 d2 x.c2 W (up hB h2) ((hl.below (hb.trans (hB.mono hb.size))).s2) hf.l2 m2, fun W hB => older_any _ g Y3 x.A3 d3 x.c3 W (up hB h3) ((hl.below (hb.trans (hB.mono hb.size))).s3) hf.l3 m3⟩
theorem new3 (w : World) : Calls Try.prog 9 #[.int .i64 3] w fun e w' => e = .returned (.tuple #[pt (w.heap.size + 1), .int .i64 0]) ∧ St w' w.heap.size (w.heap.size + 1) w.heap.size 3 [] ∧ Below w.heap.size w w' ∧ w'.heap.size = w.heap.size + 1 + 1 := St.new 3 rfl w
end Go.Proofs.Ytnhoaceickojeaa.Ca
