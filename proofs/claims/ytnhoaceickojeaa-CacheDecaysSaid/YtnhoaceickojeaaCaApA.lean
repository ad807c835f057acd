/- CacheApart: facts. -/
import Derived.Test.YtnhoaceickojeaaCaF
import Derived.Test.YtnhoaceickojeaaCaSame
import Derived.Test.YtnhoaceickojeaaFold
namespace Go.Proofs.Ytnhoaceickojeaa.Ca
open Go.RowKit

/-- what a Put of q at 0 keeps. -/
def apE (q : Kv) (a : Av) : En := ⟨foldK q, a, 0, life a⟩
structure Ap (q : Kv) (a : Av) (t i : Nat) (L : List En) : Prop where
  own : ∀ e ∈ L, e.key = foldK q → e = apE q a ∧ putOk q a = true
  has : putOk q a = true → t < life a * 10 → apE q a ∈ L
  len : L.length ≤ i + 1
section
variable {q : Kv} {a : Av} {t i : Nat} {L : List En}
theorem Ap.later {t' i' : Nat} (h : Ap q a t i L) (ht : t ≤ t') (hi : i ≤ i') : Ap q a t' i' L := ⟨h.own, fun h1 h2 => h.has h1 (by omega), by have := h.len; omega⟩
theorem Ap.swp (h : Ap q a t i L) : Ap q a t i (sweep id t L) :=
  ⟨fun e he => h.own e ((sweep_sub id t L).subset he), fun h1 h2 => List.mem_filter.2 ⟨h.has h1 h2, decide_eq_true (by show t < 0 + life a * 10; omega)⟩, Nat.le_trans (sweep_len id t L) h.len⟩
theorem Ap.drp (h : Ap q a t i L) {k : Kv} (hk : k ≠ foldK q) : Ap q a t i (drop id k L) :=
  ⟨fun e he => h.own e ((drop_sub id k L).subset he), fun h1 h2 => List.mem_filter.2 ⟨h.has h1 h2, decide_eq_true fun e => hk e.symm⟩, Nat.le_trans (drop_len id k L) h.len⟩
theorem Ap.snoc (h : Ap q a t i L) {e : En} (he : e.key ≠ foldK q) : Ap q a t (i + 1) (L ++ [e]) :=
  ⟨fun y hy hk => by
    rcases List.mem_append.1 hy with h1 | h1
    · exact h.own y h1 hk
    · rw [List.mem_singleton.1 h1] at hk
      exact absurd hk he, fun h1 h2 => List.mem_append.2 (.inl (h.has h1 h2)), by rw [List.length_append]; have := h.len; simp; omega⟩
theorem Ap.put (h : Ap q a t i L) {x : Kv} {b : Av} (hx : foldK x ≠ foldK q) (hi : i + 2 ≤ 100) : Ap q a t (i + 1) (putR 100 t x b L) := by
  unfold putR
  split
  · have h2 : Ap q a t (i + 1) (drop id (foldK x) (sweep id t L) ++ [⟨foldK x, b, t, life b⟩]) := (h.swp.drp hx).snoc hx
    unfold putL
    dsimp only
    rw [if_neg (by have := h2.len; omega)]
    exact h2
  · exact h.swp.later (Nat.le_refl _) (by omega)
theorem Ap.get (h : Ap q a t i L) {x : Kv} (hx : foldK x ≠ foldK q) : Ap q a t (i + 1) (getR t x L) := by
  unfold getR
  split
  · exact h.swp.later (Nat.le_refl _) (by omega)
  · rename_i e he
    have hk : e.key = foldK x := by have := List.find?_some he; simpa using this
    exact (h.swp.drp hx).snoc (by rw [hk]; exact hx)
theorem Ap.first (q : Kv) (a : Av) : Ap q a 0 0 (putR 100 0 q a []) := by
  unfold putR
  split
  · rename_i h
    have e : putL 100 0 q a [] = [apE q a] := rfl
    rw [e]
    exact ⟨fun y hy _ => ⟨List.mem_singleton.1 hy, h⟩, fun _ _ => List.mem_singleton.2 rfl, Nat.le_refl _⟩
  · rename_i h
    exact ⟨(fun y hy => by cases hy), fun h1 => absurd h1 h, Nat.zero_le _⟩
theorem Ap.tells (h : Ap q a t i L) : getA t q L = if putOk q a = true ∧ t < life a * 10 then some (told t (apE q a)) else none := by
  unfold getA
  have hs := h.swp
  cases hf : find id (foldK q) (sweep id t L) with
  | none =>
    rw [if_neg fun hh => find_none id hf _ (hs.has hh.1 hh.2) rfl]
    rfl
  | some e =>
    have hk : e.key = foldK q := by have := List.find?_some hf; simpa using this
    have hm := List.mem_of_find?_eq_some hf
    obtain ⟨he, hok⟩ := hs.own e hm hk
    have hl : t < e.over := by simpa using (List.mem_filter.1 hm).2
    subst he
    rw [if_pos ⟨hok, by unfold apE En.over at hl; dsimp only at hl; omega⟩]
    rfl
end
theorem getA_aa {t : Nat} {q : Kv} {L : List En} {a : Av} (h : getA t q L = some a) : a.aa = false := by
  unfold getA at h
  rw [Option.map_eq_some_iff] at h
  obtain ⟨e, _, rfl⟩ := h
  rfl
theorem few_told {t : Nat} {e : En} (h : e.ans.few) : (told t e).few := by
  have hr : ∀ {P : Rv → Prop} {l : List Rv}, (∀ r ∈ l, P (agedR ((t - e.put) / 10) (foldR r))) → ∀ r ∈ (l.map foldR).map (agedR ((t - e.put) / 10)), P r := fun hp r hm => by
    rw [List.map_map] at hm
    obtain ⟨y, hy, rfl⟩ := List.mem_map.1 hm
    exact hp y hy
  have hn : ∀ r, r.nm.size ≤ 140737488355328 → (agedR ((t - e.put) / 10) (foldR r)).nm.size ≤ 140737488355328 := fun r hr => by
    show (foldB r.nm).size ≤ _
    rw [foldB_size]
    exact hr
  have hm : ∀ r, r ∈ e.ans.an ∨ r ∈ e.ans.au ∨ r ∈ e.ans.ex → r.nm.size ≤ 140737488355328 := fun r hr => h.nm r (by unfold Av.recs; simpa using hr)
  refine ⟨?_, ?_, ?_, recs_all (hr fun r h => hn r (hm r (.inl h))) (hr fun r h => hn r (hm r (.inr (.inl h)))) (hr fun r h => hn r (hm r (.inr (.inr h))))⟩
  · show ((e.ans.an.map foldR).map _).length ≤ _
    rw [List.length_map, List.length_map]; exact h.l1
  · show ((e.ans.au.map foldR).map _).length ≤ _
    rw [List.length_map, List.length_map]; exact h.l2
  · show ((e.ans.ex.map foldR).map _).length ≤ _
    rw [List.length_map, List.length_map]; exact h.l3
def za : Av := ⟨0, false, [], [], []⟩
theorem za_few : za.few := ⟨by decide, by decide, by decide, fun r hr => by cases hr⟩
theorem own_away {w : World} {b : Nat} {v : Value} {xs : List Rv} (h : Own rcl 12 w b 50 v xs) {A : Option Addr} {n c : Nat} (hv : v = .slice A n c) {S : List Nat} (hS : ∀ k ∈ S, k < b) : ∀ a, A = some a → 0 < n → a.block ∉ S := fun a ha _ e => by
  subst hv ha
  have := (World.ownsRow.lt h a.block rfl).1
  have := hS _ e
  omega
theorem getV_aw {w : World} {b : Nat} {o : Option Av} {v : Value} (h : GetV w b o v) (hb : ∀ a, o = some a → a.aa = false) :
    ∃ y : Aw, v = .tuple #[y.val, .bool o.isSome] ∧ y.lies w ∧ y.a = o.getD za ∧ ∀ S : List Nat, (∀ k ∈ S, k < b) → y.away S := by
  cases o with
  | none =>
    refine ⟨⟨za, none, 0, none, 0, none, 0⟩, h, ⟨fun h => absurd h (by decide), fun h => absurd h (by decide), fun h => absurd h (by decide), fun _ => rfl, fun _ => rfl, fun _ => rfl⟩, rfl, fun S _ => ⟨fun a e => (by cases e), fun a e => (by cases e), fun a e => (by cases e)⟩⟩
  | some a =>
    obtain ⟨x, hv, v1, v2, v3, rfl, o1, o2, o3⟩ := h
    have ha := hb a rfl
    obtain ⟨A1, c1, e1, _, s1⟩ := o1.srow rcl_len
    obtain ⟨A2, c2, e2, _, s2⟩ := o2.srow rcl_len
    obtain ⟨A3, c3, e3, _, s3⟩ := o3.srow rcl_len
    have f1 := own_nil (by rw [e1] at o1; exact o1)
    have f2 := own_nil (by rw [e2] at o2; exact o2)
    have f3 := own_nil (by rw [e3] at o3; exact o3)
    have lw : ∀ {A : Option Addr} {xs : List Rv}, Srow rcl 12 w b w.heap.size A xs → Srow rcl 12 w 0 w.heap.size A xs := fun h => h.more (Nat.zero_le _) (Nat.le_refl _)
    refine ⟨⟨a, A1, c1, A2, c2, A3, c3⟩, ?_, ⟨lw s1, lw s2, lw s3, f1, f2, f3⟩, rfl, fun S hS => ⟨own_away o1 e1 hS, own_away o2 e2 hS, own_away o3 e3 hS⟩⟩
    rw [hv]
    unfold Aw.val Aw.cells ansV
    rw [e1, e2, e3, ha]
    rfl
theorem tick_nat {t : Nat} (h : t ≤ 100000) : tick (t : Int) = t := by
  unfold tick top
  rw [if_neg (by omega), if_neg (by omega)]
  rfl
theorem lies_away {x : Aw} {w0 : World} (h : x.lies w0) {S : List Nat} (hS : ∀ k ∈ S, w0.heap.size ≤ k) : x.away S :=
  have hal : ∀ (A : Option Addr) (xs : List Rv), Srow rcl 12 w0 0 w0.heap.size A xs → ∀ a, A = some a → 0 < xs.length → a.block ∉ S := fun A xs hR a ha h0 e => by
    have h1 := srow_in hR a ha h0
    have h2 := hS _ e
    omega
  ⟨hal _ _ h.s1, hal _ _ h.s2, hal _ _ h.s3⟩
/-- two caches, apart; a question and an answer in boxes. -/
structure Two (w0 W : World) (q : Kv) (x : Aw) (lo lo' c m d n : Nat) (lc ld : List Nd) : Prop where
  sc : St W lo c m 100 lc
  sd : St W lo' d n 100 ld
  far : ∀ k ∈ foot d n ld, k ∉ foot c m lc
  hq : Has W w0.heap.size 35 (kc q)
  ha : Has W (w0.heap.size + 1) 38 x.cells
  lq : w0.heap.size + 2 ≤ lo
  ll : w0.heap.size + 2 ≤ lo'
  be : Below w0.heap.size w0 W
section
variable {w0 W W' : World} {q : Kv} {x : Aw} {lo lo' c m d n : Nat} {lc ld l' : List Nd}
theorem Two.below (h : Two w0 W q x lo lo' c m d n lc ld) (hb : Below W.heap.size W W') : Two w0 W' q x lo lo' c m d n lc ld :=
  ⟨h.sc.below hb, h.sd.below hb, h.far, h.hq.below hb h.hq.lt, h.ha.below hb h.ha.lt, h.lq, h.ll, h.be.trans (hb.mono h.be.size)⟩
theorem Two.nextC (h : Two w0 W q x lo lo' c m d n lc ld) (h1 : St W' lo c m 100 l') (hT : Tch (c :: m :: bs lc) W W') (hf : ∀ k ∈ foot c m l', k ∈ foot c m lc ∨ W.heap.size ≤ k) : Two w0 W' q x lo lo' c m d n l' ld := by
  have hlow : ∀ k ∈ c :: m :: bs lc, lo ≤ k := fun k hk => h.sc.low k (foot_bs k hk)
  have := h.lq
  refine ⟨h1, h.sd.tch hT fun k hk e => h.far k hk (foot_bs k e), fun k hk e => ?_, hT.has h.hq fun e => ?_, hT.has h.ha fun e => ?_, h.lq, h.ll, h.be.trans (hT.below (fun k hk => ?_) h.be.size)⟩
  · rcases hf k e with e | e
    · exact h.far k hk e
    · have := h.sd.lt k hk; omega
  · have := hlow _ e; omega
  · have := hlow _ e; omega
  · have := hlow _ hk; omega
theorem Two.nextD (h : Two w0 W q x lo lo' c m d n lc ld) (h1 : St W' lo' d n 100 l') (hT : Tch (d :: n :: bs ld) W W') (hf : ∀ k ∈ foot d n l', k ∈ foot d n ld ∨ W.heap.size ≤ k) : Two w0 W' q x lo lo' c m d n lc l' := by
  have hlow : ∀ k ∈ d :: n :: bs ld, lo' ≤ k := fun k hk => h.sd.low k (foot_bs k hk)
  have := h.ll
  refine ⟨h.sc.tch hT fun k hk e => h.far k (foot_bs k e) hk, h1, fun k hk e => ?_, hT.has h.hq fun e => ?_, hT.has h.ha fun e => ?_, h.lq, h.ll, h.be.trans (hT.below (fun k hk => ?_) h.be.size)⟩
  · rcases hf k hk with hk | hk
    · exact h.far k hk e
    · have := h.sc.lt k e; omega
  · have := hlow _ e; omega
  · have := hlow _ e; omega
  · have := hlow _ hk; omega
/-- what stands elsewhere stands as it stood. -/
def Kept (W W' : World) (S : List Nat) : Prop := ∀ g o v, g ∉ S → W.cell? ⟨g, o, none⟩ = some v → W'.cell? ⟨g, o, none⟩ = some v
theorem two_putC (h : Two w0 W q x lo lo' c m d n lc ld) (s : Kv) (hs : KvOk s) (y : Aw) (hy : y.lies w0) (hf : y.a.few) (t : Nat) (ht : t ≤ 100000) :
    Calls Try.prog 13 #[pt c, s.val, y.val, .int .i64 (t : Int)] W fun e W' => e = .returned (.bool (putOk s y.a)) ∧ ∃ l', Two w0 W' q x lo lo' c m d n l' ld ∧ l'.map Nd.e = putR 100 t s y.a (lc.map Nd.e) ∧ Kept W W' (c :: m :: bs lc) ∧ Below w0.heap.size W W' := by
  have hlow : ∀ k ∈ c :: m :: bs lc, w0.heap.size ≤ k := fun k hk => by have := h.sc.low k (foot_bs k hk); have := h.lq; omega
  have hp := h.sc.put s hs y (hy.below h.be) (lies_away hy hlow) hf (t : Int)
  rw [tick_nat ht] at hp
  exact hp.mono fun e W' ⟨h1, l', h2, h3, h4, h5⟩ => ⟨h1, l', h.nextC h2 h4 h5, h3, fun g o v hn hc => h4.cell hn hc, h4.below hlow h.be.size⟩
theorem two_putD (h : Two w0 W q x lo lo' c m d n lc ld) (s : Kv) (hs : KvOk s) (y : Aw) (hy : y.lies w0) (hf : y.a.few) (t : Nat) (ht : t ≤ 100000) :
    Calls Try.prog 13 #[pt d, s.val, y.val, .int .i64 (t : Int)] W fun e W' => e = .returned (.bool (putOk s y.a)) ∧ ∃ l', Two w0 W' q x lo lo' c m d n lc l' ∧ l'.map Nd.e = putR 100 t s y.a (ld.map Nd.e) ∧ Kept W W' (d :: n :: bs ld) ∧ Below w0.heap.size W W' := by
  have hlow : ∀ k ∈ d :: n :: bs ld, w0.heap.size ≤ k := fun k hk => by have := h.sd.low k (foot_bs k hk); have := h.ll; omega
  have hp := h.sd.put s hs y (hy.below h.be) (lies_away hy hlow) hf (t : Int)
  rw [tick_nat ht] at hp
  exact hp.mono fun e W' ⟨h1, l', h2, h3, h4, h5⟩ => ⟨h1, l', h.nextD h2 h4 h5, h3, fun g o v hn hc => h4.cell hn hc, h4.below hlow h.be.size⟩
theorem two_getC (h : Two w0 W q x lo lo' c m d n lc ld) (s : Kv) (hs : KvOk s) (t : Nat) (ht : t ≤ 100000) :
    Calls Try.prog 17 #[pt c, s.val, .int .i64 (t : Int)] W fun e W' => ∃ y : Aw, e = .returned (.tuple #[y.val, .bool (getA t s (lc.map Nd.e)).isSome]) ∧ y.lies W' ∧ y.a = (getA t s (lc.map Nd.e)).getD za ∧ (∀ S : List Nat, (∀ k ∈ S, k < W.heap.size) → y.away S) ∧ ∃ l', Two w0 W' q x lo lo' c m d n l' ld ∧ l'.map Nd.e = getR t s (lc.map Nd.e) ∧ Tch (c :: m :: bs lc) W W' := by
  have hp := h.sc.get s hs (t : Int)
  rw [tick_nat ht] at hp
  refine hp.mono fun e W' ⟨v, h1, hv, l', h2, h3, h4, h5⟩ => ?_
  obtain ⟨y, rfl, hy, ha, hw⟩ := getV_aw hv fun a ha => getA_aa ha
  exact ⟨y, h1, hy, ha, hw, l', h.nextC h2 h4 fun k hk => .inl (h5 k hk), h3, h4⟩
theorem two_getD (h : Two w0 W q x lo lo' c m d n lc ld) (s : Kv) (hs : KvOk s) (t : Nat) (ht : t ≤ 100000) :
    Calls Try.prog 17 #[pt d, s.val, .int .i64 (t : Int)] W fun e W' => ∃ y : Aw, e = .returned (.tuple #[y.val, .bool (getA t s (ld.map Nd.e)).isSome]) ∧ y.lies W' ∧ y.a = (getA t s (ld.map Nd.e)).getD za ∧ ∃ l', Two w0 W' q x lo lo' c m d n lc l' ∧ l'.map Nd.e = getR t s (ld.map Nd.e) ∧ Tch (d :: n :: bs ld) W W' := by
  have hp := h.sd.get s hs (t : Int)
  rw [tick_nat ht] at hp
  refine hp.mono fun e W' ⟨v, h1, hv, l', h2, h3, h4, h5⟩ => ?_
  obtain ⟨y, rfl, hy, ha, _⟩ := getV_aw hv fun a ha => getA_aa ha
  exact ⟨y, h1, hy, ha, l', h.nextD h2 h4 fun k hk => .inl (h5 k hk), h3, h4⟩
theorem two_len (h : Two w0 W q x lo lo' c m d n lc ld) : Calls Try.prog 19 #[pt c] W fun e W' => e = .returned (.int .i64 (lc.length : Nat)) ∧ W = W' := by
  obtain ⟨sn, hC, _⟩ := h.sc.cm
  exact len_any hC
end
section
variable {w0 W W' : World} {q : Kv} {x : Aw} {lo lo' c m d n : Nat} {lc ld l' : List Nd}
theorem Two.cells (h : Two w0 W q x lo lo' c m d n lc ld) : W.cell? ⟨w0.heap.size, 0, none⟩ = some (.string q.nm) ∧ W.cell? ⟨w0.heap.size, 1, none⟩ = some (.int .u16 (q.ty : Int)) ∧ W.cell? ⟨w0.heap.size, 2, none⟩ = some (.int .u16 (q.cl : Int)) ∧ W.cell? ⟨w0.heap.size + 1, 0, none⟩ = some (.int .u16 (x.a.rc : Int)) ∧ W.cell? ⟨w0.heap.size + 1, 1, none⟩ = some (.bool x.a.aa) ∧ W.cell? ⟨w0.heap.size + 1, 2, none⟩ = some (.slice x.A1 x.a.an.length x.c1) ∧ W.cell? ⟨w0.heap.size + 1, 3, none⟩ = some (.slice x.A2 x.a.au.length x.c2) ∧ W.cell? ⟨w0.heap.size + 1, 4, none⟩ = some (.slice x.A3 x.a.ex.length x.c3) := by
  obtain ⟨h1, h2, h3⟩ := q_cells (show Has W w0.heap.size 35 #[.string q.nm, .int .u16 (q.ty : Int), .int .u16 (q.cl : Int)] from h.hq)
  exact ⟨h1, h2, h3, a_cells (show Has W (w0.heap.size + 1) 38 #[.int .u16 (x.a.rc : Int), .bool x.a.aa, .slice x.A1 x.a.an.length x.c1, .slice x.A2 x.a.au.length x.c2, .slice x.A3 x.a.ex.length x.c3] from h.ha)⟩
theorem two_put0C (h : Two w0 W q x lo lo' c m d n [] ld) (hs : KvOk q) (hy : x.lies w0) (hf : x.a.few) :
    Calls Try.prog 13 #[pt c, q.val, x.val, .int .i64 0] W fun e W' => e = .returned (.bool (putOk q x.a)) ∧ ∃ l', Two w0 W' q x lo lo' c m d n l' ld ∧ Ap q x.a 0 0 (l'.map Nd.e) :=
  (two_putC h q hs x hy hf 0 (by decide)).mono fun e W' ⟨h1, l', h2, h3, _⟩ => ⟨h1, l', h2, by rw [h3]; exact Ap.first q x.a⟩
theorem two_put0D (h : Two w0 W q x lo lo' c m d n lc []) (hs : KvOk q) (hy : x.lies w0) (hf : x.a.few) :
    Calls Try.prog 13 #[pt d, q.val, x.val, .int .i64 0] W fun e W' => e = .returned (.bool (putOk q x.a)) ∧ ∃ l', Two w0 W' q x lo lo' c m d n lc l' ∧ Ap q x.a 0 0 (l'.map Nd.e) :=
  (two_putD h q hs x hy hf 0 (by decide)).mono fun e W' ⟨h1, l', h2, h3, _⟩ => ⟨h1, l', h2, by rw [h3]; exact Ap.first q x.a⟩
end
theorem new100 (w : World) : Calls Try.prog 9 #[.int .i64 100] w fun e w' => e = .returned (.tuple #[pt (w.heap.size + 1), .int .i64 0]) ∧ St w' w.heap.size (w.heap.size + 1) w.heap.size 100 [] ∧ Below w.heap.size w w' ∧ w'.heap.size = w.heap.size + 1 + 1 := St.new 100 rfl w
theorem two_new {w0 W3 W4 W5 : World} {q : Kv} {x : Aw} (hb : Below w0.heap.size w0 W3) (h2 : w0.heap.size + 2 ≤ W3.heap.size) (hq : Has W3 w0.heap.size 35 (kc q)) (ha : Has W3 (w0.heap.size + 1) 38 x.cells)
    (s1 : St W4 W3.heap.size (W3.heap.size + 1) W3.heap.size 100 []) (b1 : Below W3.heap.size W3 W4) (z1 : W4.heap.size = W3.heap.size + 1 + 1) (s2 : St W5 W4.heap.size (W4.heap.size + 1) W4.heap.size 100 []) (b2 : Below W4.heap.size W4 W5) :
    Two w0 W5 q x W3.heap.size W4.heap.size (W3.heap.size + 1) W3.heap.size (W4.heap.size + 1) W4.heap.size [] [] := by
  have b3 : Below W3.heap.size W3 W5 := b1.trans (b2.mono (by omega))
  refine ⟨s1.below b2, s2, fun k hk e => ?_, hq.below b3 hq.lt, ha.below b3 ha.lt, h2, by omega, hb.trans (b3.mono (by omega))⟩
  simp [foot] at hk e
  omega
theorem foldB_any (s : ByteArray) (hs : s.size ≤ 140737488355328) (w : World) : Calls Try.prog 25 #[.string s] w fun e w' => e = .returned (.string (foldB s)) ∧ Below w.heap.size w w' := refFold_any s w hs
theorem two_len2 {w0 W : World} {q : Kv} {x : Aw} {lo lo' c m d n : Nat} {lc ld : List Nd} (h : Two w0 W q x lo lo' c m d n lc ld) : Calls Try.prog 19 #[pt c] W fun e W' => (∃ z : Nat, e = .returned (.int .i64 z) ∧ z ≤ 100) ∧ W = W' := (two_len h).mono fun _ _ ⟨h1, h2⟩ => ⟨⟨_, h1, h.sc.len⟩, h2⟩
/-- `& 1023`. -/
theorem and1023 (v : Int) : ∃ u : Nat, bits BinOp.and IntKind.i64 v 1023 = (u : Int) ∧ u ≤ 1023 := by
  refine ⟨(BitVec.ofInt 64 v &&& BitVec.ofInt 64 1023).toNat, ?_, ?_⟩
  · have h : (BitVec.ofInt 64 v &&& BitVec.ofInt 64 1023).toNat ≤ 1023 := by
      rw [BitVec.toNat_and]
      exact Nat.and_le_right
    show IntKind.i64.wrap (((BitVec.ofInt 64 v &&& BitVec.ofInt 64 1023).toNat : Nat) : Int) = _
    rw [IntKind.wrap_i64]
    omega
  · rw [BitVec.toNat_and]
    exact Nat.and_le_right
end Go.Proofs.Ytnhoaceickojeaa.Ca
