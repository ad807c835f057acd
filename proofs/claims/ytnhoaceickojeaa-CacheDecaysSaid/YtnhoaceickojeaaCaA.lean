/- Merged: CaPure CaMem CaMap. -/
import Derived.Test.YtnhoaceickojeaaRrRv
import Derived.Test.YtnhoaceickojeaaRrSets
import Derived.Test.YtnhoaceickojeaaRowK
import Derived.Test.YtnhoaceickojeaaRrOpen
import Derived.DeepKeys4
import Derived.WideKeyEntry
import Derived.Maps.RangeRun
/- Answers that are kept: a cache as a row of entries, as plain values. Nothing of the program. -/
namespace Go.Proofs.Ytnhoaceickojeaa.Ca
open Go.RowKit

/-- an answer, as it comes. -/
structure Av where
  rc : Nat
  aa : Bool
  an : List Rv
  au : List Rv
  ex : List Rv
def Av.recs (a : Av) : List Rv := a.an ++ (a.au ++ a.ex)
/-- a number of seconds that counts. -/
def cnt (n : Nat) : Nat := if 2147483647 < n then 0 else n
theorem cnt_le (n : Nat) : cnt n ≤ 2147483647 := by unfold cnt; split <;> omega
def soa : List Rv → Nat
  | [] => 0
  | r :: t => if r.ty = 6 then cnt r.d.n4 else soa t
theorem soa_le : ∀ l : List Rv, soa l ≤ 2147483647
  | [] => by simp [soa]
  | r :: t => by
    unfold soa
    split
    · exact cnt_le _
    · exact soa_le t
def leastT (a : Av) : Nat := Rr.least (a.recs.map fun r => cnt r.ttl)
def life (a : Av) : Nat := if a.rc = 0 ∧ a.an ≠ [] then leastT a else if a.rc = 0 ∨ a.rc = 3 then min (leastT a) (soa a.au) else 0
theorem leastT_le (a : Av) : leastT a ≤ 2147483647 := by
  unfold leastT
  by_cases h : (a.recs.map fun r => cnt r.ttl) = []
  · rw [h]; simp [Rr.least]
  · obtain ⟨h1, _⟩ := Rr.least_is _ h
    obtain ⟨r, _, hr⟩ := List.mem_map.1 h1
    rw [← hr]
    exact cnt_le _
theorem life_least (a : Av) : life a ≤ leastT a := by
  unfold life
  split
  · exact Nat.le_refl _
  · split
    · exact Nat.min_le_left _ _
    · exact Nat.zero_le _
theorem life_le (a : Av) : life a ≤ 2147483647 := Nat.le_trans (life_least a) (leastT_le a)
theorem life_ttl {a : Av} (h : 0 < life a) : ∀ r ∈ a.recs, life a ≤ r.ttl ∧ r.ttl ≤ 2147483647 := fun r hr => by
  have hm : cnt r.ttl ∈ a.recs.map fun r => cnt r.ttl := List.mem_map.2 ⟨r, hr, rfl⟩
  have h1 := (Rr.least_is _ (List.ne_nil_of_mem hm)).2 _ hm
  have h2 := life_least a
  unfold leastT at h2
  unfold cnt at h1 h2
  generalize Rr.least _ = L at *
  split at h1 <;> omega
def foldB (s : ByteArray) : ByteArray := ⟨(Nm.fold s.data.toList).toArray⟩
def foldR (r : Rv) : Rv := { r with nm := foldB r.nm }
def foldK (k : Kv) : Kv := { k with nm := foldB k.nm }
def agedR (g : Nat) (r : Rv) : Rv := { r with ttl := r.ttl - g }
/-- an answer as an entry has it. -/
def keptA (a : Av) : Av := ⟨a.rc, false, a.an.map foldR, a.au.map foldR, a.ex.map foldR⟩
/-- an answer so many seconds later. -/
def agedA (g : Nat) (a : Av) : Av := ⟨a.rc, a.aa, a.an.map (agedR g), a.au.map (agedR g), a.ex.map (agedR g)⟩
theorem foldB_size (s : ByteArray) : (foldB s).size = s.size := by
  show (Nm.fold s.data.toList).toArray.size = s.data.size
  unfold Nm.fold
  rw [List.size_toArray, List.length_map, Array.length_toList]

instance : DecidableEq Kv := fun a b => decidable_of_iff (a.nm = b.nm ∧ a.ty = b.ty ∧ a.cl = b.cl) ⟨fun h => by cases a; cases b; simp_all, fun h => by subst h; exact ⟨rfl, rfl, rfl⟩⟩
/-- an entry: its key, what was put, when, for how many seconds. -/
structure En where
  key : Kv
  ans : Av
  put : Nat
  life : Nat
def En.over (e : En) : Nat := e.put + e.life * 10
def top : Nat := 4611686018427387904
/-- now, as it counts. -/
def tick (n : Int) : Nat := if n < 0 then 0 else if (top : Int) < n then top else n.toNat
theorem tick_le (n : Int) : tick n ≤ top := by unfold tick top; split <;> (try split) <;> omega
/-- what an entry of a cache is. -/
structure En.ok (e : En) : Prop where
  life : e.life = Ca.life e.ans
  pos : 0 < e.life
  put : e.put ≤ top
  nm : e.key.nm.size ≤ 255
  ty : e.key.ty ≤ 65535
  cl : e.key.cl ≤ 65535
section
variable {α : Type} (f : α → En)
def sweep (now : Nat) (l : List α) : List α := l.filter fun x => decide (now < (f x).over)
def drop (k : Kv) (l : List α) : List α := l.filter fun x => decide ((f x).key ≠ k)
def find (k : Kv) (l : List α) : Option α := l.find? fun x => decide ((f x).key = k)
theorem sweep_sub (now : Nat) (l : List α) : (sweep f now l).Sublist l := List.filter_sublist
theorem drop_sub (k : Kv) (l : List α) : (drop f k l).Sublist l := List.filter_sublist
theorem find_none {k : Kv} {l : List α} (h : find f k l = none) : ∀ x ∈ l, (f x).key ≠ k := by
  simpa [find] using h
theorem drop_none {k : Kv} {l : List α} (h : find f k l = none) : drop f k l = l := by
  unfold drop
  exact List.filter_eq_self.2 fun x hx => by simpa using find_none f h x hx
theorem find_some {k : Kv} {l : List α} {x : α} (h : find f k l = some x) (hn : (l.map fun y => (f y).key).Nodup) : ∃ A B, l = A ++ x :: B ∧ (f x).key = k ∧ drop f k l = A ++ B := by
  have hx : (f x).key = k := by have := List.find?_some h; simpa using this
  have hm : x ∈ l := List.mem_of_find?_eq_some h
  obtain ⟨A, B, rfl⟩ := List.append_of_mem hm
  refine ⟨A, B, rfl, hx, ?_⟩
  subst hx
  have hA : ∀ y ∈ A, (f y).key ≠ (f x).key := fun y hy e => by
    rw [List.map_append, List.nodup_append] at hn
    exact hn.2.2 _ (List.mem_map.2 ⟨y, hy, rfl⟩) _ (List.mem_map.2 ⟨x, by simp, rfl⟩) e
  have hB : ∀ y ∈ B, (f y).key ≠ (f x).key := fun y hy e => by
    rw [List.map_append, List.map_cons, List.nodup_append, List.nodup_cons] at hn
    exact hn.2.1.1 (List.mem_map.2 ⟨y, hy, e⟩)
  unfold drop
  rw [List.filter_append, List.filter_cons, if_neg (by simp), List.filter_eq_self.2 fun y hy => by simpa using hA y hy, List.filter_eq_self.2 fun y hy => by simpa using hB y hy]
theorem drop_key {k : Kv} {l : List α} : ∀ x ∈ drop f k l, (f x).key ≠ k := fun x hx => by
  have := (List.mem_filter.1 hx).2
  simpa using this
end
section
variable {α : Type} (f : α → En)
theorem sweep_map (now : Nat) (l : List α) : (sweep f now l).map f = sweep id now (l.map f) := by
  unfold sweep
  rw [List.filter_map]
  rfl
theorem drop_map (k : Kv) (l : List α) : (drop f k l).map f = drop id k (l.map f) := by
  unfold drop
  rw [List.filter_map]
  rfl
theorem find_map (k : Kv) (l : List α) : (find f k l).map f = find id k (l.map f) := by
  unfold find
  rw [List.find?_map]
  rfl
end
/-- is it a name? -/
def isN (s : ByteArray) : Bool := (Nm.split s.data.toList).isSome
def putOk (q : Kv) (a : Av) : Bool := isN q.nm && decide (life a ≠ 0)
def putL (room now : Nat) (q : Kv) (a : Av) (l : List En) : List En :=
  let l2 := drop id (foldK q) (sweep id now l) ++ [⟨foldK q, a, now, life a⟩]
  if room < l2.length then l2.drop 1 else l2
/-- what is kept behind a Put. -/
def putR (room now : Nat) (q : Kv) (a : Av) (l : List En) : List En := if putOk q a then putL room now q a l else sweep id now l
/-- what is kept behind a Get. -/
def getR (now : Nat) (q : Kv) (l : List En) : List En := match find id (foldK q) (sweep id now l) with
  | none => sweep id now l
  | some e => drop id (foldK q) (sweep id now l) ++ [e]
def told (now : Nat) (e : En) : Av := agedA ((now - e.put) / 10) (keptA e.ans)
def getA (now : Nat) (q : Kv) (l : List En) : Option Av := (find id (foldK q) (sweep id now l)).map (told now)
end Go.Proofs.Ytnhoaceickojeaa.Ca
/- The cache's row of entries in memory: linked both ways. -/
namespace Go.Proofs.Ytnhoaceickojeaa.Ca
open Go.RowKit

abbrev nilp : Value := .pointer none
abbrev pt (b : Nat) : Value := .pointer (some ⟨b, 0, none⟩)
/-- an entry in memory: its block, and its three rows of records. -/
structure Nd where
  b : Nat
  e : En
  v1 : Value
  v2 : Value
  v3 : Value
def ecs (d : Nd) (p n : Value) : Array Value := #[.string d.e.key.nm, .int .u16 d.e.key.ty, .int .u16 d.e.key.cl, .int .u16 d.e.ans.rc, .bool false, d.v1, d.v2, d.v3, .int .i64 (d.e.put : Int), .int .i64 (d.e.over : Int), p, n]
def rowB (v : Value) : List Nat := match v.ownBlock with
  | some q => [q]
  | none => []
def Nd.rows (d : Nd) : List Nat := rowB d.v1 ++ (rowB d.v2 ++ rowB d.v3)
abbrev OwnR (w : World) (v : Value) (l : List Rv) : Prop := Own rcl 12 w 0 50 v l
def RowsM (w : World) (d : Nd) : Prop := OwnR w d.v1 (d.e.ans.an.map foldR) ∧ OwnR w d.v2 (d.e.ans.au.map foldR) ∧ OwnR w d.v3 (d.e.ans.ex.map foldR)
def hd : List Nd → Value → Value
  | [], z => z
  | d :: _, _ => pt d.b
def lst : List Nd → Value → Value
  | [], z => z
  | d :: r, _ => lst r (pt d.b)
def Ch (w : World) : Value → List Nd → Value → Prop
  | _, [], _ => True
  | p, d :: r, n => Has w d.b 88 (ecs d p (hd r n)) ∧ Ch w (pt d.b) r n
abbrev bs (l : List Nd) : List Nat := l.map Nd.b
theorem hd_append (A B : List Nd) (z : Value) : hd (A ++ B) z = hd A (hd B z) := by cases A <;> rfl
theorem lst_append : ∀ (A B : List Nd) (z : Value), lst (A ++ B) z = lst B (lst A z)
  | [], _, _ => rfl
  | d :: A, B, _ => lst_append A B (pt d.b)
theorem lst_one (d : Nd) (z : Value) : lst [d] z = pt d.b := rfl
theorem lst_last (A : List Nd) (d : Nd) (z : Value) : lst (A ++ [d]) z = pt d.b := by rw [lst_append]; rfl
/-- what differs lies in these blocks, or is new. -/
structure Tch (S : List Nat) (w w' : World) : Prop where
  os : w'.os = w.os
  tape : w'.tape = w.tape
  output : w'.output = w.output
  size : w.heap.size ≤ w'.heap.size
  same : ∀ k, k < w.heap.size → k ∉ S → w'.heap[k]? = w.heap[k]?
section
variable {w w' w2 : World} {S T : List Nat}
theorem Tch.refl (S : List Nat) (w : World) : Tch S w w := ⟨rfl, rfl, rfl, Nat.le_refl _, fun _ _ _ => rfl⟩
theorem Tch.trans (h : Tch S w w') (k : Tch S w' w2) : Tch S w w2 := ⟨k.os.trans h.os, k.tape.trans h.tape, k.output.trans h.output, Nat.le_trans h.size k.size, fun i hi hn => (k.same i (Nat.lt_of_lt_of_le hi h.size) hn).trans (h.same i hi hn)⟩
theorem Tch.mono (h : Tch S w w') (hs : ∀ k ∈ S, k ∈ T) : Tch T w w' := ⟨h.os, h.tape, h.output, h.size, fun i hi hn => h.same i hi fun e => hn (hs i e)⟩
/-- of what lies beyond the first world nothing is asked. -/
theorem Tch.mono' (h : Tch S w w') (hs : ∀ k ∈ S, k < w.heap.size → k ∈ T) : Tch T w w' := ⟨h.os, h.tape, h.output, h.size, fun i hi hn => h.same i hi fun e => hn (hs i e hi)⟩
theorem Tch.trans' (h : Tch S w w') (k : Tch T w' w2) (hs : ∀ i ∈ T, i ∈ S ∨ w.heap.size ≤ i) : Tch S w w2 := ⟨k.os.trans h.os, k.tape.trans h.tape, k.output.trans h.output, Nat.le_trans h.size k.size, fun i hi hn => (k.same i (Nat.lt_of_lt_of_le hi h.size) (fun e => by rcases hs i e with e | e; exact hn e; omega)).trans (h.same i hi hn)⟩
theorem Tch.of_below (h : Below w.heap.size w w') : Tch S w w' := ⟨h.os, h.tape, h.output, h.size, fun i hi _ => h.block i hi⟩
theorem Tch.of_grown {row : Option Nat} (h : w.grownBy w' row) (hr : ∀ k, row = some k → k ∈ S) : Tch S w w' := ⟨h.os, h.tape, h.output, h.size, fun i hi hn => h.block i hi fun e => hn (hr i e.symm)⟩
theorem Tch.set (S : List Nat) (w : World) (p : Addr) (v : Value) (h : p.block ∈ S) : Tch S w (w.setCell p v) := ⟨rfl, rfl, rfl, by simp, fun i _ hn => heap_setCell_other w p i v fun e => hn (by rw [e]; exact h)⟩
theorem Tch.below {B : Nat} (h : Tch S w w') (hS : ∀ k ∈ S, B ≤ k) (hB : B ≤ w.heap.size) : Below B w w' := ⟨h.os, h.tape, h.output, h.size, fun k hk => h.same k (by omega) fun e => by have := hS k e; omega⟩
theorem Tch.has (h : Tch S w w') {g : Nat} {t : TypeId} {cs : Array Value} (hg : Has w g t cs) (hn : g ∉ S) : Has w' g t cs := (h.same g hg.lt hn).trans hg
end
section
variable {w w' : World} {p n : Value} {l : List Nd}
theorem ch_append : ∀ (A B : List Nd) (p n : Value), Ch w p (A ++ B) n ↔ Ch w p A (hd B n) ∧ Ch w (lst A p) B n
  | [], B, p, n => by simp [Ch, lst]
  | d :: A, B, p, n => by
    show (Has w d.b _ (ecs d p (hd (A ++ B) n)) ∧ Ch w (pt d.b) (A ++ B) n) ↔ (Has w d.b _ (ecs d p (hd A (hd B n))) ∧ Ch w (pt d.b) A (hd B n)) ∧ Ch w (lst A (pt d.b)) B n
    rw [ch_append A B (pt d.b) n, hd_append, and_assoc]
theorem Ch.lt : ∀ {l : List Nd} {p n : Value}, Ch w p l n → ∀ k ∈ bs l, k < w.heap.size
  | [], _, _, _, k, hk => by simp at hk
  | d :: r, p, n, h, k, hk => by
    simp only [List.map_cons, List.mem_cons] at hk
    rcases hk with rfl | hk
    · exact h.1.lt
    · exact Ch.lt h.2 k hk
theorem Ch.same : ∀ {l : List Nd} {p n : Value}, Ch w p l n → (∀ k ∈ bs l, w'.heap[k]? = w.heap[k]?) → Ch w' p l n
  | [], _, _, _, _ => trivial
  | d :: r, p, n, h, hs => ⟨(hs d.b (by simp)).trans h.1, Ch.same h.2 fun k hk => hs k (by simp at hk ⊢; exact .inr hk)⟩
theorem Ch.tch {S : List Nat} (h : Ch w p l n) (ht : Tch S w w') (hS : ∀ k ∈ bs l, k ∉ S) : Ch w' p l n := h.same fun k hk => ht.same k (h.lt k hk) (hS k hk)
/-- what stands behind the last one is another. -/
theorem Ch.setN {A : List Nd} {d : Nd} (h : Ch w p (A ++ [d]) n) (hd' : d.b ∉ bs A) (n' : Value) : Ch (w.setCell ⟨d.b, 11, none⟩ n') p (A ++ [d]) n' := by
  rw [ch_append] at h ⊢
  refine ⟨h.1.same fun k hk => heap_setCell_other w ⟨d.b, 11, none⟩ k n' fun e => hd' ?_, ?_, trivial⟩
  · have : k = d.b := e
    rw [← this]; exact hk
  · have := h.2.1.set 11 n'
    exact this
/-- what stands ahead of the first one is another. -/
theorem Ch.setP {B : List Nd} {d : Nd} (h : Ch w p (d :: B) n) (hd' : d.b ∉ bs B) (p' : Value) : Ch (w.setCell ⟨d.b, 10, none⟩ p') p' (d :: B) n := by
  refine ⟨?_, h.2.same fun k hk => heap_setCell_other w ⟨d.b, 10, none⟩ k p' fun e => hd' ?_⟩
  · have := h.1.set 10 p'
    exact this
  · have : k = d.b := e
    rw [← this]; exact hk
end
/-- the row at the head of the cache's block; behind it three cells more. -/
structure RM (w : World) (c : Nat) (room m sn : Value) (l : List Nd) : Prop where
  head : Has w c 78 #[hd l nilp, lst l nilp, room, m, sn]
  ch : Ch w nilp l nilp
  nd : (c :: bs l).Nodup
theorem RM.tch {w w' : World} {c : Nat} {room m sn : Value} {l : List Nd} {S : List Nat} (h : RM w c room m sn l) (ht : Tch S w w') (hS : ∀ k ∈ c :: bs l, k ∉ S) : RM w' c room m sn l :=
  ⟨ht.has h.head (hS c (by simp)), h.ch.tch ht fun k hk => hS k (by simp at hk ⊢; exact .inr hk), h.nd⟩
theorem row_lt {w : World} {v : Value} {l : List Rv} (h : OwnR w v l) : ∀ k ∈ rowB v, k < w.heap.size := by
  intro k hk
  unfold rowB at hk
  cases ho : v.ownBlock with
  | none => rw [ho] at hk; simp at hk
  | some q => rw [ho] at hk; simp at hk; subst hk; exact (World.ownsRow.lt h k ho).2
theorem row_same {w w' : World} {v : Value} {l : List Rv} (h : OwnR w v l) (hs : ∀ k ∈ rowB v, w'.heap[k]? = w.heap[k]?) : OwnR w' v l := by
  refine ⟨h.1, ?_⟩
  rcases h.2 with h0 | ⟨g, cap, cur, rfl, hb, hg, rest⟩
  · exact .inl h0
  · exact .inr ⟨g, cap, cur, rfl, hb, (hs g (by simp [rowB, Value.ownBlock])).trans hg, rest⟩
theorem RowsM.lt {w : World} {d : Nd} (h : RowsM w d) : ∀ k ∈ d.rows, k < w.heap.size := by
  intro k hk
  unfold Nd.rows at hk
  simp only [List.mem_append] at hk
  rcases hk with hk | hk | hk
  · exact row_lt h.1 k hk
  · exact row_lt h.2.1 k hk
  · exact row_lt h.2.2 k hk
theorem RowsM.same {w w' : World} {d : Nd} (h : RowsM w d) (hs : ∀ k ∈ d.rows, w'.heap[k]? = w.heap[k]?) : RowsM w' d :=
  ⟨row_same h.1 fun k hk => hs k (by simp [Nd.rows, hk]), row_same h.2.1 fun k hk => hs k (by simp [Nd.rows, hk]), row_same h.2.2 fun k hk => hs k (by simp [Nd.rows, hk])⟩
theorem RowsM.tch {w w' : World} {d : Nd} {S : List Nat} (h : RowsM w d) (ht : Tch S w w') (hS : ∀ k ∈ d.rows, k ∉ S) : RowsM w' d := h.same fun k hk => ht.same k (h.lt k hk) (hS k hk)
end Go.Proofs.Ytnhoaceickojeaa.Ca
/- The map of the cache: by keys, entries. -/
namespace Go.Proofs.Ytnhoaceickojeaa.Ca
open Go.RowKit Go.WideMaps Go.MapKept
open Go.ChangeMaps (setBlock)

theorem kLaid : laidOutB Try.prog = true := by kernel_rfl
theorem kLaw : KeyLaw Try.prog 35 := deep_law_laid kLaid (m := 2) (by omega) (of_decide_eq_true (by kernel_rfl)) (by kernel_rfl) (by kernel_rfl)
/-- a key that a map can have. -/
def KvOk (k : Kv) : Prop := k.nm.size ≤ 140737488355328 ∧ k.ty ≤ 65535 ∧ k.cl ≤ 65535
theorem kval_inj {a b : Kv} (h : a.val = b.val) : a = b := by
  obtain ⟨n, t, c⟩ := a
  obtain ⟨n', t', c'⟩ := b
  unfold Kv.val at h
  injection h with h
  injection h with h
  simp only [List.cons.injEq, Value.string.injEq, Value.int.injEq, true_and, and_true] at h
  obtain ⟨rfl, h1, h2⟩ := h
  have : t = t' := by omega
  have : c = c' := by omega
  subst_vars
  rfl
set_option maxRecDepth 100000 in
theorem kv_key (k : Kv) (h : KvOk k) : ∃ l, keyOf Try.prog 35 k.val = some l := by
  have hk : Try.prog.keyType 35 = true := by kernel_rfl
  have hc : Try.prog.cellsOf 35 = 3 := by kernel_rfl
  have hc1 : Try.prog.cellsOf 32 = 1 := by kernel_rfl
  have hc2 : Try.prog.cellsOf 33 = 1 := by kernel_rfl
  obtain ⟨n, hn⟩ : ∃ n, Try.prog.types.size = n + 1 := by
    have : 0 < Try.prog.types.size := of_decide_eq_true (by kernel_rfl)
    exact ⟨Try.prog.types.size - 1, by omega⟩
  have hf : (Try.prog.fieldsOf 35).toList.map (fun f => (f.name != "_", f.type, f.offset)) = [(true, 32, 0), (true, 33, 1), (true, 33, 2)] := by kernel_rfl
  have hlen : (Try.prog.fieldsOf 35).toList.length = 3 := by kernel_rfl
  have hu : Try.prog.underlying 35 = some (.struct (Try.prog.fieldsOf 35)) := by kernel_rfl
  have hall : (Try.prog.fieldsOf 35).all (·.name != "_") = true := by kernel_rfl
  generalize Try.prog.fieldsOf 35 = fa at *
  obtain ⟨nm, ty, cl⟩ := k
  obtain ⟨h1, h2, h3⟩ := h
  have e1 : IntKind.u16.min = 0 := rfl
  have e2 : IntKind.u16.max = 65535 := rfl
  have l1 : (Lit.int .u16 (ty : Int)).wf = true := by simp only [Lit.wf, Bool.and_eq_true, decide_eq_true_eq]; simp only at h2; omega
  have l2 : (Lit.int .u16 (cl : Int)).wf = true := by simp only [Lit.wf, Bool.and_eq_true, decide_eq_true_eq]; simp only at h3; omega
  have hm : nm.size ≤ maxLen := by unfold maxLen; simp only at h1; omega
  have hform : (Kv.val ⟨nm, ty, cl⟩).formed Try.prog 35 = true := by simp [Kv.val, Value.formed, hu, hc]
  have hlits : Try.prog.keyLits (Try.prog.types.size + 1) 35 (Kv.val ⟨nm, ty, cl⟩).cells.toList = some [.string nm.data.toList, .int .u16 ty, .int .u16 cl] := by
    rw [hn]
    unfold Program.keyLits
    obtain ⟨fs⟩ := fa
    simp only at hf hlen
    match fs, hlen, hf with
    | [f0, f1, f2], _, hf =>
      simp only [List.map_cons, List.map_nil, List.cons.injEq, Prod.mk.injEq] at hf
      obtain ⟨⟨_, t0, o0⟩, ⟨_, t1, o1⟩, ⟨_, t2, o2⟩, _⟩ := hf
      have a0 : Try.prog.keyLits (n + 1) f0.type (List.take (Try.prog.cellsOf f0.type) (List.drop f0.offset [Value.string nm, .int .u16 ty, .int .u16 cl])) = some [.string nm.data.toList] := by
        rw [t0, o0, hc1]
        unfold Program.keyLits
        simp [Try.underlying32, hm]
      have a1 : Try.prog.keyLits (n + 1) f1.type (List.take (Try.prog.cellsOf f1.type) (List.drop f1.offset [Value.string nm, .int .u16 ty, .int .u16 cl])) = some [.int .u16 ty] := by
        rw [t1, o1, hc2]
        unfold Program.keyLits
        simp [Try.underlying33, l1]
      have a2 : Try.prog.keyLits (n + 1) f2.type (List.take (Try.prog.cellsOf f2.type) (List.drop f2.offset [Value.string nm, .int .u16 ty, .int .u16 cl])) = some [.int .u16 cl] := by
        rw [t2, o2, hc2]
        unfold Program.keyLits
        simp [Try.underlying33, l2]
      have hal : (#[f0, f1, f2] : Array Field).all (·.name != "_") = true := hall
      simp only [hu, Kv.val, Value.cells]
      rw [if_pos ⟨by rw [hc]; rfl, hal⟩]
      simp [a0, a1, a2]
  unfold keyOf
  simp only [hu, hk, hform, hlits]
  exact ⟨_, rfl⟩
def pairV (p : Kv × Value) : Value × Value := (p.1.val, p.2)
/-- the map of block m, in whatever order. -/
def Mq (w : World) (m : Nat) (L : List (Kv × Value)) : Prop := ∃ es clock, w.heap[m]? = some (.map es clock) ∧ (es.toList.map fun x => (x.key, x.val)).Perm (L.map pairV)
theorem Mq.same {w w' : World} {m : Nat} {L : List (Kv × Value)} (h : Mq w m L) (hs : w'.heap[m]? = w.heap[m]?) : Mq w' m L := by
  obtain ⟨es, ck, hb, hp⟩ := h
  exact ⟨es, ck, hs.trans hb, hp⟩
theorem Mq.lt {w : World} {m : Nat} {L : List (Kv × Value)} (h : Mq w m L) : m < w.heap.size := by
  obtain ⟨es, ck, hb, _⟩ := h
  exact (Array.getElem?_eq_some_iff.1 hb).1
theorem Mq.perm {w : World} {m : Nat} {L M : List (Kv × Value)} (h : Mq w m L) (hp : L.Perm M) : Mq w m M := by
  obtain ⟨es, ck, hb, hq⟩ := h
  exact ⟨es, ck, hb, hq.trans (hp.map _)⟩
theorem Mq.no {w : World} {m : Nat} {L : List (Kv × Value)} (h : Mq w m L) {g : Nat} {t : TypeId} {cs : Array Value} (hg : Has w g t cs) : g ≠ m := fun e => by
  obtain ⟨es, ck, hb, _⟩ := h
  subst e
  rw [show w.heap[g]? = _ from hg] at hb
  cases hb
theorem Mq.fresh (w : World) : Mq (w.alloc (.map #[] 0)) w.heap.size [] := ⟨#[], 0, heap_alloc_new w _, by simp⟩
theorem setBlock_heap {w : World} {m : Nat} {o o' : Obj} (h : w.heap[m]? = some o) : (setBlock w m o').heap[m]? = some o' ∧ w.grownBy (setBlock w m o') (some m) := by
  have hs := heap_set (o' := o') h
  exact ⟨hs.1, ⟨rfl, rfl, rfl, by simp [setBlock], fun k _ hne => hs.2 k (fun e => hne (by rw [e]))⟩⟩
section
variable {w : World} {m : Nat} {L : List (Kv × Value)}
theorem mq_mem {es : Array MapEntry} (hp : (es.toList.map fun x => (x.key, x.val)).Perm (L.map pairV)) {e : MapEntry} (he : e ∈ es.toList) : ∃ p ∈ L, e.key = p.1.val ∧ e.val = p.2 := by
  obtain ⟨p, hp1, hp2⟩ := List.mem_map.1 (hp.mem_iff.1 (List.mem_map.2 ⟨e, he, rfl⟩))
  unfold pairV at hp2
  injection hp2 with h1 h2
  exact ⟨p, hp1, h1.symm, h2.symm⟩
theorem mq_keys {es : Array MapEntry} (hp : (es.toList.map fun x => (x.key, x.val)).Perm (L.map pairV)) (hL : ∀ p ∈ L, KvOk p.1) : ∀ e ∈ es.toList, ∃ l, keyOf Try.prog 35 e.key = some l := fun e he => by
  obtain ⟨p, h1, h2, _⟩ := mq_mem hp he
  rw [h2]
  exact kv_key p.1 (hL p h1)
def lookL (L : List (Kv × Value)) (k : Kv) : Option Value := (L.find? fun p => decide (p.1 = k)).map (·.2)
theorem lookL_none {k : Kv} (h : ∀ p ∈ L, p.1 ≠ k) : lookL L k = none := by
  unfold lookL
  rw [List.find?_eq_none.2 fun p hp => by simpa using h p hp]
  rfl
theorem lookL_some {k : Kv} {v : Value} (hm : (k, v) ∈ L) (hn : (L.map (·.1)).Nodup) : lookL L k = some v := by
  obtain ⟨A, B, rfl⟩ := List.append_of_mem hm
  unfold lookL
  have hA : ∀ p ∈ A, p.1 ≠ k := fun p hp e => by
    rw [List.map_append, List.nodup_append] at hn
    exact hn.2.2 _ (List.mem_map.2 ⟨p, hp, rfl⟩) _ (List.mem_map.2 ⟨(k, v), by simp, rfl⟩) e
  rw [List.find?_append, List.find?_eq_none.2 fun p hp => by simpa using hA p hp]
  simp
set_option maxRecDepth 100000 in
theorem mq_look (h : Mq w m L) (hL : ∀ p ∈ L, KvOk p.1) (hn : (L.map (·.1)).Nodup) (k : Kv) (hk : KvOk k) :
    (Instr.lookup 73 (.map (some m)) k.val true).run Try.prog w = .ok (.tuple #[(lookL L k).getD nilp, .bool (lookL L k).isSome]) w := by
  obtain ⟨es, ck, hb, hp⟩ := h
  obtain ⟨l, hl⟩ := kv_key k hk
  have hz : (zeroValue 74).run Try.prog w = .ok nilp w := by kernel_rfl
  rcases kLaw.find w hl es.toList (mq_keys hp hL) with ⟨h1, h2⟩ | ⟨j, e0, h1, h2, h3⟩
  · have hno : ∀ p ∈ L, p.1 ≠ k := fun p hpL e => by
      obtain ⟨x, hx1, hx2⟩ := List.mem_map.1 (hp.mem_iff.2 (List.mem_map.2 ⟨p, hpL, rfl⟩))
      have hx3 := congrArg Prod.fst hx2
      exact h2 x hx1 (by rw [← e]; exact hx3)
    rw [lookL_none hno]
    simp [Instr.lookup, run_underlying Try.underlying73, MapKept.run_getObj_map hb, kLaw.check w _ hl, h1, hz, Result.andThen]
  · obtain ⟨p, hpL, hp1, hp2⟩ := mq_mem hp (List.mem_of_getElem? h2)
    have hpk : p.1 = k := kval_inj (hp1.symm.trans h3)
    have hs : lookL L k = some p.2 := lookL_some (by rw [← hpk]; exact hpL) hn
    rw [hs]
    simp [Instr.lookup, run_underlying Try.underlying73, MapKept.run_getObj_map hb, kLaw.check w _ hl, h1, hp2, Result.andThen]
set_option maxRecDepth 100000 in
theorem mq_store (h : Mq w m L) (hL : ∀ p ∈ L, KvOk p.1) (k : Kv) (hk : KvOk k) (hno : ∀ p ∈ L, p.1 ≠ k) (v : Value) :
    ∃ w', (Instr.mapUpdate 73 (.map (some m)) k.val v).run Try.prog w = .ok () w' ∧ Mq w' m ((k, v) :: L) ∧ w.grownBy w' (some m) := by
  obtain ⟨es, ck, hb, hp⟩ := h
  obtain ⟨l, hl⟩ := kv_key k hk
  rcases kLaw.find w hl es.toList (mq_keys hp hL) with ⟨h1, h2⟩ | ⟨j, e0, h1, h2, h3⟩
  · have hs := setBlock_heap (o' := .map (es.push ⟨k.val, v, ck⟩) (ck + 1)) hb
    refine ⟨setBlock w m (.map (es.push ⟨k.val, v, ck⟩) (ck + 1)), ?_, ⟨_, _, hs.1, ?_⟩, hs.2⟩
    · simp [Instr.mapUpdate, run_underlying Try.underlying73, MapKept.run_getObj_map hb, kLaw.check w _ hl, h1, MapKept.run_setObj_map _ hb, Result.andThen, setBlock]
    · rw [Array.toList_push, List.map_append]
      exact (List.perm_append_comm).trans (List.Perm.cons _ hp)
  · obtain ⟨p, hpL, hp1, hp2⟩ := mq_mem hp (List.mem_of_getElem? h2)
    exact absurd (kval_inj (hp1.symm.trans h3)) (hno p hpL)
theorem getElem?_erase_perm {α : Type} : ∀ (l : List α) (j : Nat) (x : α), l[j]? = some x → l.Perm (x :: l.eraseIdx j)
  | [], _, _, h => by simp at h
  | a :: l, 0, x, h => by simp at h; subst h; exact List.Perm.refl _
  | a :: l, j + 1, x, h => by
    have := getElem?_erase_perm l j x (by simpa using h)
    exact (this.cons a).trans (List.Perm.swap x a _)
set_option maxRecDepth 100000 in
theorem mq_delete (k : Kv) (v : Value) (h : Mq w m ((k, v) :: L)) (hL : ∀ p ∈ (k, v) :: L, KvOk p.1) (hno : ∀ p ∈ L, p.1 ≠ k) :
    ∃ w', (∀ ty, (Builtin.delete_ #[73, 35] ty #[.map (some m), k.val]).run Try.prog w = .ok (.tuple #[]) w') ∧ Mq w' m L ∧ w.grownBy w' (some m) := by
  obtain ⟨es, ck, hb, hp⟩ := h
  obtain ⟨l, hl⟩ := kv_key k (hL (k, v) (by simp))
  rcases kLaw.find w hl es.toList (mq_keys hp hL) with ⟨h1, h2⟩ | ⟨j, e0, h1, h2, h3⟩
  · obtain ⟨x, hx1, hx2⟩ := List.mem_map.1 (hp.mem_iff.2 (List.mem_map.2 ⟨(k, v), by simp, rfl⟩))
    exact absurd (congrArg Prod.fst hx2) (h2 x hx1)
  · obtain ⟨p, hpL, hp1, hp2⟩ := mq_mem hp (List.mem_of_getElem? h2)
    have hpk : p.1 = k := kval_inj (hp1.symm.trans h3)
    have hpv : p = (k, v) := by
      rcases List.mem_cons.1 hpL with e | e
      · exact e
      · exact absurd hpk (hno p e)
    subst hpv
    have hs := setBlock_heap (o' := .map (es.eraseIdxIfInBounds j) ck) hb
    refine ⟨setBlock w m (.map (es.eraseIdxIfInBounds j) ck), ?_, ⟨_, _, hs.1, ?_⟩, hs.2⟩
    · intro ty
      simp [Builtin.delete_, run_underlying Try.underlying73, MapKept.run_getObj_map hb, kLaw.check w _ hl, h1, MapKept.run_setObj_map _ hb, Result.andThen, setBlock]
    · have hj : j < es.size := by simpa using (List.getElem?_eq_some_iff.1 h2).1
      have e1 : (es.eraseIdxIfInBounds j).toList = es.toList.eraseIdx j := by
        unfold Array.eraseIdxIfInBounds
        rw [dif_pos hj, Array.toList_eraseIdx]
      rw [e1]
      have hq := (getElem?_erase_perm _ _ _ h2).map fun x : MapEntry => (x.key, x.val)
      have hr := hq.symm.trans hp
      rw [List.map_cons, List.map_cons, hp1, hp2] at hr
      exact List.Perm.cons_inv hr
theorem mq_len (h : Mq w m L) (ty : TypeId) : (Builtin.len_ #[73] ty #[.map (some m)]).run Try.prog w = .ok (.int .i64 (L.length : Nat)) w := by
  obtain ⟨es, ck, hb, hp⟩ := h
  have e : es.size = L.length := by have := hp.length_eq; simpa using this
  simp [Builtin.len_, run_underlying Try.underlying73, MapKept.run_getObj_map hb, goInt, e]
end
end Go.Proofs.Ytnhoaceickojeaa.Ca
