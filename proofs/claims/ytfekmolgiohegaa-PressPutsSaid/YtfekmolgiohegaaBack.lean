/- Names that stand one behind the other, and what a row of writings leaves. -/
import Derived.Test.YtfekmolgiohegaaPrWakes
import Derived.Test.YtfekmolgiohegaaItems
import Derived.Deep.DeepAppendWide
namespace Go.Proofs.Ytfekmolgiohegaa
open Go.RowKit

theorem get_snoc {α : Type} (l : List α) (x : α) : (l ++ [x])[l.length]? = some x := by simp
theorem get_front {α : Type} {l : List α} {j : Nat} {p : α} (h : l[j]? = some p) (r : List α) : (l ++ r)[j]? = some p := by
  rw [List.getElem?_append_left (List.getElem?_eq_some_iff.1 h).1]; exact h
/-- names that stand one behind the other: each is read at its place. -/
def Chain (b : List UInt8) (ps : List Nat) (ns : List (List UInt8)) : Prop :=
  ps.length = ns.length + 1 ∧ ∀ j (h : j < ns.length), ∃ ls p q, ns[j] = Nm.glue ls ∧ (Nm.glue ls).length ≤ 255 ∧ ps[j]? = some p ∧ ps[j + 1]? = some q ∧ p ≤ b.length ∧ q ≤ b.length ∧ Pr.Rdb b p ls p q
theorem Chain.nil : Chain [] [0] [] := ⟨rfl, fun j h => absurd h (by simp)⟩
theorem Chain.step {b R : List UInt8} {ats : List Nat} {ns : List (List UInt8)} (h : Chain b (ats ++ [b.length]) ns) {ls : List (List UInt8)} (h255 : (Nm.glue ls).length ≤ 255)
    (hr : Pr.Rdb (b ++ R) b.length ls b.length (b ++ R).length) :
    Chain (b ++ R) ((ats ++ [b.length]) ++ [(b ++ R).length]) (ns ++ [Nm.glue ls]) := by
  obtain ⟨h1, h2⟩ := h
  have hb : b.length ≤ (b ++ R).length := by rw [List.length_append]; omega
  have hl : ats.length = ns.length := by simp at h1; exact h1
  refine ⟨by rw [List.length_append, h1]; simp, fun j hj => ?_⟩
  rw [List.length_append] at hj
  by_cases hlt : j < ns.length
  · obtain ⟨ks, p, q, e1, e2, e3, e4, e5, e6, e7⟩ := h2 j hlt
    exact ⟨ks, p, q, by rw [List.getElem_append_left hlt]; exact e1, e2, get_front e3 _, get_front e4 _, by omega, by omega, e7.more R⟩
  · obtain rfl : j = ns.length := by simp at hj; omega
    refine ⟨ls, b.length, (b ++ R).length, by simp, h255, ?_, ?_, hb, Nat.le_refl _, hr⟩
    · rw [← hl]; exact get_front (get_snoc ats b.length) _
    · have := get_snoc (ats ++ [b.length]) (b ++ R).length
      have e : (ats ++ [b.length]).length = ns.length + 1 := h1
      rw [e] at this
      exact this
theorem Chain.take {b : List UInt8} {ps : List Nat} {ns : List (List UInt8)} (h : Chain b ps ns) {j : Nat} (hj : j < ns.length) (rest : List UInt8) :
    ∃ p q, ps[j]? = some p ∧ ps[j + 1]? = some q ∧ p ≤ b.length ∧ q ≤ b.length ∧ prTakeV (b ++ rest) (p : Nat) = .tuple #[sv (ns[j]'hj), .int .i64 (q : Nat), .int .i64 0] := by
  obtain ⟨ls, p, q, e1, e2, e3, e4, e5, e6, e7⟩ := h.2 j hj
  refine ⟨p, q, e3, e4, e5, e6, ?_⟩
  unfold prTakeV
  rw [if_neg (by rw [List.length_append]; omega), show ((p : Int)).toNat = p from rfl, e7 rest p 1 (Nat.le_refl _) (by rw [Pr.tot_glue] at e2; omega), e1]
  rfl

/-- what is known of what was written, apart from memory. -/
def BkP (T : Tab) (b : List UInt8) (ats : List Nat) (ns : List (List UInt8)) (i : Nat) : Prop :=
  Pr.Snd b T ∧ Chain b (ats ++ [b.length]) ns ∧ b.length ≤ 255 * i ∧ T.length ≤ 255 * i ∧ ns.length ≤ i ∧ ats.length = ns.length
theorem BkP.nil : BkP [] [] [] [] 0 := ⟨Pr.Snd.nil _, Chain.nil, by simp, by simp, by simp, rfl⟩
theorem BkP.skip {T : Tab} {b : List UInt8} {ats : List Nat} {ns : List (List UInt8)} {i : Nat} (h : BkP T b ats ns i) : BkP T b ats ns (i + 1) := by
  obtain ⟨h1, h2, h3, h4, h5, h6⟩ := h
  exact ⟨h1, h2, by omega, by omega, by omega, h6⟩
theorem BkP.step {T : Tab} {b : List UInt8} {ats : List Nat} {ns : List (List UInt8)} {i : Nat} (h : BkP T b ats ns i) (plain : Bool) {s : ByteArray} {ls : List (List UInt8)} (hs : Nm.split s.data.toList = some ls) :
    BkP (Pr.pw plain T b.length ls).1 (b ++ (Pr.pw plain T b.length ls).2) (ats ++ [b.length]) (ns ++ [s.data.toList]) (i + 1) ∧
    b.length < (b ++ (Pr.pw plain T b.length ls).2).length ∧ (b ++ (Pr.pw plain T b.length ls).2).length ≤ b.length + s.size ∧ (plain = true → (b ++ (Pr.pw plain T b.length ls).2).length = b.length + s.size) := by
  obtain ⟨h1, h2, h3, h4, h5, h6⟩ := h
  obtain ⟨hgl, hgd, h255⟩ := Nm.split_some.1 hs
  have hsz : s.size = (Nm.glue ls).length := by rw [← hgl]; simp
  rw [hgl] at h255
  obtain ⟨r1, r2⟩ := Pr.pw_sound (ls := ls) (t := T) (b := b) plain hgd h255 h1
  obtain ⟨p1, _, p3, p4⟩ := Pr.pw_len plain ls T b.length
  have p5 := p3 hgd
  have p6 := Pr.pw_tab plain ls T b.length
  have hfew := few hs
  have hst := h2.step (R := (Pr.pw plain T b.length ls).2) h255 r1
  rw [← hgl] at hst
  have hlen : (b ++ (Pr.pw plain T b.length ls).2).length = b.length + (Pr.pw plain T b.length ls).2.length := List.length_append
  refine ⟨⟨r2, hst, by omega, by omega, by simp; omega, by simp; omega⟩, by omega, by omega, fun hp => ?_⟩
  have := p4 hp
  rw [this] at hlen
  rw [this, hsz, hlen]

section
variable {w W W' : World}
theorem Rg.own {g base : Nat} (h : Rg g base W W') {t e : TypeId} {cs : Array Value} (hT : Has W g t cs) {b n : Nat} {v : Value} {xs : List Value} (hk : W.ownsRow b e 1 v n xs) (hte : t ≠ e) : W'.ownsRow b e 1 v n xs := by
  have hne := has_not_own hT hk hte
  refine ⟨hk.1, ?_⟩
  rcases hk.2 with h0 | ⟨g2, cap, cur, rfl, hb, hg, rest⟩
  · exact .inl h0
  · exact .inr ⟨g2, cap, cur, rfl, hb, h.same g2 _ (fun e2 => hne (by rw [e2]; rfl)) hg rfl, rest⟩
theorem Tb.still {g base b n : Nat} {e : TypeId} {mp : Option Nat} {t : Tab} {v : Value} {xs : List Value} (h : Tb W g base mp t) (ho : W.ownsRow b e 1 v n xs) (he : 49 ≠ e) (hg : W.grownBy W' v.ownBlock) : Tb W' g base mp t := by
  refine h.grown hg (has_not_own h.2.1 ho he) (fun r hr o hro => ?_)
  rcases ho.2 with ⟨rfl, _⟩ | ⟨g2, cap, cur, rfl, _, hgb, _⟩
  · simp [Value.ownBlock] at hr
  · have : g2 = r := by simpa [Value.ownBlock] using hr
    subst this
    rw [hgb] at hro
    cases hro
    rfl
/-- the writing's table and rows in memory. -/
def BkW (w : World) (T : Tab) (b : List UInt8) (ats : List Nat) (ns : List (List UInt8)) (vb vat vn : Value) (W : World) : Prop :=
  (∃ mp, Tb W w.heap.size w.heap.size mp T) ∧ W.ownsRow w.heap.size 5 1 vb b.length (bv b) ∧ W.ownsRow w.heap.size 3 1 vat ats.length (ints ats) ∧ W.ownsRow w.heap.size 32 1 vn ns.length (svs ns) ∧ Below w.heap.size w W
variable {T : Tab} {b : List UInt8} {ats : List Nat} {ns : List (List UInt8)} {vb vat vn : Value}
theorem BkW.new (w : World) : BkW w [] [] [] [] (.slice none 0 0) (.slice none 0 0) (.slice none 0 0) (w.alloc (.cells #[.map none] 49)) :=
  ⟨⟨none, Tb.new w (Nat.le_refl _)⟩, World.ownsRow_nil _ _ _ _, World.ownsRow_nil _ _ _ _, World.ownsRow_nil _ _ _ _, (Below.refl _ _).alloc (Nat.le_refl _) _⟩
theorem BkW.low (h : BkW w T b ats ns vb vat vn W) (hb : Below W.heap.size W W') : BkW w T b ats ns vb vat vn W' := by
  obtain ⟨⟨mp, h1⟩, h2, h3, h4, h5⟩ := h
  exact ⟨⟨mp, h1.below hb⟩, own_below h2 hb (Nat.le_refl _), own_below h3 hb (Nat.le_refl _), own_below h4 hb (Nat.le_refl _), h5.trans (hb.mono h5.size)⟩
theorem BkW.at_ (h : BkW w T b ats ns vb vat vn W) {o : Obj} {v9 : Value} {p : Nat} (hO : W'.ownsRow w.heap.size 3 1 v9 (ats.length + 1) (ints ats ++ [.int .i64 (p : Nat)])) (hB : Below w.heap.size w W') (hG : (W.alloc o).grownBy W' vat.ownBlock) :
    BkW w T b (ats ++ [p]) ns vb v9 vn W' := by
  obtain ⟨⟨mp, h1⟩, h2, h3, h4, h5⟩ := h
  exact ⟨⟨mp, (h1.below ((Below.refl _ _).alloc (Nat.le_refl _) o)).still (own_alloc h3 o) (by decide) hG⟩, own_still (own_alloc h3 o) (own_alloc h2 o) (by decide) hG, own_to hO (by simp) (by rw [ints_append]; rfl), own_still (own_alloc h3 o) (own_alloc h4 o) (by decide) hG, hB⟩
theorem BkW.name (h : BkW w T b ats ns vb vat vn W) {o : Obj} {v9 : Value} {s : ByteArray} (hO : W'.ownsRow w.heap.size 32 1 v9 (ns.length + 1) (svs ns ++ [.string s])) (hB : Below w.heap.size w W') (hG : (W.alloc o).grownBy W' vn.ownBlock) :
    BkW w T b ats (ns ++ [s.data.toList]) vb vat v9 W' := by
  obtain ⟨⟨mp, h1⟩, h2, h3, h4, h5⟩ := h
  exact ⟨⟨mp, (h1.below ((Below.refl _ _).alloc (Nat.le_refl _) o)).still (own_alloc h4 o) (by decide) hG⟩, own_still (own_alloc h4 o) (own_alloc h2 o) (by decide) hG, own_still (own_alloc h4 o) (own_alloc h3 o) (by decide) hG, own_to hO (by simp) (by rw [svs_append]; exact congrArg (svs ns ++ ·) (congrArg (fun x => [Value.string x]) (string_eq rfl))), hB⟩
/-- a name is put. -/
theorem BkW.put {A : Option Addr} {c i : Nat} (h : BkW w T b ats ns (.slice A b.length c) vat vn W) (hp : BkP T b ats ns i) {plain : Bool} {s : ByteArray} {ls : List (List UInt8)} (hs : Nm.split s.data.toList = some ls) {e : Ending} (hd : PutDone plain w.heap.size w.heap.size T b ls W e W') :
    ∃ A2 n c2 T2 b2, e = .returned (.tuple #[.slice A2 n c2, .int .i64 0]) ∧ b2.length = n ∧ b.length < n ∧ n ≤ b.length + s.size ∧ (plain = true → n = b.length + s.size) ∧ BkP T2 b2 (ats ++ [b.length]) (ns ++ [s.data.toList]) (i + 1) ∧ BkW w T2 b2 ats ns (.slice A2 n c2) vat vn W' := by
  obtain ⟨⟨mp0, h1⟩, h2, h3, h4, h5⟩ := h
  obtain ⟨v, mp, rfl, d1, d2, d3⟩ := hd
  obtain ⟨q1, q2, q3, q4⟩ := hp.step plain hs
  obtain ⟨A2, c2, rfl⟩ := own_form d1
  refine ⟨A2, _, c2, _, _, rfl, rfl, q2, q3, q4, q1, ⟨mp, d2⟩, own_mono d1 h5.size, d3.own h1.2.1 h3 (by decide), d3.own h1.2.1 h4 (by decide), h5.trans d3.below⟩
/-- what is put, before it is put. -/
theorem bk_put (plain : Bool) {A : Option Addr} {c i : Nat} (h : BkW w T b ats ns (.slice A b.length c) vat vn W) (hp : BkP T b ats ns i) (hi : i ≤ 60) {s : ByteArray} {ls : List (List UInt8)} (hs : Nm.split s.data.toList = some ls) :
    Calls Try.prog (if plain then 11 else 13) #[.pointer (some ⟨w.heap.size, 0, none⟩), .slice A b.length c, .string s] W fun e W' =>
      ∃ A2 n c2 T2 b2, e = .returned (.tuple #[.slice A2 n c2, .int .i64 0]) ∧ b2.length = n ∧ b.length < n ∧ n ≤ b.length + s.size ∧ (plain = true → n = b.length + s.size) ∧ BkP T2 b2 (ats ++ [b.length]) (ns ++ [s.data.toList]) (i + 1) ∧ BkW w T2 b2 ats ns (.slice A2 n c2) vat vn W' := by
  obtain ⟨⟨mp, h1⟩, h2, _, _, h5⟩ := id h
  have hbl := hp.2.2.1
  have htl := hp.2.2.2.1
  have hB : Bs W 0 W.heap.size A b := (Bs.of_own h2).more (Nat.zero_le _) (Nat.le_refl _)
  have hnil : A = none → c = 0 := fun e => by
    subst e
    rcases h2.2 with ⟨hv, _⟩ | ⟨g, cap, cur, hv, _⟩
    · injection hv
    · injection hv with h1; cases h1
  cases plain with
  | true => exact (plain_in w.heap.size w.heap.size mp T A b c s ls W h1 h5.size hs (own_le h2) hnil (by omega) hB (by omega)).mono fun e W' hd => h.put hp hs hd
  | false => exact (put_in w.heap.size w.heap.size mp T A b c s ls W h1 h5.size hs (own_le h2) hnil (by omega) hB (by omega)).mono fun e W' hd => h.put hp hs hd
end
theorem own_nil0 {w : World} {b n c : Nat} {e : TypeId} {A : Option Addr} {xs : List Value} (h : w.ownsRow b e 1 (.slice A n c) n xs) (hA : A = none) : c = 0 := by
  subst hA
  rcases h.2 with ⟨hv, _⟩ | ⟨g, cap, cur, hv, _⟩
  · injection hv
  · injection hv with h1; cases h1
/-- all bytes, all places and all names. -/
def Bk2 (w : World) (L : List UInt8) (ps : List Nat) (ns : List (List UInt8)) (vL vT vN : Value) (W : World) : Prop :=
  W.ownsRow w.heap.size 5 1 vL L.length (bv L) ∧ W.ownsRow w.heap.size 3 1 vT ps.length (ints ps) ∧ W.ownsRow w.heap.size 32 1 vN ns.length (svs ns) ∧ Below w.heap.size w W
theorem Bk2.low {w W W' : World} {L : List UInt8} {ps : List Nat} {ns : List (List UInt8)} {vL vT vN : Value} (h : Bk2 w L ps ns vL vT vN W) (hb : Below W.heap.size W W') : Bk2 w L ps ns vL vT vN W' :=
  ⟨own_below h.1 hb (Nat.le_refl _), own_below h.2.1 hb (Nat.le_refl _), own_below h.2.2.1 hb (Nat.le_refl _), h.2.2.2.trans (hb.mono h.2.2.2.size)⟩
theorem BkW.all {w W W' : World} {T : Tab} {b l : List UInt8} {ps : List Nat} {ns : List (List UInt8)} {vb vat vn v3 v4 : Value} (h : BkW w T b ps ns vb vat vn W) (h3 : W.ownsRow w.heap.size 5 1 v3 b.length (bv b)) (h4 : W'.ownsRow w.heap.size 5 1 v4 (b.length + l.length) (bv b ++ bv l)) (hG : W.grownBy W' v3.ownBlock) :
    Bk2 w (b ++ l) ps ns v4 vat vn W' :=
  ⟨own_to h4 List.length_append.symm (bv_append _ _).symm, own_still h3 h.2.2.1 (by decide) hG, own_still h3 h.2.2.2.1 (by decide) hG, h.2.2.2.2.grown hG h.2.2.2.2.size (fun k hk => (h3.lt k hk).1)⟩
/-- bytes that are read are put behind a row of the call's own, past 2^47 bytes too. -/
theorem wpList_append_bs_wide {P : Program} {w : World} {ops : Array Oper} {rest : List Oper} {o : Oper} {a : Act} {Q : Exit → Act → World → Prop} (hgd : o.guard = none) (s x : Operand) (t : TypeId)
    (ho : o.op = .call { callee := .builtin .append, args := #[s, x], argTypes := #[t, t] })
    (base : Nat) (e : TypeId) (i : TypeInfo) (z : Value) (ht : P.underlying t = some (.slice e)) (hi : P.info? e = some i) (hz : i.zero = some z)
    (hsize : i.size = 1) (hby : i.bytes = 1) (hzs : z.cells.size = 1)
    (v : Value) (n : Nat) (xs : List Value) (hs : a.eval s = v) (hown : w.ownsRow base e 1 v n xs)
    (lo hi' : Nat) (A : Option Addr) (c : Nat) (l : List UInt8) (hx : a.eval x = .slice A l.length c) (hr : Bs w lo hi' A l) (hnil : A = none → c = 0)
    (h63 : n + l.length ≤ 211106232532992) (hbase : base ≤ w.heap.size)
    (h : ∀ v' w', w'.ownsRow base e 1 v' (n + l.length) (xs ++ bv l) → w.grownBy w' v.ownBlock → wpList P ops Q rest (a.put o.dst v') w') : wpList P ops Q (o :: rest) a w := by
  rcases A with _ | ad
  · have h0 : l.length = 0 := by
      rcases Nat.eq_zero_or_pos l.length with h0 | h0
      · exact h0
      · obtain ⟨g, o, hh, _⟩ := hr h0; cases hh
    have hl : l = [] := List.eq_nil_of_length_eq_zero h0
    subst hl
    have := hnil rfl
    subst this
    exact wpList_append_own_none hgd s x t ho base e i 1 ht hi v n xs hs hown hx (h _ _ (by simpa [bv] using hown) (World.grownBy.refl w _))
  · exact wpList_append_own_wide w hgd s x t ho base e i z 1 1 ht hi hz hsize hby hzs (by decide) v n xs hs hown ad l.length c (bv l) hx (by simp [bv]) hr.at_ (bv_one l) (by unfold maxLen; omega) (by omega) hbase (fun v' w' a b _ => h v' w' a b)
end Go.Proofs.Ytfekmolgiohegaa
