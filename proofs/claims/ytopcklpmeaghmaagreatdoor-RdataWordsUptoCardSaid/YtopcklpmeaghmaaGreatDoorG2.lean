/- Texts of the proofs, merged. -/
import Derived.Test.YtopcklpmeaghmaaGreatDoorG1
import Derived.Lib.Hide
/- Rows of structs of the call's own, and append on them: where the new row lies. Nothing of the program. -/
namespace Go.Proofs.YtopcklpmeaghmaaGreatDoor
open Go.RowKit

/-- all cells of structs, one behind the other. -/
def fl {α : Type} (enc : α → List Value) (xs : List α) : List Value := xs.flatMap enc
section
variable {α : Type} {enc : α → List Value} {k : Nat}
theorem fl_append (xs ys : List α) : fl enc (xs ++ ys) = fl enc xs ++ fl enc ys := by simp [fl]
theorem fl_one (x : α) : fl enc [x] = enc x := by simp [fl]
theorem fl_len (hk : ∀ x, (enc x).length = k) : ∀ xs : List α, (fl enc xs).length = xs.length * k
  | [] => by simp [fl]
  | x :: r => by
    have := fl_len hk r
    simp only [fl, List.flatMap_cons, List.length_append, hk, List.length_cons] at *
    rw [this, Nat.add_mul, Nat.one_mul, Nat.add_comm]
theorem fl_get (hk : ∀ x, (enc x).length = k) : ∀ (xs : List α) {j i : Nat} (hj : j < xs.length), i < k → (fl enc xs)[j * k + i]? = (enc xs[j])[i]?
  | x :: r, 0, i, _, hi => by
    simp only [fl, List.flatMap_cons, Nat.zero_mul, Nat.zero_add, List.getElem_cons_zero]
    rw [List.getElem?_append_left (by rw [hk]; exact hi)]
  | x :: r, j + 1, i, hj, hi => by
    have := fl_get hk r (j := j) (i := i) (by simpa using hj) hi
    simp only [fl, List.flatMap_cons, List.getElem_cons_succ] at *
    rw [List.getElem?_append_right (by rw [hk, Nat.add_mul, Nat.one_mul]; omega), hk, ← this]
    congr 1
    rw [Nat.add_mul, Nat.one_mul]
    omega
end
/-- a row of structs of the call's own. -/
abbrev Own {α : Type} (enc : α → List Value) (k : Nat) (w : World) (base : Nat) (e : TypeId) (v : Value) (xs : List α) : Prop := w.ownsRow base e k v xs.length (fl enc xs)
section
variable {α : Type} {enc : α → List Value} {k : Nat} {w w' : World} {base B : Nat} {e : TypeId} {v : Value} {xs : List α}
theorem ownK_form {n : Nat} {ys : List Value} (h : w.ownsRow base e k v n ys) : ∃ ad cp, v = .slice ad n cp ∧ n ≤ cp := by
  rcases h.2 with ⟨rfl, h0⟩ | ⟨g', cap, cur, rfl, _, _, hc, _⟩
  · exact ⟨none, 0, by rw [h0], by omega⟩
  · exact ⟨_, _, rfl, hc⟩
theorem ownK_pos {n : Nat} {ys : List Value} (h : w.ownsRow base e k v n ys) (hn : 0 < n) : ∃ g cp cur, v = .slice (some ⟨g, 0, none⟩) n cp ∧ n ≤ cp ∧ base ≤ g ∧ g < w.heap.size ∧ w.heap[g]? = some (.cells cur e (0, 0)) ∧ cur.toList.take (n * k) = ys := by
  rcases h.2 with ⟨rfl, h0⟩ | ⟨g', cap, cur, rfl, hb, hg, hc, _, _, ht⟩
  · omega
  · exact ⟨g', cap, cur, rfl, hc, hb, (Array.getElem?_eq_some_iff.1 hg).1, hg, ht⟩
theorem ownK_below {n : Nat} {ys : List Value} (h : w.ownsRow base e k v n ys) (hb : Below B w w') (hB : w.heap.size ≤ B) : w'.ownsRow base e k v n ys := own_below h hb hB
theorem take_at {cur : Array Value} {n : Nat} {ys : List Value} (ht : cur.toList.take n = ys) {i : Nat} {u : Value} (hu : ys[i]? = some u) : cur[i]? = some u := by
  subst ht
  rw [List.getElem?_take] at hu
  split at hu
  · rwa [Array.getElem?_toList] at hu
  · cases hu
theorem Own.srow (hk : ∀ x, (enc x).length = k) (h : Own enc k w base e v xs) : ∃ A c, v = .slice A xs.length c ∧ xs.length ≤ c ∧ Srow enc k w base w.heap.size A xs := by
  rcases Nat.eq_zero_or_pos xs.length with h0 | h0
  · obtain ⟨ad, cp, hv, hc⟩ := ownK_form h
    exact ⟨ad, cp, hv, hc, fun h1 => by omega⟩
  · obtain ⟨g, cp, cur, hv, hc, hb, hlt, hg, ht⟩ := ownK_pos h h0
    refine ⟨_, cp, hv, hc, fun _ => ⟨g, 0, rfl, hb, hlt, fun j hj i u hu => ?_⟩⟩
    have hi : i < k := by rw [← hk xs[j]]; exact (List.getElem?_eq_some_iff.1 hu).1
    rw [cell_of_row w g _ cur e (0, 0) hg, Nat.zero_add]
    exact take_at ht (by rw [fl_get hk xs hj hi, hu])
end
def Apart2 (a b : Value) : Prop := ∀ g, a.ownBlock = some g → b.ownBlock ≠ some g
section
variable {P : Program} {w : World}
theorem run_append_where (base : Nat) (t ty e : TypeId) (i : TypeInfo) (z : Value) (size bytes : Nat) (ht : P.underlying t = some (.slice e)) (hi : P.info? e = some i) (hz : i.zero = some z)
    (hsize : i.size = size) (hby : i.bytes = bytes) (hzs : z.cells.size = size) (hsz : 0 < size)
    (v : Value) (n : Nat) (xs : List Value) (hown : w.ownsRow base e size v n xs)
    (a : Addr) (m c : Nat) (news : List Value) (hl : news.length = m * size) (hnews : ∀ j u, news[j]? = some u → w.cell? (a.add j) = some u) (h1 : ∀ u ∈ news, u.oneCell' = true) (hm : 0 < m)
    (h63 : n + m ≤ maxLen) (hbytes : (n + m) * bytes ≤ 140737488355328) (hbase : base ≤ w.heap.size) :
    ∃ v' w', (Builtin.append_ #[t, t] ty #[v, .slice (some a) m c]).run P w = .ok v' w' ∧ w'.ownsRow base e size v' (n + m) (xs ++ news) ∧ w.grownBy w' v.ownBlock ∧ (v'.ownBlock = v.ownBlock ∨ v'.ownBlock = some w.heap.size) := by
  obtain ⟨v', w', hr, h2, h3, _⟩ := run_append_own (P := P) w base t ty e i z size bytes ht hi hz hsize hby hzs hsz v n xs hown a m c news hl hnews h1 h63 hbytes hbase
  refine ⟨v', w', hr, h2, h3, ?_⟩
  subst hsize hby
  have hsmall : n + m ≤ 9223372036854775807 := by simp only [maxLen] at h63; omega
  rcases hown.2 with ⟨rfl, rfl⟩ | ⟨g, cap, cur, rfl, hbg, hg, hnc, hcm, hcs, htake⟩
  · have hr2 := run_append_nil (P := P) w t ty e i z ht hi hz a m c news hl hnews (by omega) (by omega) (by have hb := hbytes; simp only [Nat.zero_add] at hb; omega)
    rw [hr] at hr2
    injection hr2 with e1 _
    rw [e1]
    exact .inr rfl
  · by_cases hroom : n + m ≤ cap
    · have hfit : n * i.size + news.length ≤ cur.size := by rw [hl, hcs, ← Nat.add_mul]; exact Nat.mul_le_mul_right _ hroom
      have hr2 := run_append_room (P := P) w t ty e i ht hi g n cap cur hg a m c news hl hnews h1 hroom hfit
      rw [hr] at hr2
      injection hr2 with e1 _
      rw [e1]
      exact .inl rfl
    · have holds : ∀ j u, xs[j]? = some u → w.cell? ((⟨g, 0, none⟩ : Addr).add j) = some u := hown.cells (g := g) rfl
      have hr2 := run_append_grow (P := P) w t ty e i z ht hi hz ⟨g, 0, none⟩ n cap xs hown.1 holds a m c news hl hnews (by omega) (by omega) (growslice_fits (by omega) hbytes)
      rw [hr] at hr2
      injection hr2 with e1 _
      rw [e1]
      exact .inr rfl
end
/-- one struct put behind a row of the call's own. -/
theorem wpList_append_struct {α : Type} {enc : α → List Value} {k : Nat} {P : Program} {w : World} {ops : Array Oper} {rest : List Oper} {o : Oper} {a : Act} {Q : Exit → Act → World → Prop} (hgd : o.guard = none) (s x : Operand) (t : TypeId)
    (ho : o.op = .call { callee := .builtin .append, args := #[s, x], argTypes := #[t, t] })
    (hk : ∀ x, (enc x).length = k) (h1 : ∀ x, ∀ v ∈ enc x, v.oneCell' = true)
    (e : TypeId) (i : TypeInfo) (z : Value) (bytes : Nat) (ht : P.underlying t = some (.slice e)) (hi : P.info? e = some i) (hz : i.zero = some z)
    (hsize : i.size = k) (hby : i.bytes = bytes) (hzs : z.cells.size = k) (hsz : 0 < k)
    (base : Nat) (v : Value) (xs : List α) (hs : a.eval s = v) (hown : Own enc k w base e v xs)
    (y : α) (g c : Nat) (hx : a.eval x = .slice (some ⟨g, 0, none⟩) 1 c) (hy : w.rangeAt g 0 (enc y))
    (h63 : xs.length + 1 ≤ maxLen) (hbytes : (xs.length + 1) * bytes ≤ 140737488355328) (hbase : base ≤ w.heap.size)
    (h : ∀ v' w', Own enc k w' base e v' (xs ++ [y]) → w.grownBy w' v.ownBlock → (v'.ownBlock = v.ownBlock ∨ v'.ownBlock = some w.heap.size) → wpList P ops Q rest (a.put o.dst v') w') : wpList P ops Q (o :: rest) a w := by
  refine wpList_append_run hgd s x t t ho v _ hs hx (R := fun v' w' => Own enc k w' base e v' (xs ++ [y]) ∧ w.grownBy w' v.ownBlock ∧ (v'.ownBlock = v.ownBlock ∨ v'.ownBlock = some w.heap.size)) ?_ (fun v' w' ⟨h2, h3, h4⟩ => h v' w' h2 h3 h4)
  obtain ⟨v', w', hr, h2, h3, h4⟩ := run_append_where (P := P) (w := w) base t o.type e i z k bytes ht hi hz hsize hby hzs hsz v xs.length (fl enc xs) hown ⟨g, 0, none⟩ 1 c (enc y) (by rw [hk, Nat.one_mul]) (fun j u hu => by
    rw [addr_add]
    exact hy j u hu) (h1 y) (by omega) h63 hbytes hbase
  refine ⟨v', w', hr, ?_, h3, h4⟩
  unfold Own
  rw [fl_append, fl_one, List.length_append, List.length_singleton]
  exact h2
/-- one struct put behind a row of the call's own. -/
theorem wpList_append_struct2 {α : Type} {enc : α → List Value} {k : Nat} {P : Program} {w : World} {ops : Array Oper} {rest : List Oper} {o : Oper} {a : Act} {Q : Exit → Act → World → Prop} (hgd : o.guard = none) (s x : Operand) (t : TypeId)
    (ho : o.op = .call { callee := .builtin .append, args := #[s, x], argTypes := #[t, t] })
    (hk : ∀ x, (enc x).length = k)
    (e : TypeId) (i : TypeInfo) (z : Value) (bytes : Nat) (ht : P.underlying t = some (.slice e)) (hi : P.info? e = some i) (hz : i.zero = some z)
    (hsize : i.size = k) (hby : i.bytes = bytes) (hzs : z.cells.size = k) (hsz : 0 < k)
    (base : Nat) (v : Value) (xs : List α) (hs : a.eval s = v) (hown : Own enc k w base e v xs)
    (y : α) (h1 : ∀ v ∈ enc y, v.oneCell' = true) (g c : Nat) (hx : a.eval x = .slice (some ⟨g, 0, none⟩) 1 c) (hy : w.rangeAt g 0 (enc y))
    (h63 : xs.length + 1 ≤ maxLen) (hbytes : (xs.length + 1) * bytes ≤ 140737488355328) (hbase : base ≤ w.heap.size)
    (h : ∀ v' w', Own enc k w' base e v' (xs ++ [y]) → w.grownBy w' v.ownBlock → (v'.ownBlock = v.ownBlock ∨ v'.ownBlock = some w.heap.size) → wpList P ops Q rest (a.put o.dst v') w') : wpList P ops Q (o :: rest) a w := by
  refine wpList_append_run hgd s x t t ho v _ hs hx (R := fun v' w' => Own enc k w' base e v' (xs ++ [y]) ∧ w.grownBy w' v.ownBlock ∧ (v'.ownBlock = v.ownBlock ∨ v'.ownBlock = some w.heap.size)) ?_ (fun v' w' ⟨h2, h3, h4⟩ => h v' w' h2 h3 h4)
  obtain ⟨v', w', hr, h2, h3, h4⟩ := run_append_where (P := P) (w := w) base t o.type e i z k bytes ht hi hz hsize hby hzs hsz v xs.length (fl enc xs) hown ⟨g, 0, none⟩ 1 c (enc y) (by rw [hk, Nat.one_mul]) (fun j u hu => by
    rw [addr_add]
    exact hy j u hu) h1 (by omega) h63 hbytes hbase
  refine ⟨v', w', hr, ?_, h3, h4⟩
  unfold Own
  rw [fl_append, fl_one, List.length_append, List.length_singleton]
  exact h2
end Go.Proofs.YtopcklpmeaghmaaGreatDoor
/- Pure: a zone's text as pieces, and these as entries: what the program's lexer comes to. -/
namespace Go.Proofs.YtopcklpmeaghmaaGreatDoor.Tk

abbrev By := List UInt8
def blank (c : UInt8) : Bool := c.toNat == 32 || c.toNat == 9 || c.toNat == 13
def ends (c : UInt8) : Bool := c.toNat == 10 || c.toNat == 59 || c.toNat == 40 || c.toNat == 41 || c.toNat == 34 || blank c
/-- how many bytes a word's byte takes: itself, and the one behind a backslash, unless that is a line's end. -/
def tlen : By → Nat
  | c :: d :: _ => if c.toNat = 92 ∧ d.toNat ≠ 10 then 2 else 1
  | _ => 1
def bareLen : By → Nat
  | [] => 0
  | [c] => if ends c then 0 else 1
  | c :: d :: r => if ends c then 0 else if c.toNat = 92 ∧ d.toNat ≠ 10 then 2 + bareLen r else 1 + bareLen (d :: r)
def quoLen : By → Option Nat
  | [] => none
  | [c] => if c.toNat = 34 then some 0 else none
  | c :: d :: r => if c.toNat = 10 then none else if c.toNat = 34 then some 0 else
      if c.toNat = 92 ∧ d.toNat ≠ 10 then (quoLen r).map (2 + ·) else (quoLen (d :: r)).map (1 + ·)
def remLen : By → Nat
  | [] => 0
  | c :: r => if c.toNat = 10 then 0 else 1 + remLen r

inductive Pc where
  | ch (c : UInt8)
  | rem (b : By)
  | bare (b : By)
  | quo (b : By)
  | bad (b : By)
deriving DecidableEq
def lex : Nat → By → List Pc
  | 0, _ => []
  | _ + 1, [] => []
  | n + 1, c :: r =>
    if c.toNat = 59 then .rem (c :: r.take (remLen r)) :: lex n (r.drop (remLen r))
    else if c.toNat = 34 then match quoLen r with
      | none => [.bad (c :: r)]
      | some k => .quo (r.take k) :: lex n (r.drop (k + 1))
    else if ends c then .ch c :: lex n r
    else .bare ((c :: r).take (bareLen (c :: r))) :: lex n ((c :: r).drop (bareLen (c :: r)))

theorem tlen_pos (l : By) : 1 ≤ tlen l := by
  unfold tlen
  split
  · split <;> omega
  · omega
theorem bareLen_pos {c : UInt8} {r : By} (h : ends c = false) : 1 ≤ bareLen (c :: r) := by
  cases r with
  | nil => simp [bareLen, h]
  | cons d r =>
    rw [bareLen]
    simp only [h, Bool.false_eq_true, if_false]
    split <;> omega
theorem bareLen_end {c : UInt8} {r : By} (h : ends c = true) : bareLen (c :: r) = 0 := by
  cases r <;> simp [bareLen, h]
/-- one byte further, or two. -/
theorem bareLen_step {c : UInt8} {r : By} (h : ends c = false) : bareLen (c :: r) = tlen (c :: r) + bareLen ((c :: r).drop (tlen (c :: r))) := by
  cases r with
  | nil => simp [bareLen, h, tlen]
  | cons d r =>
    rw [bareLen]
    simp only [h, Bool.false_eq_true, if_false, tlen]
    split <;> simp
theorem quoLen_lf {c : UInt8} {r : By} (h : c.toNat = 10) : quoLen (c :: r) = none := by
  cases r with
  | nil => simp [quoLen, h]
  | cons d r => simp [quoLen, h]
theorem quoLen_q {c : UInt8} {r : By} (h : c.toNat = 34) : quoLen (c :: r) = some 0 := by
  cases r with
  | nil => simp [quoLen, h]
  | cons d r => simp [quoLen, h]
theorem quoLen_step {c : UInt8} {r : By} (h : c.toNat ≠ 10) (h2 : c.toNat ≠ 34) : quoLen (c :: r) = (quoLen ((c :: r).drop (tlen (c :: r)))).map (tlen (c :: r) + ·) := by
  cases r with
  | nil => simp [quoLen, h2, tlen]
  | cons d r =>
    rw [quoLen]
    simp only [h, h2, if_false, tlen]
    split <;> simp

theorem tlen_le {c : UInt8} {r : By} : tlen (c :: r) ≤ (c :: r).length := by
  cases r with
  | nil => simp [tlen]
  | cons d r => simp only [tlen, List.length_cons]; split <;> omega
theorem bareLen_le : ∀ (l : By), bareLen l ≤ l.length := by
  intro l
  induction l using bareLen.induct with
  | case1 => simp [bareLen]
  | case2 c h => simp [bareLen, h]
  | case3 c h => simp [bareLen, h]
  | case4 c d r h => simp [bareLen, h]
  | case5 c d r h1 h2 ih => simp only [Bool.not_eq_true] at h1; simp [bareLen, h1, h2]; omega
  | case6 c d r h1 h2 ih => simp only [Bool.not_eq_true] at h1; rw [bareLen]; simp only [h1, h2, Bool.false_eq_true, if_false]; simp at ih ⊢; omega
theorem quoLen_lt : ∀ (l : By) (k : Nat), quoLen l = some k → k < l.length := by
  intro l
  induction l using quoLen.induct with
  | case1 => intro k h; simp [quoLen] at h
  | case2 c h => intro k hk; simp [quoLen, h] at hk; simp; omega
  | case3 c h => intro k hk; simp [quoLen, h] at hk
  | case4 c d r h => intro k hk; simp [quoLen, h] at hk
  | case5 c d r h1 h2 => intro k hk; simp [quoLen, h2] at hk; simp; omega
  | case6 c d r h1 h2 h3 ih =>
    intro k hk
    rw [quoLen, if_neg h1, if_neg h2, if_pos h3] at hk
    rcases hq : quoLen r with _ | j
    · rw [hq] at hk; cases hk
    · rw [hq] at hk; simp at hk; have := ih j hq; simp; omega
  | case7 c d r h1 h2 h3 ih =>
    intro k hk
    rw [quoLen, if_neg h1, if_neg h2, if_neg h3] at hk
    rcases hq : quoLen (d :: r) with _ | j
    · rw [hq] at hk; cases hk
    · rw [hq] at hk; simp at hk; have := ih j hq; simp at this ⊢; omega
theorem remLen_le : ∀ (l : By), remLen l ≤ l.length
  | [] => by simp [remLen]
  | c :: r => by
    have := remLen_le r
    unfold remLen
    split <;> simp; omega

theorem lex_fuel : ∀ (n m : Nat) (l : By), l.length ≤ n → l.length ≤ m → lex n l = lex m l := by
  intro n
  induction n with
  | zero =>
    intro m l h _
    obtain rfl : l = [] := List.eq_nil_of_length_eq_zero (by omega)
    cases m <;> rfl
  | succ n ih =>
    intro m l h1 h2
    cases l with
    | nil => cases m <;> rfl
    | cons c r =>
      obtain ⟨m, rfl⟩ : ∃ k, m = k + 1 := ⟨m - 1, by simp at h2; omega⟩
      simp only [List.length_cons] at h1 h2
      rw [lex, lex]
      split
      · rw [ih m _ (by simp; omega) (by simp; omega)]
      split
      · split
        · rfl
        · rw [ih m _ (by simp; omega) (by simp; omega)]
      split
      · rw [ih m _ (by omega) (by omega)]
      · rename_i h
        have := bareLen_pos (r := r) (by simpa using h)
        rw [ih m _ (by simp; omega) (by simp; omega)]
/-- a text's pieces. -/
def lx (l : By) : List Pc := lex l.length l
theorem lex_lx {n : Nat} {l : By} (h : l.length ≤ n) : lex n l = lx l := lex_fuel _ _ _ h (Nat.le_refl _)
theorem lx_nil : lx [] = [] := rfl
theorem lx_rem {c : UInt8} {r : By} (h : c.toNat = 59) : lx (c :: r) = .rem (c :: r.take (remLen r)) :: lx (r.drop (remLen r)) := by
  conv => lhs; unfold lx
  rw [List.length_cons, lex, if_pos h, lex_lx (by simp)]
theorem lx_bad {c : UInt8} {r : By} (h : c.toNat = 34) (hq : quoLen r = none) : lx (c :: r) = [.bad (c :: r)] := by
  conv => lhs; unfold lx
  rw [List.length_cons, lex, if_neg (by omega), if_pos h, hq]
theorem lx_quo {c : UInt8} {r : By} {k : Nat} (h : c.toNat = 34) (hq : quoLen r = some k) : lx (c :: r) = .quo (r.take k) :: lx (r.drop (k + 1)) := by
  conv => lhs; unfold lx
  rw [List.length_cons, lex, if_neg (by omega), if_pos h, hq]
  simp only
  rw [lex_lx (by simp)]
theorem ends_59 {c : UInt8} (h : c.toNat = 59) : ends c = true := by simp [ends, h]
theorem ends_34 {c : UInt8} (h : c.toNat = 34) : ends c = true := by simp [ends, h]
theorem lx_ch {c : UInt8} {r : By} (h1 : c.toNat ≠ 59) (h2 : c.toNat ≠ 34) (h : ends c = true) : lx (c :: r) = .ch c :: lx r := by
  conv => lhs; unfold lx
  rw [List.length_cons, lex, if_neg h1, if_neg h2, if_pos h, lex_lx (Nat.le_refl _)]
theorem lx_bare {c : UInt8} {r : By} (h : ends c = false) : lx (c :: r) = .bare ((c :: r).take (bareLen (c :: r))) :: lx ((c :: r).drop (bareLen (c :: r))) := by
  have hp := bareLen_pos (r := r) h
  conv => lhs; unfold lx
  rw [List.length_cons, lex, if_neg (fun e => by rw [ends_59 e] at h; cases h), if_neg (fun e => by rw [ends_34 e] at h; cases h), if_neg (by simp [h]), lex_lx (by simp only [List.length_drop, List.length_cons]; omega)]

structure Wd where
  text : By
  quoted : Bool
  line : Nat
  col : Nat
deriving DecidableEq
structure En where
  blank : Bool
  line : Nat
  words : List Wd
deriving DecidableEq
inductive Rs where
  | err (line col e : Nat)
  | ok (es : List En)
deriving DecidableEq
structure St where
  line : Nat
  col : Nat
  dep : Nat
  fl : Nat
  fc : Nat
  bl : Bool
  el : Nat
  ws : List Wd
  es : List En
/-- the entries, with the one that is being read. -/
def St.done (s : St) : List En := if s.ws = [] then s.es else s.es ++ [⟨s.bl, s.el, s.ws⟩]
/-- is the byte that comes next a blank? -/
def hb : By → Bool
  | [] => false
  | c :: _ => blank c
def hp : List Pc → Bool
  | .ch c :: _ => blank c
  | _ => false
def eQuote : Nat := 80
def eParen : Nat := 81
/-- behind a line's end. -/
def St.nl (s : St) (b : Bool) : St :=
  if s.dep = 0 then ⟨s.line + 1, 1, 0, s.fl, s.fc, b, s.line + 1, [], s.done⟩ else { s with line := s.line + 1, col := 1 }
/-- behind an open parenthesis. -/
def St.op (s : St) : St := { s with dep := s.dep + 1, fl := if s.dep = 0 then s.line else s.fl, fc := if s.dep = 0 then s.col else s.fc, col := s.col + 1 }
def St.cl (s : St) : St := { s with dep := s.dep - 1, col := s.col + 1 }
def St.go (s : St) (n : Nat) : St := { s with col := s.col + n }
def St.put (s : St) (b : By) (q : Bool) (n : Nat) : St := { s with ws := s.ws ++ [⟨b, q, s.line, s.col⟩], col := s.col + n }
def play : List Pc → St → Rs
  | [], s => if s.dep = 0 then .ok s.done else .err s.fl s.fc eParen
  | .bad _ :: _, s => .err s.line s.col eQuote
  | .ch c :: ps, s =>
    if c.toNat = 10 then play ps (s.nl (hp ps))
    else if c.toNat = 40 then play ps s.op
    else if c.toNat = 41 then if s.dep = 0 then .err s.line s.col eParen else play ps s.cl
    else play ps (s.go 1)
  | .rem b :: ps, s => play ps (s.go b.length)
  | .bare b :: ps, s => play ps (s.put b false b.length)
  | .quo b :: ps, s => play ps (s.put b true (b.length + 2))
/-- at a text's beginning. -/
def start (l : By) : St := ⟨1, 1, 0, 0, 0, hb l, 1, [], []⟩
/-- what a text tells. -/
def tells (l : By) : Rs := play (lx l) (start l)
theorem blank_ends {c : UInt8} (h : blank c = true) : ends c = true := by simp [ends, h]
theorem hb_ends {c : UInt8} (h : blank c = true) : c.toNat ≠ 59 ∧ c.toNat ≠ 34 := by
  simp [blank] at h
  omega
theorem hp_lx (l : By) : hp (lx l) = hb l := by
  cases l with
  | nil => rfl
  | cons c r =>
    by_cases h1 : c.toNat = 59
    · rw [lx_rem h1]; simp [hp, hb, blank, h1]
    by_cases h2 : c.toNat = 34
    · rcases hq : quoLen r with _ | k
      · rw [lx_bad h2 hq]; simp [hp, hb, blank, h2]
      · rw [lx_quo h2 hq]; simp [hp, hb, blank, h2]
    by_cases h3 : ends c = true
    · rw [lx_ch h1 h2 h3]; rfl
    · rw [lx_bare (by simpa using h3)]
      have : blank c = false := by
        rcases hb' : blank c with _ | _
        · rfl
        · exact absurd (blank_ends hb') h3
      simp [hp, hb, this]
end Go.Proofs.YtopcklpmeaghmaaGreatDoor.Tk
/- The lexer's small calls. -/
namespace Go.Proofs.YtopcklpmeaghmaaGreatDoor
open Go.RowKit

/-- the lexer's cells. -/
def lxc (s : ByteArray) (at_ line lineAt dep fl fc : Nat) (bl : Bool) (el : Nat) (vw ve : Value) : Array Value :=
  #[.string s, .int .i64 at_, .int .i64 line, .int .i64 lineAt, .int .i64 dep, .int .i64 fl, .int .i64 fc, .bool bl, .int .i64 el, vw, ve]
/-- the byte that comes next. -/
def nb (s : ByteArray) (at_ : Nat) : UInt8 := s.data.toList.getD at_ 10

end Go.Proofs.YtopcklpmeaghmaaGreatDoor
/- The lexer in memory: its cells, the words and the entries that it gathers, each in a row of its own. -/
namespace Go.Proofs.YtopcklpmeaghmaaGreatDoor
open Go.RowKit

theorem grown_trans {w w' w2 : World} {row : Option Nat} (h : w.grownBy w' row) (h2 : w'.grownBy w2 row) : w.grownBy w2 row :=
  ⟨h2.os.trans h.os, h2.tape.trans h.tape, h2.output.trans h.output, Nat.le_trans h.size h2.size, fun k hk hne => (h2.block k (Nat.lt_of_lt_of_le hk h.size) hne).trans (h.block k hk hne)⟩
theorem grown_drewN (w : World) (n : Nat) (row : Option Nat) : w.grownBy (w.drewN n) row := ⟨rfl, rfl, rfl, Nat.le_refl _, fun _ _ _ => rfl⟩
theorem grown_any {w w' : World} (h : w.grownBy w' none) (row : Option Nat) : w.grownBy w' row := ⟨h.os, h.tape, h.output, h.size, fun k hk _ => h.block k hk (by simp)⟩
theorem grown_below {w w' : World} {B : Nat} {row : Option Nat} (h : w.grownBy w' row) (hB : B ≤ w.heap.size) (hr : ∀ k, row = some k → B ≤ k) : Below B w w' := below_self h hB hr
theorem grown_of {w w' : World} (h : Below w.heap.size w w') (row : Option Nat) : w.grownBy w' row := ⟨h.os, h.tape, h.output, h.size, fun k hk _ => h.block k hk⟩

/-- only block g and what lies from b on has changed. -/
structure Kb (g b : Nat) (w w' : World) : Prop where
  os : w'.os = w.os
  tape : w'.tape = w.tape
  output : w'.output = w.output
  size : w.heap.size ≤ w'.heap.size
  block : ∀ k, k < b → k ≠ g → w'.heap[k]? = w.heap[k]?
section
variable {g b : Nat} {w w' w2 : World}
theorem Kb.refl (g b : Nat) (w : World) : Kb g b w w := ⟨rfl, rfl, rfl, Nat.le_refl _, fun _ _ _ => rfl⟩
theorem Kb.trans (h : Kb g b w w') (h2 : Kb g b w' w2) : Kb g b w w2 :=
  ⟨h2.os.trans h.os, h2.tape.trans h.tape, h2.output.trans h.output, Nat.le_trans h.size h2.size, fun k hk hne => (h2.block k hk hne).trans (h.block k hk hne)⟩
theorem Kb.grown (h : w.grownBy w' (some g)) (hb : b ≤ w.heap.size) : Kb g b w w' :=
  ⟨h.os, h.tape, h.output, h.size, fun k hk hne => h.block k (by omega) (fun e => hne (by injection e))⟩
theorem Kb.of_below (h : Below b w w') : Kb g b w w' := ⟨h.os, h.tape, h.output, h.size, fun k hk _ => h.block k hk⟩
theorem Kb.set (h : Kb g b w w') (i : Nat) (u : Value) : Kb g b w (w'.setCell ⟨g, i, none⟩ u) :=
  ⟨h.os, h.tape, h.output, by simpa using h.size, fun k hk hne => (heap_setCell_other _ ⟨g, i, none⟩ k u hne).trans (h.block k hk hne)⟩
theorem Kb.mono (h : Kb g b w w') {b' : Nat} (hb : b' ≤ b) : Kb g b' w w' := ⟨h.os, h.tape, h.output, h.size, fun k hk hne => h.block k (by omega) hne⟩
theorem Kb.setHi (h : Kb g b w w') {p : Addr} (hp : b ≤ p.block) (u : Value) : Kb g b w (w'.setCell p u) :=
  ⟨h.os, h.tape, h.output, by simpa using h.size, fun k hk hne => (heap_setCell_other _ p k u (by omega)).trans (h.block k hk hne)⟩
theorem Kb.below (h : Kb g b w w') (hg : g ≤ b) : Below g w w' := ⟨h.os, h.tape, h.output, h.size, fun k hk => h.block k (by omega) (by omega)⟩
theorem Kb.below' (h : Kb g b w w') (hg : b ≤ g) : Below b w w' := ⟨h.os, h.tape, h.output, h.size, fun k hk => h.block k hk (by omega)⟩
theorem Kb.has (h : Kb g b w w') {k : Nat} {t : TypeId} {cs : Array Value} (hk : Has w k t cs) (hb : k < b) (hne : k ≠ g) : Has w' k t cs := (h.block k hb hne).trans hk
end
def wc (x : Tk.Wd) : List Value := [.string ⟨x.text.toArray⟩, .bool x.quoted, .int .i64 x.line, .int .i64 x.col]
theorem wc_len (x : Tk.Wd) : (wc x).length = 4 := rfl
/-- an entry as it lies in memory. -/
structure Ex where
  bl : Bool
  el : Nat
  v : Value
  ws : List Tk.Wd
def Ex.en (x : Ex) : Tk.En := ⟨x.bl, x.el, x.ws⟩
def ec (x : Ex) : List Value := [.bool x.bl, .int .i64 x.el, x.v]
theorem ec_len (x : Ex) : (ec x).length = 3 := rfl
section
variable {w w' : World} {b : Nat} {v v' vw ve : Value} {out : List Ex} {ws : List Tk.Wd}
theorem row_kept {k : Nat} {e : TypeId} {n : Nat} {ys : List Value} (h : w.ownsRow b e k v n ys) {g : Nat} (hg : g < b) (hw : w.grownBy w' (some g)) : w'.ownsRow b e k v n ys :=
  h.kept hw (by
    cases e2 : v.ownBlock with
    | none => exact .inl rfl
    | some q => exact .inr fun e3 => by injection e3 with e3; have := (h.lt q e2).1; omega)
theorem apart_ne {a c : Value} (h : Apart2 a c) : a.ownBlock = none ∨ a.ownBlock ≠ c.ownBlock := by
  cases e : a.ownBlock with
  | none => exact .inl rfl
  | some q => exact .inr fun e2 => h q e e2.symm
theorem apart_ne' {a c : Value} (h : Apart2 a c) : c.ownBlock = none ∨ c.ownBlock ≠ a.ownBlock := by
  cases e : c.ownBlock with
  | none => exact .inl rfl
  | some q => exact .inr fun e2 => h q e2.symm e
end

/-- a word's byte, and the one behind it, if it is taken along. -/
def tk1 (s : ByteArray) (at_ : Nat) : Nat := if (nb s at_).toNat = 92 ∧ (nb s (at_ + 1)).toNat ≠ 10 then 2 else 1
end Go.Proofs.YtopcklpmeaghmaaGreatDoor
/- Plain lists of bytes: names, labels, texts. Nothing of the program. -/
namespace Go.Proofs.YtopcklpmeaghmaaGreatDoor.Nm

abbrev By := List UInt8

def small (c : UInt8) : UInt8 := if 65 ≤ c ∧ c ≤ 90 then c + 32 else c
def fold (l : By) : By := l.map small

/-- the labels of what stands here, up to its byte 0; f bounds how many. -/
def splitF : Nat → By → Option (List By)
  | 0, _ => none
  | _ + 1, [] => none
  | f + 1, k :: t =>
    if k.toNat = 0 then (if t.length = 0 then some [] else none)
    else if 63 < k.toNat ∨ t.length < k.toNat then none
    else (splitF f (t.drop k.toNat)).map (t.take k.toNat :: ·)
def split (l : By) : Option (List By) := if 255 < l.length then none else splitF (l.length + 1) l

theorem splitF_more : ∀ (f : Nat) (l : By), l.length < f → splitF (f + 1) l = splitF f l := by
  intro f
  induction f with
  | zero => intro l h; omega
  | succ f ih =>
    intro l h
    cases l with
    | nil => rfl
    | cons k t =>
      rw [splitF, splitF]
      have hd : (t.drop k.toNat).length < f := by simp at h ⊢; omega
      rw [ih _ hd]
theorem splitF_eq : ∀ (d f : Nat) (l : By), l.length < f → splitF (f + d) l = splitF f l := by
  intro d
  induction d with
  | zero => intro f l _; rfl
  | succ d ih => intro f l h; rw [← Nat.add_assoc, splitF_more _ _ (by omega)]; exact ih f l h
theorem splitF_len (f : Nat) (l : By) (h : l.length < f) : splitF f l = splitF (l.length + 1) l := by
  have := splitF_eq (f - (l.length + 1)) (l.length + 1) l (by omega)
  rw [show l.length + 1 + (f - (l.length + 1)) = f from by omega] at this
  exact this

/-- what stands at one's place: the same with no bound to carry. -/
def sp (l : By) : Option (List By) := splitF (l.length + 1) l
theorem sp_nil : sp [] = none := rfl
theorem sp_zero {k : UInt8} {t : By} (h : k.toNat = 0) : sp (k :: t) = if t.length = 0 then some [] else none := by simp [sp, splitF, h]
theorem sp_bad {k : UInt8} {t : By} (h : k.toNat ≠ 0) (h2 : 63 < k.toNat ∨ t.length < k.toNat) : sp (k :: t) = none := by simp [sp, splitF, h, h2]
theorem sp_cons {k : UInt8} {t : By} (h : k.toNat ≠ 0) (h2 : k.toNat ≤ 63) (h3 : k.toNat ≤ t.length) :
    sp (k :: t) = (sp (t.drop k.toNat)).map (t.take k.toNat :: ·) := by
  have e : splitF (t.length + 1) (t.drop k.toNat) = sp (t.drop k.toNat) := splitF_len _ _ (by simp; omega)
  unfold sp at e ⊢
  rw [List.length_cons, splitF, if_neg h, if_neg (by omega), e]

def lab (l : By) : By := UInt8.ofNat l.length :: l
def body (ls : List By) : By := ls.flatMap lab
def glue (ls : List By) : By := body ls ++ [0]
def good (l : By) : Bool := decide (1 ≤ l.length) && decide (l.length ≤ 63)
def Good (ls : List By) : Prop := ∀ l ∈ ls, 1 ≤ l.length ∧ l.length ≤ 63

theorem body_nil : body [] = [] := rfl
theorem body_cons (l : By) (ls : List By) : body (l :: ls) = lab l ++ body ls := rfl
theorem body_append (a b : List By) : body (a ++ b) = body a ++ body b := by simp [body]
theorem lab_length (l : By) : (lab l).length = l.length + 1 := by simp [lab]
theorem glue_length (ls : List By) : (glue ls).length = (body ls).length + 1 := by simp [glue]
theorem body_snoc_length (a : List By) (l : By) : (body (a ++ [l])).length = (body a).length + 1 + l.length := by
  rw [body_append]; simp [body, lab]; omega

theorem sp_glue : ∀ (ls : List By), Good ls → sp (glue ls) = some ls := by
  intro ls
  induction ls with
  | nil => intro _; rfl
  | cons l ls ih =>
    intro h
    have hl := h l (by simp)
    have hb : (UInt8.ofNat l.length).toNat = l.length := by simp; omega
    have e : glue (l :: ls) = UInt8.ofNat l.length :: (l ++ glue ls) := by simp [glue, body, lab]
    rw [e, sp_cons (by omega) (by omega) (by simp; omega), hb, List.drop_left, List.take_left, ih (fun x hx => h x (by simp [hx]))]
    rfl
theorem sp_some : ∀ (n : Nat) (l : By) (ls : List By), l.length ≤ n → sp l = some ls → l = glue ls ∧ Good ls := by
  intro n
  induction n with
  | zero =>
    intro l ls hn h
    have : l = [] := List.eq_nil_of_length_eq_zero (by omega)
    subst this; simp [sp_nil] at h
  | succ n ih =>
    intro l ls hn h
    cases l with
    | nil => simp [sp_nil] at h
    | cons k t =>
      by_cases h0 : k.toNat = 0
      · rw [sp_zero h0] at h
        split at h
        · rename_i ht
          have : t = [] := List.eq_nil_of_length_eq_zero ht
          subst this
          injection h with h
          subst h
          have hk : k = 0 := UInt8.toNat_inj.1 (by simpa using h0)
          subst hk
          exact ⟨rfl, by intro x hx; simp at hx⟩
        · simp at h
      · by_cases hb : 63 < k.toNat ∨ t.length < k.toNat
        · rw [sp_bad h0 hb] at h; simp at h
        · rw [sp_cons h0 (by omega) (by omega)] at h
          rcases hs : sp (t.drop k.toNat) with _ | ls'
          · simp [hs] at h
          · simp [hs] at h
            subst h
            obtain ⟨e, g⟩ := ih (t.drop k.toNat) ls' (by simp at hn ⊢; omega) hs
            refine ⟨?_, ?_⟩
            · have hlen : (t.take k.toNat).length = k.toNat := by simp; omega
              have : glue (t.take k.toNat :: ls') = k :: (t.take k.toNat ++ glue ls') := by simp [glue, body, lab, Nat.min_eq_left (show k.toNat ≤ t.length by omega)]
              rw [this, ← e, List.take_append_drop]
            · intro x hx
              rcases List.mem_cons.1 hx with rfl | hx
              · simp; omega
              · exact g x hx
theorem split_some {l : By} {ls : List By} : split l = some ls ↔ l = glue ls ∧ Good ls ∧ l.length ≤ 255 := by
  unfold split
  constructor
  · intro h
    split at h
    · simp at h
    · obtain ⟨a, b⟩ := sp_some l.length l ls (Nat.le_refl _) h
      exact ⟨a, b, by omega⟩
  · rintro ⟨rfl, g, h⟩
    rw [if_neg (by omega)]
    exact sp_glue ls g
theorem split_glue {ls : List By} (g : Good ls) (h : (glue ls).length ≤ 255) : split (glue ls) = some ls := split_some.2 ⟨rfl, g, h⟩
theorem good_count {ls : List By} (g : Good ls) : 2 * ls.length ≤ (body ls).length := by
  induction ls with
  | nil => simp
  | cons l ls ih =>
    have := ih (fun x hx => g x (by simp [hx]))
    have hl := g l (by simp)
    rw [body_cons, List.length_append, lab_length, List.length_cons]; omega

/-- where each label begins. -/
def starts (ls : List By) : List Nat := (List.range ls.length).map fun i => (body (ls.take i)).length
theorem starts_length (ls : List By) : (starts ls).length = ls.length := by simp [starts]
theorem starts_snoc (ls : List By) (l : By) : starts (ls ++ [l]) = starts ls ++ [(body ls).length] := by
  unfold starts
  rw [List.length_append, List.length_singleton, List.range_succ, List.map_append]
  congr 1
  · apply List.map_congr_left
    intro i hi
    rw [List.take_append_of_le_length (by have := List.mem_range.1 hi; omega)]
  · simp
/-- and behind them where the byte 0 stands. -/
def offs (ls : List By) : List Nat := starts ls ++ [(body ls).length]
theorem offs_length (ls : List By) : (offs ls).length = ls.length + 1 := by simp [offs, starts_length]
theorem offs_get (ls : List By) (i : Nat) (h : i ≤ ls.length) : (offs ls)[i]? = some (body (ls.take i)).length := by
  unfold offs
  by_cases hi : i < ls.length
  · rw [List.getElem?_append_left (by simpa [starts_length] using hi)]; simp [starts, hi]
  · have : i = ls.length := by omega
    subst this
    rw [List.getElem?_append_right (by simp [starts_length])]; simp [starts_length]

theorem small_val (c : UInt8) : (small c).toNat = if 65 ≤ c.toNat ∧ c.toNat ≤ 90 then c.toNat + 32 else c.toNat := by
  have := c.toNat_lt
  unfold small
  by_cases h : 65 ≤ c.toNat ∧ c.toNat ≤ 90
  · rw [if_pos (by simpa [UInt8.le_iff_toNat_le] using h), if_pos h]; simp; omega
  · rw [if_neg (by simpa [UInt8.le_iff_toNat_le] using h), if_neg h]
theorem getD_lt {l : By} {j : Nat} (h : j < l.length) : l.getD j 0 = l[j] := by simp [List.getD, h]
theorem fold_get {l : By} {j : Nat} (h : j < (fold l).length) : (fold l)[j] = small (l.getD j 0) := by
  rw [getD_lt (by simpa [fold] using h)]; simp [fold]
theorem take_succ_body {ls : List By} {i : Nat} (h : i < ls.length) : (body (ls.take (i + 1))).length = (body (ls.take i)).length + 1 + (ls[i]).length := by
  rw [List.take_succ_eq_append_getElem h, body_snoc_length]
theorem glue_split {ls : List By} {i : Nat} (h : i < ls.length) : glue ls = body (ls.take i) ++ (lab ls[i] ++ glue (ls.drop (i + 1))) := by
  have e : ls = ls.take i ++ (ls[i] :: ls.drop (i + 1)) := by rw [← List.drop_eq_getElem_cons h]; simp
  conv => lhs; rw [e]
  unfold glue
  rw [body_append, body_cons]; simp
theorem label_cut {ls : List By} {i : Nat} (h : i < ls.length) :
    ((glue ls).drop ((body (ls.take i)).length + 1)).take ((body (ls.take (i + 1))).length - ((body (ls.take i)).length + 1)) = ls[i] := by
  rw [take_succ_body h, glue_split h, ← List.drop_drop, List.drop_left]
  simp [lab]
theorem body_take_le {ls : List By} {i : Nat} : (body (ls.take i)).length ≤ (body ls).length := by
  conv => rhs; rw [← List.take_append_drop i ls, body_append]
  simp
theorem drop_cons {l : By} {k : Nat} (h : k < l.length) : l.drop k = l[k] :: l.drop (k + 1) := List.drop_eq_getElem_cons h


/-- what is so far, when a label is read: f is how far. -/
theorem sp_step {l pre : By} {c : UInt8} {t : By} {ps : List By} (hl : l = pre ++ c :: t) (hs : sp l = (sp (c :: t)).map (ps ++ ·)) (h0 : c.toNat ≠ 0) (h2 : c.toNat ≤ 63) (h3 : c.toNat ≤ t.length) :
    l = (pre ++ c :: t.take c.toNat) ++ t.drop c.toNat ∧ sp l = (sp (t.drop c.toNat)).map (ps ++ [t.take c.toNat] ++ ·) := by
  refine ⟨by rw [hl]; simp, ?_⟩
  rw [hs, sp_cons h0 h2 h3]
  rcases sp (t.drop c.toNat) with _ | x <;> simp
theorem lab_take {t : By} {c : UInt8} (h3 : c.toNat ≤ t.length) : lab (t.take c.toNat) = c :: t.take c.toNat := by
  unfold lab; rw [List.length_take, Nat.min_eq_left h3]; simp
theorem split_of_sp {l : By} (h : l.length ≤ 255) : split l = sp l := by unfold split; rw [if_neg (by omega)]; rfl
theorem split_long {l : By} (h : 255 < l.length) : split l = none := by unfold split; rw [if_pos h]

end Go.Proofs.YtopcklpmeaghmaaGreatDoor.Nm
