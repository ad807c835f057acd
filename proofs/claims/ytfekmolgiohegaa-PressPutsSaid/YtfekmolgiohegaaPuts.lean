/- A row of writings by both: the state, and what a step does with it. -/
import Derived.Test.YtfekmolgiohegaaZeros
import Derived.Laws.CopyOwn
namespace Go.Proofs.Ytfekmolgiohegaa
open Go.RowKit

/-- two rows that share no block. -/
def Apart (a b : Value) : Prop := ∀ g, a.ownBlock = some g → b.ownBlock ≠ some g
theorem Apart.symm {a b : Value} (h : Apart a b) : Apart b a := fun g hb ha => h g ha hb
theorem Apart.row {a b : Value} (h : Apart a b) : a.ownBlock = none ∨ a.ownBlock ≠ b.ownBlock := by
  rcases hb : a.ownBlock with _ | g
  · exact .inl rfl
  · exact .inr fun e => h g hb e.symm
theorem Apart.nil (a : Value) : Apart a (.slice none 0 0) := fun g _ e => by simp [Value.ownBlock] at e
theorem own_later {w w' : World} {b n m : Nat} {e e2 : TypeId} {v u : Value} {xs ys : List Value} (h : w.ownsRow b e 1 v n xs) (h2 : w'.ownsRow w.heap.size e2 1 u m ys) : Apart v u := fun g hg hu => by
  have h3 := (h.lt g hg).2
  have h4 := (h2.lt g hu).1
  omega

theorem has_ty {W : World} {g : Nat} {t t2 : TypeId} {cs ds : Array Value} (h : Has W g t cs) (k : Has W g t2 ds) : t = t2 := by
  have e := (show W.heap[g]? = _ from h).symm.trans (show W.heap[g]? = _ from k)
  injection e with e
  injection e
section
variable {base : Nat} {W W' : World}
theorem Rk.tb (h : Rk base W W') {g : Nat} {mp : Option Nat} {t : Tab} (hT : Tb W g base mp t) : Tb W' g base mp t := by
  obtain ⟨a, b, c, d, e⟩ := hT
  refine ⟨a, h.has b rfl, c, d, fun m hm => ⟨(e m hm).1, ?_⟩⟩
  obtain ⟨D, ⟨es, ck, hb, rest⟩, hh⟩ := (e m hm).2
  exact ⟨D, ⟨es, ck, h.same m _ hb rfl, rest⟩, hh⟩
theorem Rg.rt {g : Nat} (h : Rg g base W W') {cs : Array Value} (hT : Has W g 49 cs) {g2 : Nat} {t : Tab} (hR : RT W g2 base t) : RT W' g2 base t := by
  obtain ⟨vN, vP, h1, h2, h3⟩ := hR
  refine ⟨vN, vP, h.has h1 (fun e => ?_), h.own hT h2 (by decide), h.own hT h3 (by decide)⟩
  subst e
  exact absurd (has_ty hT h1) (by decide)
end

/-- both tables, and both rows of bytes. -/
def PuW (w : World) (T : Tab) (la lb : List UInt8) (va vb : Value) (W : World) : Prop :=
  (∃ mp, Tb W w.heap.size w.heap.size mp T) ∧ RT W (w.heap.size + 1) w.heap.size T ∧ W.ownsRow w.heap.size 5 1 va la.length (bv la) ∧ W.ownsRow w.heap.size 5 1 vb lb.length (bv lb) ∧ Apart va vb ∧ Below w.heap.size w W
section
variable {w W W' : World} {T : Tab} {la lb l : List UInt8} {va vb : Value}
theorem PuW.new (w : World) : PuW w [] [] [] (.slice none 0 0) (.slice none 0 0) ((w.alloc (.cells #[.map none] 49)).alloc (.cells #[.slice none 0 0, .slice none 0 0] 30)) := by
  have hb : Below w.heap.size w (w.alloc (.cells #[.map none] 49)) := (Below.refl _ _).alloc (Nat.le_refl _) _
  refine ⟨⟨none, (Tb.new w (Nat.le_refl _)).below ((Below.refl _ _).alloc (Nat.le_refl _) _)⟩, ⟨.slice none 0 0, .slice none 0 0, ?_, World.ownsRow_nil _ _ _ _, World.ownsRow_nil _ _ _ _⟩, World.ownsRow_nil _ _ _ _, World.ownsRow_nil _ _ _ _, Apart.nil _, hb.alloc (by simp) _⟩
  have := Has.fresh (w.alloc (.cells #[.map none] 49)) 30 #[.slice none 0 0, .slice none 0 0]
  rw [World.size_alloc] at this
  exact this
theorem PuW.low (h : PuW w T la lb va vb W) (hb : Below W.heap.size W W') : PuW w T la lb va vb W' := by
  obtain ⟨⟨mp, h1⟩, h2, h3, h4, h5, h6⟩ := h
  exact ⟨⟨mp, h1.below hb⟩, h2.below hb, own_below h3 hb (Nat.le_refl _), own_below h4 hb (Nat.le_refl _), h5, h6.trans (hb.mono h6.size)⟩
theorem bv_app_len (l : List UInt8) (k : Nat) : (l ++ List.replicate k 0).length = l.length + k := by simp
/-- zeros behind the first row. -/
theorem PuW.za (h : PuW w T la lb va vb W) {k : Nat} (h0 : 0 < k) (hk : la.length + k ≤ 140737488355328) (ty : TypeId) :
    ∃ v' W', (Builtin.append_ #[31, 3] ty #[va, .int .i64 k]).run Try.prog W = .ok v' W' ∧ PuW w T (la ++ List.replicate k 0) lb v' vb W' := by
  obtain ⟨i0, hi, hz0, hz1, hz2⟩ := info_parts Try.infoByte
  obtain ⟨⟨mp, h1⟩, h2, h3, h4, h5, h6⟩ := h
  obtain ⟨v', W', hr, hO, hG, hv⟩ := run_append_zeros (P := Try.prog) W w.heap.size 31 3 ty 5 i0 Try.underlying31 Try.underlying3 hi hz0 hz1 hz2 va la.length (bv la) h3 k h0 hk h6.size
  refine ⟨v', W', hr, ⟨mp, h1.still h3 (by decide) hG⟩, h2.still h3 hG, own_to hO (bv_app_len la k).symm (bv_append _ _).symm, h4.kept hG h5.symm.row, fun g hg hb => ?_, h6.grown hG h6.size (fun j hj => (h3.lt j hj).1)⟩
  rcases hv with e | e
  · exact h5 g (e ▸ hg) hb
  · have := (h4.lt g hb).2
    rw [hg] at e
    injection e with e
    omega
/-- zeros behind the second row. -/
theorem PuW.zb (h : PuW w T la lb va vb W) {k : Nat} (h0 : 0 < k) (hk : lb.length + k ≤ 140737488355328) (ty : TypeId) :
    ∃ v' W', (Builtin.append_ #[31, 3] ty #[vb, .int .i64 k]).run Try.prog W = .ok v' W' ∧ PuW w T la (lb ++ List.replicate k 0) va v' W' := by
  obtain ⟨i0, hi, hz0, hz1, hz2⟩ := info_parts Try.infoByte
  obtain ⟨⟨mp, h1⟩, h2, h3, h4, h5, h6⟩ := h
  obtain ⟨v', W', hr, hO, hG, hv⟩ := run_append_zeros (P := Try.prog) W w.heap.size 31 3 ty 5 i0 Try.underlying31 Try.underlying3 hi hz0 hz1 hz2 vb lb.length (bv lb) h4 k h0 hk h6.size
  refine ⟨v', W', hr, ⟨mp, h1.still h4 (by decide) hG⟩, h2.still h4 hG, h3.kept hG h5.row, own_to hO (bv_app_len lb k).symm (bv_append _ _).symm, fun g ha hg => ?_, h6.grown hG h6.size (fun j hj => (h4.lt j hj).1)⟩
  rcases hv with e | e
  · exact h5 g ha (e ▸ hg)
  · have := (h3.lt g ha).2
    rw [hg] at e
    injection e with e
    omega
end

/-- the room: bytes, and 300 zeros behind. -/
def Room (w : World) (g : Nat) (l : List UInt8) : Prop := Has w g 5 (bv l ++ List.replicate 300 (Value.int .u8 0)).toArray
theorem room_splice (l : List UInt8) (m : Nat) : splice (List.replicate (l.length + m) (Value.int .u8 0)) 0 (bv l) = bv l ++ List.replicate m (Value.int .u8 0) := by
  unfold splice
  simp [bv_length]
theorem room_of {w : World} {g : Nat} {l : List UInt8} (h : w.heap[g]? = some (.cells (splice (List.replicate (l.length + 300) (Value.int .u8 0)) 0 (bv l)).toArray 5 (0, 0))) : Room w g l := by
  rw [room_splice] at h
  exact h
theorem room_cell {w : World} {g k : Nat} {l : List UInt8} (h : Room w g l) (h1 : l.length ≤ k) (h2 : k < l.length + 300) : w.cell? ⟨g, k, none⟩ = some (.int .u8 0) := by
  have h' : Has w g 5 _ := h
  rw [h'.cell, List.getElem?_toArray, List.getElem?_append_right (by rw [bv_length]; exact h1), List.getElem?_replicate, if_pos (by rw [bv_length]; omega)]
theorem room_bs {w : World} {g : Nat} {l : List UInt8} (h : Room w g l) : Bs w 0 w.heap.size (some ⟨g, 0, none⟩) l := by
  have h' : Has w g 5 _ := h
  exact (Has.bs h' h'.lt (fun j hj => by rw [List.getElem?_toArray, List.getElem?_append_left (by rw [bv_length]; exact hj), bv_get l j hj])).more (Nat.zero_le _) (Nat.le_refl _)
theorem bs_own {w : World} {b n c : Nat} {e : TypeId} {A : Option Addr} {l : List UInt8} (h : w.ownsRow b e 1 (.slice A n c) n (bv l)) : Bs w 0 w.heap.size A l := (Bs.of_own h).more (Nat.zero_le _) (Nat.le_refl _)

/-- the program has written, the document not yet. -/
def PuM (w : World) (T T2 : Tab) (l X : List UInt8) (R : Nat) (va vb vx : Value) (W : World) : Prop :=
  (∃ mp, Tb W w.heap.size w.heap.size mp T2) ∧ RT W (w.heap.size + 1) w.heap.size T ∧ W.ownsRow w.heap.size 5 1 va l.length (bv l) ∧ W.ownsRow w.heap.size 5 1 vb l.length (bv l) ∧ Apart va vb ∧ Below w.heap.size w W ∧ Room W R l ∧ W.ownsRow w.heap.size 5 1 vx X.length (bv X)
/-- both have written, or neither. -/
def PuS (w : World) (T : Tab) (l : List UInt8) (R : Nat) (va vb vx vy : Value) (er : Int) (W : World) : Prop :=
  ∃ (T2 : Tab) (X : List UInt8), Room W R l ∧ W.ownsRow w.heap.size 5 1 va l.length (bv l) ∧ W.ownsRow w.heap.size 5 1 vx X.length (bv X) ∧ W.ownsRow w.heap.size 5 1 vy X.length (bv X) ∧
    ((er = 0 ∧ PuW w T2 X X vx vy W ∧ X.length ≤ l.length + 256 ∧ T2.length ≤ T.length + 255) ∨ (er = 11 ∧ PuW w T l l va vb W))
section
variable {w W W' : World} {T : Tab} {l : List UInt8} {va vb : Value} {R : Nat}
theorem pp_ok (plain : Bool) (h : PuW w T l l va vb W) (hR : Room W R l) (hl : l.length ≤ 400000) (hT : T.length ≤ 400000) {s : ByteArray} {ls : List (List UInt8)} (hs : Nm.split s.data.toList = some ls) :
    Calls Try.prog (if plain then 11 else 13) #[.pointer (some ⟨w.heap.size, 0, none⟩), .slice (some ⟨R, 0, none⟩) l.length (l.length + 300), .string s] W fun e W' =>
      ∃ A n c, e = .returned (.tuple #[.slice A n c, .int .i64 0]) ∧ PuM w T (Pr.pw plain T l.length ls).1 l (l ++ (Pr.pw plain T l.length ls).2) R va vb (.slice A n c) W' := by
  obtain ⟨⟨mp, h1⟩, h2, h3, h4, h5, h6⟩ := h
  have key : Calls Try.prog (if plain then 11 else 13) #[.pointer (some ⟨w.heap.size, 0, none⟩), .slice (some ⟨R, 0, none⟩) l.length (l.length + 300), .string s] W (PutDone plain w.heap.size w.heap.size T l ls W) := by
    cases plain with
    | true => exact plain_in w.heap.size w.heap.size mp T _ l _ s ls W h1 h6.size hs (by omega) (fun e => by cases e) (by omega) (room_bs hR) (by omega)
    | false => exact put_in w.heap.size w.heap.size mp T _ l _ s ls W h1 h6.size hs (by omega) (fun e => by cases e) (by omega) (room_bs hR) (by omega)
  refine key.mono fun e W' hd => ?_
  obtain ⟨v, mp2, rfl, d1, d2, d3⟩ := hd
  obtain ⟨A, c, rfl⟩ := own_form d1
  have hne : R ≠ w.heap.size := fun e => by
    subst e
    exact absurd (has_ty h1.2.1 hR) (by decide)
  exact ⟨A, _, c, rfl, ⟨mp2, d2⟩, d3.rt h1.2.1 h2, d3.own h1.2.1 h3 (by decide), d3.own h1.2.1 h4 (by decide), h5, h6.trans d3.below, d3.has hR hne, own_mono d1 h6.size⟩
theorem rr_ok (plain : Bool) {A B : Option Addr} {n c cb : Nat} {s : ByteArray} {ls : List (List UInt8)} (h : PuM w T (Pr.pw plain T l.length ls).1 l (l ++ (Pr.pw plain T l.length ls).2) R va (.slice B l.length cb) (.slice A n c) W) (hl : l.length ≤ 400000) (hT : T.length ≤ 400000) (hmax : ∀ x ∈ T, x.2 ≤ 16383) (hs : Nm.split s.data.toList = some ls) :
    Calls Try.prog 25 #[.pointer (some ⟨w.heap.size + 1, 0, none⟩), .slice B l.length cb, .string s, .bool plain] W fun e W' =>
      ∃ v, e = .returned (.tuple #[v, .int .i64 0]) ∧ PuS w T l R va (.slice B l.length cb) (.slice A n c) v 0 W' := by
  obtain ⟨⟨mp, h1⟩, h2, h3, h4, h5, h6, h7, h8⟩ := h
  obtain ⟨hgl, hgd, h255⟩ := Nm.split_some.1 hs
  refine (rput_in (w.heap.size + 1) w.heap.size T B l cb s plain ls W h2 (by omega) h6.size hmax hs (own_nil0 h4) (by omega) (bs_own h4) (by omega)).mono fun e W' hd => ?_
  obtain ⟨v, rfl, d1, d2, d3⟩ := hd
  have p1 := Pr.pw_len plain ls T l.length
  have p2 := Pr.pw_tab plain ls T l.length
  have hfew := few hs
  have p3 := p1.2.2.1 hgd
  have hX : (l ++ (Pr.pw plain T l.length ls).2).length ≤ l.length + 256 := by rw [List.length_append]; rw [hgl] at h255; omega
  refine ⟨v, rfl, _, _, d3.has h7 rfl, d3.own h3 rfl, d3.own h8 rfl, own_mono d1 h6.size, .inl ⟨rfl, ⟨⟨mp, d3.tb h1⟩, d2, d3.own h8 rfl, own_mono d1 h6.size, own_later h8 d1, h6.trans d3.below⟩, hX, by omega⟩⟩
theorem pp_no (plain : Bool) (h : PuW w T l l va vb W) (hR : Room W R l) {s : ByteArray} (hsz : s.size ≤ 140737488355328) (hs : Nm.split s.data.toList = none) :
    Calls Try.prog (if plain then 11 else 13) #[.pointer (some ⟨w.heap.size, 0, none⟩), .slice (some ⟨R, 0, none⟩) l.length (l.length + 300), .string s] W fun e W' =>
      e = .returned (.tuple #[.slice none 0 0, .int .i64 11]) ∧ PuW w T l l va vb W' ∧ Room W' R l := by
  have h' : Has W R 5 _ := hR
  cases plain with
  | true => exact (plain_no _ _ _ _ s W hsz hs).mono fun e W' ⟨he, hb⟩ => ⟨he, h.low hb, h'.below hb h'.lt⟩
  | false => exact (put_no _ _ _ _ s W hsz hs).mono fun e W' ⟨he, hb⟩ => ⟨he, h.low hb, h'.below hb h'.lt⟩
theorem rr_no (plain : Bool) (h : PuW w T l l va vb W) (hR : Room W R l) {s : ByteArray} (hsz : s.size ≤ 140737488355328) (hs : Nm.split s.data.toList = none) {B : Option Addr} {n c : Nat} :
    Calls Try.prog 25 #[.pointer (some ⟨w.heap.size + 1, 0, none⟩), .slice B n c, .string s, .bool plain] W fun e W' =>
      ∃ v, e = .returned (.tuple #[v, .int .i64 11]) ∧ v = .slice none 0 0 ∧ PuS w T l R va vb (.slice none 0 0) v 11 W' := by
  have h' : Has W R 5 _ := hR
  refine (rput_no _ _ _ _ s plain W hsz hs).mono fun e W' ⟨he, hb⟩ => ⟨_, he, rfl, [], [], h'.below hb h'.lt, ?_, World.ownsRow_nil _ _ _ _, World.ownsRow_nil _ _ _ _, .inr ⟨rfl, h.low hb⟩⟩
  exact (h.low hb).2.2.1
end
/-- the document's two doors. -/
theorem rPlain_of {p v s : Value} {w : World} {z : Int} {K : Value → World → Prop} (h : Calls Try.prog 25 #[p, v, s, .bool true] w fun e w' => ∃ x, e = .returned (.tuple #[x, .int .i64 z]) ∧ K x w') :
    Calls Try.prog 12 #[p, v, s] w fun e w' => ∃ x, e = .returned (.tuple #[x, .int .i64 z]) ∧ K x w' := by
  have HP := Lib.hid h
  clear h
  go_enter Try.func12, Try.ntmps12
  go_wp2_with (go_at_call 25; refine HP.out.mono ?_; rintro e w1 ⟨x, rfl, hk⟩)
  go_ret2
  exact ⟨x, rfl, hk⟩
theorem rPut_of {p v s : Value} {w : World} {z : Int} {K : Value → World → Prop} (h : Calls Try.prog 25 #[p, v, s, .bool false] w fun e w' => ∃ x, e = .returned (.tuple #[x, .int .i64 z]) ∧ K x w') :
    Calls Try.prog 14 #[p, v, s] w fun e w' => ∃ x, e = .returned (.tuple #[x, .int .i64 z]) ∧ K x w' := by
  have HP := Lib.hid h
  clear h
  go_enter Try.func14, Try.ntmps14
  go_wp2_with (go_at_call 25; refine HP.out.mono ?_; rintro e w1 ⟨x, rfl, hk⟩)
  go_ret2
  exact ⟨x, rfl, hk⟩
/-- nothing but zeros. -/
theorem bare_any (g o k c : Nat) (w : World) (hc : k ≤ c) (hk : k ≤ 1000) (h : ∀ j, j < k → w.cell? ⟨g, o + j, none⟩ = some (.int .u8 0)) :
    Calls Try.prog 15 #[.slice (some ⟨g, o, none⟩) k c] w fun e w' => e = .returned (.bool true) ∧ w = w' := by
  have HC := Lib.hid h
  clear h
  go_enter Try.func15, Try.ntmps15
  go_wp2
  go_loop [3] (fun i => ∃ j : Nat, i = .int .i64 j ∧ j ≤ k) (fun i => k - (intOf i).toNat)
  case atStart => exact ⟨0, rfl, Nat.zero_le _⟩
  case round =>
    obtain ⟨j, rfl, hj⟩ := hrel
    by_cases hlt : j < k
    · have hcell := HC.out j hlt
      go_wp2
      go_round
      case rel => exact ⟨j + 1, by go_num, by omega⟩
      case measure => simp [intOf]; omega
    · obtain rfl : j = k := by omega
      go_wp2
      go_ret
      exact ⟨rfl, rfl⟩
end Go.Proofs.Ytfekmolgiohegaa
