/- Texts of the proofs, merged. -/
import Derived.Test.YtgcaephfhfkjcaaGreatDoorZh16
import Derived.Test.YtgcaephfhfkjcaaGreatDoorZh10
import Derived.Test.YtgcaephfhfkjcaaGreatDoorZh14
import Derived.Deep.RegionWith
import Derived.Deep.CutRange
import Derived.Test.YtgcaephfhfkjcaaGreatDoorZh5
import Derived.Test.YtgcaephfhfkjcaaGreatDoorZh6
import Derived.Deep.DeepAppendWide
import Derived.Lib.AppendZeros
import Derived.Laws.CopyOwn
import Derived.Test.YtgcaephfhfkjcaaGreatDoorZh15
import Derived.Test.YtgcaephfhfkjcaaGreatDoorZh8
import Derived.Maps.AppendAt
import Derived.Deep.RegionHeld3
import Derived.BigQuiet
namespace Go.Proofs.YtgcaephfhfkjcaaGreatDoor
open Go.RowKit

set_option maxHeartbeats 1000000 in
theorem row_arg (g B c lo : Nat) (A : Option Addr) (l X : List UInt8) (ld : Bool) (tw z : Int) (W : World) (h : RS W g B A l.length c X ld tw) (hc : l.length ≤ c) (hm : l.length ≤ 211106232532992) (hb : Bs W lo B A l)
    (hz : z < 0 ∨ (l.length : Int) < z) :
    Calls Tryz.prog 190 #[.pointer (some ⟨g, 0, none⟩), .int .i64 z] W fun e W' => e = .returned (.tuple #[.int .i64 0, .int .i64 1]) ∧ W = W' := by
  obtain ⟨hB, vL, h1, h2⟩ := h
  have c0 : W.cell? ⟨g, 0, none⟩ = some (.slice A l.length c) := by rw [h1.cell]; rfl
  have hT := take_u8 A l c z W hc hm lo B hb
  rw [takeV_arg hz] at hT
  have HT := Lib.hid hT
  clear h1 h2 hT hb hz
  go_enter Tryz.func190, Tryz.ntmps190
  go_wp2
  refine wp_loop_rounds 1 ?_
  rw [rounds_succ]
  go_wp2_with (go_at_call 150; refine HT.out.mono ?_; rintro e w' ⟨rfl, rfl⟩)
  go_ret2
  exact ⟨rfl, rfl⟩

/-- how far a reading has tw go yet. -/
def rdM (g : Nat) (e : Value) (w : World) : Nat :=
  if intOf e = 0 then match w.cell? ⟨g, 2, none⟩, w.cell? ⟨g, 3, none⟩ with
    | some (.bool true), some (.int _ p) => p.toNat + 1
    | _, _ => 0
  else 0
theorem rdM_err {g : Nat} {er : Int} {w : World} (h : (er == 0) = false) : rdM g (.int .i64 er) w = 0 := by
  unfold rdM; rw [if_neg (by simpa [intOf] using h)]
theorem rdM_rs {g B : Nat} {A : Option Addr} {n c : Nat} {X : List UInt8} {ld : Bool} {p : Nat} {w : World} (h : RS w g B A n c X ld p) : rdM g (.int .i64 0) w = if ld then p + 1 else 0 := by
  obtain ⟨_, vL, h1, _⟩ := h
  have c2 : w.cell? ⟨g, 2, none⟩ = some (.bool ld) := by rw [h1.cell]; rfl
  have c3 : w.cell? ⟨g, 3, none⟩ = some (.int .i64 p) := by rw [h1.cell]; rfl
  unfold rdM
  rw [c2, c3]
  cases ld <;> simp [intOf]

/-- between two rows. -/
def TkI (l : List UInt8) (g B c n : Nat) (A : Option Addr) (bh : Nat) (er : Int) (wr : World) : Prop :=
  ((er == 0) = false ∧ Pr.tk l n n 1 = .err er) ∨
  (er = 0 ∧ ∃ ls tw, RS wr g B A l.length c (Nm.body ls) false tw ∧ (Nm.body ls).length ≤ 254 ∧ Pr.tk l n n 1 = .ok ls bh) ∨
  (er = 0 ∧ ∃ ls p, RS wr g B A l.length c (Nm.body ls) true (p : Nat) ∧ p ≤ l.length ∧ (Nm.body ls).length ≤ 254 ∧ Pr.tk l n n 1 = Pr.fin ls (some bh) (Pr.tk l p p (1 + (Nm.body ls).length)))
theorem rdM_any {g : Nat} {er : Int} {w : World} {p : Nat} (h : (er == 0) = false) : rdM g (.int .i64 er) w < p + 1 := by rw [rdM_err h]; omega

theorem row_first (g B c lo n : Nat) (A : Option Addr) (l : List UInt8) (ld : Bool) (tw : Int) (W : World) (h : RS W g B A l.length c [] ld tw) (hc : l.length ≤ c) (hm : l.length ≤ 211106232532992) (hb : Bs W lo B A l) (hBW : B ≤ W.heap.size) (hn : n ≤ l.length) :
    Calls Tryz.prog 190 #[.pointer (some ⟨g, 0, none⟩), .int .i64 n] W fun e W' => ∃ (bh : Nat) (er : Int), e = .returned (.tuple #[.int .i64 bh, .int .i64 er]) ∧ TkI l g B c n A bh er W' ∧ Below B W W' := by
  refine (row_in g B n c lo A l [] ld tw W h hc hm hb hBW hn (by simp)).mono ?_
  rintro e W' ⟨hb', (⟨er, h1, rfl, h2⟩ | ⟨ls, bh, tw', rfl, h1, h2, h3⟩ | ⟨ls, bh, p, rfl, h1, h2, h3, h4⟩)⟩
  · have := h2 [] none
    rw [Pr.fin_nil] at this
    exact ⟨0, er, rfl, .inl ⟨h1, this⟩, hb'⟩
  · have := h3 [] none
    rw [Pr.fin_nil] at this
    exact ⟨bh, 0, rfl, .inr (.inl ⟨rfl, ls, tw', h1, h2, this⟩), hb'⟩
  · have := h4 [] none
    rw [Pr.fin_nil] at this
    exact ⟨bh, 0, rfl, .inr (.inr ⟨rfl, ls, p, h1, by omega, h3, this⟩), hb'⟩
theorem row_next (g B c lo n bh p : Nat) (A : Option Addr) (l : List UInt8) (ls : List (List UInt8)) (W : World) (h : RS W g B A l.length c (Nm.body ls) true (p : Nat)) (hc : l.length ≤ c) (hm : l.length ≤ 211106232532992) (hb : Bs W lo B A l) (hBW : B ≤ W.heap.size) (hp : p ≤ l.length)
    (hX : (Nm.body ls).length ≤ 254) (ht : Pr.tk l n n 1 = Pr.fin ls (some bh) (Pr.tk l p p (1 + (Nm.body ls).length))) :
    Calls Tryz.prog 190 #[.pointer (some ⟨g, 0, none⟩), .int .i64 p] W fun e W' => ∃ (bh2 : Nat) (er : Int), e = .returned (.tuple #[.int .i64 bh2, .int .i64 er]) ∧ TkI l g B c n A bh er W' ∧ Below B W W' ∧ rdM g (.int .i64 er) W' < p + 1 := by
  refine (row_in g B p c lo A l (Nm.body ls) true p W h hc hm hb hBW hp hX).mono ?_
  rintro e W' ⟨hb', (⟨er, h1, rfl, h2⟩ | ⟨ls2, bh2, tw', rfl, h1, h2, h3⟩ | ⟨ls2, bh2, p2, rfl, h1, h2, h3, h4⟩)⟩
  · have := h2 ls (some bh)
    rw [← ht] at this
    exact ⟨0, er, rfl, .inl ⟨h1, this⟩, hb', rdM_any h1⟩
  · have := h3 ls (some bh)
    rw [← ht] at this
    rw [← Nm.body_append] at h1 h2
    refine ⟨bh2, 0, rfl, .inr (.inl ⟨rfl, ls ++ ls2, tw', h1, h2, this⟩), hb', ?_⟩
    obtain ⟨_, vL, k1, _⟩ := h1
    have c2 : W'.cell? ⟨g, 2, none⟩ = some (.bool false) := by rw [k1.cell]; rfl
    unfold rdM
    rw [c2]
    simp [intOf]
  · have := h4 ls (some bh)
    rw [← ht] at this
    rw [← Nm.body_append] at h1 h3 this
    refine ⟨bh2, 0, rfl, .inr (.inr ⟨rfl, ls ++ ls2, p2, h1, by omega, h3, this⟩), hb', ?_⟩
    rw [rdM_rs h1]
    simp; omega

set_option maxHeartbeats 2000000 in
set_option maxRecDepth 100000 in
theorem prTake_in (A : Option Addr) (l : List UInt8) (c n : Nat) (w : World) (hc : l.length ≤ c) (hm : l.length ≤ 211106232532992) (lo : Nat) (hr : Bs w lo w.heap.size A l) (hn : n ≤ l.length) :
    Calls Tryz.prog 184 #[.slice A l.length c, .int .i64 n] w fun e w' => e = .returned (trV (Pr.tk l n n 1)) ∧ Below w.heap.size w w' := by
  have HR := Lib.hid hr
  have hrs : RS (w.alloc (.cells #[.slice A l.length c, .slice none 0 0, .bool false, .int .i64 0] 247)) w.heap.size w.heap.size A l.length c [] false 0 :=
    ⟨Nat.le_refl _, .slice none 0 0, Has.fresh w _ _, World.ownsRow_nil _ _ _ _⟩
  have HF := Lib.hid (row_first w.heap.size w.heap.size c lo n A l false 0 _ hrs hc hm (hr.alloc (Nat.le_refl _) _) (by simp) hn)
  clear hr hrs
  go_enter Tryz.func184, Tryz.ntmps184
  go_wp2_with (go_at_call 190; refine HF.out.mono ?_; rintro e w3 ⟨bh, er, rfl, hI3, hb3⟩)
  have hb03 : Below w.heap.size w w3 := ((Below.refl _ w).alloc (Nat.le_refl _) _).trans hb3
  have HI3 := Lib.hid hI3
  have HB3 := Lib.hid hb03
  clear hI3 hb3 hb03 HF
  go_loopw [9] (fun s9 wr => ∃ er, s9 = .int .i64 er ∧ Hid (TkI l w.heap.size w.heap.size c n A bh er wr) ∧ Below w.heap.size w wr) (fun s9 wr => rdM w.heap.size s9 wr)
  case atStart => exact ⟨er, rfl, HI3.out, HB3.out⟩
  case round =>
    obtain ⟨er, rfl, HI, hbw⟩ := hrel
    have HW := Lib.hid hbw
    have hbs := hbw.size
    clear hbw
    rcases HI.out with ⟨h1, h2⟩ | ⟨rfl, ls, tw, h1, h2, h3⟩ | ⟨rfl, ls, p, h1, h2, h3, h4⟩
    · have hne : (er != 0) = true := by simp [bne, h1]
      have H2 := Lib.hid h2
      clear h2 HI HI3 HB3
      go_wp2
      go_ret3
      exact ⟨by rw [H2.out]; rfl, HW.out⟩
    · obtain ⟨hgB, vL, k1, k2⟩ := h1
      obtain ⟨aL, cL, rfl⟩ := own_form k2
      have c1 : wr.cell? ⟨w.heap.size, 1, none⟩ = some (.slice aL (Nm.body ls).length cL) := by rw [k1.cell]; rfl
      have c2 : wr.cell? ⟨w.heap.size, 2, none⟩ = some (.bool false) := by rw [k1.cell]; rfl
      have hcv := run_convert_own wr 56 22 5 Tryz.underlying56 Tryz.underlying5 Tryz.underlying22 w.heap.size (Nm.body ls).length _ (Nm.body ls) k2
      have H3 := Lib.hid h3
      clear k1 k2 h3 HI HI3 HB3
      go_wp2
      go_ret3
      refine ⟨?_, HW.out⟩
      rw [H3.out]
      show Ending.returned (.tuple #[.string (⟨(Nm.body ls).toArray⟩ ++ ⟨#[0]⟩), .int .i64 bh, .int .i64 0]) = _
      rw [string_eq (s := ⟨(Nm.body ls).toArray⟩ ++ ⟨#[0]⟩) (l := Nm.glue ls) (by rw [Nm.glue, ByteArray.data_append]; simp)]
      rfl
    · have hmes := rdM_rs h1
      have HN := Lib.hid (row_next w.heap.size w.heap.size c lo n bh p A l ls wr h1 hc hm (HR.out.keep HW.out) hbs h2 h3 h4)
      obtain ⟨hgB, vL, k1, k2⟩ := h1
      have c2 : wr.cell? ⟨w.heap.size, 2, none⟩ = some (.bool true) := by rw [k1.cell]; rfl
      have c3 : wr.cell? ⟨w.heap.size, 3, none⟩ = some (.int .i64 p) := by rw [k1.cell]; rfl
      have HM := Lib.hid hmes
      clear k1 k2 h4 HI HI3 HB3 hmes
      go_wp2_with (go_at_call 190; refine HN.out.mono ?_; rintro e w5 ⟨bh2, er2, rfl, hI5, hb5, hm5⟩)
      go_roundw
      case rel => exact ⟨er2, rfl, hI5, HW.out.trans hb5⟩
      case measure => rw [HM.out]; exact hm5
theorem prTake_any (A : Option Addr) (l : List UInt8) (c : Nat) (z : Int) (w : World) (hc : l.length ≤ c) (hm : l.length ≤ 211106232532992) (lo : Nat) (hr : Bs w lo w.heap.size A l) :
    Calls Tryz.prog 184 #[.slice A l.length c, .int .i64 z] w fun e w' => e = .returned (prTakeV l z) ∧ Below w.heap.size w w' := by
  unfold prTakeV
  by_cases h0 : z < 0 ∨ (l.length : Int) < z
  · rw [if_pos h0]
    have HA := Lib.hid (row_arg w.heap.size w.heap.size c lo A l [] false 0 z (w.alloc (.cells #[.slice A l.length c, .slice none 0 0, .bool false, .int .i64 0] 247)) ⟨Nat.le_refl _, .slice none 0 0, Has.fresh w _ _, World.ownsRow_nil _ _ _ _⟩ hc hm (hr.alloc (Nat.le_refl _) _) h0)
    clear hr h0
    go_enter Tryz.func184, Tryz.ntmps184
    go_wp2_with (go_at_call 190; refine HA.out.mono ?_; rintro e w3 ⟨rfl, rfl⟩)
    refine wp_loop_rounds 1 ?_
    rw [rounds_succ]
    go_wp2
    go_ret3
    exact ⟨rfl, (Below.refl _ w).alloc (Nat.le_refl _) _⟩
  · rw [if_neg h0]
    obtain ⟨n, rfl⟩ : ∃ n : Nat, z = n := ⟨z.toNat, by omega⟩
    exact prTake_in A l c n w hc hm lo hr (by omega)
end Go.Proofs.YtgcaephfhfkjcaaGreatDoor
namespace Go.Proofs.YtgcaephfhfkjcaaGreatDoor
open Go.RowKit

def ab : List (List UInt8) := [[97], [98]]
def cb : List (List UInt8) := [[99], [98]]
end Go.Proofs.YtgcaephfhfkjcaaGreatDoor
namespace Go.Proofs.YtgcaephfhfkjcaaGreatDoor
open Go.RowKit

def d0 : Dv := ⟨⟨#[]⟩, ⟨#[1, 97, 0]⟩, ⟨#[]⟩, 10, 0, 0, 0, 0⟩
end Go.Proofs.YtgcaephfhfkjcaaGreatDoor
namespace Go.Proofs.YtgcaephfhfkjcaaGreatDoor
open Go.RowKit

theorem get_snoc {α : Type} (l : List α) (x : α) : (l ++ [x])[l.length]? = some x := by simp
theorem get_front {α : Type} {l : List α} {j : Nat} {p : α} (h : l[j]? = some p) (r : List α) : (l ++ r)[j]? = some p := by
  rw [List.getElem?_append_left (List.getElem?_eq_some_iff.1 h).1]; exact h
/-- names that stand one behind the other: each is read at its place. -/
def Chain (b : List UInt8) (ps : List Nat) (ns : List (List UInt8)) : Prop :=
  ps.length = ns.length + 1 ∧ ∀ j (h : j < ns.length), ∃ ls p q, ns[j] = Nm.glue ls ∧ (Nm.glue ls).length ≤ 255 ∧ ps[j]? = some p ∧ ps[j + 1]? = some q ∧ p ≤ b.length ∧ q ≤ b.length ∧ Pr.Rdb b p ls p q
theorem Chain.nil : Chain [] [0] [] := ⟨rfl, fun j h => absurd h (by simp)⟩
theorem Chain.step {b R : List UInt8} {ats : List Nat} {ns : List (List UInt8)} (h : Chain b (ats ++ [b.length]) ns) {ls : List (List UInt8)} (h255 : (Nm.glue ls).length ≤ 255)
    (hr : Pr.Rdb (b ++ R) b.length ls b.length (b ++ R).length) :
    Chain (b ++ R) ((ats ++ [b.length]) ++ [(b ++ R).length]) (ns ++ [Nm.glue ls]) := by
  obtain ⟨h1, h2⟩ := h
  have hb : b.length ≤ (b ++ R).length := by rw [List.length_append]; omega
  have hl : ats.length = ns.length := by simp at h1; exact h1
  refine ⟨by rw [List.length_append, h1]; simp, fun j hj => ?_⟩
  rw [List.length_append] at hj
  by_cases hlt : j < ns.length
  · obtain ⟨ks, p, q, e1, e2, e3, e4, e5, e6, e7⟩ := h2 j hlt
    exact ⟨ks, p, q, by rw [List.getElem_append_left hlt]; exact e1, e2, get_front e3 _, get_front e4 _, by omega, by omega, e7.more R⟩
  · obtain rfl : j = ns.length := by simp at hj; omega
    refine ⟨ls, b.length, (b ++ R).length, by simp, h255, ?_, ?_, hb, Nat.le_refl _, hr⟩
    · rw [← hl]; exact get_front (get_snoc ats b.length) _
    · have := get_snoc (ats ++ [b.length]) (b ++ R).length
      have e : (ats ++ [b.length]).length = ns.length + 1 := h1
      rw [e] at this
      exact this
theorem Chain.take {b : List UInt8} {ps : List Nat} {ns : List (List UInt8)} (h : Chain b ps ns) {j : Nat} (hj : j < ns.length) (rest : List UInt8) :
    ∃ p q, ps[j]? = some p ∧ ps[j + 1]? = some q ∧ p ≤ b.length ∧ q ≤ b.length ∧ prTakeV (b ++ rest) (p : Nat) = .tuple #[sv (ns[j]'hj), .int .i64 (q : Nat), .int .i64 0] := by
  obtain ⟨ls, p, q, e1, e2, e3, e4, e5, e6, e7⟩ := h.2 j hj
  refine ⟨p, q, e3, e4, e5, e6, ?_⟩
  unfold prTakeV
  rw [if_neg (by rw [List.length_append]; omega), show ((p : Int)).toNat = p from rfl, e7 rest p 1 (Nat.le_refl _) (by rw [Pr.tot_glue] at e2; omega), e1]
  rfl

/-- what is known of what was written, apart from memory. -/
def BkP (T : Tab) (b : List UInt8) (ats : List Nat) (ns : List (List UInt8)) (i : Nat) : Prop :=
  Pr.Snd b T ∧ Chain b (ats ++ [b.length]) ns ∧ b.length ≤ 255 * i ∧ T.length ≤ 255 * i ∧ ns.length ≤ i ∧ ats.length = ns.length
theorem BkP.nil : BkP [] [] [] [] 0 := ⟨Pr.Snd.nil _, Chain.nil, by simp, by simp, by simp, rfl⟩
theorem BkP.skip {T : Tab} {b : List UInt8} {ats : List Nat} {ns : List (List UInt8)} {i : Nat} (h : BkP T b ats ns i) : BkP T b ats ns (i + 1) := by
  obtain ⟨h1, h2, h3, h4, h5, h6⟩ := h
  exact ⟨h1, h2, by omega, by omega, by omega, h6⟩
theorem BkP.step {T : Tab} {b : List UInt8} {ats : List Nat} {ns : List (List UInt8)} {i : Nat} (h : BkP T b ats ns i) (plain : Bool) {s : ByteArray} {ls : List (List UInt8)} (hs : Nm.split s.data.toList = some ls) :
    BkP (Pr.pw plain T b.length ls).1 (b ++ (Pr.pw plain T b.length ls).2) (ats ++ [b.length]) (ns ++ [s.data.toList]) (i + 1) ∧
    b.length < (b ++ (Pr.pw plain T b.length ls).2).length ∧ (b ++ (Pr.pw plain T b.length ls).2).length ≤ b.length + s.size ∧ (plain = true → (b ++ (Pr.pw plain T b.length ls).2).length = b.length + s.size) := by
  obtain ⟨h1, h2, h3, h4, h5, h6⟩ := h
  obtain ⟨hgl, hgd, h255⟩ := Nm.split_some.1 hs
  have hsz : s.size = (Nm.glue ls).length := by rw [← hgl]; simp
  rw [hgl] at h255
  obtain ⟨r1, r2⟩ := Pr.pw_sound (ls := ls) (t := T) (b := b) plain hgd h255 h1
  obtain ⟨p1, _, p3, p4⟩ := Pr.pw_len plain ls T b.length
  have p5 := p3 hgd
  have p6 := Pr.pw_tab plain ls T b.length
  have hfew := few hs
  have hst := h2.step (R := (Pr.pw plain T b.length ls).2) h255 r1
  rw [← hgl] at hst
  have hlen : (b ++ (Pr.pw plain T b.length ls).2).length = b.length + (Pr.pw plain T b.length ls).2.length := List.length_append
  refine ⟨⟨r2, hst, by omega, by omega, by simp; omega, by simp; omega⟩, by omega, by omega, fun hp => ?_⟩
  have := p4 hp
  rw [this] at hlen
  rw [this, hsz, hlen]

section
variable {w W W' : World}
theorem Rg.own {g base : Nat} (h : Rg g base W W') {t e : TypeId} {cs : Array Value} (hT : Has W g t cs) {b n : Nat} {v : Value} {xs : List Value} (hk : W.ownsRow b e 1 v n xs) (hte : t ≠ e) : W'.ownsRow b e 1 v n xs := by
  have hne := has_not_own hT hk hte
  refine ⟨hk.1, ?_⟩
  rcases hk.2 with h0 | ⟨g2, cap, cur, rfl, hb, hg, rest⟩
  · exact .inl h0
  · exact .inr ⟨g2, cap, cur, rfl, hb, h.same g2 _ (fun e2 => hne (by rw [e2]; rfl)) hg rfl, rest⟩
variable {T : Tab} {b : List UInt8} {ats : List Nat} {ns : List (List UInt8)} {vb vat vn : Value}
end
/-- all bytes, all places and all names. -/
def Bk2 (w : World) (L : List UInt8) (ps : List Nat) (ns : List (List UInt8)) (vL vT vN : Value) (W : World) : Prop :=
  W.ownsRow w.heap.size 5 1 vL L.length (bv L) ∧ W.ownsRow w.heap.size 3 1 vT ps.length (ints ps) ∧ W.ownsRow w.heap.size 22 1 vN ns.length (svs ns) ∧ Below w.heap.size w W
theorem Bk2.low {w W W' : World} {L : List UInt8} {ps : List Nat} {ns : List (List UInt8)} {vL vT vN : Value} (h : Bk2 w L ps ns vL vT vN W) (hb : Below W.heap.size W W') : Bk2 w L ps ns vL vT vN W' :=
  ⟨own_below h.1 hb (Nat.le_refl _), own_below h.2.1 hb (Nat.le_refl _), own_below h.2.2.1 hb (Nat.le_refl _), h.2.2.2.trans (hb.mono h.2.2.2.size)⟩
end Go.Proofs.YtgcaephfhfkjcaaGreatDoor
namespace Go.Proofs.YtgcaephfhfkjcaaGreatDoor
open Go.RowKit

/-- two rows that share no block. -/
def Apart (a b : Value) : Prop := ∀ g, a.ownBlock = some g → b.ownBlock ≠ some g
theorem Apart.symm {a b : Value} (h : Apart a b) : Apart b a := fun g hb ha => h g ha hb
theorem Apart.row {a b : Value} (h : Apart a b) : a.ownBlock = none ∨ a.ownBlock ≠ b.ownBlock := by
  rcases hb : a.ownBlock with _ | g
  · exact .inl rfl
  · exact .inr fun e => h g hb e.symm
theorem Apart.nil (a : Value) : Apart a (.slice none 0 0) := fun g _ e => by simp [Value.ownBlock] at e
section
variable {base : Nat} {W W' : World}
end

section
variable {w W W' : World} {T : Tab} {la lb l : List UInt8} {va vb : Value}
end

section
variable {w W W' : World} {T : Tab} {l : List UInt8} {va vb : Value} {R : Nat}
end
end Go.Proofs.YtgcaephfhfkjcaaGreatDoor
namespace Go.Proofs.YtgcaephfhfkjcaaGreatDoor
open Go.RowKit

/-- what the parts of data that are as they should be come to. -/
theorem fitAll_at {d : Rd.Dt} {l : List Nat} {k : Nat} (h : Rd.fitAll d l 0 = true) (hk : k < l.length) : Rd.fit (l[k]) d (Rd.nums (l.take k)) = true := by
  have h1 : Rd.fitAll d (l.take (k + 1)) 0 = true := by
    cases hc : Rd.fitAll d (l.take (k + 1)) 0 with
    | true => rfl
    | false =>
      rw [Rd.fitAll_no hc] at h
      cases h
  rw [List.take_succ_eq_append_getElem hk, Rd.fitAll_snoc, Nat.zero_add, Bool.and_eq_true] at h1
  exact h1.2
theorem nm_split {l : List UInt8} (h : Rd.nm l = true) : ∃ ls, Nm.split l = some ls := Option.isSome_iff_exists.1 h
/-- the labels of a text, or none. -/
def lbs (s : ByteArray) : List (List UInt8) := (Nm.split s.data.toList).getD []
theorem lbs_of {s : ByteArray} (h : Rd.nm s.data.toList = true) : Nm.split s.data.toList = some (lbs s) := by
  obtain ⟨ls, e⟩ := nm_split h
  unfold lbs
  rw [e]
  rfl
end Go.Proofs.YtgcaephfhfkjcaaGreatDoor
namespace Go.Proofs.YtgcaephfhfkjcaaGreatDoor
open Go.RowKit

theorem RowO.kept {W W' : World} {b : Nat} {v u : Value} {l : List UInt8} (h : RowO W b v l) (hG : W.grownBy W' u.ownBlock) (ha : Apart v u) : RowO W' b v l := by
  rcases h with h | ⟨g, cp, rfl, h⟩
  · exact .inl (h.kept hG ha.row)
  · exact .inr ⟨g, cp, rfl, h.kept hG (show (Value.slice (some ⟨g, 0, none⟩) l.length cp).ownBlock = none ∨ (Value.slice (some ⟨g, 0, none⟩) l.length cp).ownBlock ≠ u.ownBlock from Apart.row (a := .slice (some ⟨g, 0, none⟩) l.length l.length) ha)⟩
theorem RowO.lt {W : World} {b : Nat} {v : Value} {l : List UInt8} (h : RowO W b v l) : ∀ g, v.ownBlock = some g → b ≤ g ∧ g < W.heap.size := by
  rcases h with h | ⟨g, cp, rfl, h⟩
  · exact fun g hg => h.lt g hg
  · exact fun j hj => h.lt j hj
section
variable {w W W' : World} {T : Tab} {la lb l : List UInt8} {va vb : Value}
end
section
variable {w W W' : World} {T : Tab} {l : List UInt8} {va vb : Value} {R t : Nat} {d : Dv}
/-- data that a writing may be handed. -/
def PdD (t : Nat) (d : Dv) : Prop := t ≤ 65535 ∧ d.fits ∧ d.raw.size ≤ 8796093022208 ∧ d.host.size ≤ 140737488355328 ∧ d.mail.size ≤ 140737488355328
end
end Go.Proofs.YtgcaephfhfkjcaaGreatDoor
namespace Go.Proofs.YtgcaephfhfkjcaaGreatDoor
open Go.RowKit

theorem rd_cond {t : Nat} {d : Dv} (hok : Rd.ok t d.dt = true) (hf : d.fits) : ∀ j (h : j < (Rd.parts t).length), Rd.Cond d.dt (lbs d.host) (lbs d.mail) (Rd.nums ((Rd.parts t).take j)) ((Rd.parts t)[j]'h) := by
  intro j hj
  have hfa : Rd.fitAll d.dt (Rd.parts t) 0 = true := by
    rw [Rd.ok_parts, Bool.and_eq_true] at hok
    exact hok.1
  have hx := fitAll_at hfa hj
  have hn5 : Rd.nums ((Rd.parts t).take (j + 1)) ≤ 5 := Rd.nums_le
  rw [List.take_succ_eq_append_getElem hj, Rd.nums_snoc] at hn5
  have hnum : (Rd.parts t)[j] = 8 ∨ (Rd.parts t)[j] = 9 → Rd.hasN d.dt (Rd.nums ((Rd.parts t).take j)) ≤ 4294967295 := fun h => by
    rw [if_pos h] at hn5
    rw [rd_hasN2 d (by omega)]
    exact hf _
  refine ⟨fun h => ?_, fun h => ?_, fun h => ?_, fun h => ?_⟩
  · have hm : Rd.nm d.host.data.toList = true := by
      rcases h with h | h <;> rw [h] at hx <;> simpa [Rd.fit, Dv.dt] using hx
    obtain ⟨h1, h2, h3⟩ := Nm.split_some.1 (lbs_of hm)
    exact ⟨h2, by rw [← h1]; exact h3⟩
  · have hm : Rd.nm d.mail.data.toList = true := by
      rw [h] at hx
      simpa [Rd.fit, Dv.dt] using hx
    obtain ⟨h1, h2, h3⟩ := Nm.split_some.1 (lbs_of hm)
    exact ⟨h2, by rw [← h1]; exact h3⟩
  · rw [h] at hx
    have : Rd.hasN d.dt (Rd.nums ((Rd.parts t).take j)) ≤ 65535 := by simpa [Rd.fit] using hx
    omega
  · have := hnum (.inr h)
    omega
/-- data that stand one behind the other. -/
def RChain (b : List UInt8) (ps : List Nat) (ks : List DIt) : Prop :=
  ps.length = ks.length + 1 ∧ ∀ j (h : j < ks.length), ∃ q : Nat → Nat, ps[j]? = some (q 0) ∧ ps[j + 1]? = some (q 7) ∧ PdD ks[j].ty ks[j].data ∧ Rd.ok ks[j].ty ks[j].data.dt = true ∧
    Rd.All b ks[j].data.dt (lbs ks[j].data.host) (lbs ks[j].data.mail) (Rd.parts ks[j].ty) q
theorem RChain.nil : RChain [] [0] [] := ⟨rfl, fun j h => absurd h (by simp)⟩
theorem RChain.step {b R : List UInt8} {ats : List Nat} {ks : List DIt} (h : RChain b (ats ++ [b.length]) ks) {it : DIt} (hd : PdD it.ty it.data) (hok : Rd.ok it.ty it.data.dt = true) {q : Nat → Nat} (h0 : q 0 = b.length) (h7 : q 7 = (b ++ R).length)
    (hall : Rd.All (b ++ R) it.data.dt (lbs it.data.host) (lbs it.data.mail) (Rd.parts it.ty) q) :
    RChain (b ++ R) ((ats ++ [b.length]) ++ [(b ++ R).length]) (ks ++ [it]) := by
  obtain ⟨h1, h2⟩ := h
  have hl : ats.length = ks.length := by simp at h1; exact h1
  refine ⟨by rw [List.length_append, h1]; simp, fun j hj => ?_⟩
  rw [List.length_append] at hj
  by_cases hlt : j < ks.length
  · obtain ⟨q', e1, e2, e3, e4, e5⟩ := h2 j hlt
    refine ⟨q', get_front e1 _, get_front e2 _, ?_⟩
    rw [List.getElem_append_left hlt]
    exact ⟨e3, e4, e5.more R⟩
  · obtain rfl : j = ks.length := by simp at hj; omega
    refine ⟨q, ?_, ?_, ?_⟩
    · rw [← hl, h0]; exact get_front (get_snoc ats b.length) _
    · have := get_snoc (ats ++ [b.length]) (b ++ R).length
      have e : (ats ++ [b.length]).length = ks.length + 1 := h1
      rw [e] at this
      rw [h7]
      exact this
    · rw [List.getElem_append_right (Nat.le_refl _)]
      simp only [Nat.sub_self, List.getElem_cons_zero]
      exact ⟨hd, hok, hall⟩
/-- what is known of what was written, apart from memory. -/
def RbP (T : Tab) (b : List UInt8) (ats : List Nat) (ks : List DIt) (i : Nat) : Prop :=
  Pr.Snd b T ∧ RChain b (ats ++ [b.length]) ks ∧ b.length ≤ 500000 * i ∧ T.length ≤ 1400 * i ∧ ks.length ≤ i ∧ ats.length = ks.length
theorem RbP.nil : RbP [] [] [] [] 0 := ⟨Pr.Snd.nil _, RChain.nil, by simp, by simp, by simp, rfl⟩
theorem RbP.skip {T : Tab} {b : List UInt8} {ats : List Nat} {ks : List DIt} {i : Nat} (h : RbP T b ats ks i) : RbP T b ats ks (i + 1) := by
  obtain ⟨h1, h2, h3, h4, h5, h6⟩ := h
  exact ⟨h1, h2, by omega, by omega, by omega, h6⟩
theorem RbP.step {T : Tab} {b : List UInt8} {ats : List Nat} {ks : List DIt} {i : Nat} (h : RbP T b ats ks i) {it : DIt} (hd : PdD it.ty it.data) (hok : Rd.ok it.ty it.data.dt = true)
    (hb : (Rd.wrs T b it.data.dt (lbs it.data.host) (lbs it.data.mail) (Rd.parts it.ty)).2.1.length ≤ b.length + 490000) (hT : (Rd.wrs T b it.data.dt (lbs it.data.host) (lbs it.data.mail) (Rd.parts it.ty)).1.length ≤ T.length + 1400) :
    RbP (Rd.wrs T b it.data.dt (lbs it.data.host) (lbs it.data.mail) (Rd.parts it.ty)).1 (Rd.wrs T b it.data.dt (lbs it.data.host) (lbs it.data.mail) (Rd.parts it.ty)).2.1 (ats ++ [b.length]) (ks ++ [it]) (i + 1) := by
  obtain ⟨h1, h2, h3, h4, h5, h6⟩ := h
  obtain ⟨r1, ⟨R, r2⟩, r3⟩ := Rd.wrs_all (T := T) (l := b) (d := it.data.dt) (hl := lbs it.data.host) (ml := lbs it.data.mail) (Rd.parts_lt it.ty) (rd_cond hok hd.2.1) h1
  have e7 : (Rd.parts it.ty).take 7 = Rd.parts it.ty := List.take_of_length_le (by rw [Rd.parts_len]; omega)
  have p7 : Rd.pos T b it.data.dt (lbs it.data.host) (lbs it.data.mail) (Rd.parts it.ty) 7 = (Rd.wrs T b it.data.dt (lbs it.data.host) (lbs it.data.mail) (Rd.parts it.ty)).2.1.length := by
    unfold Rd.pos; rw [e7]
  have p0 : Rd.pos T b it.data.dt (lbs it.data.host) (lbs it.data.mail) (Rd.parts it.ty) 0 = b.length := rfl
  refine ⟨r1, ?_, by omega, by omega, by simp; omega, by simp; omega⟩
  have hs := h2.step (R := R) hd hok p0 (by rw [p7, r2]) (by rw [← r2]; exact r3)
  rw [r2]
  exact hs
theorem own_apartK {w : World} {b b2 k k2 n n2 : Nat} {e e2 : TypeId} {v v2 : Value} {xs ys : List Value} (h : w.ownsRow b e k v n xs) (h2 : w.ownsRow b2 e2 k2 v2 n2 ys) (hne : e2 ≠ e) : v2.ownBlock = none ∨ v2.ownBlock ≠ v.ownBlock := by
  rcases h2.2 with ⟨rfl, _⟩ | ⟨g2, cap2, cur2, rfl, _, hg2, _⟩
  · exact .inl rfl
  · rcases h.2 with ⟨rfl, _⟩ | ⟨g, cap, cur, rfl, _, hg, _⟩
    · exact .inr (by simp [Value.ownBlock])
    · refine .inr fun e' => ?_
      obtain rfl : g2 = g := by simpa [Value.ownBlock] using e'
      rw [hg] at hg2
      cases hg2
      exact hne rfl
theorem own_stillK {w w' : World} {b b2 k k2 n n2 : Nat} {e e2 : TypeId} {v v2 : Value} {xs ys : List Value} (h : w.ownsRow b e k v n xs) (h2 : w.ownsRow b2 e2 k2 v2 n2 ys) (hne : e2 ≠ e) (hg : w.grownBy w' v.ownBlock) : w'.ownsRow b2 e2 k2 v2 n2 ys := h2.kept hg (own_apartK h h2 hne)
section
variable {w W W' : World} {T : Tab} {b : List UInt8} {ats : List Nat} {ks : List DIt} {vb vat vk : Value}
end
end Go.Proofs.YtgcaephfhfkjcaaGreatDoor
namespace Go.Proofs.YtgcaephfhfkjcaaGreatDoor
open Go.RowKit

theorem hex2_is (c : UInt8) : Rd.hex2 c = [Rd.hx (c.toNat / 16), Rd.hx (c.toNat % 16)] := by
  have := c.toNat_lt
  unfold Rd.hex2
  rw [Rd.hex_small (by omega), Rd.hex_small (by omega)]
  rfl
/-- the digits so far, the words ahead, the bytes. -/
def CtW (w : World) (X : List Value) (g hi : Nat) (l : List UInt8) (k : Nat) (v : Value) (W : World) : Prop :=
  W.ownsRow g 5 1 v (2 * k) (bv ((l.take k).flatMap Rd.hex2)) ∧ (∃ b, v.ownBlock = some b ∧ (b = g ∨ hi + 1 ≤ b)) ∧ W.ownsRow w.heap.size 9 1 (.slice (some ⟨g - 1, 0, none⟩) 2 2) 2 X ∧
    Bs W hi (hi + 1) (some ⟨hi, 0, none⟩) l ∧ hi + 1 ≤ W.heap.size ∧ g < hi ∧ w.heap.size ≤ g ∧ Below w.heap.size w W
theorem CtW.low {w W W' : World} {X : List Value} {g hi k : Nat} {l : List UInt8} {v : Value} (h : CtW w X g hi l k v W) (hb : Below W.heap.size W W') : CtW w X g hi l k v W' := by
  obtain ⟨h1, h2, h3, h4, h5, h6, h7, h8⟩ := h
  exact ⟨own_below h1 hb (Nat.le_refl _), h2, own_below h3 hb (Nat.le_refl _), h4.keep (hb.mono h5), Nat.le_trans h5 hb.size, h6, h7, h8.trans (hb.mono h8.size)⟩
theorem CtW.step {w W W' : World} {X : List Value} {g hi k : Nat} {l : List UInt8} {v v' : Value} (h : CtW w X g hi l k v W) (hk : k < l.length)
    (hO : W'.ownsRow g 5 1 v' (2 * k + 2) (bv ((l.take k).flatMap Rd.hex2) ++ [.int .u8 ((Rd.hx ((l[k]'hk).toNat / 16)).toNat : Int), .int .u8 ((Rd.hx ((l[k]'hk).toNat % 16)).toNat : Int)])) (hG : W.grownBy W' v.ownBlock)
    (hat : v'.ownBlock = v.ownBlock ∨ v'.ownBlock = some W.heap.size) : CtW w X g hi l (k + 1) v' W' := by
  obtain ⟨h1, ⟨b, h2, hb⟩, h3, h4, h5, h6, h7, h8⟩ := h
  refine ⟨?_, ?_, own_stillK h1 h3 (by decide) hG, ?_, Nat.le_trans h5 hG.size, h6, h7, h8.grown hG h8.size (fun j hj => Nat.le_trans h7 (h1.lt j hj).1)⟩
  · rw [Rd.flat_take hk, hex2_is]
    exact own_to hO (by omega) (by simp [bv])
  · rcases hat with e | e
    · exact ⟨b, e.trans h2, hb⟩
    · exact ⟨_, e, .inr h5⟩
  · rw [h2] at hG
    exact h4.grown hG (by omega)
end Go.Proofs.YtgcaephfhfkjcaaGreatDoor
namespace Go.Proofs.YtgcaephfhfkjcaaGreatDoor
open Go.RowKit

/-- a word in quotes. -/
def qw (x : List UInt8) : List UInt8 := (34 :: Nm.esc true x) ++ [34]
theorem get_at (ls : List (List UInt8)) {k : Nat} (hk : k < ls.length) : (svs ((ls.take k).map qw ++ ls.drop k))[k]? = some (sv (ls[k]'hk)) := by
  have hl : ((ls.take k).map qw).length = k := by rw [List.length_map, List.length_take]; omega
  unfold svs
  rw [List.getElem?_map, List.getElem?_append_right (by omega), hl, Nat.sub_self, List.drop_eq_getElem_cons hk]
  rfl
end Go.Proofs.YtgcaephfhfkjcaaGreatDoor
namespace Go.Proofs.YtgcaephfhfkjcaaGreatDoor
open Go.RowKit

namespace Rd
def pair (s : By) (j : Nat) : Nat := 256 * (s[2 * j]?.getD 0).toNat + (s[2 * j + 1]?.getD 0).toNat
def pairs (s : By) (k : Nat) : By := (List.range k).flatMap fun j => 58 :: hex (pair s j)
end Rd
end Go.Proofs.YtgcaephfhfkjcaaGreatDoor
namespace Go.Proofs.YtgcaephfhfkjcaaGreatDoor
open Go.RowKit

namespace Rd
/-- the numbers, each behind a blank. -/
def numw (d : Dv) (k : Nat) : By := (List.range k).flatMap fun j => 32 :: dec (d.n j)
end Rd
end Go.Proofs.YtgcaephfhfkjcaaGreatDoor
namespace Go.Proofs.YtgcaephfhfkjcaaGreatDoor
open Go.RowKit

namespace Rd
def quoted (E : By → By) (ls : List By) : By := ls.flatMap fun l => [32, 34] ++ E l ++ [34]
end Rd
end Go.Proofs.YtgcaephfhfkjcaaGreatDoor
namespace Go.Proofs.YtgcaephfhfkjcaaGreatDoor
open Go.RowKit

/-- the pieces ps end ahead of f. -/
def Ahead (l : List UInt8) (f : Nat) (ps : List (List UInt8)) : Prop :=
  f ≤ l.length ∧ ps.length ≤ f ∧ (f < l.length ∨ f = 0 → Nm.pieces l = (ps ++ (Nm.pieces (l.drop f)).1, (Nm.pieces (l.drop f)).2)) ∧ (f = l.length → 0 < f → Nm.pieces l = (ps, true))
theorem Ahead.zero (l : List UInt8) : Ahead l 0 [] := ⟨Nat.zero_le _, by simp, fun _ => by simp, fun _ h => by omega⟩
theorem CutAt.dot' {l : List UInt8} {k : Nat} (h : CutAt l k) (hk : k < l.length) (h46 : (l[k]).toNat = 46) : Nm.cutP l = (l.take k, l.drop (k + 1), true) := by
  rcases h with ⟨_, h⟩ | ⟨h, _⟩
  · rw [h, Nm.drop_cons hk, Nm.cutP_dot h46]; simp
  · omega
theorem CutAt.done' {l : List UInt8} {k : Nat} (h : CutAt l k) (hk : l.length ≤ k) : Nm.cutP l = (l, [], false) := by
  rcases h with ⟨h1, h⟩ | ⟨_, h⟩
  · obtain rfl : k = l.length := by omega
    rw [h, List.drop_length, List.take_length]; simp [Nm.cutP]
  · exact h
theorem Ahead.step {l : List UInt8} {f i : Nat} {ps : List (List UInt8)} (h : Ahead l f ps) (hfi : f ≤ i) (hi : i < l.length) (hc : CutAt (l.drop f) (i - f)) (h46 : (l[i]).toNat = 46) :
    Ahead l (i + 1) (ps ++ [(l.drop f).take (i - f)]) := by
  have hlt : i - f < (l.drop f).length := by rw [List.length_drop]; omega
  have hg : ((l.drop f)[i - f]'hlt).toNat = 46 := by rw [List.getElem_drop]; simp only [show f + (i - f) = i by omega]; exact h46
  have hcut := hc.dot' hlt hg
  have hd : (l.drop f).drop (i - f + 1) = l.drop (i + 1) := by rw [List.drop_drop]; congr 1; omega
  rw [hd] at hcut
  have hp := h.2.2.1 (.inl (by omega))
  refine ⟨hi, by have := h.2.1; simp; omega, fun hh => ?_, fun he _ => ?_⟩
  · have hm := Nm.pieces_more (l := l.drop f) (by rw [hcut]) (by rw [hcut]; simp; omega)
    rw [hp, hm, hcut]; simp
  · have hm := Nm.pieces_whole (l := l.drop f) (by rw [hcut]) (by rw [hcut]; simp; omega)
    rw [hp, hm, hcut]
theorem Ahead.rest {l : List UInt8} {f i : Nat} {ps : List (List UInt8)} (h : Ahead l f ps) (hfi : f ≤ i) (hi : l.length ≤ i) (hc : CutAt (l.drop f) (i - f)) (hn : f < l.length ∨ f = 0) : Nm.pieces l = (ps ++ [l.drop f], false) := by
  have hcut := hc.done' (by rw [List.length_drop]; omega)
  rw [h.2.2.1 hn, Nm.pieces_end (by rw [hcut]), hcut]

/-- the first k pieces have told the labels bs. -/
def ToldAt (ps : List (List UInt8)) (k : Nat) (bs : List (List UInt8)) : Prop :=
  k ≤ ps.length ∧ bs.length = k ∧ Nm.Good bs ∧ Nm.labelsP ps = match Nm.labelsP (ps.drop k) with | .error n => .error n | .ok r => .ok (bs ++ r)
theorem ToldAt.zero (ps : List (List UInt8)) : ToldAt ps 0 [] := ⟨Nat.zero_le _, rfl, (fun l hl => by simp at hl), by rw [List.drop_zero]; rcases Nm.labelsP ps <;> rfl⟩
theorem ToldAt.no {ps bs : List (List UInt8)} {k : Nat} (h : ToldAt ps k bs) (hk : k < ps.length) (hu : Nm.unesc ps[k] = none) : Nm.labelsP ps = .error 12 := by
  rw [h.2.2.2, List.drop_eq_getElem_cons hk, labelsP_esc _ _ hu]
theorem ToldAt.bad {ps bs : List (List UInt8)} {k : Nat} {b : List UInt8} (h : ToldAt ps k bs) (hk : k < ps.length) (hu : Nm.unesc ps[k] = some b) (hg : ¬ (1 ≤ b.length ∧ b.length ≤ 63)) : Nm.labelsP ps = .error 10 := by
  rw [h.2.2.2, List.drop_eq_getElem_cons hk, labelsP_bad _ _ _ hu hg]
theorem ToldAt.step {ps bs : List (List UInt8)} {k : Nat} {b : List UInt8} (h : ToldAt ps k bs) (hk : k < ps.length) (hu : Nm.unesc ps[k] = some b) (hg : 1 ≤ b.length ∧ b.length ≤ 63) : ToldAt ps (k + 1) (bs ++ [b]) := by
  refine ⟨hk, by rw [List.length_append, h.2.1]; rfl, good_app h.2.2.1 (fun l hl => by simp at hl; subst hl; exact hg), ?_⟩
  rw [h.2.2.2, List.drop_eq_getElem_cons hk, labelsP_cons _ _ _ hu hg]
  rcases Nm.labelsP (ps.drop (k + 1)) with n | r
  · rfl
  · simp
theorem ToldAt.done {ps bs : List (List UInt8)} (h : ToldAt ps ps.length bs) : Nm.labelsP ps = .ok bs := by
  rw [h.2.2.2, List.drop_length]; simp [Nm.labelsP]
end Go.Proofs.YtgcaephfhfkjcaaGreatDoor
namespace Go.Proofs.YtgcaephfhfkjcaaGreatDoor
open Go.RowKit

/-- what data are told by. -/
def shS (t : Nat) (d : Dv) (ls : List (List UInt8)) : List UInt8 :=
  if t = 1 then Rd.showA d.raw.data.toList else if t = 28 then (Rd.pairs d.raw.data.toList 8).drop 1 else if t = 16 then (Rd.quoted (Nm.esc true) ls).drop 1
  else if t = 6 then ((((([] ++ [32]) ++ Nm.text d.host.data.toList) ++ [32]) ++ Nm.text d.mail.data.toList) ++ Rd.numw d 5).drop 1
  else if Rd.isHost t then (Rd.numw d (Rd.cnt t) ++ 32 :: Nm.text d.host.data.toList).drop 1 else Rd.showHex d.raw.data.toList
/-- the short texts of data, or none. -/
def txs (d : Dv) : List (List UInt8) := (Rd.tx d.raw.data.toList).getD []
end Go.Proofs.YtgcaephfhfkjcaaGreatDoor
namespace Go.Proofs.YtgcaephfhfkjcaaGreatDoor
open Go.RowKit

namespace Mp
/-- the words of a record's line. -/
def words (r : Rv) : List Nm.By := [Nm.text (Nm.fold r.nm.data.toList), Rd.dec r.ttl, [73, 78], Rd.tyText r.ty, shS r.ty (r.d.fold r.ty) (txs (r.d.fold r.ty))]
def lineL (r : Rv) : Nm.By := Lib.join (words r) [32] ++ [10]
theorem dec_few {n : Nat} (h : n ≤ 4294967295) : (Rd.dec n).length ≤ 4294967296 := by have := Rd.dec_len n; omega
end Mp
end Go.Proofs.YtgcaephfhfkjcaaGreatDoor
namespace Go.Proofs.YtgcaephfhfkjcaaGreatDoor
open Go.RowKit

namespace Rd
def val (l : By) : Nat := l.foldl (fun v c => 10 * v + (c.toNat - 48)) 0
def digs (l : By) : Bool := l.all (fun c => decide (48 ≤ c.toNat) && decide (c.toNat ≤ 57))
theorem num_bad {s : By} {most : Nat} (h : s.length = 0 ∨ (1 < s.length ∧ s.head? = some 48) ∨ 12 < s.length) : num s most = none := by unfold num; rw [if_pos h]
theorem num_nodig {s : By} {most : Nat} (h : digs s = false) : num s most = none := by
  unfold num
  split
  · rfl
  · unfold digs at h
    rw [h]; rfl
theorem num_dig {s : By} {most : Nat} (h0 : ¬ (s.length = 0 ∨ (1 < s.length ∧ s.head? = some 48) ∨ 12 < s.length)) (h : digs s = true) : num s most = if most < val s then none else some (val s) := by
  unfold num
  rw [if_neg h0]
  unfold digs at h
  rw [h]
  rfl
theorem head_of {s : ByteArray} (h : 0 < s.size) : s.data.toList.head? = some s[0] := by
  rw [rd_cons_of s h]; rfl
end Rd
end Go.Proofs.YtgcaephfhfkjcaaGreatDoor
