/- Texts of the proofs, merged. -/
import Derived.Test.YtpnfkgjcnofjnaaMgTa
import Derived.Test.YtpnfkgjcnofjnaaMem
import Derived.Shelf.Abstract
import Derived.Sort.AtCall
import Derived.Deep.LoopGhost
/- Trees of nodes in memory. -/
namespace Go.Proofs.Ytpnfkgjcnofjnaa.Ts
open Go.RowKit Tr

abbrev TV := Nm.By
abbrev tz (v : TV) : Value := sv v
/-- a node's cells; a tree's have its size behind them. -/
def ncs (top : Option Nat) (r : Nd TV) (kv : Value) : Array Value := match top with
  | none => #[sv r.lab, sv r.key, tz r.val, .bool r.held, kv]
  | some n => #[sv r.lab, sv r.key, tz r.val, .bool r.held, kv, .int .i64 (n : Int)]
def nty : Option Nat → TypeId
  | none => 97
  | some _ => 99
abbrev ptr (b : Nat) : Value := .pointer (some ⟨b, 0, none⟩)
def ptrs (bs : List Nat) : List Value := bs.map ptr
theorem ptrs_len (bs : List Nat) : (ptrs bs).length = bs.length := by simp [ptrs]
/-- a row of pointers. -/
abbrev Row (w : World) (kv : Value) (bs : List Nat) : Prop := w.ownsRow 0 100 1 kv bs.length (ptrs bs)
def rowB (kv : Value) : List Nat := match kv.ownBlock with
  | some q => [q]
  | none => []
/-- kids at these blocks; F: all blocks that they take. -/
def KidsM (w : World) : Fo TV → List Nat → List Nat → Prop
  | .nl, bs, F => bs = [] ∧ F = []
  | .cons r sub next, bs, F => ∃ b bs' kv ks F1 F2, bs = b :: bs' ∧ F = (b :: rowB kv ++ F1) ++ F2 ∧ Has w b (nty none) (ncs none r kv) ∧ Row w kv ks ∧ KidsM w sub ks F1 ∧ KidsM w next bs' F2
/-- a node at a block. -/
def NodeM (w : World) (top : Option Nat) (b : Nat) (n : No TV) (F : List Nat) : Prop :=
  ∃ kv ks F1, F = b :: rowB kv ++ F1 ∧ Has w b (nty top) (ncs top n.1 kv) ∧ Row w kv ks ∧ KidsM w n.2 ks F1
theorem kidsM_cons {w : World} {r : Nd TV} {s n : Fo TV} {bs F : List Nat} : KidsM w (.cons r s n) bs F ↔ ∃ b bs' F0 F2, bs = b :: bs' ∧ F = F0 ++ F2 ∧ NodeM w none b (r, s) F0 ∧ KidsM w n bs' F2 := by
  constructor
  · rintro ⟨b, bs', kv, ks, F1, F2, h1, h2, h3, h4, h5, h6⟩
    exact ⟨b, bs', _, F2, h1, h2, ⟨kv, ks, F1, rfl, h3, h4, h5⟩, h6⟩
  · rintro ⟨b, bs', F0, F2, h1, h2, ⟨kv, ks, F1, rfl, h3, h4, h5⟩, h6⟩
    exact ⟨b, bs', kv, ks, F1, F2, h1, h2, h3, h4, h5, h6⟩
section
variable {w w' : World} {top : Option Nat} {b : Nat} {n : No TV} {f : Fo TV} {bs F : List Nat} {kv : Value}
theorem row_lt (h : Row w kv bs) : ∀ k ∈ rowB kv, k < w.heap.size := by
  intro k hk
  unfold rowB at hk
  cases ho : kv.ownBlock with
  | none => rw [ho] at hk; simp at hk
  | some q => rw [ho] at hk; simp at hk; subst hk; exact (h.lt k ho).2
/-- a row lies as it lay where its block does. -/
theorem row_same (h : Row w kv bs) (hs : ∀ k ∈ rowB kv, w'.heap[k]? = w.heap[k]?) : Row w' kv bs := by
  refine ⟨h.1, ?_⟩
  rcases h.2 with h0 | ⟨g, cap, cur, rfl, hb, hg, rest⟩
  · exact .inl h0
  · exact .inr ⟨g, cap, cur, rfl, hb, (hs g (by simp [rowB, Value.ownBlock])).trans hg, rest⟩
theorem KidsM.lt (h : KidsM w f bs F) : ∀ k ∈ F, k < w.heap.size := by
  induction f generalizing bs F with
  | nl => obtain ⟨_, rfl⟩ := h; simp
  | cons r s n ihs ihn =>
    obtain ⟨b, bs', kv, ks, F1, F2, _, rfl, h3, h4, h5, h6⟩ := h
    intro k hk
    simp only [List.cons_append, List.mem_cons, List.mem_append] at hk
    rcases hk with rfl | (hk | hk) | hk
    · exact h3.lt
    · exact row_lt h4 k hk
    · exact ihs h5 k hk
    · exact ihn h6 k hk
theorem KidsM.same (h : KidsM w f bs F) (hs : ∀ k ∈ F, w'.heap[k]? = w.heap[k]?) : KidsM w' f bs F := by
  induction f generalizing bs F with
  | nl => exact h
  | cons r s n ihs ihn =>
    obtain ⟨b, bs', kv, ks, F1, F2, h1, rfl, h3, h4, h5, h6⟩ := h
    refine ⟨b, bs', kv, ks, F1, F2, h1, rfl, (hs b (by simp)).trans h3, row_same h4 fun k hk => hs k (by simp [hk]), ihs h5 fun k hk => hs k (by simp [hk]), ihn h6 fun k hk => hs k (by simp [hk])⟩
theorem NodeM.lt (h : NodeM w top b n F) : ∀ k ∈ F, k < w.heap.size := by
  obtain ⟨kv, ks, F1, rfl, h3, h4, h5⟩ := h
  intro k hk
  simp only [List.cons_append, List.mem_cons, List.mem_append] at hk
  rcases hk with rfl | hk | hk
  · exact h3.lt
  · exact row_lt h4 k hk
  · exact h5.lt k hk
theorem NodeM.same (h : NodeM w top b n F) (hs : ∀ k ∈ F, w'.heap[k]? = w.heap[k]?) : NodeM w' top b n F := by
  obtain ⟨kv, ks, F1, rfl, h3, h4, h5⟩ := h
  exact ⟨kv, ks, F1, rfl, (hs b (by simp)).trans h3, row_same h4 fun k hk => hs k (by simp [hk]), h5.same fun k hk => hs k (by simp [hk])⟩
theorem NodeM.below {B : Nat} (h : NodeM w top b n F) (hb : Below B w w') (hB : w.heap.size ≤ B) : NodeM w' top b n F := h.same fun k hk => hb.block k (by have := h.lt k hk; omega)
theorem NodeM.blk (h : NodeM w top b n F) : b ∈ F := by obtain ⟨kv, ks, F1, rfl, _⟩ := h; simp
theorem NodeM.blk_lt (h : NodeM w top b n F) : b < w.heap.size := h.lt b h.blk
theorem KidsM.len (h : KidsM w f bs F) : bs.length = f.kids.length := by
  induction f generalizing bs F with
  | nl => obtain ⟨rfl, _⟩ := h; rfl
  | cons r s n _ ihn =>
    obtain ⟨b, bs', F0, F2, rfl, _, _, h6⟩ := kidsM_cons.1 h
    simp [Fo.kids, ihn h6]
/-- one of the kids, and what becomes of all where it is changed. -/
theorem KidsM.kid (h : KidsM w f bs F) {i : Nat} {m : No TV} (hm : f.kids[i]? = some m) :
    ∃ b1 A F1 B, F = A ++ (F1 ++ B) ∧ bs[i]? = some b1 ∧ NodeM w none b1 m F1 ∧
      ∀ (w' : World) (m' : No TV) (F1' : List Nat) (f' : Fo TV), (∀ k, k ∈ A ∨ k ∈ B → w'.heap[k]? = w.heap[k]?) → NodeM w' none b1 m' F1' → f'.kids = f.kids.set i m' → KidsM w' f' bs (A ++ (F1' ++ B)) := by
  induction f generalizing bs F i with
  | nl => simp [Fo.kids] at hm
  | cons r s n _ ihn =>
    obtain ⟨b, bs', F0, F2, rfl, rfl, h5, h6⟩ := kidsM_cons.1 h
    cases i with
    | zero =>
      simp [Fo.kids] at hm
      subst hm
      refine ⟨b, [], F0, F2, rfl, rfl, h5, fun w' m' F1' f' hs hn hf => ?_⟩
      cases f' with
      | nl => simp [Fo.kids] at hf
      | cons r' s' n' =>
        simp only [Fo.kids, List.set_cons_zero, List.cons.injEq] at hf
        obtain ⟨rfl, hf⟩ := hf
        refine kidsM_cons.2 ⟨b, bs', F1', F2, rfl, rfl, hn, ?_⟩
        have : n' = n := by
          clear hn h6 h5 h ihn hs
          induction n' generalizing n with
          | nl => cases n <;> simp [Fo.kids] at hf; rfl
          | cons r1 s1 n1 _ ih1 =>
            cases n with
            | nl => simp [Fo.kids] at hf
            | cons r2 s2 n2 =>
              simp only [Fo.kids, List.cons.injEq, Prod.mk.injEq] at hf
              obtain ⟨⟨rfl, rfl⟩, hf⟩ := hf
              rw [ih1 _ hf]
        subst this
        exact h6.same fun k hk => hs k (.inr hk)
    | succ i =>
      obtain ⟨b1, A, F1, B, rfl, h2, h3, h4⟩ := ihn h6 (i := i) (by simpa [Fo.kids] using hm)
      refine ⟨b1, F0 ++ A, F1, B, by simp, by simpa using h2, h3, fun w' m' F1' f' hs hn hf => ?_⟩
      cases f' with
      | nl => simp [Fo.kids] at hf
      | cons r' s' n' =>
        simp only [Fo.kids, List.set_cons_succ, List.cons.injEq, Prod.mk.injEq] at hf
        obtain ⟨⟨rfl, rfl⟩, hf⟩ := hf
        rw [List.append_assoc]
        exact kidsM_cons.2 ⟨b, bs', F0, _, rfl, rfl, h5.same fun k hk => hs k (.inl (by simp [hk])), h4 w' m' F1' n' (fun k hk => hs k (by rcases hk with hk | hk <;> simp [hk])) hn hf⟩
theorem kids_inj {f g : Fo TV} (h : f.kids = g.kids) : f = g := by
  induction f generalizing g with
  | nl => cases g <;> simp [Fo.kids] at h; rfl
  | cons r1 s1 n1 _ ih1 =>
    cases g with
    | nl => simp [Fo.kids] at h
    | cons r2 s2 n2 =>
      simp only [Fo.kids, List.cons.injEq, Prod.mk.injEq] at h
      obtain ⟨⟨rfl, rfl⟩, h⟩ := h
      rw [ih1 h]
/-- a kid is put among them, or taken away. -/
theorem KidsM.ins (h : KidsM w f bs F) {i : Nat} (hi : i ≤ f.kids.length) : ∃ A B, F = A ++ B ∧ ∀ (w' : World) (b1 : Nat) (m : No TV) (F1 : List Nat) (f' : Fo TV), (∀ k ∈ F, w'.heap[k]? = w.heap[k]?) → NodeM w' none b1 m F1 → f'.kids = f.kids.take i ++ m :: f.kids.drop i →
    KidsM w' f' (bs.take i ++ b1 :: bs.drop i) (A ++ (F1 ++ B)) := by
  induction f generalizing bs F i with
  | nl =>
    obtain ⟨rfl, rfl⟩ := h
    refine ⟨[], [], rfl, fun w' b1 m F1 f' hs hm hf => ?_⟩
    cases f' with
    | nl => simp [Fo.kids] at hf
    | cons r' s' n' =>
      simp only [Fo.kids, List.take_nil, List.drop_nil, List.nil_append, List.cons.injEq] at hf
      obtain ⟨rfl, hf⟩ := hf
      have : n' = .nl := kids_inj hf
      subst this
      simp only [List.take_nil, List.drop_nil, List.nil_append]
      exact kidsM_cons.2 ⟨b1, [], F1, [], rfl, rfl, hm, rfl, rfl⟩
  | cons r s n _ ihn =>
    obtain ⟨b, bs', F0, F2, rfl, rfl, h5, h6⟩ := kidsM_cons.1 h
    cases i with
    | zero =>
      refine ⟨[], F0 ++ F2, rfl, fun w' b1 m F1 f' hs hm hf => ?_⟩
      cases f' with
      | nl => simp [Fo.kids] at hf
      | cons r' s' n' =>
        simp only [Fo.kids, List.take_zero, List.drop_zero, List.nil_append, List.cons.injEq] at hf
        obtain ⟨rfl, hf⟩ := hf
        have : n' = .cons r s n := kids_inj hf
        subst this
        simp only [List.take_zero, List.drop_zero, List.nil_append]
        exact kidsM_cons.2 ⟨b1, b :: bs', F1, F0 ++ F2, rfl, rfl, hm, h.same hs⟩
    | succ i =>
      obtain ⟨A, B, rfl, h7⟩ := ihn h6 (i := i) (by simpa [Fo.kids] using hi)
      refine ⟨F0 ++ A, B, by simp, fun w' b1 m F1 f' hs hm hf => ?_⟩
      cases f' with
      | nl => simp [Fo.kids] at hf
      | cons r' s' n' =>
        simp only [Fo.kids, List.take_succ_cons, List.drop_succ_cons, List.cons_append, List.cons.injEq, Prod.mk.injEq] at hf
        obtain ⟨⟨rfl, rfl⟩, hf⟩ := hf
        rw [List.append_assoc]
        exact kidsM_cons.2 ⟨b, _, F0, _, by simp, rfl, h5.same fun k hk => hs k (by simp [hk]), h7 w' b1 m F1 n' (fun k hk => hs k (by rcases List.mem_append.1 hk with hk | hk <;> simp [hk])) hm hf⟩
theorem KidsM.del (h : KidsM w f bs F) {i : Nat} (hi : i < f.kids.length) {f' : Fo TV} (hf : f'.kids = f.kids.take i ++ f.kids.drop (i + 1)) :
    ∃ A F1 B, F = A ++ (F1 ++ B) ∧ KidsM w f' (bs.take i ++ bs.drop (i + 1)) (A ++ B) := by
  induction f generalizing bs F i f' with
  | nl => simp [Fo.kids] at hi
  | cons r s n _ ihn =>
    obtain ⟨b, bs', F0, F2, rfl, rfl, h5, h6⟩ := kidsM_cons.1 h
    cases i with
    | zero =>
      refine ⟨[], F0, F2, rfl, ?_⟩
      simp only [Fo.kids, List.take_zero, List.drop_succ_cons, List.drop_zero, List.nil_append] at hf ⊢
      have : f' = n := by
        clear h6 h5 h ihn hi
        induction f' generalizing n with
        | nl => cases n <;> simp [Fo.kids] at hf; rfl
        | cons r1 s1 n1 _ ih1 =>
          cases n with
          | nl => simp [Fo.kids] at hf
          | cons r2 s2 n2 =>
            simp only [Fo.kids, List.cons.injEq, Prod.mk.injEq] at hf
            obtain ⟨⟨rfl, rfl⟩, hf⟩ := hf
            rw [ih1 _ hf]
      subst this
      exact h6
    | succ i =>
      cases f' with
      | nl => simp [Fo.kids] at hf
      | cons r' s' n' =>
        simp only [Fo.kids, List.take_succ_cons, List.drop_succ_cons, List.cons_append, List.cons.injEq, Prod.mk.injEq] at hf
        obtain ⟨⟨rfl, rfl⟩, hf⟩ := hf
        obtain ⟨A, F1, B, rfl, h7⟩ := ihn h6 (i := i) (by simpa [Fo.kids] using hi) hf
        refine ⟨F0 ++ A, F1, B, by simp, ?_⟩
        simp only [List.take_succ_cons, List.drop_succ_cons, List.append_assoc]
        exact kidsM_cons.2 ⟨b, _, F0, _, rfl, rfl, h5, h7⟩
end
end Go.Proofs.Ytpnfkgjcnofjnaa.Ts
/- Where among a node's kids a label stands. -/
namespace Go.Proofs.Ytpnfkgjcnofjnaa.Ts
open Go.RowKit Go.Shelf Tr

theorem less_cmp : ∀ x y : List UInt8, Op.bytesLess x y = decide (Nm.cmpB x y < 0)
  | [], [] => rfl
  | [], _ :: _ => rfl
  | _ :: _, [] => rfl
  | a :: x, b :: y => by
    unfold Op.bytesLess Nm.cmpB
    rw [less_cmp x y]
    by_cases h : a = b
    · subst h
      have : ¬ a < a := UInt8.lt_irrefl a
      simp [this]
    · have hb : (a == b) = false := beq_eq_false_iff_ne.2 h
      rw [if_neg h, hb, Bool.false_and, Bool.or_false]
      unfold Nm.sgn
      by_cases hl : a < b
      · rw [if_pos (UInt8.lt_iff_toNat_lt.1 hl)]; simp [hl]
      · rw [if_neg (fun e => hl (UInt8.lt_iff_toNat_lt.2 e))]
        split <;> simp [hl]
/-- how many places are still false: what a search by halves tells. -/
def firstT (p : Nat → Bool) (n : Nat) : Nat := (List.range n).countP fun i => !p i
theorem firstT_eq {p : Nat → Bool} {n k : Nat} (hk : k ≤ n) (h1 : ∀ t, t < k → p t = false) (h2 : ∀ t, k ≤ t → t < n → p t = true) : firstT p n = k := by
  unfold firstT
  induction n generalizing k with
  | zero => simp; omega
  | succ n ih =>
    rw [List.range_succ, List.countP_append]
    by_cases h : k = n + 1
    · subst h
      have := ih (Nat.le_refl n) (fun t ht => h1 t (by omega)) (fun t a b => by omega)
      rw [this]; simp [h1 n (by omega)]
    · rw [ih (by omega) h1 (fun t a b => h2 t a (by omega))]
      simp [h2 n (by omega) (by omega)]
set_option maxHeartbeats 1000000 in
set_option maxRecDepth 100000 in
/-- a search by halves. -/
theorem search_any (g : Nat) (cb : Array Value) (n : Nat) (p : Nat → Bool) (w : World) (hsz : n < 4611686018427387904)
    (hf : ∀ (W : World) (i : Nat), Below w.heap.size w W → i < n → Calls Try.prog g (#[.int .i64 i] ++ cb) W fun e w' => e = .returned (.bool (p i)) ∧ Below W.heap.size W w')
    (hmono : ∀ a b, a ≤ b → b < n → p a = true → p b = true) (eg : ∀ args w, (callFunc g args).run Try.prog w = .ok (.enter g args) w) :
    Calls Try.prog 93 #[.int .i64 n, .func (.func g) #[] cb] w fun e w' => e = .returned (.int .i64 (firstT p n : Nat)) ∧ Below w.heap.size w w' := by
  have HF := Lib.hid hf
  have M := Lib.hid hmono
  have HE := Lib.hid (fun (k : Nat) => @firstT_eq p n k)
  clear hf hmono
  generalize firstT p n = cnt at *
  go_enter Try.func93, Try.ntmps93
  go_wp2
  go_loopg [5, 6] n (fun kx s5 s6 wr => ∃ (lo hi : Nat), s5 = .int .i64 lo ∧ s6 = .int .i64 hi ∧ lo ≤ hi ∧ hi ≤ n ∧ hi - lo ≤ kx ∧ Hid (Below w.heap.size w wr) ∧ Hid ((∀ t, t < lo → p t = false) ∧ (∀ t, hi ≤ t → t < n → p t = true)))
  case atStart => exact ⟨0, n, rfl, rfl, Nat.zero_le _, Nat.le_refl _, by omega, Below.refl _ _, ⟨fun t ht => absurd ht (Nat.not_lt_zero _), fun t h1 h2 => by omega⟩⟩
  case round =>
    obtain ⟨lo, hi, rfl, rfl, hlh, hin, hg, HB, I⟩ := hrel
    by_cases hlt : lo < hi
    · have hc := HF.out wr ((lo + hi) / 2) HB.out (by omega)
      rw [show (((lo + hi) / 2 : Nat) : Int) = ((lo : Int) + (hi : Int)) / 2 by omega] at hc
      cases hp : p ((lo + hi) / 2) <;> rw [hp] at hc
      · have HP := Lib.hid hp
        clear hp
        go_wp2_with (go_at_fn g; refine hc.mono ?_; rintro e w' ⟨rfl, hb1⟩)
        go_roundg (hi - ((lo + hi) / 2 + 1))
        case measure => omega
        case rel =>
          have I2 : Hid ((∀ t, t < (lo + hi) / 2 + 1 → p t = false) ∧ (∀ t, hi ≤ t → t < n → p t = true)) := ⟨fun t ht => (by
            cases h : p t with
            | false => rfl
            | true => have := M.out t ((lo + hi) / 2) (by omega) (by omega) h; rw [HP.out] at this; cases this), I.out.2⟩
          exact ⟨(lo + hi) / 2 + 1, hi, by rw [show ((lo : Int) + (hi : Int)) / 2 + 1 = (((lo + hi) / 2 + 1 : Nat) : Int) by omega], rfl, by omega, hin, Nat.le_refl _, HB.out.trans (hb1.mono HB.out.size), I2⟩
      · have HP := Lib.hid hp
        clear hp
        go_wp2_with (go_at_fn g; refine hc.mono ?_; rintro e w' ⟨rfl, hb1⟩)
        go_roundg ((lo + hi) / 2 - lo)
        case measure => omega
        case rel =>
          have I2 : Hid ((∀ t, t < lo → p t = false) ∧ (∀ t, (lo + hi) / 2 ≤ t → t < n → p t = true)) := ⟨I.out.1, fun t ht htn => M.out ((lo + hi) / 2) t ht htn HP.out⟩
          exact ⟨lo, (lo + hi) / 2, rfl, by rw [show ((lo : Int) + (hi : Int)) / 2 = (((lo + hi) / 2 : Nat) : Int) by omega], by omega, by omega, Nat.le_refl _, HB.out.trans (hb1.mono HB.out.size), I2⟩
    · obtain rfl : hi = lo := by omega
      have HC := Lib.hid (HE.out hi hin I.out.1 I.out.2)
      go_wp2
      go_ret
      exact ⟨by rw [HC.out]; rfl, HB.out⟩
end Go.Proofs.Ytpnfkgjcnofjnaa.Ts
/- A node's own calls: place, set, unset, bare. -/
namespace Go.Proofs.Ytpnfkgjcnofjnaa.Ts
open Go.RowKit Go.Shelf Tr

section
variable {w w' : World} {top : Option Nat} {b : Nat} {n : No TV} {F : List Nat}
/-- a node's cells. -/
theorem NodeM.cells (h : NodeM w top b n F) : ∃ kv ks, Row w kv ks ∧ ks.length = n.2.kids.length ∧ w.cell? ⟨b, 0, none⟩ = some (sv n.1.lab) ∧ w.cell? ⟨b, 1, none⟩ = some (sv n.1.key) ∧ w.cell? ⟨b, 2, none⟩ = some (tz n.1.val) ∧
    w.cell? ⟨b, 3, none⟩ = some (.bool n.1.held) ∧ w.cell? ⟨b, 4, none⟩ = some kv ∧ (∀ i, w.frozen? ⟨b, i, none⟩ = false) := by
  obtain ⟨kv, ks, F1, rfl, h3, h4, h5⟩ := h
  refine ⟨kv, ks, h4, h5.len, ?_, ?_, ?_, ?_, ?_, fun i => h3.free i⟩
  all_goals (rw [h3.cell]; cases top <;> rfl)
/-- one of its kids. -/
theorem NodeM.kidAt (h : NodeM w top b n F) {i : Nat} {m : No TV} (hm : n.2.kids[i]? = some m) : ∃ g cap b1 F1, w.cell? ⟨b, 4, none⟩ = some (.slice (some ⟨g, 0, none⟩) n.2.kids.length cap) ∧ n.2.kids.length ≤ cap ∧ w.cell? ⟨g, i, none⟩ = some (ptr b1) ∧ NodeM w none b1 m F1 := by
  obtain ⟨kv, ks, F0, rfl, h3, h4, h5⟩ := h
  obtain ⟨b1, A, F1, B, rfl, h6, h7, _⟩ := h5.kid hm
  have hl := h5.len
  have hi : i < ks.length := (List.getElem?_eq_some_iff.1 h6).1
  obtain ⟨g, cp, rfl, hc, _⟩ := own_pos h4 (by omega)
  refine ⟨g, cp, b1, F1, ?_, by omega, ?_, h7⟩
  · rw [h3.cell, ← hl]; cases top <;> rfl
  · exact own_cells h4 i (ptr b1) (by simp [ptrs, h6])
end
theorem kid_get {f : Fo TV} {i : Nat} (hi : i < f.kids.length) : ∃ m, f.kids[i]? = some m := ⟨_, List.getElem?_eq_getElem hi⟩
theorem binOp_geq_tr (t : TypeId) (a b : ByteArray) : binOp .geq t (.string a) (.string b) = pure (.bool !(Op.bytesLess a.toList b.toList)) := by simp [binOp, Op.stringOp]
attribute [local go_sem] binOp_geq_tr
set_option maxRecDepth 100000 in
theorem placeC_any {w : World} {top : Option Nat} {b bd bl i : Nat} {n m : No TV} {F : List Nat} (x : ByteArray) (h : NodeM w top b n F) (hm : n.2.kids[i]? = some m) (hd : w.cell? ⟨bd, 0, none⟩ = some (ptr b)) (hl : w.cell? ⟨bl, 0, none⟩ = some (.string x)) :
    Calls Try.prog 98 #[.int .i64 i, .pointer (some ⟨bd, 0, none⟩), .pointer (some ⟨bl, 0, none⟩)] w fun e w' => e = .returned (.bool !(decide (Nm.cmpB m.1.lab x.data.toList < 0))) ∧ Below w.heap.size w w' := by
  obtain ⟨g, cap, b1, F1, c4, hcap, ci, hn⟩ := h.kidAt hm
  obtain ⟨_, _, _, _, c0, _⟩ := hn.cells
  have hi : i < n.2.kids.length := (List.getElem?_eq_some_iff.1 hm).1
  have hless := less_cmp m.1.lab x.toList
  have e2 : x.toList = x.data.toList := by rw [ByteArray.toList_eq]
  rw [e2] at hless
  rw [← hless, ← e2]
  generalize n.2.kids.length = k at *
  have hi1 : (i : Int) < (k : Int) := by omega
  have hi0 : (0 : Int) ≤ (i : Int) := by omega
  clear hless e2 h hm hn hcap
  go_enter Try.func98, Try.ntmps98
  go_wp2
  go_region
  go_wp2
  go_ret
  exact ⟨rfl, (Below.refl _ _).drew⟩
theorem sel_some_iff {f : Fo TV} (hok : f.ok) (x : By) {m : No TV} (hm : f.kids[f.idx x]? = some m) : (f.sel x).isSome = (m.1.lab == x) := by
  rcases idx_sel hok x with ⟨k, h1, h2⟩ | ⟨h1, h2⟩
  · rw [hm] at h2
    injection h2 with h2
    subst h2
    rw [h1, (sel_mem h1).2]; simp
  · rw [h1]
    have := h2 m hm
    simp [this]
set_option maxHeartbeats 1000000 in
set_option maxRecDepth 100000 in
theorem place_any {w : World} {top : Option Nat} {b : Nat} {n : No TV} {F : List Nat} (h : NodeM w top b n F) (hok : n.2.ok) (x : ByteArray) (hsz : n.2.kids.length < 4611686018427387904) :
    Calls Try.prog 84 #[ptr b, .string x] w fun e w' => e = .returned (.tuple #[.int .i64 (n.2.idx x.data.toList : Nat), .bool (n.2.sel x.data.toList).isSome]) ∧ Below w.heap.size w w' := by
  obtain ⟨W, hW⟩ : ∃ W, W = (w.alloc (.cells #[ptr b] 100)).alloc (.cells #[.string x] 9) := ⟨_, rfl⟩
  have hb : Below w.heap.size w W := by rw [hW]; exact ((Below.refl _ w).alloc (Nat.le_refl _) _).alloc (by simp) _
  have hz : W.heap.size = w.heap.size + 1 + 1 := by rw [hW]; simp
  have hd : Has W w.heap.size 100 #[ptr b] := by rw [hW]; exact (Has.fresh w _ _).alloc _
  have hl : Has W (w.heap.size + 1) 9 #[.string x] := by rw [hW]; have := Has.fresh (w.alloc (.cells #[ptr b] 100)) 9 #[.string x]; rwa [World.size_alloc] at this
  have hn := h.below hb (Nat.le_refl _)
  have hN := Lib.hid (fun W' (hb' : Below W.heap.size W W') => hn.below hb' (Nat.le_refl _))
  have hS := search_any 98 #[.pointer (some ⟨w.heap.size, 0, none⟩), .pointer (some ⟨w.heap.size + 1, 0, none⟩)] n.2.kids.length (fun i => match n.2.kids[i]? with | some m => !(decide (Nm.cmpB m.1.lab x.data.toList < 0)) | none => true) W hsz
    (fun W' i hb' hi => by
      obtain ⟨m, hm⟩ := kid_get hi
      rw [hm]
      exact placeC_any x (hN.out W' hb') hm (by rw [(hd.below hb' (by omega)).cell]; rfl) (by rw [(hl.below hb' (by omega)).cell]; rfl))
    (fun i j hij hj => by
      obtain ⟨m, hm⟩ := kid_get (f := n.2) (i := i) (by omega)
      obtain ⟨m', hm'⟩ := kid_get hj
      rw [hm, hm']
      simp only [Bool.not_eq_true', decide_eq_false_iff_not]
      intro h1 h2
      rcases Nat.lt_or_ge j (n.2.idx x.data.toList) with h3 | h3
      · obtain ⟨m2, e1, e2⟩ := idx_lt (f := n.2) (x := x.data.toList) (i := i) (by omega)
        rw [hm] at e1
        injection e1 with e1
        subst e1
        exact h1 e2
      · exact idx_ge hok h3 hm' h2)
    (enters_of Try.func98 (by kernel_rfl) rfl)
  rw [firstT_eq (idx_le n.2 x.data.toList) (fun t ht => by obtain ⟨m, e1, e2⟩ := idx_lt ht; rw [e1]; simp [e2]) (fun t h1 h2 => by
    obtain ⟨m, hm⟩ := kid_get h2
    rw [hm]
    have := idx_ge hok h1 hm
    simp [this])] at hS
  have hcases : (n.2.idx x.data.toList < n.2.kids.length ∧ ∃ m, n.2.kids[n.2.idx x.data.toList]? = some m ∧ (n.2.sel x.data.toList).isSome = (m.1.lab == x.data.toList)) ∨ (n.2.idx x.data.toList = n.2.kids.length ∧ (n.2.sel x.data.toList).isSome = false) := by
    rcases Nat.lt_or_ge (n.2.idx x.data.toList) n.2.kids.length with h1 | h1
    · obtain ⟨m, hm⟩ := kid_get h1
      exact .inl ⟨h1, m, hm, sel_some_iff hok _ hm⟩
    · have := idx_le n.2 x.data.toList
      refine .inr ⟨by omega, ?_⟩
      rcases idx_sel hok x.data.toList with ⟨k, _, h2⟩ | ⟨h2, _⟩
      · have := (List.getElem?_eq_some_iff.1 h2).1; omega
      · rw [h2]; rfl
  have e2 : x.data.toList = x.toList := by rw [ByteArray.toList_eq]
  have HS := Lib.hid hS
  have HD := Lib.hid hd
  have HL := Lib.hid hl
  have HB := Lib.hid hb
  have c4 : ∃ A cap, W.cell? ⟨b, 4, none⟩ = some (.slice A n.2.kids.length cap) := by
    obtain ⟨kv, ks, h1, h2, _, _, _, _, h4, _⟩ := hn.cells
    obtain ⟨A, cp, rfl⟩ := own_form h1
    exact ⟨A, cp, by rw [h4, h2]⟩
  obtain ⟨A4, cp4, c4⟩ := c4
  have d0 : W.cell? ⟨w.heap.size, 0, none⟩ = some (ptr b) := by rw [hd.cell]; rfl
  have hbW : b < W.heap.size := hn.blk_lt
  rcases hcases with ⟨hlt, m, hm, hsel⟩ | ⟨heq, hsel⟩
  · obtain ⟨g, cap, b1, F1, k4, hcap, ci, hk⟩ := hn.kidAt hm
    have k0 : W.cell? ⟨b1, 0, none⟩ = some (sv m.1.lab) := by obtain ⟨_, _, _, _, k0, _⟩ := hk.cells; exact k0
    rw [c4] at k4
    injection k4 with k4
    injection k4 with k4 _ k5
    subst k4 k5
    have hgW : g < W.heap.size := World.block_lt_of_cell? _ _ ci
    have hb1W : b1 < W.heap.size := hk.blk_lt
    rw [hsel, e2]
    have HC : Hid (∀ W', Below W.heap.size W W' → W'.cell? ⟨w.heap.size, 0, none⟩ = some (ptr b) ∧ W'.cell? ⟨w.heap.size + 1, 0, none⟩ = some (.string x) ∧ W'.cell? ⟨b, 4, none⟩ = some (.slice (some ⟨g, 0, none⟩) n.2.kids.length cp4) ∧ W'.cell? ⟨g, n.2.idx x.data.toList, none⟩ = some (ptr b1) ∧ W'.cell? ⟨b1, 0, none⟩ = some (sv m.1.lab)) := fun W' hb' =>
      ⟨by rw [(HD.out.below hb' (by omega)).cell]; rfl, by rw [(HL.out.below hb' (by omega)).cell]; rfl, (hb'.cell (p := ⟨b, 4, none⟩) hbW).trans c4, (hb'.cell (p := ⟨g, _, none⟩) hgW).trans ci, (hb'.cell (p := ⟨b1, 0, none⟩) hb1W).trans k0⟩
    clear hS hN hn h hok hm hk hd hl hb ci k0 hcap hsel
    rw [e2] at HS HC hlt
    generalize n.2.idx x.toList = i at *
    generalize n.2.kids.length = k at *
    have hi1 : decide ((i : Int) < (k : Int)) = true := decide_eq_true (by omega)
    have hi2 : (i : Int) < (k : Int) := by omega
    have hi0 : (0 : Int) ≤ (i : Int) := by omega
    clear e2 hlt
    subst hW
    go_enter Try.func84, Try.ntmps84
    go_wp2_with (go_at_call 93; refine HS.out.mono ?_; rintro e w2 ⟨rfl, hb2⟩; obtain ⟨d0', l0', c4', ci', k0'⟩ := HC.out w2 hb2)
    have hi3 : decide (i < k) = true := decide_eq_true (by omega)
    have HB2 := Lib.hid (HB.out.trans (hb2.mono HB.out.size))
    clear HC hb2 c4 d0 HD HL HS hz hbW hgW hb1W
    go_quiet (fail)
    go_wp2
    go_ret2
    exact ⟨rfl, below_drewN HB2.out _⟩
  · rw [hsel]
    have HC : Hid (∀ W', Below W.heap.size W W' → W'.cell? ⟨w.heap.size, 0, none⟩ = some (ptr b) ∧ W'.cell? ⟨w.heap.size + 1, 0, none⟩ = some (.string x) ∧ W'.cell? ⟨b, 4, none⟩ = some (.slice A4 n.2.kids.length cp4)) := fun W' hb' =>
      ⟨by rw [(HD.out.below hb' (by omega)).cell]; rfl, by rw [(HL.out.below hb' (by omega)).cell]; rfl, (hb'.cell (p := ⟨b, 4, none⟩) hbW).trans c4⟩
    clear hS hN hn h hok hd hl hb hsel
    rw [heq] at HS ⊢
    generalize n.2.kids.length = k at *
    have hi1 : decide ((k : Int) < (k : Int)) = false := decide_eq_false (by omega)
    clear e2 heq
    subst hW
    go_enter Try.func84, Try.ntmps84
    go_wp2_with (go_at_call 93; refine HS.out.mono ?_; rintro e w2 ⟨rfl, hb2⟩; obtain ⟨d0', l0', c4'⟩ := HC.out w2 hb2)
    have HB2 := Lib.hid (HB.out.trans (hb2.mono HB.out.size))
    clear HC hb2 c4 d0 HD HL HS hz hbW
    go_quiet (fail)
    go_wp2
    go_ret2
    exact ⟨rfl, below_drewN HB2.out _⟩
end Go.Proofs.Ytpnfkgjcnofjnaa.Ts
/- What a call leaves as it lay; set, unset, bare. -/
namespace Go.Proofs.Ytpnfkgjcnofjnaa.Ts
open Go.RowKit Go.Shelf Tr

/-- whatever lay, but these blocks, lies as it lay. -/
structure Only (S : List Nat) (w w' : World) : Prop where
  os : w'.os = w.os
  tape : w'.tape = w.tape
  output : w'.output = w.output
  size : w.heap.size ≤ w'.heap.size
  block : ∀ k, k < w.heap.size → k ∉ S → w'.heap[k]? = w.heap[k]?
section
variable {S T : List Nat} {w w1 w' : World} {B : Nat}
theorem Only.refl (S : List Nat) (w : World) : Only S w w := ⟨rfl, rfl, rfl, Nat.le_refl _, fun _ _ _ => rfl⟩
theorem Only.trans (h : Only S w w1) (k : Only S w1 w') : Only S w w' :=
  ⟨k.os.trans h.os, k.tape.trans h.tape, k.output.trans h.output, Nat.le_trans h.size k.size, fun i hi hs => (k.block i (Nat.lt_of_lt_of_le hi h.size) hs).trans (h.block i hi hs)⟩
/-- .. where the second writes blocks that the first has laid, too. -/
theorem Only.trans' (h : Only S w w1) (k : Only T w1 w') (ht : ∀ i ∈ T, i ∈ S ∨ w.heap.size ≤ i) : Only S w w' :=
  ⟨k.os.trans h.os, k.tape.trans h.tape, k.output.trans h.output, Nat.le_trans h.size k.size, fun i hi hs => (k.block i (Nat.lt_of_lt_of_le hi h.size) (fun hT => by rcases ht i hT with h1 | h1; exact hs h1; omega)).trans (h.block i hi hs)⟩
theorem Only.mono (h : Only S w w') (hs : ∀ i ∈ S, i ∈ T) : Only T w w' := ⟨h.os, h.tape, h.output, h.size, fun k hk hT => h.block k hk fun hS => hT (hs k hS)⟩
theorem Only.of_below (h : Below B w w') (hB : w.heap.size ≤ B) (S : List Nat) : Only S w w' := ⟨h.os, h.tape, h.output, h.size, fun k hk _ => h.block k (Nat.lt_of_lt_of_le hk hB)⟩
theorem Only.below (h : Only S w w') (hs : ∀ i ∈ S, B ≤ i) (hB : B ≤ w.heap.size) : Below B w w' := ⟨h.os, h.tape, h.output, h.size, fun k hk => h.block k (by omega) fun hS => by have := hs k hS; omega⟩
theorem Only.setCell (h : Only S w w') {p : Addr} (hp : p.block ∈ S ∨ w.heap.size ≤ p.block) (u : Value) : Only S w (w'.setCell p u) :=
  ⟨h.os, h.tape, h.output, by simpa using h.size, fun k hk hS => (heap_setCell_other w' p k u (fun e => by rcases hp with hp | hp; exact hS (e ▸ hp); omega)).trans (h.block k hk hS)⟩
theorem Only.grown (h : Only S w w') {w2 : World} {row : Option Nat} (hg : w'.grownBy w2 row) (hr : ∀ r, row = some r → r ∈ S ∨ w.heap.size ≤ r) : Only S w w2 :=
  ⟨hg.os.trans h.os, hg.tape.trans h.tape, hg.output.trans h.output, Nat.le_trans h.size hg.size, fun k hk hS => (hg.block k (Nat.lt_of_lt_of_le hk h.size) (fun e => by rcases hr k e.symm with h1 | h1; exact hS h1; omega)).trans (h.block k hk hS)⟩
theorem Only.has (h : Only S w w') {g : Nat} {t : TypeId} {cs : Array Value} (hg : g ∉ S) (hh : Has w g t cs) : Has w' g t cs := (h.block g hh.lt hg).trans hh
theorem Only.node (h : Only S w w') {top : Option Nat} {b : Nat} {n : No TV} {F : List Nat} (hn : NodeM w top b n F) (hd : ∀ k ∈ F, k ∉ S) : NodeM w' top b n F := hn.same fun k hk => h.block k (hn.lt k hk) (hd k hk)
end
/-- what is new of a footprint. -/
def New (w : World) (F F' : List Nat) : Prop := ∀ k ∈ F', k ∈ F ∨ w.heap.size ≤ k
theorem New.refl (w : World) (F : List Nat) : New w F F := fun _ h => .inl h
theorem New.trans {w w1 : World} {F F1 F2 : List Nat} (h : New w F F1) (k : New w1 F1 F2) (hs : w.heap.size ≤ w1.heap.size) : New w F F2 := fun i hi => by
  rcases k i hi with h1 | h1
  · exact h i h1
  · exact .inr (by omega)
section
variable {w : World} {top : Option Nat} {b : Nat} {n : No TV} {F : List Nat}
/-- the cells of a node are written. -/
theorem NodeM.put (h : NodeM w top b n F) (hd : F.Nodup) (k : By) (v : TV) (hl : Bool) :
    NodeM (((w.setCell ⟨b, 1, none⟩ (sv k)).setCell ⟨b, 2, none⟩ (tz v)).setCell ⟨b, 3, none⟩ (.bool hl)) top b (⟨n.1.lab, k, v, hl⟩, n.2) F := by
  obtain ⟨kv, ks, F1, rfl, h3, h4, h5⟩ := h
  have hne : ∀ j, j ∈ rowB kv ∨ j ∈ F1 → j ≠ b := fun j hj e => by
    subst e
    have := (List.nodup_cons.1 hd).1
    rcases hj with hj | hj <;> simp [hj] at this
  have hs : ∀ j, j ≠ b → (((w.setCell ⟨b, 1, none⟩ (sv k)).setCell ⟨b, 2, none⟩ (tz v)).setCell ⟨b, 3, none⟩ (.bool hl)).heap[j]? = w.heap[j]? := fun j hj =>
    ((heap_setCell_other _ ⟨b, 3, none⟩ j _ hj).trans (heap_setCell_other _ ⟨b, 2, none⟩ j _ hj)).trans (heap_setCell_other _ ⟨b, 1, none⟩ j _ hj)
  refine ⟨kv, ks, F1, rfl, ?_, row_same h4 fun j hj => hs j (hne j (.inl hj)), h5.same fun j hj => hs j (hne j (.inr hj))⟩
  have := ((h3.set 1 (sv k)).set 2 (tz v)).set 3 (.bool hl)
  cases top <;> exact this
end
set_option maxRecDepth 100000 in
theorem set_any {w : World} {top : Option Nat} {b : Nat} {n : No TV} {F : List Nat} (h : NodeM w top b n F) (hd : F.Nodup) (k : By) (v : TV) :
    Calls Try.prog 66 #[ptr b, sv k, tz v] w fun e w' => e = .returned (.bool !n.1.held) ∧ NodeM w' top b (setN k v n) F ∧ Only [b] w w' := by
  have hp := Lib.hid (h.put hd k v true)
  have ho : Hid (Only [b] w (((w.setCell ⟨b, 1, none⟩ (sv k)).setCell ⟨b, 2, none⟩ (tz v)).setCell ⟨b, 3, none⟩ (.bool true))) :=
    (((Only.refl [b] w).setCell (p := ⟨b, 1, none⟩) (.inl (by simp)) _).setCell (p := ⟨b, 2, none⟩) (.inl (by simp)) _).setCell (p := ⟨b, 3, none⟩) (.inl (by simp)) _
  obtain ⟨kv, ks, _, _, _, c1, c2, c3, _, hf⟩ := h.cells
  have f1 := hf 1
  have f2 := hf 2
  have f3 := hf 3
  clear h hd hf
  go_enter Try.func66, Try.ntmps66
  go_wp2
  go_ret
  exact ⟨rfl, hp.out, ho.out⟩
set_option maxRecDepth 100000 in
theorem unset_any {w : World} {top : Option Nat} {b : Nat} {n : No TV} {F : List Nat} (h : NodeM w top b n F) (hd : F.Nodup) :
    Calls Try.prog 87 #[ptr b] w fun e w' => e = .returned (.bool n.1.held) ∧ NodeM w' top b (unsetN n) F ∧ Only [b] w w' := by
  have hp := Lib.hid (h.put hd [] default false)
  have ho : Hid (Only [b] w (((w.setCell ⟨b, 1, none⟩ (sv [])).setCell ⟨b, 2, none⟩ (tz default)).setCell ⟨b, 3, none⟩ (.bool false))) :=
    (((Only.refl [b] w).setCell (p := ⟨b, 1, none⟩) (.inl (by simp)) _).setCell (p := ⟨b, 2, none⟩) (.inl (by simp)) _).setCell (p := ⟨b, 3, none⟩) (.inl (by simp)) _
  obtain ⟨kv, ks, _, _, _, c1, c2, c3, _, hf⟩ := h.cells
  have f1 := hf 1
  have f2 := hf 2
  have f3 := hf 3
  clear h hd hf
  go_enter Try.func87, Try.ntmps87
  go_wp2
  go_ret
  exact ⟨rfl, hp.out, ho.out⟩
set_option maxRecDepth 100000 in
theorem bare_any {w : World} {top : Option Nat} {b : Nat} {n : No TV} {F : List Nat} (h : NodeM w top b n F) :
    Calls Try.prog 69 #[ptr b] w fun e w' => e = .returned (.bool (bare n)) ∧ w' = w := by
  obtain ⟨kv, ks, hr, hk, _, _, _, c3, c4, _⟩ := h.cells
  obtain ⟨A, cp, rfl⟩ := own_form hr
  rw [hk] at c4
  unfold bare
  have hz : n.2.kids.isEmpty = ((n.2.kids.length : Int) == 0) := by cases n.2.kids <;> simp <;> omega
  rw [hz]
  generalize n.2.kids.length = m at *
  generalize n.1.held = hl at *
  clear h hr hk hz
  cases hl with
  | true =>
    go_enter Try.func69, Try.ntmps69
    go_wp2
    go_ret
    exact ⟨rfl, rfl⟩
  | false =>
    go_enter Try.func69, Try.ntmps69
    go_wp2
    go_ret
    exact ⟨rfl, rfl⟩
end Go.Proofs.Ytpnfkgjcnofjnaa.Ts
