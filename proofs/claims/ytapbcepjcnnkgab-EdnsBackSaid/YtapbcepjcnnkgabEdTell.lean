/- tell: options handed on, one by one, to what is handed in. -/
import Derived.Test.YtapbcepjcnnkgabEdThru
namespace Go.Proofs.Ytapbcepjcnnkgab
open Go.RowKit Go.Shelf
attribute [local go_sem] Oper.semAt_some

/-- what a put leaves: the books, and two blocks. -/
def PutK (b : Nat) (W W' : World) : Prop := KeepsB W W' ∧ W'.heap[b]? = W.heap[b]? ∧ W'.heap[b + 1]? = W.heap[b + 1]?
/-- what is said abides what tell does with its own. -/
def TellQ (b : Nat) (Q : Nat → World → Prop) : Prop := ∀ i W W' row, Q i W → W.grownBy W' row → (∀ r, row = some r → r = b + 1 ∨ (b + 2 ≤ r ∧ ∃ o : Obj, W.heap[r]? = some o ∧ isBook o = true)) → Q i W'
theorem TellQ.below {b : Nat} {Q : Nat → World → Prop} (h : TellQ b Q) {i : Nat} {W W' : World} (hq : Q i W) (hb : Below W.heap.size W W') : Q i W' := h i W W' none hq (grown_of_below hb) (fun r e => by cases e)
theorem TellQ.set {b : Nat} {Q : Nat → World → Prop} (h : TellQ b Q) {i : Nat} {W : World} (hq : Q i W) (u : Value) : Q i (W.setCell ⟨b + 1, 0, none⟩ u) :=
  h i W _ (some (b + 1)) hq ⟨rfl, rfl, rfl, by simp, fun j _ hj => heap_setCell_other W ⟨b + 1, 0, none⟩ j u (fun e => hj (by rw [e]))⟩ (fun r e => by cases e; exact .inl rfl)
theorem TellQ.book {b : Nat} {Q : Nat → World → Prop} (h : TellQ b Q) {B : Nat} (hB : b + 2 ≤ B) : Book B Q := fun i _ _ _ hq hg hr => h i _ _ _ hq hg (fun r e => .inr ⟨by have := (hr r e).1; omega, (hr r e).2⟩)
theorem book_conj {B : Nat} {I J : Nat → World → Prop} (h : Book B I) (k : Book B J) : Book B (fun i W => I i W ∧ J i W) := fun i W W' row hi hg hr => ⟨h i W W' row hi.1 hg hr, k i W W' row hi.2 hg hr⟩
theorem book_blk {B b : Nat} {t : TypeId} {cs : Nat → Array Value} (hb : b < B) : Book B (fun i W => Has W b t (cs i)) := fun _ _ _ _ hi hg hr => (hg.block b (Array.getElem?_eq_some_iff.1 hi).1 (fun e => by have := (hr b e.symm).1; omega)).trans hi
theorem book_size {B n : Nat} : Book B (fun _ W => n ≤ W.heap.size) := fun _ _ _ _ hi hg _ => Nat.le_trans hi hg.size
theorem book_no {B : Nat} : Book B (fun _ _ => False) := fun _ _ _ _ h _ _ => h
theorem book_prop {B : Nat} (p : Prop) : Book B (fun _ _ => p) := fun _ _ _ _ h _ _ => h

/-- what holds between two rounds. -/
def TIM (b : Nat) (l : List UInt8) (Q : Nat → World → Prop) (i : Nat) (W : World) : Prop :=
  Q i W ∧ Has W b 61 #[.func (.func 20) #[] #[]] ∧ Has W (b + 1) 9 #[sv (Ed.rs l i)] ∧ b + 3 ≤ W.heap.size
theorem TIM.book {b : Nat} {l : List UInt8} {Q : Nat → World → Prop} (h : TellQ b Q) {B : Nat} (hB : b + 2 ≤ B) : Book B (TIM b l Q) :=
  book_conj (h.book hB) (book_conj (book_blk (cs := fun _ => #[.func (.func 20) #[] #[]]) (by omega)) (book_conj (book_blk (cs := fun i => #[sv (Ed.rs l i)]) (by omega)) book_size))
/-- what holds within a round, when it begins. -/
def TTM (b : Nat) (s : ByteArray) (Q : Nat → World → Prop) (i : Nat) (a : Act) (W : World) : Prop :=
  ∃ g, b + 3 ≤ g ∧ Has W g 60 #[.int .u16 (((Ed.all s.data.toList).getD i (0, [], [])).1 : Nat), sv ((Ed.all s.data.toList).getD i (0, [], [])).2.1] ∧ TIM b s.data.toList Q i W ∧
    a = { tmps := #[.string s, .func (.func 20) #[] #[], undef, .pointer (some ⟨b, 0, none⟩), .bool false, .pointer (some ⟨b + 1, 0, none⟩), .pointer (some ⟨g, 0, none⟩), sv (Ed.rs s.data.toList (i + 1)), .string s, .string s, .func (.func 22) #[] #[.pointer (some ⟨b + 1 + 1, 0, none⟩)], opv ((Ed.all s.data.toList).getD i (0, [], [])), sv (Ed.rs s.data.toList (i + 1)), undef, undef, undef, undef, undef, undef], defers := [] }
theorem TTM.book {b : Nat} {s : ByteArray} {Q : Nat → World → Prop} (h : TellQ b Q) {B : Nat} (hB : b + 2 ≤ B) (i : Nat) (a : Act) : Book B (fun _ W => TTM b s Q i a W) := by
  rintro j W W' row ⟨g, hg, h1, h2, h3⟩ hgr hr
  refine ⟨g, hg, (hgr.block g h1.lt (fun e => ?_)).trans h1, TIM.book h hB i W W' row h2 hgr hr, h3⟩
  obtain ⟨_, o, ho, hbk⟩ := hr g e.symm
  rw [show W.heap[g]? = _ from h1] at ho
  cases ho
  cases hbk
set_option maxRecDepth 100000 in
set_option maxHeartbeats 2000000 in
theorem tellM_in (s : ByteArray) (w : World) (hs : s.size ≤ maxLen) (Q : Nat → World → Prop) (hQ : TellQ w.heap.size Q) (h0 : ∀ W, Below w.heap.size w W → Q 0 W)
    (hput : ∀ i W, i < (Ed.all s.data.toList).length → Q i W → w.heap.size + 3 ≤ W.heap.size → Calls Try.prog 20 #[opv ((Ed.all s.data.toList).getD i (0, [], []))] W fun e W' => (∃ v, e = .returned v) ∧ Q (i + 1) W' ∧ PutK w.heap.size W W') :
    Calls Try.prog 19 #[.string s, .func (.func 20) #[] #[]] w fun e w' => e = .returned (.bool (Ed.may s.data.toList)) ∧ Q (Ed.all s.data.toList).length w' := by
  refine (callsIn_wide (n := 4)).1 ?_
  refine callsIn_of_wp_marks Try.func19 rfl trivial ?_ rfl
  simp only [Try.ntmps19, List.size_toArray, List.length_cons, List.length_nil, Nat.reduceAdd, Nat.reduceSub, Array.replicate_succ, Array.replicate_zero, List.push_toArray, List.append_toArray, List.nil_append, List.cons_append]
  have HS := Lib.hid hs
  have HQ := Lib.hid hQ
  have H0 := Lib.hid h0
  have HP := Lib.hid hput
  clear hs hQ h0 hput
  gi_wp2_with (refine ⟨trivial, ?_⟩; gi_at_call 21; refine (callsIn_wide.2 (through_any _ _)).mono ?_; rintro e w3 ⟨rfl, rfl⟩)
  have hF0 : Has (((w.alloc (.cells #[.func (.func 20) #[] #[]] 61)).alloc (.cells #[.string s] 9)).alloc (.cells #[.string s] 9)) w.heap.size 61 #[.func (.func 20) #[] #[]] := ((Has.fresh w _ _).alloc _).alloc _
  have hF1 : Has (((w.alloc (.cells #[.func (.func 20) #[] #[]] 61)).alloc (.cells #[.string s] 9)).alloc (.cells #[.string s] 9)) (w.heap.size + 1) 9 #[.string s] := by
    have := Has.fresh (w.alloc (.cells #[.func (.func 20) #[] #[]] 61)) 9 #[.string s]
    rw [World.size_alloc] at this
    exact this.alloc _
  have hF2 : Has (((w.alloc (.cells #[.func (.func 20) #[] #[]] 61)).alloc (.cells #[.string s] 9)).alloc (.cells #[.string s] 9)) (w.heap.size + 1 + 1) 9 #[.string s] := by
    have := Has.fresh ((w.alloc (.cells #[.func (.func 20) #[] #[]] 61)).alloc (.cells #[.string s] 9)) 9 #[.string s]
    rw [World.size_alloc, World.size_alloc] at this
    exact this
  have hb3 : Below w.heap.size w (((w.alloc (.cells #[.func (.func 20) #[] #[]] 61)).alloc (.cells #[.string s] 9)).alloc (.cells #[.string s] 9)) := (((Below.refl _ _).alloc (Nat.le_refl _) _).alloc (by simp) _).alloc (by simp; omega) _
  have hz3 : (((w.alloc (.cells #[.func (.func 20) #[] #[]] 61)).alloc (.cells #[.string s] 9)).alloc (.cells #[.string s] 9)).heap.size = w.heap.size + 3 := by simp
  have HF0 := Lib.hid hF0
  have HF1 := Lib.hid hF1
  have HF2 := Lib.hid hF2
  have HB3 := Lib.hid hb3
  have HZ3 := Lib.hid hz3
  clear hF0 hF1 hF2 hb3 hz3
  generalize (((w.alloc (.cells #[.func (.func 20) #[] #[]] 61)).alloc (.cells #[.string s] 9)).alloc (.cells #[.string s] 9)) = w3 at *
  refine wpIn_rangeFunc_B rfl (by omega) (gf := 22) (lb := #[.pointer (some ⟨w.heap.size + 1 + 1, 0, none⟩)]) rfl trivial (enters_of Try.func22 (by kernel_rfl) rfl)
    (through_seq 3 (by omega) (w.heap.size + 1 + 1) s HS.out _ HF2.out) (fun _ => rfl)
    (TIM w.heap.size s.data.toList Q)
    (fun _ _ _ => False)
    (TIM.book HQ.out (by have := HZ3.out; omega))
    (fun _ => book_no)
    ⟨H0.out _ HB3.out, HF0.out, (by have e : sv (Ed.rs s.data.toList 0) = .string s := congrArg Value.string (string_eq rfl).symm
                                    rw [e]; exact HF1.out), by have := HZ3.out; omega⟩
    (TTM w.heap.size s Q)
    (fun i a => TTM.book HQ.out (by have := HZ3.out; omega) i a) ?assign ?body ?done ?stop
  case assign =>
    rintro l2 i W K ⟨hq, hh0, hh1, hsz⟩ hi hK
    have HK := Lib.hid hK
    have HQI := Lib.hid hq
    have HH0 := Lib.hid hh0
    have HH1 := Lib.hid hh1
    clear hK hq hh0 hh1
    unfold edV
    obtain ⟨x, hx⟩ : ∃ x, (Ed.all s.data.toList).getD i (0, [], []) = x := ⟨_, rfl⟩
    rw [hx]
    have HX := Lib.hid hx
    clear hx
    gi_wp2
    refine HK.out _ _ ⟨W.heap.size, hsz, by rw [HX.out]; exact Has.fresh W _ _, ⟨HQ.out.below HQI.out ((Below.refl _ _).alloc (Nat.le_refl _) _), HH0.out.alloc _, HH1.out.alloc _, by simp; omega⟩, by rw [HX.out]⟩ (KeepsB.of_below ((Below.refl _ _).alloc (Nat.le_refl _) _) (Nat.le_refl _))
  case body =>
    rintro l2 i a' W ⟨g, hg, hh, ⟨hq, hh0, hh1, hsz⟩, rfl⟩ hi
    have HPI := Lib.hid (HP.out i W hi hq hsz)
    have c0 : W.cell? ⟨w.heap.size, 0, none⟩ = some (.func (.func 20) #[] #[]) := by rw [hh0.cell]; rfl
    have c1 : W.cell? ⟨g, 0, none⟩ = some (.int .u16 (((Ed.all s.data.toList).getD i (0, [], [])).1 : Nat)) := by rw [hh.cell]; rfl
    have c2 : W.cell? ⟨g, 1, none⟩ = some (sv ((Ed.all s.data.toList).getD i (0, [], [])).2.1) := by rw [hh.cell]; rfl
    have HH0 := Lib.hid hh0
    have HH1 := Lib.hid hh1
    clear hh hq hh0 hh1
    generalize (Ed.all s.data.toList).getD i (0, [], []) = x at *
    gi_wp2_with (refine ⟨trivial, ?_⟩; gi_at_call 20; refine (CallsIn.inRound l2 (callsIn_wide.2 HPI.out)).mono ?_; rintro e w5 ⟨⟨v5, rfl⟩, hq5, hk5, hb5, hb6⟩; have h05 : Has w5 w.heap.size _ _ := hb5.trans HH0.out; have h15 : Has w5 (w.heap.size + 1) _ _ := hb6.trans HH1.out; have HQ5 := Lib.hid hq5; have HK5 := Lib.hid hk5; have H05 := Lib.hid h05; have H15 := Lib.hid h15; have d1 : w5.cell? ⟨w.heap.size + 1, 0, none⟩ = some (sv (Ed.rs s.data.toList i)) := (by rw [h15.cell]; rfl); have f1 := h15.free 0; clear hq5 hk5 hb5 hb6 h05 h15)
    refine ⟨HK5.out.trans (KeepsB.has H15.out _), HQ.out.set HQ5.out _, H05.out.far (p := ⟨w.heap.size + 1, 0, none⟩) (by simp) _, H15.out.set 0 _, by have := HK5.out.size; simp; omega⟩
  case done =>
    rintro D W hD ⟨hq, hh0, hh1, hsz⟩ hK
    have d1 : W.cell? ⟨w.heap.size + 1, 0, none⟩ = some (sv (Ed.rs s.data.toList (Ed.all s.data.toList).length)) := by rw [hh1.cell]; rfl
    have HK := Lib.hid hK
    have HQI := Lib.hid hq
    have HM : Hid (Ed.may s.data.toList = (Ed.rs s.data.toList (Ed.all s.data.toList).length).isEmpty) := rfl
    clear hK hq hh0 hh1
    generalize Ed.rs s.data.toList (Ed.all s.data.toList).length = r at *
    gi_wp2
    refine ⟨by simp, .inl ⟨_, _, rfl, run_takeDeferred HK.out, ?_⟩⟩
    refine ⟨_, results_tmp rfl _ _ _, ?_, ?_⟩
    · rw [HM.out]
      rfl
    · exact HQ.out _ _ _ _ HQI.out (grownBy_putObj' W D _) (fun r e => by cases e; exact .inr ⟨by have := HZ3.out; omega, _, HK.out, rfl⟩)
  case stop =>
    rintro D c2 i W _ h _
    exact h.elim

end Go.Proofs.Ytapbcepjcnnkgab
