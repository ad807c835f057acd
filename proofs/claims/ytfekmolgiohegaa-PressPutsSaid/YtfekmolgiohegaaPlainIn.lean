/- Plain: a name written without a pointer: the walk. -/
import Derived.Test.YtfekmolgiohegaaPlain
namespace Go.Proofs.Ytfekmolgiohegaa
open Go.RowKit Go.Shelf
attribute [local go_sem] Oper.semAt_some

/-- what a writing leaves: the bytes behind what there was, the table, and all else as it was. -/
def PutDone (plain : Bool) (g base : Nat) (t : Tab) (l : List UInt8) (ls : List (List UInt8)) (w : World) (e : Ending) (w' : World) : Prop :=
  ∃ v mp', e = .returned (.tuple #[v, .int .i64 0]) ∧ w'.ownsRow w.heap.size 5 1 v (l ++ (Pr.pw plain t l.length ls).2).length (bv (l ++ (Pr.pw plain t l.length ls).2)) ∧ Tb w' g base mp' (Pr.pw plain t l.length ls).1 ∧ Rg g base w w'

/-- between two rounds. -/
def PlI (plain : Bool) (g base : Nat) (t : Tab) (l : List UInt8) (ls : List (List UInt8)) (w : World) (i : Nat) (W : World) : Prop :=
  ∃ mp T, Tb W g base mp T ∧ Pr.Cont plain t l.length ls i T ∧ T.length ≤ t.length + i ∧ Pr.Ahead t T ls i ∧ Rg g base w W
theorem PlI.book {plain : Bool} {g base : Nat} {t : Tab} {l : List UInt8} {ls : List (List UInt8)} {w : World} {B : Nat} (hB : w.heap.size ≤ B) (hg : g < w.heap.size) (hb : base ≤ w.heap.size) : Book B (PlI plain g base t l ls w) := by
  rintro i W W' row ⟨mp, T, h1, h2, h3, h4, h5⟩ hgr hr
  refine ⟨mp, T, h1.grown hgr (fun e => ?_) (fun r e o ho => ?_), h2, h3, h4, h5.grown_new hgr (fun r e => ?_) hb⟩
  · have := (hr g e.symm).1; omega
  · obtain ⟨_, o', ho', hbk⟩ := hr r e
    rw [ho] at ho'
    cases ho'
    cases o <;> simp_all [isBook, isMapO]
  · have := (hr r e).1; omega
theorem book_and {B : Nat} {I J : Nat → World → Prop} (h : Book B I) (k : Book B J) : Book B (fun i W => I i W ∧ J i W) := fun i W W' row hi hg hr => ⟨h i W W' row hi.1 hg hr, k i W W' row hi.2 hg hr⟩
theorem book_has {B b : Nat} {t : TypeId} {cs : Array Value} (hb : b < B) : Book B (fun _ W => Has W b t cs) := fun _ W W' row hi hg hr => hi.grown hg (fun e => by have := (hr b e.symm).1; omega)
theorem book_false {B : Nat} : Book B (fun _ _ => False) := fun _ _ _ _ h _ _ => h

set_option maxRecDepth 100000 in
set_option maxHeartbeats 2000000 in
theorem plain_in (g base : Nat) (mp : Option Nat) (t : Tab) (A : Option Addr) (l : List UInt8) (c : Nat) (s : ByteArray) (ls : List (List UInt8)) (w : World) (hT : Tb w g base mp t) (hbase : base ≤ w.heap.size)
    (hs : Nm.split s.data.toList = some ls) (_hc : l.length ≤ c) (hnil : A = none → c = 0) (hm : l.length ≤ 140737488355000) (hr : Bs w 0 w.heap.size A l) (ht : t.length ≤ 140737488354000) :
    Calls Try.prog 11 #[.pointer (some ⟨g, 0, none⟩), .slice A l.length c, .string s] w (PutDone true g base t l ls w) := by
  obtain ⟨hgl, hgd, h255⟩ := Nm.split_some.1 hs
  have hfew := few hs
  have hgw := hT.2.1.lt
  have hsz : s.size = (Nm.glue ls).length := by rw [← hgl]; simp
  have hs255 : s.size ≤ 255 := by rw [hsz, ← hgl]; exact h255
  have HC : ∀ W, Hid (Calls Try.prog 21 #[.pointer (some ⟨g, 0, none⟩), .string s] W fun e w' => e = .returned (.int .i64 0) ∧ Below W.heap.size W w') := fun W => by
    have := pcheck_any g s W (by omega)
    rw [hs] at this
    exact this
  refine (callsIn_wide (n := 4)).1 ?_
  refine callsIn_of_wp_marks Try.func11 rfl trivial ?_ rfl
  simp only [Try.ntmps11, List.size_toArray, List.length_cons, List.length_nil, Nat.reduceAdd, Nat.reduceSub, Array.replicate_succ, Array.replicate_zero, List.push_toArray, List.append_toArray, List.nil_append, List.cons_append]
  have HT := Lib.hid hT
  have HS := Lib.hid hs
  have HR := Lib.hid hr
  have HN := Lib.hid hnil
  have HZ := Lib.hid hsz
  have HG := Lib.hid hgl
  clear hT hs hgl hgd h255 hnil hr hsz
  gi_wp2_with (refine ⟨trivial, ?_⟩; gi_at_call 21; refine (callsIn_wide.2 (HC _).out).mono ?_; rintro e w2 ⟨rfl, hb2⟩)
  gi_wp2_with (refine ⟨trivial, ?_⟩; gi_at_call 22; refine (callsIn_wide.2 (tails_any _ _)).mono ?_; rintro e w3 ⟨rfl, rfl⟩)
  have hbs2 := hb2.size
  simp at hbs2
  have hb02 : Below w.heap.size w w2 := (((Below.refl _ _).alloc (Nat.le_refl _) _).alloc (by simp) _).trans (hb2.mono (by simp; omega))
  have hH3 : Has (w2.alloc (.cells #[.string s] 32)) w.heap.size 24 #[.pointer (some ⟨g, 0, none⟩)] := (((Has.fresh w 24 #[.pointer (some ⟨g, 0, none⟩)]).alloc _).below hb2 (by simp; omega)).alloc _
  have hH4 : Has (w2.alloc (.cells #[.string s] 32)) (w.heap.size + 1) 31 #[.slice A l.length c] := by
    have := Has.fresh (w.alloc (.cells #[.pointer (some ⟨g, 0, none⟩)] 24)) 31 #[.slice A l.length c]
    rw [World.size_alloc] at this
    exact (this.below hb2 (by simp)).alloc _
  have hb03 : Below w.heap.size w (w2.alloc (.cells #[.string s] 32)) := hb02.alloc (by omega) _
  have H3 := Lib.hid hH3
  have H4 := Lib.hid hH4
  have HB3 := Lib.hid hb03
  clear hb2 hH3 hH4 hb02 hb03 HC
  refine wpIn_rangeFunc_N rfl (by omega) (gf := 31) (lb := #[.pointer (some ⟨w2.heap.size, 0, none⟩)]) rfl trivial (enters_of Try.func31 (by kernel_rfl) rfl) (lo := w2.heap.size) (by simp)
    (tails_seq 3 (by omega) w2.heap.size w2.heap.size s ls HS.out _ (Has.fresh w2 _ _) (Nat.le_refl _)) (fun _ => rfl)
    (fun i W => PlI true g base t l ls w i W ∧ Has W w.heap.size 24 #[.pointer (some ⟨g, 0, none⟩)] ∧ Has W (w.heap.size + 1) 31 #[.slice A l.length c])
    (fun _ _ _ => False)
    (book_and (PlI.book (by simp; omega) hgw hbase) (book_and (book_has (by simp; omega)) (book_has (by simp; omega))))
    (fun _ => book_false)
    ⟨⟨mp, t, HT.out.below HB3.out, Pr.Cont.zero _ _ _ _, Nat.le_refl _, Pr.Ahead.zero _ _, Rg.of_below HB3.out hbase⟩, H3.out, H4.out⟩
    (fun i => { tmps := #[.pointer (some ⟨g, 0, none⟩), .slice A l.length c, .string s, .pointer (some ⟨w.heap.size, 0, none⟩), .pointer (some ⟨w.heap.size + 1, 0, none⟩), undef, .slice none 0 0, .int .i64 0, .int .i64 0, .int .i64 ((Nm.body (ls.take i)).length : Nat), sv (Nm.glue (ls.drop i)), .pointer (some ⟨g, 0, none⟩), .string s, .int .i64 0, .int .i64 0, .bool false, undef, .string s, .func (.func 31) #[] #[.pointer (some ⟨w2.heap.size, 0, none⟩)], .int .i64 ((Nm.body (ls.take i)).length : Nat), sv (Nm.glue (ls.drop i)), undef, undef, undef, undef, undef, undef, undef, undef, undef, undef, undef, undef], defers := [] }) ?assign ?body ?done ?stop
  case assign =>
    intro l2 i W K hK
    unfold tailV
    gi_wp2
    exact hK
  case body =>
    rintro l2 i W ⟨⟨mp2, T, hT2, hC2, hl2, hA2, hR2⟩, hh3, hh4⟩ hi
    have hsz2 := hR2.below.size
    have hbt : (Nm.body (ls.take i)).length ≤ 255 := by
      have h1 := Nm.body_take_le (ls := ls) (i := i)
      have h2 := HZ.out
      rw [Nm.glue_length] at h2
      omega
    have hgd : (Nm.glue (ls.drop i)).length ≤ 255 := by
      have h1 := glue_at ls i
      have h2 := congrArg List.length h1
      rw [List.length_drop] at h2
      have h3 := HZ.out
      omega
    have hrem := remember_any g base mp2 T ⟨(Nm.glue (ls.drop i)).toArray⟩ (l.length + (Nm.body (ls.take i)).length) W hT2 (by omega) (by rw [mk_size]; omega) (by omega) (by omega)
    rw [Int.natCast_add] at hrem
    have HREM := Lib.hid hrem
    have hc3 : W.cell? ⟨w.heap.size, 0, none⟩ = some (.pointer (some ⟨g, 0, none⟩)) := by rw [hh3.cell]; rfl
    have hc4 : W.cell? ⟨w.heap.size + 1, 0, none⟩ = some (.slice A l.length c) := by rw [hh4.cell]; rfl
    have HH3 := Lib.hid hh3
    have HH4 := Lib.hid hh4
    have HT2 := Lib.hid hT2
    have HC2 := Lib.hid (hC2.step hi (fun h => by cases h.2))
    have HA2 := Lib.hid (hA2.step (p := l.length + (Nm.body (ls.take i)).length) hi)
    have HR2 := Lib.hid hR2
    clear hrem hh3 hh4 hT2 hC2 hA2 hR2
    dsimp only
    gi_wp2_with (refine ⟨trivial, ?_⟩; gi_at_call 23; refine (CallsIn.inRound l2 (callsIn_wide.2 HREM.out)).mono ?_; rintro e w5 ⟨rfl, mp5, hT5, hR5⟩)
    have hlen := Pr.rem_len T (Nm.glue (ls.drop i)) (l.length + (Nm.body (ls.take i)).length)
    exact ⟨hR5.keeps (by omega), ⟨mp5, _, hT5, HC2.out, by omega, HA2.out, HR2.out.trans hR5⟩, hR5.has HH3.out (by omega), hR5.has HH4.out (by omega)⟩
  case done =>
    rintro D W hD ⟨⟨mp2, T, hT2, hC2, hl2, hA2, hR2⟩, hh3, hh4⟩ hK
    have hc4 : W.cell? ⟨w.heap.size + 1, 0, none⟩ = some (.slice A l.length c) := by rw [hh4.cell]; rfl
    have hsz2 := hR2.below.size
    have hDl := (Array.getElem?_eq_some_iff.1 hK).1
    have HK := Lib.hid hK
    have HT2 := Lib.hid hT2
    have HP := Lib.hid hC2.done
    have HR2 := Lib.hid hR2
    have HB := Lib.hid ((hR2.bs HT.out HR.out).more (Nat.le_refl _) hsz2)
    clear hK hT2 hC2 hA2 hR2 hh3 hh4
    dsimp only
    gi_wp2_with (refine wpListIn_bytes rfl 32 31 (.tmp 29) rfl 5 Try.underlying32 Try.underlying31 Try.underlying5 s rfl ?_; intro cap w6 hb6 hcap6 hbl6 hsz6)
    have hF := Has.fresh w6 31 #[.slice A l.length c, .slice (some ⟨W.heap.size, 0, none⟩) s.size cap]
    rw [hsz6] at hF
    have hsl : s.size = s.data.toList.length := by simp
    have hbl7 : Below W.heap.size W (w6.alloc (.cells #[.slice A l.length c, .slice (some ⟨W.heap.size, 0, none⟩) s.size cap] 31)) := hbl6.alloc (by omega) _
    have hcat := concat2 (W.heap.size + 1) A (some ⟨W.heap.size, 0, none⟩) c cap l.length s.size l s.data.toList (w6.alloc (.cells #[.slice A l.length c, .slice (some ⟨W.heap.size, 0, none⟩) s.size cap] 31))
      (by simp; omega) (by rw [hF.cell]; rfl) (by rw [hF.cell]; rfl) rfl hsl ((HB.out.keep hbl7).more (Nat.le_refl _) (by simp; omega)) ((hb6.alloc (by omega) _).more (Nat.zero_le _) (by simp; omega)) HN.out (fun e => by cases e) (by rw [List.length_append, ← hsl]; omega)
    have HCAT := Lib.hid hcat
    have HB7 := Lib.hid hbl7
    clear hb6 hF hcat hsl hbl6 hbl7
    gi_wp2_with (refine ⟨trivial, ?_⟩; gi_at_call 24; refine (callsIn_wide.2 HCAT.out).mono ?_; rintro e w8 ⟨v8, rfl, hO8, hB8⟩)
    have hsz8 := hB8.size
    simp only [World.size_alloc] at hsz8
    have hB08 : Below W.heap.size W w8 := HB7.out.trans (hB8.mono (by simp; omega))
    have hK8 : w8.heap[D]? = some (.deferred (some [])) := (hB08.block D hDl).trans HK.out
    refine ⟨by simp, .inl ⟨_, _, rfl, run_takeDeferred hK8, ?_⟩⟩
    refine ⟨_, results_tmp2 rfl _ _ _, v8, mp2, rfl, ?_, ?_, ?_⟩
    · rw [HP.out]
      rw [← HG.out]
      exact own_mono (ownsRow_putObj hO8 _ hK8 rfl) (by simp; omega)
    · rw [HP.out]
      refine (HT2.out.below hB08).grown (grownBy_putObj' w8 D _) (fun e => ?_) (fun r e o ho => ?_)
      · simp at hD; injection e with e; omega
      · cases e; rw [hK8] at ho; cases ho; rfl
    · refine (HR2.out.more hB08 hbase).grown_new (grownBy_putObj' w8 D _) (fun r e => ?_) hbase
      cases e
      simp at hD; omega
  case stop =>
    rintro D c2 i W _ h _
    exact h.elim
end Go.Proofs.Ytfekmolgiohegaa
