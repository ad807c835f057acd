/- The document's Entries: what it holds, and what a byte does. -/
import Derived.Test.YtbmobaomnfchkaaTkRefB
namespace Go.Proofs.Ytbmobaomnfchkaa
open Go.RowKit

namespace Tk
/-- a quoted word's first byte has one behind it. -/
def Gd (l : List Nat) : Prop := ∀ i, l[i]? = some 5 → l[i + 1]? = some 4
theorem Gd.app {a b : List Nat} (ha : Gd a) (hb : Gd b) : Gd (a ++ b) := by
  intro i h
  by_cases hi : i < a.length
  · rw [List.getElem?_append_left hi] at h
    have h2 := ha i h
    have hl : i + 1 < a.length := (List.getElem?_eq_some_iff.1 h2).1
    rw [List.getElem?_append_left hl]; exact h2
  · rw [List.getElem?_append_right (by omega)] at h
    rw [List.getElem?_append_right (by omega), show i + 1 - a.length = i - a.length + 1 by omega]
    exact hb _ h
theorem Gd.rep (n : Nat) {k : Nat} (hk : k ≠ 5) : Gd (List.replicate n k) := by
  intro i h
  rw [List.getElem?_replicate] at h
  split at h
  · injection h with h; exact absurd h hk
  · cases h
theorem Gd.one {k : Nat} (hk : k ≠ 5) : Gd [k] := Gd.rep 1 hk
theorem Gd.cons {k : Nat} (hk : k ≠ 5) {l : List Nat} (h : Gd l) : Gd (k :: l) := (Gd.one hk).app h
theorem Gd.five (n : Nat) : Gd (5 :: List.replicate (n + 1) 4) := by
  intro i h
  cases i with
  | zero => rfl
  | succ i =>
    rw [List.getElem?_cons_succ, List.getElem?_replicate] at h
    split at h <;> simp at h
theorem kin_good : ∀ (ps : List Pc) (p : Nat) (o acc ks : List Nat), Gd acc → kin ps p o acc = .ok ks → Gd ks
  | [], p, o, acc, ks, h, e => by
    cases o with
    | nil => rw [kin] at e; injection e with e; exact e ▸ h
    | cons a r => rw [kin] at e; cases e
  | .bad _ :: _, p, o, acc, ks, h, e => by rw [kin] at e; cases e
  | .ch c :: ps, p, o, acc, ks, h, e => by
    rw [kin] at e
    split at e
    · exact kin_good ps _ _ _ _ (h.app (Gd.one (by decide))) e
    split at e
    · exact kin_good ps _ _ _ _ (h.app (Gd.one (by decide))) e
    split at e
    · split at e
      · cases e
      · exact kin_good ps _ _ _ _ (h.app (Gd.one (by decide))) e
    · exact kin_good ps _ _ _ _ (h.app (Gd.one (by decide))) e
  | .rem _ :: ps, p, o, acc, ks, h, e => by rw [kin] at e; exact kin_good ps _ _ _ _ (h.app (Gd.rep _ (by decide))) e
  | .bare _ :: ps, p, o, acc, ks, h, e => by rw [kin] at e; exact kin_good ps _ _ _ _ (h.app (Gd.cons (by decide) (Gd.rep _ (by decide)))) e
  | .quo _ :: ps, p, o, acc, ks, h, e => by rw [kin] at e; exact kin_good ps _ _ _ _ (h.app (Gd.five _)) e
theorem kin_five {t : By} {ks : List Nat} (h : kin (lx t) 0 [] [] = .ok ks) : Gd ks := kin_good _ _ _ _ _ (fun i e => by simp at e) h
/-- the bytes that a word takes further, from a place. -/
def mn (t : By) (ks : List Nat) (n : Nat) : Nat := (mo ((t.zip ks).drop n)).length
theorem zip_drop {t : By} {ks : List Nat} (hl : ks.length = t.length) {n : Nat} (hn : n < t.length) : (t.zip ks).drop n = (t[n], ks[n]'(by omega)) :: (t.zip ks).drop (n + 1) := by
  rw [List.drop_eq_getElem_cons (by simp; omega)]
  simp
theorem mn_step {t : By} {ks : List Nat} (hl : ks.length = t.length) {n : Nat} (hn : n < t.length) (hk : ks[n]'(by omega) = 4) : mn t ks n = mn t ks (n + 1) + 1 := by
  unfold mn
  rw [zip_drop hl hn]
  simp [mo, hk]
theorem mn_stop {t : By} {ks : List Nat} (hl : ks.length = t.length) {n : Nat} (hn : n < t.length) (hk : ks[n]'(by omega) ≠ 4) : mn t ks n = 0 := by
  unfold mn
  rw [zip_drop hl hn]
  simp [mo, hk]
theorem mn_end {t : By} {ks : List Nat} {n : Nat} (hn : t.length ≤ n) : mn t ks n = 0 := by
  unfold mn
  rw [List.drop_eq_nil_of_le (by simp; omega)]
  rfl
theorem takeWhile_take {α : Type} (p : α → Bool) : ∀ l : List α, l.takeWhile p = l.take (l.takeWhile p).length
  | [] => rfl
  | a :: r => by
    rw [List.takeWhile_cons]
    split
    · rw [List.length_cons, List.take_succ_cons, ← takeWhile_take p r]
    · rfl
theorem mo_take {t : By} {ks : List Nat} (hl : ks.length = t.length) (n : Nat) : mo ((t.zip ks).drop n) = (t.drop n).take (mn t ks n) := by
  have h : ((t.zip ks).drop n).map (·.1) = t.drop n := by
    rw [List.map_drop]
    congr 1
    exact List.map_fst_zip (by omega)
  have e : mn t ks n = (((t.zip ks).drop n).takeWhile (·.2 == 4)).length := by unfold mn mo; rw [List.length_map]
  rw [e, ← h, ← List.map_take]
  unfold mo
  rw [← takeWhile_take]
theorem mn_le {t : By} {ks : List Nat} (n : Nat) : mn t ks n ≤ t.length - n := by
  unfold mn mo
  rw [List.length_map]
  have h := (List.takeWhile_prefix (p := fun (x : UInt8 × Nat) => x.2 == 4) (l := (t.zip ks).drop n)).length_le
  simp at h
  omega
/-- a word's bytes. -/
theorem bare_bytes {s : ByteArray} {ks : List Nat} (hl : ks.length = s.data.toList.length) {i n : Nat} (hi : i < s.size) (hn : n = i + 1 + mn s.data.toList ks (i + 1)) : (s.extract i n).data.toList = s[i] :: mo ((s.data.toList.zip ks).drop (i + 1)) := by
  rw [mo_take hl, extract_list, show n - i = mn s.data.toList ks (i + 1) + 1 by omega, nb_drop hi, List.take_succ_cons, nb_at hi]
theorem quo_bytes {s : ByteArray} {ks : List Nat} (hl : ks.length = s.data.toList.length) {i n : Nat} (hn : n = i + 1 + mn s.data.toList ks (i + 1)) : (s.extract (i + 1) (n - 1)).data.toList = (mo ((s.data.toList.zip ks).drop (i + 1))).dropLast := by
  rw [mo_take hl, extract_list, List.dropLast_eq_take, List.take_take]
  congr 1
  have h1 := mn_le (t := s.data.toList) (ks := ks) (i + 1)
  rw [List.length_take, List.length_drop]
  omega
end Tk

/-- what the document's Entries holds in memory. -/
structure ES (w0 W : World) (b line col : Nat) (bl : Bool) (el : Nat) (vw vo : Value) (ws : List Tk.Wd) (out : List Ex) : Prop where
  he : Has W b 24 #[.int .i64 line, .int .i64 col]
  no : Has W (b + 1) 40 #[.bool bl, .int .i64 el, vw]
  tx : Tx W (b + 2) vw vo ws out
  be : Below b w0 W
section
variable {w0 W W' : World} {b line col el : Nat} {bl : Bool} {vw vo : Value} {ws : List Tk.Wd} {out : List Ex}
theorem ES.lt (h : ES w0 W b line col bl el vw vo ws out) : b + 2 ≤ W.heap.size := by have := h.no.lt; omega
theorem ES.drewN (h : ES w0 W b line col bl el vw vo ws out) (n : Nat) : ES w0 (W.drewN n) b line col bl el vw vo ws out :=
  ⟨h.he, h.no, h.tx.farSet (g := b) (by omega) (grown_drewN W n _), below_drewN h.be n⟩
theorem ES.drew (h : ES w0 W b line col bl el vw vo ws out) : ES w0 W.drew b line col bl el vw vo ws out := h.drewN 1
theorem ES.alloc (h : ES w0 W b line col bl el vw vo ws out) (o : Obj) : ES w0 (W.alloc o) b line col bl el vw vo ws out :=
  ⟨h.he.alloc o, h.no.alloc o, h.tx.alloc o, h.be.alloc (by have := h.lt; omega) o⟩
theorem ES.above (h : ES w0 W b line col bl el vw vo ws out) (hb : Below W.heap.size W W') : ES w0 W' b line col bl el vw vo ws out :=
  ⟨h.he.below hb h.he.lt, h.no.below hb h.no.lt, h.tx.below hb (Nat.le_refl _), h.be.trans (hb.mono (by have := h.lt; omega))⟩
theorem ES.setCol (h : ES w0 W b line col bl el vw vo ws out) (c : Nat) : ES w0 (W.setCell ⟨b, 1, none⟩ (.int .i64 c)) b line c bl el vw vo ws out :=
  ⟨h.he.set 1 _, h.no.far (p := ⟨b, 1, none⟩) (by show b + 1 ≠ b; omega) _, h.tx.farSet (g := b) (by omega) (grown_set (World.grownBy.refl W _) 1 _), h.be.setCell (p := ⟨b, 1, none⟩) (Nat.le_refl _) _⟩
theorem ES.setLine (h : ES w0 W b line col bl el vw vo ws out) (c : Nat) : ES w0 (W.setCell ⟨b, 0, none⟩ (.int .i64 c)) b c col bl el vw vo ws out :=
  ⟨h.he.set 0 _, h.no.far (p := ⟨b, 0, none⟩) (by show b + 1 ≠ b; omega) _, h.tx.farSet (g := b) (by omega) (grown_set (World.grownBy.refl W _) 0 _), h.be.setCell (p := ⟨b, 0, none⟩) (Nat.le_refl _) _⟩
theorem grownRow (w : World) (g : Nat) (cs : Array Value) : w.grownBy (w.setRow g cs) (some g) := ⟨rfl, rfl, rfl, by simp, fun k _ hne => setRow_other w g k cs (fun e => hne (by rw [e]))⟩
/-- an entry begins anew. -/
theorem es_new {old : Array Value} (he : Has W b 24 #[.int .i64 line, .int .i64 col]) (no : Has W (b + 1) 40 old) (er : Ers W (b + 2) vo out) (be : Below b w0 W) (bl' : Bool) (el' : Nat) :
    ES w0 (W.setRow (b + 1) #[.bool bl', .int .i64 el', .slice none 0 0]) b line col bl' el' (.slice none 0 0) vo [] out :=
  ⟨he.rowFar (by omega) _, no.row _, Tx.start (er.far (g := b + 1) (by omega) (grownRow W (b + 1) _)), below_setRow be (by omega) _⟩
/-- a word more. -/
theorem ES.word (h : ES w0 W b line col bl el vw vo ws out) (hws : ws.length ≤ 1048576) (x : Tk.Wd) {z : Nat} (hz : z = W.heap.size) :
    ∃ A c w2, (Builtin.append_ #[38, 38] 38 #[vw, .slice (some ⟨z, 0, none⟩) 1 1]).run Try.prog (W.alloc (.cells #[.string ⟨x.text.toArray⟩, .bool x.quoted, .int .i64 x.line, .int .i64 x.col] 48)) = .ok (.slice A (ws.length + 1) c) w2 ∧
      w2.cell? ⟨b + 1, 2, none⟩ = some vw ∧ w2.frozen? ⟨b + 1, 2, none⟩ = false ∧ ES w0 (w2.setCell ⟨b + 1, 2, none⟩ (.slice A (ws.length + 1) c)) b line col bl el (.slice A (ws.length + 1) c) vo (ws ++ [x]) out := by
  subst hz
  have hlt := h.lt
  obtain ⟨i4, z4, hi4, hz4, hs4, hb4, hc4⟩ := info_word
  obtain ⟨v2, w2, hr, ho, hg, hv⟩ := run_append_where (P := Try.prog) (w := W.alloc (.cells #[.string ⟨x.text.toArray⟩, .bool x.quoted, .int .i64 x.line, .int .i64 x.col] 48)) (b + 2) 38 38 48 i4 z4 4 40 Try.underlying38 hi4 hz4 hs4 hb4 hc4 (by decide) vw ws.length (fl wc ws)
    (h.tx.wr.alloc _) ⟨W.heap.size, 0, none⟩ 1 1 (wc x) rfl (tk_cells_new W _ _) (by simp [wc, Value.oneCell']) (by decide) (by unfold maxLen; omega) (by omega) (by simp; omega)
  obtain ⟨ad2, cp2, hv2, _⟩ := ownK_form ho
  subst hv2
  have hne : ∀ g, g < b + 2 → some g ≠ vw.ownBlock := fun g hg e => by have := (h.tx.wr.lt g e.symm).1; omega
  have hT : Tx w2 (b + 2) (.slice ad2 (ws.length + 1) cp2) vo (ws ++ [x]) out := (h.tx.alloc _).put (by rw [fl_append, fl_one]; exact ho) hg hv
  have hE := (h.he.alloc (.cells #[.string ⟨x.text.toArray⟩, .bool x.quoted, .int .i64 x.line, .int .i64 x.col] 48)).grown hg (hne b (by omega))
  have hN := (h.no.alloc (.cells #[.string ⟨x.text.toArray⟩, .bool x.quoted, .int .i64 x.line, .int .i64 x.col] 48)).grown hg (hne (b + 1) (by omega))
  refine ⟨ad2, cp2, w2, hr, hN.cell 2, hN.free 2, hE.far (p := ⟨b + 1, 2, none⟩) (by show b ≠ b + 1; omega) _, hN.set 2 _, hT.farSet (g := b + 1) (by omega) (grown_set (World.grownBy.refl w2 _) 2 _), ?_⟩
  exact (((h.be.alloc (by omega) _).grown hg (by simp; omega) (fun k e => by have := (h.tx.wr.lt k e).1; omega)).setCell (p := ⟨b + 1, 2, none⟩) (by show b ≤ b + 1; omega) _)
/-- an entry more. -/
theorem ES.shut (h : ES w0 W b line col bl el vw vo ws out) (hn : out.length ≤ 1048576) {z : Nat} (hz : z = W.heap.size) :
    ∃ v2 w2, (Builtin.append_ #[22, 22] 22 #[vo, .slice (some ⟨z, 0, none⟩) 1 1]).run Try.prog (W.alloc (.cells #[.bool bl, .int .i64 el, vw] 40)) = .ok v2 w2 ∧
      Has w2 b 24 #[.int .i64 line, .int .i64 col] ∧ Has w2 (b + 1) 40 #[.bool bl, .int .i64 el, vw] ∧ Ers w2 (b + 2) v2 (out ++ [⟨bl, el, vw, ws⟩]) ∧ Below b w0 w2 := by
  subst hz
  have hlt := h.lt
  obtain ⟨ad, cp, hvw, _⟩ := ownK_form h.tx.wr
  subst hvw
  obtain ⟨i3, z3, hi3, hz3, hs3, hb3, hc3⟩ := info_entry
  obtain ⟨v2, w2, hr, ho, hg, hv⟩ := run_append_where (P := Try.prog) (w := W.alloc (.cells #[.bool bl, .int .i64 el, .slice ad ws.length cp] 40)) (b + 2) 22 22 40 i3 z3 3 40 Try.underlying22 hi3 hz3 hs3 hb3 hc3 (by decide) vo out.length (fl ec out)
    (h.tx.er.own.alloc _) ⟨W.heap.size, 0, none⟩ 1 1 (ec ⟨bl, el, .slice ad ws.length cp, ws⟩) rfl (tk_cells_new W _ _) (by simp [ec, Value.oneCell']) (by decide) (by unfold maxLen; omega) (by omega) (by simp; omega)
  have hne : ∀ g, g < b + 2 → some g ≠ vo.ownBlock := fun g hg e => by have := (h.tx.er.own.lt g e.symm).1; omega
  refine ⟨v2, w2, hr, (h.he.alloc _).grown hg (hne b (by omega)), (h.no.alloc _).grown hg (hne (b + 1) (by omega)), (h.tx.alloc _).close (by rw [fl_append, fl_one]; exact ho) hg hv, ?_⟩
  exact (h.be.alloc (by omega) _).grown hg (by simp; omega) (fun k e => by have := (h.tx.er.own.lt k e).1; omega)
end
end Go.Proofs.Ytbmobaomnfchkaa
