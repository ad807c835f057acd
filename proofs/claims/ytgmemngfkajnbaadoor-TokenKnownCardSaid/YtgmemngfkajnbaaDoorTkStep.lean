/- The lexer's state in memory, and a step over a byte between words. -/
import Derived.Test.YtgmemngfkajnbaaDoorTkWord
namespace Go.Proofs.YtgmemngfkajnbaaDoor
open Go.RowKit

/-- the lexer's state in memory. -/
def LxM (w : World) (g b : Nat) (s : ByteArray) (at_ lineAt : Nat) (σ : Tk.St) (n : Nat) : Prop :=
  ∃ vw ve out, Has w g 41 (lxc s at_ σ.line lineAt σ.dep σ.fl σ.fc σ.bl σ.el vw ve) ∧ Tx w b vw ve σ.ws out ∧ out.map Ex.en = σ.es ∧ out.length ≤ n ∧ σ.ws.length ≤ n ∧ σ.line ≤ n + 1 ∧ σ.dep ≤ n ∧ lineAt ≤ n
theorem LxM.far {w w' : World} {g b : Nat} {s : ByteArray} {at_ lineAt : Nat} {σ : Tk.St} {n at' : Nat} (h : LxM w g b s at_ lineAt σ n) (hgb : g < b) (hw : w.grownBy w' (some g))
    (hs : ∀ vw ve, Has w g 41 (lxc s at_ σ.line lineAt σ.dep σ.fl σ.fc σ.bl σ.el vw ve) → Has w' g 41 (lxc s at' σ.line lineAt σ.dep σ.fl σ.fc σ.bl σ.el vw ve)) : LxM w' g b s at' lineAt σ n := by
  obtain ⟨vw, ve, out, h1, h2, h3⟩ := h
  exact ⟨vw, ve, out, hs vw ve h1, h2.farSet hgb hw, h3⟩
theorem nb_drop {s : ByteArray} {at_ : Nat} (h : at_ < s.size) : s.data.toList.drop at_ = nb s at_ :: s.data.toList.drop (at_ + 1) := by
  have hl : at_ < s.data.toList.length := by simpa using h
  rw [List.drop_eq_getElem_cons hl]
  unfold nb
  rw [List.getD_eq_getElem?_getD, List.getElem?_eq_getElem hl]
  rfl
theorem nb_end {s : ByteArray} {at_ : Nat} (h : s.size ≤ at_) : nb s at_ = 10 := by
  unfold nb
  rw [List.getD_eq_getElem?_getD, List.getElem?_eq_none (by simpa using h)]
  rfl
theorem drop_end {s : ByteArray} {at_ : Nat} (h : s.size ≤ at_) : s.data.toList.drop at_ = [] := List.drop_eq_nil_of_le (by simpa using h)
theorem hb_nb (s : ByteArray) (at_ : Nat) : Tk.hb (s.data.toList.drop at_) = Tk.blank (nb s at_) := by
  by_cases h : at_ < s.size
  · rw [nb_drop h]; rfl
  · rw [drop_end (by omega), nb_end (by omega)]; rfl
theorem close_en (σ : Tk.St) (vw : Value) (out : List Ex) (h : out.map Ex.en = σ.es) : (closeEx σ.bl σ.el vw σ.ws out).map Ex.en = σ.done := by
  unfold closeEx Tk.St.done
  split
  · exact h
  · rw [List.map_append, h]; rfl
theorem close_len (bl : Bool) (el : Nat) (vw : Value) (ws : List Tk.Wd) (out : List Ex) : (closeEx bl el vw ws out).length ≤ out.length + 1 := by
  unfold closeEx
  split <;> simp

theorem pass_step (s : ByteArray) (at_ lineAt : Nat) (σ : Tk.St) (g b : Nat) (w : World) (h : LxM w g b s at_ lineAt σ at_) (hgb : g < b) (hb : b ≤ w.heap.size) (hat : at_ < s.size) (hs : s.size ≤ 262144) (hc : σ.col + lineAt = at_ + 1)
    (he : Tk.ends (nb s at_) = true) (h59 : (nb s at_).toNat ≠ 59) (h34 : (nb s at_).toNat ≠ 34) (h41 : (nb s at_).toNat = 41 → σ.dep ≠ 0) :
    Calls Tryd.prog 15 #[.pointer (some ⟨g, 0, none⟩)] w fun e w' => e = .returned (.tuple #[]) ∧ ∃ lineAt' σ', LxM w' g b s (at_ + 1) lineAt' σ' (at_ + 1) ∧ σ'.col + lineAt' = at_ + 2 ∧ Kb g b w w' ∧ Tk.play (Tk.lx (s.data.toList.drop at_)) σ = Tk.play (Tk.lx (s.data.toList.drop (at_ + 1))) σ' := by
  obtain ⟨vw, ve, out, h1, h2, h3, h4, h5, h6, h7, h8⟩ := h
  have hlx : Tk.lx (s.data.toList.drop at_) = .ch (nb s at_) :: Tk.lx (s.data.toList.drop (at_ + 1)) := by rw [nb_drop hat, Tk.lx_ch h59 h34 he]
  rw [hlx]
  by_cases h10 : (nb s at_).toNat = 10
  · have hp : Tk.play (.ch (nb s at_) :: Tk.lx (s.data.toList.drop (at_ + 1))) σ = Tk.play (Tk.lx (s.data.toList.drop (at_ + 1))) (σ.nl (Tk.blank (nb s (at_ + 1)))) := by
      rw [Tk.play, if_pos h10, Tk.hp_lx, hb_nb]
    rw [hp]
    obtain ⟨σl, σc, σd, σfl, σfc, σbl, σel, σws, σes⟩ := σ
    simp only at h1 h2 h3 h4 h5 h6 h7 h8 hc
    by_cases hd : σd = 0
    · subst hd
      refine pass_lf s at_ σl lineAt 0 σfl σfc σbl σel vw ve g w h1 hat (by omega) h10 _ (fun W hW hG => ?_)
      refine (endLine_out s (at_ + 1) σl lineAt σfl σfc σbl σel vw ve σws out g b W hW (h2.farSet hgb hG) hgb (Nat.le_trans hb hG.size) (by omega) (by omega) (by omega) (by omega)).mono ?_
      rintro e w2 ⟨rfl, ve', a1, a2, a3⟩
      have hcl := close_len σbl σel vw σws out
      refine ⟨rfl, at_ + 1, ⟨σl + 1, 1, 0, σfl, σfc, Tk.blank (nb s (at_ + 1)), σl + 1, [], Tk.St.done ⟨σl, σc, 0, σfl, σfc, σbl, σel, σws, σes⟩⟩, ⟨.slice none 0 0, ve', _, a1, a2, close_en ⟨σl, σc, 0, σfl, σfc, σbl, σel, σws, σes⟩ vw out h3, by omega, by simp, by show σl + 1 ≤ at_ + 1 + 1; omega, by simp, Nat.le_refl _⟩, by show 1 + (at_ + 1) = at_ + 2; omega, (Kb.grown hG hb).trans a3, rfl⟩
    · refine pass_lf s at_ σl lineAt σd σfl σfc σbl σel vw ve g w h1 hat (by omega) h10 _ (fun W hW hG => ?_)
      refine (endLine_in s (at_ + 1) σl lineAt σd σfl σfc σbl σel vw ve g W hW (by omega) hd).mono ?_
      rintro e w2 ⟨rfl, a1, a2⟩
      have hG2 := grown_trans hG a2
      refine ⟨rfl, at_ + 1, ⟨σl + 1, 1, σd, σfl, σfc, σbl, σel, σws, σes⟩, ⟨vw, ve, out, a1, h2.farSet hgb hG2, h3, by omega, by show σws.length ≤ _; omega, by show σl + 1 ≤ _; omega, by show σd ≤ _; omega, Nat.le_refl _⟩, by show 1 + (at_ + 1) = at_ + 2; omega, Kb.grown hG2 hb, ?_⟩
      simp only [Tk.St.nl]
      rw [if_neg hd]
  by_cases h40 : (nb s at_).toNat = 40
  · have hp : Tk.play (.ch (nb s at_) :: Tk.lx (s.data.toList.drop (at_ + 1))) σ = Tk.play (Tk.lx (s.data.toList.drop (at_ + 1))) σ.op := by
      rw [Tk.play, if_neg h10, if_pos h40]
    rw [hp]
    obtain ⟨σl, σc, σd, σfl, σfc, σbl, σel, σws, σes⟩ := σ
    simp only at h1 h2 h3 h4 h5 h6 h7 h8 hc
    by_cases hd : σd = 0
    · subst hd
      refine (pass_op0 s at_ σl lineAt σfl σfc σbl σel vw ve g w h1 hat (by omega) h8 h40).mono ?_
      rintro e w2 ⟨rfl, a1, a2⟩
      have hcc : 1 + at_ - lineAt = σc := by omega
      rw [hcc] at a1
      exact ⟨rfl, lineAt, ⟨σl, σc + 1, 1, σl, σc, σbl, σel, σws, σes⟩, ⟨vw, ve, out, a1, h2.farSet hgb a2, h3, by omega, by show σws.length ≤ _; omega, by show σl ≤ _; omega, by show 1 ≤ _; omega, by omega⟩, by show σc + 1 + lineAt = _; omega, Kb.grown a2 hb, rfl⟩
    · refine (pass_op s at_ σl lineAt σd σfl σfc σbl σel vw ve g w h1 hat (by omega) hd (by omega) h40).mono ?_
      rintro e w2 ⟨rfl, a1, a2⟩
      refine ⟨rfl, lineAt, ⟨σl, σc + 1, σd + 1, σfl, σfc, σbl, σel, σws, σes⟩, ⟨vw, ve, out, a1, h2.farSet hgb a2, h3, by omega, by show σws.length ≤ _; omega, by show σl ≤ _; omega, by show σd + 1 ≤ _; omega, by omega⟩, by show σc + 1 + lineAt = _; omega, Kb.grown a2 hb, ?_⟩
      simp only [Tk.St.op]
      rw [if_neg hd, if_neg hd]
  by_cases h41' : (nb s at_).toNat = 41
  · have hd := h41 h41'
    have hp : Tk.play (.ch (nb s at_) :: Tk.lx (s.data.toList.drop (at_ + 1))) σ = Tk.play (Tk.lx (s.data.toList.drop (at_ + 1))) σ.cl := by
      rw [Tk.play, if_neg h10, if_neg h40, if_pos h41', if_neg hd]
    rw [hp]
    obtain ⟨σl, σc, σd, σfl, σfc, σbl, σel, σws, σes⟩ := σ
    simp only at h1 h2 h3 h4 h5 h6 h7 h8 hc hd
    obtain ⟨d, rfl⟩ : ∃ d, σd = d + 1 := ⟨σd - 1, by omega⟩
    refine (pass_cl s at_ σl lineAt d σfl σfc σbl σel vw ve g w h1 hat (by omega) (by omega) h41').mono ?_
    rintro e w2 ⟨rfl, a1, a2⟩
    exact ⟨rfl, lineAt, ⟨σl, σc + 1, d, σfl, σfc, σbl, σel, σws, σes⟩, ⟨vw, ve, out, a1, h2.farSet hgb a2, h3, by omega, by show σws.length ≤ _; omega, by show σl ≤ _; omega, by show d ≤ _; omega, by omega⟩, by show σc + 1 + lineAt = _; omega, Kb.grown a2 hb, rfl⟩
  · have hp : Tk.play (.ch (nb s at_) :: Tk.lx (s.data.toList.drop (at_ + 1))) σ = Tk.play (Tk.lx (s.data.toList.drop (at_ + 1))) (σ.go 1) := by
      rw [Tk.play, if_neg h10, if_neg h40, if_neg h41']
    rw [hp]
    obtain ⟨σl, σc, σd, σfl, σfc, σbl, σel, σws, σes⟩ := σ
    simp only at h1 h2 h3 h4 h5 h6 h7 h8 hc
    refine (pass_other s at_ σl lineAt σd σfl σfc σbl σel vw ve g w h1 hat (by omega) h10 h40 h41').mono ?_
    rintro e w2 ⟨rfl, a1, a2⟩
    exact ⟨rfl, lineAt, ⟨σl, σc + 1, σd, σfl, σfc, σbl, σel, σws, σes⟩, ⟨vw, ve, out, a1, h2.farSet hgb a2, h3, by omega, by show σws.length ≤ _; omega, by show σl ≤ _; omega, by show σd ≤ _; omega, by omega⟩, by show σc + 1 + lineAt = _; omega, Kb.grown a2 hb, rfl⟩
section
variable {s : ByteArray} {at_ lineAt n g b : Nat} {σ : Tk.St} {w w' : World}
theorem LxM.go (h : LxM w g b s at_ lineAt σ n) (k : Nat) {n' : Nat} (hn : n ≤ n') : LxM w g b s at_ lineAt (σ.go k) n' := by
  obtain ⟨vw, ve, out, h1, h2, h3, h4, h5, h6, h7, h8⟩ := h
  exact ⟨vw, ve, out, h1, h2, h3, Nat.le_trans h4 hn, Nat.le_trans h5 hn, by show σ.line ≤ _; omega, by show σ.dep ≤ _; omega, Nat.le_trans h8 hn⟩
theorem LxM.more (h : LxM w g b s at_ lineAt σ n) {n' : Nat} (hn : n ≤ n') : LxM w g b s at_ lineAt σ n' := by
  obtain ⟨vw, ve, out, h1, h2, h3, h4, h5, h6, h7, h8⟩ := h
  exact ⟨vw, ve, out, h1, h2, h3, Nat.le_trans h4 hn, Nat.le_trans h5 hn, by omega, by omega, Nat.le_trans h8 hn⟩
theorem LxM.c0 (h : LxM w g b s at_ lineAt σ n) : w.cell? ⟨g, 0, none⟩ = some (.string s) := by
  obtain ⟨vw, ve, out, h1, _⟩ := h; exact h1.cell 0
theorem LxM.c1 (h : LxM w g b s at_ lineAt σ n) : w.cell? ⟨g, 1, none⟩ = some (.int .i64 at_) := by
  obtain ⟨vw, ve, out, h1, _⟩ := h; exact h1.cell 1
theorem LxM.c4 (h : LxM w g b s at_ lineAt σ n) : w.cell? ⟨g, 4, none⟩ = some (.int .i64 σ.dep) := by
  obtain ⟨vw, ve, out, h1, _⟩ := h; exact h1.cell 4
theorem LxM.c5 (h : LxM w g b s at_ lineAt σ n) : w.cell? ⟨g, 5, none⟩ = some (.int .i64 σ.fl) := by
  obtain ⟨vw, ve, out, h1, _⟩ := h; exact h1.cell 5
theorem LxM.c6 (h : LxM w g b s at_ lineAt σ n) : w.cell? ⟨g, 6, none⟩ = some (.int .i64 σ.fc) := by
  obtain ⟨vw, ve, out, h1, _⟩ := h; exact h1.cell 6
theorem LxM.free (h : LxM w g b s at_ lineAt σ n) (i : Nat) : w.frozen? ⟨g, i, none⟩ = false := by
  obtain ⟨vw, ve, out, h1, _⟩ := h; exact h1.free i
theorem LxM.inc (h : LxM w g b s at_ lineAt σ n) (hgb : g < b) : LxM (w.setCell ⟨g, 1, none⟩ (.int .i64 ((at_ : Int) + 1))) g b s (at_ + 1) lineAt σ n :=
  h.far hgb (grown_set (World.grownBy.refl w _) 1 _) (fun _ _ hh => hh.set 1 _)
theorem LxM.none (h : LxM w g b s at_ lineAt σ n) (hgb : g < b) (hw : w.grownBy w' none) : LxM w' g b s at_ lineAt σ n :=
  h.far hgb (grown_any hw _) (fun _ _ hh => hh.grown hw (by simp))
theorem next_M (h : LxM w g b s at_ lineAt σ n) (hgb : g < b) (hat : at_ ≤ s.size) :
    Calls Tryd.prog 11 #[.pointer (some ⟨g, 0, none⟩)] w fun e w' => e = .returned (.int .u8 ((nb s at_).toNat : Int)) ∧ LxM w' g b s at_ lineAt σ n ∧ w.grownBy w' none := by
  obtain ⟨vw, ve, out, h1, h2⟩ := h
  exact (next_any s at_ σ.line lineAt σ.dep σ.fl σ.fc σ.bl σ.el vw ve g w h1 hat).mono fun _ _ ⟨he, k, hw⟩ => ⟨he, by rw [hw]; exact LxM.none ⟨vw, ve, out, h1, h2⟩ hgb (grown_drewN w k _), by rw [hw]; exact grown_drewN w k _⟩
theorem atEnd_M (h : LxM w g b s at_ lineAt σ n) (hgb : g < b) :
    Calls Tryd.prog 12 #[.pointer (some ⟨g, 0, none⟩)] w fun e w' => e = .returned (.bool ((at_ : Int) == (s.size : Int))) ∧ LxM w' g b s at_ lineAt σ n ∧ w.grownBy w' none := by
  obtain ⟨vw, ve, out, h1, h2⟩ := h
  exact (atEnd_any s at_ σ.line lineAt σ.dep σ.fl σ.fc σ.bl σ.el vw ve g w h1).mono fun _ _ ⟨he, k, hw⟩ => ⟨he, by rw [hw]; exact LxM.none ⟨vw, ve, out, h1, h2⟩ hgb (grown_drewN w k _), by rw [hw]; exact grown_drewN w k _⟩
theorem spot_M (h : LxM w g b s at_ lineAt σ n) (hgb : g < b) (hn : n ≤ 262144) {p : Nat} (hp : p ≤ 1048576) {col : Nat} (hc : col + lineAt = p + 1) :
    Calls Tryd.prog 13 #[.pointer (some ⟨g, 0, none⟩), .int .i64 p] w fun e w' => e = .returned (.agg #[.int .i64 σ.line, .int .i64 col]) ∧ LxM w' g b s at_ lineAt σ n ∧ w.grownBy w' none := by
  obtain ⟨vw, ve, out, h1, h2⟩ := h
  have hla : lineAt ≤ n := h2.2.2.2.2.2.2
  have e : (1 + (p : Int) - lineAt) = (col : Int) := by omega
  have hs := spot_any s at_ σ.line lineAt σ.dep σ.fl σ.fc σ.bl σ.el vw ve g w h1 p hp (by omega)
  rw [e] at hs
  exact hs.mono fun _ _ ⟨he, hw⟩ => ⟨he, LxM.none ⟨vw, ve, out, h1, h2⟩ hgb hw, hw⟩
theorem take_M (h : LxM w g b s at_ lineAt σ n) (hgb : g < b) (hat : at_ < s.size) (hs : s.size ≤ 262144) :
    Calls Tryd.prog 17 #[.pointer (some ⟨g, 0, none⟩)] w fun e w' => e = .returned (.tuple #[]) ∧ LxM w' g b s (at_ + tk1 s at_) lineAt σ n ∧ w.grownBy w' (some g) := by
  obtain ⟨vw, ve, out, h1, h2, h3⟩ := h
  exact (take_any s at_ σ.line lineAt σ.dep σ.fl σ.fc σ.bl σ.el vw ve g w h1 hat (by omega)).mono fun _ _ ⟨he, hh, hw⟩ => ⟨he, ⟨vw, ve, out, hh, h2.farSet hgb hw, h3⟩, hw⟩
theorem put_M (h : LxM w g b s at_ lineAt σ n) (hgb : g < b) (hb : b ≤ w.heap.size) (t : ByteArray) (q : Bool) {p : Nat} (hp : p ≤ 1048576) (hnp : n ≤ p) (hc : σ.col + lineAt = p + 1) (k : Nat) :
    Calls Tryd.prog 16 #[.pointer (some ⟨g, 0, none⟩), .int .i64 p, .agg #[.string t, .bool q, .int .i64 0, .int .i64 0]] w fun e w' => e = .returned (.tuple #[]) ∧ LxM w' g b s at_ lineAt (σ.put t.data.toList q k) (n + 1) ∧ Kb g b w w' := by
  obtain ⟨vw, ve, out, h1, h2, h3, h4, h5, h6, h7, h8⟩ := h
  have e : 1 + p - lineAt = σ.col := by omega
  have hh := put_any s at_ σ.line lineAt σ.dep σ.fl σ.fc σ.bl σ.el vw ve σ.ws out g b w h1 h2 hgb hb (by omega) t q p hp (by omega)
  rw [e] at hh
  refine hh.mono ?_
  rintro e w2 ⟨rfl, vw', a1, a2, a3⟩
  refine ⟨rfl, ⟨vw', ve, out, a1, a2, h3, by omega, ?_, by show σ.line ≤ _; omega, by show σ.dep ≤ _; omega, by omega⟩, a3⟩
  show (σ.ws ++ [_]).length ≤ n + 1
  simp
  omega
end
end Go.Proofs.YtgmemngfkajnbaaDoor
