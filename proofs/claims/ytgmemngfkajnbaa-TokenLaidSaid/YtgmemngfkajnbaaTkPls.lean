/- Where lines begin, and where words stand. Pure. -/
import Derived.Test.YtgmemngfkajnbaaTkFacts
namespace Go.Proofs.Ytgmemngfkajnbaa.Tk

def plF : By → Nat → List Nat
  | [], _ => []
  | c :: r, p => if c.toNat = 10 then (p + 1) :: plF r (p + 1) else plF r (p + 1)
/-- where each line begins. -/
def pls (l : By) : List Nat := 0 :: plF l 0
theorem plF_append : ∀ (a b : By) (p : Nat), plF (a ++ b) p = plF a p ++ plF b (p + a.length)
  | [], b, p => rfl
  | c :: r, b, p => by
    rw [List.cons_append, plF, plF, plF_append r b (p + 1), List.length_cons, show p + 1 + r.length = p + (r.length + 1) by omega]
    split <;> simp
theorem advs_pls : ∀ (pre : By) (p l0 c0 s0 : Nat), s0 + c0 = p + 1 → 1 ≤ c0 → (advs (l0, c0) pre).1 = l0 + (plF pre p).length ∧ 1 ≤ (advs (l0, c0) pre).2 ∧ (s0 :: plF pre p)[(plF pre p).length]?.getD 0 + (advs (l0, c0) pre).2 = p + pre.length + 1
  | [], p, l0, c0, s0, h, hc => by simp [plF, advs_nil]; omega
  | c :: r, p, l0, c0, s0, h, hc => by
    rw [advs_cons, plF]
    by_cases h10 : c.toNat = 10
    · rw [adv, if_pos h10, if_pos h10]
      obtain ⟨h1, h2, h3⟩ := advs_pls r (p + 1) (l0 + 1) 1 (p + 1) rfl (Nat.le_refl _)
      refine ⟨by rw [h1, List.length_cons]; omega, h2, ?_⟩
      rw [List.length_cons, List.getElem?_cons_succ, h3, List.length_cons]
      omega
    · rw [adv, if_neg h10, if_neg h10]
      obtain ⟨h1, h2, h3⟩ := advs_pls r (p + 1) l0 (c0 + 1) s0 (by omega) (by omega)
      exact ⟨h1, h2, by rw [h3, List.length_cons]; omega⟩
/-- a place's line begins where it should. -/
theorem place_line {t pre suf : By} {line col : Nat} (ht : t = pre ++ suf) (h : advs (1, 1) pre = (line, col)) : 1 ≤ line ∧ 1 ≤ col ∧ line ≤ (pls t).length ∧ ∃ b, (pls t)[line - 1]? = some b ∧ b + col = pre.length + 1 := by
  obtain ⟨h1, h2, h3⟩ := advs_pls pre 0 1 1 0 rfl (Nat.le_refl _)
  rw [h] at h1 h2 h3
  simp only at h1 h2 h3
  have e : pls t = (0 :: plF pre 0) ++ plF suf (0 + pre.length) := by rw [ht, pls, plF_append, List.cons_append]
  have hl : (plF pre 0).length < (0 :: plF pre 0).length := by simp
  refine ⟨by omega, h2, by rw [e, List.length_append, List.length_cons]; omega, (0 :: plF pre 0)[(plF pre 0).length], ?_, ?_⟩
  · rw [show line - 1 = (plF pre 0).length by omega, e, List.getElem?_append_left hl, List.getElem?_eq_getElem hl]
  · rw [List.getElem?_eq_getElem hl] at h3
    simp only [Option.getD_some] at h3
    omega

/-- a word as it stands. -/
def Wd.txt (w : Wd) : By := if w.quoted then 34 :: w.text ++ [34] else w.text
/-- words stand one behind the other, from e on, e' behind the last. -/
def Wg (t : By) (el : Nat) : Nat → List Wd → Nat → Prop
  | e, [], e' => e = e'
  | e, w :: ws, e' => ∃ off b, el ≤ w.line ∧ 1 ≤ w.line ∧ 1 ≤ w.col ∧ w.line ≤ (pls t).length ∧ (pls t)[w.line - 1]? = some b ∧ b + w.col = off + 1 ∧ e ≤ off ∧ off + w.txt.length ≤ t.length ∧ (t.drop off).take w.txt.length = w.txt ∧ w.txt ≠ [] ∧ Wg t el (off + w.txt.length) ws e'
def Eg (t : By) : Nat → List En → Nat → Prop
  | e, [], e' => e = e'
  | e, x :: es, e' => ∃ pe e1, e ≤ pe ∧ pe < t.length ∧ 1 ≤ x.line ∧ x.line ≤ (pls t).length ∧ (pls t)[x.line - 1]? = some pe ∧ x.blank = hb (t.drop pe) ∧ x.words ≠ [] ∧ Wg t x.line pe x.words e1 ∧ Eg t e1 es e'
theorem Wg.snoc {t : By} {el : Nat} {w : Wd} {off b : Nat} : ∀ {ws : List Wd} {e e' : Nat}, Wg t el e ws e' → el ≤ w.line → 1 ≤ w.line → 1 ≤ w.col → w.line ≤ (pls t).length → (pls t)[w.line - 1]? = some b → b + w.col = off + 1 → e' ≤ off → off + w.txt.length ≤ t.length → (t.drop off).take w.txt.length = w.txt → w.txt ≠ [] → Wg t el e (ws ++ [w]) (off + w.txt.length)
  | [], e, e', h, h1, h2, h3, h4, h5, h6, h7, h8, h9, h10 => by
    have h : e = e' := h
    subst h
    exact ⟨off, b, h1, h2, h3, h4, h5, h6, h7, h8, h9, h10, rfl⟩
  | x :: ws, e, e', h, h1, h2, h3, h4, h5, h6, h7, h8, h9, h10 => by
    obtain ⟨o, c, a1, a2, a3, a4, a5, a6, a7, a8, a9, a10, h⟩ := h
    exact ⟨o, c, a1, a2, a3, a4, a5, a6, a7, a8, a9, a10, h.snoc h1 h2 h3 h4 h5 h6 h7 h8 h9 h10⟩
theorem Eg.snoc {t : By} {x : En} {pe e1 : Nat} : ∀ {es : List En} {e e' : Nat}, Eg t e es e' → e' ≤ pe → pe < t.length → 1 ≤ x.line → x.line ≤ (pls t).length → (pls t)[x.line - 1]? = some pe → x.blank = hb (t.drop pe) → x.words ≠ [] → Wg t x.line pe x.words e1 → Eg t e (es ++ [x]) e1
  | [], e, e', h, h1, h2, h3, h4, h5, h6, h7, h8 => by
    have h : e = e' := h
    subst h
    exact ⟨pe, e1, h1, h2, h3, h4, h5, h6, h7, h8, rfl⟩
  | y :: es, e, e', h, h1, h2, h3, h4, h5, h6, h7, h8 => by
    obtain ⟨p, e2, a1, a2, a3, a4, a5, a6, a7, a8, h⟩ := h
    exact ⟨p, e2, a1, a2, a3, a4, a5, a6, a7, a8, h.snoc h1 h2 h3 h4 h5 h6 h7 h8⟩
theorem Wg.lt {t : By} {el e e' : Nat} {ws : List Wd} (h : Wg t el e ws e') (hne : ws ≠ []) : e < t.length := by
  rcases ws with _ | ⟨w, ws⟩
  · exact absurd rfl hne
  · obtain ⟨off, b, _, _, _, _, _, _, h7, h8, _, h10, _⟩ := h
    have : 1 ≤ w.txt.length := List.length_pos_iff.2 h10
    omega
/-- what holds between pieces. -/
def Inv (t pre : By) (σ : St) : Prop :=
  advs (1, 1) pre = (σ.line, σ.col) ∧ σ.el ≤ σ.line ∧ ∃ e0 pe e2, Eg t 0 σ.es e0 ∧ e0 ≤ pe ∧ pe ≤ pre.length ∧ advs (1, 1) (t.take pe) = (σ.el, 1) ∧ σ.bl = hb (t.drop pe) ∧ Wg t σ.el pe σ.ws e2 ∧ e2 ≤ pre.length
theorem Inv.done {t pre : By} {σ : St} (h : Inv t pre σ) (hpre : pre.length ≤ t.length) : ∃ e', Eg t 0 σ.done e' ∧ e' ≤ pre.length := by
  obtain ⟨_, _, e0, pe, e2, h1, h2, h3, h4, h5, h6, h7⟩ := h
  unfold St.done
  split
  · exact ⟨e0, h1, by omega⟩
  · rename_i hne
    obtain ⟨p1, p2, p3, b, p4, p5⟩ := place_line (t := t) (pre := t.take pe) (suf := t.drop pe) (List.take_append_drop _ _).symm h4
    have hl : (t.take pe).length = pe := by rw [List.length_take]; omega
    have hb : b = pe := by omega
    subst hb
    exact ⟨e2, h1.snoc (x := ⟨σ.bl, σ.el, σ.ws⟩) h2 (h6.lt hne) p1 p3 p4 h5 hne h6, h7⟩
/-- a word's step. -/
theorem Inv.word {t pre suf : By} {σ : St} {b : By} {q : Bool} {k : Nat} (h : Inv t pre σ) (ht : t = pre ++ (⟨b, q, σ.line, σ.col⟩ : Wd).txt ++ suf) (hn : noLf (⟨b, q, σ.line, σ.col⟩ : Wd).txt) (hne : (⟨b, q, σ.line, σ.col⟩ : Wd).txt ≠ []) (hk : (⟨b, q, σ.line, σ.col⟩ : Wd).txt.length = k) :
    Inv t (pre ++ (⟨b, q, σ.line, σ.col⟩ : Wd).txt) (σ.put b q k) := by
  obtain ⟨h0, hel, e0, pe, e2, h1, h2, h3, h4, h5, h6, h7⟩ := h
  obtain ⟨p1, p2, p3, c, p4, p5⟩ := place_line (t := t) (pre := pre) (suf := (⟨b, q, σ.line, σ.col⟩ : Wd).txt ++ suf) (by rw [ht, List.append_assoc]) h0
  subst hk
  refine ⟨by rw [advs_append, h0, advs_noLf _ _ hn]; rfl, hel, e0, pe, _, h1, h2, by simp; omega, h4, h5, h6.snoc (off := pre.length) (b := c) hel p1 p2 p3 p4 p5 h7 ?_ ?_ hne, by simp⟩
  · rw [ht]; simp
  · rw [ht, List.append_assoc, List.drop_left' rfl, List.take_left' rfl]
theorem Inv.plain {t pre : By} {σ σ' : St} {b : By} (h : Inv t pre σ) (hl : advs (1, 1) (pre ++ b) = (σ'.line, σ'.col)) (hle : σ.line ≤ σ'.line) (h1 : σ'.el = σ.el) (h2 : σ'.bl = σ.bl) (h3 : σ'.ws = σ.ws) (h4 : σ'.es = σ.es) : Inv t (pre ++ b) σ' := by
  obtain ⟨h0, hel, e0, pe, e2, a1, a2, a3, a4, a5, a6, a7⟩ := h
  refine ⟨hl, by rw [h1]; omega, e0, pe, e2, by rw [h4]; exact a1, a2, by simp; omega, by rw [h1]; exact a4, by rw [h2]; exact a5, by rw [h1, h3]; exact a6, by simp; omega⟩
theorem play_inv : ∀ (ps : List Pc) (pre : By) (σ : St) (t : By) (es : List En), t = pre ++ raws ps → (∀ q ∈ ps, q.wf) → Inv t pre σ → play ps σ = .ok es → ∃ e', Eg t 0 es e'
  | [], pre, σ, t, es, ht, _, h, hp => by
    rw [play] at hp
    split at hp
    · injection hp with hp
      subst hp
      obtain ⟨e', h1, _⟩ := h.done (by rw [ht]; simp)
      exact ⟨e', h1⟩
    · cases hp
  | .bad _ :: ps, pre, σ, t, es, ht, hw, h, hp => by rw [play] at hp; cases hp
  | .ch c :: ps, pre, σ, t, es, ht, hw, h, hp => by
    have hw' : ∀ q ∈ ps, q.wf := fun q hq => hw q (by simp [hq])
    have ht' : t = (pre ++ [c]) ++ raws ps := by rw [ht, raws_cons]; simp [Pc.raw]
    have hs' : advs (1, 1) (pre ++ [c]) = adv (σ.line, σ.col) c := by rw [advs_append, h.1]; rfl
    rw [play] at hp
    by_cases h10 : c.toNat = 10
    · rw [if_pos h10, hp_raws hw'] at hp
      refine play_inv ps _ _ t es ht' hw' ?_ hp
      rw [adv, if_pos h10] at hs'
      by_cases hd : σ.dep = 0
      · rw [St.nl, if_pos hd]
        obtain ⟨e', h1, h2⟩ := h.done (by rw [ht]; simp)
        have hd : t.drop (pre ++ [c]).length = raws ps := by rw [ht', List.drop_left' rfl]
        exact ⟨hs', Nat.le_refl _, e', (pre ++ [c]).length, (pre ++ [c]).length, h1, by simp; omega, Nat.le_refl _, by rw [ht', List.take_left' rfl]; exact hs', by rw [hd], rfl, Nat.le_refl _⟩
      · rw [St.nl, if_neg hd]
        exact h.plain hs' (Nat.le_succ _) rfl rfl rfl rfl
    rw [if_neg h10] at hp
    rw [adv, if_neg h10] at hs'
    split at hp
    · exact play_inv ps _ σ.op t es ht' hw' (h.plain (σ' := σ.op) hs' (Nat.le_refl _) rfl rfl rfl rfl) hp
    split at hp
    · split at hp
      · cases hp
      · exact play_inv ps _ σ.cl t es ht' hw' (h.plain (σ' := σ.cl) hs' (Nat.le_refl _) rfl rfl rfl rfl) hp
    · exact play_inv ps _ (σ.go 1) t es ht' hw' (h.plain (σ' := σ.go 1) hs' (Nat.le_refl _) rfl rfl rfl rfl) hp
  | .rem b :: ps, pre, σ, t, es, ht, hw, h, hp => by
    have hw' : ∀ q ∈ ps, q.wf := fun q hq => hw q (by simp [hq])
    have hn : noLf b := (hw (.rem b) (by simp)).1
    rw [play] at hp
    exact play_inv ps (pre ++ b) _ t es (by rw [ht, raws_cons]; simp [Pc.raw]) hw' (h.plain (σ' := σ.go b.length) (by rw [advs_append, h.1, advs_noLf _ _ hn]; rfl) (Nat.le_refl _) rfl rfl rfl rfl) hp
  | .bare b :: ps, pre, σ, t, es, ht, hw, h, hp => by
    have hw' : ∀ q ∈ ps, q.wf := fun q hq => hw q (by simp [hq])
    obtain ⟨hn, c, r, hb, _⟩ := hw (.bare b) (by simp)
    rw [play] at hp
    exact play_inv ps (pre ++ b) _ t es (by rw [ht, raws_cons]; simp [Pc.raw]) hw' (h.word (b := b) (q := false) (suf := raws ps) (by rw [ht, raws_cons]; simp [Pc.raw, Wd.txt]) hn (by rw [hb]; simp [Wd.txt]) rfl) hp
  | .quo b :: ps, pre, σ, t, es, ht, hw, h, hp => by
    have hw' : ∀ q ∈ ps, q.wf := fun q hq => hw q (by simp [hq])
    have hn : noLf b := hw (.quo b) (by simp)
    rw [play] at hp
    refine play_inv ps (pre ++ (34 :: b ++ [34])) _ t es (by rw [ht, raws_cons]; simp [Pc.raw]) hw' (h.word (b := b) (q := true) (suf := raws ps) (by rw [ht, raws_cons]; simp [Pc.raw, Wd.txt]) ?_ (by simp [Wd.txt]) (by simp [Wd.txt])) hp
    intro d hd
    simp only [Wd.txt, if_true, List.cons_append, List.mem_cons, List.mem_append, List.not_mem_nil, or_false] at hd
    rcases hd with rfl | hd | rfl
    · decide
    · exact hn d hd
    · decide
/-- every word stands at its place. -/
theorem tells_places {t : By} {es : List En} (h : tells t = .ok es) : ∃ e', Eg t 0 es e' :=
  play_inv (lx t) [] (start t) t es (raws_lx t).symm (lx_wf t) ⟨rfl, Nat.le_refl _, 0, 0, 0, rfl, Nat.le_refl _, Nat.le_refl _, rfl, rfl, rfl, Nat.le_refl _⟩ h
end Go.Proofs.Ytgmemngfkajnbaa.Tk
