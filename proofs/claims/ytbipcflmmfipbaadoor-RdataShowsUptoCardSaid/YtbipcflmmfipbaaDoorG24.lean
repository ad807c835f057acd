/- Texts of the proofs, merged. -/
import Derived.Test.YtbipcflmmfipbaaDoorG7
import Derived.Test.YtbipcflmmfipbaaDoorG22
import Derived.Test.YtbipcflmmfipbaaDoorG21
/- Data that were written, part by part, and what is read of them: nothing of the program. -/
namespace Go.Proofs.YtbipcflmmfipbaaDoor.Rd

/-- a part that stands at a place, and where it ends. -/
structure One (b : By) (d : Dt) (hl ml : List By) (n p i j : Nat) : Prop where
  le : i ≤ j
  top : j ≤ b.length
  none : p = 0 → j = i
  raw : 1 ≤ p → p ≤ 4 → j = i + d.raw.length ∧ (b.drop i).take d.raw.length = d.raw
  host : p = 5 ∨ p = 6 → Pr.Rdb b i hl i j
  mail : p = 7 → Pr.Rdb b i ml i j
  n16 : p = 8 → j = i + 2 ∧ Oc.num ((b.drop i).take 2) = hasN d n
  n32 : p = 9 → j = i + 4 ∧ Oc.num ((b.drop i).take 4) = hasN d n
theorem cut_more {b c : By} {i k : Nat} (h : i + k ≤ b.length) : ((b ++ c).drop i).take k = (b.drop i).take k := by
  rw [List.drop_append_of_le_length (by omega), List.take_append_of_le_length (by rw [List.length_drop]; omega)]
theorem One.more {b : By} {d : Dt} {hl ml : List By} {n p i j : Nat} (h : One b d hl ml n p i j) (c : By) : One (b ++ c) d hl ml n p i j := by
  obtain ⟨h1, h2, h3, h4, h5, h6, h7, h8⟩ := h
  refine ⟨h1, by rw [List.length_append]; omega, h3, fun a a' => ?_, fun a => (h5 a).more c, fun a => (h6 a).more c, fun a => ?_, fun a => ?_⟩
  · obtain ⟨e1, e2⟩ := h4 a a'
    exact ⟨e1, by rw [cut_more (by omega)]; exact e2⟩
  · obtain ⟨e1, e2⟩ := h7 a
    exact ⟨e1, by rw [cut_more (by omega)]; exact e2⟩
  · obtain ⟨e1, e2⟩ := h8 a
    exact ⟨e1, by rw [cut_more (by omega)]; exact e2⟩
/-- what a part asks of the data. -/
def Cond (d : Dt) (hl ml : List By) (n p : Nat) : Prop :=
  (p = 5 ∨ p = 6 → Nm.Good hl ∧ (Nm.glue hl).length ≤ 255) ∧ (p = 7 → Nm.Good ml ∧ (Nm.glue ml).length ≤ 255) ∧ (p = 8 → hasN d n < 65536) ∧ (p = 9 → hasN d n < 4294967296)
theorem cut_end (b x : By) : ((b ++ x).drop b.length).take x.length = x := by
  rw [List.drop_left]; exact List.take_length
theorem snd_more {b : By} {T : Tab} (h : Pr.Snd b T) (c : By) : Pr.Snd (b ++ c) T := fun k p hf => (h k p hf).more c
theorem wr1_step {d : Dt} {hl ml : List By} {n p : Nat} {T : Tab} {b : By} (hp : p ≤ 9) (hc : Cond d hl ml n p) (hs : Pr.Snd b T) :
    Pr.Snd (wr1 d hl ml n p T b).2 (wr1 d hl ml n p T b).1 ∧ One (wr1 d hl ml n p T b).2 d hl ml n p b.length (wr1 d hl ml n p T b).2.length ∧ ∃ R, (wr1 d hl ml n p T b).2 = b ++ R := by
  obtain ⟨c5, c7, c8, c9⟩ := hc
  by_cases h4 : 1 ≤ p ∧ p ≤ 4
  · rw [wr1_raw h4.1 h4.2]
    exact ⟨snd_more hs _, ⟨by simp, Nat.le_refl _, fun e => by omega, fun _ _ => ⟨List.length_append, cut_end _ _⟩, fun e => by omega, fun e => by omega, fun e => by omega, fun e => by omega⟩, _, rfl⟩
  by_cases h5 : p = 5
  · subst h5
    obtain ⟨g, h255⟩ := c5 (.inl rfl)
    obtain ⟨r1, r2⟩ := Pr.pw_sound (ls := hl) (t := T) (b := b) false g h255 hs
    exact ⟨r2, ⟨by show b.length ≤ (b ++ _).length; simp, Nat.le_refl _, fun e => by omega, fun _ e => by omega, fun _ => r1, fun e => by omega, fun e => by omega, fun e => by omega⟩, _, rfl⟩
  by_cases h6 : p = 6
  · subst h6
    obtain ⟨g, h255⟩ := c5 (.inr rfl)
    obtain ⟨r1, r2⟩ := Pr.pw_sound (ls := hl) (t := T) (b := b) true g h255 hs
    exact ⟨r2, ⟨by show b.length ≤ (b ++ _).length; simp, Nat.le_refl _, fun e => by omega, fun _ e => by omega, fun _ => r1, fun e => by omega, fun e => by omega, fun e => by omega⟩, _, rfl⟩
  by_cases h7 : p = 7
  · subst h7
    obtain ⟨g, h255⟩ := c7 rfl
    obtain ⟨r1, r2⟩ := Pr.pw_sound (ls := ml) (t := T) (b := b) false g h255 hs
    exact ⟨r2, ⟨by show b.length ≤ (b ++ _).length; simp, Nat.le_refl _, fun e => by omega, fun _ e => by omega, fun e => by omega, fun _ => r1, fun e => by omega, fun e => by omega⟩, _, rfl⟩
  by_cases h8 : p = 8
  · subst h8
    have e : wr1 d hl ml n 8 T b = (T, b ++ Oc.beb 2 (hasN d n)) := rfl
    rw [e]
    have h := cut_end b (Oc.beb 2 (hasN d n))
    rw [Oc.beb_length] at h
    exact ⟨snd_more hs _, ⟨by simp, Nat.le_refl _, fun e => by omega, fun _ e => by omega, fun e => by omega, fun e => by omega, fun _ => ⟨by rw [List.length_append, Oc.beb_length], by show Oc.num (((b ++ _).drop _).take 2) = _; rw [h]; rw [Oc.num_beb]; exact Nat.mod_eq_of_lt (c8 rfl)⟩, fun e => by omega⟩, _, rfl⟩
  by_cases h9 : p = 9
  · subst h9
    have e : wr1 d hl ml n 9 T b = (T, b ++ Oc.beb 4 (hasN d n)) := rfl
    rw [e]
    have h := cut_end b (Oc.beb 4 (hasN d n))
    rw [Oc.beb_length] at h
    exact ⟨snd_more hs _, ⟨by simp, Nat.le_refl _, fun e => by omega, fun _ e => by omega, fun e => by omega, fun e => by omega, fun e => by omega, fun _ => ⟨by rw [List.length_append, Oc.beb_length], by show Oc.num (((b ++ _).drop _).take 4) = _; rw [h]; rw [Oc.num_beb]; exact Nat.mod_eq_of_lt (c9 rfl)⟩⟩, _, rfl⟩
  obtain rfl : p = 0 := by omega
  have e : wr1 d hl ml n 0 T b = (T, b) := rfl
  rw [e]
  exact ⟨hs, ⟨Nat.le_refl _, Nat.le_refl _, fun _ => rfl, fun e => by omega, fun e => by omega, fun e => by omega, fun e => by omega, fun e => by omega⟩, [], by simp⟩
/-- all parts stand at their places. -/
def All (b : By) (d : Dt) (hl ml : List By) (ps : List Nat) (pos : Nat → Nat) : Prop := ∀ j (h : j < ps.length), One b d hl ml (nums (ps.take j)) (ps[j]'h) (pos j) (pos (j + 1))
theorem All.more {b : By} {d : Dt} {hl ml : List By} {ps : List Nat} {pos : Nat → Nat} (h : All b d hl ml ps pos) (c : By) : All (b ++ c) d hl ml ps pos := fun j hj => (h j hj).more c
/-- where the parts end. -/
def pos (T : Tab) (l : By) (d : Dt) (hl ml : List By) (ps : List Nat) (j : Nat) : Nat := (wrs T l d hl ml (ps.take j)).2.1.length
theorem wrs_all {T : Tab} {l : By} {d : Dt} {hl ml : List By} {ps : List Nat} (h9 : ∀ p ∈ ps, p ≤ 9) (hc : ∀ j (h : j < ps.length), Cond d hl ml (nums (ps.take j)) (ps[j]'h)) (hs : Pr.Snd l T) :
    Pr.Snd (wrs T l d hl ml ps).2.1 (wrs T l d hl ml ps).1 ∧ (∃ R, (wrs T l d hl ml ps).2.1 = l ++ R) ∧ All (wrs T l d hl ml ps).2.1 d hl ml ps (pos T l d hl ml ps) := by
  suffices H : ∀ k, k ≤ ps.length → Pr.Snd (wrs T l d hl ml (ps.take k)).2.1 (wrs T l d hl ml (ps.take k)).1 ∧ (∃ R, (wrs T l d hl ml (ps.take k)).2.1 = l ++ R) ∧
      ∀ j (h : j < ps.length), j < k → One (wrs T l d hl ml (ps.take k)).2.1 d hl ml (nums (ps.take j)) (ps[j]'h) (pos T l d hl ml ps j) (pos T l d hl ml ps (j + 1)) by
    obtain ⟨h1, h2, h3⟩ := H ps.length (Nat.le_refl _)
    rw [List.take_length] at h1 h2 h3
    exact ⟨h1, h2, fun j hj => h3 j hj hj⟩
  intro k
  induction k with
  | zero => intro _; exact ⟨by rw [List.take_zero, wrs_nil]; exact hs, ⟨[], by rw [List.take_zero, wrs_nil]; simp⟩, fun j _ h => by omega⟩
  | succ k ih =>
    intro hk
    obtain ⟨h1, ⟨R, h2⟩, h3⟩ := ih (by omega)
    have hkl : k < ps.length := by omega
    have e : ps.take (k + 1) = ps.take k ++ [ps[k]] := List.take_succ_eq_append_getElem hkl
    have hw := wrs_snoc T l d hl ml (ps.take k) ps[k]
    obtain ⟨s1, s2, R2, s3⟩ := wr1_step (h9 _ (List.getElem_mem hkl)) (hc k hkl) h1
    rw [e, hw.1, hw.2]
    refine ⟨s1, ⟨R ++ R2, by rw [s3, h2, List.append_assoc]⟩, fun j hj hjk => ?_⟩
    by_cases hlt : j < k
    · rw [s3]; exact (h3 j hj hlt).more R2
    · obtain rfl : j = k := by omega
      have hp : pos T l d hl ml ps (j + 1) = (wr1 d hl ml (nums (ps.take j)) ps[j] (wrs T l d hl ml (ps.take j)).1 (wrs T l d hl ml (ps.take j)).2.1).2.length := by
        unfold pos
        rw [e, hw.2]
      rw [hp]
      exact s2
/-- behind a part of Raw there is none. -/
theorem raw_only {t k : Nat} (hk : k < (parts t).length) (h1 : 1 ≤ (parts t)[k]) (h4 : (parts t)[k] ≤ 4) : k = 0 ∧ ∀ j (h : j < (parts t).length), 0 < j → (parts t)[j] = 0 := by
  have hx : ∀ l : List Nat, parts t = l → (∃ p, l = [p, 0, 0, 0, 0, 0, 0]) ∨ (∀ p ∈ l, ¬ (1 ≤ p ∧ p ≤ 4)) := by
    rintro l rfl
    refine by_type (P := fun t => (∃ p, parts t = [p, 0, 0, 0, 0, 0, 0]) ∨ (∀ p ∈ parts t, ¬ (1 ≤ p ∧ p ≤ 4))) (.inl ⟨_, rfl⟩) (.inl ⟨_, rfl⟩) (.inl ⟨_, rfl⟩) (.inr (by decide)) (.inl ⟨_, rfl⟩) (.inr (by decide)) (.inl ⟨_, rfl⟩) (.inl ⟨_, rfl⟩) (.inr (by decide)) (fun t a b c d e f g h i => .inl ⟨4, parts_other a b c d e f g h i⟩) t
  rcases hx _ rfl with ⟨p, e⟩ | e
  · have hz : ∀ j (h : j < (parts t).length), 0 < j → (parts t)[j] = 0 := by
      intro j h hj
      simp only [e] at h ⊢
      rcases (by simp at h; omega : j = 1 ∨ j = 2 ∨ j = 3 ∨ j = 4 ∨ j = 5 ∨ j = 6) with rfl | rfl | rfl | rfl | rfl | rfl <;> rfl
    refine ⟨?_, hz⟩
    by_cases h0 : k = 0
    · exact h0
    · have := hz k hk (by omega)
      omega
  · exact absurd ⟨h1, h4⟩ (e _ (List.getElem_mem hk))
theorem All.raw_end {b : By} {d : Dt} {hl ml : List By} {t : Nat} {q : Nat → Nat} (h : All b d hl ml (parts t) q) {k : Nat} (hk : k < (parts t).length) (h1 : 1 ≤ (parts t)[k]) (h4 : (parts t)[k] ≤ 4) : q (k + 1) = q 7 := by
  obtain ⟨rfl, hz⟩ := raw_only hk h1 h4
  have e : ∀ j, 1 ≤ j → j ≤ 7 → q j = q 1 := by
    intro j
    induction j with
    | zero => intro h; omega
    | succ j ih =>
      intro h0 h7
      by_cases hj : j = 0
      · subst hj; rfl
      · have hl : j < (parts t).length := by rw [parts_len]; omega
        rw [(h j hl).none (hz j hl (by omega)), ih (by omega) (by omega)]
  exact (e 7 (by omega) (by omega)).symm
theorem All.up {b : By} {d : Dt} {hl ml : List By} {t : Nat} {q : Nat → Nat} (h : All b d hl ml (parts t) q) : ∀ i j, i ≤ j → j ≤ 7 → q i ≤ q j := by
  intro i j hij
  induction j with
  | zero =>
    intro _
    rw [Nat.le_zero.1 hij]
    exact Nat.le_refl _
  | succ j ih =>
    intro h7
    by_cases he : i = j + 1
    · subst he; exact Nat.le_refl _
    · exact Nat.le_trans (ih (by omega) (by omega)) (h j (by rw [parts_len]; omega)).le
theorem All.top {b : By} {d : Dt} {hl ml : List By} {t : Nat} {q : Nat → Nat} (h : All b d hl ml (parts t) q) {j : Nat} (hj : j ≤ 7) : q j ≤ b.length :=
  Nat.le_trans (h.up j 7 hj (Nat.le_refl _)) ((h 6 (by rw [parts_len]; omega)).top)
end Go.Proofs.YtbipcflmmfipbaaDoor.Rd
/- Data that stand one behind the other: what a row of writings leaves. -/
namespace Go.Proofs.YtbipcflmmfipbaaDoor
open Go.RowKit

theorem rd_cond {t : Nat} {d : Dv} (hok : Rd.ok t d.dt = true) (hf : d.fits) : ∀ j (h : j < (Rd.parts t).length), Rd.Cond d.dt (lbs d.host) (lbs d.mail) (Rd.nums ((Rd.parts t).take j)) ((Rd.parts t)[j]'h) := by
  intro j hj
  have hfa : Rd.fitAll d.dt (Rd.parts t) 0 = true := by
    rw [Rd.ok_parts, Bool.and_eq_true] at hok
    exact hok.1
  have hx := fitAll_at hfa hj
  have hn5 : Rd.nums ((Rd.parts t).take (j + 1)) ≤ 5 := Rd.nums_le
  rw [List.take_succ_eq_append_getElem hj, Rd.nums_snoc] at hn5
  have hnum : (Rd.parts t)[j] = 8 ∨ (Rd.parts t)[j] = 9 → Rd.hasN d.dt (Rd.nums ((Rd.parts t).take j)) ≤ 4294967295 := fun h => by
    rw [if_pos h] at hn5
    rw [rd_hasN2 d (by omega)]
    exact hf _
  refine ⟨fun h => ?_, fun h => ?_, fun h => ?_, fun h => ?_⟩
  · have hm : Rd.nm d.host.data.toList = true := by
      rcases h with h | h <;> rw [h] at hx <;> simpa [Rd.fit, Dv.dt] using hx
    obtain ⟨h1, h2, h3⟩ := Nm.split_some.1 (lbs_of hm)
    exact ⟨h2, by rw [← h1]; exact h3⟩
  · have hm : Rd.nm d.mail.data.toList = true := by
      rw [h] at hx
      simpa [Rd.fit, Dv.dt] using hx
    obtain ⟨h1, h2, h3⟩ := Nm.split_some.1 (lbs_of hm)
    exact ⟨h2, by rw [← h1]; exact h3⟩
  · rw [h] at hx
    have : Rd.hasN d.dt (Rd.nums ((Rd.parts t).take j)) ≤ 65535 := by simpa [Rd.fit] using hx
    omega
  · have := hnum (.inr h)
    omega
/-- data that stand one behind the other. -/
def RChain (b : List UInt8) (ps : List Nat) (ks : List DIt) : Prop :=
  ps.length = ks.length + 1 ∧ ∀ j (h : j < ks.length), ∃ q : Nat → Nat, ps[j]? = some (q 0) ∧ ps[j + 1]? = some (q 7) ∧ PdD ks[j].ty ks[j].data ∧ Rd.ok ks[j].ty ks[j].data.dt = true ∧
    Rd.All b ks[j].data.dt (lbs ks[j].data.host) (lbs ks[j].data.mail) (Rd.parts ks[j].ty) q
theorem RChain.nil : RChain [] [0] [] := ⟨rfl, fun j h => absurd h (by simp)⟩
theorem RChain.step {b R : List UInt8} {ats : List Nat} {ks : List DIt} (h : RChain b (ats ++ [b.length]) ks) {it : DIt} (hd : PdD it.ty it.data) (hok : Rd.ok it.ty it.data.dt = true) {q : Nat → Nat} (h0 : q 0 = b.length) (h7 : q 7 = (b ++ R).length)
    (hall : Rd.All (b ++ R) it.data.dt (lbs it.data.host) (lbs it.data.mail) (Rd.parts it.ty) q) :
    RChain (b ++ R) ((ats ++ [b.length]) ++ [(b ++ R).length]) (ks ++ [it]) := by
  obtain ⟨h1, h2⟩ := h
  have hl : ats.length = ks.length := by simp at h1; exact h1
  refine ⟨by rw [List.length_append, h1]; simp, fun j hj => ?_⟩
  rw [List.length_append] at hj
  by_cases hlt : j < ks.length
  · obtain ⟨q', e1, e2, e3, e4, e5⟩ := h2 j hlt
    refine ⟨q', get_front e1 _, get_front e2 _, ?_⟩
    rw [List.getElem_append_left hlt]
    exact ⟨e3, e4, e5.more R⟩
  · obtain rfl : j = ks.length := by simp at hj; omega
    refine ⟨q, ?_, ?_, ?_⟩
    · rw [← hl, h0]; exact get_front (get_snoc ats b.length) _
    · have := get_snoc (ats ++ [b.length]) (b ++ R).length
      have e : (ats ++ [b.length]).length = ks.length + 1 := h1
      rw [e] at this
      rw [h7]
      exact this
    · rw [List.getElem_append_right (Nat.le_refl _)]
      simp only [Nat.sub_self, List.getElem_cons_zero]
      exact ⟨hd, hok, hall⟩
/-- what is known of what was written, apart from memory. -/
def RbP (T : Tab) (b : List UInt8) (ats : List Nat) (ks : List DIt) (i : Nat) : Prop :=
  Pr.Snd b T ∧ RChain b (ats ++ [b.length]) ks ∧ b.length ≤ 500000 * i ∧ T.length ≤ 1400 * i ∧ ks.length ≤ i ∧ ats.length = ks.length
theorem RbP.nil : RbP [] [] [] [] 0 := ⟨Pr.Snd.nil _, RChain.nil, by simp, by simp, by simp, rfl⟩
theorem RbP.skip {T : Tab} {b : List UInt8} {ats : List Nat} {ks : List DIt} {i : Nat} (h : RbP T b ats ks i) : RbP T b ats ks (i + 1) := by
  obtain ⟨h1, h2, h3, h4, h5, h6⟩ := h
  exact ⟨h1, h2, by omega, by omega, by omega, h6⟩
theorem RbP.step {T : Tab} {b : List UInt8} {ats : List Nat} {ks : List DIt} {i : Nat} (h : RbP T b ats ks i) {it : DIt} (hd : PdD it.ty it.data) (hok : Rd.ok it.ty it.data.dt = true)
    (hb : (Rd.wrs T b it.data.dt (lbs it.data.host) (lbs it.data.mail) (Rd.parts it.ty)).2.1.length ≤ b.length + 490000) (hT : (Rd.wrs T b it.data.dt (lbs it.data.host) (lbs it.data.mail) (Rd.parts it.ty)).1.length ≤ T.length + 1400) :
    RbP (Rd.wrs T b it.data.dt (lbs it.data.host) (lbs it.data.mail) (Rd.parts it.ty)).1 (Rd.wrs T b it.data.dt (lbs it.data.host) (lbs it.data.mail) (Rd.parts it.ty)).2.1 (ats ++ [b.length]) (ks ++ [it]) (i + 1) := by
  obtain ⟨h1, h2, h3, h4, h5, h6⟩ := h
  obtain ⟨r1, ⟨R, r2⟩, r3⟩ := Rd.wrs_all (T := T) (l := b) (d := it.data.dt) (hl := lbs it.data.host) (ml := lbs it.data.mail) (Rd.parts_lt it.ty) (rd_cond hok hd.2.1) h1
  have e7 : (Rd.parts it.ty).take 7 = Rd.parts it.ty := List.take_of_length_le (by rw [Rd.parts_len]; omega)
  have p7 : Rd.pos T b it.data.dt (lbs it.data.host) (lbs it.data.mail) (Rd.parts it.ty) 7 = (Rd.wrs T b it.data.dt (lbs it.data.host) (lbs it.data.mail) (Rd.parts it.ty)).2.1.length := by
    unfold Rd.pos; rw [e7]
  have p0 : Rd.pos T b it.data.dt (lbs it.data.host) (lbs it.data.mail) (Rd.parts it.ty) 0 = b.length := rfl
  refine ⟨r1, ?_, by omega, by omega, by simp; omega, by simp; omega⟩
  have hs := h2.step (R := R) hd hok p0 (by rw [p7, r2]) (by rw [← r2]; exact r3)
  rw [r2]
  exact hs
/-- items, cell by cell. -/
def dcs (ks : List DIt) : List Value := ks.flatMap fun it => .int .i64 it.skip :: .int .u16 it.ty :: it.data.cells.toList
theorem dcs_append (x : List DIt) (it : DIt) : dcs (x ++ [it]) = dcs x ++ (.int .i64 it.skip :: .int .u16 it.ty :: it.data.cells.toList) := by simp [dcs]
theorem dcs_at : ∀ (ks : List DIt) (j i : Nat) (h : j < ks.length), i < 10 → (dcs ks)[j * 10 + i]? = (Value.int .i64 (ks[j]'h).skip :: .int .u16 (ks[j]'h).ty :: (ks[j]'h).data.cells.toList)[i]? := by
  intro ks
  induction ks with
  | nil => intro j i h; cases h
  | cons k r ih =>
    intro j i h hi
    have hl : (Value.int .i64 k.skip :: Value.int .u16 k.ty :: k.data.cells.toList).length = 10 := rfl
    have e : dcs (k :: r) = (Value.int .i64 k.skip :: Value.int .u16 k.ty :: k.data.cells.toList) ++ dcs r := rfl
    rw [e]
    cases j with
    | zero =>
      rw [List.getElem?_append_left (by omega)]
      simp
    | succ j =>
      rw [List.getElem?_append_right (by omega), hl, show (j + 1) * 10 + i - 10 = j * 10 + i by omega]
      exact ih j i (by simpa using h) hi
theorem Rg.ownK {W W' : World} {g base : Nat} (h : Rg g base W W') {t e : TypeId} {cs : Array Value} (hT : Has W g t cs) {b n k : Nat} {v : Value} {xs : List Value} (hk : W.ownsRow b e k v n xs) (hte : t ≠ e) : W'.ownsRow b e k v n xs := by
  refine ⟨hk.1, ?_⟩
  rcases hk.2 with h0 | ⟨g2, cap, cur, rfl, hb, hg, rest⟩
  · exact .inl h0
  · refine .inr ⟨g2, cap, cur, rfl, hb, h.same g2 _ (fun e2 => ?_) hg rfl, rest⟩
    subst e2
    rw [show W.heap[g2]? = _ from hT] at hg
    cases hg
    exact hte rfl
theorem own_formK {w : World} {B n k : Nat} {e : TypeId} {v : Value} {xs : List Value} (h : w.ownsRow B e k v n xs) : ∃ ad cp, v = .slice ad n cp := by
  rcases h.2 with ⟨rfl, h0⟩ | ⟨g', cap, cur, rfl, _⟩
  · exact ⟨none, 0, by rw [h0]⟩
  · exact ⟨_, _, rfl⟩
theorem own_apartK {w : World} {b b2 k k2 n n2 : Nat} {e e2 : TypeId} {v v2 : Value} {xs ys : List Value} (h : w.ownsRow b e k v n xs) (h2 : w.ownsRow b2 e2 k2 v2 n2 ys) (hne : e2 ≠ e) : v2.ownBlock = none ∨ v2.ownBlock ≠ v.ownBlock := by
  rcases h2.2 with ⟨rfl, _⟩ | ⟨g2, cap2, cur2, rfl, _, hg2, _⟩
  · exact .inl rfl
  · rcases h.2 with ⟨rfl, _⟩ | ⟨g, cap, cur, rfl, _, hg, _⟩
    · exact .inr (by simp [Value.ownBlock])
    · refine .inr fun e' => ?_
      obtain rfl : g2 = g := by simpa [Value.ownBlock] using e'
      rw [hg] at hg2
      cases hg2
      exact hne rfl
theorem own_stillK {w w' : World} {b b2 k k2 n n2 : Nat} {e e2 : TypeId} {v v2 : Value} {xs ys : List Value} (h : w.ownsRow b e k v n xs) (h2 : w.ownsRow b2 e2 k2 v2 n2 ys) (hne : e2 ≠ e) (hg : w.grownBy w' v.ownBlock) : w'.ownsRow b2 e2 k2 v2 n2 ys := h2.kept hg (own_apartK h h2 hne)
theorem has_not_ownK {w : World} {g b n k : Nat} {t e : TypeId} {cs : Array Value} {v : Value} {xs : List Value} (h : Has w g t cs) (ho : w.ownsRow b e k v n xs) (hte : t ≠ e) : some g ≠ v.ownBlock := by
  rcases ho.2 with ⟨rfl, _⟩ | ⟨g', cap, cur, rfl, _, hgb, _⟩
  · simp [Value.ownBlock]
  · intro e'
    obtain rfl : g = g' := by simpa [Value.ownBlock] using e'
    rw [show w.heap[g]? = _ from h] at hgb
    cases hgb
    exact hte rfl
theorem Tb.stillK {W W' : World} {g base b n k : Nat} {e : TypeId} {mp : Option Nat} {t : Tab} {v : Value} {xs : List Value} (h : Tb W g base mp t) (ho : W.ownsRow b e k v n xs) (he : 92 ≠ e) (hg : W.grownBy W' v.ownBlock) : Tb W' g base mp t := by
  refine h.grown hg (has_not_ownK h.2.1 ho he) (fun r hr o hro => ?_)
  rcases ho.2 with ⟨rfl, _⟩ | ⟨g2, cap, cur, rfl, _, hgb, _⟩
  · simp [Value.ownBlock] at hr
  · have : g2 = r := by simpa [Value.ownBlock] using hr
    subst this
    rw [hgb] at hro
    cases hro
    rfl
theorem RowO.stillK {w w' : World} {b b2 k n : Nat} {e : TypeId} {v v2 : Value} {xs : List Value} {l : List UInt8} (h : w.ownsRow b e k v n xs) (h2 : RowO w b2 v2 l) (hne : 5 ≠ e) (hg : w.grownBy w' v.ownBlock) : RowO w' b2 v2 l := by
  rcases h2 with h2 | ⟨g, cp, rfl, h2⟩
  · exact .inl (own_stillK h h2 hne hg)
  · exact .inr ⟨g, cp, rfl, own_stillK h h2 hne hg⟩
/-- the writing's table and rows in memory. -/
def RbW (w : World) (T : Tab) (b : List UInt8) (ats : List Nat) (ks : List DIt) (vb vat vk : Value) (W : World) : Prop :=
  (∃ mp, Tb W w.heap.size w.heap.size mp T) ∧ RowO W w.heap.size vb b ∧ W.ownsRow w.heap.size 3 1 vat ats.length (ints ats) ∧ W.ownsRow w.heap.size 41 10 vk ks.length (dcs ks) ∧ Below w.heap.size w W
section
variable {w W W' : World} {T : Tab} {b : List UInt8} {ats : List Nat} {ks : List DIt} {vb vat vk : Value}
theorem RbW.new (w : World) : RbW w [] [] [] [] (.slice none 0 0) (.slice none 0 0) (.slice none 0 0) (w.alloc (.cells #[.map none] 92)) :=
  ⟨⟨none, Tb.new w (Nat.le_refl _)⟩, .inl (World.ownsRow_nil _ _ _ _), World.ownsRow_nil _ _ _ _, World.ownsRow_nil _ _ _ _, (Below.refl _ _).alloc (Nat.le_refl _) _⟩
theorem RbW.low (h : RbW w T b ats ks vb vat vk W) (hb : Below W.heap.size W W') : RbW w T b ats ks vb vat vk W' := by
  obtain ⟨⟨mp, h1⟩, h2, h3, h4, h5⟩ := h
  exact ⟨⟨mp, h1.below hb⟩, h2.below hb, own_below h3 hb (Nat.le_refl _), own_below h4 hb (Nat.le_refl _), h5.trans (hb.mono h5.size)⟩
/-- a place more. -/
theorem RbW.at_ (h : RbW w T b ats ks vb vat vk W) {o : Obj} {v9 : Value} {p : Nat} (hO : W'.ownsRow w.heap.size 3 1 v9 (ats.length + 1) (ints ats ++ [.int .i64 (p : Nat)])) (hB : Below w.heap.size w W') (hG : (W.alloc o).grownBy W' vat.ownBlock) :
    RbW w T b (ats ++ [p]) ks vb v9 vk W' := by
  have h' := h.low ((Below.refl W.heap.size W).alloc (Nat.le_refl _) o)
  obtain ⟨⟨mp, h1⟩, h2, h3, h4, h5⟩ := h'
  exact ⟨⟨mp, h1.stillK h3 (by decide) hG⟩, .stillK h3 h2 (by decide) hG, own_to hO (by simp) (by rw [ints_append]; rfl), own_stillK h3 h4 (by decide) hG, hB⟩
/-- an item more. -/
theorem RbW.item (h : RbW w T b ats ks vb vat vk W) {o : Obj} {v9 : Value} {it : DIt} (hO : W'.ownsRow w.heap.size 41 10 v9 (ks.length + 1) (dcs ks ++ (.int .i64 it.skip :: .int .u16 it.ty :: it.data.cells.toList))) (hB : Below w.heap.size w W') (hG : (W.alloc o).grownBy W' vk.ownBlock) :
    RbW w T b ats (ks ++ [it]) vb vat v9 W' := by
  have h' := h.low ((Below.refl W.heap.size W).alloc (Nat.le_refl _) o)
  obtain ⟨⟨mp, h1⟩, h2, h3, h4, h5⟩ := h'
  refine ⟨⟨mp, h1.stillK h4 (by decide) hG⟩, .stillK h4 h2 (by decide) hG, own_stillK h4 h3 (by decide) hG, ?_, hB⟩
  rw [List.length_append, dcs_append]
  exact hO
/-- data are put. -/
theorem rb_put (h : RbW w T b ats ks vb vat vk W) (hL : LayR W) {i : Nat} (hp : RbP T b ats ks i) (hi : i ≤ 60) {it : DIt} (hd : PdD it.ty it.data) (hok : Rd.ok it.ty it.data.dt = true) :
    Calls Tryd.prog 15 #[vb, .pointer (some ⟨w.heap.size, 0, none⟩), .int .u16 it.ty, it.data.val] W fun e W' =>
      ∃ v T2 b2, e = .returned (.tuple #[v, .int .i64 0]) ∧ RbP T2 b2 (ats ++ [b.length]) (ks ++ [it]) (i + 1) ∧ (∃ mp, Tb W' w.heap.size w.heap.size mp T2) ∧ RowO W' w.heap.size v b2 ∧ RowO W' w.heap.size vb b ∧ W'.ownsRow w.heap.size 3 1 vat ats.length (ints ats) ∧ W'.ownsRow w.heap.size 41 10 vk ks.length (dcs ks) ∧ Below w.heap.size w W' := by
  obtain ⟨⟨mp, h1⟩, h2, h3, h4, h5⟩ := h
  have hbl := hp.2.2.1
  have htl := hp.2.2.2.1
  obtain ⟨A, c, rfl⟩ := h2.form
  refine (pdPut_any it.ty it.data w.heap.size w.heap.size mp T A b c W hd.1 hL h1 h5.size h2.rds (by omega) (by omega) hd.2.1 hd.2.2.1 hd.2.2.2.1 hd.2.2.2.2 hok).mono fun e W' hq => ?_
  obtain ⟨v, rfl, mp2, k1, k2, k3, k4, k5, k6, k7, k8⟩ := hq
  rw [Rd.parts_len] at k6 k7
  exact ⟨v, _, _, rfl, hp.step hd hok (by omega) (by omega), ⟨mp2, k2⟩, (k8 (Rd.parts_some it.ty)).mono h5.size, h2.rg k3 h1.2.1, k3.ownK h1.2.1 h3 (by decide), k3.ownK h1.2.1 h4 (by decide), h5.trans k3.below⟩
theorem rb_no (h : RbW w T b ats ks vb vat vk W) (hL : LayR W) {it : DIt} (hd : PdD it.ty it.data) (hok : Rd.ok it.ty it.data.dt = false) :
    Calls Tryd.prog 15 #[vb, .pointer (some ⟨w.heap.size, 0, none⟩), .int .u16 it.ty, it.data.val] W fun e W' =>
      e = .returned (.tuple #[.slice none 0 0, .int .i64 40]) ∧ RbW w T b ats ks vb vat vk W' := by
  obtain ⟨A, c, rfl⟩ := h.2.1.form
  refine (pdPut_no w.heap.size b.length c it.ty A it.data W hL fun W2 hW => ?_).mono fun e W' ⟨he, hb⟩ => ⟨he, h.low hb⟩
  have := pdCheck_any it.ty it.data W2 hd.1 hW hd.2.1 hd.2.2.1 hd.2.2.2.1 hd.2.2.2.2
  rw [hok] at this
  exact this
end
end Go.Proofs.YtbipcflmmfipbaaDoor
