/- Texts of the proofs, merged. -/
import Derived.Test.YtopcklpmeaghmaaGreatDoorG33
import Derived.Test.YtopcklpmeaghmaaGreatDoorG11
import Derived.Test.YtopcklpmeaghmaaGreatDoorG12
import Derived.Test.YtopcklpmeaghmaaGreatDoorG5
import Derived.Test.YtopcklpmeaghmaaGreatDoorGC
import Derived.Deep.RegionHeld3
import Derived.Test.YtopcklpmeaghmaaGreatDoorG40
import Derived.Test.YtopcklpmeaghmaaGreatDoorG41
import Derived.Test.YtopcklpmeaghmaaGreatDoorG39
import Derived.Test.YtopcklpmeaghmaaGreatDoorG21
import Derived.Test.YtopcklpmeaghmaaGreatDoorG36
import Derived.Test.YtopcklpmeaghmaaGreatDoorG13
import Derived.OpenShut
import Derived.Lib.LaidTab
import Derived.Stop.LaidErr
import Derived.Test.YtopcklpmeaghmaaGreatDoorG38
import Derived.Test.YtopcklpmeaghmaaGreatDoorCards
import Derived.Test.YtopcklpmeaghmaaGreatDoorTie
import Derived.LaidMore
import Derived.LaidSub
/- The document's answer on data: Show of short texts (what Escape answers is handed in). -/
namespace Go.Proofs.YtopcklpmeaghmaaGreatDoor
open Go.RowKit

namespace Rd
def quoted (E : By → By) (ls : List By) : By := ls.flatMap fun l => [32, 34] ++ E l ++ [34]
theorem quoted_take {E : By → By} {ls : List By} {k : Nat} (hk : k < ls.length) : quoted E (ls.take (k + 1)) = ((quoted E (ls.take k) ++ [32, 34]) ++ E (ls[k]'hk)) ++ [34] := by
  unfold quoted
  rw [List.take_add_one, List.getElem?_eq_getElem hk, List.flatMap_append]
  simp
end Rd
end Go.Proofs.YtopcklpmeaghmaaGreatDoor
/- digit, marked, Bytes, Escape: the document's answers on texts. -/
namespace Go.Proofs.YtopcklpmeaghmaaGreatDoor
open Go.RowKit

end Go.Proofs.YtopcklpmeaghmaaGreatDoor
/- Bytes: the document's answer. -/
namespace Go.Proofs.YtopcklpmeaghmaaGreatDoor
open Go.RowKit

theorem list_at (s : ByteArray) (k : Nat) (h : k < s.size) : s.data.toList.drop k = s[k] :: s.data.toList.drop (k + 1) := by
  rw [Nm.drop_cons (by simpa using h)]; rfl

end Go.Proofs.YtopcklpmeaghmaaGreatDoor
/- text, Cmp, Under: the document's order. -/
namespace Go.Proofs.YtopcklpmeaghmaaGreatDoor
open Go.RowKit

theorem keep_cell {W W1 : World} {p : Addr} {v : Value} (hb : Below W.heap.size W W1) (h : W.cell? p = some v) : W1.cell? p = some v := (hb.cell (block_lt_of_cell h)).trans h
theorem keep_drewN {W : World} {p : Addr} {v : Value} (h : W.cell? p = some v) (n : Nat) : (W.drewN n).cell? p = some v := h
theorem keep_below {B : Nat} {w W W1 : World} (hb : Below W.heap.size W W1) (h : Below B w W) (hB : B ≤ w.heap.size) : Below B w W1 := h.trans (hb.mono (Nat.le_trans hB h.size))

end Go.Proofs.YtopcklpmeaghmaaGreatDoor
/- pieces, Parse, Text: the document's answers. -/
namespace Go.Proofs.YtopcklpmeaghmaaGreatDoor
open Go.RowKit

/-- the pieces ps end ahead of f. -/
def Ahead (l : List UInt8) (f : Nat) (ps : List (List UInt8)) : Prop :=
  f ≤ l.length ∧ ps.length ≤ f ∧ (f < l.length ∨ f = 0 → Nm.pieces l = (ps ++ (Nm.pieces (l.drop f)).1, (Nm.pieces (l.drop f)).2)) ∧ (f = l.length → 0 < f → Nm.pieces l = (ps, true))
theorem Ahead.zero (l : List UInt8) : Ahead l 0 [] := ⟨Nat.zero_le _, by simp, fun _ => by simp, fun _ h => by omega⟩
theorem CutAt.dot' {l : List UInt8} {k : Nat} (h : CutAt l k) (hk : k < l.length) (h46 : (l[k]).toNat = 46) : Nm.cutP l = (l.take k, l.drop (k + 1), true) := by
  rcases h with ⟨_, h⟩ | ⟨h, _⟩
  · rw [h, Nm.drop_cons hk, Nm.cutP_dot h46]; simp
  · omega
theorem CutAt.done' {l : List UInt8} {k : Nat} (h : CutAt l k) (hk : l.length ≤ k) : Nm.cutP l = (l, [], false) := by
  rcases h with ⟨h1, h⟩ | ⟨_, h⟩
  · obtain rfl : k = l.length := by omega
    rw [h, List.drop_length, List.take_length]; simp [Nm.cutP]
  · exact h
theorem Ahead.step {l : List UInt8} {f i : Nat} {ps : List (List UInt8)} (h : Ahead l f ps) (hfi : f ≤ i) (hi : i < l.length) (hc : CutAt (l.drop f) (i - f)) (h46 : (l[i]).toNat = 46) :
    Ahead l (i + 1) (ps ++ [(l.drop f).take (i - f)]) := by
  have hlt : i - f < (l.drop f).length := by rw [List.length_drop]; omega
  have hg : ((l.drop f)[i - f]'hlt).toNat = 46 := by rw [List.getElem_drop]; simp only [show f + (i - f) = i by omega]; exact h46
  have hcut := hc.dot' hlt hg
  have hd : (l.drop f).drop (i - f + 1) = l.drop (i + 1) := by rw [List.drop_drop]; congr 1; omega
  rw [hd] at hcut
  have hp := h.2.2.1 (.inl (by omega))
  refine ⟨hi, by have := h.2.1; simp; omega, fun hh => ?_, fun he _ => ?_⟩
  · have hm := Nm.pieces_more (l := l.drop f) (by rw [hcut]) (by rw [hcut]; simp; omega)
    rw [hp, hm, hcut]; simp
  · have hm := Nm.pieces_whole (l := l.drop f) (by rw [hcut]) (by rw [hcut]; simp; omega)
    rw [hp, hm, hcut]
theorem Ahead.rest {l : List UInt8} {f i : Nat} {ps : List (List UInt8)} (h : Ahead l f ps) (hfi : f ≤ i) (hi : l.length ≤ i) (hc : CutAt (l.drop f) (i - f)) (hn : f < l.length ∨ f = 0) : Nm.pieces l = (ps ++ [l.drop f], false) := by
  have hcut := hc.done' (by rw [List.length_drop]; omega)
  rw [h.2.2.1 hn, Nm.pieces_end (by rw [hcut]), hcut]

def PiecesPost (w : World) (l : List UInt8) (e : Ending) (w' : World) : Prop :=
  ∃ v, e = .returned (.tuple #[v, .bool (Nm.pieces l).2]) ∧ w'.ownsRow w.heap.size 9 1 v (Nm.pieces l).1.length (svs (Nm.pieces l).1) ∧ Below w.heap.size w w'
theorem pieces_done {w w' : World} {l : List UInt8} {v x : Value} {ps : List (List UInt8)} {b : Bool} (hp : Nm.pieces l = (ps, b)) (hx : x = .bool b) (ho : w'.ownsRow w.heap.size 9 1 v ps.length (svs ps)) (hb : Below w.heap.size w w') : PiecesPost w l (.returned (.tuple #[v, x])) w' :=
  ⟨v, by rw [hp, hx], by rw [hp]; exact ho, hb⟩

theorem piecesF_le : ∀ (f : Nat) (l p : List UInt8), p ∈ (Nm.piecesF f l).1 → p.length ≤ l.length := by
  intro f
  induction f with
  | zero => intro l p h; simp [Nm.piecesF] at h
  | succ f ih =>
    intro l p h
    rw [Nm.piecesF_succ] at h
    have hc := cut_len l
    split at h
    · split at h
      · simp at h; subst h; exact hc.1
      · simp only [List.mem_cons] at h
        rcases h with rfl | h
        · exact hc.1
        · exact Nat.le_trans (ih _ p h) hc.2
    · simp at h; subst h; exact hc.1
theorem piecesF_count : ∀ (f : Nat) (l : List UInt8), (Nm.piecesF f l).1.length ≤ l.length + 1 := by
  intro f
  induction f with
  | zero => intro l; simp [Nm.piecesF]
  | succ f ih =>
    intro l
    rw [Nm.piecesF_succ]
    split
    · rename_i hd
      have hl := Nm.cutP_less _ l (Nat.le_refl _) hd
      split
      · simp
      · have := ih (Nm.cutP l).2.1
        simp only [List.length_cons]; omega
    · simp
/-- the first k pieces have told the labels bs. -/
def ToldAt (ps : List (List UInt8)) (k : Nat) (bs : List (List UInt8)) : Prop :=
  k ≤ ps.length ∧ bs.length = k ∧ Nm.Good bs ∧ Nm.labelsP ps = match Nm.labelsP (ps.drop k) with | .error n => .error n | .ok r => .ok (bs ++ r)
theorem ToldAt.zero (ps : List (List UInt8)) : ToldAt ps 0 [] := ⟨Nat.zero_le _, rfl, (fun l hl => by simp at hl), by rw [List.drop_zero]; rcases Nm.labelsP ps <;> rfl⟩
theorem ToldAt.no {ps bs : List (List UInt8)} {k : Nat} (h : ToldAt ps k bs) (hk : k < ps.length) (hu : Nm.unesc ps[k] = none) : Nm.labelsP ps = .error 12 := by
  rw [h.2.2.2, List.drop_eq_getElem_cons hk, labelsP_esc _ _ hu]
theorem ToldAt.bad {ps bs : List (List UInt8)} {k : Nat} {b : List UInt8} (h : ToldAt ps k bs) (hk : k < ps.length) (hu : Nm.unesc ps[k] = some b) (hg : ¬ (1 ≤ b.length ∧ b.length ≤ 63)) : Nm.labelsP ps = .error 10 := by
  rw [h.2.2.2, List.drop_eq_getElem_cons hk, labelsP_bad _ _ _ hu hg]
theorem ToldAt.step {ps bs : List (List UInt8)} {k : Nat} {b : List UInt8} (h : ToldAt ps k bs) (hk : k < ps.length) (hu : Nm.unesc ps[k] = some b) (hg : 1 ≤ b.length ∧ b.length ≤ 63) : ToldAt ps (k + 1) (bs ++ [b]) := by
  refine ⟨hk, by rw [List.length_append, h.2.1]; rfl, good_app h.2.2.1 (fun l hl => by simp at hl; subst hl; exact hg), ?_⟩
  rw [h.2.2.2, List.drop_eq_getElem_cons hk, labelsP_cons _ _ _ hu hg]
  rcases Nm.labelsP (ps.drop (k + 1)) with n | r
  · rfl
  · simp
theorem ToldAt.done {ps bs : List (List UInt8)} (h : ToldAt ps ps.length bs) : Nm.labelsP ps = .ok bs := by
  rw [h.2.2.2, List.drop_length]; simp [Nm.labelsP]
theorem parseR_eq {l o : List UInt8} {os : List (List UInt8)} (ho : Nm.split o = some os) (hd : l ≠ [46]) :
    parseR l o = match Nm.labelsP (Nm.pieces l).1 with | .error e => .tuple #[sv [], .int .i64 (e : Nat)] | .ok ls => nameR (if (Nm.pieces l).2 then ls else ls ++ os) := by
  unfold parseR Nm.parse
  rw [ho]
  simp only [if_neg hd]
  rcases Nm.labelsP (Nm.pieces l).1 with e | ls
  · rfl
  · exact (nameR_eq _).symm

end Go.Proofs.YtopcklpmeaghmaaGreatDoor
/- Text of the reference: the document's answer. -/
namespace Go.Proofs.YtopcklpmeaghmaaGreatDoor
open Go.RowKit

end Go.Proofs.YtopcklpmeaghmaaGreatDoor
/- Show: the program's and the document's, any type. -/
namespace Go.Proofs.YtopcklpmeaghmaaGreatDoor
open Go.RowKit

theorem text_few (l : List UInt8) : (Nm.text l).length ≤ 40000 := by
  unfold Nm.text
  cases hs : Nm.split l with
  | none => simp
  | some ls =>
    obtain ⟨e1, e2, e3⟩ := Nm.split_some.1 hs
    have h1 := textL_len ls e2
    have h2 := Nm.good_count e2
    have h3 := Nm.glue_length ls
    rw [e1] at e3
    cases ls with
    | nil => simp
    | cons a r =>
      show (Nm.textL (a :: r)).length ≤ 40000
      omega
/-- the words that bytes are told by. -/
def shX (d : Dv) (ls : List (List UInt8)) (p : Nat) : List (List UInt8) :=
  if p = 1 then [Rd.showA d.raw.data.toList] else if p = 2 then [(Rd.pairs d.raw.data.toList 8).drop 1] else if p = 3 then ls.map qw else if p = 4 then cw d.raw.data.toList else []
/-- what data are told by. -/
def shS (t : Nat) (d : Dv) (ls : List (List UInt8)) : List UInt8 :=
  if t = 1 then Rd.showA d.raw.data.toList else if t = 28 then (Rd.pairs d.raw.data.toList 8).drop 1 else if t = 16 then (Rd.quoted (Nm.esc true) ls).drop 1
  else if t = 6 then ((((([] ++ [32]) ++ Nm.text d.host.data.toList) ++ [32]) ++ Nm.text d.mail.data.toList) ++ Rd.numw d 5).drop 1
  else if Rd.isHost t then (Rd.numw d (Rd.cnt t) ++ 32 :: Nm.text d.host.data.toList).drop 1 else Rd.showHex d.raw.data.toList
theorem join_sp (ws : List (List UInt8)) : Lib.join ws [32] = (ws.flatMap fun x => 32 :: x).drop 1 := by
  have := Rd.join_flat (fun x : List UInt8 => x) 32 ws
  rw [List.map_id'] at this
  exact this
theorem sh_eq (d : Dv) (ls : List (List UInt8)) (t : Nat) : Lib.join (Rd.wds d.dt (shX d ls) (Rd.parts t)).1 [32] = shS t d ls := by
  rw [join_sp]
  refine Rd.by_type (P := fun t => ((Rd.wds d.dt (shX d ls) (Rd.parts t)).1.flatMap fun x => 32 :: x).drop 1 = shS t d ls) ?_ ?_ ?_ ?_ ?_ ?_ ?_ ?_ ?_ (fun t a b c e f g h i j => ?_) t
  case refine_10 =>
    have e1 : Rd.isHost t = false := by simp [Rd.isHost, *]
    rw [Rd.parts_other a b c e f g h i j]
    unfold shS
    rw [if_neg a, if_neg i, if_neg h, if_neg e, e1, if_neg (by simp)]
    simp only [Rd.wds, Rd.pcs, shX, cw, Rd.showHex, List.foldl_cons, List.foldl_nil]
    by_cases h0 : d.raw.data.toList = [] <;> simp [h0]
  all_goals simp [Rd.wds, Rd.pcs, Rd.parts, shX, shS, Rd.isHost, Rd.cnt, Rd.numw, Rd.hasN, Dv.dt, Dv.n, List.range_succ, Rd.quoted, qw, List.flatMap_map]
theorem flat_len {α : Type} (f : α → List UInt8) (m : Nat) (h : ∀ x, (f x).length ≤ m) (l : List α) : (l.flatMap f).length ≤ l.length * m := by
  induction l with
  | nil => simp
  | cons a r ih =>
    have := h a
    rw [List.flatMap_cons, List.length_append, List.length_cons, Nat.succ_mul]
    omega
theorem pcs_words {d : Dv} {ls : List (List UInt8)} {n p : Nat} (hf : d.fits) (hraw : d.raw.size ≤ 65535) (hls : ∀ x ∈ ls, x.length ≤ 65535) (hn : n < 5 ∨ ¬ (p = 8 ∨ p = 9)) : ∀ x ∈ Rd.pcs d.dt (shX d ls) n p, x.length ≤ 20000000 := by
  have hl : d.raw.data.toList.length = d.raw.size := by simp
  unfold Rd.pcs
  intro x hx
  split at hx
  · unfold shX at hx
    split at hx
    · rw [List.mem_singleton.1 hx]
      unfold Rd.showA
      have := flat_len (fun c : UInt8 => 46 :: Rd.dec c.toNat) 257 (fun c => by have := Rd.dec_byte c; simp; omega) d.raw.data.toList
      rw [List.length_drop]
      omega
    · split at hx
      · rw [List.mem_singleton.1 hx, ← Rd.gw_join]
        have := join_len (s := [58]) (Rd.gw d.raw.data.toList 8) (Rd.gw_len _ 8)
        have e : (Rd.gw d.raw.data.toList 8).length = 8 := by simp [Rd.gw]
        rw [e, show ([58] : List UInt8).length = 1 from rfl] at this
        omega
      · split at hx
        · obtain ⟨y, hy, rfl⟩ := List.mem_map.1 hx
          have h1 := hls y hy
          have h2 := Nm.esc_len true y
          unfold qw
          simp
          omega
        · split at hx
          · unfold cw at hx
            have h2 := Rd.dec_len d.raw.data.toList.length
            have h3 := hex2_len d.raw.data.toList
            rcases List.mem_cons.1 hx with rfl | hx
            · simp
            rcases List.mem_cons.1 hx with rfl | hx
            · omega
            split at hx
            · cases hx
            · rw [List.mem_singleton.1 hx]; omega
          · cases hx
  · split at hx
    · rw [List.mem_singleton.1 hx]; have := text_few d.dt.host; omega
    · split at hx
      · rw [List.mem_singleton.1 hx]; have := text_few d.dt.mail; omega
      · split at hx
        · rename_i h89
          rw [List.mem_singleton.1 hx]
          have h5 : n < 5 := hn.resolve_right (fun h => h h89)
          rw [rd_hasN2 d h5]
          have := Rd.dec_len2 _ (hf n)
          omega
        · cases hx
theorem wds_words {d : Dv} {ls : List (List UInt8)} (t : Nat) (hf : d.fits) (hraw : d.raw.size ≤ 65535) (hls : ∀ x ∈ ls, x.length ≤ 65535) : ∀ x ∈ (Rd.wds d.dt (shX d ls) (Rd.parts t)).1, x.length ≤ 20000000 := by
  suffices H : ∀ k, k ≤ (Rd.parts t).length → ∀ x ∈ (Rd.wds d.dt (shX d ls) ((Rd.parts t).take k)).1, x.length ≤ 20000000 by
    have := H _ (Nat.le_refl _)
    rw [List.take_length] at this
    exact this
  intro k
  induction k with
  | zero => intro _ x hx; simp [Rd.wds] at hx
  | succ k ih =>
    intro hk x hx
    have hkl : k < (Rd.parts t).length := by omega
    have hn5 : Rd.nums ((Rd.parts t).take (k + 1)) ≤ 5 := Rd.nums_le
    rw [List.take_succ_eq_append_getElem hkl] at hx hn5
    rw [Rd.wds_snoc, List.mem_append] at hx
    rw [Rd.nums_snoc] at hn5
    rcases hx with hx | hx
    · exact ih (by omega) x hx
    · refine pcs_words hf hraw hls ?_ x hx
      by_cases h : (Rd.parts t)[k] = 8 ∨ (Rd.parts t)[k] = 9
      · rw [if_pos h] at hn5
        exact .inl (by omega)
      · exact .inr h
theorem tx_255 : ∀ n (l : List UInt8) (ls : List (List UInt8)), l.length ≤ n → Rd.tx l = some ls → ∀ x ∈ ls, x.length ≤ 255 := by
  intro n
  induction n with
  | zero =>
    intro l ls hl h
    obtain rfl : l = [] := List.eq_nil_of_length_eq_zero (by omega)
    rw [Rd.tx_nil] at h; cases h; simp
  | succ n ih =>
    intro l ls hl h
    cases l with
    | nil => rw [Rd.tx_nil] at h; cases h; simp
    | cons k t =>
      by_cases hk : t.length < k.toNat
      · rw [Rd.tx_bad hk] at h; cases h
      · rw [Rd.tx_cons hk] at h
        obtain ⟨r, hr, rfl⟩ := Option.map_eq_some_iff.1 h
        have := ih _ _ (by simp at hl ⊢; omega) hr
        intro x hx
        rcases List.mem_cons.1 hx with rfl | hx
        · have := k.toNat_lt; rw [List.length_take]; omega
        · exact this x hx
theorem fit_of {t p : Nat} {d : Dv} (hok : Rd.ok t d.dt = true) (hp : p ∈ Rd.parts t) : ∃ n, Rd.fit p d.dt n = true := by
  have hfa : Rd.fitAll d.dt (Rd.parts t) 0 = true := by
    rw [Rd.ok_parts, Bool.and_eq_true] at hok
    exact hok.1
  obtain ⟨k, hk, rfl⟩ := List.mem_iff_getElem.1 hp
  exact ⟨_, fitAll_at hfa hk⟩
/-- the short texts of data, or none. -/
def txs (d : Dv) : List (List UInt8) := (Rd.tx d.raw.data.toList).getD []
theorem txs_le (d : Dv) : (txs d).length ≤ d.raw.size ∧ ∀ x ∈ txs d, x.length ≤ d.raw.size := by
  have hl : d.raw.data.toList.length = d.raw.size := by simp
  unfold txs
  cases h : Rd.tx d.raw.data.toList with
  | none => exact ⟨Nat.zero_le _, fun x hx => by cases hx⟩
  | some ls => exact ⟨by have := Rd.tx_len h; simp; omega, fun x hx => by have := tx_le _ _ _ (Nat.le_refl _) h x hx; omega⟩
theorem fit3 {d : Dv} {n : Nat} (h : Rd.fit 3 d.dt n = true) : Rd.tx d.raw.data.toList = some (txs d) ∧ txs d ≠ [] := by
  unfold Rd.fit at h
  rw [if_neg (by omega), if_neg (by omega), if_pos rfl, show d.dt.raw = d.raw.data.toList from rfl] at h
  unfold txs
  split at h
  · rename_i hx
    rw [hx]
    exact ⟨rfl, by simp⟩
  · cases h
set_option maxHeartbeats 1000000 in
set_option maxRecDepth 100000 in
/-- the program's Show of data that may be. -/
theorem pdShow_ok (t : Nat) (d : Dv) (w : World) (ht : t ≤ 65535) (hL : LayA w) (hf : d.fits) (hr0 : d.raw.size ≤ 8796093022208) (hh : d.host.size ≤ 140737488355328) (hm : d.mail.size ≤ 140737488355328) (hok : Rd.ok t d.dt = true) :
    Calls Tryz.prog 4 #[.int .u16 t, d.val] w fun e W' => e = .returned (.tuple #[sv (shS t d (txs d)), .int .i64 0]) ∧ Below w.heap.size w W' := by
  have hrl : d.dt.raw.length = d.raw.size := by simp [Dv.dt]
  have hraw := ok_raw hok
  obtain ⟨q1, q2⟩ := txs_le d
  have hw := wds_words (ls := txs d) t hf (by omega) (fun x hx => by have := q2 x hx; omega)
  have hXl : ∀ p, (shX d (txs d) p).length ≤ 100000 := fun p => by
    unfold shX
    split
    · simp
    split
    · simp
    split
    · rw [List.length_map]; omega
    split
    · unfold cw; split <;> simp
    · simp
  have hcnt := wds_len (d := d.dt) hXl t 7
  rw [List.take_of_length_le (by rw [Rd.parts_len]; omega)] at hcnt
  have hjl := join_len (s := [32]) _ hw
  rw [show ([32] : List UInt8).length = 1 from rfl] at hjl
  have hmul := Nat.mul_le_mul_right (20000000 + 1) hcnt
  have hne : (Rd.wds d.dt (shX d (txs d)) (Rd.parts t)).1 ≠ [] := by
    have h3 : 3 ∈ Rd.parts t → txs d ≠ [] := fun h => (fit3 (fit_of hok h).choose_spec).2
    revert h3
    refine Rd.by_type (P := fun t => (3 ∈ Rd.parts t → txs d ≠ []) → (Rd.wds d.dt (shX d (txs d)) (Rd.parts t)).1 ≠ []) ?_ ?_ ?_ ?_ ?_ ?_ ?_ ?_ ?_ (fun t a b c e f g h i j => ?_) t
    case refine_10 => rw [Rd.parts_other a b c e f g h i j]; intro _; simp [Rd.wds, Rd.pcs, shX, cw]
    all_goals simp [Rd.wds, Rd.pcs, Rd.parts, shX]
  have hck : ∀ W : World, LayR W → Calls Tryz.prog 8 #[.int .u16 t, .agg d.cells] W fun e w' => e = .returned (.int .i64 0) ∧ Below W.heap.size W w' := fun W hW => by
    have := pdCheck_any t d W ht hW hf hr0 hh hm
    rw [hok] at this
    exact this
  have := pdShow_loop t d (shX d (txs d)) w ht hL hf hh hm hck
    (fun h => ⟨_, rfl, by
      obtain ⟨n, hn⟩ := fit_of hok h
      have h4 : d.raw.size = 4 := by rw [← hrl]; simpa [Rd.fit] using hn
      have := dotted_any d.raw (by omega) (by omega)
      rw [Rd.nms_show] at this
      exact this⟩)
    (fun h => ⟨_, rfl, by
      obtain ⟨n, hn⟩ := fit_of hok h
      have h4 : d.raw.size = 16 := by rw [← hrl]; simpa [Rd.fit] using hn
      exact grouped_any d.raw h4 fmt_16⟩)
    (fun h => by
      obtain ⟨n, hn⟩ := fit_of hok h
      obtain ⟨e1, e2⟩ := fit3 hn
      exact quoted_any d.raw (txs d) (by omega) e1 e2)
    (fun _ => counted_any d.raw (by omega)) hXl hne (by omega)
  rw [sh_eq] at this
  exact this
set_option maxRecDepth 100000 in
theorem pdShow_no (t : Nat) (d : Dv) (w : World) (hL : LayR w) (hck : ∀ W : World, LayR W → Calls Tryz.prog 8 #[.int .u16 t, .agg d.cells] W fun e w' => e = .returned (.int .i64 40) ∧ Below W.heap.size W w') :
    Calls Tryz.prog 4 #[.int .u16 t, d.val] w fun e w' => e = .returned (.tuple #[.string ⟨#[]⟩, .int .i64 40]) ∧ Below w.heap.size w w' := by
  have HB0 : Hid (Below w.heap.size w (w.alloc (.cells d.cells 27))) := (Below.refl _ w).alloc (Nat.le_refl _) _
  have HCK := Lib.hid (hck _ (hL.below HB0.out (Nat.le_refl _)))
  clear hck hL
  unfold Dv.val
  unfold Dv.cells at HB0 HCK
  go_enter Tryz.func4, Tryz.ntmps4
  go_wp2_with (go_at_call 8; refine HCK.out.mono ?_; rintro e' w1 ⟨rfl, B1⟩; have HB1 := Lib.hid (HB0.out.trans (B1.mono HB0.out.size)); clear B1)
  go_ret2
  exact ⟨rfl, HB1.out⟩
/-- both tell the same. -/
def shV (t : Nat) (d : Dv) : Value := if Rd.ok t d.dt then .tuple #[sv (shS t d (txs d)), .int .i64 0] else .tuple #[.string ⟨#[]⟩, .int .i64 40]
theorem pdShow_any (t : Nat) (d : Dv) (w : World) (ht : t ≤ 65535) (hL : LayA w) (hf : d.fits) (hr0 : d.raw.size ≤ 8796093022208) (hh : d.host.size ≤ 140737488355328) (hm : d.mail.size ≤ 140737488355328) :
    Calls Tryz.prog 4 #[.int .u16 t, d.val] w fun e W' => e = .returned (shV t d) ∧ Below w.heap.size w W' := by
  unfold shV
  cases hok : Rd.ok t d.dt with
  | true => exact pdShow_ok t d w ht hL hf hr0 hh hm hok
  | false =>
    refine pdShow_no t d w hL.1 fun W hW => ?_
    have := pdCheck_any t d W ht hW hf hr0 hh hm
    rw [hok] at this
    exact this
end Go.Proofs.YtopcklpmeaghmaaGreatDoor
/- What Show tells is cut into the words that tell the data. Nothing of the program's run. -/
namespace Go.Proofs.YtopcklpmeaghmaaGreatDoor

theorem Rd.joinB_drop (b : UInt8) : ∀ ps : List (List UInt8), Rd.joinB b ps = (ps.flatMap fun x => b :: x).drop 1
  | [] => rfl
  | [p] => by simp [Rd.joinB]
  | p :: q :: r => by
    rw [Rd.joinB, Rd.joinB_drop b (q :: r)]
    simp
theorem pcs_tell (d : Dv) (ls : List (List UInt8)) (n p : Nat) : Rd.pcs d.dt (shX d ls) n p = (Rd.pcsQ d.dt ls n p).map Rd.wdB := by
  have er : d.dt.raw = d.raw.data.toList := rfl
  unfold Rd.pcs Rd.pcsQ shX
  by_cases h1 : p = 1
  · subst h1
    simp [Rd.wdB, Rd.showA, Rd.joinB_drop, List.flatMap_map, er]
  by_cases h2 : p = 2
  · subst h2
    simp [Rd.wdB, Rd.pairs, Rd.joinB_drop, List.flatMap_map, er, Rd.pair, Rd.grp]
  by_cases h3 : p = 3
  · subst h3
    simp [Rd.wdB, qw]
  by_cases h4 : p = 4
  · subst h4
    have e2 : Rd.hex2 = Rd.two := rfl
    by_cases h0 : d.raw.data.toList = []
    · simp [Rd.wdB, cw, er, h0]
    · simp [Rd.wdB, cw, er, h0, e2]
  rw [if_neg (by omega), if_neg h1, if_neg h2, if_neg h3, if_neg h4]
  by_cases h5 : p = 5 ∨ p = 6
  · rw [if_pos h5, if_pos h5]; rfl
  rw [if_neg h5, if_neg h5]
  by_cases h7 : p = 7
  · rw [if_pos h7, if_pos h7]; rfl
  rw [if_neg h7, if_neg h7]
  by_cases h8 : p = 8 ∨ p = 9
  · rw [if_pos h8, if_pos h8]; rfl
  · rw [if_neg h8, if_neg h8]; rfl
theorem wds_tell (d : Dv) (ls : List (List UInt8)) (ps : List Nat) : (Rd.wds d.dt (shX d ls) ps).1 = (Rd.tellQ d.dt ls ps 0).map Rd.wdB := by
  unfold Rd.wds
  suffices H : ∀ (ps : List Nat) (s : List (List UInt8) × Nat), (ps.foldl (fun s p => (s.1 ++ Rd.pcs d.dt (shX d ls) s.2 p, s.2 + if p = 8 ∨ p = 9 then 1 else 0)) s).1 = s.1 ++ (Rd.tellQ d.dt ls ps s.2).map Rd.wdB from by rw [H]; rfl
  intro ps
  induction ps with
  | nil => intro s; simp [Rd.tellQ]
  | cons p r ih =>
    intro s
    rw [List.foldl_cons, ih, Rd.tellQ, List.map_append, pcs_tell, List.append_assoc]
/-- WHAT Show TELLS IS CUT INTO THE WORDS THAT TELL THE DATA. -/
theorem cut_show {t : Nat} {d : Dv} {ls : List (List UInt8)} (h : Rd.ok t d.dt = true) : Rd.cutW (shS t d ls) = Rd.tellQ d.dt ls (Rd.parts t) 0 := by
  rw [← sh_eq, wds_tell, join_sp, ← Rd.joinB_drop]
  exact Rd.cut_tell h
end Go.Proofs.YtopcklpmeaghmaaGreatDoor
/- The known data of the statements on data are as they say. -/
namespace Go.Proofs.YtopcklpmeaghmaaGreatDoor
open Go.RowKit

theorem LayA.rg {w w' : World} {g base : Nat} (h : LayA w) (k : Rg g base w w') (hb : 4 < base) : LayA w' := by
  have kk : ∀ {n t cs}, n < base → Has w n t cs → Has w' n t cs := fun {n t cs} hn hh => (k.below.block n hn).trans hh
  obtain ⟨⟨t1, h1⟩, ⟨t2, h2⟩, t3, h3⟩ := h
  exact ⟨⟨t1, kk (by omega) h1⟩, ⟨t2, kk (by omega) h2⟩, t3, kk hb h3⟩
theorem LayA.top {w : World} (h : LayA w) : 4 < w.heap.size := h.2.2.elim fun _ h => Has.lt h
/-- what of the known data's block is read. -/
def d0C : Array Value := #[.string ⟨#[]⟩, .string ⟨#[1, 97, 0]⟩, .string ⟨#[]⟩, .int .u32 10, .int .u32 0, .int .u32 0, .int .u32 0, .int .u32 0]
theorem below_on2 {a b c : World} (h : Below a.heap.size a b) (k : Below b.heap.size b c) : Below a.heap.size a c := h.trans (k.mono h.size)
theorem pnew2 (w : World) (base : Nat) (hb : base ≤ w.heap.size) : Calls Tryz.prog 18 #[] w fun e w' => ∃ g, e = .returned (.pointer (some ⟨g, 0, none⟩)) ∧ Tb w' g base none [] ∧ Below w.heap.size w w' :=
  (pnew_any w).mono fun e w' ⟨he, hw⟩ => ⟨w.heap.size, he, by rw [hw]; exact Tb.new w hb, by rw [hw]; exact (Below.refl _ _).alloc (Nat.le_refl _) _⟩
set_option maxHeartbeats 4000000 in
set_option maxRecDepth 100000 in
theorem rdWakes (w : World) (hL : LayA w) :
    Calls Tryz.prog 5 #[] w fun e w' => e = .returned (.bool true) ∧ Below w.heap.size w w' := by
  have HL := Lib.hid hL
  have htop := hL.top
  clear hL
  have HC1 := Lib.hid d0_check
  have HC2 := Lib.hid d0_check1
  have HS := Lib.hid d0_show
  have HP := Lib.hid d0_puts
  have e0 : d0.cells = #[.string ⟨#[]⟩, .string ⟨#[1, 97, 0]⟩, .string ⟨#[]⟩, .int .u32 10, .int .u32 0, .int .u32 0, .int .u32 0, .int .u32 0] := rfl
  rw [e0] at HC1 HC2 HS HP
  clear e0
  go_enter Tryz.func5, Tryz.ntmps5
  go_wp2
  have hX0 : Has (w.alloc (.cells #[.string ⟨#[]⟩, .string ⟨#[1, 97, 0]⟩, .string ⟨#[]⟩, .int .u32 10, .int .u32 0, .int .u32 0, .int .u32 0, .int .u32 0] 27)) w.heap.size 27 #[.string ⟨#[]⟩, .string ⟨#[1, 97, 0]⟩, .string ⟨#[]⟩, .int .u32 10, .int .u32 0, .int .u32 0, .int .u32 0, .int .u32 0] := Has.fresh w _ _
  have hB0 : Below w.heap.size w (w.alloc (.cells #[.string ⟨#[]⟩, .string ⟨#[1, 97, 0]⟩, .string ⟨#[]⟩, .int .u32 10, .int .u32 0, .int .u32 0, .int .u32 0, .int .u32 0] 27)) := (Below.refl _ _).alloc (Nat.le_refl _) _
  generalize w.alloc (.cells #[.string ⟨#[]⟩, .string ⟨#[1, 97, 0]⟩, .string ⟨#[]⟩, .int .u32 10, .int .u32 0, .int .u32 0, .int .u32 0, .int .u32 0] 27) = wa at *
  have hlt := hX0.lt
  have HLA := Lib.hid (fun (W : World) (hb : Below wa.heap.size wa W) => (HL.out.below hB0 (Nat.le_refl _)).below hb (Nat.le_refl _))
  have HLR := Lib.hid (fun (W : World) (hb : Below wa.heap.size wa W) => (HLA.out W hb).1)
  have HK := Lib.hid (fun (W : World) (hb : Below wa.heap.size wa W) => (show (W.cell? ⟨w.heap.size, 0, none⟩ = some (.string ⟨#[]⟩) ∧ W.cell? ⟨w.heap.size, 1, none⟩ = some (.string ⟨#[1, 97, 0]⟩) ∧ W.cell? ⟨w.heap.size, 2, none⟩ = some (.string ⟨#[]⟩) ∧ W.cell? ⟨w.heap.size, 3, none⟩ = some (.int .u32 10) ∧ W.cell? ⟨w.heap.size, 4, none⟩ = some (.int .u32 0) ∧ W.cell? ⟨w.heap.size, 5, none⟩ = some (.int .u32 0) ∧ W.cell? ⟨w.heap.size, 6, none⟩ = some (.int .u32 0) ∧ W.cell? ⟨w.heap.size, 7, none⟩ = some (.int .u32 0)) ∧ Below wa.heap.size wa W from ⟨by
    have h := hX0.below hb hlt
    exact ⟨by rw [h.cell]; rfl, by rw [h.cell]; rfl, by rw [h.cell]; rfl, by rw [h.cell]; rfl, by rw [h.cell]; rfl, by rw [h.cell]; rfl, by rw [h.cell]; rfl, by rw [h.cell]; rfl⟩, hb⟩))
  have HB0 := Lib.hid hB0
  clear hX0 hB0
  go_region_held3 (fun W => (W.cell? ⟨w.heap.size, 0, none⟩ = some (.string ⟨#[]⟩) ∧ W.cell? ⟨w.heap.size, 1, none⟩ = some (.string ⟨#[1, 97, 0]⟩) ∧ W.cell? ⟨w.heap.size, 2, none⟩ = some (.string ⟨#[]⟩) ∧ W.cell? ⟨w.heap.size, 3, none⟩ = some (.int .u32 10) ∧ W.cell? ⟨w.heap.size, 4, none⟩ = some (.int .u32 0) ∧ W.cell? ⟨w.heap.size, 5, none⟩ = some (.int .u32 0) ∧ W.cell? ⟨w.heap.size, 6, none⟩ = some (.int .u32 0) ∧ W.cell? ⟨w.heap.size, 7, none⟩ = some (.int .u32 0)) ∧ Below wa.heap.size wa W) (first
      | assumption
      | exact HK.out _ (Below.refl _ _).drew
      | exact HK.out _ HW1.out
      | exact HK.out _ HW2.out) (first
      | (go_at_call 18; (with_reducible refine (pnew2 _ wa.heap.size (by go_split_ands; exact Below.size (by assumption))).mono ?_); rintro e W1 ⟨g1, rfl, T1, B1⟩; have HW1 : Hid (Below wa.heap.size wa W1) := (by go_split_ands; exact below_on2 (by assumption) B1); have HT1 := Lib.hid T1; clear T1 B1)
      | (go_at_call 17; refine (HP.out _ g1 wa.heap.size none (HLA.out _ HW1.out).1 HT1.out HW1.out.size).mono ?_; rintro e W2 ⟨A2, c2, rfl, b2, R2, s2⟩; have HW2 : Hid (Below wa.heap.size wa W2) := HW1.out.trans R2.below; have HS2 := Lib.hid b2; clear b2 R2))
  obtain ⟨⟨a0, a1, a2, a3, a4, a5, a6, a7⟩, _⟩ := HK.out _ HW2.out
  have HCV := Lib.hid (fun (W : World) (hb : Below W2.heap.size W2 W) => (show (convert 48 9 (.slice A2 5 c2)).run Tryz.prog W = .ok (.string ⟨#[0, 10, 1, 97, 0]⟩) W from run_convert_bs (w := W) 48 9 5 Tryz.underlying48 Tryz.underlying5 Tryz.underlying9 0 W2.heap.size A2 5 c2 [0, 10, 1, 97, 0] rfl (HS2.out.keep hb)))
  have hb1 : ((⟨#[0, 10, 1, 97, 0]⟩ : ByteArray).toList == (⟨#[0, 10, 1, 97, 0]⟩ : ByteArray).toList) = true := beq_self_eq_true _
  have hb2 : ((⟨#[49, 48, 32, 97, 46]⟩ : ByteArray).toList == (⟨#[49, 48, 32, 97, 46]⟩ : ByteArray).toList) = true := beq_self_eq_true _
  go_wp2_with (first
    | (go_at_call 4; refine (HS.out _ (HLA.out _ HW2.out)).mono ?_; rintro e W3 ⟨rfl, B3⟩; have HW3 : Hid (Below wa.heap.size wa W3) := below_on2 HW2.out B3; have hcv3 := HCV.out _ B3; obtain ⟨⟨b0, b1, b2, b3, b4, b5, b6, b7⟩, _⟩ := HK.out _ HW3.out; clear B3)
    | (go_at_call 8; (with_reducible refine (HC1.out _ (HLR.out _ HW3.out)).mono ?_); rintro e W4 ⟨rfl, B4⟩; have HW4 : Hid (Below wa.heap.size wa W4) := below_on2 HW3.out B4; obtain ⟨⟨d0, d1, d2, d3, d4, d5, d6, d7⟩, _⟩ := HK.out _ HW4.out; clear B4)
    | (go_at_call 8; (with_reducible refine (HC2.out _ (HLR.out _ HW4.out)).mono ?_); rintro e W5 ⟨rfl, B5⟩; have HW5 : Hid (Below wa.heap.size wa W5) := below_on2 HW4.out B5; clear B5))
  go_ret
  exact ⟨rfl, HB0.out.trans (HW5.out.mono HB0.out.size)⟩
end Go.Proofs.YtopcklpmeaghmaaGreatDoor
/- What the rows ask of the listed tables, as the walks want it. -/
namespace Go.Proofs.YtopcklpmeaghmaaGreatDoor
open Go.RowKit Go.ChangeShapes

theorem laid_head {n : String} {d : DataW Unit} {r : List (String × DataW Unit)} {W : World} {g : Nat} {ty : TypeId} (h : laidMet Tryz.prog ((n, d) :: r) W) (hg : Tryz.prog.globalNamed n = some g) (ht : (Tryz.prog.globals[g]?).map (·.type) = some ty) :
    ∃ (cs : Array Value) (fuel : Nat) (p : List MemPlace), DataW.trod (fun _ => ()) Tryz.prog W 0 (fun _ => true) false fuel ty cs.toList = some (d, p) ∧ (0 < cs.size → ∃ t, Has W g t cs) := by
  obtain ⟨ps, ⟨g0, t0, cs0, f0, p0, q0, hg0, ht0, hv0, hd0, _, e0⟩, _, hrows⟩ := h
  obtain rfl := Option.some.inj (hg.symm.trans hg0)
  obtain rfl := Option.some.inj (ht.symm.trans ht0)
  subst e0
  refine ⟨cs0, f0, p0, hd0, fun h0 => ?_⟩
  have hm : MemPlace.cell g 0 ∈ MemPlace.row ⟨g, 0, none⟩ cs0.size ++ p0 ++ q0 := by
    refine List.mem_append_left _ (List.mem_append_left _ ?_)
    simp [MemPlace.row]
    exact h0
  obtain ⟨⟨c, t, hh⟩, _⟩ := hrows g 0 hm
  unfold World.var? at hv0
  rw [hg] at hv0
  simp only [Option.bind_some, hh] at hv0
  injection hv0 with hv0
  subst hv0
  exact ⟨t, hh⟩
set_option maxRecDepth 100000 in
theorem laid_pow {r : List (String × DataW Unit)} {W : World} (h : laidMet Tryz.prog (("internal/strconv.uint64pow10", Rows.laid_internal_strconv_uint64pow10) :: r) W) : LayP W := by
  obtain ⟨cs, fuel, p, hd, hh⟩ := laid_head (g := 1) (ty := 143) h (by kernel_rfl) (by kernel_rfl)
  have e := Lib.cells_of_tab (k := .u64) (zs := Lib.pow10Tab) (e := 46) (n := 20) Tryz.underlying143 Tryz.underlying46 (by kernel_rfl) (by kernel_rfl) hd
  have e2 : cs = (Lib.pow10Tab.map fun z => Value.int .u64 z).toArray := by rw [← e]
  subst e2
  exact hh (by decide)
def tab64 : List Int := [0, 1, 56, 2, 57, 49, 28, 3, 61, 58, 42, 50, 38, 29, 17, 4, 62, 47, 59, 36, 45, 43, 51, 22, 53, 39, 33, 30, 24, 18, 12, 5, 63, 55, 48, 27, 60, 41, 37, 16, 46, 35, 44, 21, 52, 32, 23, 11, 54, 26, 40, 15, 34, 20, 31, 10, 25, 14, 19, 9, 13, 8, 7, 6]
set_option maxRecDepth 100000 in
theorem laid_bits {r : List (String × DataW Unit)} {W : World} (h : laidMet Tryz.prog (("math/bits.deBruijn64tab", Rows.laid_math_bits_deBruijn64tab) :: r) W) : LayD W := by
  obtain ⟨cs, fuel, p, hd, hh⟩ := laid_head (g := 4) (ty := 183) h (by kernel_rfl) (by kernel_rfl)
  have e := Lib.cells_of_tab (k := .u8) (zs := tab64) (e := 5) (n := 64) Tryz.underlying183 Tryz.underlying5 (by kernel_rfl) (by kernel_rfl) hd
  have e2 : cs = (tab64.map fun z => Value.int .u8 z).toArray := by rw [← e]
  subst e2
  exact hh (by decide)
def rowL (x : Int × List UInt8 × List Int) : List Value := .int .u16 x.1 :: .string ⟨x.2.1.toArray⟩ :: x.2.2.map fun z => Value.int .u8 z
set_option maxRecDepth 100000 in
theorem row_cells {W : World} {fuel : Nat} {cs : List Value} {x : Int × List UInt8 × List Int} {p : List MemPlace}
    (h : DataW.trod (fun _ => ()) Tryz.prog W 0 (fun _ => true) false fuel 62 cs = some (.agg [.lit (.int .u16 x.1), .lit (.string x.2.1), Lib.tabData .u8 x.2.2], p)) : cs = rowL x := by
  obtain ⟨xs, n, _, hx, hl, hlen, hg⟩ := DataW.trod_struct Tryz.underlying62 h
  have hl9 : cs.length = 9 := hl.trans (by kernel_rfl)
  match xs, hlen with
  | [y0, y1, y2], _ =>
    simp only [List.map_cons, List.map_nil, Prod.mk.injEq, DataW.agg.injEq, List.cons.injEq] at hx
    obtain ⟨⟨q0, q1, q2, _⟩, _⟩ := hx
    have k0 : Tryz.prog.cellsOf 22 = 1 := by kernel_rfl
    have k1 : Tryz.prog.cellsOf 9 = 1 := by kernel_rfl
    have k2 : Tryz.prog.cellsOf 40 = 7 := by kernel_rfl
    match cs, hl9 with
    | [c0, c1, a0, a1, a2, a3, a4, a5, a6], _ =>
      have g0 : DataW.trod (fun _ => ()) Tryz.prog W 0 (fun _ => true) false n 22 (List.take (Tryz.prog.cellsOf 22) [c0, c1, a0, a1, a2, a3, a4, a5, a6]) = some y0 := hg 0 _ rfl
      have g1 : DataW.trod (fun _ => ()) Tryz.prog W 0 (fun _ => true) false n 9 (List.take (Tryz.prog.cellsOf 9) [c1, a0, a1, a2, a3, a4, a5, a6]) = some y1 := hg 1 _ rfl
      have g2 : DataW.trod (fun _ => ()) Tryz.prog W 0 (fun _ => true) false n 40 (List.take (Tryz.prog.cellsOf 40) [a0, a1, a2, a3, a4, a5, a6]) = some y2 := hg 2 _ rfl
      rw [k0] at g0
      rw [k1] at g1
      rw [k2] at g2
      obtain ⟨m0, e0, h0, _⟩ := DataW.trod_int Tryz.underlying22 g0
      obtain ⟨s1, e1, h1, _⟩ := DataW.trod_string Tryz.underlying9 g1
      obtain ⟨z2, pz⟩ := y2
      simp only at q2
      subst q2
      have e2 := Lib.cells_of_tab (k := .u8) (e := 39) (n := 7) Tryz.underlying40 Tryz.underlying39 (by kernel_rfl) (by kernel_rfl) g2
      rw [h0] at q0
      rw [h1] at q1
      injection q0 with q0
      injection q0 with _ q0
      injection q1 with q1
      injection q1 with q1
      subst q0
      have es := string_eq q1.symm
      subst es
      injection e0 with e0 _
      injection e1 with e1 _
      subst e0 e1
      unfold rowL
      rw [← e2]
      rfl
theorem chunks {L : List Value} (k n : Nat) (R : List Value) (h : (L.drop (k * 9)).take 9 = R) (h2 : n = (k + 1) * 9) : L.drop (k * 9) = R ++ L.drop n := by
  subst h h2
  have := (List.take_append_drop 9 (L.drop (k * 9))).symm
  rw [List.drop_drop] at this
  rw [show (k + 1) * 9 = k * 9 + 9 from by omega]
  exact this
def rowT : List (Int × List UInt8 × List Int) := [(1, [65], [1, 0, 0, 0, 0, 0, 0]), (2, [78, 83], [5, 0, 0, 0, 0, 0, 0]), (5, [67, 78, 65, 77, 69], [5, 0, 0, 0, 0, 0, 0]), (6, [83, 79, 65], [5, 7, 9, 9, 9, 9, 9]), (12, [80, 84, 82], [5, 0, 0, 0, 0, 0, 0]), (15, [77, 88], [8, 5, 0, 0, 0, 0, 0]), (16, [84, 88, 84], [3, 0, 0, 0, 0, 0, 0]), (28, [65, 65, 65, 65], [2, 0, 0, 0, 0, 0, 0]), (33, [83, 82, 86], [8, 8, 8, 6, 0, 0, 0])]
set_option maxRecDepth 100000 in
theorem laid_rows {r : List (String × DataW Unit)} {W : World} (h : laidMet Tryz.prog (("hearsay/rdata.rows", Rows.laid_hearsay_rdata_rows) :: r) W) : LayR W := by
  obtain ⟨cs, fuel, p, hd, hh⟩ := laid_head (g := 0) (ty := 63) h (by kernel_rfl) (by kernel_rfl)
  obtain ⟨xs, n, _, hx, hl, hlen, hg⟩ := DataW.trod_array Tryz.underlying63 hd
  have hl81 : cs.toList.length = 81 := hl.trans (by kernel_rfl)
  have hc9 : Tryz.prog.cellsOf 62 = 9 := by kernel_rfl
  rw [hc9] at hg
  have hxs : xs.map (·.1) = rowT.map fun x => (.agg [.lit (.int .u16 x.1), .lit (.string x.2.1), Lib.tabData .u8 x.2.2] : DataW Unit) := by
    have h1 : (.agg (xs.map (·.1)) : DataW Unit) = Rows.laid_hearsay_rdata_rows := (congrArg Prod.fst hx).symm
    injection h1 with h1
  have key : ∀ i (hi : i < 9), (cs.toList.drop (i * 9)).take 9 = rowL (rowT[i]'hi) := fun i hi => by
    have hg1 := hg i hi
    have hxi : xs[i]? = some (xs[i]'(by omega)) := List.getElem?_eq_getElem (by omega)
    rw [hxi] at hg1
    have h2 : (xs[i]'(by omega)).1 = .agg [.lit (.int .u16 (rowT[i]'hi).1), .lit (.string (rowT[i]'hi).2.1), Lib.tabData .u8 (rowT[i]'hi).2.2] := by
      have := congrArg (fun l => l[i]?) hxs
      simp only [List.getElem?_map] at this
      rw [hxi, List.getElem?_eq_getElem (show i < rowT.length from hi)] at this
      exact Option.some.inj this
    refine row_cells (p := (xs[i]'(by omega)).2) (hg1.trans ?_)
    rw [← h2]
  have e : cs = rowsCells := by
    have c : cs.toList.drop (0 * 9) = rowsCells.toList := by
      rw [chunks 0 (1 * 9) _ (key 0 (by omega)) rfl, chunks 1 (2 * 9) _ (key 1 (by omega)) rfl, chunks 2 (3 * 9) _ (key 2 (by omega)) rfl, chunks 3 (4 * 9) _ (key 3 (by omega)) rfl, chunks 4 (5 * 9) _ (key 4 (by omega)) rfl, chunks 5 (6 * 9) _ (key 5 (by omega)) rfl, chunks 6 (7 * 9) _ (key 6 (by omega)) rfl, chunks 7 (8 * 9) _ (key 7 (by omega)) rfl, chunks 8 (9 * 9) _ (key 8 (by omega)) rfl, List.drop_of_length_le (by omega)]
      rfl
    rw [Nat.zero_mul, List.drop_zero] at c
    have := congrArg List.toArray c
    simpa using this
  subst e
  exact hh (by decide)
end Go.Proofs.YtopcklpmeaghmaaGreatDoor
/- same: two lists of labels. -/
namespace Go.Proofs.YtopcklpmeaghmaaGreatDoor
open Go.RowKit

end Go.Proofs.YtopcklpmeaghmaaGreatDoor
/- wakes: a name that is known. -/
namespace Go.Proofs.YtopcklpmeaghmaaGreatDoor
open Go.RowKit

end Go.Proofs.YtopcklpmeaghmaaGreatDoor
/- What a card's row asks besides: the listed variables. -/
namespace Go.Proofs.YtopcklpmeaghmaaGreatDoor
open Go.ChangeShapes Go.WideShapes Go.ChangeAt Go.RowKit

theorem star : "*" ++ "errors.errorString" = "*errors.errorString" := by decide
theorem rowErr (u : TypeId) (h : Tryz.prog.typeName? 3 u = some "*errors.errorString") : u = 198 :=
  typeName_ptr_named (nm := "errors.errorString") (by rw [star]; kernel_rfl) (by kernel_rfl) (by decide) u (by rw [star]; exact h)
end Go.Proofs.YtopcklpmeaghmaaGreatDoor
