/- Texts of the proofs, merged. -/
import Derived.Test.YtgcaephfhfkjcaaGreatDoorZm23
import Derived.Test.YtgcaephfhfkjcaaGreatDoorZm24
import Derived.Test.YtgcaephfhfkjcaaGreatDoorZm25
import Derived.Test.YtgcaephfhfkjcaaGreatDoorZm26
import Derived.Test.YtgcaephfhfkjcaaGreatDoorZm22
import Derived.Test.YtgcaephfhfkjcaaGreatDoorZm15
import Derived.Test.YtgcaephfhfkjcaaGreatDoorZm17
import Derived.Test.YtgcaephfhfkjcaaGreatDoorZm4
import Derived.Lib.ParseIntB
import Derived.Test.YtgcaephfhfkjcaaGreatDoorZm16
namespace Go.Proofs.YtgcaephfhfkjcaaGreatDoor
open Go.RowKit

theorem text_few (l : List UInt8) : (Nm.text l).length ≤ 40000 := by
  unfold Nm.text
  cases hs : Nm.split l with
  | none => simp
  | some ls =>
    obtain ⟨e1, e2, e3⟩ := Nm.split_some.1 hs
    have h1 := textL_len ls e2
    have h2 := Nm.good_count e2
    have h3 := Nm.glue_length ls
    rw [e1] at e3
    cases ls with
    | nil => simp
    | cons a r =>
      show (Nm.textL (a :: r)).length ≤ 40000
      omega
/-- the words that bytes are told by. -/
def shX (d : Dv) (ls : List (List UInt8)) (p : Nat) : List (List UInt8) :=
  if p = 1 then [Rd.showA d.raw.data.toList] else if p = 2 then [(Rd.pairs d.raw.data.toList 8).drop 1] else if p = 3 then ls.map qw else if p = 4 then cw d.raw.data.toList else []
/-- what data are told by. -/
def shS (t : Nat) (d : Dv) (ls : List (List UInt8)) : List UInt8 :=
  if t = 1 then Rd.showA d.raw.data.toList else if t = 28 then (Rd.pairs d.raw.data.toList 8).drop 1 else if t = 16 then (Rd.quoted (Nm.esc true) ls).drop 1
  else if t = 6 then ((((([] ++ [32]) ++ Nm.text d.host.data.toList) ++ [32]) ++ Nm.text d.mail.data.toList) ++ Rd.numw d 5).drop 1
  else if Rd.isHost t then (Rd.numw d (Rd.cnt t) ++ 32 :: Nm.text d.host.data.toList).drop 1 else Rd.showHex d.raw.data.toList
theorem join_sp (ws : List (List UInt8)) : Lib.join ws [32] = (ws.flatMap fun x => 32 :: x).drop 1 := by
  have := Rd.join_flat (fun x : List UInt8 => x) 32 ws
  rw [List.map_id'] at this
  exact this
theorem sh_eq (d : Dv) (ls : List (List UInt8)) (t : Nat) : Lib.join (Rd.wds d.dt (shX d ls) (Rd.parts t)).1 [32] = shS t d ls := by
  rw [join_sp]
  refine Rd.by_type (P := fun t => ((Rd.wds d.dt (shX d ls) (Rd.parts t)).1.flatMap fun x => 32 :: x).drop 1 = shS t d ls) ?_ ?_ ?_ ?_ ?_ ?_ ?_ ?_ ?_ (fun t a b c e f g h i j => ?_) t
  case refine_10 =>
    have e1 : Rd.isHost t = false := by simp [Rd.isHost, *]
    rw [Rd.parts_other a b c e f g h i j]
    unfold shS
    rw [if_neg a, if_neg i, if_neg h, if_neg e, e1, if_neg (by simp)]
    simp only [Rd.wds, Rd.pcs, shX, cw, Rd.showHex, List.foldl_cons, List.foldl_nil]
    by_cases h0 : d.raw.data.toList = [] <;> simp [h0]
  all_goals simp [Rd.wds, Rd.pcs, Rd.parts, shX, shS, Rd.isHost, Rd.cnt, Rd.numw, Rd.hasN, Dv.dt, Dv.n, List.range_succ, Rd.quoted, qw, List.flatMap_map]
theorem flat_len {α : Type} (f : α → List UInt8) (m : Nat) (h : ∀ x, (f x).length ≤ m) (l : List α) : (l.flatMap f).length ≤ l.length * m := by
  induction l with
  | nil => simp
  | cons a r ih =>
    have := h a
    rw [List.flatMap_cons, List.length_append, List.length_cons, Nat.succ_mul]
    omega
theorem pcs_words {d : Dv} {ls : List (List UInt8)} {n p : Nat} (hf : d.fits) (hraw : d.raw.size ≤ 65535) (hls : ∀ x ∈ ls, x.length ≤ 65535) (hn : n < 5 ∨ ¬ (p = 8 ∨ p = 9)) : ∀ x ∈ Rd.pcs d.dt (shX d ls) n p, x.length ≤ 20000000 := by
  have hl : d.raw.data.toList.length = d.raw.size := by simp
  unfold Rd.pcs
  intro x hx
  split at hx
  · unfold shX at hx
    split at hx
    · rw [List.mem_singleton.1 hx]
      unfold Rd.showA
      have := flat_len (fun c : UInt8 => 46 :: Rd.dec c.toNat) 257 (fun c => by have := Rd.dec_byte c; simp; omega) d.raw.data.toList
      rw [List.length_drop]
      omega
    · split at hx
      · rw [List.mem_singleton.1 hx, ← Rd.gw_join]
        have := join_len (s := [58]) (Rd.gw d.raw.data.toList 8) (Rd.gw_len _ 8)
        have e : (Rd.gw d.raw.data.toList 8).length = 8 := by simp [Rd.gw]
        rw [e, show ([58] : List UInt8).length = 1 from rfl] at this
        omega
      · split at hx
        · obtain ⟨y, hy, rfl⟩ := List.mem_map.1 hx
          have h1 := hls y hy
          have h2 := Nm.esc_len true y
          unfold qw
          simp
          omega
        · split at hx
          · unfold cw at hx
            have h2 := Rd.dec_len d.raw.data.toList.length
            have h3 := hex2_len d.raw.data.toList
            rcases List.mem_cons.1 hx with rfl | hx
            · simp
            rcases List.mem_cons.1 hx with rfl | hx
            · omega
            split at hx
            · cases hx
            · rw [List.mem_singleton.1 hx]; omega
          · cases hx
  · split at hx
    · rw [List.mem_singleton.1 hx]; have := text_few d.dt.host; omega
    · split at hx
      · rw [List.mem_singleton.1 hx]; have := text_few d.dt.mail; omega
      · split at hx
        · rename_i h89
          rw [List.mem_singleton.1 hx]
          have h5 : n < 5 := hn.resolve_right (fun h => h h89)
          rw [rd_hasN2 d h5]
          have := Rd.dec_len2 _ (hf n)
          omega
        · cases hx
theorem wds_words {d : Dv} {ls : List (List UInt8)} (t : Nat) (hf : d.fits) (hraw : d.raw.size ≤ 65535) (hls : ∀ x ∈ ls, x.length ≤ 65535) : ∀ x ∈ (Rd.wds d.dt (shX d ls) (Rd.parts t)).1, x.length ≤ 20000000 := by
  suffices H : ∀ k, k ≤ (Rd.parts t).length → ∀ x ∈ (Rd.wds d.dt (shX d ls) ((Rd.parts t).take k)).1, x.length ≤ 20000000 by
    have := H _ (Nat.le_refl _)
    rw [List.take_length] at this
    exact this
  intro k
  induction k with
  | zero => intro _ x hx; simp [Rd.wds] at hx
  | succ k ih =>
    intro hk x hx
    have hkl : k < (Rd.parts t).length := by omega
    have hn5 : Rd.nums ((Rd.parts t).take (k + 1)) ≤ 5 := Rd.nums_le
    rw [List.take_succ_eq_append_getElem hkl] at hx hn5
    rw [Rd.wds_snoc, List.mem_append] at hx
    rw [Rd.nums_snoc] at hn5
    rcases hx with hx | hx
    · exact ih (by omega) x hx
    · refine pcs_words hf hraw hls ?_ x hx
      by_cases h : (Rd.parts t)[k] = 8 ∨ (Rd.parts t)[k] = 9
      · rw [if_pos h] at hn5
        exact .inl (by omega)
      · exact .inr h
theorem tx_255 : ∀ n (l : List UInt8) (ls : List (List UInt8)), l.length ≤ n → Rd.tx l = some ls → ∀ x ∈ ls, x.length ≤ 255 := by
  intro n
  induction n with
  | zero =>
    intro l ls hl h
    obtain rfl : l = [] := List.eq_nil_of_length_eq_zero (by omega)
    rw [Rd.tx_nil] at h; cases h; simp
  | succ n ih =>
    intro l ls hl h
    cases l with
    | nil => rw [Rd.tx_nil] at h; cases h; simp
    | cons k t =>
      by_cases hk : t.length < k.toNat
      · rw [Rd.tx_bad hk] at h; cases h
      · rw [Rd.tx_cons hk] at h
        obtain ⟨r, hr, rfl⟩ := Option.map_eq_some_iff.1 h
        have := ih _ _ (by simp at hl ⊢; omega) hr
        intro x hx
        rcases List.mem_cons.1 hx with rfl | hx
        · have := k.toNat_lt; rw [List.length_take]; omega
        · exact this x hx
theorem fit_of {t p : Nat} {d : Dv} (hok : Rd.ok t d.dt = true) (hp : p ∈ Rd.parts t) : ∃ n, Rd.fit p d.dt n = true := by
  have hfa : Rd.fitAll d.dt (Rd.parts t) 0 = true := by
    rw [Rd.ok_parts, Bool.and_eq_true] at hok
    exact hok.1
  obtain ⟨k, hk, rfl⟩ := List.mem_iff_getElem.1 hp
  exact ⟨_, fitAll_at hfa hk⟩
/-- the short texts of data, or none. -/
def txs (d : Dv) : List (List UInt8) := (Rd.tx d.raw.data.toList).getD []
theorem txs_le (d : Dv) : (txs d).length ≤ d.raw.size ∧ ∀ x ∈ txs d, x.length ≤ d.raw.size := by
  have hl : d.raw.data.toList.length = d.raw.size := by simp
  unfold txs
  cases h : Rd.tx d.raw.data.toList with
  | none => exact ⟨Nat.zero_le _, fun x hx => by cases hx⟩
  | some ls => exact ⟨by have := Rd.tx_len h; simp; omega, fun x hx => by have := tx_le _ _ _ (Nat.le_refl _) h x hx; omega⟩
theorem fit3 {d : Dv} {n : Nat} (h : Rd.fit 3 d.dt n = true) : Rd.tx d.raw.data.toList = some (txs d) ∧ txs d ≠ [] := by
  unfold Rd.fit at h
  rw [if_neg (by omega), if_neg (by omega), if_pos rfl, show d.dt.raw = d.raw.data.toList from rfl] at h
  unfold txs
  split at h
  · rename_i hx
    rw [hx]
    exact ⟨rfl, by simp⟩
  · cases h
set_option maxHeartbeats 1000000 in
set_option maxRecDepth 100000 in
/-- the program's Show of data that may be. -/
theorem pdShow_ok (t : Nat) (d : Dv) (w : World) (ht : t ≤ 65535) (hL : LayA w) (hf : d.fits) (hr0 : d.raw.size ≤ 8796093022208) (hh : d.host.size ≤ 140737488355328) (hm : d.mail.size ≤ 140737488355328) (hok : Rd.ok t d.dt = true) :
    Calls Tryz.prog 41 #[.int .u16 t, d.val] w fun e W' => e = .returned (.tuple #[sv (shS t d (txs d)), .int .i64 0]) ∧ Below w.heap.size w W' := by
  have hrl : d.dt.raw.length = d.raw.size := by simp [Dv.dt]
  have hraw := ok_raw hok
  obtain ⟨q1, q2⟩ := txs_le d
  have hw := wds_words (ls := txs d) t hf (by omega) (fun x hx => by have := q2 x hx; omega)
  have hXl : ∀ p, (shX d (txs d) p).length ≤ 100000 := fun p => by
    unfold shX
    split
    · simp
    split
    · simp
    split
    · rw [List.length_map]; omega
    split
    · unfold cw; split <;> simp
    · simp
  have hcnt := wds_len (d := d.dt) hXl t 7
  rw [List.take_of_length_le (by rw [Rd.parts_len]; omega)] at hcnt
  have hjl := join_len (s := [32]) _ hw
  rw [show ([32] : List UInt8).length = 1 from rfl] at hjl
  have hmul := Nat.mul_le_mul_right (20000000 + 1) hcnt
  have hne : (Rd.wds d.dt (shX d (txs d)) (Rd.parts t)).1 ≠ [] := by
    have h3 : 3 ∈ Rd.parts t → txs d ≠ [] := fun h => (fit3 (fit_of hok h).choose_spec).2
    revert h3
    refine Rd.by_type (P := fun t => (3 ∈ Rd.parts t → txs d ≠ []) → (Rd.wds d.dt (shX d (txs d)) (Rd.parts t)).1 ≠ []) ?_ ?_ ?_ ?_ ?_ ?_ ?_ ?_ ?_ (fun t a b c e f g h i j => ?_) t
    case refine_10 => rw [Rd.parts_other a b c e f g h i j]; intro _; simp [Rd.wds, Rd.pcs, shX, cw]
    all_goals simp [Rd.wds, Rd.pcs, Rd.parts, shX]
  have hck : ∀ W : World, LayR W → Calls Tryz.prog 36 #[.int .u16 t, .agg d.cells] W fun e w' => e = .returned (.int .i64 0) ∧ Below W.heap.size W w' := fun W hW => by
    have := pdCheck_any t d W ht hW hf hr0 hh hm
    rw [hok] at this
    exact this
  have := pdShow_loop t d (shX d (txs d)) w ht hL hf hh hm hck
    (fun h => ⟨_, rfl, by
      obtain ⟨n, hn⟩ := fit_of hok h
      have h4 : d.raw.size = 4 := by rw [← hrl]; simpa [Rd.fit] using hn
      have := dotted_any d.raw (by omega) (by omega)
      rw [Rd.nms_show] at this
      exact this⟩)
    (fun h => ⟨_, rfl, by
      obtain ⟨n, hn⟩ := fit_of hok h
      have h4 : d.raw.size = 16 := by rw [← hrl]; simpa [Rd.fit] using hn
      exact grouped_any d.raw h4 fmt_16⟩)
    (fun h => by
      obtain ⟨n, hn⟩ := fit_of hok h
      obtain ⟨e1, e2⟩ := fit3 hn
      exact quoted_any d.raw (txs d) (by omega) e1 e2)
    (fun _ => counted_any d.raw (by omega)) hXl hne (by omega)
  rw [sh_eq] at this
  exact this
set_option maxHeartbeats 1000000 in
set_option maxRecDepth 100000 in
/-- the document's Show of data that may be. -/
theorem rdShow_ok (t : Nat) (d : Dv) (w : World) (ht : t ≤ 65535) (hf : d.fits) (hr0 : d.raw.size ≤ 8796093022208) (hh : d.host.size ≤ 140737488355328) (hm : d.mail.size ≤ 140737488355328) (hok : Rd.ok t d.dt = true) :
    Calls Tryz.prog 47 #[.int .u16 t, d.val] w fun e W' => e = .returned (.tuple #[sv (shS t d (txs d)), .int .i64 0]) ∧ Below w.heap.size w W' := by
  have hrl : d.dt.raw.length = d.raw.size := by simp [Dv.dt]
  have hraw := ok_raw hok
  obtain ⟨q1, q2⟩ := txs_le d
  have hck : ∀ W : World, Calls Tryz.prog 74 #[.int .u16 t, d.val] W fun e w' => e = .returned (.int .i64 0) ∧ Below W.heap.size W w' := fun W => by
    have := rdCheck_any t d W ht hf hr0 hh hm
    rw [hok] at this
    exact this
  have hmem : ∀ p ∈ Rd.parts t, ∃ n, Rd.fit p d.dt n = true := fun p hp => fit_of hok hp
  have q : ∀ k : Nat, t ≠ k → (((t : Nat) : Int) == (k : Int)) = false := fun k h => by simp; omega
  unfold shS
  by_cases a1 : t = 1
  · subst a1
    obtain ⟨n, hn⟩ := hmem 1 (by decide)
    exact rdShow_A d w (by rw [← hrl]; simpa [Rd.fit] using hn) hck
  by_cases a28 : t = 28
  · subst a28
    obtain ⟨n, hn⟩ := hmem 2 (by decide)
    exact rdShow_AAAA d w (by rw [← hrl]; simpa [Rd.fit] using hn) hck
  by_cases a16 : t = 16
  · subst a16
    obtain ⟨n, hn⟩ := hmem 3 (by decide)
    obtain ⟨e1, e2⟩ := fit3 hn
    exact rdShow_TXT d w (Nm.esc true) (txs d) (by omega) e1 (List.length_pos_iff.2 e2) (fun x hx => by have h1 := tx_255 _ _ _ (Nat.le_refl _) e1 x hx; have h2 := Nm.esc_len true x; omega)
      (fun x hx W => by
        have h1 := tx_255 _ _ _ (Nat.le_refl _) e1 x hx
        exact refEscape_any ⟨x.toArray⟩ true W (by show x.toArray.size ≤ _; simp; omega)) hck
  rw [if_neg a1, if_neg a28, if_neg a16]
  by_cases a6 : t = 6
  · subst a6
    exact rdShow_SOA d _ _ w hf (by have := text_few d.host.data.toList; omega) (by have := text_few d.mail.data.toList; omega) (fun W => refText_any d.host W hh) (fun W => refText_any d.mail W hm) hck
  rw [if_neg a6]
  cases hi : Rd.isHost t with
  | true => exact rdShow_host t d _ w ht hf hi (by simp [Rd.isMail, a6]) (by have := text_few d.host.data.toList; omega) (fun W => refText_any d.host W hh) (q 1 a1) (q 28 a28) (q 16 a16) hck
  | false => exact rdShow_raw t d w ht (by omega) hi (q 1 a1) (q 28 a28) (q 16 a16) hck
set_option maxRecDepth 100000 in
theorem rdShow_no (t : Nat) (d : Dv) (w : World) (hck : ∀ W : World, Calls Tryz.prog 74 #[.int .u16 t, d.val] W fun e w' => e = .returned (.int .i64 40) ∧ Below W.heap.size W w') :
    Calls Tryz.prog 47 #[.int .u16 t, d.val] w fun e w' => e = .returned (.tuple #[.string ⟨#[]⟩, .int .i64 40]) ∧ Below w.heap.size w w' := by
  have HCK := Lib.hid hck
  have HB0 : Hid (Below w.heap.size w (w.alloc (.cells d.cells 34))) := (Below.refl _ w).alloc (Nat.le_refl _) _
  clear hck
  unfold Dv.val at HCK ⊢
  unfold Dv.cells at HB0
  go_enter Tryz.func47, Tryz.ntmps47
  go_wp2_with (go_at_call 74; refine (HCK.out _).mono ?_; rintro e' w1 ⟨rfl, B1⟩; have HB1 := Lib.hid (HB0.out.trans (B1.mono HB0.out.size)); clear B1)
  go_ret2
  exact ⟨rfl, HB1.out⟩
set_option maxRecDepth 100000 in
theorem pdShow_no (t : Nat) (d : Dv) (w : World) (hL : LayR w) (hck : ∀ W : World, LayR W → Calls Tryz.prog 36 #[.int .u16 t, .agg d.cells] W fun e w' => e = .returned (.int .i64 40) ∧ Below W.heap.size W w') :
    Calls Tryz.prog 41 #[.int .u16 t, d.val] w fun e w' => e = .returned (.tuple #[.string ⟨#[]⟩, .int .i64 40]) ∧ Below w.heap.size w w' := by
  have HB0 : Hid (Below w.heap.size w (w.alloc (.cells d.cells 34))) := (Below.refl _ w).alloc (Nat.le_refl _) _
  have HCK := Lib.hid (hck _ (hL.below HB0.out (Nat.le_refl _)))
  clear hck hL
  unfold Dv.val
  unfold Dv.cells at HB0 HCK
  go_enter Tryz.func41, Tryz.ntmps41
  go_wp2_with (go_at_call 36; refine HCK.out.mono ?_; rintro e' w1 ⟨rfl, B1⟩; have HB1 := Lib.hid (HB0.out.trans (B1.mono HB0.out.size)); clear B1)
  go_ret2
  exact ⟨rfl, HB1.out⟩
/-- both tell the same. -/
def shV (t : Nat) (d : Dv) : Value := if Rd.ok t d.dt then .tuple #[sv (shS t d (txs d)), .int .i64 0] else .tuple #[.string ⟨#[]⟩, .int .i64 40]
theorem pdShow_any (t : Nat) (d : Dv) (w : World) (ht : t ≤ 65535) (hL : LayA w) (hf : d.fits) (hr0 : d.raw.size ≤ 8796093022208) (hh : d.host.size ≤ 140737488355328) (hm : d.mail.size ≤ 140737488355328) :
    Calls Tryz.prog 41 #[.int .u16 t, d.val] w fun e W' => e = .returned (shV t d) ∧ Below w.heap.size w W' := by
  unfold shV
  cases hok : Rd.ok t d.dt with
  | true => exact pdShow_ok t d w ht hL hf hr0 hh hm hok
  | false =>
    refine pdShow_no t d w hL.1 fun W hW => ?_
    have := pdCheck_any t d W ht hW hf hr0 hh hm
    rw [hok] at this
    exact this
theorem rdShow_any (t : Nat) (d : Dv) (w : World) (ht : t ≤ 65535) (hf : d.fits) (hr0 : d.raw.size ≤ 8796093022208) (hh : d.host.size ≤ 140737488355328) (hm : d.mail.size ≤ 140737488355328) :
    Calls Tryz.prog 47 #[.int .u16 t, d.val] w fun e W' => e = .returned (shV t d) ∧ Below w.heap.size w W' := by
  unfold shV
  cases hok : Rd.ok t d.dt with
  | true => exact rdShow_ok t d w ht hf hr0 hh hm hok
  | false =>
    refine rdShow_no t d w fun W => ?_
    have := rdCheck_any t d W ht hf hr0 hh hm
    rw [hok] at this
    exact this
end Go.Proofs.YtgcaephfhfkjcaaGreatDoor
namespace Go.Proofs.YtgcaephfhfkjcaaGreatDoor
open Go.RowKit

theorem shS_len (t : Nat) (d : Dv) (hf : d.fits) (hok : Rd.ok t d.dt = true) : (shS t d (txs d)).length ≤ 15000000000000 := by
  have hrl : d.dt.raw.length = d.raw.size := by simp [Dv.dt]
  have hraw := ok_raw hok
  obtain ⟨q1, q2⟩ := txs_le d
  have hw := wds_words (ls := txs d) t hf (by omega) (fun x hx => by have := q2 x hx; omega)
  have hXl : ∀ p, (shX d (txs d) p).length ≤ 100000 := fun p => by
    unfold shX
    split
    · simp
    split
    · simp
    split
    · rw [List.length_map]; omega
    split
    · unfold cw; split <;> simp
    · simp
  have hcnt := wds_len (d := d.dt) hXl t 7
  rw [List.take_of_length_le (by rw [Rd.parts_len]; omega)] at hcnt
  have hjl := join_len (s := [32]) _ hw
  rw [show ([32] : List UInt8).length = 1 from rfl] at hjl
  have hmul := Nat.mul_le_mul_right (20000000 + 1) hcnt
  rw [sh_eq] at hjl
  omega
namespace Mp
/-- the words of a record's line. -/
def words (r : Rv) : List Nm.By := [Nm.text (Nm.fold r.nm.data.toList), Rd.dec r.ttl, [73, 78], Rd.tyText r.ty, shS r.ty (r.d.fold r.ty) (txs (r.d.fold r.ty))]
def lineL (r : Rv) : Nm.By := Lib.join (words r) [32] ++ [10]
theorem join5 (a b c d e : Nm.By) : Lib.join [a, b, c, d, e] [32] = a ++ [32] ++ b ++ [32] ++ c ++ [32] ++ d ++ [32] ++ e := by
  simp [Lib.join, List.intercalate]
theorem dec_few {n : Nat} (h : n ≤ 4294967295) : (Rd.dec n).length ≤ 4294967296 := by have := Rd.dec_len n; omega
theorem tyText_few {t : Nat} (h : t ≤ 65535) : (Rd.tyText t).length ≤ 65600 := by
  unfold Rd.tyText
  split
  · rename_i x hx
    have hm := List.mem_of_find?_eq_some hx
    have : ∀ y ∈ Rd.tyTab, y.2.length ≤ 65600 := by decide
    exact this _ hm
  · have := Rd.dec_len t
    simp
    omega
end Mp
set_option maxHeartbeats 400000 in
set_option maxRecDepth 100000 in
theorem mline_any (g : Nat) (ws : List (List UInt8)) (W : World) (hcells : ∀ (j : Nat) (x : List UInt8), ws[j]? = some x → W.cell? ⟨g, j, none⟩ = some (sv x)) (hg : g < W.heap.size) (hl : ws.length ≤ 1000) (hj : (Lib.join ws [32]).length ≤ 100000000000000) :
    Calls Tryz.prog 22 #[.slice (some ⟨g, 0, none⟩) ws.length ws.length] W fun e w' => e = .returned (sv (Lib.join ws [32] ++ [10])) ∧ Below W.heap.size W w' := by
  have hm : (ws.map fun l => (⟨l.toArray⟩ : ByteArray)).map (·.data.toList) = ws := by
    rw [List.map_map]
    exact (List.map_congr_left (fun _ _ => rfl)).trans (List.map_id _)
  have HJ := Tryz.strings_Join g 0 ws.length (ws.map fun l => (⟨l.toArray⟩ : ByteArray)) ⟨#[32]⟩ W (fun j x hx => by
    have hj2 : j < ws.length := by have := (List.getElem?_eq_some_iff.1 hx).1; simpa using this
    rw [Nat.zero_add]
    have hx2 : x = ⟨(ws[j]).toArray⟩ := by simp [hj2] at hx; exact hx.symm
    rw [hx2]
    exact hcells j _ (by simp [hj2])) hg (by simp; omega) (by simp) (by rw [hm]; exact Nat.le_trans hj (by omega))
  rw [hm, List.length_map] at HJ
  have HJ2 : Hid (Calls Tryz.prog 38 #[.slice (some ⟨g, 0, none⟩) ws.length ws.length, .string ⟨#[32]⟩] W fun e w' => e = .returned (sv (Lib.join ws [32])) ∧ Below W.heap.size W w') := HJ
  clear HJ hm hcells
  obtain ⟨J, hJ⟩ : ∃ J, Lib.join ws [32] = J := ⟨_, rfl⟩
  rw [hJ] at HJ2 hj
  rw [hJ]
  have hlong : ¬ 9223372036854775807 < List.length J + 1 := by omega
  clear hJ
  go_enter Tryz.func22, Tryz.ntmps22
  go_wp2_with (go_at_call 38; refine HJ2.out.mono ?_; rintro e w1 ⟨rfl, B1⟩; have HB1 := Lib.hid B1; clear B1)
  go_ret
  exact ⟨rfl, HB1.out⟩
end Go.Proofs.YtgcaephfhfkjcaaGreatDoor
namespace Go.Proofs.YtgcaephfhfkjcaaGreatDoor
open Go.RowKit

namespace Rd
def val (l : By) : Nat := l.foldl (fun v c => 10 * v + (c.toNat - 48)) 0
def digs (l : By) : Bool := l.all (fun c => decide (48 ≤ c.toNat) && decide (c.toNat ≤ 57))
theorem num_bad {s : By} {most : Nat} (h : s.length = 0 ∨ (1 < s.length ∧ s.head? = some 48) ∨ 12 < s.length) : num s most = none := by unfold num; rw [if_pos h]
theorem num_nodig {s : By} {most : Nat} (h : digs s = false) : num s most = none := by
  unfold num
  split
  · rfl
  · unfold digs at h
    rw [h]; rfl
theorem num_dig {s : By} {most : Nat} (h0 : ¬ (s.length = 0 ∨ (1 < s.length ∧ s.head? = some 48) ∨ 12 < s.length)) (h : digs s = true) : num s most = if most < val s then none else some (val s) := by
  unfold num
  rw [if_neg h0]
  unfold digs at h
  rw [h]
  rfl
theorem head_of {s : ByteArray} (h : 0 < s.size) : s.data.toList.head? = some s[0] := by
  rw [rd_cons_of s h]; rfl
end Rd
end Go.Proofs.YtgcaephfhfkjcaaGreatDoor
namespace Go.Proofs.YtgcaephfhfkjcaaGreatDoor.Rd

def vl (a : Nat) (l : By) : Nat := l.foldl (fun v c => 10 * v + (c.toNat - 48)) a
theorem vl_ge : ∀ (l : By) (a : Nat), a * 10 ^ l.length ≤ vl a l := by
  intro l
  induction l with
  | nil => intro a; simp [vl]
  | cons c r ih =>
    intro a
    show a * 10 ^ (r.length + 1) ≤ vl (10 * a + (c.toNat - 48)) r
    refine Nat.le_trans ?_ (ih _)
    rw [Nat.pow_succ, Nat.mul_comm (10 ^ r.length) 10, ← Nat.mul_assoc, Nat.mul_comm a 10]
    exact Nat.mul_le_mul_right _ (by omega)
theorem vl_le : ∀ (l : By) (a : Nat), a ≤ vl a l := fun l a => Nat.le_trans (Nat.le_mul_of_pos_right a (Nat.pow_pos (by omega))) (vl_ge l a)
theorem parseM_iff {M : Nat} (hM : M ≤ 65535) : ∀ (l : By) (a v : Nat), a ≤ M → (Lib.parseUintM M a l = .ok v ↔ digs l = true ∧ vl a l = v ∧ v ≤ M) := by
  intro l
  induction l with
  | nil =>
    intro a v ha
    constructor
    · intro h
      have h2 : (Lib.NumEnd.ok a : Lib.NumEnd Nat) = .ok v := h
      injection h2 with h2
      subst h2
      exact ⟨rfl, rfl, ha⟩
    · rintro ⟨_, h, _⟩
      have h2 : a = v := h
      subst h2
      rfl
  | cons c r ih =>
    intro a v ha
    rw [Lib.parseUintM]
    have hd : digs (c :: r) = ((decide (48 ≤ c.toNat) && decide (c.toNat ≤ 57)) && digs r) := rfl
    have hv : vl a (c :: r) = vl (10 * a + (c.toNat - 48)) r := rfl
    by_cases hc : 48 ≤ c.toNat ∧ c.toNat ≤ 57
    · rw [if_pos hc, if_neg (by omega), hd, hv, show a * 10 = 10 * a from by omega]
      have h9 : (decide (48 ≤ c.toNat) && decide (c.toNat ≤ 57)) = true := by simpa using hc
      rw [h9, Bool.true_and]
      by_cases hm : M < 10 * a + (c.toNat - 48)
      · rw [if_pos hm]
        constructor
        · intro h; cases h
        · rintro ⟨_, h, h2⟩
          have := vl_le r (10 * a + (c.toNat - 48))
          omega
      · rw [if_neg hm]
        exact ih _ _ (by omega)
    · rw [if_neg hc, hd]
      have h9 : (decide (48 ≤ c.toNat) && decide (c.toNat ≤ 57)) = false := by
        rw [Bool.eq_false_iff]; simpa using hc
      rw [h9]
      constructor
      · intro h; cases h
      · rintro ⟨h, _⟩; cases h
theorem parse16 {l : By} (hz : ¬ (1 < l.length ∧ l.head? = some 48)) (v : Nat) : Lib.parseUintB 16 l = .ok v ↔ num l 65535 = some v := by
  unfold Lib.parseUintB
  by_cases h0 : l = []
  · subst h0
    rw [if_pos rfl, num_bad (.inl rfl)]
    constructor <;> intro h <;> cases h
  · rw [if_neg h0, parseM_iff (M := 2 ^ 16 - 1) (by decide) l 0 v (by decide)]
    have hl0 : l.length ≠ 0 := fun e => h0 (List.eq_nil_of_length_eq_zero e)
    have hvv : vl 0 l = val l := rfl
    rw [hvv]
    by_cases hd : digs l = true
    · by_cases h12 : 12 < l.length
      · rw [num_bad (.inr (.inr h12))]
        constructor
        · rintro ⟨_, h, h2⟩
          exfalso
          match l, hl0, hz, hd, h12, h with
          | c :: r, _, hz, hd, h12, h =>
            have hc : 48 ≤ c.toNat ∧ c.toNat ≤ 57 := by
              have := List.all_eq_true.1 hd c (by simp)
              simpa using this
            have hne : c.toNat ≠ 48 := fun e => hz ⟨by omega, by simp only [List.head?_cons]; congr 1; exact UInt8.toNat_inj.1 e⟩
            have hg := vl_ge r (10 * 0 + (c.toNat - 48))
            have hval : val (c :: r) = vl (10 * 0 + (c.toNat - 48)) r := rfl
            have hp : 10 ^ 12 ≤ 10 ^ r.length := Nat.pow_le_pow_right (by omega) (by simp at h12; omega)
            have h1 : 1 * 10 ^ r.length ≤ (10 * 0 + (c.toNat - 48)) * 10 ^ r.length := Nat.mul_le_mul_right _ (by omega)
            have hq : (10 : Nat) ^ 12 = 1000000000000 := by decide
            have hq2 : (2 : Nat) ^ 16 - 1 = 65535 := by decide
            omega
        · intro h; cases h
      · rw [num_dig (by intro h; rcases h with h | h | h; exact hl0 h; exact hz h; exact h12 h) hd]
        have hq2 : (2 : Nat) ^ 16 - 1 = 65535 := by decide
        rw [hq2]
        by_cases hm : 65535 < val l
        · rw [if_pos hm]
          constructor
          · rintro ⟨_, h, h2⟩; omega
          · intro h; cases h
        · rw [if_neg hm]
          constructor
          · rintro ⟨_, h, _⟩; rw [h]
          · intro h; injection h with h; exact ⟨hd, h, by omega⟩
    · rw [num_nodig (by simpa using hd)]
      constructor
      · rintro ⟨h, _⟩; exact absurd h hd
      · intro h; cases h
theorem small_dig (c : UInt8) : (48 ≤ (Nm.small c).toNat ∧ (Nm.small c).toNat ≤ 57) ↔ (48 ≤ c.toNat ∧ c.toNat ≤ 57) := by
  rw [Nm.small_val]
  split <;> omega
theorem small_id (c : UInt8) (h : 48 ≤ c.toNat ∧ c.toNat ≤ 57) : Nm.small c = c := by
  refine UInt8.toNat_inj.1 ?_
  rw [Nm.small_val, if_neg (by omega)]
theorem num_fold (l : By) (m : Nat) : num (Nm.fold l) m = num l m := by
  have hd : digs (Nm.fold l) = digs l := by
    unfold digs Nm.fold
    rw [List.all_map]
    congr 1
    funext c
    simp only [Function.comp_apply]
    rw [Bool.eq_iff_iff]
    simpa using small_dig c
  by_cases h : digs l = true
  · have : Nm.fold l = l := by
      unfold Nm.fold
      refine (List.map_congr_left (g := id) (fun c hc => ?_)).trans (List.map_id _)
      have := List.all_eq_true.1 h c hc
      exact small_id c (by simpa using this)
    rw [this]
  · rw [num_nodig (by rw [hd]; simpa using h), num_nodig (by simpa using h)]
end Go.Proofs.YtgcaephfhfkjcaaGreatDoor.Rd
namespace Go.Proofs.YtgcaephfhfkjcaaGreatDoor
open Go.RowKit

theorem rd_strEq {a n : ByteArray} (h : a.data.toList = n.data.toList) : (a.toList == n.toList) = true :=
  (beq_toListBytes a n).symm.trans <| (MapKept.bytes_beq _ _).2 (by rw [string_eq (s := a) rfl, string_eq (s := n) rfl, h])
theorem rd_strNe {a n : ByteArray} (h : a.data.toList ≠ n.data.toList) : (a.toList == n.toList) = false := by
  rw [← beq_toListBytes, Bool.eq_false_iff]
  intro hb
  have := (MapKept.bytes_beq _ _).1 hb
  subst this
  exact h rfl
theorem sv_str (l : List UInt8) : ∃ s : ByteArray, sv l = .string s ∧ s.data.toList = l := ⟨⟨l.toArray⟩, rfl, rfl⟩
theorem fold_len (l : List UInt8) : (Nm.fold l).length = l.length := by simp [Nm.fold]
/-- what TypeOf answers. -/
def tyV : Option Nat → Value
  | some v => .tuple #[.int .u16 v, .bool true]
  | none => .tuple #[.int .u16 0, .bool false]
theorem Rd.num_le {s : By} {most v : Nat} (h : num s most = some v) : v ≤ most := by
  unfold num at h
  split at h
  · cases h
  · split at h
    · dsimp only at h
      split at h
      · cases h
      · injection h with h; omega
    · cases h
end Go.Proofs.YtgcaephfhfkjcaaGreatDoor
namespace Go.Proofs.YtgcaephfhfkjcaaGreatDoor
open Go.RowKit

theorem rowNum {w : World} (h : LayR w) {k : Nat} (hk : k < 9) : w.cell? ⟨0, k * 9, none⟩ = some (.int .u16 (Rd.ty k : Nat)) := by
  rw [h.cell]
  exact Rd.nine (p := fun k => rowsCells[k * 9]? = some (.int .u16 (Rd.ty k : Nat))) hk rfl rfl rfl rfl rfl rfl rfl rfl rfl
theorem rowTxt {w : World} (h : LayR w) {k : Nat} (hk : k < 9) : w.cell? ⟨0, k * 9 + 1, none⟩ = some (sv (Rd.txt k)) := by
  rw [h.cell]
  exact Rd.nine (p := fun k => rowsCells[k * 9 + 1]? = some (sv (Rd.txt k))) hk rfl rfl rfl rfl rfl rfl rfl rfl rfl
theorem small_s (s : ByteArray) (w : World) (hs : s.size ≤ 140737488355328) :
    Calls Tryz.prog 115 #[.string s] w fun e w' => e = .returned (sv (Nm.fold s.data.toList)) ∧ Below w.heap.size w w' := by
  have HF := Lib.hid (Fold_any s w hs)
  go_enter Tryz.func115, Tryz.ntmps115
  go_wp2_with (go_at_call 40; refine HF.out.mono ?_; rintro e w1 ⟨rfl, hb⟩)
  go_ret
  exact ⟨rfl, hb⟩
set_option maxHeartbeats 1000000 in
set_option maxRecDepth 100000 in
theorem TypeText_any (t : Nat) (w : World) (ht : t ≤ 65535) (hL : LayA w) :
    Calls Tryz.prog 44 #[.int .u16 t] w fun e w' => e = .returned (sv (Rd.tyText t)) ∧ Below w.heap.size w w' := by
  obtain ⟨R, hR⟩ : ∃ R, Rd.tyText t = R := ⟨_, rfl⟩
  rw [hR]
  have HRES := Lib.hid hR
  clear hR
  have HL := Lib.hid hL
  have HIT := Lib.hid (fun W (h : LayP W) => itoa_any t W (by omega) h)
  clear hL
  go_enter Tryz.func44, Tryz.ntmps44
  go_wp2
  go_loop [4] (fun i => ∃ k : Nat, i = .int .i64 k ∧ k ≤ 9 ∧ Hid (∀ j, j < k → Rd.ty j ≠ t)) (fun i => 9 - (intOf i).toNat)
  case atStart => exact ⟨0, rfl, by omega, fun j hj => absurd hj (by omega)⟩
  case round =>
    obtain ⟨k, rfl, hk, HJ⟩ := hrel
    by_cases hlt : k < 9
    · have c0 := rowNum HL.out.1 hlt
      have c1 := rowTxt HL.out.1 hlt
      have ha : (0 : Nat) = 0 := rfl
      by_cases he : Rd.ty k = t
      · have hr : R = Rd.txt k := by rw [← HRES.out, ← he, Rd.tyText_at hlt]
        have HR2 := Lib.hid hr
        clear hr
        rw [he] at c0
        generalize Rd.txt k = x at *
        clear he
        go_wp2
        go_ret
        exact ⟨by rw [HR2.out]; rfl, Below.refl _ _⟩
      · have hb : (((Rd.ty k : Nat) : Int) == (t : Int)) = false := beq_eq_false_iff_ne.2 (by omega)
        have hne := Lib.hid he
        clear he
        go_wp2
        go_round
        case rel => exact ⟨k + 1, by go_num, by omega, fun j hj => (Nat.lt_succ_iff_lt_or_eq.1 hj).elim (HJ.out j) (fun e => by subst e; exact hne.out)⟩
        case measure => simp [intOf]; omega
    · obtain rfl : k = 9 := by omega
      have hr : R = [84, 89, 80, 69] ++ Rd.dec t := by rw [← HRES.out]; exact Rd.tyText_no HJ.out
      have HR2 := Lib.hid hr
      clear hr
      have hdl : (Rd.dec t).length ≤ 65536 := by have := Rd.dec_len t; omega
      go_wp2_with (go_at_call 72; refine (HIT.out _ HL.out.2.1).mono ?_; rintro e w1 ⟨rfl, hb⟩)
      go_ret
      exact ⟨by rw [HR2.out, ← sv_cat]; rfl, hb⟩
/-- what number answers. -/
def uintV (o : Option Nat) : Value := match o with
  | some v => .tuple #[.int .u32 v, .bool true]
  | none => .tuple #[.int .u32 0, .bool false]
set_option maxRecDepth 100000 in
theorem parse16_ok (s : ByteArray) (w : World) (hs : s.size ≤ 140737488355328) (hz : ¬ (1 < s.data.toList.length ∧ s.data.toList.head? = some 48)) {v : Nat} (h : Rd.num s.data.toList 65535 = some v) :
    Calls Tryz.prog 112 #[.string s, .int .i64 10, .int .i64 16] w fun e w' => e = .returned (.tuple #[.int .u64 v, .nilIface]) ∧ Below w.heap.size w w' := by
  refine (Tryz.strconv_ParseUint_10_at16_ok s (by omega) v ((Rd.parse16 hz v).2 h) w).mono ?_
  rintro e w' ⟨rfl, rfl | rfl⟩
  · exact ⟨rfl, Below.refl _ _⟩
  · exact ⟨rfl, bytesWorld_below _ _ _⟩
set_option maxRecDepth 100000 in
theorem parse16_no (s : ByteArray) (w : World) (hL : Lay w) (hs : s.size ≤ 140737488355328) (hz : ¬ (1 < s.data.toList.length ∧ s.data.toList.head? = some 48)) (h : Rd.num s.data.toList 65535 = none) :
    Calls Tryz.prog 112 #[.string s, .int .i64 10, .int .i64 16] w fun e w' => ∃ x t a, e = .returned (.tuple #[.int .u64 x, .iface t (.pointer (some a))]) ∧ Below w.heap.size w w' := by
  obtain ⟨⟨t1, p1, h1⟩, t2, p2, h2⟩ := hL
  have hno : ∀ v, Lib.parseUintB 16 s.data.toList ≠ .ok v := fun v hv => by
    have := (Rd.parse16 hz v).1 hv
    rw [h] at this; cases this
  rcases hp : Lib.parseUintB 16 s.data.toList with v | _ | _
  · exact absurd hp (hno v)
  · refine (Tryz.strconv_ParseUint_10_at16_syntax s (by omega) hp _ w h1 (.inr ⟨_, _, rfl⟩)).mono ?_
    rintro e w' ⟨N, rfl, _, _, hb⟩
    exact ⟨_, _, _, rfl, hb⟩
  · refine (Tryz.strconv_ParseUint_10_at16_range s (by omega) hp _ w h2 (.inr ⟨_, _, rfl⟩)).mono ?_
    rintro e w' ⟨N, rfl, _, _, hb⟩
    exact ⟨_, _, _, rfl, hb⟩
set_option maxHeartbeats 1000000 in
set_option maxRecDepth 100000 in
theorem number16_any (s : ByteArray) (w : World) (hL : Lay w) (hs : s.size ≤ 140737488355328) :
    Calls Tryz.prog 117 #[.string s, .int .i64 16] w fun e w' => e = .returned (uintV (Rd.num s.data.toList 65535)) ∧ Below w.heap.size w w' := by
  have hl : s.data.toList.length = s.size := by simp
  have key : ∀ (hz : ¬ (1 < s.data.toList.length ∧ s.data.toList.head? = some 48)), (∃ v, v ≤ 65535 ∧ Rd.num s.data.toList 65535 = some v ∧ Calls Tryz.prog 112 #[.string s, .int .i64 10, .int .i64 16] w fun e w' => e = .returned (.tuple #[.int .u64 v, .nilIface]) ∧ Below w.heap.size w w') ∨
      (Rd.num s.data.toList 65535 = none ∧ Calls Tryz.prog 112 #[.string s, .int .i64 10, .int .i64 16] w fun e w' => ∃ x t a, e = .returned (.tuple #[.int .u64 x, .iface t (.pointer (some a))]) ∧ Below w.heap.size w w') := fun hz => by
    cases h : Rd.num s.data.toList 65535 with
    | some v => exact .inl ⟨v, Rd.num_le h, rfl, parse16_ok s w hs hz h⟩
    | none => exact .inr ⟨rfl, parse16_no s w hL hs hz h⟩
  by_cases h1 : 1 < s.size
  · have h0s : 0 < s.size := by clear hl key; omega
    have hd := Rd.head_of (s := s) h0s
    have hi1 : (1 : Int) < (s.size : Int) := by omega
    by_cases h48 : (s[0]'h0s).toNat = 48
    · have hn : Rd.num s.data.toList 65535 = none := Rd.num_bad (.inr (.inl ⟨by omega, by rw [hd]; congr 1; exact UInt8.toNat_inj.1 h48⟩))
      have HN := Lib.hid hn
      have hb : (((s[0]'h0s).toNat : Int) == 48) = true := by rw [h48]; rfl
      clear hn hd key hl h48
      go_enter Tryz.func117, Tryz.ntmps117
      go_wp2
      go_ret2
      exact ⟨by rw [HN.out]; rfl, Below.refl _ _⟩
    · have hz : ¬ (1 < s.data.toList.length ∧ s.data.toList.head? = some 48) := fun ⟨_, e⟩ => h48 (by rw [hd] at e; injection e with e; rw [e]; rfl)
      have hb : (((s[0]'h0s).toNat : Int) == 48) = false := beq_eq_false_iff_ne.2 (by omega)
      rcases key hz with ⟨v, hv, hn, hc⟩ | ⟨hn, hc⟩
      · have HN := Lib.hid hn
        have HC := Lib.hid hc
        clear hn hc hd key hl h48 hz
        go_enter Tryz.func117, Tryz.ntmps117
        go_wp2_with (go_at_call 112; refine HC.out.mono ?_; rintro e w1 ⟨rfl, hB⟩)
        go_ret2
        exact ⟨by rw [HN.out]; rfl, hB⟩
      · have HN := Lib.hid hn
        have HC := Lib.hid hc
        clear hn hc hd key hl h48 hz
        go_enter Tryz.func117, Tryz.ntmps117
        go_wp2_with (go_at_call 112; refine HC.out.mono ?_; rintro e w1 ⟨x, ty, a, rfl, hB⟩)
        go_ret2
        exact ⟨by rw [HN.out]; rfl, hB⟩
  · have hz : ¬ (1 < s.data.toList.length ∧ s.data.toList.head? = some 48) := fun ⟨e, _⟩ => h1 (by omega)
    rcases key hz with ⟨v, hv, hn, hc⟩ | ⟨hn, hc⟩
    · have HN := Lib.hid hn
      have HC := Lib.hid hc
      clear hn hc key hl hz
      go_enter Tryz.func117, Tryz.ntmps117
      go_wp2_with (go_at_call 112; refine HC.out.mono ?_; rintro e w1 ⟨rfl, hB⟩)
      go_ret2
      exact ⟨by rw [HN.out]; rfl, hB⟩
    · have HN := Lib.hid hn
      have HC := Lib.hid hc
      clear hn hc key hl hz
      go_enter Tryz.func117, Tryz.ntmps117
      go_wp2_with (go_at_call 112; refine HC.out.mono ?_; rintro e w1 ⟨x, ty, a, rfl, hB⟩)
      go_ret2
      exact ⟨by rw [HN.out]; rfl, hB⟩
end Go.Proofs.YtgcaephfhfkjcaaGreatDoor
