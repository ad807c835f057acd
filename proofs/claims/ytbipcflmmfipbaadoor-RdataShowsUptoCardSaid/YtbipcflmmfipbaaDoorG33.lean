/- Texts of the proofs, merged. -/
import Derived.Test.YtbipcflmmfipbaaDoorG29
import Derived.Test.YtbipcflmmfipbaaDoorG30
import Derived.Test.YtbipcflmmfipbaaDoorG31
import Derived.Test.YtbipcflmmfipbaaDoorG32
import Derived.Test.YtbipcflmmfipbaaDoorG37
import Derived.Test.YtbipcflmmfipbaaDoorG21
import Derived.Test.YtbipcflmmfipbaaDoorG13
import Derived.Test.YtbipcflmmfipbaaDoorG16
/- Show: the program's and the document's, any type. -/
namespace Go.Proofs.YtbipcflmmfipbaaDoor
open Go.RowKit

theorem text_few (l : List UInt8) : (Nm.text l).length ≤ 40000 := by
  unfold Nm.text
  cases hs : Nm.split l with
  | none => simp
  | some ls =>
    obtain ⟨e1, e2, e3⟩ := Nm.split_some.1 hs
    have h1 := textL_len ls e2
    have h2 := Nm.good_count e2
    have h3 := Nm.glue_length ls
    rw [e1] at e3
    cases ls with
    | nil => simp
    | cons a r =>
      show (Nm.textL (a :: r)).length ≤ 40000
      omega
/-- the words that bytes are told by. -/
def shX (d : Dv) (ls : List (List UInt8)) (p : Nat) : List (List UInt8) :=
  if p = 1 then [Rd.showA d.raw.data.toList] else if p = 2 then [(Rd.pairs d.raw.data.toList 8).drop 1] else if p = 3 then ls.map qw else if p = 4 then cw d.raw.data.toList else []
/-- what data are told by. -/
def shS (t : Nat) (d : Dv) (ls : List (List UInt8)) : List UInt8 :=
  if t = 1 then Rd.showA d.raw.data.toList else if t = 28 then (Rd.pairs d.raw.data.toList 8).drop 1 else if t = 16 then (Rd.quoted (Nm.esc true) ls).drop 1
  else if t = 6 then ((((([] ++ [32]) ++ Nm.text d.host.data.toList) ++ [32]) ++ Nm.text d.mail.data.toList) ++ Rd.numw d 5).drop 1
  else if Rd.isHost t then (Rd.numw d (Rd.cnt t) ++ 32 :: Nm.text d.host.data.toList).drop 1 else Rd.showHex d.raw.data.toList
theorem join_sp (ws : List (List UInt8)) : Lib.join ws [32] = (ws.flatMap fun x => 32 :: x).drop 1 := by
  have := Rd.join_flat (fun x : List UInt8 => x) 32 ws
  rw [List.map_id'] at this
  exact this
theorem sh_eq (d : Dv) (ls : List (List UInt8)) (t : Nat) : Lib.join (Rd.wds d.dt (shX d ls) (Rd.parts t)).1 [32] = shS t d ls := by
  rw [join_sp]
  refine Rd.by_type (P := fun t => ((Rd.wds d.dt (shX d ls) (Rd.parts t)).1.flatMap fun x => 32 :: x).drop 1 = shS t d ls) ?_ ?_ ?_ ?_ ?_ ?_ ?_ ?_ ?_ (fun t a b c e f g h i j => ?_) t
  case refine_10 =>
    have e1 : Rd.isHost t = false := by simp [Rd.isHost, *]
    rw [Rd.parts_other a b c e f g h i j]
    unfold shS
    rw [if_neg a, if_neg i, if_neg h, if_neg e, e1, if_neg (by simp)]
    simp only [Rd.wds, Rd.pcs, shX, cw, Rd.showHex, List.foldl_cons, List.foldl_nil]
    by_cases h0 : d.raw.data.toList = [] <;> simp [h0]
  all_goals simp [Rd.wds, Rd.pcs, Rd.parts, shX, shS, Rd.isHost, Rd.cnt, Rd.numw, Rd.hasN, Dv.dt, Dv.n, List.range_succ, Rd.quoted, qw, List.flatMap_map]
theorem flat_len {α : Type} (f : α → List UInt8) (m : Nat) (h : ∀ x, (f x).length ≤ m) (l : List α) : (l.flatMap f).length ≤ l.length * m := by
  induction l with
  | nil => simp
  | cons a r ih =>
    have := h a
    rw [List.flatMap_cons, List.length_append, List.length_cons, Nat.succ_mul]
    omega
theorem pcs_words {d : Dv} {ls : List (List UInt8)} {n p : Nat} (hf : d.fits) (hraw : d.raw.size ≤ 65535) (hls : ∀ x ∈ ls, x.length ≤ 65535) (hn : n < 5 ∨ ¬ (p = 8 ∨ p = 9)) : ∀ x ∈ Rd.pcs d.dt (shX d ls) n p, x.length ≤ 20000000 := by
  have hl : d.raw.data.toList.length = d.raw.size := by simp
  unfold Rd.pcs
  intro x hx
  split at hx
  · unfold shX at hx
    split at hx
    · rw [List.mem_singleton.1 hx]
      unfold Rd.showA
      have := flat_len (fun c : UInt8 => 46 :: Rd.dec c.toNat) 257 (fun c => by have := Rd.dec_byte c; simp; omega) d.raw.data.toList
      rw [List.length_drop]
      omega
    · split at hx
      · rw [List.mem_singleton.1 hx, ← Rd.gw_join]
        have := join_len (s := [58]) (Rd.gw d.raw.data.toList 8) (Rd.gw_len _ 8)
        have e : (Rd.gw d.raw.data.toList 8).length = 8 := by simp [Rd.gw]
        rw [e, show ([58] : List UInt8).length = 1 from rfl] at this
        omega
      · split at hx
        · obtain ⟨y, hy, rfl⟩ := List.mem_map.1 hx
          have h1 := hls y hy
          have h2 := Nm.esc_len true y
          unfold qw
          simp
          omega
        · split at hx
          · unfold cw at hx
            have h2 := Rd.dec_len d.raw.data.toList.length
            have h3 := hex2_len d.raw.data.toList
            rcases List.mem_cons.1 hx with rfl | hx
            · simp
            rcases List.mem_cons.1 hx with rfl | hx
            · omega
            split at hx
            · cases hx
            · rw [List.mem_singleton.1 hx]; omega
          · cases hx
  · split at hx
    · rw [List.mem_singleton.1 hx]; have := text_few d.dt.host; omega
    · split at hx
      · rw [List.mem_singleton.1 hx]; have := text_few d.dt.mail; omega
      · split at hx
        · rename_i h89
          rw [List.mem_singleton.1 hx]
          have h5 : n < 5 := hn.resolve_right (fun h => h h89)
          rw [rd_hasN2 d h5]
          have := Rd.dec_len2 _ (hf n)
          omega
        · cases hx
theorem wds_words {d : Dv} {ls : List (List UInt8)} (t : Nat) (hf : d.fits) (hraw : d.raw.size ≤ 65535) (hls : ∀ x ∈ ls, x.length ≤ 65535) : ∀ x ∈ (Rd.wds d.dt (shX d ls) (Rd.parts t)).1, x.length ≤ 20000000 := by
  suffices H : ∀ k, k ≤ (Rd.parts t).length → ∀ x ∈ (Rd.wds d.dt (shX d ls) ((Rd.parts t).take k)).1, x.length ≤ 20000000 by
    have := H _ (Nat.le_refl _)
    rw [List.take_length] at this
    exact this
  intro k
  induction k with
  | zero => intro _ x hx; simp [Rd.wds] at hx
  | succ k ih =>
    intro hk x hx
    have hkl : k < (Rd.parts t).length := by omega
    have hn5 : Rd.nums ((Rd.parts t).take (k + 1)) ≤ 5 := Rd.nums_le
    rw [List.take_succ_eq_append_getElem hkl] at hx hn5
    rw [Rd.wds_snoc, List.mem_append] at hx
    rw [Rd.nums_snoc] at hn5
    rcases hx with hx | hx
    · exact ih (by omega) x hx
    · refine pcs_words hf hraw hls ?_ x hx
      by_cases h : (Rd.parts t)[k] = 8 ∨ (Rd.parts t)[k] = 9
      · rw [if_pos h] at hn5
        exact .inl (by omega)
      · exact .inr h
theorem tx_255 : ∀ n (l : List UInt8) (ls : List (List UInt8)), l.length ≤ n → Rd.tx l = some ls → ∀ x ∈ ls, x.length ≤ 255 := by
  intro n
  induction n with
  | zero =>
    intro l ls hl h
    obtain rfl : l = [] := List.eq_nil_of_length_eq_zero (by omega)
    rw [Rd.tx_nil] at h; cases h; simp
  | succ n ih =>
    intro l ls hl h
    cases l with
    | nil => rw [Rd.tx_nil] at h; cases h; simp
    | cons k t =>
      by_cases hk : t.length < k.toNat
      · rw [Rd.tx_bad hk] at h; cases h
      · rw [Rd.tx_cons hk] at h
        obtain ⟨r, hr, rfl⟩ := Option.map_eq_some_iff.1 h
        have := ih _ _ (by simp at hl ⊢; omega) hr
        intro x hx
        rcases List.mem_cons.1 hx with rfl | hx
        · have := k.toNat_lt; rw [List.length_take]; omega
        · exact this x hx
theorem fit_of {t p : Nat} {d : Dv} (hok : Rd.ok t d.dt = true) (hp : p ∈ Rd.parts t) : ∃ n, Rd.fit p d.dt n = true := by
  have hfa : Rd.fitAll d.dt (Rd.parts t) 0 = true := by
    rw [Rd.ok_parts, Bool.and_eq_true] at hok
    exact hok.1
  obtain ⟨k, hk, rfl⟩ := List.mem_iff_getElem.1 hp
  exact ⟨_, fitAll_at hfa hk⟩
/-- the short texts of data, or none. -/
def txs (d : Dv) : List (List UInt8) := (Rd.tx d.raw.data.toList).getD []
theorem txs_le (d : Dv) : (txs d).length ≤ d.raw.size ∧ ∀ x ∈ txs d, x.length ≤ d.raw.size := by
  have hl : d.raw.data.toList.length = d.raw.size := by simp
  unfold txs
  cases h : Rd.tx d.raw.data.toList with
  | none => exact ⟨Nat.zero_le _, fun x hx => by cases hx⟩
  | some ls => exact ⟨by have := Rd.tx_len h; simp; omega, fun x hx => by have := tx_le _ _ _ (Nat.le_refl _) h x hx; omega⟩
theorem fit3 {d : Dv} {n : Nat} (h : Rd.fit 3 d.dt n = true) : Rd.tx d.raw.data.toList = some (txs d) ∧ txs d ≠ [] := by
  unfold Rd.fit at h
  rw [if_neg (by omega), if_neg (by omega), if_pos rfl, show d.dt.raw = d.raw.data.toList from rfl] at h
  unfold txs
  split at h
  · rename_i hx
    rw [hx]
    exact ⟨rfl, by simp⟩
  · cases h
set_option maxHeartbeats 1000000 in
set_option maxRecDepth 100000 in
/-- the program's Show of data that may be. -/
theorem pdShow_ok (t : Nat) (d : Dv) (w : World) (ht : t ≤ 65535) (hL : LayA w) (hf : d.fits) (hr0 : d.raw.size ≤ 8796093022208) (hh : d.host.size ≤ 140737488355328) (hm : d.mail.size ≤ 140737488355328) (hok : Rd.ok t d.dt = true) :
    Calls Tryd.prog 11 #[.int .u16 t, d.val] w fun e W' => e = .returned (.tuple #[sv (shS t d (txs d)), .int .i64 0]) ∧ Below w.heap.size w W' := by
  have hrl : d.dt.raw.length = d.raw.size := by simp [Dv.dt]
  have hraw := ok_raw hok
  obtain ⟨q1, q2⟩ := txs_le d
  have hw := wds_words (ls := txs d) t hf (by omega) (fun x hx => by have := q2 x hx; omega)
  have hXl : ∀ p, (shX d (txs d) p).length ≤ 100000 := fun p => by
    unfold shX
    split
    · simp
    split
    · simp
    split
    · rw [List.length_map]; omega
    split
    · unfold cw; split <;> simp
    · simp
  have hcnt := wds_len (d := d.dt) hXl t 7
  rw [List.take_of_length_le (by rw [Rd.parts_len]; omega)] at hcnt
  have hjl := join_len (s := [32]) _ hw
  rw [show ([32] : List UInt8).length = 1 from rfl] at hjl
  have hmul := Nat.mul_le_mul_right (20000000 + 1) hcnt
  have hne : (Rd.wds d.dt (shX d (txs d)) (Rd.parts t)).1 ≠ [] := by
    have h3 : 3 ∈ Rd.parts t → txs d ≠ [] := fun h => (fit3 (fit_of hok h).choose_spec).2
    revert h3
    refine Rd.by_type (P := fun t => (3 ∈ Rd.parts t → txs d ≠ []) → (Rd.wds d.dt (shX d (txs d)) (Rd.parts t)).1 ≠ []) ?_ ?_ ?_ ?_ ?_ ?_ ?_ ?_ ?_ (fun t a b c e f g h i j => ?_) t
    case refine_10 => rw [Rd.parts_other a b c e f g h i j]; intro _; simp [Rd.wds, Rd.pcs, shX, cw]
    all_goals simp [Rd.wds, Rd.pcs, Rd.parts, shX]
  have hck : ∀ W : World, LayR W → Calls Tryd.prog 16 #[.int .u16 t, .agg d.cells] W fun e w' => e = .returned (.int .i64 0) ∧ Below W.heap.size W w' := fun W hW => by
    have := pdCheck_any t d W ht hW hf hr0 hh hm
    rw [hok] at this
    exact this
  have := pdShow_loop t d (shX d (txs d)) w ht hL hf hh hm hck
    (fun h => ⟨_, rfl, by
      obtain ⟨n, hn⟩ := fit_of hok h
      have h4 : d.raw.size = 4 := by rw [← hrl]; simpa [Rd.fit] using hn
      have := dotted_any d.raw (by omega) (by omega)
      rw [Rd.nms_show] at this
      exact this⟩)
    (fun h => ⟨_, rfl, by
      obtain ⟨n, hn⟩ := fit_of hok h
      have h4 : d.raw.size = 16 := by rw [← hrl]; simpa [Rd.fit] using hn
      exact grouped_any d.raw h4 fmt_16⟩)
    (fun h => by
      obtain ⟨n, hn⟩ := fit_of hok h
      obtain ⟨e1, e2⟩ := fit3 hn
      exact quoted_any d.raw (txs d) (by omega) e1 e2)
    (fun _ => counted_any d.raw (by omega)) hXl hne (by omega)
  rw [sh_eq] at this
  exact this
set_option maxHeartbeats 1000000 in
set_option maxRecDepth 100000 in
/-- the document's Show of data that may be. -/
theorem rdShow_ok (t : Nat) (d : Dv) (w : World) (ht : t ≤ 65535) (hf : d.fits) (hr0 : d.raw.size ≤ 8796093022208) (hh : d.host.size ≤ 140737488355328) (hm : d.mail.size ≤ 140737488355328) (hok : Rd.ok t d.dt = true) :
    Calls Tryd.prog 12 #[.int .u16 t, d.val] w fun e W' => e = .returned (.tuple #[sv (shS t d (txs d)), .int .i64 0]) ∧ Below w.heap.size w W' := by
  have hrl : d.dt.raw.length = d.raw.size := by simp [Dv.dt]
  have hraw := ok_raw hok
  obtain ⟨q1, q2⟩ := txs_le d
  have hck : ∀ W : World, Calls Tryd.prog 49 #[.int .u16 t, d.val] W fun e w' => e = .returned (.int .i64 0) ∧ Below W.heap.size W w' := fun W => by
    have := rdCheck_any t d W ht hf hr0 hh hm
    rw [hok] at this
    exact this
  have hmem : ∀ p ∈ Rd.parts t, ∃ n, Rd.fit p d.dt n = true := fun p hp => fit_of hok hp
  have q : ∀ k : Nat, t ≠ k → (((t : Nat) : Int) == (k : Int)) = false := fun k h => by simp; omega
  unfold shS
  by_cases a1 : t = 1
  · subst a1
    obtain ⟨n, hn⟩ := hmem 1 (by decide)
    exact rdShow_A d w (by rw [← hrl]; simpa [Rd.fit] using hn) hck
  by_cases a28 : t = 28
  · subst a28
    obtain ⟨n, hn⟩ := hmem 2 (by decide)
    exact rdShow_AAAA d w (by rw [← hrl]; simpa [Rd.fit] using hn) hck
  by_cases a16 : t = 16
  · subst a16
    obtain ⟨n, hn⟩ := hmem 3 (by decide)
    obtain ⟨e1, e2⟩ := fit3 hn
    exact rdShow_TXT d w (Nm.esc true) (txs d) (by omega) e1 (List.length_pos_iff.2 e2) (fun x hx => by have h1 := tx_255 _ _ _ (Nat.le_refl _) e1 x hx; have h2 := Nm.esc_len true x; omega)
      (fun x hx W => by
        have h1 := tx_255 _ _ _ (Nat.le_refl _) e1 x hx
        exact refEscape_any ⟨x.toArray⟩ true W (by show x.toArray.size ≤ _; simp; omega)) hck
  rw [if_neg a1, if_neg a28, if_neg a16]
  by_cases a6 : t = 6
  · subst a6
    exact rdShow_SOA d _ _ w hf (by have := text_few d.host.data.toList; omega) (by have := text_few d.mail.data.toList; omega) (fun W => refText_any d.host W hh) (fun W => refText_any d.mail W hm) hck
  rw [if_neg a6]
  cases hi : Rd.isHost t with
  | true => exact rdShow_host t d _ w ht hf hi (by simp [Rd.isMail, a6]) (by have := text_few d.host.data.toList; omega) (fun W => refText_any d.host W hh) (q 1 a1) (q 28 a28) (q 16 a16) hck
  | false => exact rdShow_raw t d w ht (by omega) hi (q 1 a1) (q 28 a28) (q 16 a16) hck
set_option maxRecDepth 100000 in
theorem rdShow_no (t : Nat) (d : Dv) (w : World) (hck : ∀ W : World, Calls Tryd.prog 49 #[.int .u16 t, d.val] W fun e w' => e = .returned (.int .i64 40) ∧ Below W.heap.size W w') :
    Calls Tryd.prog 12 #[.int .u16 t, d.val] w fun e w' => e = .returned (.tuple #[.string ⟨#[]⟩, .int .i64 40]) ∧ Below w.heap.size w w' := by
  have HCK := Lib.hid hck
  have HB0 : Hid (Below w.heap.size w (w.alloc (.cells d.cells 27))) := (Below.refl _ w).alloc (Nat.le_refl _) _
  clear hck
  unfold Dv.val at HCK ⊢
  unfold Dv.cells at HB0
  go_enter Tryd.func12, Tryd.ntmps12
  go_wp2_with (go_at_call 49; refine (HCK.out _).mono ?_; rintro e' w1 ⟨rfl, B1⟩; have HB1 := Lib.hid (HB0.out.trans (B1.mono HB0.out.size)); clear B1)
  go_ret2
  exact ⟨rfl, HB1.out⟩
set_option maxRecDepth 100000 in
theorem pdShow_no (t : Nat) (d : Dv) (w : World) (hL : LayR w) (hck : ∀ W : World, LayR W → Calls Tryd.prog 16 #[.int .u16 t, .agg d.cells] W fun e w' => e = .returned (.int .i64 40) ∧ Below W.heap.size W w') :
    Calls Tryd.prog 11 #[.int .u16 t, d.val] w fun e w' => e = .returned (.tuple #[.string ⟨#[]⟩, .int .i64 40]) ∧ Below w.heap.size w w' := by
  have HB0 : Hid (Below w.heap.size w (w.alloc (.cells d.cells 27))) := (Below.refl _ w).alloc (Nat.le_refl _) _
  have HCK := Lib.hid (hck _ (hL.below HB0.out (Nat.le_refl _)))
  clear hck hL
  unfold Dv.val
  unfold Dv.cells at HB0 HCK
  go_enter Tryd.func11, Tryd.ntmps11
  go_wp2_with (go_at_call 16; refine HCK.out.mono ?_; rintro e' w1 ⟨rfl, B1⟩; have HB1 := Lib.hid (HB0.out.trans (B1.mono HB0.out.size)); clear B1)
  go_ret2
  exact ⟨rfl, HB1.out⟩
/-- both tell the same. -/
def shV (t : Nat) (d : Dv) : Value := if Rd.ok t d.dt then .tuple #[sv (shS t d (txs d)), .int .i64 0] else .tuple #[.string ⟨#[]⟩, .int .i64 40]
theorem pdShow_any (t : Nat) (d : Dv) (w : World) (ht : t ≤ 65535) (hL : LayA w) (hf : d.fits) (hr0 : d.raw.size ≤ 8796093022208) (hh : d.host.size ≤ 140737488355328) (hm : d.mail.size ≤ 140737488355328) :
    Calls Tryd.prog 11 #[.int .u16 t, d.val] w fun e W' => e = .returned (shV t d) ∧ Below w.heap.size w W' := by
  unfold shV
  cases hok : Rd.ok t d.dt with
  | true => exact pdShow_ok t d w ht hL hf hr0 hh hm hok
  | false =>
    refine pdShow_no t d w hL.1 fun W hW => ?_
    have := pdCheck_any t d W ht hW hf hr0 hh hm
    rw [hok] at this
    exact this
theorem rdShow_any (t : Nat) (d : Dv) (w : World) (ht : t ≤ 65535) (hf : d.fits) (hr0 : d.raw.size ≤ 8796093022208) (hh : d.host.size ≤ 140737488355328) (hm : d.mail.size ≤ 140737488355328) :
    Calls Tryd.prog 12 #[.int .u16 t, d.val] w fun e W' => e = .returned (shV t d) ∧ Below w.heap.size w W' := by
  unfold shV
  cases hok : Rd.ok t d.dt with
  | true => exact rdShow_ok t d w ht hf hr0 hh hm hok
  | false =>
    refine rdShow_no t d w fun W => ?_
    have := rdCheck_any t d W ht hf hr0 hh hm
    rw [hok] at this
    exact this
end Go.Proofs.YtbipcflmmfipbaaDoor
/- RdataShows: whatever type and data are handed in, the call returns true, and the arguments read behind it as before (where they are at most 1048576 letters): the walk. -/
namespace Go.Proofs.YtbipcflmmfipbaaDoor
open Go.RowKit

theorem wf_u16s {x : Int} (h : (Lit.int .u16 x).wf = true) : ∃ n : Nat, x = n ∧ n ≤ 65535 := by
  have h1 : IntKind.u16.min = 0 := rfl
  have h2 : IntKind.u16.max = 65535 := rfl
  simp only [Lit.wf, Bool.and_eq_true, decide_eq_true_eq] at h
  exact ⟨x.toNat, by omega, by omega⟩
theorem shV_form (t : Nat) (d : Dv) : ∃ (y : ByteArray) (c : Int), shV t d = .tuple #[.string y, .int .i64 c] := by
  unfold shV
  split
  · exact ⟨_, _, rfl⟩
  · exact ⟨_, _, rfl⟩
theorem dv_cells {W : World} {g : Nat} {t : TypeId} {d : Dv} (h : Has W g t d.cells) :
    W.cell? ⟨g, 0, none⟩ = some (.string d.raw) ∧ W.cell? ⟨g, 1, none⟩ = some (.string d.host) ∧ W.cell? ⟨g, 2, none⟩ = some (.string d.mail) ∧ W.cell? ⟨g, 3, none⟩ = some (.int .u32 d.n0) ∧ W.cell? ⟨g, 4, none⟩ = some (.int .u32 d.n1) ∧ W.cell? ⟨g, 5, none⟩ = some (.int .u32 d.n2) ∧ W.cell? ⟨g, 6, none⟩ = some (.int .u32 d.n3) ∧ W.cell? ⟨g, 7, none⟩ = some (.int .u32 d.n4) := by
  refine ⟨?_, ?_, ?_, ?_, ?_, ?_, ?_, ?_⟩ <;> (rw [h.cell]; rfl)
set_option maxHeartbeats 2000000 in
set_option maxRecDepth 100000 in
theorem walk_RdataShows (w : World) (hL : LayA w) (t : Int) (ht : (Lit.int .u16 t).wf = true) (d : Dv) (hf : d.fits) (_hm : d.raw.size ≤ 140737488351232 ∧ d.host.size ≤ 140737488351232 ∧ d.mail.size ≤ 140737488351232) (hu : d.raw.size + d.host.size + d.mail.size ≤ 1048576) :
    Calls Tryd.prog 3 #[.int .u16 t, d.val] w fun e w' => e = .returned (.bool true) ∧ Below w.heap.size w w' := by
  obtain ⟨n, rfl, hn⟩ := wf_u16s ht
  have hX0 : Has (w.alloc (.cells d.cells 27)) w.heap.size 27 d.cells := Has.fresh w _ _
  have hB0 : Below w.heap.size w (w.alloc (.cells d.cells 27)) := (Below.refl _ _).alloc (Nat.le_refl _) _
  have hA0 := hL.below hB0 (Nat.le_refl _)
  obtain ⟨y, c, hV⟩ := shV_form n d
  have H1 := Lib.hid (pdShow_any n d _ hn hA0 hf (by omega) (by omega) (by omega))
  have H2 := Lib.hid (fun (W : World) => rdShow_any n d W hn hf (by omega) (by omega) (by omega))
  rw [hV] at H1 H2
  have HWK := Lib.hid (fun (W : World) (h : Below w.heap.size w W) => rdWakes W (hL.below h (Nat.le_refl _)))
  have HX := Lib.hid (fun (W : World) (h : Below (w.alloc (.cells d.cells 27)).heap.size (w.alloc (.cells d.cells 27)) W) => dv_cells (hX0.below h hX0.lt))
  have HB0 := Lib.hid hB0
  have eD : d.val = .agg #[.string d.raw, .string d.host, .string d.mail, .int .u32 d.n0, .int .u32 d.n1, .int .u32 d.n2, .int .u32 d.n3, .int .u32 d.n4] := rfl
  have eC : d.cells = #[.string d.raw, .string d.host, .string d.mail, .int .u32 d.n0, .int .u32 d.n1, .int .u32 d.n2, .int .u32 d.n3, .int .u32 d.n4] := rfl
  rw [eD] at H1 H2 ⊢
  rw [eC] at H1 HX HB0
  clear eD eC hX0 hB0 hA0 hV hL hf ht
  go_enter Tryd.func3, Tryd.ntmps3
  go_wp2_with (first
    | (go_at_call 11; (with_reducible refine H1.out.mono ?_); rintro e w1 ⟨rfl, B1⟩; obtain ⟨x0, x1, x2, x3, x4, x5, x6, x7⟩ := HX.out _ B1; have HB1 := Lib.hid (HB0.out.trans (B1.mono HB0.out.size)); clear B1)
    | (go_at_call 12; (with_reducible refine (H2.out _).mono ?_); rintro e w2 ⟨rfl, B2⟩; have HB2 := Lib.hid (HB1.out.trans (B2.mono HB1.out.size)); clear B2)
    | (go_at_call 13; refine (HWK.out _ HB2.out).mono ?_; rintro e w3 ⟨rfl, B3⟩; have HB3 := Lib.hid (HB2.out.trans (B3.mono HB2.out.size)); clear B3))
  go_ret
  exact ⟨rfl, HB3.out⟩
end Go.Proofs.YtbipcflmmfipbaaDoor
