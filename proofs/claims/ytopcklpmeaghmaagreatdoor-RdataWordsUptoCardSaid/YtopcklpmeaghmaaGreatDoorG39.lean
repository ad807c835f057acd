/- Texts of the proofs, merged. -/
import Derived.Test.YtopcklpmeaghmaaGreatDoorG38
import Derived.Laws.CopyOwn
import Derived.Test.YtopcklpmeaghmaaGreatDoorG36
import Derived.Test.YtopcklpmeaghmaaGreatDoorG37
import Derived.Test.YtopcklpmeaghmaaGreatDoorG5
import Derived.Test.YtopcklpmeaghmaaGreatDoorG21
/- A row of writings by both: the state, and what a step does with it. -/
namespace Go.Proofs.YtopcklpmeaghmaaGreatDoor
open Go.RowKit

/-- two rows that share no block. -/
def Apart (a b : Value) : Prop := ∀ g, a.ownBlock = some g → b.ownBlock ≠ some g
theorem Apart.symm {a b : Value} (h : Apart a b) : Apart b a := fun g hb ha => h g ha hb
theorem Apart.row {a b : Value} (h : Apart a b) : a.ownBlock = none ∨ a.ownBlock ≠ b.ownBlock := by
  rcases hb : a.ownBlock with _ | g
  · exact .inl rfl
  · exact .inr fun e => h g hb e.symm
theorem Apart.nil (a : Value) : Apart a (.slice none 0 0) := fun g _ e => by simp [Value.ownBlock] at e
theorem own_later {w w' : World} {b n m : Nat} {e e2 : TypeId} {v u : Value} {xs ys : List Value} (h : w.ownsRow b e 1 v n xs) (h2 : w'.ownsRow w.heap.size e2 1 u m ys) : Apart v u := fun g hg hu => by
  have h3 := (h.lt g hg).2
  have h4 := (h2.lt g hu).1
  omega

theorem has_ty {W : World} {g : Nat} {t t2 : TypeId} {cs ds : Array Value} (h : Has W g t cs) (k : Has W g t2 ds) : t = t2 := by
  have e := (show W.heap[g]? = _ from h).symm.trans (show W.heap[g]? = _ from k)
  injection e with e
  injection e
section
variable {base : Nat} {W W' : World}
end

section
variable {w W W' : World} {T : Tab} {la lb l : List UInt8} {va vb : Value}
theorem bv_app_len (l : List UInt8) (k : Nat) : (l ++ List.replicate k 0).length = l.length + k := by simp
end

/-- the room: bytes, and 300 zeros behind. -/
def Room (w : World) (g : Nat) (l : List UInt8) : Prop := Has w g 5 (bv l ++ List.replicate 300 (Value.int .u8 0)).toArray
theorem room_splice (l : List UInt8) (m : Nat) : splice (List.replicate (l.length + m) (Value.int .u8 0)) 0 (bv l) = bv l ++ List.replicate m (Value.int .u8 0) := by
  unfold splice
  simp [bv_length]
theorem room_of {w : World} {g : Nat} {l : List UInt8} (h : w.heap[g]? = some (.cells (splice (List.replicate (l.length + 300) (Value.int .u8 0)) 0 (bv l)).toArray 5 (0, 0))) : Room w g l := by
  rw [room_splice] at h
  exact h
theorem room_cell {w : World} {g k : Nat} {l : List UInt8} (h : Room w g l) (h1 : l.length ≤ k) (h2 : k < l.length + 300) : w.cell? ⟨g, k, none⟩ = some (.int .u8 0) := by
  have h' : Has w g 5 _ := h
  rw [h'.cell, List.getElem?_toArray, List.getElem?_append_right (by rw [bv_length]; exact h1), List.getElem?_replicate, if_pos (by rw [bv_length]; omega)]
theorem room_bs {w : World} {g : Nat} {l : List UInt8} (h : Room w g l) : Bs w 0 w.heap.size (some ⟨g, 0, none⟩) l := by
  have h' : Has w g 5 _ := h
  exact (Has.bs h' h'.lt (fun j hj => by rw [List.getElem?_toArray, List.getElem?_append_left (by rw [bv_length]; exact hj), bv_get l j hj])).more (Nat.zero_le _) (Nat.le_refl _)
theorem bs_own {w : World} {b n c : Nat} {e : TypeId} {A : Option Addr} {l : List UInt8} (h : w.ownsRow b e 1 (.slice A n c) n (bv l)) : Bs w 0 w.heap.size A l := (Bs.of_own h).more (Nat.zero_le _) (Nat.le_refl _)

section
variable {w W W' : World} {T : Tab} {l : List UInt8} {va vb : Value} {R : Nat}
end
end Go.Proofs.YtopcklpmeaghmaaGreatDoor
/- Put of both, on a row of writings: the state, and what a step does with it. -/
namespace Go.Proofs.YtopcklpmeaghmaaGreatDoor
open Go.RowKit

set_option maxHeartbeats 4000000 in
set_option maxRecDepth 100000 in
theorem pdPut_nil (A : Option Addr) (n c t : Nat) (d : Dv) (w : World) :
    Calls Tryz.prog 17 #[.slice A n c, .pointer none, .int .u16 t, d.val] w fun e w' => e = .returned (.tuple #[.slice none 0 0, .int .i64 8]) ∧ Below w.heap.size w w' := by
  unfold Dv.val
  go_enter Tryz.func17, Tryz.ntmps17
  go_wp2
  go_ret2
  exact ⟨rfl, (Below.refl _ _).alloc (Nat.le_refl _) _⟩
set_option maxHeartbeats 4000000 in
set_option maxRecDepth 100000 in
theorem pdPut_no (g n c t : Nat) (A : Option Addr) (d : Dv) (w : World) (hL : LayR w) (hck : ∀ W : World, LayR W → Calls Tryz.prog 8 #[.int .u16 t, .agg d.cells] W fun e w' => e = .returned (.int .i64 40) ∧ Below W.heap.size W w') :
    Calls Tryz.prog 17 #[.slice A n c, .pointer (some ⟨g, 0, none⟩), .int .u16 t, d.val] w fun e w' => e = .returned (.tuple #[.slice none 0 0, .int .i64 40]) ∧ Below w.heap.size w w' := by
  have HCK := Lib.hid hck
  have hX0 : Has (w.alloc (.cells d.cells 27)) w.heap.size 27 d.cells := Has.fresh w _ _
  have hB0 : Below w.heap.size w (w.alloc (.cells d.cells 27)) := (Below.refl _ _).alloc (Nat.le_refl _) _
  have HL0 := Lib.hid (hL.below hB0 (Nat.le_refl _))
  have hi8 : (Tryz.prog.info? 27).map (·.size) = some 8 := by kernel_rfl
  have HI := Lib.hid hi8
  have HX0 := Lib.hid hX0
  have HB0 := Lib.hid hB0
  have hval : d.val = .agg d.cells := rfl
  clear hL hck hi8 hX0 hB0
  go_enter Tryz.func17, Tryz.ntmps17
  go_wp2_with (first
    | (refine wpList_load_row rfl 27 (.tmp 7) rfl w.heap.size rfl 27 d.cells (0, 0) _ HX0.out Tryz.underlying27 rfl HI.out ?_)
    | (go_at_call 8; refine (HCK.out _ HL0.out).mono ?_; rintro e w1 ⟨rfl, B1⟩; replace HB0 := Lib.hid (HB0.out.trans (B1.mono HB0.out.size)); clear B1))
  go_ret2
  exact ⟨rfl, HB0.out⟩
/-- what the parts of data that are as they should be come to. -/
theorem fitAll_at {d : Rd.Dt} {l : List Nat} {k : Nat} (h : Rd.fitAll d l 0 = true) (hk : k < l.length) : Rd.fit (l[k]) d (Rd.nums (l.take k)) = true := by
  have h1 : Rd.fitAll d (l.take (k + 1)) 0 = true := by
    cases hc : Rd.fitAll d (l.take (k + 1)) 0 with
    | true => rfl
    | false =>
      rw [Rd.fitAll_no hc] at h
      cases h
  rw [List.take_succ_eq_append_getElem hk, Rd.fitAll_snoc, Nat.zero_add, Bool.and_eq_true] at h1
  exact h1.2
theorem nm_split {l : List UInt8} (h : Rd.nm l = true) : ∃ ls, Nm.split l = some ls := Option.isSome_iff_exists.1 h
/-- the labels of a text, or none. -/
def lbs (s : ByteArray) : List (List UInt8) := (Nm.split s.data.toList).getD []
theorem lbs_of {s : ByteArray} (h : Rd.nm s.data.toList = true) : Nm.split s.data.toList = some (lbs s) := by
  obtain ⟨ls, e⟩ := nm_split h
  unfold lbs
  rw [e]
  rfl
theorem ok_raw {t : Nat} {d : Rd.Dt} (h : Rd.ok t d = true) : d.raw.length ≤ 65535 := by
  have h1 : Rd.rawOk t d.raw = true := by
    unfold Rd.ok at h
    simp only [Bool.and_eq_true] at h
    exact h.1.1.1.1.1.1.1.1.1
  unfold Rd.rawOk at h1
  split at h1
  · have : d.raw = [] := by simpa using h1
    rw [this]; simp
  split at h1
  · have : d.raw.length = 4 := by simpa using h1
    omega
  split at h1
  · have : d.raw.length = 16 := by simpa using h1
    omega
  split at h1
  · split at h1
    · exact of_decide_eq_true h1
    · cases h1
  · exact of_decide_eq_true h1
theorem ok_host {t : Nat} {d : Dv} (h : Rd.ok t d.dt = true) (ht : Rd.isHost t = true) : Nm.split d.host.data.toList = some (lbs d.host) := by
  unfold Rd.ok at h
  simp only [Bool.and_eq_true] at h
  have h1 := h.1.1.1.1.1.1.1.1.2
  rw [ht] at h1
  exact lbs_of (by simpa [Dv.dt] using h1)
theorem ok_mail {t : Nat} {d : Dv} (h : Rd.ok t d.dt = true) (ht : Rd.isMail t = true) : Nm.split d.mail.data.toList = some (lbs d.mail) := by
  unfold Rd.ok at h
  simp only [Bool.and_eq_true] at h
  have h1 := h.1.1.1.1.1.1.2
  rw [ht] at h1
  exact lbs_of (by simpa [Dv.dt] using h1)
/-- the program's writing, whatever the type. -/
theorem pdPut_any (t : Nat) (d : Dv) (g base : Nat) (mp : Option Nat) (T : Tab) (A : Option Addr) (l : List UInt8) (c : Nat) (w : World) (ht : t ≤ 65535) (hL : LayR w) (hT : Tb w g base mp T) (hb : base ≤ w.heap.size)
    (hr : RdS w (.slice A l.length c) l) (hll : l.length ≤ 140737487000000) (hTl : T.length ≤ 140737480000000) (hf : d.fits) (hr0 : d.raw.size ≤ 8796093022208) (hh0 : d.host.size ≤ 140737488355328) (hm0 : d.mail.size ≤ 140737488355328) (hok : Rd.ok t d.dt = true) :
    Calls Tryz.prog 17 #[.slice A l.length c, .pointer (some ⟨g, 0, none⟩), .int .u16 t, d.val] w fun e W' => ∃ v, e = .returned (.tuple #[v, .int .i64 0]) ∧ PuP w g base w.heap.size T l d (lbs d.host) (lbs d.mail) (Rd.parts t) v W' := by
  have hck : ∀ W : World, LayR W → Calls Tryz.prog 8 #[.int .u16 t, .agg d.cells] W fun e w' => e = .returned (.int .i64 0) ∧ Below W.heap.size W w' := fun W hW => by
    have := pdCheck_any t d W ht hW hf hr0 hh0 hm0
    rw [hok] at this
    exact this
  have hfa : Rd.fitAll d.dt (Rd.parts t) 0 = true := by
    rw [Rd.ok_parts, Bool.and_eq_true] at hok
    exact hok.1
  have hraw := ok_raw hok
  have e : d.dt.raw.length = d.raw.size := by simp [Dv.dt]
  refine pdPut_loop t d g base mp T A l c _ _ w ht hL hT hb hr hll hTl hf hck (by omega) (fun k hk h8 => ?_) (fun k hk h5 => ?_) (fun k hk h7 => ?_)
  · have := fitAll_at hfa hk
    rw [h8] at this
    have h5 : Rd.nums ((Rd.parts t).take (k + 1)) ≤ 5 := Rd.nums_le
    rw [List.take_succ_eq_append_getElem hk, Rd.nums_snoc, h8] at h5
    rw [← rd_hasN2 d (by simp at h5; omega)]
    simpa [Rd.fit] using this
  · have := fitAll_at hfa hk
    refine lbs_of ?_
    rcases h5 with h5 | h5 <;> rw [h5] at this <;> simpa [Rd.fit, Dv.dt] using this
  · have := fitAll_at hfa hk
    refine lbs_of ?_
    rw [h7] at this
    simpa [Rd.fit, Dv.dt] using this
end Go.Proofs.YtopcklpmeaghmaaGreatDoor
/- A row of writings of data by both: the state, and what a step does with it. -/
namespace Go.Proofs.YtopcklpmeaghmaaGreatDoor
open Go.RowKit

theorem RowO.form {W : World} {b : Nat} {v : Value} {l : List UInt8} (h : RowO W b v l) : ∃ A c, v = .slice A l.length c := by
  rcases h with h | ⟨g, cp, rfl, h⟩
  · exact own_form h
  · exact ⟨_, _, rfl⟩
theorem RowO.kept {W W' : World} {b : Nat} {v u : Value} {l : List UInt8} (h : RowO W b v l) (hG : W.grownBy W' u.ownBlock) (ha : Apart v u) : RowO W' b v l := by
  rcases h with h | ⟨g, cp, rfl, h⟩
  · exact .inl (h.kept hG ha.row)
  · exact .inr ⟨g, cp, rfl, h.kept hG (show (Value.slice (some ⟨g, 0, none⟩) l.length cp).ownBlock = none ∨ (Value.slice (some ⟨g, 0, none⟩) l.length cp).ownBlock ≠ u.ownBlock from Apart.row (a := .slice (some ⟨g, 0, none⟩) l.length l.length) ha)⟩
theorem rowo_bs {W : World} {b n c : Nat} {A : Option Addr} {l : List UInt8} (h : RowO W b (.slice A n c) l) : Bs W 0 W.heap.size A l := by
  obtain ⟨A', c', e, _, _, hB⟩ := h.rds
  injection e with e1
  subst e1
  exact hB
theorem RowO.lt {W : World} {b : Nat} {v : Value} {l : List UInt8} (h : RowO W b v l) : ∀ g, v.ownBlock = some g → b ≤ g ∧ g < W.heap.size := by
  rcases h with h | ⟨g, cp, rfl, h⟩
  · exact fun g hg => h.lt g hg
  · exact fun j hj => h.lt j hj
theorem RowO.rg {W W' : World} {g base b : Nat} {v : Value} {l : List UInt8} (h : RowO W b v l) (k : Rg g base W W') {cs : Array Value} (hT : Has W g 87 cs) : RowO W' b v l := by
  rcases h with h | ⟨g, cp, rfl, h⟩
  · exact .inl (k.own hT h (by decide))
  · exact .inr ⟨g, cp, rfl, k.own hT h (by decide)⟩
theorem run_append_zeros_tight {P : Program} (w : World) (base : Nat) (t tn ty e : TypeId) (i : TypeInfo) (ht : P.underlying t = some (.slice e)) (htn : P.underlying tn = some (.int .i64)) (hi : P.info? e = some i) (hz : i.zero = some (.int .u8 0))
    (hsize : i.size = 1) (hby : i.bytes = 1) (g cq n : Nat) (xs : List Value) (hown : w.ownsRow base e 1 (.slice (some ⟨g, 0, none⟩) n cq) n xs) (k : Nat) (h0 : 0 < k) (h63 : n + k ≤ 140737488355328) (hbase : base ≤ w.heap.size) :
    ∃ v' w', (Builtin.append_ #[t, tn] ty #[.slice (some ⟨g, 0, none⟩) n n, .int .i64 k]).run P w = .ok v' w' ∧ w'.ownsRow base e 1 v' (n + k) (xs ++ bv (List.replicate k 0)) ∧ w.grownBy w' none ∧ v'.ownBlock = some w.heap.size := by
  have hzl : (bv (List.replicate k 0)).length = k := by simp [bv]
  have hlen : (xs ++ bv (List.replicate k 0)).length = (n + k) * 1 := by rw [List.length_append, hown.1, hzl]; omega
  have hge := grownCap_ge w (n + k) n e
  have hcm : grownCap w (n + k) n e ≤ maxLen := grownCap_le_maxLen w (n + k) n e (by unfold maxLen; omega)
  have hxl := hown.1
  have hn : k ≠ 0 := by omega
  have hw : IntKind.i64.wrap (k : Int) = k := by rw [IntKind.wrap_i64]; omega
  have h48i : ¬ (281474976710656 < (k : Int)) := by omega
  have hneg : ¬ ((k : Int) < 0) := by omega
  have hfo := run_firstCells_some (P := P) w.drew i.size n ⟨g, 0, none⟩ n n xs (by rw [hsize]; exact hown.1) (by
    intro j u hj
    have := hown.cells (g := g) rfl j u hj
    simpa using this)
  have h63' : ¬ (9223372036854775807 < ((n : Int) + (k : Int))) := by omega
  have hroom : ¬ (n + k ≤ n) := by omega
  have hfit : ¬ (281474976710656 < Builtin.nextslicecap (n + k) n) := by
    have := growslice_fits (need := n + k) (old := n) (bytes := 1) (by omega) (by omega)
    omega
  have hr : (Builtin.append_ #[t, tn] ty #[.slice (some ⟨g, 0, none⟩) n n, .int .i64 k]).run P w = .ok (.slice (some ⟨w.heap.size, 0, none⟩) (n + k) (grownCap w (n + k) n e)) (w.drew.alloc (.cells (xs.toArray ++ Builtin.zeroCells (Value.int .u8 0).cells k ++ Builtin.zeroCells (Value.int .u8 0).cells (grownCap w (n + k) n e - (n + k))) e)) := by
    rw [hsize] at hfo
    simp [Builtin.append_, run_underlying ht, run_underlying htn, sizeOf, typeInfo, zeroValue, hi, hz, asInt, asIntOf, hsize, hby, hw, hn, hneg, h48i, hroom, h63', hfit, Question.forced, hfo, newRow, grownCap]
  refine ⟨_, _, hr, ⟨hlen, .inr ⟨w.heap.size, _, _, rfl, hbase, heap_alloc_new w.drew _, hge, hcm, ?_, ?_⟩⟩, ⟨rfl, rfl, rfl, by simp, fun j hj _ => heap_alloc_old w.drew _ hj⟩, rfl⟩
  · simp only [Array.size_append, List.size_toArray, zeros_cells, List.length_replicate]
    omega
  · rw [zeros_cells, bv_zeros]
    simp only [Array.toList_append]
    have e1 : (n + k) * 1 = (xs ++ List.replicate k (Value.int .u8 0)).length := by rw [List.length_append, hxl, List.length_replicate]; omega
    rw [e1]
    exact List.take_left

section
variable {w W W' : World} {T : Tab} {la lb l : List UInt8} {va vb : Value}
end
/-- the room: bytes, and 600 zeros behind. -/
def Roo6 (w : World) (g : Nat) (l : List UInt8) : Prop := Has w g 5 (bv l ++ List.replicate 600 (Value.int .u8 0)).toArray
theorem roo6_of {w : World} {g : Nat} {l : List UInt8} (h : w.heap[g]? = some (.cells (splice (List.replicate (l.length + 600) (Value.int .u8 0)) 0 (bv l)).toArray 5 (0, 0))) : Roo6 w g l := by
  rw [room_splice] at h
  exact h
theorem roo6_bs {w : World} {g : Nat} {l : List UInt8} (h : Roo6 w g l) : Bs w 0 w.heap.size (some ⟨g, 0, none⟩) l := by
  have h' : Has w g 5 _ := h
  exact (Has.bs h' h'.lt (fun j hj => by rw [List.getElem?_toArray, List.getElem?_append_left (by rw [bv_length]; exact hj), bv_get l j hj])).more (Nat.zero_le _) (Nat.le_refl _)
section
variable {w W W' : World} {T : Tab} {l : List UInt8} {va vb : Value} {R t : Nat} {d : Dv}
/-- data that a writing may be handed. -/
def PdD (t : Nat) (d : Dv) : Prop := t ≤ 65535 ∧ d.fits ∧ d.raw.size ≤ 8796093022208 ∧ d.host.size ≤ 140737488355328 ∧ d.mail.size ≤ 140737488355328
end
end Go.Proofs.YtopcklpmeaghmaaGreatDoor
/- Data as an argument. -/
namespace Go.Proofs.YtopcklpmeaghmaaGreatDoor
open Go.ChangeShapes Go.WideShapes Go.RowKit

theorem wf_u32 {x : Int} (h : (Lit.int .u32 x).wf = true) : ∃ n : Nat, x = n ∧ n ≤ 4294967295 := by
  have h1 : IntKind.u32.min = 0 := rfl
  have h2 : IntKind.u32.max = 4294967295 := rfl
  simp only [Lit.wf, Bool.and_eq_true, decide_eq_true_eq] at h
  exact ⟨x.toNat, by omega, by omega⟩
theorem fits_mk {r h m : ByteArray} {a b c d e : Nat} (ha : a ≤ 4294967295) (hb : b ≤ 4294967295) (hc : c ≤ 4294967295) (hd : d ≤ 4294967295) (he : e ≤ 4294967295) : (Dv.mk r h m a b c d e).fits := fun k => by
  match k with
  | 0 => exact ha
  | 1 => exact hb
  | 2 => exact hc
  | 3 => exact hd
  | _ + 4 => exact he
set_option maxRecDepth 100000 in
/-- data that came in. -/
theorem open_data {H : Type} {enc : TypeId × Value → H} {W : World} {base : Nat} {v : Value} {d : DataW H} {p : List MemPlace} (hval : Value.okWide Tryz.prog W .any base 27 v) (h : DataW.Trod enc Tryz.prog W 0 (fun _ => true) true 27 v d p) :
    ∃ D : Dv, v = D.val ∧ D.fits ∧ D.raw.size + D.host.size + D.mail.size ≤ Rows.uptoBulk d ∧ ((d.weights Tryz.prog 27).all (· ≤ reachBytes) = true → D.raw.size ≤ 140737488351232 ∧ D.host.size ≤ 140737488351232 ∧ D.mail.size ≤ 140737488351232) := by
  obtain ⟨cs, rfl, hsz⟩ := okWide_struct Tryz.underlying27 hval
  have hsz8 : cs.size = 8 := hsz.trans (by kernel_rfl)
  obtain ⟨l⟩ := cs
  match l, hsz8 with
  | [c0, c1, c2, c3, c4, c5, c6, c7], _ =>
    obtain ⟨fuel, hf⟩ := h
    obtain ⟨xs, n, _, hx, _, hlen, hg⟩ := DataW.trod_struct Tryz.underlying27 hf
    match xs, hlen with
    | [y0, y1, y2, y3], _ =>
      simp only [Prod.mk.injEq] at hx
      have k0 : Tryz.prog.cellsOf 9 = 1 := by kernel_rfl
      have k1 : Tryz.prog.cellsOf 23 = 1 := by kernel_rfl
      have k3 : Tryz.prog.cellsOf 25 = 5 := by kernel_rfl
      have k4 : Tryz.prog.cellsOf 24 = 1 := by kernel_rfl
      have g0 : DataW.trod enc Tryz.prog W 0 (fun _ => true) true n 9 (List.take (Tryz.prog.cellsOf 9) [c0, c1, c2, c3, c4, c5, c6, c7]) = some y0 := hg 0 _ rfl
      have g1 : DataW.trod enc Tryz.prog W 0 (fun _ => true) true n 23 (List.take (Tryz.prog.cellsOf 23) [c1, c2, c3, c4, c5, c6, c7]) = some y1 := hg 1 _ rfl
      have g2 : DataW.trod enc Tryz.prog W 0 (fun _ => true) true n 23 (List.take (Tryz.prog.cellsOf 23) [c2, c3, c4, c5, c6, c7]) = some y2 := hg 2 _ rfl
      have g3 : DataW.trod enc Tryz.prog W 0 (fun _ => true) true n 25 (List.take (Tryz.prog.cellsOf 25) [c3, c4, c5, c6, c7]) = some y3 := hg 3 _ rfl
      rw [k0] at g0
      rw [k1] at g1 g2
      rw [k3] at g3
      obtain ⟨s0, e0, rfl, _⟩ := DataW.trod_string Tryz.underlying9 g0
      obtain ⟨s1, e1, rfl, _⟩ := DataW.trod_string Tryz.underlying23 g1
      obtain ⟨s2, e2, rfl, _⟩ := DataW.trod_string Tryz.underlying23 g2
      obtain ⟨zs, m, _, rfl, _, hzl, hz⟩ := DataW.trod_array Tryz.underlying25 g3
      match zs, hzl with
      | [z0, z1, z2, z3, z4], _ =>
        have a0 := hz 0 (by omega)
        have a1 := hz 1 (by omega)
        have a2 := hz 2 (by omega)
        have a3 := hz 3 (by omega)
        have a4 := hz 4 (by omega)
        rw [k4] at a0 a1 a2 a3 a4
        have b0 : DataW.trod enc Tryz.prog W 0 (fun _ => true) true m 24 [c3] = some z0 := a0
        have b1 : DataW.trod enc Tryz.prog W 0 (fun _ => true) true m 24 [c4] = some z1 := a1
        have b2 : DataW.trod enc Tryz.prog W 0 (fun _ => true) true m 24 [c5] = some z2 := a2
        have b3 : DataW.trod enc Tryz.prog W 0 (fun _ => true) true m 24 [c6] = some z3 := a3
        have b4 : DataW.trod enc Tryz.prog W 0 (fun _ => true) true m 24 [c7] = some z4 := a4
        obtain ⟨n0, f0, rfl, w0⟩ := DataW.trod_int Tryz.underlying24 b0
        obtain ⟨n1, f1, rfl, w1⟩ := DataW.trod_int Tryz.underlying24 b1
        obtain ⟨n2, f2, rfl, w2⟩ := DataW.trod_int Tryz.underlying24 b2
        obtain ⟨n3, f3, rfl, w3⟩ := DataW.trod_int Tryz.underlying24 b3
        obtain ⟨n4, f4, rfl, w4⟩ := DataW.trod_int Tryz.underlying24 b4
        obtain ⟨m0, rfl, l0⟩ := wf_u32 w0
        obtain ⟨m1, rfl, l1⟩ := wf_u32 w1
        obtain ⟨m2, rfl, l2⟩ := wf_u32 w2
        obtain ⟨m3, rfl, l3⟩ := wf_u32 w3
        obtain ⟨m4, rfl, l4⟩ := wf_u32 w4
        injection e0 with e0 _
        injection e1 with e1 _
        injection e2 with e2 _
        injection f0 with f0 _
        injection f1 with f1 _
        injection f2 with f2 _
        injection f3 with f3 _
        injection f4 with f4 _
        subst e0 e1 e2 f0 f1 f2 f3 f4
        obtain ⟨rfl, _⟩ := hx
        have q0 : s0.data.toList.length = s0.size := by simp
        have q1 : s1.data.toList.length = s1.size := by simp
        have q2 : s2.data.toList.length = s2.size := by simp
        refine ⟨⟨s0, s1, s2, m0, m1, m2, m3, m4⟩, rfl, fits_mk l0 l1 l2 l3 l4, ?_, fun hw => ?_⟩
        · simp only [List.map_cons, List.map_nil, Rows.uptoBulk, Rows.uptoBulkAll]
          show s0.size + s1.size + s2.size ≤ _
          omega
        · simp only [DataW.weights, Tryz.underlying27, List.map_cons, List.map_nil, DataW.weightsEach, List.all_append, List.all_cons, Bool.and_eq_true, decide_eq_true_eq] at hw
          unfold reachBytes at hw
          show s0.size ≤ _ ∧ s1.size ≤ _ ∧ s2.size ≤ _
          refine ⟨?_, ?_, ?_⟩
          · rw [← q0]; exact hw.1.1
          · rw [← q1]; exact hw.2.1.1
          · rw [← q2]; exact hw.2.2.1.1
end Go.Proofs.YtopcklpmeaghmaaGreatDoor
/- A slice of items that came in, nil or not: each with a number, a type and data. -/
namespace Go.Proofs.YtopcklpmeaghmaaGreatDoor
open Go.ChangeShapes Go.WideShapes Go.Deep Go.RowKit

set_option maxRecDepth 100000 in
/-- the eight cells of data. -/
theorem open_data_at {H : Type} {enc : TypeId × Value → H} {W : World} {fuel : Nat} {c0 c1 c2 c3 c4 c5 c6 c7 : Value} {d : DataW H} {p : List MemPlace} (hf : DataW.trod enc Tryz.prog W 0 (fun _ => true) true fuel 27 [c0, c1, c2, c3, c4, c5, c6, c7] = some (d, p)) :
    ∃ D : Dv, [c0, c1, c2, c3, c4, c5, c6, c7] = D.cells.toList ∧ D.fits ∧ D.raw.size + D.host.size + D.mail.size ≤ Rows.uptoBulk d := by
  obtain ⟨xs, n, _, hx, _, hlen, hg⟩ := DataW.trod_struct Tryz.underlying27 hf
  match xs, hlen with
  | [y0, y1, y2, y3], _ =>
    simp only [Prod.mk.injEq] at hx
    have k0 : Tryz.prog.cellsOf 9 = 1 := by kernel_rfl
    have k1 : Tryz.prog.cellsOf 23 = 1 := by kernel_rfl
    have k3 : Tryz.prog.cellsOf 25 = 5 := by kernel_rfl
    have k4 : Tryz.prog.cellsOf 24 = 1 := by kernel_rfl
    have g0 : DataW.trod enc Tryz.prog W 0 (fun _ => true) true n 9 (List.take (Tryz.prog.cellsOf 9) [c0, c1, c2, c3, c4, c5, c6, c7]) = some y0 := hg 0 _ rfl
    have g1 : DataW.trod enc Tryz.prog W 0 (fun _ => true) true n 23 (List.take (Tryz.prog.cellsOf 23) [c1, c2, c3, c4, c5, c6, c7]) = some y1 := hg 1 _ rfl
    have g2 : DataW.trod enc Tryz.prog W 0 (fun _ => true) true n 23 (List.take (Tryz.prog.cellsOf 23) [c2, c3, c4, c5, c6, c7]) = some y2 := hg 2 _ rfl
    have g3 : DataW.trod enc Tryz.prog W 0 (fun _ => true) true n 25 (List.take (Tryz.prog.cellsOf 25) [c3, c4, c5, c6, c7]) = some y3 := hg 3 _ rfl
    rw [k0] at g0
    rw [k1] at g1 g2
    rw [k3] at g3
    obtain ⟨s0, e0, rfl, _⟩ := DataW.trod_string Tryz.underlying9 g0
    obtain ⟨s1, e1, rfl, _⟩ := DataW.trod_string Tryz.underlying23 g1
    obtain ⟨s2, e2, rfl, _⟩ := DataW.trod_string Tryz.underlying23 g2
    obtain ⟨zs, m, _, rfl, _, hzl, hz⟩ := DataW.trod_array Tryz.underlying25 g3
    match zs, hzl with
    | [z0, z1, z2, z3, z4], _ =>
      have a0 := hz 0 (by omega)
      have a1 := hz 1 (by omega)
      have a2 := hz 2 (by omega)
      have a3 := hz 3 (by omega)
      have a4 := hz 4 (by omega)
      rw [k4] at a0 a1 a2 a3 a4
      have b0 : DataW.trod enc Tryz.prog W 0 (fun _ => true) true m 24 [c3] = some z0 := a0
      have b1 : DataW.trod enc Tryz.prog W 0 (fun _ => true) true m 24 [c4] = some z1 := a1
      have b2 : DataW.trod enc Tryz.prog W 0 (fun _ => true) true m 24 [c5] = some z2 := a2
      have b3 : DataW.trod enc Tryz.prog W 0 (fun _ => true) true m 24 [c6] = some z3 := a3
      have b4 : DataW.trod enc Tryz.prog W 0 (fun _ => true) true m 24 [c7] = some z4 := a4
      obtain ⟨n0, f0, rfl, w0⟩ := DataW.trod_int Tryz.underlying24 b0
      obtain ⟨n1, f1, rfl, w1⟩ := DataW.trod_int Tryz.underlying24 b1
      obtain ⟨n2, f2, rfl, w2⟩ := DataW.trod_int Tryz.underlying24 b2
      obtain ⟨n3, f3, rfl, w3⟩ := DataW.trod_int Tryz.underlying24 b3
      obtain ⟨n4, f4, rfl, w4⟩ := DataW.trod_int Tryz.underlying24 b4
      obtain ⟨m0, rfl, l0⟩ := wf_u32 w0
      obtain ⟨m1, rfl, l1⟩ := wf_u32 w1
      obtain ⟨m2, rfl, l2⟩ := wf_u32 w2
      obtain ⟨m3, rfl, l3⟩ := wf_u32 w3
      obtain ⟨m4, rfl, l4⟩ := wf_u32 w4
      injection e0 with e0 _
      injection e1 with e1 _
      injection e2 with e2 _
      injection f0 with f0 _
      injection f1 with f1 _
      injection f2 with f2 _
      injection f3 with f3 _
      injection f4 with f4 _
      subst e0 e1 e2 f0 f1 f2 f3 f4
      obtain ⟨rfl, _⟩ := hx
      have q0 : s0.data.toList.length = s0.size := by simp
      have q1 : s1.data.toList.length = s1.size := by simp
      have q2 : s2.data.toList.length = s2.size := by simp
      refine ⟨⟨s0, s1, s2, m0, m1, m2, m3, m4⟩, rfl, fits_mk l0 l1 l2 l3 l4, ?_⟩
      simp only [List.map_cons, List.map_nil, Rows.uptoBulk, Rows.uptoBulkAll]
      show s0.size + s1.size + s2.size ≤ _
      omega
structure DIt where
  skip : Int
  ty : Nat
  data : Dv
/-- items that stand from a slice's head on. -/
def DIts (w : World) (hi : Nat) (A : Option Addr) (its : List DIt) : Prop :=
  0 < its.length → ∃ g o, A = some ⟨g, o, none⟩ ∧ g < hi ∧ ∀ j (h : j < its.length), w.cell? ⟨g, o + j * 10, none⟩ = some (.int .i64 its[j].skip) ∧ w.cell? ⟨g, o + j * 10 + 1, none⟩ = some (.int .u16 its[j].ty) ∧ ∀ i, i < 8 → w.cell? ⟨g, o + j * 10 + 2 + i, none⟩ = its[j].data.cells[i]?
theorem DIts.keep {w w' : World} {hi : Nat} {A : Option Addr} {its : List DIt} (h : DIts w hi A its) (hb : Below hi w w') : DIts w' hi A its := fun h0 => by
  obtain ⟨g, o, hA, hg, hc⟩ := h h0
  exact ⟨g, o, hA, hg, fun j hj => ⟨(hb.cell hg).trans (hc j hj).1, (hb.cell hg).trans (hc j hj).2.1, fun i hi => (hb.cell hg).trans ((hc j hj).2.2 i hi)⟩⟩
theorem bulk_in {H : Type} {d : DataW H} : ∀ {x : List (DataW H)}, d ∈ x → Rows.uptoBulk d ≤ Rows.uptoBulkAll x
  | c :: r, hm => by
    rw [Rows.uptoBulkAll]
    rcases List.mem_cons.1 hm with rfl | hm
    · omega
    · have := bulk_in hm
      omega
theorem wf_u16i {x : Int} (h : (Lit.int .u16 x).wf = true) : ∃ n : Nat, x = n ∧ n ≤ 65535 := by
  have h1 : IntKind.u16.min = 0 := rfl
  have h2 : IntKind.u16.max = 65535 := rfl
  simp only [Lit.wf, Bool.and_eq_true, decide_eq_true_eq] at h
  exact ⟨x.toNat, by omega, by omega⟩
end Go.Proofs.YtopcklpmeaghmaaGreatDoor
/- Data that stand one behind the other: what a row of writings leaves. -/
namespace Go.Proofs.YtopcklpmeaghmaaGreatDoor
open Go.RowKit

theorem rd_cond {t : Nat} {d : Dv} (hok : Rd.ok t d.dt = true) (hf : d.fits) : ∀ j (h : j < (Rd.parts t).length), Rd.Cond d.dt (lbs d.host) (lbs d.mail) (Rd.nums ((Rd.parts t).take j)) ((Rd.parts t)[j]'h) := by
  intro j hj
  have hfa : Rd.fitAll d.dt (Rd.parts t) 0 = true := by
    rw [Rd.ok_parts, Bool.and_eq_true] at hok
    exact hok.1
  have hx := fitAll_at hfa hj
  have hn5 : Rd.nums ((Rd.parts t).take (j + 1)) ≤ 5 := Rd.nums_le
  rw [List.take_succ_eq_append_getElem hj, Rd.nums_snoc] at hn5
  have hnum : (Rd.parts t)[j] = 8 ∨ (Rd.parts t)[j] = 9 → Rd.hasN d.dt (Rd.nums ((Rd.parts t).take j)) ≤ 4294967295 := fun h => by
    rw [if_pos h] at hn5
    rw [rd_hasN2 d (by omega)]
    exact hf _
  refine ⟨fun h => ?_, fun h => ?_, fun h => ?_, fun h => ?_⟩
  · have hm : Rd.nm d.host.data.toList = true := by
      rcases h with h | h <;> rw [h] at hx <;> simpa [Rd.fit, Dv.dt] using hx
    obtain ⟨h1, h2, h3⟩ := Nm.split_some.1 (lbs_of hm)
    exact ⟨h2, by rw [← h1]; exact h3⟩
  · have hm : Rd.nm d.mail.data.toList = true := by
      rw [h] at hx
      simpa [Rd.fit, Dv.dt] using hx
    obtain ⟨h1, h2, h3⟩ := Nm.split_some.1 (lbs_of hm)
    exact ⟨h2, by rw [← h1]; exact h3⟩
  · rw [h] at hx
    have : Rd.hasN d.dt (Rd.nums ((Rd.parts t).take j)) ≤ 65535 := by simpa [Rd.fit] using hx
    omega
  · have := hnum (.inr h)
    omega
/-- data that stand one behind the other. -/
def RChain (b : List UInt8) (ps : List Nat) (ks : List DIt) : Prop :=
  ps.length = ks.length + 1 ∧ ∀ j (h : j < ks.length), ∃ q : Nat → Nat, ps[j]? = some (q 0) ∧ ps[j + 1]? = some (q 7) ∧ PdD ks[j].ty ks[j].data ∧ Rd.ok ks[j].ty ks[j].data.dt = true ∧
    Rd.All b ks[j].data.dt (lbs ks[j].data.host) (lbs ks[j].data.mail) (Rd.parts ks[j].ty) q
theorem RChain.nil : RChain [] [0] [] := ⟨rfl, fun j h => absurd h (by simp)⟩
theorem RChain.step {b R : List UInt8} {ats : List Nat} {ks : List DIt} (h : RChain b (ats ++ [b.length]) ks) {it : DIt} (hd : PdD it.ty it.data) (hok : Rd.ok it.ty it.data.dt = true) {q : Nat → Nat} (h0 : q 0 = b.length) (h7 : q 7 = (b ++ R).length)
    (hall : Rd.All (b ++ R) it.data.dt (lbs it.data.host) (lbs it.data.mail) (Rd.parts it.ty) q) :
    RChain (b ++ R) ((ats ++ [b.length]) ++ [(b ++ R).length]) (ks ++ [it]) := by
  obtain ⟨h1, h2⟩ := h
  have hl : ats.length = ks.length := by simp at h1; exact h1
  refine ⟨by rw [List.length_append, h1]; simp, fun j hj => ?_⟩
  rw [List.length_append] at hj
  by_cases hlt : j < ks.length
  · obtain ⟨q', e1, e2, e3, e4, e5⟩ := h2 j hlt
    refine ⟨q', get_front e1 _, get_front e2 _, ?_⟩
    rw [List.getElem_append_left hlt]
    exact ⟨e3, e4, e5.more R⟩
  · obtain rfl : j = ks.length := by simp at hj; omega
    refine ⟨q, ?_, ?_, ?_⟩
    · rw [← hl, h0]; exact get_front (get_snoc ats b.length) _
    · have := get_snoc (ats ++ [b.length]) (b ++ R).length
      have e : (ats ++ [b.length]).length = ks.length + 1 := h1
      rw [e] at this
      rw [h7]
      exact this
    · rw [List.getElem_append_right (Nat.le_refl _)]
      simp only [Nat.sub_self, List.getElem_cons_zero]
      exact ⟨hd, hok, hall⟩
/-- what is known of what was written, apart from memory. -/
def RbP (T : Tab) (b : List UInt8) (ats : List Nat) (ks : List DIt) (i : Nat) : Prop :=
  Pr.Snd b T ∧ RChain b (ats ++ [b.length]) ks ∧ b.length ≤ 500000 * i ∧ T.length ≤ 1400 * i ∧ ks.length ≤ i ∧ ats.length = ks.length
theorem RbP.nil : RbP [] [] [] [] 0 := ⟨Pr.Snd.nil _, RChain.nil, by simp, by simp, by simp, rfl⟩
theorem RbP.skip {T : Tab} {b : List UInt8} {ats : List Nat} {ks : List DIt} {i : Nat} (h : RbP T b ats ks i) : RbP T b ats ks (i + 1) := by
  obtain ⟨h1, h2, h3, h4, h5, h6⟩ := h
  exact ⟨h1, h2, by omega, by omega, by omega, h6⟩
theorem RbP.step {T : Tab} {b : List UInt8} {ats : List Nat} {ks : List DIt} {i : Nat} (h : RbP T b ats ks i) {it : DIt} (hd : PdD it.ty it.data) (hok : Rd.ok it.ty it.data.dt = true)
    (hb : (Rd.wrs T b it.data.dt (lbs it.data.host) (lbs it.data.mail) (Rd.parts it.ty)).2.1.length ≤ b.length + 490000) (hT : (Rd.wrs T b it.data.dt (lbs it.data.host) (lbs it.data.mail) (Rd.parts it.ty)).1.length ≤ T.length + 1400) :
    RbP (Rd.wrs T b it.data.dt (lbs it.data.host) (lbs it.data.mail) (Rd.parts it.ty)).1 (Rd.wrs T b it.data.dt (lbs it.data.host) (lbs it.data.mail) (Rd.parts it.ty)).2.1 (ats ++ [b.length]) (ks ++ [it]) (i + 1) := by
  obtain ⟨h1, h2, h3, h4, h5, h6⟩ := h
  obtain ⟨r1, ⟨R, r2⟩, r3⟩ := Rd.wrs_all (T := T) (l := b) (d := it.data.dt) (hl := lbs it.data.host) (ml := lbs it.data.mail) (Rd.parts_lt it.ty) (rd_cond hok hd.2.1) h1
  have e7 : (Rd.parts it.ty).take 7 = Rd.parts it.ty := List.take_of_length_le (by rw [Rd.parts_len]; omega)
  have p7 : Rd.pos T b it.data.dt (lbs it.data.host) (lbs it.data.mail) (Rd.parts it.ty) 7 = (Rd.wrs T b it.data.dt (lbs it.data.host) (lbs it.data.mail) (Rd.parts it.ty)).2.1.length := by
    unfold Rd.pos; rw [e7]
  have p0 : Rd.pos T b it.data.dt (lbs it.data.host) (lbs it.data.mail) (Rd.parts it.ty) 0 = b.length := rfl
  refine ⟨r1, ?_, by omega, by omega, by simp; omega, by simp; omega⟩
  have hs := h2.step (R := R) hd hok p0 (by rw [p7, r2]) (by rw [← r2]; exact r3)
  rw [r2]
  exact hs
/-- items, cell by cell. -/
def dcs (ks : List DIt) : List Value := ks.flatMap fun it => .int .i64 it.skip :: .int .u16 it.ty :: it.data.cells.toList
theorem dcs_append (x : List DIt) (it : DIt) : dcs (x ++ [it]) = dcs x ++ (.int .i64 it.skip :: .int .u16 it.ty :: it.data.cells.toList) := by simp [dcs]
theorem dcs_at : ∀ (ks : List DIt) (j i : Nat) (h : j < ks.length), i < 10 → (dcs ks)[j * 10 + i]? = (Value.int .i64 (ks[j]'h).skip :: .int .u16 (ks[j]'h).ty :: (ks[j]'h).data.cells.toList)[i]? := by
  intro ks
  induction ks with
  | nil => intro j i h; cases h
  | cons k r ih =>
    intro j i h hi
    have hl : (Value.int .i64 k.skip :: Value.int .u16 k.ty :: k.data.cells.toList).length = 10 := rfl
    have e : dcs (k :: r) = (Value.int .i64 k.skip :: Value.int .u16 k.ty :: k.data.cells.toList) ++ dcs r := rfl
    rw [e]
    cases j with
    | zero =>
      rw [List.getElem?_append_left (by omega)]
      simp
    | succ j =>
      rw [List.getElem?_append_right (by omega), hl, show (j + 1) * 10 + i - 10 = j * 10 + i by omega]
      exact ih j i (by simpa using h) hi
theorem Rg.ownK {W W' : World} {g base : Nat} (h : Rg g base W W') {t e : TypeId} {cs : Array Value} (hT : Has W g t cs) {b n k : Nat} {v : Value} {xs : List Value} (hk : W.ownsRow b e k v n xs) (hte : t ≠ e) : W'.ownsRow b e k v n xs := by
  refine ⟨hk.1, ?_⟩
  rcases hk.2 with h0 | ⟨g2, cap, cur, rfl, hb, hg, rest⟩
  · exact .inl h0
  · refine .inr ⟨g2, cap, cur, rfl, hb, h.same g2 _ (fun e2 => ?_) hg rfl, rest⟩
    subst e2
    rw [show W.heap[g2]? = _ from hT] at hg
    cases hg
    exact hte rfl
theorem own_formK {w : World} {B n k : Nat} {e : TypeId} {v : Value} {xs : List Value} (h : w.ownsRow B e k v n xs) : ∃ ad cp, v = .slice ad n cp := by
  rcases h.2 with ⟨rfl, h0⟩ | ⟨g', cap, cur, rfl, _⟩
  · exact ⟨none, 0, by rw [h0]⟩
  · exact ⟨_, _, rfl⟩
theorem own_apartK {w : World} {b b2 k k2 n n2 : Nat} {e e2 : TypeId} {v v2 : Value} {xs ys : List Value} (h : w.ownsRow b e k v n xs) (h2 : w.ownsRow b2 e2 k2 v2 n2 ys) (hne : e2 ≠ e) : v2.ownBlock = none ∨ v2.ownBlock ≠ v.ownBlock := by
  rcases h2.2 with ⟨rfl, _⟩ | ⟨g2, cap2, cur2, rfl, _, hg2, _⟩
  · exact .inl rfl
  · rcases h.2 with ⟨rfl, _⟩ | ⟨g, cap, cur, rfl, _, hg, _⟩
    · exact .inr (by simp [Value.ownBlock])
    · refine .inr fun e' => ?_
      obtain rfl : g2 = g := by simpa [Value.ownBlock] using e'
      rw [hg] at hg2
      cases hg2
      exact hne rfl
theorem own_stillK {w w' : World} {b b2 k k2 n n2 : Nat} {e e2 : TypeId} {v v2 : Value} {xs ys : List Value} (h : w.ownsRow b e k v n xs) (h2 : w.ownsRow b2 e2 k2 v2 n2 ys) (hne : e2 ≠ e) (hg : w.grownBy w' v.ownBlock) : w'.ownsRow b2 e2 k2 v2 n2 ys := h2.kept hg (own_apartK h h2 hne)
theorem has_not_ownK {w : World} {g b n k : Nat} {t e : TypeId} {cs : Array Value} {v : Value} {xs : List Value} (h : Has w g t cs) (ho : w.ownsRow b e k v n xs) (hte : t ≠ e) : some g ≠ v.ownBlock := by
  rcases ho.2 with ⟨rfl, _⟩ | ⟨g', cap, cur, rfl, _, hgb, _⟩
  · simp [Value.ownBlock]
  · intro e'
    obtain rfl : g = g' := by simpa [Value.ownBlock] using e'
    rw [show w.heap[g]? = _ from h] at hgb
    cases hgb
    exact hte rfl
theorem Tb.stillK {W W' : World} {g base b n k : Nat} {e : TypeId} {mp : Option Nat} {t : Tab} {v : Value} {xs : List Value} (h : Tb W g base mp t) (ho : W.ownsRow b e k v n xs) (he : 87 ≠ e) (hg : W.grownBy W' v.ownBlock) : Tb W' g base mp t := by
  refine h.grown hg (has_not_ownK h.2.1 ho he) (fun r hr o hro => ?_)
  rcases ho.2 with ⟨rfl, _⟩ | ⟨g2, cap, cur, rfl, _, hgb, _⟩
  · simp [Value.ownBlock] at hr
  · have : g2 = r := by simpa [Value.ownBlock] using hr
    subst this
    rw [hgb] at hro
    cases hro
    rfl
theorem RowO.stillK {w w' : World} {b b2 k n : Nat} {e : TypeId} {v v2 : Value} {xs : List Value} {l : List UInt8} (h : w.ownsRow b e k v n xs) (h2 : RowO w b2 v2 l) (hne : 5 ≠ e) (hg : w.grownBy w' v.ownBlock) : RowO w' b2 v2 l := by
  rcases h2 with h2 | ⟨g, cp, rfl, h2⟩
  · exact .inl (own_stillK h h2 hne hg)
  · exact .inr ⟨g, cp, rfl, own_stillK h h2 hne hg⟩
section
variable {w W W' : World} {T : Tab} {b : List UInt8} {ats : List Nat} {ks : List DIt} {vb vat vk : Value}
end
end Go.Proofs.YtopcklpmeaghmaaGreatDoor
