/- Texts of the proofs, merged. -/
import Derived.Test.YtgcaephfhfkjcaaGreatDoorZm19
import Derived.BigQuiet
import Derived.Test.YtgcaephfhfkjcaaGreatDoorZm23
namespace Go.Proofs.YtgcaephfhfkjcaaGreatDoor
open Go.RowKit

theorem rd_quiet {P : Program} {f : FuncId} {args : Array Value} {w : World} {n : Nat} {v : Value} (h : Calls P f args (w.drewN n) fun e w' => e = .returned v ∧ w.drewN n = w') :
    Calls P f args (w.drewN n) fun e w'' => e = .returned v ∧ ∃ m, w'' = w.drewN m := h.mono fun _ _ ⟨he, hw⟩ => ⟨he, n, hw.symm⟩
namespace Rd
def pair (s : By) (j : Nat) : Nat := 256 * (s[2 * j]?.getD 0).toNat + (s[2 * j + 1]?.getD 0).toNat
def pairs (s : By) (k : Nat) : By := (List.range k).flatMap fun j => 58 :: hex (pair s j)
theorem pairs_succ (s : By) (k : Nat) : pairs s (k + 1) = (pairs s k ++ [58]) ++ hex (pair s k) := by
  unfold pairs
  rw [List.range_succ, List.flatMap_append]
  simp
end Rd
theorem get_opt {s : ByteArray} {i : Nat} (h : i < s.size) : (s.data.toList[i]?.getD 0) = s[i] := by
  rw [List.getElem?_eq_getElem (by simpa using h)]
  rfl
set_option maxHeartbeats 2000000 in
set_option maxRecDepth 100000 in
theorem rdShow_AAAA (d : Dv) (w : World) (hraw : d.raw.size = 16) (hck : ∀ W : World, Calls Tryz.prog 74 #[.int .u16 28, d.val] W fun e w' => e = .returned (.int .i64 0) ∧ Below W.heap.size W w') :
    Calls Tryz.prog 47 #[.int .u16 28, d.val] w fun e w' => e = .returned (.tuple #[sv ((Rd.pairs d.raw.data.toList 8).drop 1), .int .i64 0]) ∧ Below w.heap.size w w' := by
  have hr1 : 16 ≤ d.raw.size := by omega
  have hr2 : d.raw.size ≤ 16 := by omega
  have HCK := Lib.hid hck
  have HNM : Hid (∀ W : World, Calls Tryz.prog 56 #[.int .u16 28] W fun e w' => e = .returned (.tuple #[.bool false, .bool false]) ∧ W = w') := fun W => rdNames_any 28 W (by omega)
  have HNU : Hid (∀ W : World, Calls Tryz.prog 75 #[.int .u16 28] W fun e w' => e = .returned (.tuple #[.int .i64 0, .int .i64 0]) ∧ W = w') := fun W => rdNumbers_any 28 W (by omega)
  have HX0 : Hid (Has (w.alloc (.cells d.cells 34)) w.heap.size 34 d.cells) := Has.fresh w _ _
  have HB0 : Hid (Below w.heap.size w (w.alloc (.cells d.cells 34))) := (Below.refl _ w).alloc (Nat.le_refl _) _
  obtain ⟨R, hR⟩ : ∃ R, (Rd.pairs d.raw.data.toList 8).drop 1 = R := ⟨_, rfl⟩
  rw [hR]
  have HRR := Lib.hid hR
  clear hck hraw hR
  unfold Dv.val at HCK ⊢
  unfold Dv.cells at HX0 HB0
  go_enter Tryz.func47, Tryz.ntmps47
  go_wp2_with (first
    | (go_at_call 74; refine (HCK.out _).mono ?_; rintro e' w1 ⟨rfl, B1⟩; have HX : Hid (Has w1 w.heap.size 34 d.cells) := HX0.out.below B1 HX0.out.lt; have HB := Lib.hid (HB0.out.trans (B1.mono HB0.out.size)); clear B1)
    | (go_at_call 56; refine (HNM.out _).mono ?_; rintro e' w2 ⟨rfl, rfl⟩)
    | (go_at_call 75; refine (HNU.out _).mono ?_; rintro e' w3 ⟨rfl, rfl⟩))
  go_loopw [10, 12] (fun s i wr => ∃ (k j : Nat) (r : List UInt8), i = .int .i64 j ∧ Hid (j = 2 * k) ∧ j ≤ 16 ∧ k ≤ 8 ∧ s = sv r ∧ Hid (r = Rd.pairs d.raw.data.toList k) ∧ r.length ≤ 70000 * k ∧ Hid (Has wr w.heap.size 34 d.cells) ∧ Hid (Below w.heap.size w wr)) (fun _ i _ => 16 - (intOf i).toNat)
  case atStart => exact ⟨0, 0, [], rfl, rfl, Nat.zero_le _, Nat.zero_le _, rfl, rfl, by simp, HX.out, HB.out⟩
  case round =>
    obtain ⟨k, j, r, rfl, HJ, hj16, hk, rfl, HE, hrl, HX, HB⟩ := hrel
    have hsw := HB.out.size
    have c0 := dv_raw HX.out
    by_cases hj : j < 16
    · have hj2 := HJ.out
      have hk8 : k < 8 := by omega
      have hka : j < d.raw.size := by omega
      have hkb : j + 1 < d.raw.size := by omega
      have h8a : (d.raw[j]'hka).toNat < 256 := (d.raw[j]'hka).toNat_lt
      have h8b : (d.raw[j + 1]'hkb).toNat < 256 := (d.raw[j + 1]'hkb).toNat_lt
      have hp : Rd.pair d.raw.data.toList k = 256 * (d.raw[j]'hka).toNat + (d.raw[j + 1]'hkb).toNat := by unfold Rd.pair; rw [← hj2, get_opt hka, get_opt hkb]
      have hpl : Rd.pair d.raw.data.toList k ≤ 65535 := by omega
      have hsm := fun W : World => rdSmall_any (Rd.pair d.raw.data.toList k) W hpl
      have hdl := Rd.hex_len (Rd.pair d.raw.data.toList k)
      have HE2 : Hid ((r ++ [58]) ++ Rd.hex (Rd.pair d.raw.data.toList k) = Rd.pairs d.raw.data.toList (k + 1)) := by
        show _ = _
        rw [Rd.pairs_succ, HE.out]
      rw [show ((Rd.pair d.raw.data.toList k : Nat) : Int) = 256 * ((d.raw[j]'hka).toNat : Int) + ((d.raw[j + 1]'hkb).toNat : Int) from by rw [hp]; omega] at hsm
      obtain ⟨x, hx⟩ : ∃ x, Rd.hex (Rd.pair d.raw.data.toList k) = x := ⟨_, rfl⟩
      have hxl : x.length ≤ 65536 := by rw [← hx]; omega
      rw [hx] at hsm HE2
      have HS := Lib.hid hsm
      have w1x : IntKind.i64.wrap (256 * ((d.raw[j]'hka).toNat : Int)) = 256 * ((d.raw[j]'hka).toNat : Int) := IntWalk.i64_in _ (by omega)
      have w2x : IntKind.i64.wrap (256 * ((d.raw[j]'hka).toNat : Int) + ((d.raw[j + 1]'hkb).toNat : Int)) = 256 * ((d.raw[j]'hka).toNat : Int) + ((d.raw[j + 1]'hkb).toNat : Int) := IntWalk.i64_in _ (by omega)
      have w3x : IntKind.i64.wrap ((j : Int) + 1) = (j : Int) + 1 := IntWalk.i64_in _ (by omega)
      have a1 : ¬ 9223372036854775807 < r.length + 1 := by omega
      have b1 : ((j : Int) + 1).toNat = j + 1 := by omega
      have b2 : (j : Int) + 1 < (d.raw.size : Int) := by omega
      have b3 : ¬ ((j : Int) + 1 < 0) := by omega
      have b4 : (0 : Int) ≤ (j : Int) + 1 := by omega
      have a2 : ¬ 9223372036854775807 < r.length + 1 + x.length := by omega
      have a3 : r.length + 1 ≤ 9223372036854775807 := by omega
      have a4 : r.length + 1 + x.length ≤ 9223372036854775807 := by omega
      have a5 : ¬ 9223372036854775807 < (r.length : Int) + 1 := by omega
      have a6 : ¬ 9223372036854775807 < (r.length : Int) + 1 + x.length := by omega
      clear hx hsm hp hdl hpl hj2
      go_wp2
      go_quiet ((go_at_call 77; exact rd_quiet (HS.out _)))
      go_wp2
      go_roundw
      case rel => exact ⟨k + 1, j + 2, (r ++ [58]) ++ x, by go_num, by have := HJ.out; show _ = _; omega, by have := HJ.out; omega, by omega, sv_eq (by simp), HE2.out, by simp; omega, HX.out, below_drewN HB.out _⟩
      case measure => simp [intOf]; omega
    · obtain rfl : j = 16 := by omega
      obtain rfl : k = 8 := by have := HJ.out; omega
      have hpos : 0 < r.length := by
        rw [HE.out, Rd.pairs_succ]
        simp
        omega
      have HF : Hid (R = r.drop 1) := by rw [← HRR.out]; show _ = _; rw [HE.out]
      go_wp2
      go_ret2
      exact ⟨by rw [HF.out, ← sv_eq (ext_tail r)]; rfl, HB.out⟩
end Go.Proofs.YtgcaephfhfkjcaaGreatDoor
namespace Go.Proofs.YtgcaephfhfkjcaaGreatDoor
open Go.RowKit

namespace Rd
theorem pair_lt (s : By) (j : Nat) : pair s j ≤ 65535 := by
  unfold pair
  have h1 := (s[2 * j]?.getD 0).toNat_lt
  have h2 := (s[2 * j + 1]?.getD 0).toNat_lt
  omega
theorem pair_num {l : By} {j : Nat} (h : 2 * j + 1 < l.length) : Oc.num ((l.drop (2 * j)).take 2) = pair l j := by
  rw [List.drop_eq_getElem_cons (by omega : 2 * j < l.length), List.drop_eq_getElem_cons h, List.take_succ_cons, List.take_succ_cons, List.take_zero]
  unfold pair
  rw [List.getElem?_eq_getElem h, List.getElem?_eq_getElem (by omega : 2 * j < l.length)]
  simp [Oc.num]
  omega
/-- the first groups. -/
def gw (l : By) (j : Nat) : List By := (List.range j).map fun i => hex (pair l i)
theorem gw_succ (l : By) (j : Nat) : gw l (j + 1) = gw l j ++ [hex (pair l j)] := by
  unfold gw
  rw [List.range_succ, List.map_append]
  rfl
theorem gw_join (l : By) (j : Nat) : Lib.join (gw l j) [58] = (pairs l j).drop 1 := join_flat _ _ _
theorem gw_len (l : By) (j : Nat) : ∀ x ∈ gw l j, x.length ≤ 65536 := by
  intro x hx
  obtain ⟨i, _, rfl⟩ := List.mem_map.1 hx
  have h1 := hex_len (pair l i)
  have h2 := pair_lt l i
  omega
end Rd
set_option maxHeartbeats 600000 in
set_option maxRecDepth 100000 in
theorem grouped_any (s : ByteArray) (hsz : s.size = 16) (hf : ∀ (u : Nat) (W : World), u ≤ 65535 → LayA W → Calls Tryz.prog 43 #[.int .u64 u, .int .i64 16] W fun e w' => e = .returned (sv (Rd.hex u)) ∧ Below W.heap.size W w') :
    OneW 68 s ((Rd.pairs s.data.toList 8).drop 1) := by
  intro w hLA
  obtain ⟨i0, hi, hz0, hz1, hz2⟩ := info_parts Tryz.infoString
  obtain ⟨l, hl⟩ : ∃ l, s.data.toList = l := ⟨_, rfl⟩
  have hlen : s.size = l.length := by rw [← hl]; simp
  have hl16 : l.length = 16 := by omega
  rw [hl, ← Rd.gw_join]
  have hjl := join_len (s := [58]) (Rd.gw l 8) (Rd.gw_len l 8)
  have hnl : (Rd.gw l 8).length = 8 := by simp [Rd.gw]
  have hj1 : (Lib.join (Rd.gw l 8) [58]).length ≤ 140737488355328 := by
    rw [hnl, show ([58] : List UInt8).length = 1 from rfl] at hjl
    omega
  obtain ⟨R, hR⟩ : ∃ R, Lib.join (Rd.gw l 8) [58] = R := ⟨_, rfl⟩
  rw [hR]
  have HRES := Lib.hid hR
  have HJ1 := Lib.hid hj1
  have HL := Lib.hid hl
  have HLA := Lib.hid hLA
  have HF := Lib.hid hf
  have HN8 := Lib.hid hnl
  clear hl hR hLA hjl hj1 hf hnl
  go_enter Tryz.func68, Tryz.ntmps68
  go_wp2_with (refine wpList_convert_text rfl 9 56 (.tmp 9) rfl 5 Tryz.underlying9 Tryz.underlying56 Tryz.underlying5 s rfl ?_; intro c w1 hc hb1 hB1 hz; rw [HL.out] at hb1; have HBS := Lib.hid hb1; have HB1 := Lib.hid hB1; have HZ := Lib.hid hz; clear hb1 hB1 hz)
  have hwl : w.heap.size + 1 = w1.heap.size := HZ.out.symm
  have HFU := Lib.hid (fun (u : Nat) (W : World) (hu : u ≤ 65535) (hb : Below w1.heap.size w1 W) => HF.out u W hu ((HLA.out.below HB1.out (Nat.le_refl _)).below hb (by omega)))
  have HTK := Lib.hid (fun (j : Nat) (W : World) (hj : 2 * j + 2 ≤ l.length) (hb : Below w1.heap.size w1 W) => take_u16_ok _ l c (2 * j) W (by omega) (by omega) w.heap.size (w.heap.size + 1) (HBS.out.keep (hb.mono (by omega))) hj)
  go_loopw [3, 5] (fun v i wr => ∃ k : Nat, i = .int .i64 ((2 * k : Nat) : Int) ∧ k ≤ 8 ∧ Hid (wr.ownsRow w1.heap.size 9 1 v k (svs (Rd.gw l k))) ∧ Hid (Below w1.heap.size w1 wr)) (fun _ i _ => 16 - (intOf i).toNat)
  case atStart => exact ⟨0, rfl, Nat.zero_le _, World.ownsRow_nil _ _ _ _, Below.refl _ _⟩
  case round =>
    obtain ⟨k, rfl, hk, HO, HB⟩ := hrel
    have hbs := HB.out.size
    by_cases hlt : k < 8
    · have htk := HTK.out k wr (by omega) HB.out
      rw [Rd.pair_num (by omega), hl16] at htk
      have HT := Lib.hid htk
      clear htk
      have hpl := Rd.pair_lt l k
      have HGW := Lib.hid (Rd.gw_succ l k)
      obtain ⟨ad, cp, hv⟩ := own_form HO.out
      subst hv
      generalize Rd.pair l k = u at *
      go_wp2_with (first
        | (go_at_call 102; refine HT.out.mono ?_; rintro e w2 ⟨rfl, rfl⟩)
        | (go_at_call 43; refine (HFU.out u _ hpl HB.out).mono ?_; rintro e w2 ⟨rfl, B2⟩; have HB2 := Lib.hid (HB.out.trans (B2.mono hbs)); have HO2 := Lib.hid (own_below HO.out B2 (Nat.le_refl _)); have hs2 := B2.size; clear B2)
        | (at_builtin; refine wpList_append_own _ rfl (.tmp 24) (.tmp 28) _ rfl w1.heap.size 9 i0 _ 1 16 Tryz.underlying70 hi hz0 hz1 hz2 rfl (by decide) _ _ (svs (Rd.gw l k)) rfl (HO2.out.alloc _) ⟨w2.heap.size, 0, none⟩ 1 1 [sv (Rd.hex u)] rfl rfl ?c1 ?c2 ?c3 ?c4 ?c5 (fun v' w4 hown1 hg1 _ => ?_)))
      case c1 => exact cell_one_new _ _ _
      case c2 => simp [Value.oneCell']
      case c3 => unfold maxLen; omega
      case c4 => omega
      case c5 => simp; omega
      go_roundw
      case rel => exact ⟨k + 1, by go_num, by omega, by rw [HGW.out, svs_append]; exact hown1, (HB2.out.alloc (by omega) _).grown hg1 (by simp; omega) (fun j hj => (HO2.out.lt j hj).1)⟩
      case measure => simp [intOf]; omega
    · obtain rfl : k = 8 := by omega
      have HO' := HO.out
      obtain ⟨g, cp, rfl, hcp, hg1, hg2⟩ := own_pos HO' (by omega)
      have HC' := (join_by (sep := ⟨#[58]⟩) (ss := [58]) (cp := cp) rfl (by rw [HN8.out]; exact HO') hg2 (by rw [HN8.out]; exact hcp) (by rw [HN8.out]; omega) HJ1.out)
      rw [HRES.out, HN8.out] at HC'
      have HC := Lib.hid HC'
      clear HO HO' HC'
      go_wp2_with (go_at_call 38; refine HC.out.mono ?_; rintro e w5 ⟨rfl, B5⟩)
      go_ret
      exact ⟨rfl, HB1.out.trans ((HB.out.trans (B5.mono hbs)).mono (by omega))⟩
end Go.Proofs.YtgcaephfhfkjcaaGreatDoor
namespace Go.Proofs.YtgcaephfhfkjcaaGreatDoor
open Go.RowKit

namespace Rd
/-- the numbers, each behind a blank. -/
def numw (d : Dv) (k : Nat) : By := (List.range k).flatMap fun j => 32 :: dec (d.n j)
theorem numw_succ (d : Dv) (k : Nat) : numw d (k + 1) = (numw d k ++ [32]) ++ dec (d.n k) := by
  unfold numw
  rw [List.range_succ, List.flatMap_append]
  simp
theorem dec_len2 : ∀ n : Nat, n ≤ 4294967295 → (dec n).length ≤ 10 := by
  have step : ∀ (b n : Nat), n < 10 ^ (b + 1) → (dec n).length ≤ b + 1 := by
    intro b
    induction b with
    | zero => intro n h; rw [dec_small (by omega)]; simp
    | succ b ih =>
      intro n h
      by_cases hs : n < 10
      · rw [dec_small hs]; simp
      · rw [dec_more hs]
        have := ih (n / 10) (by rw [Nat.pow_succ] at h; omega)
        simp
        omega
  intro n h
  exact step 9 n (by omega)
end Rd
set_option maxHeartbeats 2000000 in
set_option maxRecDepth 100000 in
theorem rdShow_host (t : Nat) (d : Dv) (X : List UInt8) (w : World) (ht : t ≤ 65535) (hf : d.fits) (hh : Rd.isHost t = true) (hm : Rd.isMail t = false) (hX : X.length ≤ 100000) (htx : ∀ W : World, Calls Tryz.prog 27 #[.string d.host] W fun e w' => e = .returned (sv X) ∧ Below W.heap.size W w') (k1 : ((t : Int) == 1) = false) (k28 : ((t : Int) == 28) = false) (k16 : ((t : Int) == 16) = false) (hck : ∀ W : World, Calls Tryz.prog 74 #[.int .u16 t, d.val] W fun e w' => e = .returned (.int .i64 0) ∧ Below W.heap.size W w') :
    Calls Tryz.prog 47 #[.int .u16 t, d.val] w fun e w' => e = .returned (.tuple #[sv ((Rd.numw d (Rd.cnt t) ++ 32 :: X).drop 1), .int .i64 0]) ∧ Below w.heap.size w w' := by
  have HCK := Lib.hid hck
  have HTX := Lib.hid htx
  have HFT := Lib.hid hf
  have hc5 := Rd.cnt_le t
  obtain ⟨cn, hcn⟩ : ∃ cn, Rd.cnt t = cn := ⟨_, rfl⟩
  obtain ⟨bt, hbt⟩ : ∃ bt, Rd.bits t = bt := ⟨_, rfl⟩
  have HNM := Lib.hid (fun W : World => rdNames_any t W ht)
  have HNU := Lib.hid (fun W : World => rdNumbers_any t W ht)
  rw [hh, hm] at HNM
  rw [hcn, hbt] at HNU
  rw [hcn] at hc5 ⊢
  have HX0 : Hid (Has (w.alloc (.cells d.cells 34)) w.heap.size 34 d.cells) := Has.fresh w _ _
  have HB0 : Hid (Below w.heap.size w (w.alloc (.cells d.cells 34))) := (Below.refl _ w).alloc (Nat.le_refl _) _
  obtain ⟨R, hR⟩ : ∃ R, (Rd.numw d cn ++ 32 :: X).drop 1 = R := ⟨_, rfl⟩
  rw [hR]
  have HRR := Lib.hid hR
  clear hck hR hh hm hcn hbt htx hf
  unfold Dv.val at HCK ⊢
  unfold Dv.cells at HX0 HB0
  go_enter Tryz.func47, Tryz.ntmps47
  go_wp2_with (first
    | (go_at_call 74; refine (HCK.out _).mono ?_; rintro e' w1 ⟨rfl, B1⟩; have HX : Hid (Has w1 w.heap.size 34 d.cells) := HX0.out.below B1 HX0.out.lt; have HB := Lib.hid (HB0.out.trans (B1.mono HB0.out.size)); clear B1)
    | (go_at_call 56; refine (HNM.out _).mono ?_; rintro e' w2 ⟨rfl, rfl⟩)
    | (go_at_call 75; refine (HNU.out _).mono ?_; rintro e' w3 ⟨rfl, rfl⟩))
  go_loopw [10, 18] (fun s i wr => ∃ (k : Nat) (r : List UInt8), i = .int .i64 k ∧ k ≤ cn ∧ s = sv r ∧ Hid (r = Rd.numw d k) ∧ r.length ≤ 11 * k ∧ Hid (Has wr w.heap.size 34 d.cells) ∧ Hid (Below w.heap.size w wr)) (fun _ i _ => cn - (intOf i).toNat)
  case atStart => exact ⟨0, [], rfl, Nat.zero_le _, rfl, rfl, by simp, HX.out, HB.out⟩
  case round =>
    obtain ⟨k, r, rfl, hk, rfl, HE, hrl, HX, HB⟩ := hrel
    have hsw := HB.out.size
    by_cases hkc : k < cn
    · have c0 := dv_n HX.out (k := k) (by omega)
      have hnk := HFT.out k
      have HD := Lib.hid (fun W : World => rdDigits_any (d.n k) W (by omega))
      have hdl := Rd.dec_len2 (d.n k) hnk
      have HE2 : Hid ((r ++ [32]) ++ Rd.dec (d.n k) = Rd.numw d (k + 1)) := by
        show _ = _
        rw [Rd.numw_succ, HE.out]
      obtain ⟨x, hx⟩ : ∃ x, Rd.dec (d.n k) = x := ⟨_, rfl⟩
      obtain ⟨y, hy⟩ : ∃ y, d.n k = y := ⟨_, rfl⟩
      rw [hx] at HD HE2 hdl
      rw [hy] at HD c0 hnk
      clear hx hy
      go_wp2_with (go_at_call 76; refine (HD.out _).mono ?_; rintro e' w5 ⟨rfl, B5⟩; have HX5 := Lib.hid (HX.out.below B5 HX.out.lt); have HB5 := Lib.hid (HB.out.trans (B5.mono hsw)); clear B5)
      go_roundw
      case rel => exact ⟨k + 1, (r ++ [32]) ++ x, by go_num, by omega, sv_eq (by simp), HE2.out, by simp; omega, HX5.out, HB5.out⟩
      case measure => simp [intOf]; omega
    · obtain rfl : k = cn := by omega
      have c0 := dv_host HX.out
      have HF : Hid (R = ((r ++ [32]) ++ X).drop 1) := by
        rw [← HRR.out]
        show _ = _
        rw [HE.out, List.append_assoc]
        rfl
      obtain ⟨q, hq⟩ : ∃ q, (r ++ [32]) ++ X = q := ⟨_, rfl⟩
      have hql : 0 < q.length := by rw [← hq]; simp; omega
      have hqe : (({ data := r.toArray } : ByteArray) ++ { data := #[32] } ++ { data := X.toArray }) = ⟨q.toArray⟩ := by
        rw [← hq]
        exact string_eq (by simp)
      rw [hq] at HF
      clear hq
      go_wp2_with (go_at_call 27; refine (HTX.out _).mono ?_; rintro e' w5 ⟨rfl, B5⟩; have HB5 := Lib.hid (HB.out.trans (B5.mono hsw)); clear B5)
      go_ret2
      exact ⟨by rw [HF.out, ← sv_eq (ext_tail q)]; rfl, HB5.out⟩
end Go.Proofs.YtgcaephfhfkjcaaGreatDoor
