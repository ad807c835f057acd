/- Texts of the proofs, merged. -/
import Derived.Test.YtgcaephfhfkjcaaGreatDoorZh21
import Derived.Test.YtgcaephfhfkjcaaGreatDoorZh23
import Derived.Test.YtgcaephfhfkjcaaGreatDoorZh8
namespace Go.Proofs.YtgcaephfhfkjcaaGreatDoor
open Go.RowKit

theorem split_any (s : List UInt8) (b : UInt8) (w : World) (hs : s.length < 4294967281) (hm : ∃ m : Int, w.cell? ⟨2, 0, none⟩ = some (.int .i64 m)) :
    Calls Tryz.prog 165 #[sv s, .string ⟨#[b]⟩] w fun e w' => e = .returned (.slice (some ⟨w.heap.size, 0, none⟩) (Rd.splitB b s).length (Rd.splitB b s).length) ∧ w' = w.alloc (.cells (svs (Rd.splitB b s)).toArray 9) := by
  obtain ⟨m, hm⟩ := hm
  have hl := Rd.split_lib ⟨s.toArray⟩ b
  have hn := Lib.splitB_all ⟨#[b]⟩ (Nat.le_refl 1) 0 _ ⟨s.toArray⟩ rfl
  have e1 : Lib.countB ⟨s.toArray⟩ ⟨#[b]⟩ + 1 = (Rd.splitB b s).length := by
    rw [← hn, ← List.length_map (f := fun x : ByteArray => x.data.toList), hl]
  have e2 : (Lib.splitB ⟨#[b]⟩ 0 (Lib.countB ⟨s.toArray⟩ ⟨#[b]⟩) ⟨s.toArray⟩).map Value.string = svs (Rd.splitB b s) := by
    have : Rd.splitB b s = (Lib.splitB ⟨#[b]⟩ 0 (Lib.countB ⟨s.toArray⟩ ⟨#[b]⟩) ⟨s.toArray⟩).map (·.data.toList) := by rw [hl]
    rw [this, svs, List.map_map]
    congr 1
  have H := Tryz.strings_Split ⟨s.toArray⟩ ⟨#[b]⟩ m w (by simpa [ByteArray.size] using hs) hm (Nat.le_refl 1)
  rw [e1, e2] at H
  exact H
theorem Rd.splitB_len {b : UInt8} : ∀ {s p : List UInt8}, p ∈ Rd.splitB b s → p.length ≤ s.length
  | [], p, h => by
    have : p = [] := by simpa [Rd.splitB] using h
    rw [this]
    simp
  | c :: r, p, h => by
    rw [Rd.splitB] at h
    split at h
    · rcases List.mem_cons.1 h with rfl | h
      · simp
      · have := Rd.splitB_len h
        rw [List.length_cons]; omega
    · split at h
      · rename_i e
        have : p = [c] := by simpa using h
        rw [this]; simp
      · rename_i q qs e
        rcases List.mem_cons.1 h with rfl | h
        · have := Rd.splitB_len (b := b) (s := r) (p := q) (by rw [e]; simp)
          rw [List.length_cons, List.length_cons]; omega
        · have := Rd.splitB_len (b := b) (s := r) (p := p) (by rw [e]; exact List.mem_cons_of_mem _ h)
          rw [List.length_cons]; omega
/-- four bytes, as they are written. -/
def r4 (out : List UInt8) : Array Value := (bv out ++ List.replicate (4 - out.length) (Value.int .u8 0)).toArray
theorem r4_set (out : List UInt8) (c : UInt8) (h : out.length < 4) : (r4 out).setIfInBounds out.length (.int .u8 (c.toNat : Int)) = r4 (out ++ [c]) := by
  unfold r4
  have e : 4 - out.length = (4 - (out ++ [c]).length) + 1 := by simp; omega
  rw [List.setIfInBounds_toArray, List.set_append_right _ _ (by simp [bv]), bv_length, Nat.sub_self, e, List.replicate_succ, List.set_cons_zero]
  simp [bv]
theorem r4_at (out : List UInt8) (h : out.length < 4) : (r4 out)[out.length]? = some (.int .u8 0) := by
  unfold r4
  rw [List.getElem?_toArray, List.getElem?_append_right (by simp [bv]), bv_length, Nat.sub_self, List.getElem?_replicate, if_pos (by omega)]
theorem Rd.allM_at {f : List UInt8 → Option Nat} : ∀ {l : List (List UInt8)} {vs : List Nat}, Rd.allM f l = some vs → vs.length = l.length ∧ ∀ j (h : j < l.length) (h2 : j < vs.length), f l[j] = some vs[j]
  | [], vs, h => by
    injection h with h
    subst h
    exact ⟨rfl, fun j h => absurd h (by simp)⟩
  | p :: r, vs, h => by
    rw [Rd.allM] at h
    split at h
    · rename_i v vs' h1 h2
      injection h with h
      subst h
      obtain ⟨e1, e2⟩ := Rd.allM_at h2
      refine ⟨by simp [e1], fun j hj hj2 => ?_⟩
      cases j with
      | zero => exact h1
      | succ j => exact e2 j (by simpa using hj) (by simpa using hj2)
    · cases h
section
variable {g hi n : Nat} {o : ByteArray} {ws : List Rd.W2} {x : Rd.W2} {d : Rd.Dt} {w : World}
theorem St.ml (h : St w g hi o ws d n) : ∃ m : Int, w.cell? ⟨2, 0, none⟩ = some (.int .i64 m) := h.gl.2.2.1
set_option maxHeartbeats 1000000 in
set_option maxRecDepth 100000 in
theorem rdFour_ok (h : St w g hi o (x :: ws) d n) (hx : x.2 = false) (h32 : x.1.length < 4294967281) {r : List UInt8} (hr : Rd.addr4 x.1 = some r) :
    Calls Tryz.prog 143 #[.pointer (some ⟨g, 0, none⟩)] w fun e w' => e = .returned (.tuple #[]) ∧ St w' g hi o ws { d with raw := r } n ∧ Kb g w.heap.size w w' := by
  have HP := Lib.hid (rdPlain_any h hx)
  have HSP := Lib.hid (fun (W : World) hm => split_any x.1 46 W h32 hm)
  clear h
  obtain ⟨ps, hps⟩ : ∃ ps, Rd.splitB 46 x.1 = ps := ⟨_, rfl⟩
  unfold Rd.addr4 at hr
  rw [hps] at hr HSP
  have h4 : ps.length = 4 := Decidable.byContradiction fun h4 => by rw [if_neg h4] at hr; cases hr
  rw [if_pos h4] at hr
  cases hv : Rd.allM (fun p => Rd.num p 255) ps with
  | none => rw [hv] at hr; cases hr
  | some vs =>
    rw [hv, Option.map_some] at hr
    injection hr with hr
    obtain ⟨hvl, hva⟩ := Rd.allM_at hv
    have HVA := Lib.hid hva
    have HVL := Lib.hid (hvl.trans h4)
    have HR := Lib.hid hr
    have HP4 := Lib.hid h4
    have hpl : ∀ p ∈ ps, p.length ≤ 140737488355328 := fun p hp => by
      rw [← hps] at hp
      have := Rd.splitB_len hp
      omega
    have HPL := Lib.hid hpl
    rw [h4] at HSP
    clear hv hva hvl hr hps hpl h4
    go_enter Tryz.func143, Tryz.ntmps143
    go_wp2_with (first
      | (go_at_call 138; refine HP.out.mono ?_; rintro e w1 ⟨rfl, S1, K1⟩; have HM := Lib.hid S1.ml; have HS := Lib.hid S1; have HK := Lib.hid K1; clear S1 K1)
      | (go_at_call 165; refine (HSP.out _ HM.out).mono ?_; rintro e w2 ⟨rfl, E2⟩; have HE2 := Lib.hid E2; clear E2))
    have hB12 : Below w1.heap.size w1 w2 := by rw [HE2.out]; exact (Below.refl _ _).alloc (Nat.le_refl _) _
    have hlt12 : w1.heap.size < w2.heap.size := by rw [HE2.out]; simp
    have hpc : ∀ j (hj : j < ps.length), w2.cell? ⟨w1.heap.size, j, none⟩ = some (sv (ps[j]'hj)) := fun j hj => by
      rw [HE2.out, (Has.fresh w1 9 (svs ps).toArray).cell]
      simp [svs, hj]
    have HPC := Lib.hid hpc
    have HB12 := Lib.hid hB12
    have HB0 := Lib.hid ((Below.refl w2.heap.size w2).alloc (Nat.le_refl _) (.cells #[.int .u8 0, .int .u8 0, .int .u8 0, .int .u8 0] 214))
    clear hpc hB12 HE2 HM
    go_loopw [16] (fun i wr => ∃ k : Nat, i = .int .i64 k ∧ k ≤ 4 ∧ Hid (Below w2.heap.size w2 wr) ∧ Hid (Has wr w2.heap.size 214 (r4 (r.take k)))) (fun i _ => 4 - (intOf i).toNat)
    case atStart => exact ⟨0, rfl, by omega, HB0.out, Has.fresh w2 _ _⟩
    case round =>
      obtain ⟨k, rfl, hk, HB, HH⟩ := hrel
      have hsz := HB.out.size
      by_cases hlt : k < 4
      · have hj : k < ps.length := by rw [HP4.out]; exact hlt
        have hj2 : k < vs.length := by rw [HVL.out]; exact hlt
        have hnum := HVA.out k hj hj2
        have hle := Rd.num_le hnum
        have cp : wr.cell? ⟨w1.heap.size, k, none⟩ = some (sv (ps[k]'hj)) := (HB.out.cell (p := ⟨w1.heap.size, k, none⟩) hlt12).trans (HPC.out k hj)
        have hpk := HPL.out _ (List.getElem_mem hj)
        have hrl : r.length = 4 := by rw [← HR.out, List.length_map, HVL.out]
        have hrt : (r.take k).length = k := by rw [List.length_take, hrl]; omega
        have hrk : r.take (k + 1) = r.take k ++ [UInt8.ofNat (vs[k]'hj2)] := by
          rw [List.take_succ_eq_append_getElem (by omega)]
          simp only [← HR.out, List.getElem_map]
        have ht8 : (UInt8.ofNat (vs[k]'hj2)).toNat = vs[k]'hj2 := by simp; omega
        have hset := r4_set (r.take k) (UInt8.ofNat (vs[k]'hj2)) (by omega)
        rw [hrt, ht8, ← hrk] at hset
        have hat := r4_at (r.take k) (by omega)
        rw [hrt] at hat
        have HSET := Lib.hid hset
        have ck : wr.cell? ⟨w2.heap.size, k, none⟩ = some (.int .u8 0) := by rw [HH.out.cell]; exact hat
        have HDG := Lib.hid (fun (W : World) => rdDigits_ok (.pointer (some ⟨g, 0, none⟩)) ⟨(ps[k]'hj).toArray⟩ W 8 (.inl rfl) (by rw [mk_size]; exact hpk) (by simpa using hnum))
        generalize ps[k]'hj = pk at *
        generalize vs[k]'hj2 = vk at *
        have hwr : IntKind.u8.wrap (vk : Int) = (vk : Int) := by rw [IntKind.wrap_u8]; omega
        have hki : (k : Int) < 4 := by omega
        clear hset hat hrk hrt ht8 hnum hpk hrl
        go_wp2_with (go_at_call 163; refine (HDG.out _).mono ?_; rintro e w3 ⟨rfl, B3⟩; have c3 := (B3.cell (p := ⟨w2.heap.size, k, none⟩) HH.out.lt).trans ck; have HH3 := Lib.hid (HH.out.below B3 HH.out.lt); have f3 := HH3.out.free k; have HB3 := Lib.hid (HB.out.trans (B3.mono hsz)); clear B3)
        exact ⟨⟨k + 1, by go_num, by omega, HB3.out.setCell (Nat.le_refl _) _, by rw [← HSET.out]; exact HH3.out.set _ _⟩, by simp [intOf]; omega⟩
      · obtain rfl : k = 4 := by omega
        have hrl : r.length = 4 := by rw [← HR.out, List.length_map, HVL.out]
        have hR4 : Has wr w2.heap.size 214 (bv r).toArray := by
          have := HH.out
          rw [List.take_of_length_le (by omega)] at this
          unfold r4 at this
          rw [hrl] at this
          simpa using this
        have hcv := run_convert_bs (w := wr) (P := Tryz.prog) 56 9 5 Tryz.underlying56 Tryz.underlying5 Tryz.underlying9 0 (w2.heap.size + 1) (some ⟨w2.heap.size, 0, none⟩) 4 4 r hrl.symm (fun _ => ⟨w2.heap.size, 0, rfl, Nat.zero_le _, by omega, fun j hj => by rw [hR4.cell, Nat.zero_add]; simp [bv, hj]⟩)
        have SW := HS.out.keep (HB12.out.trans (HB.out.mono (by omega)))
        obtain ⟨v, hh⟩ := SW.has
        have c2 : wr.cell? ⟨g, 2, none⟩ = some (sv d.raw) := by rw [hh.cell]; rfl
        have f2 := hh.free 2
        have HSW := Lib.hid SW
        have HKW := Lib.hid (HK.out.onB (HB12.out.trans (HB.out.mono (by omega))))
        clear hR4 SW hh hrl HH HB HR HVA HVL HPL HPC
        go_wp2
        go_end0
        exact ⟨rfl, HSW.out.put (i := 2) (u := sv r) rfl (fun v => rfl), HKW.out.set 2 _⟩
end
end Go.Proofs.YtgcaephfhfkjcaaGreatDoor
namespace Go.Proofs.YtgcaephfhfkjcaaGreatDoor
open Go.RowKit

theorem Tryz.infoU16 : (Tryz.prog.info? 30).map (fun i => (i.zero, i.size, i.bytes)) = some (some (.int .u16 0), 1, 2) := by kernel_rfl
/-- numbers of 16 bits as values. -/
def u16s (vs : List Nat) : List Value := vs.map fun (n : Nat) => Value.int .u16 (n : Int)
theorem u16s_snoc (vs : List Nat) (k : Nat) (h : k < vs.length) : u16s (vs.take (k + 1)) = u16s (vs.take k) ++ [.int .u16 ((vs[k]'h : Nat) : Int)] := by
  rw [List.take_succ_eq_append_getElem h]
  unfold u16s
  rw [List.map_append]
  rfl
theorem Rd.splitB_count (b : UInt8) : ∀ s : List UInt8, (Rd.splitB b s).length ≤ s.length + 1
  | [] => by simp [Rd.splitB]
  | c :: r => by
    have := Rd.splitB_count b r
    rw [Rd.splitB]
    split
    · simp; omega
    · split
      · simp
      · rename_i e
        rw [e] at this
        simp at this ⊢
        omega
set_option maxHeartbeats 1000000 in
set_option maxRecDepth 100000 in
theorem rdGroups_ok (p : Value) (s : List UInt8) (w : World) (h32 : s.length < 4294967281) (hm : ∃ m : Int, w.cell? ⟨2, 0, none⟩ = some (.int .i64 m)) {vs : List Nat} (hv : Rd.groupsR s = some vs) :
    Calls Tryz.prog 167 #[p, sv s] w fun e w' => ∃ v, e = .returned v ∧ w'.ownsRow w.heap.size 30 1 v vs.length (u16s vs) ∧ Below w.heap.size w w' := by
  obtain ⟨i0, hi0, hz0, hz1, hz2⟩ := info_parts Tryz.infoU16
  unfold Rd.groupsR at hv
  have hz : (⟨s.toArray⟩ : ByteArray).size = s.length := mk_size s
  by_cases h0 : s = []
  · rw [if_pos h0] at hv
    injection hv with hv
    subst h0
    subst hv
    clear hz hm
    have he : (⟨#[]⟩ : ByteArray).toList.isEmpty = true := empty_yes rfl
    go_enter Tryz.func167, Tryz.ntmps167
    go_wp2
    go_ret
    exact ⟨_, rfl, World.ownsRow_nil _ _ _ _, Below.refl _ _⟩
  · rw [if_neg h0] at hv
    have HSP := Lib.hid (split_any s 58 w h32 hm)
    have hl0 : s.length ≠ 0 := fun e => h0 (List.length_eq_zero_iff.1 e)
    have he := empty_no (s := (⟨s.toArray⟩ : ByteArray)) (by rw [hz]; exact hl0)
    obtain ⟨ps, hps⟩ : ∃ ps, Rd.splitB 58 s = ps := ⟨_, rfl⟩
    rw [hps] at hv HSP
    obtain ⟨hvl, hva⟩ := Rd.allM_at hv
    have HVA := Lib.hid hva
    have HVL := Lib.hid hvl
    have hpn : ps.length ≤ 4294967281 := by have := Rd.splitB_count 58 s; rw [hps] at this; omega
    have HZ := Lib.hid hz
    clear hv hva hps h0 hm hvl hl0 hz
    have HSP2 : Hid (Calls Tryz.prog 165 #[.string ⟨s.toArray⟩, .string ⟨#[58]⟩] w _) := HSP.out
    clear HSP
    show Calls Tryz.prog 167 #[p, .string ⟨s.toArray⟩] w _
    generalize (⟨s.toArray⟩ : ByteArray) = t at *
    go_enter Tryz.func167, Tryz.ntmps167
    go_wp2_with (go_at_call 165; refine HSP2.out.mono ?_; rintro e w1 ⟨rfl, E1⟩; have HE1 := Lib.hid E1; clear E1)
    have hlt1 : w.heap.size < w1.heap.size := by rw [HE1.out]; simp
    have hpc : ∀ j (hj : j < ps.length), w1.cell? ⟨w.heap.size, j, none⟩ = some (sv (ps[j]'hj)) := fun j hj => by
      rw [HE1.out, (Has.fresh w 9 (svs ps).toArray).cell]
      simp [svs, hj]
    have HPC := Lib.hid hpc
    have HB1 : Hid (Below w.heap.size w w1) := by rw [Hid, HE1.out]; exact (Below.refl _ _).alloc (Nat.le_refl _) _
    clear hpc HE1
    go_loopw [5, 13] (fun v i wr => ∃ k : Nat, i = .int .i64 k ∧ k ≤ ps.length ∧ Hid (wr.ownsRow w1.heap.size 30 1 v k (u16s (vs.take k))) ∧ Hid (Below w1.heap.size w1 wr)) (fun _ i _ => ps.length - (intOf i).toNat)
    case atStart => exact ⟨0, rfl, by omega, World.ownsRow_nil _ _ _ _, Below.refl _ _⟩
    case round =>
      obtain ⟨k, rfl, hk, HO, HB⟩ := hrel
      have hsz := HB.out.size
      obtain ⟨ad, cp, hv⟩ := own_form HO.out
      subst hv
      by_cases hlt : k < ps.length
      · have hj2 : k < vs.length := by rw [HVL.out]; exact hlt
        have cp : wr.cell? ⟨w.heap.size, k, none⟩ = some (sv (ps[k]'hlt)) := (HB.out.cell (p := ⟨w.heap.size, k, none⟩) hlt1).trans (HPC.out k hlt)
        have HX := Lib.hid (fun (W : World) => rdHex_ok p (ps[k]'hlt) W (HVA.out k hlt hj2))
        have HSN := Lib.hid (u16s_snoc vs k hj2)
        generalize ps[k]'hlt = pk at *
        generalize vs[k]'hj2 = vk at *
        go_wp2_with (first
          | (go_at_call 140; refine (HX.out _).mono ?_; rintro e w3 ⟨rfl, B3⟩; have HO3 := Lib.hid (own_below HO.out B3 (Nat.le_refl _)); have HB3 := Lib.hid (HB.out.trans (B3.mono hsz)); have hsz3 := B3.size; clear B3)
          | (at_builtin; refine wpList_append_own _ rfl (.tmp 17) (.tmp 21) _ rfl w1.heap.size 30 i0 _ 1 2 Tryz.underlying132 hi0 hz0 hz1 hz2 rfl (by decide) _ k (u16s (vs.take k)) rfl (HO3.out.alloc _) ⟨w3.heap.size, 0, none⟩ 1 1 [.int .u16 vk] rfl rfl ?c1 ?c2 ?c3 ?c4 ?c5 (fun v' w4 hown1 hg1 _ => ?_)))
        case c1 => exact cell_one_new _ _ _
        case c2 => simp [Value.oneCell']
        case c3 => unfold maxLen; omega
        case c4 => omega
        case c5 => simp; omega
        exact ⟨⟨k + 1, rfl, by omega, by rw [HSN.out]; exact hown1, (HB3.out.alloc (by omega) _).grown hg1 (by simp; omega) (fun j hj => (HO3.out.lt j hj).1)⟩, by simp [intOf]; omega⟩
      · obtain rfl : k = ps.length := by omega
        have hvt : vs.take ps.length = vs := List.take_of_length_le (by rw [HVL.out]; exact Nat.le_refl _)
        have HVT := Lib.hid hvt
        clear hvt
        go_wp2
        go_ret
        exact ⟨_, rfl, own_to (own_mono HO.out (by omega)) HVL.out.symm (by rw [HVT.out]), HB1.out.trans (HB.out.mono (by omega))⟩
end Go.Proofs.YtgcaephfhfkjcaaGreatDoor
namespace Go.Proofs.YtgcaephfhfkjcaaGreatDoor
open Go.RowKit

theorem putText_new (s : List UInt8) (hs : s.length ≤ 255) (W : World) :
    Calls Tryz.prog 169 #[.slice none 0 0, sv s] W fun e w' => ∃ g, e = .returned (.tuple #[.slice (some ⟨g, 0, none⟩) (s.length + 1) (s.length + 1), .int .i64 0]) ∧ Bs w' W.heap.size w'.heap.size (some ⟨g, 0, none⟩) (UInt8.ofNat s.length :: s) ∧ Below W.heap.size W w' := by
  have hz : (⟨s.toArray⟩ : ByteArray).size = s.length := mk_size s
  refine (putText_ok none [] 0 ⟨s.toArray⟩ W (Nat.le_refl _) (by simp) (by rw [hz]; exact hs) 0 Bs.nil).mono ?_
  rintro e w' ⟨g, cp, rfl, O, B⟩
  rw [hz] at O ⊢
  have e1 : ([] : List UInt8).length + 1 + s.length = s.length + 1 := by simp; omega
  rw [e1] at O ⊢
  refine ⟨g, rfl, ?_, B⟩
  have hb : bv ([] ++ Oc.beb 1 s.length ++ (⟨s.toArray⟩ : ByteArray).data.toList) = bv (UInt8.ofNat s.length :: s) := by
    congr 1
    simp [Oc.beb]
  rw [hb] at O
  exact Bs.of_own O
/-- how many words are left. -/
def wlen (w : World) (g : Nat) : Nat := match w.cell? ⟨g, 0, none⟩ with
  | some (.slice _ n _) => n
  | _ => 0
section
variable {g hi n : Nat} {o : ByteArray} {ws : List Rd.W2} {x : Rd.W2} {d : Rd.Dt} {w w' : World}
theorem St.front (h : St w g hi o ws d n) : ∃ A c, w.cell? ⟨g, 0, none⟩ = some (.slice A ws.length c) := by
  obtain ⟨v, h1, ⟨A, c, rfl, _⟩, _⟩ := h
  exact ⟨A, c, by rw [h1.cell]; rfl⟩
theorem St.wlen (h : St w g hi o ws d n) : wlen w g = ws.length := by
  obtain ⟨A, c, h⟩ := h.front
  unfold Proofs.YtgcaephfhfkjcaaGreatDoor.wlen
  rw [h]
theorem St.keepG (h : St w g hi o ws d n) (hb : Below (g + 1) w w') : St w' g hi o ws d n := by
  obtain ⟨v, h1, h2, h3, h4⟩ := h
  exact ⟨v, h1.below hb (by omega), h2.keep (hb.mono (by omega)), h3, h4.below (hb.mono (by omega))⟩
theorem Kb.ownRow {b : Nat} {w1 w2 : World} {row : Option Nat} (h : Kb g b w w1) (G : w1.grownBy w2 row) (hr : ∀ k, row = some k → b ≤ k) (hb : b ≤ w1.heap.size) : Kb g b w w2 :=
  h.trans ⟨G.os, G.tape, G.output, G.size, fun k hk _ => G.block k (by omega) (fun e => by have := hr k e.symm; omega)⟩
theorem St.cell2 (h : St w g hi o ws d n) : w.cell? ⟨g, 2, none⟩ = some (sv d.raw) := by
  obtain ⟨v, h1⟩ := h.has
  rw [h1.cell]; rfl
theorem St.free (h : St w g hi o ws d n) (i : Nat) : w.frozen? ⟨g, i, none⟩ = false := by
  obtain ⟨v, h1⟩ := h.has
  exact h1.free i
theorem own_kb {B m : Nat} {v : Value} {xs : List Value} (h : w.ownsRow B 5 1 v m xs) (hk : Kb g w.heap.size w w') (hB : g < B) : w'.ownsRow B 5 1 v m xs := by
  refine ⟨h.1, ?_⟩
  rcases h.2 with hn | ⟨g', cap, cur, hv, hg, hh, rest⟩
  · exact .inl hn
  · exact .inr ⟨g', cap, cur, hv, hg, (hk.block g' (Array.getElem?_eq_some_iff.1 hh).1 (by omega)).trans hh, rest⟩
set_option maxHeartbeats 2000000 in
set_option maxRecDepth 100000 in
theorem rdTexts_ok (h : St w g hi o (x :: ws) d n) {r : List UInt8} (hr : Rd.textsR [] (x :: ws) = some r) :
    Calls Tryz.prog 145 #[.pointer (some ⟨g, 0, none⟩)] w fun e w' => e = .returned (.tuple #[]) ∧ St w' g hi o [] { d with raw := r } n ∧ Kb g w.heap.size w w' := by
  obtain ⟨i0, hi0, hz0, hz1, hz2⟩ := info_parts Tryz.infoByte
  have hgw := h.lt
  have hfld : ∀ (W : World) (s : ByteArray) (b : Bool) (l k : Int), (Instr.field 79 (.agg #[.string s, .bool b, .int .i64 l, .int .i64 k]) 0).run Tryz.prog W = .ok (.string s) W := fun _ _ _ _ _ => rfl
  have HS0 := Lib.hid h
  have HR0 := Lib.hid hr
  have HK0 := Lib.hid (Kb.refl g w.heap.size w)
  clear h hr
  go_enter Tryz.func145, Tryz.ntmps145
  go_wp2
  go_loopw [2] (fun v wr => ∃ (acc : List UInt8) (x : Rd.W2) (rest : List Rd.W2), acc.length ≤ 65535 ∧ Hid (Rd.textsR acc (x :: rest) = some r) ∧ Hid (wr.ownsRow w.heap.size 5 1 v acc.length (bv acc)) ∧ Hid (St wr g hi o (x :: rest) d n) ∧ Hid (Kb g w.heap.size w wr)) (fun _ wr => wlen wr g)
  case atStart => exact ⟨[], x, ws, by simp, HR0.out, World.ownsRow_nil _ _ _ _, HS0.out, HK0.out⟩
  case round =>
    obtain ⟨acc, x, rest, hacc, HR, HO, HS, HK⟩ := hrel
    have hsz := HK.out.size
    have hl := HS.out.one
    have hr := HR.out
    rw [Rd.textsR] at hr
    cases hu : Nm.unesc x.1 with
    | none => rw [hu] at hr; cases hr
    | some l =>
      rw [hu] at hr
      by_cases hb : 255 < l.length ∨ 65535 < acc.length + (1 + l.length)
      · simp only [hb, if_true] at hr
        cases hr
      · simp only [hb, if_false] at hr
        have hb1 : l.length ≤ 255 := by omega
        have hb2 : acc.length + (l.length + 1) ≤ 65535 := by omega
        have hb3 : decide ((65535 : Int) < (acc.length : Int) + ((l.length : Int) + 1)) = false := by simp; omega
        have HR2 := Lib.hid hr
        have HB := Lib.hid (fun (W : World) (hW : Lay W) => Bytes_yes x.1 l W hW hl hu)
        have HPT := Lib.hid (fun (W : World) => putText_new l hb1 W)
        have HN := Lib.hid (rdNext_any HS.out)
        have HW := Lib.hid HS.out.wlen
        obtain ⟨ad, cp, hv⟩ := own_form HO.out
        subst hv
        clear hr hb hu hl HR HS
        cases rest with
        | nil =>
          have hrr : acc ++ UInt8.ofNat l.length :: l = r := by
            have := HR2.out
            rw [Rd.textsR] at this
            injection this
          have HRR := Lib.hid hrr
          clear hrr
          go_wp2_with (first
            | (go_at_call 136; refine HN.out.mono ?_; rintro e w1 ⟨l1, k1, rfl, S1, K1⟩; have HS1 := Lib.hid S1; have HK1 := Lib.hid (HK.out.trans (K1.mono hsz)); have HO1 := Lib.hid (own_kb HO.out K1 hgw); have HL1 := Lib.hid S1.gl.1; clear S1 K1)
            | (go_at_call 155; refine (HB.out _ HL1.out).mono ?_; rintro e w2 ⟨rfl, B2⟩; have HB2 := Lib.hid B2; clear B2)
            | (go_at_call 169; refine (HPT.out _).mono ?_; rintro e w3 ⟨g3, rfl, BS3, B3⟩; have HBS3 := Lib.hid BS3; have HB3 := Lib.hid B3; have HO3 := Lib.hid (own_below (own_below HO1.out HB2.out (Nat.le_refl _)) B3 (Nat.le_refl _)); have hsz3 : w.heap.size ≤ w3.heap.size := Nat.le_trans HK1.out.size (Nat.le_trans HB2.out.size B3.size); have HS3 := Lib.hid ((HS1.out.keep HB2.out).keep B3); have HK3 := Lib.hid ((HK1.out.onB HB2.out).onB B3); clear BS3 B3)
            | (at_builtin; refine wpList_append_bs rfl (.tmp 34) (.tmp 35) 56 rfl w.heap.size 5 i0 _ Tryz.underlying56 hi0 hz0 hz1 hz2 rfl _ acc.length (bv acc) rfl HO3.out _ _ (some ⟨g3, 0, none⟩) (l.length + 1) (UInt8.ofNat l.length :: l) rfl HBS3.out (fun e => by cases e) (by simp; omega) hsz3 ?_; intro v4 w4 O4 G4; have B4 := below_self G4 (B := g + 1) (by omega) (fun k hk => by have := (HO3.out.lt k hk).1; omega); have HS4 := Lib.hid (HS3.out.keepG B4); obtain ⟨A4, C4, c4⟩ := HS4.out.front; have HO4 := Lib.hid O4; have HK4 := Lib.hid (HK3.out.ownRow G4 (fun k hk => (HO3.out.lt k hk).1) hsz3); have HO4 := Lib.hid (own_to HO4.out (m := (acc ++ UInt8.ofNat l.length :: l).length) (ys := bv (acc ++ UInt8.ofNat l.length :: l)) (by simp) (by rw [bv_append])); have hcv := run_convert_own w4 (P := Tryz.prog) 56 9 5 Tryz.underlying56 Tryz.underlying5 Tryz.underlying9 w.heap.size _ v4 (acc ++ UInt8.ofNat l.length :: l) HO4.out; have c2 : w4.cell? ⟨g, 2, none⟩ = some (sv d.raw) := HS4.out.cell2; have f2 := HS4.out.free 2; clear O4 G4 B4))
          go_end0
          exact ⟨rfl, by rw [← HRR.out]; exact HS4.out.put (i := 2) (u := sv (acc ++ UInt8.ofNat l.length :: l)) rfl (fun v => rfl), HK4.out.set 2 _⟩
        | cons y rest =>
          go_wp2_with (first
            | (go_at_call 136; refine HN.out.mono ?_; rintro e w1 ⟨l1, k1, rfl, S1, K1⟩; have HS1 := Lib.hid S1; have HK1 := Lib.hid (HK.out.trans (K1.mono hsz)); have HO1 := Lib.hid (own_kb HO.out K1 hgw); have HL1 := Lib.hid S1.gl.1; clear S1 K1)
            | (go_at_call 155; refine (HB.out _ HL1.out).mono ?_; rintro e w2 ⟨rfl, B2⟩; have HB2 := Lib.hid B2; clear B2)
            | (go_at_call 169; refine (HPT.out _).mono ?_; rintro e w3 ⟨g3, rfl, BS3, B3⟩; have HBS3 := Lib.hid BS3; have HB3 := Lib.hid B3; have HO3 := Lib.hid (own_below (own_below HO1.out HB2.out (Nat.le_refl _)) B3 (Nat.le_refl _)); have hsz3 : w.heap.size ≤ w3.heap.size := Nat.le_trans HK1.out.size (Nat.le_trans HB2.out.size B3.size); have HS3 := Lib.hid ((HS1.out.keep HB2.out).keep B3); have HK3 := Lib.hid ((HK1.out.onB HB2.out).onB B3); clear BS3 B3)
            | (at_builtin; refine wpList_append_bs rfl (.tmp 34) (.tmp 35) 56 rfl w.heap.size 5 i0 _ Tryz.underlying56 hi0 hz0 hz1 hz2 rfl _ acc.length (bv acc) rfl HO3.out _ _ (some ⟨g3, 0, none⟩) (l.length + 1) (UInt8.ofNat l.length :: l) rfl HBS3.out (fun e => by cases e) (by simp; omega) hsz3 ?_; intro v4 w4 O4 G4; have B4 := below_self G4 (B := g + 1) (by omega) (fun k hk => by have := (HO3.out.lt k hk).1; omega); have HS4 := Lib.hid (HS3.out.keepG B4); obtain ⟨A4, C4, c4⟩ := HS4.out.front; have HO4 := Lib.hid O4; have HK4 := Lib.hid (HK3.out.ownRow G4 (fun k hk => (HO3.out.lt k hk).1) hsz3); have HO4 := Lib.hid (own_to HO4.out (m := (acc ++ UInt8.ofNat l.length :: l).length) (ys := bv (acc ++ UInt8.ofNat l.length :: l)) (by simp) (by rw [bv_append])); have hcv := run_convert_own w4 (P := Tryz.prog) 56 9 5 Tryz.underlying56 Tryz.underlying5 Tryz.underlying9 w.heap.size _ v4 (acc ++ UInt8.ofNat l.length :: l) HO4.out; have c2 : w4.cell? ⟨g, 2, none⟩ = some (sv d.raw) := HS4.out.cell2; have f2 := HS4.out.free 2; clear O4 G4 B4))
          exact ⟨⟨acc ++ UInt8.ofNat l.length :: l, y, rest, by simp; omega, HR2.out, HO4.out, HS4.out, HK4.out⟩, by rw [HS4.out.wlen, HW.out]; simp⟩
end
end Go.Proofs.YtgcaephfhfkjcaaGreatDoor
