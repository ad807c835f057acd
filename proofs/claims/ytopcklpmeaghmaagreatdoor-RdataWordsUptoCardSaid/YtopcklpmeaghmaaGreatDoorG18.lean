/- Texts of the proofs, merged. -/
import Derived.Test.YtopcklpmeaghmaaGreatDoorG17
import Derived.Laws.CopyOwn
import Derived.Deep.CutRange
/- An address of eight groups, read of a word: the program's. -/
namespace Go.Proofs.YtopcklpmeaghmaaGreatDoor
open Go.RowKit

theorem cut2_any (s : List UInt8) (w : World) (hs : s.length < 4294967281) (hm : ∃ m : Int, w.cell? ⟨2, 0, none⟩ = some (.int .i64 m)) :
    Calls Tryz.prog 76 #[sv s, .string ⟨#[58, 58]⟩] w fun e w' => e = .returned (.tuple #[sv (Rd.cut2 s).1, sv (Rd.cut2 s).2.1, .bool (Rd.cut2 s).2.2]) ∧ ∃ n, w' = w.drewN n := by
  obtain ⟨m, hm⟩ := hm
  have H := Tryz.strings_Cut ⟨s.toArray⟩ ⟨#[58, 58]⟩ m w (by simpa [ByteArray.size] using hs) hm
  have e : Lib.cut (⟨s.toArray⟩ : ByteArray).data.toList (⟨#[58, 58]⟩ : ByteArray).data.toList = Rd.cut2 s := Rd.cut2_lib s
  rw [e] at H
  exact H
theorem Rd.cut2_len : ∀ s : List UInt8, (Rd.cut2 s).1.length ≤ s.length ∧ (Rd.cut2 s).2.1.length ≤ s.length
  | [] => ⟨Nat.le_refl _, Nat.le_refl _⟩
  | [c] => by simp [Rd.cut2]
  | c :: d :: r => by
    have := Rd.cut2_len (d :: r)
    rw [Rd.cut2]
    split
    · simp; omega
    · simp at this ⊢
      omega
theorem own_ad {B n cp : Nat} {w : World} {e : TypeId} {A : Option Addr} {xs : List Value} (h : w.ownsRow B e 1 (.slice A n cp) n xs) (h0 : 0 < xs.length) : ∃ ad, A = some ad ∧ ∀ j v, xs[j]? = some v → w.cell? (ad.add j) = some v := by
  rcases h.2 with ⟨hv, h00⟩ | ⟨g, cap, cur, hv, _⟩
  · have := h.1; omega
  · injection hv with h1 h2 h3
    subst h1
    exact ⟨_, rfl, fun j v hj => h.cells (g := g) rfl j v hj⟩
/-- eight numbers, an array. -/
def z8 : List Value := List.replicate 8 (.int .u16 0)
theorem splice_two (a b : List Nat) (h : a.length + b.length ≤ 8) : splice (splice z8 0 (u16s a)) (8 - b.length) (u16s b) = u16s (a ++ List.replicate (8 - (a.length + b.length)) 0 ++ b) := by
  have ha : (u16s a).length = a.length := by simp [u16s]
  have hb : (u16s b).length = b.length := by simp [u16s]
  have e1 : splice z8 0 (u16s a) = u16s (a ++ List.replicate (8 - a.length) 0) := by
    unfold splice z8 u16s
    rw [List.take_zero, List.nil_append, List.map_append, List.drop_replicate, List.map_replicate, List.length_map, Nat.zero_add]
    rfl
  rw [e1]
  have e2 : a ++ List.replicate (8 - a.length) 0 = (a ++ List.replicate (8 - (a.length + b.length)) 0) ++ List.replicate b.length 0 := by
    rw [List.append_assoc, List.replicate_append_replicate]
    congr 2
    omega
  have hl : (a ++ List.replicate (8 - (a.length + b.length)) 0).length = 8 - b.length := by simp; omega
  rw [e2]
  generalize a ++ List.replicate (8 - (a.length + b.length)) 0 = c at *
  unfold splice u16s
  rw [← hl, List.map_append, List.map_append, List.length_map, List.take_left' (by simp), List.drop_eq_nil_of_le (by simp), List.append_nil]
set_option maxRecDepth 20000 in
theorem arr8_run (a b c d e f g h : Int) (k : Nat) (hk : k < 8) (W : World) : (Instr.index 131 (.agg #[.int .u16 a, .int .u16 b, .int .u16 c, .int .u16 d, .int .u16 e, .int .u16 f, .int .u16 g, .int .u16 h]) (.int .i64 (k : Nat))).run Tryz.prog W = .ok (([.int .u16 a, .int .u16 b, .int .u16 c, .int .u16 d, .int .u16 e, .int .u16 f, .int .u16 g, .int .u16 h] : List Value)[k]) W := by
  rcases (by omega : k = 0 ∨ k = 1 ∨ k = 2 ∨ k = 3 ∨ k = 4 ∨ k = 5 ∨ k = 6 ∨ k = 7) with rfl | rfl | rfl | rfl | rfl | rfl | rfl | rfl <;> rfl
set_option maxRecDepth 20000 in
theorem arr8_at {vs : List Nat} (h8 : vs.length = 8) {k : Nat} (hk : k < vs.length) (W : World) : (Instr.index 131 (.agg (u16s vs).toArray) (.int .i64 (k : Nat))).run Tryz.prog W = .ok (.int .u16 ((vs[k]'hk : Nat) : Int)) W := by
  match vs, h8, hk with
  | [a, b, c, d, e, f, g, h], _, hk =>
    refine (arr8_run a b c d e f g h k hk W).trans ?_
    have h' : k < 8 := hk
    rcases (by omega : k = 0 ∨ k = 1 ∨ k = 2 ∨ k = 3 ∨ k = 4 ∨ k = 5 ∨ k = 6 ∨ k = 7) with rfl | rfl | rfl | rfl | rfl | rfl | rfl | rfl <;> rfl
theorem slice8 (G nb : Nat) (hn : nb ≤ 8) : ∃ p : Addr, (∀ W, (Instr.sliceAt 131 (.pointer (some ⟨G, 0, none⟩)) (some (.int .i64 (8 - (nb : Int)))) none none).run Tryz.prog W = .ok (.slice (some p) nb nb) W) ∧ (0 < nb → p = ⟨G, 8 - nb, none⟩) := by
  have hal : Tryz.prog.arrayLen 131 = 8 := by kernel_rfl
  by_cases h0 : nb = 0
  · subst h0
    refine ⟨⟨G, 0, none⟩, fun W => ?_, fun h => absurd h (by omega)⟩
    rw [run_sliceAt_array_l W 131 ⟨G, 0, none⟩ (by kernel_rfl) .i64 _ (by omega) (by rw [hal]; omega), hal]
    go_simp
  · refine ⟨⟨G, 8 - nb, none⟩, fun W => ?_, fun _ => rfl⟩
    rcases (by omega : nb = 1 ∨ nb = 2 ∨ nb = 3 ∨ nb = 4 ∨ nb = 5 ∨ nb = 6 ∨ nb = 7 ∨ nb = 8) with rfl | rfl | rfl | rfl | rfl | rfl | rfl | rfl
    all_goals
      rw [run_sliceAt_array_l W 131 ⟨G, 0, none⟩ (by kernel_rfl) .i64 _ (by omega) (by rw [hal]; omega), hal]
      go_simp
theorem put16_new (v : Nat) (hv : v < 65536) (W : World) :
    Calls Tryz.prog 37 #[.slice none 0 0, .int .u16 v] W fun e w' => ∃ g, e = .returned (.slice (some ⟨g, 0, none⟩) 2 2) ∧ Bs w' W.heap.size w'.heap.size (some ⟨g, 0, none⟩) [UInt8.ofNat (v / 256), UInt8.ofNat (v % 256)] ∧ Below W.heap.size W w' := by
  refine (put_u16 none [] 0 v W (Nat.le_refl _) (by simp) hv 0 Bs.nil).mono ?_
  rintro e w' ⟨g, cp, rfl, O, B⟩
  refine ⟨g, rfl, ?_, B⟩
  have hb : ([] ++ Oc.beb 2 v : List UInt8) = [UInt8.ofNat (v / 256), UInt8.ofNat (v % 256)] := by
    have e : UInt8.ofNat v = UInt8.ofNat (v % 256) := UInt8.toNat_inj.1 (by simp)
    simp [Oc.beb, ← e]
  rw [hb] at O
  exact Bs.of_own O
/-- the bytes of groups. -/
def gby (vs : List Nat) : List UInt8 := vs.flatMap fun g => [UInt8.ofNat (g / 256), UInt8.ofNat (g % 256)]
theorem gby_len (vs : List Nat) : (gby vs).length = 2 * vs.length := by
  unfold gby
  induction vs with
  | nil => rfl
  | cons a r ih => rw [List.flatMap_cons, List.length_append, ih]; simp; omega
theorem gby_snoc (vs : List Nat) (k : Nat) (h : k < vs.length) : gby (vs.take (k + 1)) = gby (vs.take k) ++ [UInt8.ofNat ((vs[k]'h) / 256), UInt8.ofNat ((vs[k]'h) % 256)] := by
  rw [List.take_succ_eq_append_getElem h]
  unfold gby
  rw [List.flatMap_append]
  simp
theorem Rd.hexR_lt {s : List UInt8} {v : Nat} (h : Rd.hexR s = some v) : v < 65536 := by
  unfold Rd.hexR at h
  by_cases hb : s.length = 0 ∨ 4 < s.length
  · rw [if_pos hb] at h; cases h
  rw [if_neg hb, Rd.hexV_hxa] at h
  have := (Rd.hxa_le h).2
  have h16 : 16 ^ s.length ≤ 16 ^ 4 := Nat.pow_le_pow_right (by decide) (by omega)
  omega
theorem Rd.groupsR_lt {s : List UInt8} {vs : List Nat} (h : Rd.groupsR s = some vs) : ∀ v ∈ vs, v < 65536 := by
  unfold Rd.groupsR at h
  by_cases h0 : s = []
  · rw [if_pos h0] at h
    injection h with h
    subst h
    intro v hv; cases hv
  · rw [if_neg h0] at h
    obtain ⟨e1, e2⟩ := Rd.allM_at h
    intro v hv
    obtain ⟨j, hj, rfl⟩ := List.getElem_of_mem hv
    exact Rd.hexR_lt (e2 j (by omega) hj)
section
variable {g hi n : Nat} {o : ByteArray} {ws : List Rd.W2} {x : Rd.W2} {d : Rd.Dt} {w : World}
set_option maxHeartbeats 2000000 in
set_option maxRecDepth 100000 in
theorem rdEight_ok (h : St w g hi o (x :: ws) d n) (hx : x.2 = false) (h32 : x.1.length < 4294967281) {r : List UInt8} (hr : Rd.addr16 x.1 = some r) :
    Calls Tryz.prog 48 #[.pointer (some ⟨g, 0, none⟩)] w fun e w' => e = .returned (.tuple #[]) ∧ St w' g hi o ws { d with raw := r } n ∧ Kb g w.heap.size w w' := by
  obtain ⟨i0, hi0, hz0, hz1, hz2⟩ := info_parts Tryz.infoByte
  have hgw := h.lt
  have hi8n : (Tryz.prog.info? 131).map (·.size) = some 8 := by kernel_rfl
  have HP := Lib.hid (rdPlain_any h hx)
  have HCT := Lib.hid (fun (W : World) hm => cut2_any x.1 W h32 hm)
  have hcl := Rd.cut2_len x.1
  clear h
  obtain ⟨F, hF⟩ : ∃ F, (Rd.cut2 x.1).1 = F := ⟨_, rfl⟩
  obtain ⟨T, hT⟩ : ∃ T, (Rd.cut2 x.1).2.1 = T := ⟨_, rfl⟩
  obtain ⟨c, hc⟩ : ∃ c, (Rd.cut2 x.1).2.2 = c := ⟨_, rfl⟩
  unfold Rd.addr16 at hr
  rw [hF, hT, hc] at hr
  rw [hF, hT, hc] at HCT
  rw [hF, hT] at hcl
  clear hF hT hc
  cases ha : Rd.groupsR F with
  | none => rw [ha] at hr; cases hr
  | some a =>
    cases hb : Rd.groupsR T with
    | none => rw [ha, hb] at hr; cases hr
    | some b =>
      rw [ha, hb] at hr
      by_cases hno : (c = true ∧ 8 ≤ a.length + b.length) ∨ (c = false ∧ a.length + b.length ≠ 8)
      · simp only [hno, if_true] at hr; cases hr
      · simp only [hno, if_false] at hr
        injection hr with hr
        have hab : a.length + b.length ≤ 8 := by
          cases c with
          | true => simp at hno; omega
          | false => simp at hno; omega
        have t1 : c = true → decide ((8 : Int) ≤ (a.length : Int) + (b.length : Int)) = false := fun e => by simp [e] at hno; simp; omega
        have t2 : c = false → ((a.length : Int) + (b.length : Int) != 8) = false := fun e => by simp [e] at hno; simp; omega
        have T1 := Lib.hid t1
        have T2 := Lib.hid t2
        clear t1 t2
        have HA := Lib.hid (fun (p : Value) (W : World) hm => rdGroups_ok p F W (by omega) hm ha)
        have HB := Lib.hid (fun (p : Value) (W : World) hm => rdGroups_ok p T W (by omega) hm hb)
        obtain ⟨vs, hvs⟩ : ∃ vs, a ++ List.replicate (8 - (a.length + b.length)) 0 ++ b = vs := ⟨_, rfl⟩
        have hv8 : vs.length = 8 := by rw [← hvs]; simp; omega
        have hlt : ∀ v ∈ vs, v < 65536 := fun v hv => by
          rw [← hvs] at hv
          rcases List.mem_append.1 hv with hv | hv
          · rcases List.mem_append.1 hv with hv | hv
            · exact Rd.groupsR_lt ha v hv
            · rw [(List.mem_replicate.1 hv).2]; decide
          · exact Rd.groupsR_lt hb v hv
        have HLT := Lib.hid hlt
        clear hlt
        have hsp := splice_two a b hab
        rw [hvs] at hr hsp
        have HSP := Lib.hid hsp
        have HR := Lib.hid hr
        have HV8 := Lib.hid hv8
        clear hr hno ha hb hvs hsp hv8
        go_enter Tryz.func48, Tryz.ntmps48
        go_upto_region 3 with (first
          | (go_at_call 42; refine HP.out.mono ?_; rintro e w1 ⟨rfl, S1, K1⟩; have HS := Lib.hid S1; have HK := Lib.hid K1; clear S1 K1)
          | (go_at_call 76; refine (HCT.out _ HS.out.ml).mono ?_; rintro e w2 ⟨rfl, nd, E2⟩; have B2 : Below w1.heap.size w1 w2 := (by rw [E2]; exact below_drewN (Below.refl _ _) _); have HB2 := Lib.hid B2; have HS2 := Lib.hid (HS.out.keep B2); clear E2 B2)
          | (go_at_call 77; (with_reducible refine (HA.out _ _ HS2.out.ml).mono ?_); rintro e w3 ⟨v3, rfl, O3, B3⟩; have HO3 := Lib.hid O3; have HB3 := Lib.hid B3; have HS3 := Lib.hid (HS2.out.keep B3); clear O3 B3)
          | (go_at_call 77; (with_reducible refine (HB.out _ _ HS3.out.ml).mono ?_); rintro e w4 ⟨v4, rfl, O4, B4⟩; have HO4 := Lib.hid O4; have HB4 := Lib.hid B4; have HS4 := Lib.hid (HS3.out.keep B4); clear O4 B4))
        have hsz1 := HB2.out.size
        have hsz2 := HB3.out.size
        have hsz3 := HB4.out.size
        have O3 := own_below HO3.out HB4.out (Nat.le_refl _)
        have O4 := HO4.out
        obtain ⟨Aa, ca, rfl⟩ := own_form O3
        obtain ⟨Ab, cb, rfl⟩ := own_form O4
        have HB0 := Lib.hid ((Below.refl w4.heap.size w4).alloc (Nat.le_refl _) (.cells #[.int .u16 0, .int .u16 0, .int .u16 0, .int .u16 0, .int .u16 0, .int .u16 0, .int .u16 0, .int .u16 0] 131))
        have HH0 : Hid (Has (w4.alloc (.cells #[.int .u16 0, .int .u16 0, .int .u16 0, .int .u16 0, .int .u16 0, .int .u16 0, .int .u16 0, .int .u16 0] 131)) w4.heap.size 131 z8.toArray) := Has.fresh w4 _ _
        have hla : (u16s a).length = a.length := by simp [u16s]
        have hlb : (u16s b).length = b.length := by simp [u16s]
        have hua : (u16s a).length = Nat.min a.length 8 := by rw [hla]; exact (Nat.min_eq_left (by omega)).symm
        have hub : (u16s b).length = Nat.min b.length b.length := by rw [hlb]; exact (Nat.min_self _).symm
        have HUA := Lib.hid hua
        have HUB := Lib.hid hub
        have HLA := Lib.hid hla
        have HLB := Lib.hid hlb
        have h1a : ∀ v ∈ u16s a, v.oneCell' = true := fun v hv => by simp [u16s] at hv; obtain ⟨_, _, rfl⟩ := hv; rfl
        have h1b : ∀ v ∈ u16s b, v.oneCell' = true := fun v hv => by simp [u16s] at hv; obtain ⟨_, _, rfl⟩ := hv; rfl
        have H1A := Lib.hid h1a
        have H1B := Lib.hid h1b
        have HAD := Lib.hid (fun (W : World) (hb : Below w4.heap.size w4 W) (h0 : 0 < (u16s a).length) => own_ad (own_below O3 hb (Nat.le_refl _)) h0)
        have HBD := Lib.hid (fun (W : World) (hb : Below w4.heap.size w4 W) (h0 : 0 < (u16s b).length) => own_ad (own_below O4 hb (Nat.le_refl _)) h0)
        obtain ⟨p8, hsl, hp8⟩ := slice8 w4.heap.size b.length (by omega)
        have HP8 := Lib.hid hp8
        clear hua hub hla hlb h1a h1b O3 O4 hp8
        cases c
        all_goals
          first | have tt := T1.out rfl | have tt := T2.out rfl
          clear T1 T2
          go_upto_region 9 with (first
            | (refine wpList_copy_splice rfl (.tmp 45) (.tmp 46) _ _ rfl 22 Tryz.underlying129 (by kernel_rfl) _ _ _ _ _ _ rfl rfl w4.heap.size 0 z8 131 HH0.out (u16s a) HUA.out (fun h0 => ⟨rfl, HAD.out _ HB0.out h0⟩) (by rw [HLA.out]; simp [z8]; omega) H1A.out w4.heap.size w4 HB0.out (Nat.le_refl _) ?_; intro w5 H5 B5; have HB5 := Lib.hid B5; clear B5)
            | (refine wpList_copy_splice rfl (.tmp 51) (.tmp 52) _ _ rfl 22 Tryz.underlying129 (by kernel_rfl) _ _ _ _ _ _ rfl rfl w4.heap.size (8 - b.length) (splice z8 0 (u16s a)) 131 H5.out (u16s b) HUB.out (fun h0 => ⟨by rw [HP8.out (by rw [HLB.out] at h0; exact h0)], HBD.out _ HB5.out h0⟩) (by rw [length_splice _ _ _ (by rw [HLA.out]; simp [z8]; omega), HLB.out]; simp [z8]; omega) H1B.out w4.heap.size w4 HB5.out (Nat.le_refl _) ?_; intro w6 H6 B6; have HB6 := Lib.hid B6; clear B6))
          have h6 : w6.heap[w4.heap.size]? = some (.cells (u16s vs).toArray 131 (0, 0)) := by rw [← HSP.out]; exact H6.out
          obtain ⟨cs8, hcs8⟩ : ∃ c, (u16s vs).toArray = c := ⟨_, rfl⟩
          have hix : ∀ k (hk : k < vs.length) (W : World), (Instr.index 131 (.agg cs8) (.int .i64 (k : Nat))).run Tryz.prog W = .ok (.int .u16 ((vs[k]'hk : Nat) : Int)) W := fun k hk W => by rw [← hcs8]; exact arr8_at HV8.out hk W
          have HIX := Lib.hid hix
          have hi8 : (Tryz.prog.info? 131).map (·.size) = some cs8.size := by
            have : cs8.size = 8 := by rw [← hcs8]; simp [u16s, HV8.out]
            rw [this]
            exact hi8n
          have HI8 := Lib.hid hi8
          rw [hcs8] at h6
          have H6' := Lib.hid h6
          have hB16 := HB2.out.trans ((HB3.out.trans ((HB4.out.trans (HB6.out.mono (by omega))).mono (by omega))).mono (by omega))
          have HS6 := Lib.hid (HS.out.keep hB16)
          have HK6 := Lib.hid (HK.out.onB hB16)
          have hgw6 : w.heap.size ≤ w6.heap.size := HK6.out.size
          clear h6 hcs8 hix hi8 H6 HH0 HB5 H5 hB16 hsl HP8 HAD HBD tt
          go_wp2_with (refine wpList_load_row rfl 131 (.tmp 7) rfl w4.heap.size rfl 131 cs8 (0, 0) _ H6'.out Tryz.underlying131 rfl HI8.out ?_)
          go_loopw [9, 55] (fun v i wr => ∃ k : Nat, i = .int .i64 k ∧ k ≤ 8 ∧ Hid (wr.ownsRow w6.heap.size 5 1 v (2 * k) (bv (gby (vs.take k)))) ∧ Hid (Below w6.heap.size w6 wr)) (fun _ i _ => 8 - (intOf i).toNat)
          case atStart => exact ⟨0, rfl, by omega, World.ownsRow_nil _ _ _ _, Below.refl _ _⟩
          case round =>
            obtain ⟨k, rfl, hk, HO, HB⟩ := hrel
            have hsz := HB.out.size
            by_cases hlt : k < 8
            · have hj : k < vs.length := by rw [HV8.out]; exact hlt
              have hidx := fun W => HIX.out k hj W
              have hvk := HLT.out _ (List.getElem_mem hj)
              have HG := Lib.hid (gby_snoc vs k hj)
              generalize vs[k]'hj = vk at *
              have HPT := Lib.hid (fun W => put16_new vk hvk W)
              go_wp2_with (first
                | (go_at_call 37; refine (HPT.out _).mono ?_; rintro e w7 ⟨g7, rfl, BS7, B7⟩; have HBS7 := Lib.hid BS7; have HO7 := Lib.hid (own_below HO.out B7 (Nat.le_refl _)); have HB7 := Lib.hid (HB.out.trans (B7.mono hsz)); have hsz7 := HB7.out.size; clear BS7 B7)
                | (at_builtin; refine wpList_append_bs rfl (.tmp 58) (.tmp 60) 48 rfl w6.heap.size 5 i0 _ Tryz.underlying48 hi0 hz0 hz1 hz2 rfl _ (2 * k) (bv (gby (vs.take k))) rfl HO7.out _ _ (some ⟨g7, 0, none⟩) 2 [UInt8.ofNat (vk / 256), UInt8.ofNat (vk % 256)] rfl HBS7.out (fun e => by cases e) (by simp; omega) hsz7 ?_; intro v8 w8 O8 G8; have HB8 := Lib.hid (HB7.out.grown G8 hsz7 (fun j hj => (HO7.out.lt j hj).1)); have HO8 := Lib.hid (own_to O8 (m := 2 * (k + 1)) (ys := bv (gby (vs.take (k + 1)))) (by simp; omega) (by rw [HG.out, bv_append])); clear O8 G8))
              exact ⟨⟨k + 1, rfl, by omega, HO8.out, HB8.out⟩, by simp [intOf]; omega⟩
            · obtain rfl : k = 8 := by omega
              have hvt : vs.take 8 = vs := List.take_of_length_le (by rw [HV8.out]; exact Nat.le_refl _)
              have hO := HO.out
              rw [hvt] at hO
              have hcv := run_convert_own wr (P := Tryz.prog) 48 9 5 Tryz.underlying48 Tryz.underlying5 Tryz.underlying9 w6.heap.size _ _ (gby vs) hO
              have hrr : gby vs = r := HR.out
              rw [hrr] at hcv
              have HSW := Lib.hid (HS6.out.keep HB.out)
              have HKW := Lib.hid (HK6.out.onB HB.out)
              have c2 := HSW.out.cell2
              have f2 := HSW.out.free 2
              clear hO hvt hrr
              go_wp2
              go_end0
              exact ⟨rfl, HSW.out.put (i := 2) (u := sv r) rfl (fun v => rfl), HKW.out.set 2 _⟩
end
end Go.Proofs.YtopcklpmeaghmaaGreatDoor
