/- Texts of the proofs, merged. -/
import Derived.Test.YtgcaephfhfkjcaaGreatDoorZh24
import Derived.Laws.CopyOwn
import Derived.Deep.CutRange
import Derived.Test.YtgcaephfhfkjcaaGreatDoorZh9
namespace Go.Proofs.YtgcaephfhfkjcaaGreatDoor
open Go.RowKit

theorem cut2_any (s : List UInt8) (w : World) (hs : s.length < 4294967281) (hm : ∃ m : Int, w.cell? ⟨2, 0, none⟩ = some (.int .i64 m)) :
    Calls Tryz.prog 166 #[sv s, .string ⟨#[58, 58]⟩] w fun e w' => e = .returned (.tuple #[sv (Rd.cut2 s).1, sv (Rd.cut2 s).2.1, .bool (Rd.cut2 s).2.2]) ∧ ∃ n, w' = w.drewN n := by
  obtain ⟨m, hm⟩ := hm
  have H := Tryz.strings_Cut ⟨s.toArray⟩ ⟨#[58, 58]⟩ m w (by simpa [ByteArray.size] using hs) hm
  have e : Lib.cut (⟨s.toArray⟩ : ByteArray).data.toList (⟨#[58, 58]⟩ : ByteArray).data.toList = Rd.cut2 s := Rd.cut2_lib s
  rw [e] at H
  exact H
theorem Rd.cut2_len : ∀ s : List UInt8, (Rd.cut2 s).1.length ≤ s.length ∧ (Rd.cut2 s).2.1.length ≤ s.length
  | [] => ⟨Nat.le_refl _, Nat.le_refl _⟩
  | [c] => by simp [Rd.cut2]
  | c :: d :: r => by
    have := Rd.cut2_len (d :: r)
    rw [Rd.cut2]
    split
    · simp; omega
    · simp at this ⊢
      omega
theorem own_ad {B n cp : Nat} {w : World} {e : TypeId} {A : Option Addr} {xs : List Value} (h : w.ownsRow B e 1 (.slice A n cp) n xs) (h0 : 0 < xs.length) : ∃ ad, A = some ad ∧ ∀ j v, xs[j]? = some v → w.cell? (ad.add j) = some v := by
  rcases h.2 with ⟨hv, h00⟩ | ⟨g, cap, cur, hv, _⟩
  · have := h.1; omega
  · injection hv with h1 h2 h3
    subst h1
    exact ⟨_, rfl, fun j v hj => h.cells (g := g) rfl j v hj⟩
/-- eight numbers, an array. -/
def z8 : List Value := List.replicate 8 (.int .u16 0)
theorem splice_two (a b : List Nat) (h : a.length + b.length ≤ 8) : splice (splice z8 0 (u16s a)) (8 - b.length) (u16s b) = u16s (a ++ List.replicate (8 - (a.length + b.length)) 0 ++ b) := by
  have ha : (u16s a).length = a.length := by simp [u16s]
  have hb : (u16s b).length = b.length := by simp [u16s]
  have e1 : splice z8 0 (u16s a) = u16s (a ++ List.replicate (8 - a.length) 0) := by
    unfold splice z8 u16s
    rw [List.take_zero, List.nil_append, List.map_append, List.drop_replicate, List.map_replicate, List.length_map, Nat.zero_add]
    rfl
  rw [e1]
  have e2 : a ++ List.replicate (8 - a.length) 0 = (a ++ List.replicate (8 - (a.length + b.length)) 0) ++ List.replicate b.length 0 := by
    rw [List.append_assoc, List.replicate_append_replicate]
    congr 2
    omega
  have hl : (a ++ List.replicate (8 - (a.length + b.length)) 0).length = 8 - b.length := by simp; omega
  rw [e2]
  generalize a ++ List.replicate (8 - (a.length + b.length)) 0 = c at *
  unfold splice u16s
  rw [← hl, List.map_append, List.map_append, List.length_map, List.take_left' (by simp), List.drop_eq_nil_of_le (by simp), List.append_nil]
set_option maxRecDepth 20000 in
theorem arr8_run (a b c d e f g h : Int) (k : Nat) (hk : k < 8) (W : World) : (Instr.index 217 (.agg #[.int .u16 a, .int .u16 b, .int .u16 c, .int .u16 d, .int .u16 e, .int .u16 f, .int .u16 g, .int .u16 h]) (.int .i64 (k : Nat))).run Tryz.prog W = .ok (([.int .u16 a, .int .u16 b, .int .u16 c, .int .u16 d, .int .u16 e, .int .u16 f, .int .u16 g, .int .u16 h] : List Value)[k]) W := by
  rcases (by omega : k = 0 ∨ k = 1 ∨ k = 2 ∨ k = 3 ∨ k = 4 ∨ k = 5 ∨ k = 6 ∨ k = 7) with rfl | rfl | rfl | rfl | rfl | rfl | rfl | rfl <;> rfl
set_option maxRecDepth 20000 in
theorem arr8_at {vs : List Nat} (h8 : vs.length = 8) {k : Nat} (hk : k < vs.length) (W : World) : (Instr.index 217 (.agg (u16s vs).toArray) (.int .i64 (k : Nat))).run Tryz.prog W = .ok (.int .u16 ((vs[k]'hk : Nat) : Int)) W := by
  match vs, h8, hk with
  | [a, b, c, d, e, f, g, h], _, hk =>
    refine (arr8_run a b c d e f g h k hk W).trans ?_
    have h' : k < 8 := hk
    rcases (by omega : k = 0 ∨ k = 1 ∨ k = 2 ∨ k = 3 ∨ k = 4 ∨ k = 5 ∨ k = 6 ∨ k = 7) with rfl | rfl | rfl | rfl | rfl | rfl | rfl | rfl <;> rfl
theorem slice8 (G nb : Nat) (hn : nb ≤ 8) : ∃ p : Addr, (∀ W, (Instr.sliceAt 217 (.pointer (some ⟨G, 0, none⟩)) (some (.int .i64 (8 - (nb : Int)))) none none).run Tryz.prog W = .ok (.slice (some p) nb nb) W) ∧ (0 < nb → p = ⟨G, 8 - nb, none⟩) := by
  have hal : Tryz.prog.arrayLen 217 = 8 := by kernel_rfl
  by_cases h0 : nb = 0
  · subst h0
    refine ⟨⟨G, 0, none⟩, fun W => ?_, fun h => absurd h (by omega)⟩
    rw [run_sliceAt_array_l W 217 ⟨G, 0, none⟩ (by kernel_rfl) .i64 _ (by omega) (by rw [hal]; omega), hal]
    go_simp
  · refine ⟨⟨G, 8 - nb, none⟩, fun W => ?_, fun _ => rfl⟩
    rcases (by omega : nb = 1 ∨ nb = 2 ∨ nb = 3 ∨ nb = 4 ∨ nb = 5 ∨ nb = 6 ∨ nb = 7 ∨ nb = 8) with rfl | rfl | rfl | rfl | rfl | rfl | rfl | rfl
    all_goals
      rw [run_sliceAt_array_l W 217 ⟨G, 0, none⟩ (by kernel_rfl) .i64 _ (by omega) (by rw [hal]; omega), hal]
      go_simp
theorem put16_new (v : Nat) (hv : v < 65536) (W : World) :
    Calls Tryz.prog 168 #[.slice none 0 0, .int .u16 v] W fun e w' => ∃ g, e = .returned (.slice (some ⟨g, 0, none⟩) 2 2) ∧ Bs w' W.heap.size w'.heap.size (some ⟨g, 0, none⟩) [UInt8.ofNat (v / 256), UInt8.ofNat (v % 256)] ∧ Below W.heap.size W w' := by
  refine (put_u16 none [] 0 v W (Nat.le_refl _) (by simp) hv 0 Bs.nil).mono ?_
  rintro e w' ⟨g, cp, rfl, O, B⟩
  refine ⟨g, rfl, ?_, B⟩
  have hb : ([] ++ Oc.beb 2 v : List UInt8) = [UInt8.ofNat (v / 256), UInt8.ofNat (v % 256)] := by
    have e : UInt8.ofNat v = UInt8.ofNat (v % 256) := UInt8.toNat_inj.1 (by simp)
    simp [Oc.beb, ← e]
  rw [hb] at O
  exact Bs.of_own O
/-- the bytes of groups. -/
def gby (vs : List Nat) : List UInt8 := vs.flatMap fun g => [UInt8.ofNat (g / 256), UInt8.ofNat (g % 256)]
theorem gby_snoc (vs : List Nat) (k : Nat) (h : k < vs.length) : gby (vs.take (k + 1)) = gby (vs.take k) ++ [UInt8.ofNat ((vs[k]'h) / 256), UInt8.ofNat ((vs[k]'h) % 256)] := by
  rw [List.take_succ_eq_append_getElem h]
  unfold gby
  rw [List.flatMap_append]
  simp
theorem Rd.hexR_lt {s : List UInt8} {v : Nat} (h : Rd.hexR s = some v) : v < 65536 := by
  unfold Rd.hexR at h
  by_cases hb : s.length = 0 ∨ 4 < s.length
  · rw [if_pos hb] at h; cases h
  rw [if_neg hb, Rd.hexV_hxa] at h
  have := (Rd.hxa_le h).2
  have h16 : 16 ^ s.length ≤ 16 ^ 4 := Nat.pow_le_pow_right (by decide) (by omega)
  omega
theorem Rd.groupsR_lt {s : List UInt8} {vs : List Nat} (h : Rd.groupsR s = some vs) : ∀ v ∈ vs, v < 65536 := by
  unfold Rd.groupsR at h
  by_cases h0 : s = []
  · rw [if_pos h0] at h
    injection h with h
    subst h
    intro v hv; cases hv
  · rw [if_neg h0] at h
    obtain ⟨e1, e2⟩ := Rd.allM_at h
    intro v hv
    obtain ⟨j, hj, rfl⟩ := List.getElem_of_mem hv
    exact Rd.hexR_lt (e2 j (by omega) hj)
section
variable {g hi n : Nat} {o : ByteArray} {ws : List Rd.W2} {x : Rd.W2} {d : Rd.Dt} {w : World}
set_option maxHeartbeats 2000000 in
set_option maxRecDepth 100000 in
theorem rdEight_ok (h : St w g hi o (x :: ws) d n) (hx : x.2 = false) (h32 : x.1.length < 4294967281) {r : List UInt8} (hr : Rd.addr16 x.1 = some r) :
    Calls Tryz.prog 144 #[.pointer (some ⟨g, 0, none⟩)] w fun e w' => e = .returned (.tuple #[]) ∧ St w' g hi o ws { d with raw := r } n ∧ Kb g w.heap.size w w' := by
  obtain ⟨i0, hi0, hz0, hz1, hz2⟩ := info_parts Tryz.infoByte
  have hgw := h.lt
  have hi8n : (Tryz.prog.info? 217).map (·.size) = some 8 := by kernel_rfl
  have HP := Lib.hid (rdPlain_any h hx)
  have HCT := Lib.hid (fun (W : World) hm => cut2_any x.1 W h32 hm)
  have hcl := Rd.cut2_len x.1
  clear h
  obtain ⟨F, hF⟩ : ∃ F, (Rd.cut2 x.1).1 = F := ⟨_, rfl⟩
  obtain ⟨T, hT⟩ : ∃ T, (Rd.cut2 x.1).2.1 = T := ⟨_, rfl⟩
  obtain ⟨c, hc⟩ : ∃ c, (Rd.cut2 x.1).2.2 = c := ⟨_, rfl⟩
  unfold Rd.addr16 at hr
  rw [hF, hT, hc] at hr
  rw [hF, hT, hc] at HCT
  rw [hF, hT] at hcl
  clear hF hT hc
  cases ha : Rd.groupsR F with
  | none => rw [ha] at hr; cases hr
  | some a =>
    cases hb : Rd.groupsR T with
    | none => rw [ha, hb] at hr; cases hr
    | some b =>
      rw [ha, hb] at hr
      by_cases hno : (c = true ∧ 8 ≤ a.length + b.length) ∨ (c = false ∧ a.length + b.length ≠ 8)
      · simp only [hno, if_true] at hr; cases hr
      · simp only [hno, if_false] at hr
        injection hr with hr
        have hab : a.length + b.length ≤ 8 := by
          cases c with
          | true => simp at hno; omega
          | false => simp at hno; omega
        have t1 : c = true → decide ((8 : Int) ≤ (a.length : Int) + (b.length : Int)) = false := fun e => by simp [e] at hno; simp; omega
        have t2 : c = false → ((a.length : Int) + (b.length : Int) != 8) = false := fun e => by simp [e] at hno; simp; omega
        have T1 := Lib.hid t1
        have T2 := Lib.hid t2
        clear t1 t2
        have HA := Lib.hid (fun (p : Value) (W : World) hm => rdGroups_ok p F W (by omega) hm ha)
        have HB := Lib.hid (fun (p : Value) (W : World) hm => rdGroups_ok p T W (by omega) hm hb)
        obtain ⟨vs, hvs⟩ : ∃ vs, a ++ List.replicate (8 - (a.length + b.length)) 0 ++ b = vs := ⟨_, rfl⟩
        have hv8 : vs.length = 8 := by rw [← hvs]; simp; omega
        have hlt : ∀ v ∈ vs, v < 65536 := fun v hv => by
          rw [← hvs] at hv
          rcases List.mem_append.1 hv with hv | hv
          · rcases List.mem_append.1 hv with hv | hv
            · exact Rd.groupsR_lt ha v hv
            · rw [(List.mem_replicate.1 hv).2]; decide
          · exact Rd.groupsR_lt hb v hv
        have HLT := Lib.hid hlt
        clear hlt
        have hsp := splice_two a b hab
        rw [hvs] at hr hsp
        have HSP := Lib.hid hsp
        have HR := Lib.hid hr
        have HV8 := Lib.hid hv8
        clear hr hno ha hb hvs hsp hv8
        go_enter Tryz.func144, Tryz.ntmps144
        go_upto_region 3 with (first
          | (go_at_call 138; refine HP.out.mono ?_; rintro e w1 ⟨rfl, S1, K1⟩; have HS := Lib.hid S1; have HK := Lib.hid K1; clear S1 K1)
          | (go_at_call 166; refine (HCT.out _ HS.out.ml).mono ?_; rintro e w2 ⟨rfl, nd, E2⟩; have B2 : Below w1.heap.size w1 w2 := (by rw [E2]; exact below_drewN (Below.refl _ _) _); have HB2 := Lib.hid B2; have HS2 := Lib.hid (HS.out.keep B2); clear E2 B2)
          | (go_at_call 167; (with_reducible refine (HA.out _ _ HS2.out.ml).mono ?_); rintro e w3 ⟨v3, rfl, O3, B3⟩; have HO3 := Lib.hid O3; have HB3 := Lib.hid B3; have HS3 := Lib.hid (HS2.out.keep B3); clear O3 B3)
          | (go_at_call 167; (with_reducible refine (HB.out _ _ HS3.out.ml).mono ?_); rintro e w4 ⟨v4, rfl, O4, B4⟩; have HO4 := Lib.hid O4; have HB4 := Lib.hid B4; have HS4 := Lib.hid (HS3.out.keep B4); clear O4 B4))
        have hsz1 := HB2.out.size
        have hsz2 := HB3.out.size
        have hsz3 := HB4.out.size
        have O3 := own_below HO3.out HB4.out (Nat.le_refl _)
        have O4 := HO4.out
        obtain ⟨Aa, ca, rfl⟩ := own_form O3
        obtain ⟨Ab, cb, rfl⟩ := own_form O4
        have HB0 := Lib.hid ((Below.refl w4.heap.size w4).alloc (Nat.le_refl _) (.cells #[.int .u16 0, .int .u16 0, .int .u16 0, .int .u16 0, .int .u16 0, .int .u16 0, .int .u16 0, .int .u16 0] 217))
        have HH0 : Hid (Has (w4.alloc (.cells #[.int .u16 0, .int .u16 0, .int .u16 0, .int .u16 0, .int .u16 0, .int .u16 0, .int .u16 0, .int .u16 0] 217)) w4.heap.size 217 z8.toArray) := Has.fresh w4 _ _
        have hla : (u16s a).length = a.length := by simp [u16s]
        have hlb : (u16s b).length = b.length := by simp [u16s]
        have hua : (u16s a).length = Nat.min a.length 8 := by rw [hla]; exact (Nat.min_eq_left (by omega)).symm
        have hub : (u16s b).length = Nat.min b.length b.length := by rw [hlb]; exact (Nat.min_self _).symm
        have HUA := Lib.hid hua
        have HUB := Lib.hid hub
        have HLA := Lib.hid hla
        have HLB := Lib.hid hlb
        have h1a : ∀ v ∈ u16s a, v.oneCell' = true := fun v hv => by simp [u16s] at hv; obtain ⟨_, _, rfl⟩ := hv; rfl
        have h1b : ∀ v ∈ u16s b, v.oneCell' = true := fun v hv => by simp [u16s] at hv; obtain ⟨_, _, rfl⟩ := hv; rfl
        have H1A := Lib.hid h1a
        have H1B := Lib.hid h1b
        have HAD := Lib.hid (fun (W : World) (hb : Below w4.heap.size w4 W) (h0 : 0 < (u16s a).length) => own_ad (own_below O3 hb (Nat.le_refl _)) h0)
        have HBD := Lib.hid (fun (W : World) (hb : Below w4.heap.size w4 W) (h0 : 0 < (u16s b).length) => own_ad (own_below O4 hb (Nat.le_refl _)) h0)
        obtain ⟨p8, hsl, hp8⟩ := slice8 w4.heap.size b.length (by omega)
        have HP8 := Lib.hid hp8
        clear hua hub hla hlb h1a h1b O3 O4 hp8
        cases c
        all_goals
          first | have tt := T1.out rfl | have tt := T2.out rfl
          clear T1 T2
          go_upto_region 9 with (first
            | (refine wpList_copy_splice rfl (.tmp 45) (.tmp 46) _ _ rfl 30 Tryz.underlying132 (by kernel_rfl) _ _ _ _ _ _ rfl rfl w4.heap.size 0 z8 217 HH0.out (u16s a) HUA.out (fun h0 => ⟨rfl, HAD.out _ HB0.out h0⟩) (by rw [HLA.out]; simp [z8]; omega) H1A.out w4.heap.size w4 HB0.out (Nat.le_refl _) ?_; intro w5 H5 B5; have HB5 := Lib.hid B5; clear B5)
            | (refine wpList_copy_splice rfl (.tmp 51) (.tmp 52) _ _ rfl 30 Tryz.underlying132 (by kernel_rfl) _ _ _ _ _ _ rfl rfl w4.heap.size (8 - b.length) (splice z8 0 (u16s a)) 217 H5.out (u16s b) HUB.out (fun h0 => ⟨by rw [HP8.out (by rw [HLB.out] at h0; exact h0)], HBD.out _ HB5.out h0⟩) (by rw [length_splice _ _ _ (by rw [HLA.out]; simp [z8]; omega), HLB.out]; simp [z8]; omega) H1B.out w4.heap.size w4 HB5.out (Nat.le_refl _) ?_; intro w6 H6 B6; have HB6 := Lib.hid B6; clear B6))
          have h6 : w6.heap[w4.heap.size]? = some (.cells (u16s vs).toArray 217 (0, 0)) := by rw [← HSP.out]; exact H6.out
          obtain ⟨cs8, hcs8⟩ : ∃ c, (u16s vs).toArray = c := ⟨_, rfl⟩
          have hix : ∀ k (hk : k < vs.length) (W : World), (Instr.index 217 (.agg cs8) (.int .i64 (k : Nat))).run Tryz.prog W = .ok (.int .u16 ((vs[k]'hk : Nat) : Int)) W := fun k hk W => by rw [← hcs8]; exact arr8_at HV8.out hk W
          have HIX := Lib.hid hix
          have hi8 : (Tryz.prog.info? 217).map (·.size) = some cs8.size := by
            have : cs8.size = 8 := by rw [← hcs8]; simp [u16s, HV8.out]
            rw [this]
            exact hi8n
          have HI8 := Lib.hid hi8
          rw [hcs8] at h6
          have H6' := Lib.hid h6
          have hB16 := HB2.out.trans ((HB3.out.trans ((HB4.out.trans (HB6.out.mono (by omega))).mono (by omega))).mono (by omega))
          have HS6 := Lib.hid (HS.out.keep hB16)
          have HK6 := Lib.hid (HK.out.onB hB16)
          have hgw6 : w.heap.size ≤ w6.heap.size := HK6.out.size
          clear h6 hcs8 hix hi8 H6 HH0 HB5 H5 hB16 hsl HP8 HAD HBD tt
          go_wp2_with (refine wpList_load_row rfl 217 (.tmp 7) rfl w4.heap.size rfl 217 cs8 (0, 0) _ H6'.out Tryz.underlying217 rfl HI8.out ?_)
          go_loopw [9, 55] (fun v i wr => ∃ k : Nat, i = .int .i64 k ∧ k ≤ 8 ∧ Hid (wr.ownsRow w6.heap.size 5 1 v (2 * k) (bv (gby (vs.take k)))) ∧ Hid (Below w6.heap.size w6 wr)) (fun _ i _ => 8 - (intOf i).toNat)
          case atStart => exact ⟨0, rfl, by omega, World.ownsRow_nil _ _ _ _, Below.refl _ _⟩
          case round =>
            obtain ⟨k, rfl, hk, HO, HB⟩ := hrel
            have hsz := HB.out.size
            by_cases hlt : k < 8
            · have hj : k < vs.length := by rw [HV8.out]; exact hlt
              have hidx := fun W => HIX.out k hj W
              have hvk := HLT.out _ (List.getElem_mem hj)
              have HG := Lib.hid (gby_snoc vs k hj)
              generalize vs[k]'hj = vk at *
              have HPT := Lib.hid (fun W => put16_new vk hvk W)
              go_wp2_with (first
                | (go_at_call 168; refine (HPT.out _).mono ?_; rintro e w7 ⟨g7, rfl, BS7, B7⟩; have HBS7 := Lib.hid BS7; have HO7 := Lib.hid (own_below HO.out B7 (Nat.le_refl _)); have HB7 := Lib.hid (HB.out.trans (B7.mono hsz)); have hsz7 := HB7.out.size; clear BS7 B7)
                | (at_builtin; refine wpList_append_bs rfl (.tmp 58) (.tmp 60) 56 rfl w6.heap.size 5 i0 _ Tryz.underlying56 hi0 hz0 hz1 hz2 rfl _ (2 * k) (bv (gby (vs.take k))) rfl HO7.out _ _ (some ⟨g7, 0, none⟩) 2 [UInt8.ofNat (vk / 256), UInt8.ofNat (vk % 256)] rfl HBS7.out (fun e => by cases e) (by simp; omega) hsz7 ?_; intro v8 w8 O8 G8; have HB8 := Lib.hid (HB7.out.grown G8 hsz7 (fun j hj => (HO7.out.lt j hj).1)); have HO8 := Lib.hid (own_to O8 (m := 2 * (k + 1)) (ys := bv (gby (vs.take (k + 1)))) (by simp; omega) (by rw [HG.out, bv_append])); clear O8 G8))
              exact ⟨⟨k + 1, rfl, by omega, HO8.out, HB8.out⟩, by simp [intOf]; omega⟩
            · obtain rfl : k = 8 := by omega
              have hvt : vs.take 8 = vs := List.take_of_length_le (by rw [HV8.out]; exact Nat.le_refl _)
              have hO := HO.out
              rw [hvt] at hO
              have hcv := run_convert_own wr (P := Tryz.prog) 56 9 5 Tryz.underlying56 Tryz.underlying5 Tryz.underlying9 w6.heap.size _ _ (gby vs) hO
              have hrr : gby vs = r := HR.out
              rw [hrr] at hcv
              have HSW := Lib.hid (HS6.out.keep HB.out)
              have HKW := Lib.hid (HK6.out.onB HB.out)
              have c2 := HSW.out.cell2
              have f2 := HSW.out.free 2
              clear hO hvt hrr
              go_wp2
              go_end0
              exact ⟨rfl, HSW.out.put (i := 2) (u := sv r) rfl (fun v => rfl), HKW.out.set 2 _⟩
end
end Go.Proofs.YtgcaephfhfkjcaaGreatDoor
namespace Go.Proofs.YtgcaephfhfkjcaaGreatDoor
open Go.RowKit

/-- the call that reads a part. -/
def rdF : Nat → FuncId
  | 0 => 142
  | 1 => 143
  | 2 => 144
  | 3 => 145
  | 4 => 139
  | 5 => 146
  | 6 => 146
  | 7 => 147
  | 8 => 148
  | _ => 149
theorem pass_any (p : Value) (w : World) : Calls Tryz.prog 142 #[p] w fun e w' => e = .returned (.tuple #[]) ∧ w = w' := by
  go_enter Tryz.func142, Tryz.ntmps142
  go_wp2
  go_end0
  exact ⟨rfl, rfl⟩
theorem Rd.plainW_some {ws : List Rd.W2} {y : List UInt8 × List Rd.W2} (h : Rd.plainW ws = some y) : ∃ x rest, ws = x :: rest ∧ x.2 = false ∧ y = (x.1, rest) := by
  cases ws with
  | nil => cases h
  | cons x r =>
    rw [Rd.plainW] at h
    cases hx : x.2 with
    | true => rw [hx] at h; cases h
    | false =>
      rw [hx] at h
      injection h with h
      exact ⟨x, r, rfl, hx, h.symm⟩
theorem Rd.bind_some' {α β : Type} {o : Option α} {f : α → Option β} {b : β} (h : o.bind f = some b) : ∃ a, o = some a ∧ f a = some b := by
  cases o with
  | none => cases h
  | some a => exact ⟨a, rfl, h⟩
theorem Rd.map_some' {α β : Type} {o : Option α} {f : α → β} {b : β} (h : o.map f = some b) : ∃ a, o = some a ∧ f a = b := by
  cases o with
  | none => cases h
  | some a => injection h with h; exact ⟨a, rfl, h⟩
section
variable {g hi n p : Nat} {o : ByteArray} {ws : List Rd.W2} {d : Rd.Dt} {w : World} {s' : Rd.RS}
theorem part_ok (h : St w g hi o ws d n) (hp : p ≤ 9) (hr : Rd.rdP o.data.toList p (ws, d, n) = some s') (hn : p = 8 ∨ p = 9 → n < 5) (h32 : ∀ x ∈ ws, x.1.length < 4294967281) (ho : o.size ≤ 140737488355328) :
    (Calls Tryz.prog (rdF p) #[.pointer (some ⟨g, 0, none⟩)] w fun e w' => e = .returned (.tuple #[]) ∧ St w' g hi o s'.1 s'.2.1 s'.2.2 ∧ Kb g w.heap.size w w') ∧ (∀ x ∈ s'.1, x ∈ ws) ∧ s'.2.2 = n + (if p = 8 ∨ p = 9 then 1 else 0) := by
  unfold Rd.rdP at hr
  by_cases h0 : p = 0
  · subst h0
    injection hr with hr
    subst hr
    exact ⟨(pass_any _ w).mono fun e w' ⟨he, hw⟩ => ⟨he, hw ▸ h, hw ▸ Kb.refl _ _ _⟩, fun x hx => hx, rfl⟩
  rw [if_neg h0] at hr
  by_cases h1 : p = 1
  · subst h1
    rw [if_pos rfl] at hr
    obtain ⟨y, hy, hr⟩ := Rd.bind_some' hr
    obtain ⟨x, rest, rfl, hx, rfl⟩ := Rd.plainW_some hy
    obtain ⟨r, hq, rfl⟩ := Rd.map_some' hr
    exact ⟨rdFour_ok h hx (h32 x (by simp)) hq, fun x hx => by simp [hx], rfl⟩
  rw [if_neg h1] at hr
  by_cases h2 : p = 2
  · subst h2
    rw [if_pos rfl] at hr
    obtain ⟨y, hy, hr⟩ := Rd.bind_some' hr
    obtain ⟨x, rest, rfl, hx, rfl⟩ := Rd.plainW_some hy
    obtain ⟨r, hq, rfl⟩ := Rd.map_some' hr
    exact ⟨rdEight_ok h hx (h32 x (by simp)) hq, fun x hx => by simp [hx], rfl⟩
  rw [if_neg h2] at hr
  by_cases h3 : p = 3
  · subst h3
    rw [if_pos rfl] at hr
    cases ws with
    | nil => rw [if_pos rfl] at hr; cases hr
    | cons x rest =>
      rw [if_neg (by simp)] at hr
      obtain ⟨r, hq, rfl⟩ := Rd.map_some' hr
      exact ⟨rdTexts_ok h hq, fun x hx => by simp at hx, rfl⟩
  rw [if_neg h3] at hr
  by_cases h4 : p = 4
  · rw [if_pos h4] at hr; cases hr
  rw [if_neg h4] at hr
  by_cases h5 : p = 5 ∨ p = 6
  · rw [if_pos h5] at hr
    obtain ⟨y, hy, hr⟩ := Rd.bind_some' hr
    obtain ⟨x, rest, rfl, hx, rfl⟩ := Rd.plainW_some hy
    obtain ⟨r, hq, rfl⟩ := Rd.map_some' hr
    have e : rdF p = 146 := by rcases h5 with rfl | rfl <;> rfl
    rw [e, if_neg (by omega)]
    exact ⟨rdHost_ok h hx ho hq, fun x hx => by simp [hx], rfl⟩
  rw [if_neg h5] at hr
  by_cases h7 : p = 7
  · subst h7
    rw [if_pos rfl] at hr
    obtain ⟨y, hy, hr⟩ := Rd.bind_some' hr
    obtain ⟨x, rest, rfl, hx, rfl⟩ := Rd.plainW_some hy
    obtain ⟨r, hq, rfl⟩ := Rd.map_some' hr
    exact ⟨rdMail_ok h hx ho hq, fun x hx => by simp [hx], rfl⟩
  rw [if_neg h7] at hr
  obtain ⟨y, hy, hr⟩ := Rd.bind_some' hr
  obtain ⟨x, rest, rfl, hx, rfl⟩ := Rd.plainW_some hy
  obtain ⟨r, hq, rfl⟩ := Rd.map_some' hr
  by_cases h8 : p = 8
  · subst h8
    rw [if_pos rfl] at hq
    exact ⟨rdNarrow_ok h hx (hn (.inl rfl)) hq, fun x hx => by simp [hx], rfl⟩
  · obtain rfl : p = 9 := by omega
    rw [if_neg h8] at hq
    exact ⟨rdWide_ok h hx (hn (.inr rfl)) hq, fun x hx => by simp [hx], rfl⟩
end
end Go.Proofs.YtgcaephfhfkjcaaGreatDoor
namespace Go.Proofs.YtgcaephfhfkjcaaGreatDoor
open Go.RowKit

def fnV (g p : Nat) : Value := .func (Fn.func (rdF p)) #[.pointer (some ⟨g, 0, none⟩)] #[]
def fnTab (g : Nat) : Array Value := #[fnV g 0, fnV g 1, fnV g 2, fnV g 3, fnV g 4, fnV g 5, fnV g 6, fnV g 7, fnV g 8, fnV g 9]
theorem fnTab_at (g : Nat) {p : Nat} (hp : p ≤ 9) : (fnTab g)[p]? = some (fnV g p) := by
  rcases (by omega : p = 0 ∨ p = 1 ∨ p = 2 ∨ p = 3 ∨ p = 4 ∨ p = 5 ∨ p = 6 ∨ p = 7 ∨ p = 8 ∨ p = 9) with rfl | rfl | rfl | rfl | rfl | rfl | rfl | rfl | rfl | rfl <;> rfl
theorem new_at (w : World) {k : Nat} (o : Obj) (hk : k = w.heap.size) : (w.alloc o).heap[k]? = some o := by
  subst hk
  exact heap_alloc_new w o
section
variable {g hi t : Nat} {o : ByteArray} {ws : List Rd.W2} {d : Rd.Dt} {w : World}
set_option maxHeartbeats 2000000 in
set_option maxRecDepth 100000 in
theorem rdKnown_ok (h : St w g hi o ws Rd.dt0 0) (ht : t ≤ 65535) (hr : Rd.knownR o.data.toList t ws = some d) (h32 : ∀ x ∈ ws, x.1.length < 4294967281) (ho : o.size ≤ 140737488355328) :
    Calls Tryz.prog 120 #[.pointer (some ⟨g, 0, none⟩), .int .u16 t] w fun e w' => e = .returned (dv d).val ∧ Kb g w.heap.size w w' := by
  unfold Rd.knownR at hr
  obtain ⟨S, hS, hq⟩ := Rd.bind_some' hr
  clear hr
  have hS0 : S.1 = [] := Decidable.byContradiction fun hS0 => by rw [if_neg hS0] at hq; cases hq
  rw [if_pos hS0] at hq
  injection hq with hr
  have hgw := h.lt
  have hmf : ∀ (fn : Fn) (first cap : Array Value) (W : World), (Instr.makeFunc fn first cap).run Tryz.prog W = .ok (.func fn first cap) W := fun _ _ _ _ => rfl
  have HS0 := Lib.hid h
  have HALL := Lib.hid hS
  have HE := Lib.hid hS0
  have HR := Lib.hid hr
  have H32 := Lib.hid h32
  have HPO : Hid (∀ W : World, LayR W → Calls Tryz.prog 57 #[.int .u16 t] W fun e w' => e = .returned (.agg (partC t)) ∧ Below W.heap.size W w') := fun W h => partsOf_any t W ht h
  clear h hS hS0 h32
  clear hr
  go_enter Tryz.func120, Tryz.ntmps120
  go_upto_region 2 with (refine wpList_store_row rfl 195 (.tmp 5) (.tmp 28) rfl (w.heap.size + 1) (fnTab g) rfl rfl 195 _ (new_at _ _ (by simp)) (by kernel_rfl) rfl (by simp [fnTab, fnV, Value.oneCell']) ?_)
  have hH1 : Has ((w.alloc (.cells #[.string ⟨#[]⟩, .string ⟨#[]⟩, .string ⟨#[]⟩, .int .u32 0, .int .u32 0, .int .u32 0, .int .u32 0, .int .u32 0] 34)).alloc (.cells #[.nilFunc, .nilFunc, .nilFunc, .nilFunc, .nilFunc, .nilFunc, .nilFunc, .nilFunc, .nilFunc, .nilFunc] 195)) (w.heap.size + 1) 195 #[.nilFunc, .nilFunc, .nilFunc, .nilFunc, .nilFunc, .nilFunc, .nilFunc, .nilFunc, .nilFunc, .nilFunc] := new_at _ _ (by simp)
  have hH0 := ((Has.fresh w 34 #[.string ⟨#[]⟩, .string ⟨#[]⟩, .string ⟨#[]⟩, .int .u32 0, .int .u32 0, .int .u32 0, .int .u32 0, .int .u32 0]).alloc (.cells #[.nilFunc, .nilFunc, .nilFunc, .nilFunc, .nilFunc, .nilFunc, .nilFunc, .nilFunc, .nilFunc, .nilFunc] 195)).rowFar (g' := w.heap.size + 1) (by omega) (fnTab g)
  have hH2 := hH1.row (fnTab g)
  have hB2 := below_setRow (((Below.refl w.heap.size w).alloc (Nat.le_refl _) (.cells #[.string ⟨#[]⟩, .string ⟨#[]⟩, .string ⟨#[]⟩, .int .u32 0, .int .u32 0, .int .u32 0, .int .u32 0, .int .u32 0] 34)).alloc (by simp) (.cells #[.nilFunc, .nilFunc, .nilFunc, .nilFunc, .nilFunc, .nilFunc, .nilFunc, .nilFunc, .nilFunc, .nilFunc] 195)) (g := w.heap.size + 1) (by omega) (fnTab g)
  clear hH1
  generalize World.setRow _ _ _ = W2 at *
  have HH0 := Lib.hid hH0
  have HH2 := Lib.hid hH2
  have HB2 := Lib.hid hB2
  have hW2 := hH2.lt
  have HG2 := Lib.hid (HS0.out.keep hB2)
  clear hH0 hH2 hB2
  go_wp2_with (go_at_call 57; refine (HPO.out _ HG2.out.gl.2.1).mono ?_; rintro e w3 ⟨rfl, B3⟩; have HB3 := Lib.hid B3; have HG3 := Lib.hid (HG2.out.keep B3); have HH03 := Lib.hid (HH0.out.below B3 HH0.out.lt); have HH23 := Lib.hid (HH2.out.below B3 HH2.out.lt); clear B3)
  have HK3 : Hid (Kb g w.heap.size w w3) := Kb.of_below (HB2.out.trans (HB3.out.mono (by omega)))
  have hw3 : W2.heap.size ≤ w3.heap.size := HB3.out.size
  clear HH0 HH2 HG2 HB2 HB3 HPO
  have hpl := Rd.parts_len t
  have HPL := Lib.hid hpl
  clear hpl
  go_loopw [31] (fun i wr => ∃ (k : Nat) (s : Rd.RS), i = .int .i64 k ∧ k ≤ 7 ∧ Hid (St wr g hi o s.1 s.2.1 s.2.2) ∧ Hid (Rd.rdAll o.data.toList ((Rd.parts t).drop k) s = some S) ∧ Hid (∀ x ∈ s.1, x.1.length < 4294967281) ∧ Hid (s.2.2 = Rd.nums ((Rd.parts t).take k)) ∧ Hid (Kb g w.heap.size w wr) ∧ Hid (Has wr (w.heap.size + 1) 195 (fnTab g)) ∧ Hid (Has wr w.heap.size 34 #[.string ⟨#[]⟩, .string ⟨#[]⟩, .string ⟨#[]⟩, .int .u32 0, .int .u32 0, .int .u32 0, .int .u32 0, .int .u32 0])) (fun i _ => 7 - (intOf i).toNat)
  case atStart => exact ⟨0, (ws, Rd.dt0, 0), rfl, by omega, HG3.out, HALL.out, H32.out, rfl, HK3.out, HH23.out, HH03.out⟩
  case round =>
    obtain ⟨k, s, rfl, hk, HST, HAL, H32, HN, HK, HT, HZ⟩ := hrel
    have hwr := HT.out.lt
    by_cases hlt : k < 7
    · have hj : k < (Rd.parts t).length := by rw [HPL.out]; exact hlt
      have hpa := part_at hj
      have hal := HAL.out
      rw [List.drop_eq_getElem_cons hj, Rd.rdAll] at hal
      obtain ⟨s', hs', hal'⟩ := Rd.bind_some' hal
      have hp9 : (Rd.parts t)[k] ≤ 9 := Rd.parts_lt t _ (List.getElem_mem hj)
      have hn5 : (Rd.parts t)[k] = 8 ∨ (Rd.parts t)[k] = 9 → s.2.2 < 5 := fun h => by
        have h1 := Rd.nums_le (t := t) (k := k + 1)
        rw [List.take_succ_eq_append_getElem hj, Rd.nums_snoc, if_pos h] at h1
        rw [HN.out]; omega
      obtain ⟨hC, hsub, hnn⟩ := part_ok (p := (Rd.parts t)[k]) HST.out hp9 hs' hn5 H32.out ho
      have hnn2 : s'.2.2 = Rd.nums ((Rd.parts t).take (k + 1)) := by
        rw [List.take_succ_eq_append_getElem hj, Rd.nums_snoc, ← HN.out]
        exact hnn
      have h4 : (Rd.parts t)[k] ≠ 4 := fun h => by rw [h] at hs'; cases hs'
      have ct : wr.cell? ⟨w.heap.size + 1, (Rd.parts t)[k], none⟩ = some (fnV g (Rd.parts t)[k]) := by rw [HT.out.cell]; exact fnTab_at g hp9
      have HC := Lib.hid hC
      have HAL' := Lib.hid hal'
      have HNN := Lib.hid hnn2
      have H32' := Lib.hid (fun x hx => H32.out x (hsub x hx))
      clear hal hs' hal' hn5 hC hsub hnn hnn2
      generalize (Rd.parts t)[k] = p at *
      clear hj
      rcases (by omega : p = 0 ∨ p = 1 ∨ p = 2 ∨ p = 3 ∨ p = 4 ∨ p = 5 ∨ p = 6 ∨ p = 7 ∨ p = 8 ∨ p = 9) with rfl | rfl | rfl | rfl | rfl | rfl | rfl | rfl | rfl | rfl
      · have ct2 : wr.cell? ⟨w.heap.size + 1, 0, none⟩ = some (.func (Fn.func 142) #[.pointer (some ⟨g, 0, none⟩)] #[]) := ct
        have HC2 : Hid (Calls Tryz.prog 142 #[.pointer (some ⟨g, 0, none⟩)] wr fun e w' => e = .returned (.tuple #[]) ∧ St w' g hi o s'.1 s'.2.1 s'.2.2 ∧ Kb g wr.heap.size wr w') := HC.out
        clear ct HC
        go_wp2_with (go_at_call 142; refine HC2.out.mono ?_; rintro e w4 ⟨rfl, S4, K4⟩; have HS4 := Lib.hid S4; have HT4 := Lib.hid (K4.has HT.out HT.out.lt (by omega)); have HZ4 := Lib.hid (K4.has HZ.out HZ.out.lt (by omega)); have HK4 := Lib.hid (HK.out.on K4); clear S4 K4)
        exact ⟨⟨k + 1, s', by go_num, by omega, HS4.out, HAL'.out, H32'.out, HNN.out, HK4.out, HT4.out, HZ4.out⟩, by simp [intOf]; omega⟩
      · have ct2 : wr.cell? ⟨w.heap.size + 1, 1, none⟩ = some (.func (Fn.func 143) #[.pointer (some ⟨g, 0, none⟩)] #[]) := ct
        have HC2 : Hid (Calls Tryz.prog 143 #[.pointer (some ⟨g, 0, none⟩)] wr fun e w' => e = .returned (.tuple #[]) ∧ St w' g hi o s'.1 s'.2.1 s'.2.2 ∧ Kb g wr.heap.size wr w') := HC.out
        clear ct HC
        go_wp2_with (go_at_call 143; refine HC2.out.mono ?_; rintro e w4 ⟨rfl, S4, K4⟩; have HS4 := Lib.hid S4; have HT4 := Lib.hid (K4.has HT.out HT.out.lt (by omega)); have HZ4 := Lib.hid (K4.has HZ.out HZ.out.lt (by omega)); have HK4 := Lib.hid (HK.out.on K4); clear S4 K4)
        exact ⟨⟨k + 1, s', by go_num, by omega, HS4.out, HAL'.out, H32'.out, HNN.out, HK4.out, HT4.out, HZ4.out⟩, by simp [intOf]; omega⟩
      · have ct2 : wr.cell? ⟨w.heap.size + 1, 2, none⟩ = some (.func (Fn.func 144) #[.pointer (some ⟨g, 0, none⟩)] #[]) := ct
        have HC2 : Hid (Calls Tryz.prog 144 #[.pointer (some ⟨g, 0, none⟩)] wr fun e w' => e = .returned (.tuple #[]) ∧ St w' g hi o s'.1 s'.2.1 s'.2.2 ∧ Kb g wr.heap.size wr w') := HC.out
        clear ct HC
        go_wp2_with (go_at_call 144; refine HC2.out.mono ?_; rintro e w4 ⟨rfl, S4, K4⟩; have HS4 := Lib.hid S4; have HT4 := Lib.hid (K4.has HT.out HT.out.lt (by omega)); have HZ4 := Lib.hid (K4.has HZ.out HZ.out.lt (by omega)); have HK4 := Lib.hid (HK.out.on K4); clear S4 K4)
        exact ⟨⟨k + 1, s', by go_num, by omega, HS4.out, HAL'.out, H32'.out, HNN.out, HK4.out, HT4.out, HZ4.out⟩, by simp [intOf]; omega⟩
      · have ct2 : wr.cell? ⟨w.heap.size + 1, 3, none⟩ = some (.func (Fn.func 145) #[.pointer (some ⟨g, 0, none⟩)] #[]) := ct
        have HC2 : Hid (Calls Tryz.prog 145 #[.pointer (some ⟨g, 0, none⟩)] wr fun e w' => e = .returned (.tuple #[]) ∧ St w' g hi o s'.1 s'.2.1 s'.2.2 ∧ Kb g wr.heap.size wr w') := HC.out
        clear ct HC
        go_wp2_with (go_at_call 145; refine HC2.out.mono ?_; rintro e w4 ⟨rfl, S4, K4⟩; have HS4 := Lib.hid S4; have HT4 := Lib.hid (K4.has HT.out HT.out.lt (by omega)); have HZ4 := Lib.hid (K4.has HZ.out HZ.out.lt (by omega)); have HK4 := Lib.hid (HK.out.on K4); clear S4 K4)
        exact ⟨⟨k + 1, s', by go_num, by omega, HS4.out, HAL'.out, H32'.out, HNN.out, HK4.out, HT4.out, HZ4.out⟩, by simp [intOf]; omega⟩
      · exact absurd rfl h4
      · have ct2 : wr.cell? ⟨w.heap.size + 1, 5, none⟩ = some (.func (Fn.func 146) #[.pointer (some ⟨g, 0, none⟩)] #[]) := ct
        have HC2 : Hid (Calls Tryz.prog 146 #[.pointer (some ⟨g, 0, none⟩)] wr fun e w' => e = .returned (.tuple #[]) ∧ St w' g hi o s'.1 s'.2.1 s'.2.2 ∧ Kb g wr.heap.size wr w') := HC.out
        clear ct HC
        go_wp2_with (go_at_call 146; refine HC2.out.mono ?_; rintro e w4 ⟨rfl, S4, K4⟩; have HS4 := Lib.hid S4; have HT4 := Lib.hid (K4.has HT.out HT.out.lt (by omega)); have HZ4 := Lib.hid (K4.has HZ.out HZ.out.lt (by omega)); have HK4 := Lib.hid (HK.out.on K4); clear S4 K4)
        exact ⟨⟨k + 1, s', by go_num, by omega, HS4.out, HAL'.out, H32'.out, HNN.out, HK4.out, HT4.out, HZ4.out⟩, by simp [intOf]; omega⟩
      · have ct2 : wr.cell? ⟨w.heap.size + 1, 6, none⟩ = some (.func (Fn.func 146) #[.pointer (some ⟨g, 0, none⟩)] #[]) := ct
        have HC2 : Hid (Calls Tryz.prog 146 #[.pointer (some ⟨g, 0, none⟩)] wr fun e w' => e = .returned (.tuple #[]) ∧ St w' g hi o s'.1 s'.2.1 s'.2.2 ∧ Kb g wr.heap.size wr w') := HC.out
        clear ct HC
        go_wp2_with (go_at_call 146; refine HC2.out.mono ?_; rintro e w4 ⟨rfl, S4, K4⟩; have HS4 := Lib.hid S4; have HT4 := Lib.hid (K4.has HT.out HT.out.lt (by omega)); have HZ4 := Lib.hid (K4.has HZ.out HZ.out.lt (by omega)); have HK4 := Lib.hid (HK.out.on K4); clear S4 K4)
        exact ⟨⟨k + 1, s', by go_num, by omega, HS4.out, HAL'.out, H32'.out, HNN.out, HK4.out, HT4.out, HZ4.out⟩, by simp [intOf]; omega⟩
      · have ct2 : wr.cell? ⟨w.heap.size + 1, 7, none⟩ = some (.func (Fn.func 147) #[.pointer (some ⟨g, 0, none⟩)] #[]) := ct
        have HC2 : Hid (Calls Tryz.prog 147 #[.pointer (some ⟨g, 0, none⟩)] wr fun e w' => e = .returned (.tuple #[]) ∧ St w' g hi o s'.1 s'.2.1 s'.2.2 ∧ Kb g wr.heap.size wr w') := HC.out
        clear ct HC
        go_wp2_with (go_at_call 147; refine HC2.out.mono ?_; rintro e w4 ⟨rfl, S4, K4⟩; have HS4 := Lib.hid S4; have HT4 := Lib.hid (K4.has HT.out HT.out.lt (by omega)); have HZ4 := Lib.hid (K4.has HZ.out HZ.out.lt (by omega)); have HK4 := Lib.hid (HK.out.on K4); clear S4 K4)
        exact ⟨⟨k + 1, s', by go_num, by omega, HS4.out, HAL'.out, H32'.out, HNN.out, HK4.out, HT4.out, HZ4.out⟩, by simp [intOf]; omega⟩
      · have ct2 : wr.cell? ⟨w.heap.size + 1, 8, none⟩ = some (.func (Fn.func 148) #[.pointer (some ⟨g, 0, none⟩)] #[]) := ct
        have HC2 : Hid (Calls Tryz.prog 148 #[.pointer (some ⟨g, 0, none⟩)] wr fun e w' => e = .returned (.tuple #[]) ∧ St w' g hi o s'.1 s'.2.1 s'.2.2 ∧ Kb g wr.heap.size wr w') := HC.out
        clear ct HC
        go_wp2_with (go_at_call 148; refine HC2.out.mono ?_; rintro e w4 ⟨rfl, S4, K4⟩; have HS4 := Lib.hid S4; have HT4 := Lib.hid (K4.has HT.out HT.out.lt (by omega)); have HZ4 := Lib.hid (K4.has HZ.out HZ.out.lt (by omega)); have HK4 := Lib.hid (HK.out.on K4); clear S4 K4)
        exact ⟨⟨k + 1, s', by go_num, by omega, HS4.out, HAL'.out, H32'.out, HNN.out, HK4.out, HT4.out, HZ4.out⟩, by simp [intOf]; omega⟩
      · have ct2 : wr.cell? ⟨w.heap.size + 1, 9, none⟩ = some (.func (Fn.func 149) #[.pointer (some ⟨g, 0, none⟩)] #[]) := ct
        have HC2 : Hid (Calls Tryz.prog 149 #[.pointer (some ⟨g, 0, none⟩)] wr fun e w' => e = .returned (.tuple #[]) ∧ St w' g hi o s'.1 s'.2.1 s'.2.2 ∧ Kb g wr.heap.size wr w') := HC.out
        clear ct HC
        go_wp2_with (go_at_call 149; refine HC2.out.mono ?_; rintro e w4 ⟨rfl, S4, K4⟩; have HS4 := Lib.hid S4; have HT4 := Lib.hid (K4.has HT.out HT.out.lt (by omega)); have HZ4 := Lib.hid (K4.has HZ.out HZ.out.lt (by omega)); have HK4 := Lib.hid (HK.out.on K4); clear S4 K4)
        exact ⟨⟨k + 1, s', by go_num, by omega, HS4.out, HAL'.out, H32'.out, HNN.out, HK4.out, HT4.out, HZ4.out⟩, by simp [intOf]; omega⟩
    · obtain rfl : k = 7 := by omega
      have hal := HAL.out
      rw [List.drop_eq_nil_of_le (by rw [HPL.out]; omega)] at hal
      injection hal with hal
      subst hal
      have hst := HST.out
      rw [HE.out] at hst
      obtain ⟨A, c, c0⟩ := hst.front
      obtain ⟨v, hh⟩ := hst.has
      have hrg : wr.rangeAt g 2 [sv s.2.1.raw, sv s.2.1.host, sv s.2.1.mail, .int .u32 s.2.1.n0, .int .u32 s.2.1.n1, .int .u32 s.2.1.n2, .int .u32 s.2.1.n3, .int .u32 s.2.1.n4] := fun j v hj => by
        rw [hh.cell]
        have e : ∀ j, (rdC v o s.2.1 s.2.2)[2 + j]? = (rdC v o s.2.1 s.2.2).toList[2 + j]? := fun j => by simp
        match j, hj with
        | 0, hj => exact hj
        | 1, hj => exact hj
        | 2, hj => exact hj
        | 3, hj => exact hj
        | 4, hj => exact hj
        | 5, hj => exact hj
        | 6, hj => exact hj
        | 7, hj => exact hj
      have hi8 : (Tryz.prog.info? 34).map (·.size) = some 8 := by kernel_rfl
      have HI := Lib.hid hi8
      have HRG := Lib.hid hrg
      have hd : d = s.2.1 := HR.out.symm
      have HD := Lib.hid hd
      clear hst hh hrg hi8 hd
      obtain ⟨dd, hdd⟩ : ∃ dd, s.2.1 = dd := ⟨_, rfl⟩
      rw [hdd] at HRG HD
      clear hdd
      obtain ⟨r, h, m, n0, n1, n2, n3, n4⟩ := dd
      go_wp2_with (first
        | (refine wpList_load_mid rfl 34 (.tmp 49) rfl g 2 rfl [sv r, sv h, sv m, .int .u32 n0, .int .u32 n1, .int .u32 n2, .int .u32 n3, .int .u32 n4] _ HRG.out Tryz.underlying34 rfl HI.out ?_)
        | (refine wpList_store_row rfl 34 (.tmp 4) (.tmp 50) rfl w.heap.size #[sv r, sv h, sv m, .int .u32 n0, .int .u32 n1, .int .u32 n2, .int .u32 n3, .int .u32 n4] rfl rfl 34 _ HZ.out HI.out rfl (by simp [Value.oneCell']) ?_))
      refine bodyPost_ret (results_cell_row rfl _ _ w.heap.size 34 #[sv r, sv h, sv m, .int .u32 n0, .int .u32 n1, .int .u32 n2, .int .u32 n3, .int .u32 n4] (0, 0) _ rfl (HZ.out.row _) Tryz.underlying34 rfl HI.out) rfl ?_
      refine ⟨by rw [HD.out]; rfl, HK.out.trans (Kb.of_below (below_setRow (Below.refl _ _) (Nat.le_refl _) _))⟩
end
end Go.Proofs.YtgcaephfhfkjcaaGreatDoor
