/- Texts of the proofs, merged. -/
import Derived.Test.YtopcklpmeaghmaaGreatDoorG9
import Derived.Test.YtopcklpmeaghmaaGreatDoorG13
import Derived.Test.YtopcklpmeaghmaaGreatDoorG8
/- The document's answer on data: a text's type. -/
namespace Go.Proofs.YtopcklpmeaghmaaGreatDoor
open Go.RowKit

theorem rd_strEq {a n : ByteArray} (h : a.data.toList = n.data.toList) : (a.toList == n.toList) = true :=
  (beq_toListBytes a n).symm.trans <| (MapKept.bytes_beq _ _).2 (by rw [string_eq (s := a) rfl, string_eq (s := n) rfl, h])
theorem rd_strNe {a n : ByteArray} (h : a.data.toList ≠ n.data.toList) : (a.toList == n.toList) = false := by
  rw [← beq_toListBytes, Bool.eq_false_iff]
  intro hb
  have := (MapKept.bytes_beq _ _).1 hb
  subst this
  exact h rfl
theorem sv_str (l : List UInt8) : ∃ s : ByteArray, sv l = .string s ∧ s.data.toList = l := ⟨⟨l.toArray⟩, rfl, rfl⟩
theorem fold_len (l : List UInt8) : (Nm.fold l).length = l.length := by simp [Nm.fold]
/-- what TypeOf answers. -/
def tyV : Option Nat → Value
  | some v => .tuple #[.int .u16 v, .bool true]
  | none => .tuple #[.int .u16 0, .bool false]
theorem Rd.num_le {s : By} {most v : Nat} (h : num s most = some v) : v ≤ most := by
  unfold num at h
  split at h
  · cases h
  · split at h
    · dsimp only at h
      split at h
      · cases h
      · injection h with h; omega
    · cases h
end Go.Proofs.YtopcklpmeaghmaaGreatDoor
/- TypeText, and numbers that texts tell: the program's. -/
namespace Go.Proofs.YtopcklpmeaghmaaGreatDoor
open Go.RowKit

theorem rowNum {w : World} (h : LayR w) {k : Nat} (hk : k < 9) : w.cell? ⟨0, k * 9, none⟩ = some (.int .u16 (Rd.ty k : Nat)) := by
  rw [h.cell]
  exact Rd.nine (p := fun k => rowsCells[k * 9]? = some (.int .u16 (Rd.ty k : Nat))) hk rfl rfl rfl rfl rfl rfl rfl rfl rfl
theorem rowTxt {w : World} (h : LayR w) {k : Nat} (hk : k < 9) : w.cell? ⟨0, k * 9 + 1, none⟩ = some (sv (Rd.txt k)) := by
  rw [h.cell]
  exact Rd.nine (p := fun k => rowsCells[k * 9 + 1]? = some (sv (Rd.txt k))) hk rfl rfl rfl rfl rfl rfl rfl rfl rfl
/-- what number answers. -/
def uintV (o : Option Nat) : Value := match o with
  | some v => .tuple #[.int .u32 v, .bool true]
  | none => .tuple #[.int .u32 0, .bool false]
set_option maxRecDepth 100000 in
theorem parse16_ok (s : ByteArray) (w : World) (hs : s.size ≤ 140737488355328) (hz : ¬ (1 < s.data.toList.length ∧ s.data.toList.head? = some 48)) {v : Nat} (h : Rd.num s.data.toList 65535 = some v) :
    Calls Tryz.prog 73 #[.string s, .int .i64 10, .int .i64 16] w fun e w' => e = .returned (.tuple #[.int .u64 v, .nilIface]) ∧ Below w.heap.size w w' := by
  refine (Tryz.strconv_ParseUint_10_at16_ok s (by omega) v ((Rd.parse16 hz v).2 h) w).mono ?_
  rintro e w' ⟨rfl, rfl | rfl⟩
  · exact ⟨rfl, Below.refl _ _⟩
  · exact ⟨rfl, bytesWorld_below _ _ _⟩
set_option maxRecDepth 100000 in
theorem parse16_no (s : ByteArray) (w : World) (hL : Lay w) (hs : s.size ≤ 140737488355328) (hz : ¬ (1 < s.data.toList.length ∧ s.data.toList.head? = some 48)) (h : Rd.num s.data.toList 65535 = none) :
    Calls Tryz.prog 73 #[.string s, .int .i64 10, .int .i64 16] w fun e w' => ∃ x t a, e = .returned (.tuple #[.int .u64 x, .iface t (.pointer (some a))]) ∧ Below w.heap.size w w' := by
  obtain ⟨⟨t1, p1, h1⟩, t2, p2, h2⟩ := hL
  have hno : ∀ v, Lib.parseUintB 16 s.data.toList ≠ .ok v := fun v hv => by
    have := (Rd.parse16 hz v).1 hv
    rw [h] at this; cases this
  rcases hp : Lib.parseUintB 16 s.data.toList with v | _ | _
  · exact absurd hp (hno v)
  · refine (Tryz.strconv_ParseUint_10_at16_syntax s (by omega) hp _ w h1 (.inr ⟨_, _, rfl⟩)).mono ?_
    rintro e w' ⟨N, rfl, _, _, hb⟩
    exact ⟨_, _, _, rfl, hb⟩
  · refine (Tryz.strconv_ParseUint_10_at16_range s (by omega) hp _ w h2 (.inr ⟨_, _, rfl⟩)).mono ?_
    rintro e w' ⟨N, rfl, _, _, hb⟩
    exact ⟨_, _, _, rfl, hb⟩
set_option maxHeartbeats 1000000 in
set_option maxRecDepth 100000 in
theorem number16_any (s : ByteArray) (w : World) (hL : Lay w) (hs : s.size ≤ 140737488355328) :
    Calls Tryz.prog 93 #[.string s, .int .i64 16] w fun e w' => e = .returned (uintV (Rd.num s.data.toList 65535)) ∧ Below w.heap.size w w' := by
  have hl : s.data.toList.length = s.size := by simp
  have key : ∀ (hz : ¬ (1 < s.data.toList.length ∧ s.data.toList.head? = some 48)), (∃ v, v ≤ 65535 ∧ Rd.num s.data.toList 65535 = some v ∧ Calls Tryz.prog 73 #[.string s, .int .i64 10, .int .i64 16] w fun e w' => e = .returned (.tuple #[.int .u64 v, .nilIface]) ∧ Below w.heap.size w w') ∨
      (Rd.num s.data.toList 65535 = none ∧ Calls Tryz.prog 73 #[.string s, .int .i64 10, .int .i64 16] w fun e w' => ∃ x t a, e = .returned (.tuple #[.int .u64 x, .iface t (.pointer (some a))]) ∧ Below w.heap.size w w') := fun hz => by
    cases h : Rd.num s.data.toList 65535 with
    | some v => exact .inl ⟨v, Rd.num_le h, rfl, parse16_ok s w hs hz h⟩
    | none => exact .inr ⟨rfl, parse16_no s w hL hs hz h⟩
  by_cases h1 : 1 < s.size
  · have h0s : 0 < s.size := by clear hl key; omega
    have hd := Rd.head_of (s := s) h0s
    have hi1 : (1 : Int) < (s.size : Int) := by omega
    by_cases h48 : (s[0]'h0s).toNat = 48
    · have hn : Rd.num s.data.toList 65535 = none := Rd.num_bad (.inr (.inl ⟨by omega, by rw [hd]; congr 1; exact UInt8.toNat_inj.1 h48⟩))
      have HN := Lib.hid hn
      have hb : (((s[0]'h0s).toNat : Int) == 48) = true := by rw [h48]; rfl
      clear hn hd key hl h48
      go_enter Tryz.func93, Tryz.ntmps93
      go_wp2
      go_ret2
      exact ⟨by rw [HN.out]; rfl, Below.refl _ _⟩
    · have hz : ¬ (1 < s.data.toList.length ∧ s.data.toList.head? = some 48) := fun ⟨_, e⟩ => h48 (by rw [hd] at e; injection e with e; rw [e]; rfl)
      have hb : (((s[0]'h0s).toNat : Int) == 48) = false := beq_eq_false_iff_ne.2 (by omega)
      rcases key hz with ⟨v, hv, hn, hc⟩ | ⟨hn, hc⟩
      · have HN := Lib.hid hn
        have HC := Lib.hid hc
        clear hn hc hd key hl h48 hz
        go_enter Tryz.func93, Tryz.ntmps93
        go_wp2_with (go_at_call 73; refine HC.out.mono ?_; rintro e w1 ⟨rfl, hB⟩)
        go_ret2
        exact ⟨by rw [HN.out]; rfl, hB⟩
      · have HN := Lib.hid hn
        have HC := Lib.hid hc
        clear hn hc hd key hl h48 hz
        go_enter Tryz.func93, Tryz.ntmps93
        go_wp2_with (go_at_call 73; refine HC.out.mono ?_; rintro e w1 ⟨x, ty, a, rfl, hB⟩)
        go_ret2
        exact ⟨by rw [HN.out]; rfl, hB⟩
  · have hz : ¬ (1 < s.data.toList.length ∧ s.data.toList.head? = some 48) := fun ⟨e, _⟩ => h1 (by omega)
    rcases key hz with ⟨v, hv, hn, hc⟩ | ⟨hn, hc⟩
    · have HN := Lib.hid hn
      have HC := Lib.hid hc
      clear hn hc key hl hz
      go_enter Tryz.func93, Tryz.ntmps93
      go_wp2_with (go_at_call 73; refine HC.out.mono ?_; rintro e w1 ⟨rfl, hB⟩)
      go_ret2
      exact ⟨by rw [HN.out]; rfl, hB⟩
    · have HN := Lib.hid hn
      have HC := Lib.hid hc
      clear hn hc key hl hz
      go_enter Tryz.func93, Tryz.ntmps93
      go_wp2_with (go_at_call 73; refine HC.out.mono ?_; rintro e w1 ⟨x, ty, a, rfl, hB⟩)
      go_ret2
      exact ⟨by rw [HN.out]; rfl, hB⟩
end Go.Proofs.YtopcklpmeaghmaaGreatDoor
/- The reader's numbers: the program's calls. -/
namespace Go.Proofs.YtopcklpmeaghmaaGreatDoor
open Go.RowKit

set_option maxRecDepth 100000 in
theorem parseB_ok (s : ByteArray) (w : World) (B : Nat) (hB : B = 8 ∨ B = 16 ∨ B = 32) (hs : s.size ≤ 140737488355328) {v : Nat} (h : Rd.num s.data.toList (2 ^ B - 1) = some v) :
    Calls Tryz.prog 73 #[.string s, .int .i64 10, .int .i64 (B : Nat)] w fun e w' => e = .returned (.tuple #[.int .u64 v, .nilIface]) ∧ Below w.heap.size w w' := by
  rcases hB with rfl | rfl | rfl
  · refine (Tryz.strconv_ParseUint_10_at8_ok s (by omega) v (Rd.parse_ok (by decide) h) w).mono ?_
    rintro e w' ⟨rfl, rfl | rfl⟩
    · exact ⟨rfl, Below.refl _ _⟩
    · exact ⟨rfl, bytesWorld_below _ _ _⟩
  · refine (Tryz.strconv_ParseUint_10_at16_ok s (by omega) v (Rd.parse_ok (by decide) h) w).mono ?_
    rintro e w' ⟨rfl, rfl | rfl⟩
    · exact ⟨rfl, Below.refl _ _⟩
    · exact ⟨rfl, bytesWorld_below _ _ _⟩
  · refine (Tryz.strconv_ParseUint_10_at32_ok s (by omega) v (Rd.parse_ok (by decide) h) w).mono ?_
    rintro e w' ⟨rfl, rfl | rfl⟩
    · exact ⟨rfl, Below.refl _ _⟩
    · exact ⟨rfl, bytesWorld_below _ _ _⟩
theorem num_max {s : List UInt8} {B v : Nat} (hB : B = 8 ∨ B = 16 ∨ B = 32) (h : Rd.num s (2 ^ B - 1) = some v) : v ≤ 2 ^ B - 1 ∧ 2 ^ B - 1 ≤ 4294967295 := by
  rcases hB with rfl | rfl | rfl
  all_goals
    have := Rd.num_le h
    exact ⟨this, by decide⟩
set_option maxHeartbeats 1000000 in
set_option maxRecDepth 100000 in
theorem numberB_ok (s : ByteArray) (w : World) (B : Nat) (hB : B = 8 ∨ B = 16 ∨ B = 32) (hs : s.size ≤ 140737488355328) {v : Nat} (h : Rd.num s.data.toList (2 ^ B - 1) = some v) :
    Calls Tryz.prog 93 #[.string s, .int .i64 (B : Nat)] w fun e w' => e = .returned (.tuple #[.int .u32 v, .bool true]) ∧ Below w.heap.size w w' := by
  have hl : s.data.toList.length = s.size := by simp
  obtain ⟨hv1, hv2⟩ := num_max hB h
  have hv : v ≤ 4294967295 := by omega
  have hz := Rd.num_nz h
  have HC := Lib.hid (parseB_ok s w B hB hs h)
  clear h hB hv1 hv2
  by_cases h1 : 1 < s.size
  · have h0s : 0 < s.size := by omega
    have hd := Rd.head_of (s := s) h0s
    have hi1 : (1 : Int) < (s.size : Int) := by omega
    have h48 : (s[0]'h0s).toNat ≠ 48 := fun h48 => hz ⟨by omega, by rw [hd]; congr 1; exact UInt8.toNat_inj.1 h48⟩
    have hb : (((s[0]'h0s).toNat : Int) == 48) = false := beq_eq_false_iff_ne.2 (by omega)
    clear hd hl h48 hz
    go_enter Tryz.func93, Tryz.ntmps93
    go_wp2_with (go_at_call 73; refine HC.out.mono ?_; rintro e w1 ⟨rfl, hB⟩)
    go_ret2
    exact ⟨rfl, hB⟩
  · clear hl hz
    go_enter Tryz.func93, Tryz.ntmps93
    go_wp2_with (go_at_call 73; refine HC.out.mono ?_; rintro e w1 ⟨rfl, hB⟩)
    go_ret2
    exact ⟨rfl, hB⟩
set_option maxRecDepth 100000 in
theorem rdDigits_ok (p : Value) (s : ByteArray) (w : World) (B : Nat) (hB : B = 8 ∨ B = 16 ∨ B = 32) (hs : s.size ≤ 140737488355328) {v : Nat} (h : Rd.num s.data.toList (2 ^ B - 1) = some v) :
    Calls Tryz.prog 72 #[p, .string s, .int .i64 (B : Nat)] w fun e w' => e = .returned (.int .u32 v) ∧ Below w.heap.size w w' := by
  have HC := Lib.hid (numberB_ok s w B hB hs h)
  clear h hB
  go_enter Tryz.func72, Tryz.ntmps72
  go_wp2_with (go_at_call 93; refine HC.out.mono ?_; rintro e w1 ⟨rfl, hB⟩)
  go_ret
  exact ⟨rfl, hB⟩
section
variable {g hi n : Nat} {o : ByteArray} {ws : List Rd.W2} {x : Rd.W2} {d : Rd.Dt} {w : World}
theorem St.one (h : St w g hi o (x :: ws) d n) : x.1.length ≤ 140737488355328 := by
  obtain ⟨v, _, ⟨A, c, _, _, _, h4, _⟩, _⟩ := h
  exact h4 x (by simp)
theorem Kb.on {w1 w2 : World} (h : Kb g w.heap.size w w1) (h2 : Kb g w1.heap.size w1 w2) : Kb g w.heap.size w w2 := h.trans (h2.mono h.size)
theorem Kb.onB {w1 w2 : World} (h : Kb g w.heap.size w w1) (h2 : Below w1.heap.size w1 w2) : Kb g w.heap.size w w2 := h.trans (Kb.of_below (h2.mono h.size))
set_option maxRecDepth 100000 in
theorem rdNumberR_ok (h : St w g hi o (x :: ws) d n) (hx : x.2 = false) (B : Nat) (hB : B = 8 ∨ B = 16 ∨ B = 32) {v : Nat} (hv : Rd.num x.1 (2 ^ B - 1) = some v) :
    Calls Tryz.prog 41 #[.pointer (some ⟨g, 0, none⟩), .int .i64 (B : Nat)] w fun e w' => e = .returned (.int .u32 v) ∧ St w' g hi o ws d n ∧ Kb g w.heap.size w w' := by
  have hl := h.one
  have HN := Lib.hid (rdPlain_any h hx)
  have HC := Lib.hid (fun W : World => rdDigits_ok (.pointer (some ⟨g, 0, none⟩)) ⟨x.1.toArray⟩ W B hB (by rw [mk_size]; exact hl) (by simpa using hv))
  clear h hB hv hl
  go_enter Tryz.func41, Tryz.ntmps41
  go_wp2_with (first
    | (go_at_call 42; refine HN.out.mono ?_; rintro e w1 ⟨rfl, S1, K1⟩; have HS := Lib.hid S1; have HK := Lib.hid K1; clear S1 K1)
    | (go_at_call 72; refine (HC.out _).mono ?_; rintro e w2 ⟨rfl, B2⟩; have HB := Lib.hid B2; clear B2))
  go_ret
  exact ⟨rfl, HS.out.keep HB.out, HK.out.onB HB.out⟩
end
end Go.Proofs.YtopcklpmeaghmaaGreatDoor
