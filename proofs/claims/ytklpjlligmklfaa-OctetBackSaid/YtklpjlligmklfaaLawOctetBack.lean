/- OctetBack: whatever bytes, number and text are handed in, the call returns true, and the arguments read behind it as before. -/
import Derived.Test.YtklpjlligmklfaaOctWakes
import Derived.Test.YtklpjlligmklfaaShut
import Derived.Deep.RegionHeld3
namespace Go.Proofs.Ytklpjlligmklfaa
open Go.RowKit

theorem u32_nat {x : Int} (h : (Lit.int .u32 x).wf = true) : ∃ n : Nat, x = n ∧ n < 4294967296 := by
  have h1 : IntKind.u32.min = 0 := rfl
  have h2 : IntKind.u32.max = 4294967295 := rfl
  simp only [Lit.wf, Bool.and_eq_true, decide_eq_true_eq] at h
  exact ⟨x.toNat, by omega, by omega⟩
theorem putN_u8 (A : Option Addr) (l : List UInt8) (n c v m : Nat) (w : World) (hn : n = l.length) (hc : n ≤ c) (hm : n ≤ 140737488355300) (hm2 : m = n + 1) (lo : Nat) (hr : Bs w lo w.heap.size A l) :
    Calls Try.prog 9 #[.slice A n c, .int .u8 ((v : Int) % 256)] w fun e w' => ∃ g, e = .returned (.slice (some ⟨g, 0, none⟩) m m) ∧ Bs w' w.heap.size w'.heap.size (some ⟨g, 0, none⟩) (l ++ Oc.beb 1 v) ∧ Below w.heap.size w w' := by
  subst hn hm2
  rw [show (v : Int) % 256 = ((v % 256 : Nat) : Int) by omega]
  refine (put_u8 A l c (v % 256) w hc hm (by omega) lo hr).mono ?_
  rintro e w' ⟨g, cp, rfl, O, B⟩
  rw [show Oc.beb 1 (v % 256) = Oc.beb 1 v from Oc.beb_mod 1 v 1 (by omega)] at O
  exact ⟨g, rfl, Bs.of_own O, B⟩
theorem putN_u16 (A : Option Addr) (l : List UInt8) (n c v m : Nat) (w : World) (hn : n = l.length) (hc : n ≤ c) (hm : n ≤ 140737488355300) (hm2 : m = n + 2) (lo : Nat) (hr : Bs w lo w.heap.size A l) :
    Calls Try.prog 10 #[.slice A n c, .int .u16 ((v : Int) % 65536)] w fun e w' => ∃ g, e = .returned (.slice (some ⟨g, 0, none⟩) m m) ∧ Bs w' w.heap.size w'.heap.size (some ⟨g, 0, none⟩) (l ++ Oc.beb 2 v) ∧ Below w.heap.size w w' := by
  subst hn hm2
  rw [show (v : Int) % 65536 = ((v % 65536 : Nat) : Int) by omega]
  refine (put_u16 A l c (v % 65536) w hc hm (by omega) lo hr).mono ?_
  rintro e w' ⟨g, cp, rfl, O, B⟩
  rw [show Oc.beb 2 (v % 65536) = Oc.beb 2 v from Oc.beb_mod 2 v 2 (by omega)] at O
  exact ⟨g, rfl, Bs.of_own O, B⟩
theorem putN_u32 (A : Option Addr) (l : List UInt8) (n c v m : Nat) (w : World) (hv : v < 4294967296) (hn : n = l.length) (hc : n ≤ c) (hm : n ≤ 140737488355300) (hm2 : m = n + 4) (lo : Nat) (hr : Bs w lo w.heap.size A l) :
    Calls Try.prog 11 #[.slice A n c, .int .u32 v] w fun e w' => ∃ g, e = .returned (.slice (some ⟨g, 0, none⟩) m m) ∧ Bs w' w.heap.size w'.heap.size (some ⟨g, 0, none⟩) (l ++ Oc.beb 4 v) ∧ Below w.heap.size w w' := by
  subst hn hm2
  refine (put_u32 A l c v w hc hm hv lo hr).mono ?_
  rintro e w' ⟨g, cp, rfl, O, B⟩
  exact ⟨g, rfl, Bs.of_own O, B⟩
theorem putN_text (A : Option Addr) (l : List UInt8) (n c m : Nat) (s : ByteArray) (w : World) (hs : s.size ≤ 255) (hn : n = l.length) (hc : n ≤ c) (hm : n ≤ 140737488355000) (hm2 : m = n + 1 + s.size) (lo : Nat) (hr : Bs w lo w.heap.size A l) :
    Calls Try.prog 18 #[.slice A n c, .string s] w fun e w' => ∃ g, e = .returned (.tuple #[.slice (some ⟨g, 0, none⟩) m m, .int .i64 0]) ∧ Cut w' w.heap.size 5 (.slice (some ⟨g, 0, none⟩) m m) m (bv (l ++ Oc.beb 1 s.size ++ s.data.toList)) ∧ Below w.heap.size w w' := by
  subst hn hm2
  refine (putText_ok A l c s w hc hm hs lo hr).mono ?_
  rintro e w' ⟨g, cp, rfl, O, B⟩
  exact ⟨g, rfl, ⟨g, _, cp, rfl, Nat.le_refl _, O, .inl rfl⟩, B⟩
theorem num_mid (p q r : List UInt8) : Oc.num (((p ++ (q ++ r)).drop p.length).take q.length) = Oc.num q := by
  rw [List.drop_left, List.take_left]
theorem takeV_mid {K : IntKind} {k : Nat} {p q r Y : List UInt8} {z x : Int} (hY : Y = p ++ (q ++ r)) (hz : z = p.length) (hk : q.length = k) (hx : (Oc.num q : Int) = x) : takeV K k Y z = .tuple #[.int K x, .int .i64 (z + k), .int .i64 0] := by
  subst hY hz hk hx
  rw [takeV_ok (by simp), num_mid]
theorem takeText_mid {p t r Y : List UInt8} {z : Int} (hY : Y = p ++ (Oc.beb 1 t.length ++ (t ++ r))) (hz : z = p.length) (ht : t.length ≤ 255) : takeTextV Y z = .tuple #[sv t, .int .i64 (z + 1 + t.length), .int .i64 0] := by
  subst hY hz
  have h1 : Oc.num (((p ++ (Oc.beb 1 t.length ++ (t ++ r))).drop p.length).take 1) = t.length := by
    have := num_mid p (Oc.beb 1 t.length) (t ++ r)
    rw [Oc.beb_length] at this
    rw [this, Oc.num_beb]
    omega
  have hl : (p ++ (Oc.beb 1 t.length ++ (t ++ r))).length = p.length + (1 + (t.length + r.length)) := by simp [Oc.beb_length]
  unfold takeTextV
  rw [if_neg (by omega), show (p.length : Int).toNat = p.length from rfl, h1, if_neg (by omega)]
  have h2 : ((p ++ (Oc.beb 1 t.length ++ (t ++ r))).drop (p.length + 1)).take t.length = t := by
    rw [← List.append_assoc, List.drop_left' (by simp [Oc.beb_length]), List.take_left]
  rw [h2]
theorem takeN_u8 (A : Option Addr) (l p q r : List UInt8) (n c : Nat) (z x y : Int) (w : World) (hn : n = l.length) (hc : n ≤ c) (hm : n ≤ 140737488355328) (lo hi : Nat) (hr : Bs w lo hi A l)
    (hY : l = p ++ (q ++ r)) (hz : z = p.length) (hk : q.length = 1) (hx : (Oc.num q : Int) = x) (hy : y = z + 1) :
    Calls Try.prog 14 #[.slice A n c, .int .i64 z] w fun e w' => e = .returned (.tuple #[.int .u8 x, .int .i64 y, .int .i64 0]) ∧ w = w' := by
  subst hn hy
  have := take_u8 A l c z w hc hm lo hi hr
  rw [takeV_mid hY hz hk hx] at this
  exact this
theorem takeN_u16 (A : Option Addr) (l p q r : List UInt8) (n c : Nat) (z x y : Int) (w : World) (hn : n = l.length) (hc : n ≤ c) (hm : n ≤ 140737488355328) (lo hi : Nat) (hr : Bs w lo hi A l)
    (hY : l = p ++ (q ++ r)) (hz : z = p.length) (hk : q.length = 2) (hx : (Oc.num q : Int) = x) (hy : y = z + 2) :
    Calls Try.prog 15 #[.slice A n c, .int .i64 z] w fun e w' => e = .returned (.tuple #[.int .u16 x, .int .i64 y, .int .i64 0]) ∧ w = w' := by
  subst hn hy
  have := take_u16 A l c z w hc hm lo hi hr
  rw [takeV_mid hY hz hk hx] at this
  exact this
theorem takeN_u32 (A : Option Addr) (l p q r : List UInt8) (n c : Nat) (z x y : Int) (w : World) (hn : n = l.length) (hc : n ≤ c) (hm : n ≤ 140737488355328) (lo hi : Nat) (hr : Bs w lo hi A l)
    (hY : l = p ++ (q ++ r)) (hz : z = p.length) (hk : q.length = 4) (hx : (Oc.num q : Int) = x) (hy : y = z + 4) :
    Calls Try.prog 16 #[.slice A n c, .int .i64 z] w fun e w' => e = .returned (.tuple #[.int .u32 x, .int .i64 y, .int .i64 0]) ∧ w = w' := by
  subst hn hy
  have := take_u32 A l c z w hc hm lo hi hr
  rw [takeV_mid hY hz hk hx] at this
  exact this
theorem takeN_text (A : Option Addr) (l p t r : List UInt8) (n c : Nat) (z y : Int) (w : World) (hn : n = l.length) (hc : n ≤ c) (hm : n ≤ 140737488355328) (lo hi : Nat) (hr : Bs w lo hi A l)
    (hY : l = p ++ (Oc.beb 1 t.length ++ (t ++ r))) (hz : z = p.length) (ht : t.length ≤ 255) (hy : y = z + 1 + t.length) :
    Calls Try.prog 20 #[.slice A n c, .int .i64 z] w fun e w' => e = .returned (.tuple #[sv t, .int .i64 y, .int .i64 0]) ∧ w = w' := by
  subst hn hy
  have := takeText A l c z w hc hm lo hi hr
  rw [takeText_mid hY hz ht] at this
  exact this
theorem takeN_str (A : Option Addr) (l p r : List UInt8) (s : ByteArray) (n c : Nat) (z y : Int) (w : World) (hn : n = l.length) (hc : n ≤ c) (hm : n ≤ 140737488355328) (lo hi : Nat) (hr : Bs w lo hi A l)
    (hY : l = p ++ (Oc.beb 1 s.size ++ (s.data.toList ++ r))) (hz : z = p.length) (ht : s.size ≤ 255) (hy : y = z + 1 + s.size) :
    Calls Try.prog 20 #[.slice A n c, .int .i64 z] w fun e w' => e = .returned (.tuple #[.string s, .int .i64 y, .int .i64 0]) ∧ w = w' := by
  have hs : s.data.toList.length = s.size := by simp
  have h := takeN_text A l p s.data.toList r n c z y w hn hc hm lo hi hr (by rw [hs]; exact hY) hz (by omega) (by rw [hs]; exact hy)
  rwa [show sv s.data.toList = Value.string s from congrArg Value.string (string_eq (s := s) rfl).symm] at h
theorem Bs.take {w : World} {lo hi : Nat} {A : Option Addr} {l : List UInt8} (h : Bs w lo hi A l) (k : Nat) : Bs w lo hi A (l.take k) := fun h0 => by
  obtain ⟨g, o, rfl, h1, h2, hc⟩ := h (by have := List.length_take_le' k l; omega)
  refine ⟨g, o, rfl, h1, h2, fun j hj => ?_⟩
  have hj2 : j < l.length := by have := List.length_take_le' k l; omega
  rw [hc j hj2, List.getElem_take]
theorem below_on {a b c : World} (h : Below a.heap.size a b) (k : Below b.heap.size b c) : Below a.heap.size a c := h.trans (k.mono h.size)
theorem cv_of {W : World} {lo hi n c : Nat} {A : Option Addr} {l : List UInt8} (hn : n = l.length) (h : Bs W lo hi A l) : (convert 22 9 (.slice A n c)).run Try.prog W = .ok (.string ⟨l.toArray⟩) W :=
  run_convert_bs _ _ 5 Try.underlying22 Try.underlying5 Try.underlying9 lo hi A n c l hn h
theorem wakes_hid (w : World) : Calls Try.prog 13 #[] w fun e w' => e = .returned (.bool true) ∧ Below w.heap.size w w' := octWakes w

set_option linter.unusedSimpArgs false in
set_option maxHeartbeats 4000000 in
set_option maxRecDepth 100000 in
theorem walk_OctetBack (w : World) (A : Option Addr) (l : List UInt8) (c : Nat) (_hc : l.length ≤ c) (hnil : A = none → c = 0) (hr : Bs w 0 w.heap.size A l) (_hm : c ≤ 140737488351232) (v : Int) (hv : (Lit.int .u32 v).wf = true) (s : ByteArray) (_hs : s.size ≤ 140737488351232)
    (A2 : Option Addr) (bh : List UInt8) (c2 : Nat) (_hc2 : bh.length ≤ c2) (hnil2 : A2 = none → c2 = 0) (hr2 : Bs w 0 w.heap.size A2 bh) (_hm2 : c2 ≤ 140737488351232) :
    Calls Try.prog 7 #[.slice A l.length c, .int .u32 v, .string s, .slice A2 bh.length c2] w fun e w' => e = .returned (.bool true) ∧ Below w.heap.size w w' := by
  obtain ⟨v, rfl, hv'⟩ := u32_nat hv
  obtain ⟨i0, hi, hz0, hz1, hz2⟩ := info_parts Try.infoByte
  have HA := Lib.hid hr
  have HN := Lib.hid hnil
  have HA2 := Lib.hid hr2
  have HN2 := Lib.hid hnil2
  clear hr hnil hr2 hnil2 hv
  have H0 := Lib.hid (fun w => wakes_hid w)
  by_cases h1 : 255 < s.size
  · go_enter Try.func7, Try.ntmps7
    go_wp2_with (go_at_call 13; refine (H0.out _).mono ?_; rintro e w' ⟨rfl, hw⟩)
    go_ret
    exact ⟨rfl, hw⟩
  by_cases h2 : 65536 < l.length
  · go_enter Try.func7, Try.ntmps7
    go_wp2_with (go_at_call 13; refine (H0.out _).mono ?_; rintro e w' ⟨rfl, hw⟩)
    go_ret
    exact ⟨rfl, hw⟩
  by_cases h3 : 65536 < bh.length
  · go_enter Try.func7, Try.ntmps7
    go_wp2_with (go_at_call 13; refine (H0.out _).mono ?_; rintro e w' ⟨rfl, hw⟩)
    go_ret
    exact ⟨rfl, hw⟩
  obtain ⟨n1, hn1⟩ : ∃ n, n = l.length + 1 := ⟨_, rfl⟩
  obtain ⟨n2, hn2⟩ : ∃ n, n = n1 + 2 := ⟨_, rfl⟩
  obtain ⟨n3, hn3⟩ : ∃ n, n = n2 + 4 := ⟨_, rfl⟩
  obtain ⟨m, hm⟩ : ∃ n, n = n3 + 1 + s.size := ⟨_, rfl⟩
  have L1 : Hid (n1 = (l ++ Oc.beb 1 v).length) := by show _ = _; simp [Oc.beb_length, hn1]
  have L2 : Hid (n2 = (l ++ Oc.beb 1 v ++ Oc.beb 2 v).length) := by show _ = _; simp [Oc.beb_length, hn1, hn2]
  have L3 : Hid (n3 = (l ++ Oc.beb 1 v ++ Oc.beb 2 v ++ Oc.beb 4 v).length) := by show _ = _; simp [Oc.beb_length, hn1, hn2, hn3]
  have hw16 : IntKind.u16.wrap (v : Int) = (v : Int) % 65536 := IntKind.wrap_u16 _
  have E1 := Lib.hid hn1
  have E2 := Lib.hid hn2
  have E3 := Lib.hid hn3
  have E4 := Lib.hid hm
  have hcmp : ((m : Int) != (l.length : Int) + 8 + (s.size : Int)) = false := by
    have : (m : Int) = (l.length : Int) + 8 + (s.size : Int) := by omega
    simp [this]
  have hmB : m ≤ 70000 := by omega
  clear hn1 hn2 hn3 hm
  go_enter Try.func7, Try.ntmps7
  go_wp2_with (first
    | (at_builtin; refine wpList_append_bs rfl _ (.tmp 37) _ rfl w.heap.size _ i0 _ Try.underlying22 hi hz0 hz1 hz2 rfl _ 0 [] rfl (World.ownsRow_nil _ _ _ _) 0 w.heap.size A c l rfl HA.out HN.out (by omega) (Nat.le_refl _) ?_; intro v0 w0 O0' hg0; have B0 := Lib.hid (below_self hg0 (Nat.le_refl _) (fun k hk => absurd (show (none : Option Nat) = some k from hk) (by simp))); have O0 := own_to O0' (Nat.zero_add _) (List.nil_append _); clear O0' hg0; obtain ⟨A0, c0, rfl⟩ := own_form O0; have R0 := Lib.hid (Bs.of_own O0); have L0 := Lib.hid (own_le O0); clear O0)
    | (go_at_call 9; refine (putN_u8 _ l _ _ v n1 _ rfl L0.out (by omega) E1.out _ R0.out).mono ?_; rintro e w1 ⟨g1, rfl, r1, b1⟩; have R1 := Lib.hid r1; have B1 := Lib.hid (B0.out.trans (b1.mono B0.out.size)); clear r1 b1)
    | (go_at_call 10; refine (putN_u16 _ _ _ _ v n2 _ L1.out (Nat.le_refl _) (by have := E1.out; omega) E2.out _ R1.out).mono ?_; rintro e w2 ⟨g2, rfl, r2, b2⟩; have R2 := Lib.hid r2; have B2 := Lib.hid (B1.out.trans (b2.mono B1.out.size)); clear r2 b2)
    | (go_at_call 11; refine (putN_u32 _ _ _ _ v n3 _ hv' L2.out (Nat.le_refl _) (by have := E1.out; have := E2.out; omega) E3.out _ R2.out).mono ?_; rintro e w3 ⟨g3, rfl, r3, b3⟩; have R3 := Lib.hid r3; have B3 := Lib.hid (B2.out.trans (b3.mono B2.out.size)); have S03 := Lib.hid B3.out.size; clear r3 b3)
    | (go_at_call 18; refine (putN_text _ _ _ _ m s _ (by omega) L3.out (Nat.le_refl _) (by have := E1.out; have := E2.out; have := E3.out; omega) E4.out _ R3.out).mono ?_; rintro e w4 ⟨g4, rfl, r4, b4⟩; have C4 := Lib.hid r4; have B4 := Lib.hid (B3.out.trans (b4.mono B3.out.size)); have S34 := Lib.hid b4.size; clear r4 b4))
  obtain ⟨X, hX⟩ : ∃ X, X = l ++ Oc.beb 1 v ++ Oc.beb 2 v ++ Oc.beb 4 v ++ Oc.beb 1 s.size ++ s.data.toList := ⟨_, rfl⟩
  have hpre : X.take l.length = l := by rw [hX]; simp
  have C4' : Cut w4 w3.heap.size 5 (.slice (some ⟨g4, 0, none⟩) m m) m (bv X) := by rw [hX]; exact C4.out
  have CX := Lib.hid C4'
  have HX := Lib.hid hX
  have bP : Bs w4 w3.heap.size w4.heap.size (some ⟨g4, 0, none⟩) l := by have := C4'.bs.take l.length; rwa [hpre] at this
  have HK := Lib.hid (fun (W : World) (hb : Below w4.heap.size w4 W) => And.intro (cv_of (c := m) rfl (bP.keep hb)) (And.intro (cv_of (c := c) rfl (HA.out.keep (B4.out.trans (hb.mono B4.out.size)))) hb))
  clear bP C4' hX hpre
  have ib0 : (0 : Int) ≤ (l.length : Int) := by omega
  have ib1 : (l.length : Int) ≤ (m : Int) := by have := E1.out; have := E2.out; have := E3.out; have := E4.out; omega
  have sw1 : IntKind.i64.wrap ((l.length : Int) + 8) = (l.length : Int) + 8 := IntWalk.i64_in _ (by omega)
  have sw2 : IntKind.i64.wrap ((l.length : Int) + 8 + (s.size : Int)) = (l.length : Int) + 8 + (s.size : Int) := IntWalk.i64_in _ (by omega)
  refine wp_region_noPanic ?_
  refine wp_region_held_drew (S := (fun W => (convert 22 9 (.slice (some ⟨g4, 0, none⟩) l.length m)).run Try.prog W = .ok (.string ⟨l.toArray⟩) W ∧ (convert 22 9 (.slice A l.length c)).run Try.prog W = .ok (.string ⟨l.toArray⟩) W ∧ Below w4.heap.size w4 W)) (by kernel_rfl) ?hax1 (fun hHeld => ?_)
  case hax1 =>
    try dsimp only
    (first | assumption | exact HK.out _ (Below.refl _ _).drew)
  refine wpAnyH_take (i := 0) (oi := { dst := some 55, op := Go.Op.move (Go.Operand.tmp 10), type := 31, pos := "outright.go:17", after := #[], guard := none }) (v := ?vax2) rfl (by kernel_rfl) (by kernel_rfl) (by kernel_rfl) (fun _ _ _ h => h) (Or.inl ⟨by rfl, ?hax2⟩) (by assumption) ?_
  case hax2 =>
    intro w hSw
    try dsimp only at hSw
    go_simp
    try with_reducible rfl
  try simp only [Act.put, List.setIfInBounds_toArray, List.set_cons_zero, List.set_cons_succ]
  refine wpAnyH_take (i := 1) (oi := { dst := some 56, op := Go.Op.binOp Go.BinOp.neq 31 (Go.Operand.tmp 55) (Go.Operand.const (Go.Value.int Go.IntKind.i64 0)) 31, type := 4, pos := "outright.go:17", after := #[{ on := 0, ground := Go.Ground.data }], guard := none }) (v := ?vax3) rfl (by kernel_rfl) (by kernel_rfl) (by kernel_rfl) (fun _ _ _ h => h) (Or.inl ⟨by rfl, ?hax3⟩) (by assumption) ?_
  case hax3 =>
    intro w hSw
    try dsimp only at hSw
    go_simp
    try with_reducible rfl
  try simp only [Act.put, List.setIfInBounds_toArray, List.set_cons_zero, List.set_cons_succ]
  refine wpAnyH_take (i := 2) (oi := { dst := some 57, op := Go.Op.move (Go.Operand.tmp 56), type := 4, pos := "outright.go:17", after := #[{ on := 1, ground := Go.Ground.data }], guard := none }) (v := ?vax4) rfl (by kernel_rfl) (by kernel_rfl) (by kernel_rfl) (fun _ _ _ h => h) (Or.inl ⟨by rfl, ?hax4⟩) (by assumption) ?_
  case hax4 =>
    intro w hSw
    try dsimp only at hSw
    go_simp
    try with_reducible rfl
  try simp only [Act.put, List.setIfInBounds_toArray, List.set_cons_zero, List.set_cons_succ]
  refine wpAnyH_take (i := 3) (oi := { dst := some 58, op := Go.Op.move (Go.Operand.tmp 9), type := 22, pos := "outright.go:17", after := #[{ on := 2, ground := Go.Ground.guard }], guard := some (2, false) }) (v := ?vax5) rfl (by kernel_rfl) (by kernel_rfl) (by kernel_rfl) (fun _ _ _ h => h) (Or.inl ⟨by rfl, ?hax5⟩) (by assumption) ?_
  case hax5 =>
    intro w hSw
    try dsimp only at hSw
    go_simp
    try with_reducible rfl
  try simp only [Act.put, List.setIfInBounds_toArray, List.set_cons_zero, List.set_cons_succ]
  refine wpAnyH_take (i := 4) (oi := { dst := some 59, op := Go.Op.call { callee := Go.Callee.builtin Go.Builtin.len, args := #[Go.Operand.tmp 58], argTypes := #[22] }, type := 3, pos := "outright.go:17", after := #[{ on := 3, ground := Go.Ground.data }, { on := 2, ground := Go.Ground.guard }], guard := some (2, false) }) (v := ?vax6) rfl (by kernel_rfl) (by kernel_rfl) (by kernel_rfl) (fun _ _ _ h => h) (Or.inl ⟨by rfl, ?hax6⟩) (by assumption) ?_
  case hax6 =>
    intro w hSw
    try dsimp only at hSw
    go_simp
    try with_reducible rfl
  try simp only [Act.put, List.setIfInBounds_toArray, List.set_cons_zero, List.set_cons_succ]
  refine wpAnyH_take (i := 5) (oi := { dst := some 60, op := Go.Op.move (Go.Operand.tmp 0), type := 22, pos := "outright.go:17", after := #[{ on := 2, ground := Go.Ground.guard }], guard := some (2, false) }) (v := ?vax7) rfl (by kernel_rfl) (by kernel_rfl) (by kernel_rfl) (fun _ _ _ h => h) (Or.inl ⟨by rfl, ?hax7⟩) (by assumption) ?_
  case hax7 =>
    intro w hSw
    try dsimp only at hSw
    go_simp
    try with_reducible rfl
  try simp only [Act.put, List.setIfInBounds_toArray, List.set_cons_zero, List.set_cons_succ]
  refine wpAnyH_take (i := 6) (oi := { dst := some 61, op := Go.Op.call { callee := Go.Callee.builtin Go.Builtin.len, args := #[Go.Operand.tmp 60], argTypes := #[22] }, type := 3, pos := "outright.go:17", after := #[{ on := 5, ground := Go.Ground.data }, { on := 2, ground := Go.Ground.guard }], guard := some (2, false) }) (v := ?vax8) rfl (by kernel_rfl) (by kernel_rfl) (by kernel_rfl) (fun _ _ _ h => h) (Or.inl ⟨by rfl, ?hax8⟩) (by assumption) ?_
  case hax8 =>
    intro w hSw
    try dsimp only at hSw
    go_simp
    try with_reducible rfl
  try simp only [Act.put, List.setIfInBounds_toArray, List.set_cons_zero, List.set_cons_succ]
  refine wpAnyH_take (i := 7) (oi := { dst := some 62, op := Go.Op.binOp Go.BinOp.add 3 (Go.Operand.tmp 61) (Go.Operand.const (Go.Value.int Go.IntKind.i64 8)) 3, type := 3, pos := "outright.go:17", after := #[{ on := 6, ground := Go.Ground.data }, { on := 2, ground := Go.Ground.guard }], guard := some (2, false) }) (v := ?vax9) rfl (by kernel_rfl) (by kernel_rfl) (by kernel_rfl) (fun _ _ _ h => h) (Or.inl ⟨by rfl, ?hax9⟩) (by assumption) ?_
  case hax9 =>
    intro w hSw
    try dsimp only at hSw
    go_simp
    try with_reducible rfl
  try simp only [Act.put, List.setIfInBounds_toArray, List.set_cons_zero, List.set_cons_succ]
  refine wpAnyH_take (i := 8) (oi := { dst := some 63, op := Go.Op.move (Go.Operand.tmp 2), type := 9, pos := "outright.go:17", after := #[{ on := 2, ground := Go.Ground.guard }], guard := some (2, false) }) (v := ?vax10) rfl (by kernel_rfl) (by kernel_rfl) (by kernel_rfl) (fun _ _ _ h => h) (Or.inl ⟨by rfl, ?hax10⟩) (by assumption) ?_
  case hax10 =>
    intro w hSw
    try dsimp only at hSw
    go_simp
    try with_reducible rfl
  try simp only [Act.put, List.setIfInBounds_toArray, List.set_cons_zero, List.set_cons_succ]
  refine wpAnyH_take (i := 9) (oi := { dst := some 64, op := Go.Op.call { callee := Go.Callee.builtin Go.Builtin.len, args := #[Go.Operand.tmp 63], argTypes := #[9] }, type := 3, pos := "outright.go:17", after := #[{ on := 8, ground := Go.Ground.data }, { on := 2, ground := Go.Ground.guard }], guard := some (2, false) }) (v := ?vax11) rfl (by kernel_rfl) (by kernel_rfl) (by kernel_rfl) (fun _ _ _ h => h) (Or.inl ⟨by rfl, ?hax11⟩) (by assumption) ?_
  case hax11 =>
    intro w hSw
    try dsimp only at hSw
    go_simp
    try with_reducible rfl
  try simp only [Act.put, List.setIfInBounds_toArray, List.set_cons_zero, List.set_cons_succ]
  refine wpAnyH_take (i := 10) (oi := { dst := some 65, op := Go.Op.binOp Go.BinOp.add 3 (Go.Operand.tmp 62) (Go.Operand.tmp 64) 3, type := 3, pos := "outright.go:17", after := #[{ on := 7, ground := Go.Ground.data }, { on := 9, ground := Go.Ground.data }, { on := 2, ground := Go.Ground.guard }], guard := some (2, false) }) (v := ?vax12) rfl (by kernel_rfl) (by kernel_rfl) (by kernel_rfl) (fun _ _ _ h => h) (Or.inl ⟨by rfl, ?hax12⟩) (by assumption) ?_
  case hax12 =>
    intro w hSw
    try dsimp only at hSw
    go_simp
    try with_reducible rfl
  try simp only [Act.put, List.setIfInBounds_toArray, List.set_cons_zero, List.set_cons_succ]
  refine wpAnyH_take (i := 11) (oi := { dst := some 66, op := Go.Op.binOp Go.BinOp.neq 3 (Go.Operand.tmp 59) (Go.Operand.tmp 65) 3, type := 4, pos := "outright.go:17", after := #[{ on := 4, ground := Go.Ground.data }, { on := 10, ground := Go.Ground.data }, { on := 2, ground := Go.Ground.guard }], guard := some (2, false) }) (v := ?vax13) rfl (by kernel_rfl) (by kernel_rfl) (by kernel_rfl) (fun _ _ _ h => h) (Or.inl ⟨by rfl, ?hax13⟩) (by assumption) ?_
  case hax13 =>
    intro w hSw
    try dsimp only at hSw
    go_simp
    try with_reducible rfl
  try simp only [Act.put, List.setIfInBounds_toArray, List.set_cons_zero, List.set_cons_succ]
  refine wpAnyH_take (i := 12) (oi := { dst := some 67, op := Go.Op.pick (Go.Operand.tmp 57) (Go.Operand.const (Go.Value.bool true)) (Go.Operand.tmp 66), type := 4, pos := "outright.go:17", after := #[{ on := 2, ground := Go.Ground.data }, { on := 11, ground := Go.Ground.data }], guard := none }) (v := ?vax14) rfl (by kernel_rfl) (by kernel_rfl) (by kernel_rfl) (fun _ _ _ h => h) (Or.inl ⟨by rfl, ?hax14⟩) (by assumption) ?_
  case hax14 =>
    intro w hSw
    try dsimp only at hSw
    go_simp
    try with_reducible rfl
  try simp only [Act.put, List.setIfInBounds_toArray, List.set_cons_zero, List.set_cons_succ]
  refine wpAnyH_take (i := 13) (oi := { dst := some 68, op := Go.Op.move (Go.Operand.tmp 67), type := 4, pos := "outright.go:17", after := #[{ on := 12, ground := Go.Ground.data }, { on := 2, ground := Go.Ground.chain }], guard := none }) (v := ?vax15) rfl (by kernel_rfl) (by kernel_rfl) (by kernel_rfl) (fun _ _ _ h => h) (Or.inl ⟨by rfl, ?hax15⟩) (by assumption) ?_
  case hax15 =>
    intro w hSw
    try dsimp only at hSw
    go_simp
    try with_reducible rfl
  try simp only [Act.put, List.setIfInBounds_toArray, List.set_cons_zero, List.set_cons_succ]
  refine wpAnyH_take (i := 14) (oi := { dst := some 69, op := Go.Op.move (Go.Operand.tmp 9), type := 22, pos := "outright.go:17", after := #[{ on := 13, ground := Go.Ground.guard }], guard := some (13, false) }) (v := ?vax16) rfl (by kernel_rfl) (by kernel_rfl) (by kernel_rfl) (fun _ _ _ h => h) (Or.inl ⟨by rfl, ?hax16⟩) (by assumption) ?_
  case hax16 =>
    intro w hSw
    try dsimp only at hSw
    go_simp
    try with_reducible rfl
  try simp only [Act.put, List.setIfInBounds_toArray, List.set_cons_zero, List.set_cons_succ]
  refine wpAnyH_take (i := 15) (oi := { dst := some 70, op := Go.Op.move (Go.Operand.tmp 0), type := 22, pos := "outright.go:17", after := #[{ on := 13, ground := Go.Ground.guard }], guard := some (13, false) }) (v := ?vax17) rfl (by kernel_rfl) (by kernel_rfl) (by kernel_rfl) (fun _ _ _ h => h) (Or.inl ⟨by rfl, ?hax17⟩) (by assumption) ?_
  case hax17 =>
    intro w hSw
    try dsimp only at hSw
    go_simp
    try with_reducible rfl
  try simp only [Act.put, List.setIfInBounds_toArray, List.set_cons_zero, List.set_cons_succ]
  refine wpAnyH_take (i := 16) (oi := { dst := some 71, op := Go.Op.call { callee := Go.Callee.builtin Go.Builtin.len, args := #[Go.Operand.tmp 70], argTypes := #[22] }, type := 3, pos := "outright.go:17", after := #[{ on := 15, ground := Go.Ground.data }, { on := 13, ground := Go.Ground.guard }], guard := some (13, false) }) (v := ?vax18) rfl (by kernel_rfl) (by kernel_rfl) (by kernel_rfl) (fun _ _ _ h => h) (Or.inl ⟨by rfl, ?hax18⟩) (by assumption) ?_
  case hax18 =>
    intro w hSw
    try dsimp only at hSw
    go_simp
    try with_reducible rfl
  try simp only [Act.put, List.setIfInBounds_toArray, List.set_cons_zero, List.set_cons_succ]
  refine wpAnyH_take (i := 17) (oi := { dst := some 72, op := Go.Op.slice 22 (Go.Operand.tmp 69) none (some (Go.Operand.tmp 71)) none, type := 22, pos := "outright.go:17", after := #[{ on := 14, ground := Go.Ground.data }, { on := 16, ground := Go.Ground.data }, { on := 13, ground := Go.Ground.guard }], guard := some (13, false) }) (v := ?vax19) rfl (by kernel_rfl) (by kernel_rfl) (by kernel_rfl) (fun _ _ _ h => h) (Or.inl ⟨by rfl, ?hax19⟩) (by assumption) ?_
  case hax19 =>
    intro w hSw
    try dsimp only at hSw
    go_simp
    try with_reducible rfl
  try simp only [Act.put, List.setIfInBounds_toArray, List.set_cons_zero, List.set_cons_succ]
  refine wpAnyH_take (i := 18) (oi := { dst := some 73, op := Go.Op.convert 22 9 (Go.Operand.tmp 72), type := 9, pos := "outright.go:17", after := #[{ on := 17, ground := Go.Ground.data }, { on := 13, ground := Go.Ground.guard }], guard := some (13, false) }) (v := ?vax20) rfl (by kernel_rfl) (by kernel_rfl) (by kernel_rfl) (fun _ _ _ h => h) (Or.inl ⟨by rfl, ?hax20⟩) (by assumption) ?_
  case hax20 =>
    intro w hSw
    try dsimp only at hSw
    go_simp
    try with_reducible rfl
  try simp only [Act.put, List.setIfInBounds_toArray, List.set_cons_zero, List.set_cons_succ]
  refine wpAnyH_take (i := 19) (oi := { dst := some 74, op := Go.Op.move (Go.Operand.tmp 0), type := 22, pos := "outright.go:17", after := #[{ on := 13, ground := Go.Ground.guard }], guard := some (13, false) }) (v := ?vax21) rfl (by kernel_rfl) (by kernel_rfl) (by kernel_rfl) (fun _ _ _ h => h) (Or.inl ⟨by rfl, ?hax21⟩) (by assumption) ?_
  case hax21 =>
    intro w hSw
    try dsimp only at hSw
    go_simp
    try with_reducible rfl
  try simp only [Act.put, List.setIfInBounds_toArray, List.set_cons_zero, List.set_cons_succ]
  refine wpAnyH_take (i := 20) (oi := { dst := some 75, op := Go.Op.convert 22 9 (Go.Operand.tmp 74), type := 9, pos := "outright.go:17", after := #[{ on := 19, ground := Go.Ground.data }, { on := 13, ground := Go.Ground.guard }], guard := some (13, false) }) (v := ?vax22) rfl (by kernel_rfl) (by kernel_rfl) (by kernel_rfl) (fun _ _ _ h => h) (Or.inl ⟨by rfl, ?hax22⟩) (by assumption) ?_
  case hax22 =>
    intro w hSw
    try dsimp only at hSw
    go_simp
    try with_reducible rfl
  try simp only [Act.put, List.setIfInBounds_toArray, List.set_cons_zero, List.set_cons_succ]
  refine wpAnyH_take (i := 21) (oi := { dst := some 76, op := Go.Op.binOp Go.BinOp.neq 9 (Go.Operand.tmp 73) (Go.Operand.tmp 75) 9, type := 4, pos := "outright.go:17", after := #[{ on := 18, ground := Go.Ground.data }, { on := 20, ground := Go.Ground.data }, { on := 13, ground := Go.Ground.guard }], guard := some (13, false) }) (v := ?vax23) rfl (by kernel_rfl) (by kernel_rfl) (by kernel_rfl) (fun _ _ _ h => h) (Or.inl ⟨by rfl, ?hax23⟩) (by assumption) ?_
  case hax23 =>
    intro w hSw
    try dsimp only at hSw
    go_simp
    try with_reducible rfl
  try simp only [Act.put, List.setIfInBounds_toArray, List.set_cons_zero, List.set_cons_succ]
  refine wpAnyH_take (i := 22) (oi := { dst := some 77, op := Go.Op.pick (Go.Operand.tmp 68) (Go.Operand.const (Go.Value.bool true)) (Go.Operand.tmp 76), type := 4, pos := "outright.go:17", after := #[{ on := 13, ground := Go.Ground.data }, { on := 21, ground := Go.Ground.data }], guard := none }) (v := ?vax24) rfl (by kernel_rfl) (by kernel_rfl) (by kernel_rfl) (fun _ _ _ h => h) (Or.inl ⟨by rfl, ?hax24⟩) (by assumption) ?_
  case hax24 =>
    intro w hSw
    try dsimp only at hSw
    go_simp
    try with_reducible rfl
  try simp only [Act.put, List.setIfInBounds_toArray, List.set_cons_zero, List.set_cons_succ]
  refine wpAnyH_done (by kernel_rfl) ?_ _
  refine NoPanic.normal ?_
  clear sw1 sw2
  have B5' : Below w4.heap.size w4 w4.drew := (Below.refl _ _).drew
  generalize w4.drew = w5 at *
  have C5 := Lib.hid (CX.out.below B5' (Nat.le_refl _))
  have B5 := Lib.hid (below_on B4.out B5')
  have LB := Lib.hid (show w3.heap.size ≤ w5.heap.size from Nat.le_trans S34.out B5'.size)
  clear B5'
  obtain ⟨p1, hp1⟩ : ∃ p : Int, p = (l.length : Int) + 1 := ⟨_, rfl⟩
  obtain ⟨p2, hp2⟩ : ∃ p : Int, p = p1 + 2 := ⟨_, rfl⟩
  obtain ⟨p3, hp3⟩ : ∃ p : Int, p = p2 + 4 := ⟨_, rfl⟩
  obtain ⟨p4, hp4⟩ : ∃ p : Int, p = p3 + 1 + s.size := ⟨_, rfl⟩
  have hfin : (p4 == (m : Int)) = true := by
    have : p4 = (m : Int) := by have := E1.out; have := E2.out; have := E3.out; have := E4.out; omega
    simp [this]
  have F1 := Lib.hid hp1
  have F2 := Lib.hid hp2
  have F3 := Lib.hid hp3
  have F4 := Lib.hid hp4
  have Q1 : Hid ((Oc.num (Oc.beb 1 v) : Int) = (v : Int) % 256) := by show _ = _; rw [Oc.num_beb]; omega
  have Q2 : Hid ((Oc.num (Oc.beb 2 v) : Int) = (v : Int) % 65536) := by show _ = _; rw [Oc.num_beb]; omega
  have Q3 : Hid ((Oc.num (Oc.beb 4 v) : Int) = (v : Int)) := by show _ = _; rw [Oc.num_beb]; omega
  have Y1 : Hid (X ++ bh = l ++ (Oc.beb 1 v ++ (Oc.beb 2 v ++ (Oc.beb 4 v ++ (Oc.beb 1 s.size ++ (s.data.toList ++ bh)))))) := by show _ = _; rw [HX.out]; simp
  have Y2 : Hid (X ++ bh = (l ++ Oc.beb 1 v) ++ (Oc.beb 2 v ++ (Oc.beb 4 v ++ (Oc.beb 1 s.size ++ (s.data.toList ++ bh))))) := by show _ = _; rw [HX.out]; simp
  have Y3 : Hid (X ++ bh = (l ++ Oc.beb 1 v ++ Oc.beb 2 v) ++ (Oc.beb 4 v ++ (Oc.beb 1 s.size ++ (s.data.toList ++ bh)))) := by show _ = _; rw [HX.out]; simp
  have Y4 : Hid (X ++ bh = (l ++ Oc.beb 1 v ++ Oc.beb 2 v ++ Oc.beb 4 v) ++ (Oc.beb 1 s.size ++ (s.data.toList ++ bh))) := by show _ = _; rw [HX.out]; simp
  have YL : Hid (m + bh.length = (X ++ bh).length) := by show _ = _; rw [List.length_append]; have := CX.out.len; rw [bv_length] at this; omega
  have Z2 : Hid (p1 = ((l ++ Oc.beb 1 v).length : Nat)) := by show _ = _; have := L1.out; have := E1.out; omega
  have Z3 : Hid (p2 = ((l ++ Oc.beb 1 v ++ Oc.beb 2 v).length : Nat)) := by show _ = _; have := L2.out; have := E1.out; have := E2.out; omega
  have Z4 : Hid (p3 = ((l ++ Oc.beb 1 v ++ Oc.beb 2 v ++ Oc.beb 4 v).length : Nat)) := by show _ = _; have := L3.out; have := E1.out; have := E2.out; have := E3.out; omega
  clear hp1 hp2 hp3 hp4
  go_wp2_with (first
    | (at_builtin; refine wpList_append_run rfl (.tmp 78) (.tmp 79) _ _ rfl _ _ rfl rfl (run_append_bs_full _ _ _ i0 Try.underlying22 hi hz0 hz1 hz2 _ _ _ _ C5.out 0 w.heap.size A2 c2 bh (HA2.out.keep B5.out) HN2.out (by omega) LB.out) ?_; rintro v6 w6 ⟨C6, B6⟩; obtain ⟨g6, cp6, cq6, rfl, hcp6, O6, hq6⟩ := C6; have R6 := Lib.hid (Bs.of_own (l := X ++ bh) (own_to O6 rfl (bv_append X bh).symm)); have HB6 := Lib.hid (B5.out.trans (B6.mono S03.out)); have hcp := Lib.hid hcp6; clear O6 hq6 hcp6 B6)
    | (go_at_call 14; refine (takeN_u8 _ _ _ _ _ _ _ _ _ p1 _ YL.out hcp.out (by omega) _ _ R6.out Y1.out rfl (Oc.beb_length _ _) Q1.out F1.out).mono ?_; rintro e w7 ⟨rfl, rfl⟩)
    | (go_at_call 15; refine (takeN_u16 _ _ _ _ _ _ _ _ _ p2 _ YL.out hcp.out (by omega) _ _ R6.out Y2.out Z2.out (Oc.beb_length _ _) Q2.out F2.out).mono ?_; rintro e w7 ⟨rfl, rfl⟩)
    | (go_at_call 16; refine (takeN_u32 _ _ _ _ _ _ _ _ _ p3 _ YL.out hcp.out (by omega) _ _ R6.out Y3.out Z3.out (Oc.beb_length _ _) Q3.out F3.out).mono ?_; rintro e w7 ⟨rfl, rfl⟩)
    | (go_at_call 20; refine (takeN_str _ _ _ _ s _ _ _ p4 _ YL.out hcp.out (by omega) _ _ R6.out Y4.out Z4.out (by omega) F4.out).mono ?_; rintro e w7 ⟨rfl, rfl⟩)
    | (go_at_call 13; refine (H0.out _).mono ?_; rintro e w8 ⟨rfl, hw8⟩; have HW := Lib.hid (HB6.out.trans (hw8.mono HB6.out.size)); clear hw8))
  go_ret
  exact ⟨rfl, HW.out⟩

namespace octetBack
open Go.ChangeShapes Go.WideShapes Go.ChangeAt
open Go.ChangeMaps (open_string shut_string)
set_option maxRecDepth 100000 in
theorem contract (H : Type) (enc : TypeId × Value → H) (W : World) (base : Nat) (args : Array Value) (ds gs : List (DataW H)) (before : List MemPlace)
    (hval : ∀ (j : Nat) t v, Try.f7.params[j]? = some t → args[j]? = some v → Value.okWide Try.prog W .any base t v)
    (hW : DataW.Whole enc Try.prog Try.f7.params.toList Rows.octetBackSpec.vars false W args.toList ds gs before)
    (hR : (DataW.weightsEach Try.prog (Try.f7.params.toList ++ (OpenSpec.ofChange Rows.octetBackSpec).bare.plain.varTypes Try.prog) (ds ++ gs)).all (· ≤ reachBytes) = true) :
    Calls Try.prog 7 args W fun e W' => ∃ v, e = .returned v ∧ Rows.octetBackSpec.post enc Try.prog Try.f7 false true false false W args v W' := by
  have hW' := hW
  obtain ⟨p, q, hA0, hV, rfl, hfz, hnd⟩ := hW
  have hA : DataW.TrodAll enc Try.prog W 0 (fun _ => true) true Try.f7.params.toList args.toList ds p := hA0
  have HS := trodAll_stays (W' := W) (sp := fun _ => true) out (by kernel_rfl) hA
  have HA := Lib.hid hA
  rw [Try.params7] at hA hval hR
  obtain ⟨v0, vs0, d0, ds0, p0, q0, hargs0, rfl, rfl, h0, r0⟩ := trodAll_cons hA
  obtain ⟨v1, vs1, d1, ds1, p1, q1, hargs1, rfl, rfl, h1, r1⟩ := trodAll_cons r0
  obtain ⟨v2, vs2, d2, ds2, p2, q2, hargs2, rfl, rfl, h2, r2⟩ := trodAll_cons r1
  obtain ⟨v3, vs3, d3, ds3, p3, q3, hargs3, rfl, rfl, h3, r3⟩ := trodAll_cons r2
  obtain ⟨rfl, rfl, rfl⟩ := trodAll_nil r3
  obtain rfl : args = #[v0, v1, v2, v3] := by cases args; simp_all
  obtain ⟨rfl, rfl⟩ := trodVars_none hV
  obtain ⟨A0, l, c0, rfl, hc0, hn0, hb0, hm0⟩ := open_bs Try.underlying22 Try.underlying5 (by kernel_rfl) (by kernel_rfl) (hval 0 22 v0 rfl rfl) h0
  obtain ⟨v, rfl, rfl, rfl, z1⟩ := open_int Try.underlying23 (hval 1 23 v1 rfl rfl) h1
  obtain ⟨s, rfl, rfl, rfl, z2⟩ := open_string Try.underlying9 (hval 2 9 v2 rfl rfl) h2
  obtain ⟨A3, bh, c3, rfl, hc3, hn3, hb3, hm3⟩ := open_bs Try.underlying22 Try.underlying5 (by kernel_rfl) (by kernel_rfl) (hval 3 22 v3 rfl rfl) h3
  clear hA0 HS
  obtain ⟨k0, s0⟩ := reach_cons hR
  obtain ⟨k1, s1⟩ := reach_cons s0
  obtain ⟨k2, s2⟩ := reach_cons s1
  obtain ⟨k3, s3⟩ := reach_cons s2
  refine (walk_OctetBack W A0 l c0 hc0 hn0 hb0 (hm0 k0) v z1 s (reach_str k2) A3 bh c3 hc3 hn3 hb3 (hm3 k3)).mono fun e W' ⟨he, hb⟩ => ?_
  subst he
  have hlt := hW'.lt
  refine ⟨_, rfl, post_low hW' (pa := _) (pv := []) rfl hb (fun _ _ _ => trodAll_cons_mk (shut_bool Try.underlying4 _) trodAll_mk0) (fun sp hsp => ?_) (fun _ _ => rfl) (ok_one (by kernel_rfl) rfl (okWide_bool_mk Try.underlying4 _))⟩
  exact trodAll_stays out (by kernel_rfl) HA.out (fun x hx => hb.same (hlt x (List.mem_append_left _ hx))) (fun x hx => hsp x (List.mem_append_left _ hx))

noncomputable def wargs : Array Value := #[.slice none 0 0, .int .u32 0, .string ByteArray.empty, .slice none 0 0]
noncomputable def lw (os : Os) : World := World.settled Try.prog os
theorem reads (os : Os) {H : Type} (enc : TypeId × Value → H) : ∃ places, DataW.whole enc Try.prog ((lw os).forCall (fun _ _ => 0) ⟨#[], wargs, []⟩).memory Try.f7.params.toList Rows.octetBackSpec.vars false wargs.toList 8 = some ([.nil, .lit (.int .u32 0), .lit (.string []), .nil], [], places) :=
  ⟨[], by kernel_rfl⟩
set_option maxRecDepth 100000 in
theorem lifted (os : Os) (started : os.Started) (H : Type) (enc : TypeId × Value → H) (G : Stop.Interp) :
    ReturnsInHanded {} Try.checked os 7 .any ((OpenSpec.ofChange Rows.octetBackSpec).preRow enc Try.prog Try.f7 Rows.octetBackRow.domain false Rows.octetBackRow.laid) (((OpenSpec.ofChange Rows.octetBackSpec).at G).post enc Try.prog Try.f7 false true false false) := by
  obtain ⟨places, hx⟩ := reads os enc
  refine returnsInHanded_of_row (C := Try.checked) (s := OpenSpec.ofChange Rows.octetBackSpec) own started (by kernel_rfl) Try.func7
    (witness_row_atRef (enc := enc) (C := Try.checked) false (lw os) wargs rfl (by kernel_rfl) (by kernel_rfl) (by kernel_rfl)
      (OpenSpec.preRow_of_cond 8 hx (by kernel_rfl) (fun k hk => by cases hk) (by kernel_rfl) (laidMetH_nil _ _))) ?_
  intro W base args ds gs before hval hW _ _ hR _ _ _
  exact contract H enc W base args ds gs before hval hW hR
/-- THE STATEMENT. -/
theorem said : Rows.OctetBackSaid :=
  OpenClaim.holds_of_cond 7 Try.f7 rfl rfl rfl rfl rfl rfl rfl ⟨rfl, rfl, rfl, rfl, rfl⟩ rfl rfl rfl rfl rfl (by kernel_rfl) Try.func7 (by kernel_rfl)
    (of_decide_eq_true (by kernel_rfl)) (by unfold Func.isWrapper; first | (rw [if_pos (by decide +kernel)]; kernel_rfl) | (rw [if_neg (by decide +kernel)]; exact ⟨rfl, rfl⟩))
    (fun os started H enc _ G => by rw [OpenClaim.pre_eq_preRow]; exact lifted os started H enc G)
end octetBack
end Go.Proofs.Ytklpjlligmklfaa
