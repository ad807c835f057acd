/- Texts of the proofs, merged. -/
import Derived.Test.YtalghgaadcdhhaaDoorG19
import Derived.Deep.RegionWith
import Derived.Deep.CutRange
/- The document's answer on data: Put, type by type. -/
namespace Go.Proofs.YtalghgaadcdhhaaDoor
open Go.RowKit

theorem ps_start {w w1 w2 : World} {g base : Nat} {T : Tab} {d : Dv} {l : List UInt8} {v2 : Value} (hT : RT w g base T) (hb : base ≤ w.heap.size) (hX : Has w1 w.heap.size 27 d.cells) (hB : Below w.heap.size w w1) (hO : w2.ownsRow w.heap.size 5 1 v2 l.length ([] ++ bv l)) (hG : w1.grownBy w2 (Value.slice none 0 0).ownBlock) :
    PS w g base T d l l.length v2 w2 := by
  have h2 : Below w1.heap.size w1 w2 := below_self hG (Nat.le_refl _) (fun k hk => by simp [Value.ownBlock] at hk)
  have h3 : Below w.heap.size w w2 := hB.trans (h2.mono hB.size)
  exact ⟨hT.below h3, own_to hO rfl (List.nil_append _), rfl, hX.below h2 hX.lt, Rk.of_below h3 hb⟩
/-- what Put leaves. -/
def RdDone (w : World) (g base : Nat) (T : Tab) (t : Nat) (d : Dv) (l : List UInt8) (hl ml : List (List UInt8)) (v : Value) (W' : World) : Prop :=
  W'.ownsRow w.heap.size 5 1 v (l ++ (Rd.put T l.length t d.dt hl ml).2).length (bv (l ++ (Rd.put T l.length t d.dt hl ml).2)) ∧ RT W' g base (Rd.put T l.length t d.dt hl ml).1 ∧ Rk base w W'
theorem rd_done {w W' : World} {g base n t : Nat} {T T2 : Tab} {d : Dv} {l X : List UInt8} {hl ml : List (List UInt8)} {v : Value} (h : PS w g base T2 d (l ++ X) n v W') (he : Rd.put T l.length t d.dt hl ml = (T2, X)) : RdDone w g base T t d l hl ml v W' := by
  unfold RdDone
  rw [he]
  obtain ⟨h1, h2, rfl, _, h5⟩ := h
  exact ⟨h2, h1, h5⟩
theorem ps_low {w W W' : World} {g base : Nat} {T : Tab} {d : Dv} {l : List UInt8} {n : Nat} {v : Value} (h : PS w g base T d l n v W) (hb : base ≤ w.heap.size) (k : Below W.heap.size W W') : PS w g base T d l n v W' := by
  obtain ⟨h1, h2, h3, h4, h5⟩ := h
  exact ⟨h1.below k, own_below h2 k (Nat.le_refl _), h3, h4.below k h4.lt, h5.more (k.mono h5.below.size) hb⟩
set_option maxHeartbeats 4000000 in
set_option maxRecDepth 100000 in
theorem rdPut_ns (g base : Nat) (T : Tab) (A : Option Addr) (l : List UInt8) (c : Nat) (d : Dv) (hl ml : List (List UInt8)) (w : World) (hT : RT w g base T) (hg : base ≤ g) (hb : base ≤ w.heap.size) (hmax : ∀ x ∈ T, x.2 ≤ 16383) (hTl : T.length ≤ 8796092000000)
    (hnil : A = none → c = 0) (hr : Bs w 0 w.heap.size A l) (hll : l.length ≤ 140737487000000) (hf : d.fits) (hck : ∀ W : World, Calls Tryd.prog 9 #[.int .u16 2, d.val] W fun e w' => e = .returned (.int .i64 0) ∧ Below W.heap.size W w') (hsp : Nm.split d.host.data.toList = some hl) :
    Calls Tryd.prog 15 #[.slice A l.length c, .pointer (some ⟨g, 0, none⟩), .int .u16 2, d.val] w fun e W' => ∃ v, e = .returned (.tuple #[v, .int .i64 0]) ∧ RdDone w g base T 2 d l hl ml v W' := by
  obtain ⟨i0, hi, hz0, hz1, hz2⟩ := info_parts Tryd.infoByte
  have HRT := Lib.hid hT
  have HMX := Lib.hid hmax
  have HR := Lib.hid hr
  have HN := Lib.hid hnil
  have HCK := Lib.hid hck
  have HF := Lib.hid hf
  have HX0 : Hid (Has (w.alloc (.cells d.cells 27)) w.heap.size 27 d.cells) := Has.fresh w _ _
  have HB0 : Hid (Below w.heap.size w (w.alloc (.cells d.cells 27))) := (Below.refl _ w).alloc (Nat.le_refl _) _
  clear hT hmax hr hnil hck hf
  unfold Dv.val at HCK ⊢
  unfold Dv.cells at HX0 HB0
  have HSP := Lib.hid hsp
  clear hsp
  go_enter Tryd.func15, Tryd.ntmps15
  go_wp2_with (first
    | (go_at_call 9; refine (HCK.out _).mono ?_; rintro e' w1 ⟨rfl, B1⟩; have HX1 := Lib.hid (HX0.out.below B1 HX0.out.lt); have HB1 := Lib.hid (HB0.out.trans (B1.mono HB0.out.size)); have hs1 := HB1.out.size; clear B1)
    | (at_builtin; refine wpList_append_bs rfl (.const (.slice none 0 0)) (.tmp 19) _ rfl w.heap.size _ i0 _ Tryd.underlying41 hi hz0 hz1 hz2 rfl (.slice none 0 0) 0 [] rfl (World.ownsRow_nil _ _ _ _) 0 w.heap.size A c l rfl (HR.out.keep HB1.out) HN.out (by omega) hs1 ?_; intro v2 w2 O2 G2; obtain ⟨A2, c2, rfl⟩ := own_form O2; rw [Nat.zero_add] at O2 ⊢; have HS := Lib.hid (ps_start HRT.out hb HX1.out HB1.out O2 G2); clear O2 G2; have x1 := dv_host HS.out.2.2.2.1; have x2 := dv_mail HS.out.2.2.2.1; have x0 := dv_raw HS.out.2.2.2.1)
    | (go_at_call 38; (with_reducible refine (rdPutN_of (ps_put false HS.out hb hg HMX.out (by omega) HSP.out (by omega))).mono ?_); rintro e' w3 ⟨v3, rfl, N3⟩; obtain ⟨A3, n3, c3, rfl, hn3, hq3, S3⟩ := N3; have HQ3 := Lib.hid hq3; have HS3 := Lib.hid S3; clear hq3 S3))
  go_ret2
  exact ⟨_, rfl, rd_done HS3.out rfl⟩
set_option maxHeartbeats 4000000 in
set_option maxRecDepth 100000 in
theorem rdPut_cname (g base : Nat) (T : Tab) (A : Option Addr) (l : List UInt8) (c : Nat) (d : Dv) (hl ml : List (List UInt8)) (w : World) (hT : RT w g base T) (hg : base ≤ g) (hb : base ≤ w.heap.size) (hmax : ∀ x ∈ T, x.2 ≤ 16383) (hTl : T.length ≤ 8796092000000)
    (hnil : A = none → c = 0) (hr : Bs w 0 w.heap.size A l) (hll : l.length ≤ 140737487000000) (hf : d.fits) (hck : ∀ W : World, Calls Tryd.prog 9 #[.int .u16 5, d.val] W fun e w' => e = .returned (.int .i64 0) ∧ Below W.heap.size W w') (hsp : Nm.split d.host.data.toList = some hl) :
    Calls Tryd.prog 15 #[.slice A l.length c, .pointer (some ⟨g, 0, none⟩), .int .u16 5, d.val] w fun e W' => ∃ v, e = .returned (.tuple #[v, .int .i64 0]) ∧ RdDone w g base T 5 d l hl ml v W' := by
  obtain ⟨i0, hi, hz0, hz1, hz2⟩ := info_parts Tryd.infoByte
  have HRT := Lib.hid hT
  have HMX := Lib.hid hmax
  have HR := Lib.hid hr
  have HN := Lib.hid hnil
  have HCK := Lib.hid hck
  have HF := Lib.hid hf
  have HX0 : Hid (Has (w.alloc (.cells d.cells 27)) w.heap.size 27 d.cells) := Has.fresh w _ _
  have HB0 : Hid (Below w.heap.size w (w.alloc (.cells d.cells 27))) := (Below.refl _ w).alloc (Nat.le_refl _) _
  clear hT hmax hr hnil hck hf
  unfold Dv.val at HCK ⊢
  unfold Dv.cells at HX0 HB0
  have HSP := Lib.hid hsp
  clear hsp
  go_enter Tryd.func15, Tryd.ntmps15
  go_wp2_with (first
    | (go_at_call 9; refine (HCK.out _).mono ?_; rintro e' w1 ⟨rfl, B1⟩; have HX1 := Lib.hid (HX0.out.below B1 HX0.out.lt); have HB1 := Lib.hid (HB0.out.trans (B1.mono HB0.out.size)); have hs1 := HB1.out.size; clear B1)
    | (at_builtin; refine wpList_append_bs rfl (.const (.slice none 0 0)) (.tmp 19) _ rfl w.heap.size _ i0 _ Tryd.underlying41 hi hz0 hz1 hz2 rfl (.slice none 0 0) 0 [] rfl (World.ownsRow_nil _ _ _ _) 0 w.heap.size A c l rfl (HR.out.keep HB1.out) HN.out (by omega) hs1 ?_; intro v2 w2 O2 G2; obtain ⟨A2, c2, rfl⟩ := own_form O2; rw [Nat.zero_add] at O2 ⊢; have HS := Lib.hid (ps_start HRT.out hb HX1.out HB1.out O2 G2); clear O2 G2; have x1 := dv_host HS.out.2.2.2.1; have x2 := dv_mail HS.out.2.2.2.1; have x0 := dv_raw HS.out.2.2.2.1)
    | (go_at_call 38; (with_reducible refine (rdPutN_of (ps_put false HS.out hb hg HMX.out (by omega) HSP.out (by omega))).mono ?_); rintro e' w3 ⟨v3, rfl, N3⟩; obtain ⟨A3, n3, c3, rfl, hn3, hq3, S3⟩ := N3; have HQ3 := Lib.hid hq3; have HS3 := Lib.hid S3; clear hq3 S3))
  go_ret2
  exact ⟨_, rfl, rd_done HS3.out rfl⟩
set_option maxHeartbeats 4000000 in
set_option maxRecDepth 100000 in
theorem rdPut_ptr (g base : Nat) (T : Tab) (A : Option Addr) (l : List UInt8) (c : Nat) (d : Dv) (hl ml : List (List UInt8)) (w : World) (hT : RT w g base T) (hg : base ≤ g) (hb : base ≤ w.heap.size) (hmax : ∀ x ∈ T, x.2 ≤ 16383) (hTl : T.length ≤ 8796092000000)
    (hnil : A = none → c = 0) (hr : Bs w 0 w.heap.size A l) (hll : l.length ≤ 140737487000000) (hf : d.fits) (hck : ∀ W : World, Calls Tryd.prog 9 #[.int .u16 12, d.val] W fun e w' => e = .returned (.int .i64 0) ∧ Below W.heap.size W w') (hsp : Nm.split d.host.data.toList = some hl) :
    Calls Tryd.prog 15 #[.slice A l.length c, .pointer (some ⟨g, 0, none⟩), .int .u16 12, d.val] w fun e W' => ∃ v, e = .returned (.tuple #[v, .int .i64 0]) ∧ RdDone w g base T 12 d l hl ml v W' := by
  obtain ⟨i0, hi, hz0, hz1, hz2⟩ := info_parts Tryd.infoByte
  have HRT := Lib.hid hT
  have HMX := Lib.hid hmax
  have HR := Lib.hid hr
  have HN := Lib.hid hnil
  have HCK := Lib.hid hck
  have HF := Lib.hid hf
  have HX0 : Hid (Has (w.alloc (.cells d.cells 27)) w.heap.size 27 d.cells) := Has.fresh w _ _
  have HB0 : Hid (Below w.heap.size w (w.alloc (.cells d.cells 27))) := (Below.refl _ w).alloc (Nat.le_refl _) _
  clear hT hmax hr hnil hck hf
  unfold Dv.val at HCK ⊢
  unfold Dv.cells at HX0 HB0
  have HSP := Lib.hid hsp
  clear hsp
  go_enter Tryd.func15, Tryd.ntmps15
  go_wp2_with (first
    | (go_at_call 9; refine (HCK.out _).mono ?_; rintro e' w1 ⟨rfl, B1⟩; have HX1 := Lib.hid (HX0.out.below B1 HX0.out.lt); have HB1 := Lib.hid (HB0.out.trans (B1.mono HB0.out.size)); have hs1 := HB1.out.size; clear B1)
    | (at_builtin; refine wpList_append_bs rfl (.const (.slice none 0 0)) (.tmp 19) _ rfl w.heap.size _ i0 _ Tryd.underlying41 hi hz0 hz1 hz2 rfl (.slice none 0 0) 0 [] rfl (World.ownsRow_nil _ _ _ _) 0 w.heap.size A c l rfl (HR.out.keep HB1.out) HN.out (by omega) hs1 ?_; intro v2 w2 O2 G2; obtain ⟨A2, c2, rfl⟩ := own_form O2; rw [Nat.zero_add] at O2 ⊢; have HS := Lib.hid (ps_start HRT.out hb HX1.out HB1.out O2 G2); clear O2 G2; have x1 := dv_host HS.out.2.2.2.1; have x2 := dv_mail HS.out.2.2.2.1; have x0 := dv_raw HS.out.2.2.2.1)
    | (go_at_call 38; (with_reducible refine (rdPutN_of (ps_put false HS.out hb hg HMX.out (by omega) HSP.out (by omega))).mono ?_); rintro e' w3 ⟨v3, rfl, N3⟩; obtain ⟨A3, n3, c3, rfl, hn3, hq3, S3⟩ := N3; have HQ3 := Lib.hid hq3; have HS3 := Lib.hid S3; clear hq3 S3))
  go_ret2
  exact ⟨_, rfl, rd_done HS3.out rfl⟩
set_option maxHeartbeats 4000000 in
set_option maxRecDepth 100000 in
theorem rdPut_raw (g base : Nat) (T : Tab) (A : Option Addr) (l : List UInt8) (c : Nat) (t : Nat) (d : Dv) (hl ml : List (List UInt8)) (w : World) (hT : RT w g base T) (_hg : base ≤ g) (hb : base ≤ w.heap.size) (hmax : ∀ x ∈ T, x.2 ≤ 16383) (_hTl : T.length ≤ 8796092000000)
    (hnil : A = none → c = 0) (hr : Bs w 0 w.heap.size A l) (hll : l.length ≤ 140737487000000) (hf : d.fits) (hck : ∀ W : World, Calls Tryd.prog 9 #[.int .u16 (t : Nat), d.val] W fun e w' => e = .returned (.int .i64 0) ∧ Below W.heap.size W w') (hraw : d.raw.size ≤ 65535) (k2 : ((t : Int) == 2) = false) (k5 : ((t : Int) == 5) = false) (k12 : ((t : Int) == 12) = false) (k15 : ((t : Int) == 15) = false) (k33 : ((t : Int) == 33) = false) (k6 : ((t : Int) == 6) = false) (hq : Rd.put T l.length t d.dt hl ml = (T, d.raw.data.toList)) :
    Calls Tryd.prog 15 #[.slice A l.length c, .pointer (some ⟨g, 0, none⟩), .int .u16 (t : Nat), d.val] w fun e W' => ∃ v, e = .returned (.tuple #[v, .int .i64 0]) ∧ RdDone w g base T t d l hl ml v W' := by
  obtain ⟨i0, hi, hz0, hz1, hz2⟩ := info_parts Tryd.infoByte
  have HRT := Lib.hid hT
  have HMX := Lib.hid hmax
  have HR := Lib.hid hr
  have HN := Lib.hid hnil
  have HCK := Lib.hid hck
  have HF := Lib.hid hf
  have HX0 : Hid (Has (w.alloc (.cells d.cells 27)) w.heap.size 27 d.cells) := Has.fresh w _ _
  have HB0 : Hid (Below w.heap.size w (w.alloc (.cells d.cells 27))) := (Below.refl _ w).alloc (Nat.le_refl _) _
  clear hT hmax hr hnil hck hf
  unfold Dv.val at HCK ⊢
  unfold Dv.cells at HX0 HB0
  have HQ := Lib.hid hq
  clear hq
  go_enter Tryd.func15, Tryd.ntmps15
  go_wp2_with (first
    | (go_at_call 9; refine (HCK.out _).mono ?_; rintro e' w1 ⟨rfl, B1⟩; have HX1 := Lib.hid (HX0.out.below B1 HX0.out.lt); have HB1 := Lib.hid (HB0.out.trans (B1.mono HB0.out.size)); have hs1 := HB1.out.size; clear B1)
    | (at_builtin; refine wpList_append_bs rfl (.const (.slice none 0 0)) (.tmp 19) _ rfl w.heap.size _ i0 _ Tryd.underlying41 hi hz0 hz1 hz2 rfl (.slice none 0 0) 0 [] rfl (World.ownsRow_nil _ _ _ _) 0 w.heap.size A c l rfl (HR.out.keep HB1.out) HN.out (by omega) hs1 ?_; intro v2 w2 O2 G2; obtain ⟨A2, c2, rfl⟩ := own_form O2; rw [Nat.zero_add] at O2 ⊢; have HS := Lib.hid (ps_start HRT.out hb HX1.out HB1.out O2 G2); clear O2 G2; have x1 := dv_host HS.out.2.2.2.1; have x2 := dv_mail HS.out.2.2.2.1; have x0 := dv_raw HS.out.2.2.2.1)
    | (at_builtin; refine Lib.wpList_append_own_string _ rfl (.tmp 94) (.tmp 96) _ _ rfl w.heap.size _ i0 Tryd.underlying41 Tryd.underlying9 hi hz0 hz1 hz2 _ l.length _ rfl HS.out.2.1 d.raw rfl (by unfold maxLen; omega) (by omega) HS.out.2.2.2.2.below.size ?_; intro v8 w8 O8 G8 _))
  go_ret2
  refine ⟨_, rfl, ?_⟩
  unfold RdDone
  rw [HQ.out]
  obtain ⟨s1, s2, _, _, s5⟩ := HS.out
  refine ⟨own_to O8 (by simp) (by rw [strCells_bv, ← bv_append]), s1.still s2 G8, s5.grown_new G8 (fun r hr => (s2.lt r hr).1) hb⟩
set_option maxHeartbeats 4000000 in
set_option maxRecDepth 100000 in
theorem rdPut_mx (g base : Nat) (T : Tab) (A : Option Addr) (l : List UInt8) (c : Nat) (d : Dv) (hl ml : List (List UInt8)) (w : World) (hT : RT w g base T) (hg : base ≤ g) (hb : base ≤ w.heap.size) (hmax : ∀ x ∈ T, x.2 ≤ 16383) (hTl : T.length ≤ 8796092000000)
    (hnil : A = none → c = 0) (hr : Bs w 0 w.heap.size A l) (hll : l.length ≤ 140737487000000) (hf : d.fits) (hck : ∀ W : World, Calls Tryd.prog 9 #[.int .u16 15, d.val] W fun e w' => e = .returned (.int .i64 0) ∧ Below W.heap.size W w') (hsp : Nm.split d.host.data.toList = some hl) :
    Calls Tryd.prog 15 #[.slice A l.length c, .pointer (some ⟨g, 0, none⟩), .int .u16 15, d.val] w fun e W' => ∃ v, e = .returned (.tuple #[v, .int .i64 0]) ∧ RdDone w g base T 15 d l hl ml v W' := by
  obtain ⟨i0, hi, hz0, hz1, hz2⟩ := info_parts Tryd.infoByte
  have HRT := Lib.hid hT
  have HMX := Lib.hid hmax
  have HR := Lib.hid hr
  have HN := Lib.hid hnil
  have HCK := Lib.hid hck
  have HF := Lib.hid hf
  have HX0 : Hid (Has (w.alloc (.cells d.cells 27)) w.heap.size 27 d.cells) := Has.fresh w _ _
  have HB0 : Hid (Below w.heap.size w (w.alloc (.cells d.cells 27))) := (Below.refl _ w).alloc (Nat.le_refl _) _
  clear hT hmax hr hnil hck hf
  unfold Dv.val at HCK ⊢
  unfold Dv.cells at HX0 HB0
  have HSP := Lib.hid hsp
  clear hsp
  have hx0 := HF.out 0
  go_enter Tryd.func15, Tryd.ntmps15
  go_upto_region 12 with (first
    | (go_at_call 9; refine (HCK.out _).mono ?_; rintro e' w1 ⟨rfl, B1⟩; have HX1 := Lib.hid (HX0.out.below B1 HX0.out.lt); have HB1 := Lib.hid (HB0.out.trans (B1.mono HB0.out.size)); have hs1 := HB1.out.size; clear B1)
    | (at_builtin; refine wpList_append_bs rfl (.const (.slice none 0 0)) (.tmp 19) _ rfl w.heap.size _ i0 _ Tryd.underlying41 hi hz0 hz1 hz2 rfl (.slice none 0 0) 0 [] rfl (World.ownsRow_nil _ _ _ _) 0 w.heap.size A c l rfl (HR.out.keep HB1.out) HN.out (by omega) hs1 ?_; intro v2 w2 O2 G2; obtain ⟨A2, c2, rfl⟩ := own_form O2; rw [Nat.zero_add] at O2 ⊢; have HS := Lib.hid (ps_start HRT.out hb HX1.out HB1.out O2 G2); clear O2 G2; have x1 := dv_host HS.out.2.2.2.1; have x2 := dv_mail HS.out.2.2.2.1; have x0 := dv_raw HS.out.2.2.2.1))
  have HS0 := Lib.hid (ps_low HS.out hb ((Below.refl _ _).drew))
  have x3 := dv_n HS0.out.2.2.2.1 (k := 0) (by omega)
  have x4 := dv_host HS0.out.2.2.2.1
  go_region_with (first
    | (go_at_call 39; (with_reducible refine (ps_two HS0.out hb (d.n 0) hx0 (by omega)).mono ?_); rintro e' w5 ⟨g5, c5, rfl, S5⟩; have HS5 := Lib.hid S5; have y1 := dv_host HS5.out.2.2.2.1; clear S5)
    | (go_at_call 38; (with_reducible refine (rdPutN_of (ps_put false HS5.out hb hg HMX.out (by omega) HSP.out (by omega))).mono ?_); rintro e' w3 ⟨v3, rfl, N3⟩; obtain ⟨A3, n3, c3, rfl, hn3, hq3, S3⟩ := N3; have HQ3 := Lib.hid hq3; have HS3 := Lib.hid S3; clear hq3 S3))
  all_goals go_wp2
  all_goals go_ret2
  all_goals exact ⟨_, rfl, rd_done (l := l) (X := Oc.beb 2 d.n0 ++ (Pr.pw false T (l.length + 2) hl).2) (by rw [← List.append_assoc]; exact HS3.out) rfl⟩
set_option maxHeartbeats 4000000 in
set_option maxRecDepth 100000 in
theorem rdPut_srv (g base : Nat) (T : Tab) (A : Option Addr) (l : List UInt8) (c : Nat) (d : Dv) (hl ml : List (List UInt8)) (w : World) (hT : RT w g base T) (hg : base ≤ g) (hb : base ≤ w.heap.size) (hmax : ∀ x ∈ T, x.2 ≤ 16383) (hTl : T.length ≤ 8796092000000)
    (hnil : A = none → c = 0) (hr : Bs w 0 w.heap.size A l) (hll : l.length ≤ 140737487000000) (hf : d.fits) (hck : ∀ W : World, Calls Tryd.prog 9 #[.int .u16 33, d.val] W fun e w' => e = .returned (.int .i64 0) ∧ Below W.heap.size W w') (hsp : Nm.split d.host.data.toList = some hl) :
    Calls Tryd.prog 15 #[.slice A l.length c, .pointer (some ⟨g, 0, none⟩), .int .u16 33, d.val] w fun e W' => ∃ v, e = .returned (.tuple #[v, .int .i64 0]) ∧ RdDone w g base T 33 d l hl ml v W' := by
  obtain ⟨i0, hi, hz0, hz1, hz2⟩ := info_parts Tryd.infoByte
  have HRT := Lib.hid hT
  have HMX := Lib.hid hmax
  have HR := Lib.hid hr
  have HN := Lib.hid hnil
  have HCK := Lib.hid hck
  have HF := Lib.hid hf
  have HX0 : Hid (Has (w.alloc (.cells d.cells 27)) w.heap.size 27 d.cells) := Has.fresh w _ _
  have HB0 : Hid (Below w.heap.size w (w.alloc (.cells d.cells 27))) := (Below.refl _ w).alloc (Nat.le_refl _) _
  clear hT hmax hr hnil hck hf
  unfold Dv.val at HCK ⊢
  unfold Dv.cells at HX0 HB0
  have HSP := Lib.hid hsp
  clear hsp
  have hx0 := HF.out 0
  have hx1 := HF.out 1
  have hx2 := HF.out 2
  go_enter Tryd.func15, Tryd.ntmps15
  go_wp2_with (first
    | (go_at_call 9; refine (HCK.out _).mono ?_; rintro e' w1 ⟨rfl, B1⟩; have HX1 := Lib.hid (HX0.out.below B1 HX0.out.lt); have HB1 := Lib.hid (HB0.out.trans (B1.mono HB0.out.size)); have hs1 := HB1.out.size; clear B1)
    | (at_builtin; refine wpList_append_bs rfl (.const (.slice none 0 0)) (.tmp 19) _ rfl w.heap.size _ i0 _ Tryd.underlying41 hi hz0 hz1 hz2 rfl (.slice none 0 0) 0 [] rfl (World.ownsRow_nil _ _ _ _) 0 w.heap.size A c l rfl (HR.out.keep HB1.out) HN.out (by omega) hs1 ?_; intro v2 w2 O2 G2; obtain ⟨A2, c2, rfl⟩ := own_form O2; rw [Nat.zero_add] at O2 ⊢; have HS := Lib.hid (ps_start HRT.out hb HX1.out HB1.out O2 G2); clear O2 G2; have x1 := dv_host HS.out.2.2.2.1; have x2 := dv_mail HS.out.2.2.2.1; have x0 := dv_raw HS.out.2.2.2.1))
  have x3 : w2.cell? ⟨w.heap.size, 3, none⟩ = some (.int .u32 (d.n 0 : Nat)) := dv_n HS.out.2.2.2.1 (k := 0) (by omega)
  refine wp_loop_rounds 4 ?_
  rw [rounds_succ]
  go_wp2_with (go_at_call 39; (with_reducible refine (ps_two HS.out hb (d.n 0) hx0 (by omega)).mono ?_); rintro e' w5 ⟨g5, c5, rfl, S5⟩; have HS5 := Lib.hid S5; have y5 : w5.cell? ⟨w.heap.size, 4, none⟩ = some (.int .u32 (d.n 1 : Nat)) := dv_n HS5.out.2.2.2.1 (k := 1) (by omega);clear S5)
  rw [rounds_succ]
  go_wp2_with (go_at_call 39; (with_reducible refine (ps_two HS5.out hb (d.n 1) hx1 (by omega)).mono ?_); rintro e' w6 ⟨g6, c6, rfl, S6⟩; have HS6 := Lib.hid S6; have y6 : w6.cell? ⟨w.heap.size, 5, none⟩ = some (.int .u32 (d.n 2 : Nat)) := dv_n HS6.out.2.2.2.1 (k := 2) (by omega);clear S6)
  rw [rounds_succ]
  go_wp2_with (go_at_call 39; (with_reducible refine (ps_two HS6.out hb (d.n 2) hx2 (by omega)).mono ?_); rintro e' w7 ⟨g7, c7, rfl, S7⟩; have HS7 := Lib.hid S7; have y7 : w7.cell? ⟨w.heap.size, 1, none⟩ = some (.string d.host) := dv_host HS7.out.2.2.2.1;clear S7)
  rw [rounds_succ]
  go_wp2_with (go_at_call 40; (with_reducible refine (rdPlain_of (ps_put true HS7.out hb hg HMX.out (by omega) HSP.out (by omega))).mono ?_); rintro e' w3 ⟨v3, rfl, N3⟩; obtain ⟨A3, n3, c3, rfl, hn3, hq3, S3⟩ := N3; have HQ3 := Lib.hid hq3; have HS3 := Lib.hid S3; clear hq3 S3)
  go_ret2
  have hS := HS3.out
  exact ⟨_, rfl, rd_done (l := l) (X := Oc.beb 2 d.n0 ++ (Oc.beb 2 d.n1 ++ (Oc.beb 2 d.n2 ++ (Pr.pw true T (l.length + 6) hl).2))) (by rw [← List.append_assoc, ← List.append_assoc, ← List.append_assoc]; exact hS) rfl⟩
set_option maxHeartbeats 4000000 in
set_option maxRecDepth 100000 in
theorem rdPut_soa (g base : Nat) (T : Tab) (A : Option Addr) (l : List UInt8) (c : Nat) (d : Dv) (hl ml : List (List UInt8)) (w : World) (hT : RT w g base T) (hg : base ≤ g) (hb : base ≤ w.heap.size) (hmax : ∀ x ∈ T, x.2 ≤ 16383) (hTl : T.length ≤ 8796092000000)
    (hnil : A = none → c = 0) (hr : Bs w 0 w.heap.size A l) (hll : l.length ≤ 140737487000000) (hf : d.fits) (hck : ∀ W : World, Calls Tryd.prog 9 #[.int .u16 6, d.val] W fun e w' => e = .returned (.int .i64 0) ∧ Below W.heap.size W w') (hsp : Nm.split d.host.data.toList = some hl) (hsm : Nm.split d.mail.data.toList = some ml) :
    Calls Tryd.prog 15 #[.slice A l.length c, .pointer (some ⟨g, 0, none⟩), .int .u16 6, d.val] w fun e W' => ∃ v, e = .returned (.tuple #[v, .int .i64 0]) ∧ RdDone w g base T 6 d l hl ml v W' := by
  obtain ⟨i0, hi, hz0, hz1, hz2⟩ := info_parts Tryd.infoByte
  have HRT := Lib.hid hT
  have HMX := Lib.hid hmax
  have HR := Lib.hid hr
  have HN := Lib.hid hnil
  have HCK := Lib.hid hck
  have HF := Lib.hid hf
  have HX0 : Hid (Has (w.alloc (.cells d.cells 27)) w.heap.size 27 d.cells) := Has.fresh w _ _
  have HB0 : Hid (Below w.heap.size w (w.alloc (.cells d.cells 27))) := (Below.refl _ w).alloc (Nat.le_refl _) _
  clear hT hmax hr hnil hck hf
  unfold Dv.val at HCK ⊢
  unfold Dv.cells at HX0 HB0
  have HSP := Lib.hid hsp
  have HSM := Lib.hid hsm
  have hfew := few hsp
  have ht2 := Pr.pw_tab false hl T l.length
  have HM2 := Lib.hid (Pr.pw_max false hl T l.length HMX.out)
  clear hsp hsm
  have hx0 := HF.out 0
  have hx1 := HF.out 1
  have hx2 := HF.out 2
  have hx3 := HF.out 3
  have hx4 := HF.out 4
  go_enter Tryd.func15, Tryd.ntmps15
  go_wp2_with (first
    | (go_at_call 9; refine (HCK.out _).mono ?_; rintro e' w1 ⟨rfl, B1⟩; have HX1 := Lib.hid (HX0.out.below B1 HX0.out.lt); have HB1 := Lib.hid (HB0.out.trans (B1.mono HB0.out.size)); have hs1 := HB1.out.size; clear B1)
    | (at_builtin; refine wpList_append_bs rfl (.const (.slice none 0 0)) (.tmp 19) _ rfl w.heap.size _ i0 _ Tryd.underlying41 hi hz0 hz1 hz2 rfl (.slice none 0 0) 0 [] rfl (World.ownsRow_nil _ _ _ _) 0 w.heap.size A c l rfl (HR.out.keep HB1.out) HN.out (by omega) hs1 ?_; intro v2 w2 O2 G2; obtain ⟨A2, c2, rfl⟩ := own_form O2; rw [Nat.zero_add] at O2 ⊢; have HS := Lib.hid (ps_start HRT.out hb HX1.out HB1.out O2 G2); clear O2 G2; have x1 := dv_host HS.out.2.2.2.1; have x2 := dv_mail HS.out.2.2.2.1; have x0 := dv_raw HS.out.2.2.2.1)
    | (go_at_call 38; (with_reducible refine (rdPutN_of (ps_put false HS.out hb hg HMX.out (by omega) HSP.out (by omega))).mono ?_); rintro e' w3 ⟨v3, rfl, N3⟩; obtain ⟨A3, n3, c3, rfl, hn3, hq3, S3⟩ := N3; have HQ3 := Lib.hid hq3; have HS3 := Lib.hid S3; clear hq3 S3; have z2 := dv_mail HS3.out.2.2.2.1)
    | (go_at_call 38; (with_reducible refine (rdPutN_of (ps_put false HS3.out hb hg HM2.out (by omega) HSM.out (by omega))).mono ?_); rintro e' w4 ⟨v4, rfl, N4⟩; obtain ⟨A4, n4, c4, rfl, hn4, hq4, S4⟩ := N4; have HQ4 := Lib.hid hq4; have HS4 := Lib.hid S4; clear hq4 S4; have z3 : w4.cell? ⟨w.heap.size, 3, none⟩ = some (.int .u32 (d.n 0 : Nat)) := dv_n HS4.out.2.2.2.1 (k := 0) (by omega)))
  refine wp_loop_rounds 6 ?_
  rw [rounds_succ]
  go_wp2_with (go_at_call 39; (with_reducible refine (ps_four HS4.out hb (d.n 0) hx0 (by omega)).mono ?_); rintro e' w5 ⟨g5, c5, rfl, S5⟩; have HS5 := Lib.hid S5; have y5 : w5.cell? ⟨w.heap.size, 4, none⟩ = some (.int .u32 (d.n 1 : Nat)) := dv_n HS5.out.2.2.2.1 (k := 1) (by omega);clear S5)
  rw [rounds_succ]
  go_wp2_with (go_at_call 39; (with_reducible refine (ps_four HS5.out hb (d.n 1) hx1 (by omega)).mono ?_); rintro e' w6 ⟨g6, c6, rfl, S6⟩; have HS6 := Lib.hid S6; have y6 : w6.cell? ⟨w.heap.size, 5, none⟩ = some (.int .u32 (d.n 2 : Nat)) := dv_n HS6.out.2.2.2.1 (k := 2) (by omega);clear S6)
  rw [rounds_succ]
  go_wp2_with (go_at_call 39; (with_reducible refine (ps_four HS6.out hb (d.n 2) hx2 (by omega)).mono ?_); rintro e' w7 ⟨g7, c7, rfl, S7⟩; have HS7 := Lib.hid S7; have y7 : w7.cell? ⟨w.heap.size, 6, none⟩ = some (.int .u32 (d.n 3 : Nat)) := dv_n HS7.out.2.2.2.1 (k := 3) (by omega);clear S7)
  rw [rounds_succ]
  go_wp2_with (go_at_call 39; (with_reducible refine (ps_four HS7.out hb (d.n 3) hx3 (by omega)).mono ?_); rintro e' w8 ⟨g8, c8, rfl, S8⟩; have HS8 := Lib.hid S8; have y8 : w8.cell? ⟨w.heap.size, 7, none⟩ = some (.int .u32 (d.n 4 : Nat)) := dv_n HS8.out.2.2.2.1 (k := 4) (by omega);clear S8)
  rw [rounds_succ]
  go_wp2_with (go_at_call 39; (with_reducible refine (ps_four HS8.out hb (d.n 4) hx4 (by omega)).mono ?_); rintro e' w9 ⟨g9, c9, rfl, S9⟩; have HS9 := Lib.hid S9; clear S9)
  rw [rounds_succ]
  go_wp2
  go_ret2
  have hS := HS9.out
  have q3 := HQ3.out
  subst q3
  exact ⟨_, rfl, rd_done (l := l) (X := (Pr.pw false T l.length hl).2 ++ ((Pr.pw false (Pr.pw false T l.length hl).1 (l.length + (Pr.pw false T l.length hl).2.length) ml).2 ++ (Oc.beb 4 d.n0 ++ (Oc.beb 4 d.n1 ++ (Oc.beb 4 d.n2 ++ (Oc.beb 4 d.n3 ++ Oc.beb 4 d.n4)))))) (by simp only [← List.append_assoc]; exact hS) rfl⟩
end Go.Proofs.YtalghgaadcdhhaaDoor
