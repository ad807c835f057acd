/- Texts of the proofs, merged. -/
import Derived.Test.YtgcaephfhfkjcaaGreatDoorZm16
import Derived.Test.YtgcaephfhfkjcaaGreatDoorZm8
import Derived.Test.YtgcaephfhfkjcaaGreatDoorZm19
import Derived.Test.YtgcaephfhfkjcaaGreatDoorZm22
import Derived.Maps.AppendAt
import Derived.Test.YtgcaephfhfkjcaaGreatDoorZm21
import Derived.Deep.RegionHeld3
namespace Go.Proofs.YtgcaephfhfkjcaaGreatDoor
open Go.RowKit

theorem and15b (v : Nat) (hv : v ≤ 255) : bits BinOp.and IntKind.u8 (v : Int) 15 = ((v % 16 : Nat) : Int) := by
  have h := bits_mask .u8 8 (by decide) (fun n h0 h1 => by rw [IntKind.wrap_u8]; omega) 4 (by decide) (v : Int) (by omega) (by omega)
  have e : ((2 : Int) ^ 4 - 1) = 15 := by decide
  have e2 : ((2 : Int) ^ 4) = 16 := by decide
  rw [e, e2] at h
  rw [h]
  omega
theorem dgAll16 : ∀ j : Fin 16, ((⟨#[48, 49, 50, 51, 52, 53, 54, 55, 56, 57, 97, 98, 99, 100, 101, 102]⟩ : ByteArray)[j.1]'(by show j.1 < 16; omega)) = Rd.hx j.1 := by decide
theorem dg16 (r : Nat) (h : r < 16) : ((⟨#[48, 49, 50, 51, 52, 53, 54, 55, 56, 57, 97, 98, 99, 100, 101, 102]⟩ : ByteArray)[r]'(by show r < 16; omega)) = Rd.hx r := dgAll16 ⟨r, h⟩
/-- the words of any bytes. -/
def cw (l : List UInt8) : List (List UInt8) := [92, 35] :: Rd.dec l.length :: (if l = [] then [] else [l.flatMap Rd.hex2])
theorem hex2_is (c : UInt8) : Rd.hex2 c = [Rd.hx (c.toNat / 16), Rd.hx (c.toNat % 16)] := by
  have := c.toNat_lt
  unfold Rd.hex2
  rw [Rd.hex_small (by omega), Rd.hex_small (by omega)]
  rfl
theorem hex2_len (l : List UInt8) : (l.flatMap Rd.hex2).length = 2 * l.length := by
  induction l with
  | nil => rfl
  | cons c r ih => rw [List.flatMap_cons, List.length_append, ih, hex2_is]; simp; omega
theorem own_built {w1 : World} {b : Nat} {e : TypeId} (xs : List Value) (hb : b ≤ w1.heap.size) (hm : xs.length ≤ maxLen) :
    (w1.alloc (.cells xs.toArray e)).ownsRow b e 1 (.slice (some ⟨w1.heap.size, 0, none⟩) xs.length xs.length) xs.length xs :=
  ⟨by simp, .inr ⟨_, _, _, rfl, hb, heap_alloc_new w1 _, Nat.le_refl _, hm, by simp, by simp⟩⟩
theorem own_zeros {w : World} {g m : Nat} (h : Has w g 5 (List.replicate m (Value.int .u8 0)).toArray) (hm : m ≤ maxLen) : w.ownsRow g 5 1 (.slice (some ⟨g, 0, none⟩) 0 m) 0 [] :=
  ⟨rfl, .inr ⟨g, m, _, rfl, Nat.le_refl _, h, Nat.zero_le _, hm, by simp, by simp⟩⟩
/-- the digits so far, the words ahead, the bytes. -/
def CtW (w : World) (X : List Value) (g hi : Nat) (l : List UInt8) (k : Nat) (v : Value) (W : World) : Prop :=
  W.ownsRow g 5 1 v (2 * k) (bv ((l.take k).flatMap Rd.hex2)) ∧ (∃ b, v.ownBlock = some b ∧ (b = g ∨ hi + 1 ≤ b)) ∧ W.ownsRow w.heap.size 9 1 (.slice (some ⟨g - 1, 0, none⟩) 2 2) 2 X ∧
    Bs W hi (hi + 1) (some ⟨hi, 0, none⟩) l ∧ hi + 1 ≤ W.heap.size ∧ g < hi ∧ w.heap.size ≤ g ∧ Below w.heap.size w W
theorem CtW.low {w W W' : World} {X : List Value} {g hi k : Nat} {l : List UInt8} {v : Value} (h : CtW w X g hi l k v W) (hb : Below W.heap.size W W') : CtW w X g hi l k v W' := by
  obtain ⟨h1, h2, h3, h4, h5, h6, h7, h8⟩ := h
  exact ⟨own_below h1 hb (Nat.le_refl _), h2, own_below h3 hb (Nat.le_refl _), h4.keep (hb.mono h5), Nat.le_trans h5 hb.size, h6, h7, h8.trans (hb.mono h8.size)⟩
theorem CtW.step {w W W' : World} {X : List Value} {g hi k : Nat} {l : List UInt8} {v v' : Value} (h : CtW w X g hi l k v W) (hk : k < l.length)
    (hO : W'.ownsRow g 5 1 v' (2 * k + 2) (bv ((l.take k).flatMap Rd.hex2) ++ [.int .u8 ((Rd.hx ((l[k]'hk).toNat / 16)).toNat : Int), .int .u8 ((Rd.hx ((l[k]'hk).toNat % 16)).toNat : Int)])) (hG : W.grownBy W' v.ownBlock)
    (hat : v'.ownBlock = v.ownBlock ∨ v'.ownBlock = some W.heap.size) : CtW w X g hi l (k + 1) v' W' := by
  obtain ⟨h1, ⟨b, h2, hb⟩, h3, h4, h5, h6, h7, h8⟩ := h
  refine ⟨?_, ?_, own_stillK h1 h3 (by decide) hG, ?_, Nat.le_trans h5 hG.size, h6, h7, h8.grown hG h8.size (fun j hj => Nat.le_trans h7 (h1.lt j hj).1)⟩
  · rw [Rd.flat_take hk, hex2_is]
    exact own_to hO (by omega) (by simp [bv])
  · rcases hat with e | e
    · exact ⟨b, e.trans h2, hb⟩
    · exact ⟨_, e, .inr h5⟩
  · rw [h2] at hG
    exact h4.grown hG (by omega)
set_option maxHeartbeats 1000000 in
set_option maxRecDepth 100000 in
theorem counted_any (s : ByteArray) (hs : s.size ≤ 65535) : ManyW 70 s (cw s.data.toList) := by
  intro w hLA
  obtain ⟨i0, hi, hz0, hz1, hz2⟩ := info_parts Tryz.infoByte
  obtain ⟨iS, hiS, zS0, zS1, zS2⟩ := info_parts Tryz.infoString
  obtain ⟨l, hl⟩ : ∃ l, s.data.toList = l := ⟨_, rfl⟩
  have hlen : s.size = l.length := by rw [← hl]; simp
  have HI := Lib.hid (itoa_any s.size w (by omega) hLA.2.1)
  rw [hl]
  rw [hlen] at HI
  have HL := Lib.hid hl
  clear hl hLA
  by_cases h0 : l = []
  · subst h0
    obtain rfl : s = ⟨#[]⟩ := string_eq HL.out
    clear hlen HL
    go_enter Tryz.func70, Tryz.ntmps70
    go_wp2_with (go_at_call 72; refine HI.out.mono ?_; rintro e w1 ⟨rfl, B1⟩; have HB1 := Lib.hid B1; clear B1)
    go_ret
    exact ⟨_, rfl, own_built (svs (cw [])) HB1.out.size (by unfold maxLen; decide), HB1.out.alloc HB1.out.size _⟩
  · have hne : (l == []) = false := by simpa using h0
    have hpos : 0 < l.length := List.length_pos_iff.2 h0
    have hsne : (s.toList == []) = false := by rw [ByteArray.toList_eq, HL.out]; exact hne
    go_enter Tryz.func70, Tryz.ntmps70
    go_wp2_with (first
      | (go_at_call 72; refine HI.out.mono ?_; rintro e w1 ⟨rfl, B1⟩; have HB1 := Lib.hid B1; clear B1)
      | (at_make; refine wpList_make_lc rfl _ _ _ rfl _ i0 Tryz.underlying56 hi hz0 hz1 hz2 _ _ _ _ 0 (2 * l.length) rfl rfl rfl (by omega) (by omega) (by omega) ?_; intro w2 Z2 B2 S2; have HS2 := Lib.hid S2; have HB2 := Lib.hid B2; have HZ2 := Lib.hid Z2; clear S2 B2 Z2)
      | (refine wpList_convert_text rfl 9 56 (.tmp 18) rfl 5 Tryz.underlying9 Tryz.underlying56 Tryz.underlying5 s rfl ?_; intro c3 w3 hc3 b3 B3 z3; have HB3 := Lib.hid B3; have HS3 := Lib.hid b3; have HZ3 := Lib.hid z3; clear B3 b3 z3))
    have hz2' : w2.heap.size = w1.heap.size + 2 := by have := HS2.out; simpa using this
    have HC0 : Hid (CtW w (svs [[92, 35], Rd.dec l.length]) (w1.heap.size + 1) w2.heap.size l 0 (.slice (some ⟨w1.heap.size + 1, 0, none⟩) 0 (2 * l.length)) w3) := by
      have hA := own_built (w1 := w1) (b := w.heap.size) (e := 9) (svs [[92, 35], Rd.dec l.length]) HB1.out.size (by simp [svs, maxLen])
      have hZ := HZ2.out
      have hE : (w1.alloc (.cells (svs [[92, 35], Rd.dec l.length]).toArray 9)).heap.size = w1.heap.size + 1 := by simp
      have hB2 : Below (w1.heap.size + 1) (w1.alloc (.cells (svs [[92, 35], Rd.dec l.length]).toArray 9)) w2 := by have := HB2.out; rw [← hE]; exact this
      have hZ' : Has w2 (w1.heap.size + 1) 5 (List.replicate (2 * l.length) (Value.int .u8 0)).toArray := by rw [← hE]; exact hZ
      have hb := HS3.out
      rw [HL.out] at hb
      have hs3 : w3.heap.size = w2.heap.size + 1 := HZ3.out
      have hs1 := HB1.out.size
      exact ⟨own_below (own_zeros hZ' (by unfold maxLen; omega)) HB3.out (Nat.le_refl _), ⟨_, rfl, .inl rfl⟩, own_below (own_below hA hB2 (by rw [hE]; exact Nat.le_refl _)) HB3.out (Nat.le_refl _), hb, by omega, by omega, by omega, ((HB1.out.alloc HB1.out.size _).trans (hB2.mono (by omega))).trans (HB3.out.mono (by omega))⟩
    clear hz2'
    go_loopw [4, 21] (fun v i wr => ∃ k : Nat, i = .int .i64 k ∧ k ≤ l.length ∧ Hid (CtW w (svs [[92, 35], Rd.dec l.length]) (w1.heap.size + 1) w2.heap.size l k v wr)) (fun _ i _ => l.length - (intOf i).toNat)
    case atStart => exact ⟨0, rfl, Nat.zero_le _, HC0⟩
    case round =>
      obtain ⟨k, rfl, hk, HC⟩ := hrel
      by_cases hlt : k < l.length
      · obtain ⟨_, _, hx0, _, _, hcell⟩ := HC.out.2.2.2.1 (by omega)
        injection hx0 with hx0
        injection hx0 with hx1 hx2
        subst hx1 hx2
        have c0 := hcell k hlt
        rw [Nat.zero_add] at c0
        have c0d : wr.drew.cell? ⟨w2.heap.size, k, none⟩ = _ := c0
        have HST0 := fun (o : Obj) (v' : Value) (W' : World) => (HC.out.low (((Below.refl _ _).drew).alloc (Nat.le_refl _) o)).step (W' := W') (v' := v') hlt
        obtain ⟨x, hx⟩ : ∃ x, (l[k]'hlt).toNat = x := ⟨_, rfl⟩
        have hxl : x ≤ 255 := by have := (l[k]'hlt).toNat_lt; omega
        rw [hx] at c0 HST0
        have ha := and15b x hxl
        obtain ⟨p, hp⟩ : ∃ p, x / 16 = p := ⟨_, rfl⟩
        have hpl : p < 16 := by omega
        have hdv : (x : Int) / 16 = (p : Int) := by omega
        have hd1 := dg16 p hpl
        obtain ⟨q, hq⟩ : ∃ q, x % 16 = q := ⟨_, rfl⟩
        have hql : q < 16 := by omega
        have b1 : (p : Int) < 16 := by omega
        have b2 : (q : Int) < 16 := by omega
        rw [hq] at ha HST0
        rw [hp] at HST0
        have HST := Lib.hid HST0
        clear HST0
        have hd2 := dg16 q hql
        have hx' := Lib.hid hx
        have hp' := Lib.hid hp
        have hq' := Lib.hid hq
        clear hcell c0d hp hq
        obtain ⟨v', w', hr, hO, hG, _, hat⟩ := run_append_own_at (P := Tryz.prog) (wr.drew.alloc (.cells #[.int .u8 ((Rd.hx p).toNat : Int), .int .u8 ((Rd.hx q).toNat : Int)] 5)) (w1.heap.size + 1) 56 56 5 i0 _ 1 1 Tryz.underlying56 hi hz0 hz1 hz2 rfl (by decide) _ (2 * k) _ ((HC.out.low (((Below.refl _ _).drew).alloc (Nat.le_refl _) _)).1) ⟨wr.heap.size, 0, none⟩ 2 2 [.int .u8 ((Rd.hx p).toNat : Int), .int .u8 ((Rd.hx q).toNat : Int)] rfl (fun j u hj => by
          have hH := Has.fresh wr.drew 5 #[.int .u8 ((Rd.hx p).toNat : Int), .int .u8 ((Rd.hx q).toNat : Int)]
          have := hH.cell j
          rw [addr_add, Nat.zero_add]
          exact this.trans (by simpa using hj)) (by simp [Value.oneCell']) (by unfold maxLen; omega) (by omega) (by have := HC.out.2.2.2.2; simp; omega)
        have HR := Lib.hid hr
        have HO := Lib.hid hO
        have HG := Lib.hid hG
        have HAT := Lib.hid hat
        clear hr hO hG hat
        go_wp2
        refine wp_region_noPanic ?_
        refine wp_region_held_drew (S := (fun _ => True)) (by kernel_rfl) ?hrb1 (fun hHeld => ?_)
        case hrb1 => trivial
        refine wpAnyH_take (i := 0) (oi := { dst := some 25, op := Go.Op.move (Go.Operand.tmp 4), type := 56, pos := "show.go:81", after := #[], guard := none }) (v := ?vrb2) rfl (by kernel_rfl) (by kernel_rfl) (by kernel_rfl) (fun _ _ _ h => h) (Or.inl ⟨by rfl, ?hrb2⟩) (by assumption) ?_
        case hrb2 =>
          intro w hSw
          try dsimp only at hSw
          go_simp
          try with_reducible rfl
        try simp only [Act.put, List.setIfInBounds_toArray, List.set_cons_zero, List.set_cons_succ]
        refine wpAnyH_take (i := 1) (oi := { dst := some 26, op := Go.Op.move (Go.Operand.tmp 6), type := 5, pos := "show.go:81", after := #[], guard := none }) (v := ?vrb3) rfl (by kernel_rfl) (by kernel_rfl) (by kernel_rfl) (fun _ _ _ h => h) (Or.inl ⟨by rfl, ?hrb3⟩) (by assumption) ?_
        case hrb3 =>
          intro w hSw
          try dsimp only at hSw
          go_simp
          try with_reducible rfl
        try simp only [Act.put, List.setIfInBounds_toArray, List.set_cons_zero, List.set_cons_succ]
        refine wpAnyH_take (i := 2) (oi := { dst := some 27, op := Go.Op.binOp Go.BinOp.shr 5 (Go.Operand.tmp 26) (Go.Operand.const (Go.Value.int Go.IntKind.u64 4)) 154, type := 5, pos := "show.go:81", after := #[{ on := 1, ground := Go.Ground.data }], guard := none }) (v := ?vrb4) rfl (by kernel_rfl) (by kernel_rfl) (by kernel_rfl) (fun _ _ _ h => h) (Or.inl ⟨by rfl, ?hrb4⟩) (by assumption) ?_
        case hrb4 =>
          intro w hSw
          try dsimp only at hSw
          go_simp
          try with_reducible rfl
        try simp only [Act.put, List.setIfInBounds_toArray, List.set_cons_zero, List.set_cons_succ]
        refine wpAnyH_take (i := 4) (oi := { dst := some 29, op := Go.Op.move (Go.Operand.tmp 6), type := 5, pos := "show.go:81", after := #[], guard := none }) (v := ?vrb5) rfl (by kernel_rfl) (by kernel_rfl) (by kernel_rfl) (fun _ _ _ h => h) (Or.inl ⟨by rfl, ?hrb5⟩) (by assumption) ?_
        case hrb5 =>
          intro w hSw
          try dsimp only at hSw
          go_simp
          try with_reducible rfl
        try simp only [Act.put, List.setIfInBounds_toArray, List.set_cons_zero, List.set_cons_succ]
        refine wpAnyH_take (i := 5) (oi := { dst := some 30, op := Go.Op.binOp Go.BinOp.and 5 (Go.Operand.tmp 29) (Go.Operand.const (Go.Value.int Go.IntKind.u8 15)) 5, type := 5, pos := "show.go:81", after := #[{ on := 4, ground := Go.Ground.data }], guard := none }) (v := ?vrb6) rfl (by kernel_rfl) (by kernel_rfl) (by kernel_rfl) (fun _ _ _ h => h) (Or.inl ⟨by rfl, ?hrb6⟩) (by assumption) ?_
        case hrb6 =>
          intro w hSw
          try dsimp only at hSw
          go_simp
          try with_reducible rfl
        try simp only [Act.put, List.setIfInBounds_toArray, List.set_cons_zero, List.set_cons_succ]
        refine wpAnyH_ready (rs := [3, 6]) (by kernel_rfl) (by simp) ?_
        refine AllReadyH.cons (o := { dst := some 28, op := Go.Op.index 9 (Go.Operand.const (Go.Value.string { data := #[48, 49, 50, 51, 52, 53, 54, 55, 56, 57, 97, 98, 99, 100, 101, 102] })) (Go.Operand.tmp 27), type := 5, pos := "show.go:81", after := #[{ on := 2, ground := Go.Ground.data }], guard := none }) rfl (fun K hK => ?srb7) ?mrb7
        case srb7 =>
          go_simp
          refine hK.out _ _ ?hrb8 (fun hHeld => ?_)
          case hrb8 => trivial
          clear hK K
          try simp only [Act.put, List.setIfInBounds_toArray, List.set_cons_zero, List.set_cons_succ]
          refine wpAnyH_ready (rs := [6]) (by kernel_rfl) (by simp) ?_
          refine AllReadyH.cons (o := { dst := some 31, op := Go.Op.index 9 (Go.Operand.const (Go.Value.string { data := #[48, 49, 50, 51, 52, 53, 54, 55, 56, 57, 97, 98, 99, 100, 101, 102] })) (Go.Operand.tmp 30), type := 5, pos := "show.go:81", after := #[{ on := 5, ground := Go.Ground.data }], guard := none }) rfl (fun K hK => ?_) AllReadyH.nil
          go_simp
          refine hK.out _ _ ?hrb9 (fun hHeld => ?_)
          case hrb9 => trivial
          clear hK K
          try simp only [Act.put, List.setIfInBounds_toArray, List.set_cons_zero, List.set_cons_succ]
          refine wpAnyH_ready (rs := [7]) (by kernel_rfl) (by simp) ?_
          refine AllReadyH.cons (o := { dst := some 32, op := Go.Op.buildSlice 56 2 #[(0, Go.Operand.tmp 28), (1, Go.Operand.tmp 31)], type := 56, pos := "show.go:81", after := #[{ on := 3, ground := Go.Ground.data }, { on := 6, ground := Go.Ground.data }], guard := none }) rfl (fun K hK => ?_) AllReadyH.nil
          go_simp
          refine hK.out _ _ ?hrb10 (fun hHeld => ?_)
          case hrb10 => trivial
          clear hK K
          try simp only [Act.put, List.setIfInBounds_toArray, List.set_cons_zero, List.set_cons_succ]
          refine wpAnyH_ready (rs := [8]) (by kernel_rfl) (by simp) ?_
          refine AllReadyH.cons (o := { dst := some 33, op := Go.Op.call { callee := Go.Callee.builtin Go.Builtin.append, args := #[Go.Operand.tmp 25, Go.Operand.tmp 32], argTypes := #[56, 56] }, type := 56, pos := "show.go:81", after := #[{ on := 0, ground := Go.Ground.data }, { on := 7, ground := Go.Ground.data }], guard := none }) rfl (fun K hK => ?_) AllReadyH.nil
          (first | (refine oper_append_run (.tmp 25) (.tmp 32) 56 56 rfl _ _ rfl rfl HR.out ?_))
          refine hK.out _ _ ?hrb11 (fun hHeld => ?_)
          case hrb11 => trivial
          clear hK K
          try simp only [Act.put]
          refine wpAnyH_take (i := 9) (oi := { dst := some 4, op := Go.Op.assign (Go.Operand.tmp 33), type := 56, pos := "show.go:81", after := #[{ on := 8, ground := Go.Ground.data }, { on := 8, ground := Go.Ground.chain }, { on := 0, ground := Go.Ground.phase }, { on := 1, ground := Go.Ground.phase }, { on := 2, ground := Go.Ground.phase }, { on := 3, ground := Go.Ground.phase }, { on := 4, ground := Go.Ground.phase }, { on := 5, ground := Go.Ground.phase }, { on := 6, ground := Go.Ground.phase }, { on := 7, ground := Go.Ground.phase }, { on := 8, ground := Go.Ground.phase }], guard := none }) (v := ?vrb12) rfl (by kernel_rfl) (by kernel_rfl) (by kernel_rfl) (fun _ _ _ h => h) (Or.inl ⟨by rfl, ?hrb12⟩) (by assumption) ?_
          case hrb12 =>
            intro w hSw
            try dsimp only at hSw
            go_simp
            try with_reducible rfl
          try simp only [Act.put, List.setIfInBounds_toArray, List.set_cons_zero, List.set_cons_succ]
          refine wpAnyH_done (by kernel_rfl) ?_ _
          refine NoPanic.normal ?_
          go_wp2
          go_roundw
          case rel => exact ⟨k + 1, by go_num, by omega, HST.out _ _ _ HO.out HG.out HAT.out⟩
          case measure => simp [intOf]; omega
        refine AllReadyH.cons (o := { dst := some 31, op := Go.Op.index 9 (Go.Operand.const (Go.Value.string { data := #[48, 49, 50, 51, 52, 53, 54, 55, 56, 57, 97, 98, 99, 100, 101, 102] })) (Go.Operand.tmp 30), type := 5, pos := "show.go:81", after := #[{ on := 5, ground := Go.Ground.data }], guard := none }) rfl (fun K hK => ?_) AllReadyH.nil
        go_simp
        refine hK.out _ _ ?hrb13 (fun hHeld => ?_)
        case hrb13 => trivial
        clear hK K
        try simp only [Act.put, List.setIfInBounds_toArray, List.set_cons_zero, List.set_cons_succ]
        refine wpAnyH_ready (rs := [3]) (by kernel_rfl) (by simp) ?_
        refine AllReadyH.cons (o := { dst := some 28, op := Go.Op.index 9 (Go.Operand.const (Go.Value.string { data := #[48, 49, 50, 51, 52, 53, 54, 55, 56, 57, 97, 98, 99, 100, 101, 102] })) (Go.Operand.tmp 27), type := 5, pos := "show.go:81", after := #[{ on := 2, ground := Go.Ground.data }], guard := none }) rfl (fun K hK => ?_) AllReadyH.nil
        go_simp
        refine hK.out _ _ ?hrb14 (fun hHeld => ?_)
        case hrb14 => trivial
        clear hK K
        try simp only [Act.put, List.setIfInBounds_toArray, List.set_cons_zero, List.set_cons_succ]
        refine wpAnyH_ready (rs := [7]) (by kernel_rfl) (by simp) ?_
        refine AllReadyH.cons (o := { dst := some 32, op := Go.Op.buildSlice 56 2 #[(0, Go.Operand.tmp 28), (1, Go.Operand.tmp 31)], type := 56, pos := "show.go:81", after := #[{ on := 3, ground := Go.Ground.data }, { on := 6, ground := Go.Ground.data }], guard := none }) rfl (fun K hK => ?_) AllReadyH.nil
        go_simp
        refine hK.out _ _ ?hrb15 (fun hHeld => ?_)
        case hrb15 => trivial
        clear hK K
        try simp only [Act.put, List.setIfInBounds_toArray, List.set_cons_zero, List.set_cons_succ]
        refine wpAnyH_ready (rs := [8]) (by kernel_rfl) (by simp) ?_
        refine AllReadyH.cons (o := { dst := some 33, op := Go.Op.call { callee := Go.Callee.builtin Go.Builtin.append, args := #[Go.Operand.tmp 25, Go.Operand.tmp 32], argTypes := #[56, 56] }, type := 56, pos := "show.go:81", after := #[{ on := 0, ground := Go.Ground.data }, { on := 7, ground := Go.Ground.data }], guard := none }) rfl (fun K hK => ?_) AllReadyH.nil
        (first | (refine oper_append_run (.tmp 25) (.tmp 32) 56 56 rfl _ _ rfl rfl HR.out ?_))
        refine hK.out _ _ ?hrb16 (fun hHeld => ?_)
        case hrb16 => trivial
        clear hK K
        try simp only [Act.put]
        refine wpAnyH_take (i := 9) (oi := { dst := some 4, op := Go.Op.assign (Go.Operand.tmp 33), type := 56, pos := "show.go:81", after := #[{ on := 8, ground := Go.Ground.data }, { on := 8, ground := Go.Ground.chain }, { on := 0, ground := Go.Ground.phase }, { on := 1, ground := Go.Ground.phase }, { on := 2, ground := Go.Ground.phase }, { on := 3, ground := Go.Ground.phase }, { on := 4, ground := Go.Ground.phase }, { on := 5, ground := Go.Ground.phase }, { on := 6, ground := Go.Ground.phase }, { on := 7, ground := Go.Ground.phase }, { on := 8, ground := Go.Ground.phase }], guard := none }) (v := ?vrb17) rfl (by kernel_rfl) (by kernel_rfl) (by kernel_rfl) (fun _ _ _ h => h) (Or.inl ⟨by rfl, ?hrb17⟩) (by assumption) ?_
        case hrb17 =>
          intro w hSw
          try dsimp only at hSw
          go_simp
          try with_reducible rfl
        try simp only [Act.put, List.setIfInBounds_toArray, List.set_cons_zero, List.set_cons_succ]
        refine wpAnyH_done (by kernel_rfl) ?_ _
        refine NoPanic.normal ?_
        go_wp2
        go_roundw
        case rel => exact ⟨k + 1, by go_num, by omega, HST.out _ _ _ HO.out HG.out HAT.out⟩
        case measure => simp [intOf]; omega
      · obtain rfl : k = l.length := by omega
        have h1 := HC.out.1
        rw [List.take_length] at h1
        have hfl := hex2_len l
        obtain ⟨ad, cp, rfl⟩ := own_form h1
        have HCV := Lib.hid (run_convert_own wr 56 9 5 Tryz.underlying56 Tryz.underlying5 Tryz.underlying9 (w1.heap.size + 1) (2 * l.length) _ (l.flatMap Rd.hex2) h1)
        have HW := Lib.hid HC.out.2.2.1
        have HB := Lib.hid HC.out.2.2.2.2.2.2.2
        clear h1
        have hcv := HCV.out
        go_wp2_with (at_builtin; refine wpList_append_new rfl (.tmp 35) (.tmp 38) _ rfl _ iS _ 16 Tryz.underlying70 hiS zS0 zS1 zS2 rfl w.heap.size w _ 2 _ rfl HW.out HB.out (Nat.le_refl _) [sv (l.flatMap Rd.hex2)] (by simp [Value.oneCell', sv]) _ 1 rfl rfl (by omega) (by omega) ?_; intro v9 w9 O9 B9 G9; have HO9 := Lib.hid O9; have HB9 := Lib.hid B9; clear O9 B9 G9)
        go_ret
        have hcw : svs (cw l) = svs [[92, 35], Rd.dec l.length] ++ [sv (l.flatMap Rd.hex2)] := by unfold cw; rw [if_neg h0]; rfl
        have hcl : (cw l).length = 2 + 1 := by unfold cw; rw [if_neg h0]; rfl
        exact ⟨_, rfl, own_to HO9.out hcl.symm hcw.symm, HB9.out⟩
end Go.Proofs.YtgcaephfhfkjcaaGreatDoor
namespace Go.Proofs.YtgcaephfhfkjcaaGreatDoor
open Go.RowKit

/-- a word in quotes. -/
def qw (x : List UInt8) : List UInt8 := (34 :: Nm.esc true x) ++ [34]
theorem own_put {W : World} {b g n cp j : Nat} {e : TypeId} {xs : List Value} (h : W.ownsRow b e 1 (.slice (some ⟨g, 0, none⟩) n cp) n xs) (u : Value) : (W.setCell ⟨g, j, none⟩ u).ownsRow b e 1 (.slice (some ⟨g, 0, none⟩) n cp) n (xs.set j u) := by
  refine ⟨by rw [List.length_set]; exact h.1, ?_⟩
  rcases h.2 with ⟨hv, _⟩ | ⟨g', cap, cur, hv, hb, hg, hc, hm, hs, ht⟩
  · cases hv
  · injection hv with h1 h2 h3
    injection h1 with h1
    injection h1 with h1
    subst h1 h3
    refine .inr ⟨g, cp, cur.setIfInBounds j u, rfl, hb, heap_setCell_same W g j cur e u hg, hc, hm, by simpa using hs, ?_⟩
    rw [Array.toList_setIfInBounds, List.take_set, ht]
theorem own_free {W : World} {b g n cp j : Nat} {e : TypeId} {xs : List Value} (h : W.ownsRow b e 1 (.slice (some ⟨g, 0, none⟩) n cp) n xs) : W.frozen? ⟨g, j, none⟩ = false := by
  rcases h.2 with ⟨hv, _⟩ | ⟨g', cap, cur, hv, hb, hg, _⟩
  · cases hv
  · injection hv with h1 h2 h3
    injection h1 with h1
    injection h1 with h1
    subst h1
    exact Has.free hg j
theorem tx_le : ∀ n (l : List UInt8) (ls : List (List UInt8)), l.length ≤ n → Rd.tx l = some ls → ∀ x ∈ ls, x.length ≤ l.length := by
  intro n
  induction n with
  | zero =>
    intro l ls hl h
    obtain rfl : l = [] := List.eq_nil_of_length_eq_zero (by omega)
    rw [Rd.tx_nil] at h; cases h; simp
  | succ n ih =>
    intro l ls hl h
    cases l with
    | nil => rw [Rd.tx_nil] at h; cases h; simp
    | cons k t =>
      by_cases hk : t.length < k.toNat
      · rw [Rd.tx_bad hk] at h; cases h
      · rw [Rd.tx_cons hk] at h
        obtain ⟨r, hr, rfl⟩ := Option.map_eq_some_iff.1 h
        have := ih _ _ (by simp at hl ⊢; omega) hr
        intro x hx
        rcases List.mem_cons.1 hx with rfl | hx
        · rw [List.length_take, List.length_cons]; omega
        · have := this x hx
          simp at this ⊢
          omega
theorem put_at (ls : List (List UInt8)) {k : Nat} (hk : k < ls.length) : (svs ((ls.take k).map qw ++ ls.drop k)).set k (sv (qw (ls[k]'hk))) = svs ((ls.take (k + 1)).map qw ++ ls.drop (k + 1)) := by
  have hl : ((ls.take k).map qw).length = k := by rw [List.length_map, List.length_take]; omega
  rw [List.drop_eq_getElem_cons hk, List.take_succ_eq_append_getElem hk, List.map_append]
  unfold svs
  rw [← List.map_set, List.set_append_right _ _ (by omega), hl, Nat.sub_self, List.set_cons_zero]
  simp
theorem get_at (ls : List (List UInt8)) {k : Nat} (hk : k < ls.length) : (svs ((ls.take k).map qw ++ ls.drop k))[k]? = some (sv (ls[k]'hk)) := by
  have hl : ((ls.take k).map qw).length = k := by rw [List.length_map, List.length_take]; omega
  unfold svs
  rw [List.getElem?_map, List.getElem?_append_right (by omega), hl, Nat.sub_self, List.drop_eq_getElem_cons hk]
  rfl
set_option maxHeartbeats 1000000 in
set_option maxRecDepth 100000 in
theorem quoted_any (s : ByteArray) (ls : List (List UInt8)) (hs : s.size ≤ 65535) (htx : Rd.tx s.data.toList = some ls) (hne : ls ≠ []) : ManyW 69 s (ls.map qw) := by
  intro w hLA
  have hlen : s.data.toList.length = s.size := by simp
  have hle := tx_le _ _ _ (Nat.le_refl _) htx
  have hll := Rd.tx_len htx
  have hT := textsOf_any s w (by omega)
  rw [htx] at hT
  have HT := Lib.hid hT
  have HLE := Lib.hid hle
  have hpos : 0 < ls.length := List.length_pos_iff.2 hne
  clear hT htx hLA hle
  go_enter Tryz.func69, Tryz.ntmps69
  go_wp2_with (go_at_call 98; refine HT.out.mono ?_; rintro e w1 ⟨v, B1, rfl, O1⟩; obtain ⟨g, cp, rfl, hcp, hgb, hgl⟩ := own_pos O1 hpos; have HB1 := Lib.hid B1; have HO1 := Lib.hid O1; clear B1 O1)
  clear HT
  go_loopw [14] (fun i wr => ∃ k : Nat, i = .int .i64 k ∧ k ≤ ls.length ∧ Hid (wr.ownsRow w.heap.size 9 1 (.slice (some ⟨g, 0, none⟩) ls.length cp) ls.length (svs ((ls.take k).map qw ++ ls.drop k))) ∧ Hid (Below w.heap.size w wr)) (fun i _ => ls.length - (intOf i).toNat)
  case atStart => exact ⟨0, rfl, Nat.zero_le _, by simpa using HO1, HB1⟩
  case round =>
    obtain ⟨k, rfl, hk, HO, HB⟩ := hrel
    by_cases hlt : k < ls.length
    · have hbs := HB.out.size
      have hck := own_cells HO.out k _ (get_at ls hlt)
      have hxl : (ls[k]'hlt).length ≤ 65535 := by have := HLE.out _ (List.getElem_mem hlt); omega
      have HPA := Lib.hid (put_at ls hlt)
      obtain ⟨x, hx⟩ : ∃ x, ls[k]'hlt = x := ⟨_, rfl⟩
      rw [hx] at hck hxl HPA
      clear hx
      have hel := Nm.esc_len true x
      have HE := Lib.hid (Escape_any ⟨x.toArray⟩ true wr (by show x.toArray.size ≤ _; simp; omega))
      have hxx : (⟨x.toArray⟩ : ByteArray).data.toList = x := rfl
      rw [hxx] at HE
      obtain ⟨y, hy⟩ : ∃ y, Nm.esc true x = y := ⟨_, rfl⟩
      have HQ : Hid (sv (qw x) = .string ((⟨#[34]⟩ ++ ⟨y.toArray⟩) ++ ⟨#[34]⟩)) := by
        rw [Hid, ← hy]
        exact congrArg Value.string (string_eq (by simp [qw])).symm
      rw [hy] at HE hel
      clear hy hxx
      go_wp2_with (go_at_call 63; refine HE.out.mono ?_; rintro e w5 ⟨rfl, B5⟩; have HO5 := Lib.hid (own_below HO.out B5 (Nat.le_refl _)); have HB5 := Lib.hid (HB.out.trans (B5.mono hbs)); have ck5 := (B5.cell (p := ⟨g, k, none⟩) (World.block_lt_of_cell? _ _ hck)).trans hck; have fk5 := own_free (j := k) HO5.out; clear B5)
      go_roundw
      case rel => exact ⟨k + 1, by go_num, by omega, by rw [← HPA.out, HQ.out]; exact own_put HO5.out _, HB5.out.setCell hgb _⟩
      case measure => simp [intOf]; omega
    · obtain rfl : k = ls.length := by omega
      have HO2 : Hid (wr.ownsRow w.heap.size 9 1 (.slice (some ⟨g, 0, none⟩) ls.length cp) (ls.map qw).length (svs (ls.map qw))) := by
        have := HO.out
        rw [List.take_length, List.drop_length, List.append_nil] at this
        rw [Hid, List.length_map]
        exact this
      clear HO
      go_wp2
      go_ret
      exact ⟨_, rfl, HO2.out, HB.out⟩
end Go.Proofs.YtgcaephfhfkjcaaGreatDoor
namespace Go.Proofs.YtgcaephfhfkjcaaGreatDoor
open Go.RowKit

theorem join_cons2 (x y : List UInt8) (r : List (List UInt8)) (s : List UInt8) : Lib.join (x :: y :: r) s = x ++ (s ++ Lib.join (y :: r) s) := by
  unfold Lib.join
  rw [List.intercalate, List.intercalate, List.intersperse]
  all_goals first
    | (intro h; cases h)
    | simp
theorem join_len {s : List UInt8} {m : Nat} : ∀ (ws : List (List UInt8)), (∀ x ∈ ws, x.length ≤ m) → (Lib.join ws s).length ≤ ws.length * (m + s.length)
  | [], _ => by simp [Lib.join]
  | [x], h => by
    have h1 := h x (by simp)
    have e : Lib.join [x] s = x := by simp [Lib.join, List.intercalate]
    rw [e]
    simp
    omega
  | x :: y :: r, h => by
    have h1 := h x (by simp)
    have h2 := join_len (s := s) (y :: r) (fun z hz => h z (List.mem_cons_of_mem _ hz))
    rw [join_cons2, List.length_cons, Nat.succ_mul]
    simp only [List.length_append]
    omega
theorem join_by {W : World} {b g cp : Nat} {ws : List (List UInt8)} {sep : ByteArray} {ss : List UInt8} (hss : sep.data.toList = ss) (h : W.ownsRow b 9 1 (.slice (some ⟨g, 0, none⟩) ws.length cp) ws.length (svs ws)) (hg : g < W.heap.size) (hc : ws.length ≤ cp) (hl : ws.length ≤ 140737488355328) (hj : (Lib.join ws ss).length ≤ 140737488355328) :
    Calls Tryz.prog 38 #[.slice (some ⟨g, 0, none⟩) ws.length cp, .string sep] W fun e w' => e = .returned (sv (Lib.join ws ss)) ∧ Below W.heap.size W w' := by
  subst hss
  have hm : (ws.map fun l => (⟨l.toArray⟩ : ByteArray)).map (·.data.toList) = ws := by
    rw [List.map_map]
    exact (List.map_congr_left (fun _ _ => rfl)).trans (List.map_id _)
  have := Tryz.strings_Join g 0 cp (ws.map fun l => (⟨l.toArray⟩ : ByteArray)) sep W (fun j x hx => by
    have hj2 : j < ws.length := by have := (List.getElem?_eq_some_iff.1 hx).1; simpa using this
    rw [Nat.zero_add]
    have hx2 : x = ⟨(ws[j]).toArray⟩ := by simp [hj2] at hx; exact hx.symm
    rw [hx2]
    exact own_cells h j _ (by simp [svs, hj2])) hg (by simpa using hl) (by simpa using hc) (by rw [hm]; exact hj)
  rw [hm, List.length_map] at this
  exact this
namespace Rd
/-- each byte as a number. -/
def nms (l : By) : List By := l.map fun c => dec c.toNat
theorem nms_take {l : By} {k : Nat} (hk : k < l.length) : nms (l.take (k + 1)) = nms (l.take k) ++ [dec (l[k]).toNat] := by
  unfold nms
  rw [List.take_succ_eq_append_getElem hk, List.map_append]
  rfl
theorem nms_len (l : By) : ∀ x ∈ nms l, x.length ≤ 256 := by
  intro x hx
  obtain ⟨c, _, rfl⟩ := List.mem_map.1 hx
  have h1 := dec_len c.toNat
  have h2 := c.toNat_lt
  omega
end Rd
set_option maxHeartbeats 4000000 in
set_option maxRecDepth 100000 in
theorem dotted_any (s : ByteArray) (h0 : 0 < s.size) (hsz : s.size ≤ 100000) : OneW 67 s (Lib.join (Rd.nms s.data.toList) [46]) := by
  intro w hLA
  obtain ⟨i0, hi, hz0, hz1, hz2⟩ := info_parts Tryz.infoString
  obtain ⟨l, hl⟩ : ∃ l, s.data.toList = l := ⟨_, rfl⟩
  have hlen : s.size = l.length := by rw [← hl]; simp
  rw [hl]
  have hjl := join_len (s := [46]) (Rd.nms l) (Rd.nms_len l)
  have hnl : (Rd.nms l).length = l.length := by simp [Rd.nms]
  have hj1 : (Lib.join (Rd.nms l) [46]).length ≤ 140737488355328 := by
    rw [hnl, show ([46] : List UInt8).length = 1 from rfl] at hjl
    omega
  obtain ⟨R, hR⟩ : ∃ R, Lib.join (Rd.nms l) [46] = R := ⟨_, rfl⟩
  rw [hR]
  have HRES := Lib.hid hR
  have HJ1 := Lib.hid hj1
  have HL := Lib.hid hl
  have HLA := Lib.hid hLA
  clear hl hR hLA hjl hj1
  go_enter Tryz.func67, Tryz.ntmps67
  go_wp2_with (refine wpList_convert_text rfl 9 56 (.tmp 6) rfl 5 Tryz.underlying9 Tryz.underlying56 Tryz.underlying5 s rfl ?_; intro c w1 hc hb1 hB1 hz; rw [HL.out] at hb1; have HBS := Lib.hid hb1; have HB1 := Lib.hid hB1; have HZ := Lib.hid hz; clear hb1 hB1 hz)
  have hwl : w.heap.size + 1 = w1.heap.size := HZ.out.symm
  have HIT : ∀ (u : Nat) (W : World), u ≤ 4294967295 → Below w1.heap.size w1 W → Hid (Calls Tryz.prog 72 #[.int .i64 u] W fun e w' => e = .returned (sv (Rd.dec u)) ∧ Below W.heap.size W w') := fun u W hu hb => itoa_any u W hu ((HLA.out.below HB1.out (Nat.le_refl _)).below hb (by omega)).2.1
  go_loopw [3, 9] (fun v i wr => ∃ k : Nat, i = .int .i64 k ∧ k ≤ l.length ∧ Hid (wr.ownsRow w1.heap.size 9 1 v k (svs (Rd.nms (l.take k)))) ∧ Hid (Below w1.heap.size w1 wr)) (fun _ i _ => l.length - (intOf i).toNat)
  case atStart => exact ⟨0, rfl, Nat.zero_le _, World.ownsRow_nil _ _ _ _, Below.refl _ _⟩
  case round =>
    obtain ⟨k, rfl, hk, HO, HB⟩ := hrel
    have hbs := HB.out.size
    by_cases hlt : k < l.length
    · have hm8 : (l[k]).toNat < 256 := (l[k]).toNat_lt
      have cb : wr.cell? ⟨w.heap.size, k, none⟩ = some (.int .u8 (l[k].toNat : Int)) := by
        obtain ⟨g, o, e, _, _, hcell⟩ := (HBS.out.keep (HB.out.mono (by omega))) (by omega)
        cases e
        have := hcell k hlt
        rw [Nat.zero_add] at this
        exact this
      have HTK := Lib.hid (Rd.nms_take hlt)
      obtain ⟨ad, cp, hv⟩ := own_form HO.out
      subst hv
      generalize (l[k]).toNat = u at *
      have HI := HIT u
      go_wp2_with (first
        | (go_at_call 72; refine (HI _ (by omega) HB.out).out.mono ?_; rintro e w2 ⟨rfl, B2⟩; have HB2 := Lib.hid (HB.out.trans (B2.mono hbs)); have HO2 := Lib.hid (own_below HO.out B2 (Nat.le_refl _)); have hs2 := B2.size; clear B2)
        | (at_builtin; refine wpList_append_own _ rfl (.tmp 13) (.tmp 17) _ rfl w1.heap.size 9 i0 _ 1 16 Tryz.underlying70 hi hz0 hz1 hz2 rfl (by decide) _ _ (svs (Rd.nms (l.take k))) rfl (HO2.out.alloc _) ⟨w2.heap.size, 0, none⟩ 1 1 [sv (Rd.dec u)] rfl rfl ?c1 ?c2 ?c3 ?c4 ?c5 (fun v' w4 hown1 hg1 _ => ?_)))
      case c1 => exact cell_one_new _ _ _
      case c2 => simp [Value.oneCell']
      case c3 => unfold maxLen; omega
      case c4 => omega
      case c5 => simp; omega
      go_roundw
      case rel => exact ⟨k + 1, by go_num, by omega, by rw [HTK.out, svs_append]; exact hown1, (HB2.out.alloc (by omega) _).grown hg1 (by simp; omega) (fun j hj => (HO2.out.lt j hj).1)⟩
      case measure => simp [intOf]; omega
    · obtain rfl : k = l.length := by omega
      have HO' := HO.out
      rw [List.take_of_length_le (Nat.le_refl _)] at HO'
      obtain ⟨g, cp, rfl, hcp, hg1, hg2⟩ := own_pos HO' (by omega)
      have HC' := (join_by (sep := ⟨#[46]⟩) (ss := [46]) (cp := cp) rfl (by rw [hnl]; exact HO') hg2 (by rw [hnl]; exact hcp) (by rw [hnl]; omega) HJ1.out)
      rw [HRES.out, hnl] at HC'
      have HC := Lib.hid HC'
      clear HO HO' HC'
      go_wp2_with (go_at_call 38; refine HC.out.mono ?_; rintro e w5 ⟨rfl, B5⟩)
      go_ret
      exact ⟨rfl, HB1.out.trans ((HB.out.trans (B5.mono hbs)).mono (by omega))⟩
end Go.Proofs.YtgcaephfhfkjcaaGreatDoor
namespace Go.Proofs.YtgcaephfhfkjcaaGreatDoor.Rd

theorem join_cons {α : Type} (f : α → By) (c : UInt8) (a : α) (r : List α) : Lib.join ((a :: r).map f) [c] = f a ++ r.flatMap fun x => c :: f x := by
  induction r generalizing a with
  | nil => simp [Lib.join, List.intercalate]
  | cons b r ih =>
    rw [List.map_cons, List.map_cons, join_cons2, ← List.map_cons, ih]
    simp
/-- each thing with the letter ahead, but the first. -/
theorem join_flat {α : Type} (f : α → By) (c : UInt8) (l : List α) : Lib.join (l.map f) [c] = (l.flatMap fun x => c :: f x).drop 1 := by
  cases l with
  | nil => simp [Lib.join, List.intercalate]
  | cons a r =>
    rw [join_cons]
    simp
theorem nms_show (l : By) : Lib.join (nms l) [46] = showA l := join_flat _ _ _
end Go.Proofs.YtgcaephfhfkjcaaGreatDoor.Rd
