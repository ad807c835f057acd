/- Texts of the proofs, merged. -/
import Derived.Test.YtbipcflmmfipbaaDoorG3
import Derived.Lib.ConvBytes
import Derived.Test.YtbipcflmmfipbaaDoorG1
import Derived.Test.YtbipcflmmfipbaaDoorG2
import Derived.WalkKit
import Derived.Laws.StructEq
import Derived.MapKept
/- The document's answers for numbers as bytes, and short texts. -/
namespace Go.Proofs.YtbipcflmmfipbaaDoor
open Go.RowKit

theorem ret3 {k : IntKind} {a b : Int} {x y : Value} (h : a = b) : Ending.returned (.tuple #[.int k a, x, y]) = .returned (.tuple #[.int k b, x, y]) := by rw [h]

end Go.Proofs.YtbipcflmmfipbaaDoor
/- Short texts, numbers that go round, and the numbers that are known: package octet and the document's answers. -/
namespace Go.Proofs.YtbipcflmmfipbaaDoor
open Go.RowKit

-- what PutText answers: an error, or the text behind what there is.
def tup3 (a b c : Value) : Value := .tuple #[a, b, c]
/-- what TakeText answers. -/
def takeTextV (l : List UInt8) (z : Int) : Value :=
  if z < 0 ∨ (l.length : Int) < z then .tuple #[.string ⟨#[]⟩, .int .i64 0, .int .i64 1]
  else if (l.length : Int) < z + 1 + Oc.num ((l.drop z.toNat).take 1) ∨ (l.length : Int) < z + 1 then .tuple #[.string ⟨#[]⟩, .int .i64 0, .int .i64 6]
  else .tuple #[sv ((l.drop (z.toNat + 1)).take (Oc.num ((l.drop z.toNat).take 1))), .int .i64 (z + 1 + Oc.num ((l.drop z.toNat).take 1)), .int .i64 0]
theorem takeV_arg {K : IntKind} {k : Nat} {l : List UInt8} {z : Int} (h : z < 0 ∨ (l.length : Int) < z) : takeV K k l z = .tuple #[.int K 0, .int .i64 0, .int .i64 1] := by unfold takeV; rw [if_pos h]
theorem takeV_short {K : IntKind} {k : Nat} {l : List UInt8} {z : Int} (h : ¬ (z < 0 ∨ (l.length : Int) < z)) (h2 : (l.length : Int) < z + k) : takeV K k l z = .tuple #[.int K 0, .int .i64 0, .int .i64 6] := by unfold takeV; rw [if_neg h, if_pos h2]
theorem takeV_ok {K : IntKind} {k : Nat} {l : List UInt8} {n : Nat} (h2 : n + k ≤ l.length) : takeV K k l n = .tuple #[.int K (Oc.num ((l.drop n).take k)), .int .i64 (n + k), .int .i64 0] := by
  unfold takeV; rw [if_neg (by omega), if_neg (by omega)]; simp


set_option maxHeartbeats 1000000 in
set_option maxRecDepth 100000 in
theorem takeText_ok (g0 o0 : Nat) (l : List UInt8) (c n m : Nat) (w : World) (hc : l.length ≤ c) (hm : l.length ≤ 211106232532992) (lo hi : Nat) (hr : Bs w lo hi (some ⟨g0, o0, none⟩) l) (hk : n + 1 + m ≤ l.length)
    (ht : Calls Tryd.prog 170 #[.slice (some ⟨g0, o0, none⟩) l.length c, .int .i64 n] w fun e w' => e = .returned (.tuple #[.int .u8 m, .int .i64 (n + 1), .int .i64 0]) ∧ w = w') (hm2 : m < 256) :
    Calls Tryd.prog 133 #[.slice (some ⟨g0, o0, none⟩) l.length c, .int .i64 n] w fun e w' => e = .returned (.tuple #[sv ((l.drop (n + 1)).take m), .int .i64 (n + 1 + m), .int .i64 0]) ∧ w = w' := by
  have HT := Lib.hid ht
  clear ht
  have HR := Lib.hid (hr.sub (n + 1) m hk)
  clear hr
  by_cases hcn : c = n + 1
  · obtain rfl : m = 0 := by omega
    subst hcn
    go_enter Tryd.func133, Tryd.ntmps133
    go_wp2_with (first
      | (go_at_call 170; refine HT.out.mono ?_; rintro e w1 ⟨rfl, rfl⟩)
      | (refine wpList_convert_bs rfl 34 9 (.tmp 32) rfl 5 Tryd.underlying34 Tryd.underlying5 Tryd.underlying9 lo hi _ _ _ [] (by simp) rfl Bs.nil ?_))
    go_ret3
    exact ⟨by simp, rfl⟩
  · have hcn2 : n + 1 < c := by omega
    go_enter Tryd.func133, Tryd.ntmps133
    go_wp2_with (first
      | (go_at_call 170; refine HT.out.mono ?_; rintro e w1 ⟨rfl, rfl⟩)
      | (refine wpList_convert_bs rfl 34 9 (.tmp 32) rfl 5 Tryd.underlying34 Tryd.underlying5 Tryd.underlying9 lo hi _ _ _ ((l.drop (n + 1)).take m) (by rw [List.length_take, List.length_drop]; omega) rfl HR.out ?_))
    go_ret3
    exact ⟨rfl, rfl⟩
set_option maxHeartbeats 1000000 in
set_option maxRecDepth 100000 in
theorem takeText (A : Option Addr) (l : List UInt8) (c : Nat) (z : Int) (w : World) (hc : l.length ≤ c) (hm : l.length ≤ 211106232532992) (lo hi : Nat) (hr : Bs w lo hi A l) :
    Calls Tryd.prog 133 #[.slice A l.length c, .int .i64 z] w fun e w' => e = .returned (takeTextV l z) ∧ w = w' := by
  have HT := fun w => take_u8 A l c z w hc (by omega) lo hi
  unfold takeTextV
  by_cases h0 : z < 0 ∨ (l.length : Int) < z
  · rw [if_pos h0]
    have HT1 := Lib.hid (fun (w : World) (hr : Bs w lo hi A l) => HT w hr)
    rw [takeV_arg h0] at HT1
    clear HT h0
    have HR := Lib.hid hr
    clear hr
    go_enter Tryd.func133, Tryd.ntmps133
    go_wp2_with (first
      | (go_at_call 170; refine (HT1.out _ HR.out).mono ?_; rintro e w1 ⟨rfl, rfl⟩))
    go_ret3
    exact ⟨rfl, rfl⟩
  · rw [if_neg h0]
    by_cases h1 : (l.length : Int) < z + 1
    · rw [if_pos (.inr h1)]
      have HT1 := Lib.hid (fun (w : World) (hr : Bs w lo hi A l) => HT w hr)
      rw [takeV_short h0 h1] at HT1
      clear HT h0 h1
      have HR := Lib.hid hr
      clear hr
      go_enter Tryd.func133, Tryd.ntmps133
      go_wp2_with (first
        | (go_at_call 170; refine (HT1.out _ HR.out).mono ?_; rintro e w1 ⟨rfl, rfl⟩))
      go_ret3
      exact ⟨rfl, rfl⟩
    · obtain ⟨n, rfl⟩ : ∃ n : Nat, z = n := ⟨z.toNat, by omega⟩
      obtain ⟨g0, o0, rfl, _, _, _⟩ := hr (by omega)
      have HT1 := Lib.hid (fun (w : World) (hr : Bs w lo hi (some ⟨g0, o0, none⟩) l) => HT w hr)
      rw [takeV_ok (k := 1) (by omega)] at HT1
      clear HT
      have hx := Oc.num_take_lt (l.drop n) 1
      rw [show (n : Int).toNat = n from rfl]
      generalize Oc.num ((l.drop n).take 1) = m at *
      by_cases h2 : (l.length : Int) < n + 1 + m
      · rw [if_pos (.inl h2)]
        have h3 : (l.length : Int) - (n + 1) < m := by omega
        have HR := Lib.hid hr
        clear hr
        go_enter Tryd.func133, Tryd.ntmps133
        go_wp2_with (first
          | (go_at_call 170; refine (HT1.out _ HR.out).mono ?_; rintro e w1 ⟨rfl, rfl⟩))
        go_ret3
        exact ⟨rfl, rfl⟩
      · rw [if_neg (by omega)]
        exact takeText_ok g0 o0 l c n m w hc hm lo hi hr (by omega) (HT1.out w hr) (by omega)

/-- is a number that is so far ahead later? -/
def laterI (d : Int) : Bool := decide (0 < d) && decide (d < 2147483648)
theorem laterI_no {d : Int} (h : d ≤ 0) : laterI d = false := by unfold laterI; rw [decide_eq_false (by omega)]; rfl
theorem laterI_yes {d : Int} (h : 0 < d) : laterI d = decide (d < 2147483648) := by unfold laterI; rw [decide_eq_true h]; rfl
/-- is b later than a? -/
def laterB (a b : Nat) : Bool := laterI (((b : Int) - a) % 4294967296)
theorem ret_u32 {a b : Int} (h : a = b) : Ending.returned (.int .u32 a) = .returned (.int .u32 b) := by rw [h]
/-- a number some steps on. -/
def stepN (a : Nat) (n : Int) : Int := ((a : Int) + n) % 4294967296
theorem tmod_neg (n : Int) (h : n < 0) : n.tmod 4294967296 = -((-n) % 4294967296) := by
  have h1 : (-n).tmod 4294967296 = (-n) % 4294967296 := Int.tmod_eq_emod_of_nonneg (by omega)
  rw [Int.neg_tmod] at h1
  omega
end Go.Proofs.YtbipcflmmfipbaaDoor
/- textsOf: the program's short texts. -/
namespace Go.Proofs.YtbipcflmmfipbaaDoor
open Go.RowKit

/-- a string's bytes as a new slice. -/
theorem wpList_convert_text {P : Program} {w : World} {ops : Array Oper} {rest : List Oper} {o : Oper} {a : Act} {Q : Exit → Act → World → Prop} (hgd : o.guard = none) (src dst : TypeId) (x : Operand) (ho : o.op = .convert src dst x)
    (e : TypeId) {u : TypeDesc} (hs : P.underlying src = some u) (hd : P.underlying dst = some (.slice e)) (he : P.underlying e = some (.int .u8)) (s : ByteArray) (hx : a.eval x = .string s)
    (h : ∀ (c : Nat) (w1 : World), s.size ≤ c → Bs w1 w.heap.size (w.heap.size + 1) (some ⟨w.heap.size, 0, none⟩) s.data.toList → Below w.heap.size w w1 → w1.heap.size = w.heap.size + 1 →
      wpList P ops Q rest (a.put o.dst (.slice (some ⟨w.heap.size, 0, none⟩) s.size c)) w1) : wpList P ops Q (o :: rest) a w := by
  refine wpList_plain hgd fun _ hK => ?_
  unfold Oper.wp execOp
  simp only [ho, hx, Sem.run_bind, Sem.run_pure, Result.andThen_ok, Lib.run_convert_string_bytes w src dst e s hs hd he]
  refine hK _ _ (h _ _ (grownCap_ge w s.size 0 e) (fun _ => ⟨w.heap.size, 0, rfl, Nat.le_refl _, by omega, fun j hj => ?_⟩) ⟨rfl, rfl, rfl, by rw [Lib.bytesWorld_size]; omega, fun j hj => Lib.bytesWorld_at_old w e s j hj⟩ (Lib.bytesWorld_size w e s))
  rw [Nat.zero_add, Lib.bytesWorld_cell w e s j (by simpa using hj)]
  have : (s.data.toList.getD j 0) = s.data.toList[j] := by rw [List.getD_eq_getElem?_getD, List.getElem?_eq_getElem hj]; rfl
  rw [this]
theorem tx_at {l : List UInt8} {k : Nat} (hk : k < l.length) : l.drop k = l[k] :: l.drop (k + 1) := List.drop_eq_getElem_cons hk
theorem takeTextV_no {l : List UInt8} {k : Nat} (hk : k < l.length) (h : l.length < k + 1 + (l[k]).toNat) : takeTextV l k = .tuple #[.string ⟨#[]⟩, .int .i64 0, .int .i64 6] := by
  have e : Oc.num ((l.drop k).take 1) = (l[k]).toNat := by rw [tx_at hk, List.take_succ_cons, List.take_zero]; simp [Oc.num]
  unfold takeTextV
  rw [if_neg (by omega), if_pos (by left; simp only [Int.toNat_natCast]; rw [e]; omega)]
theorem takeTextV_yes {l : List UInt8} {k : Nat} (hk : k < l.length) (h : ¬ l.length < k + 1 + (l[k]).toNat) : takeTextV l k = .tuple #[sv ((l.drop (k + 1)).take (l[k]).toNat), .int .i64 ((k + 1 + (l[k]).toNat : Nat) : Int), .int .i64 0] := by
  have e : Oc.num ((l.drop k).take 1) = (l[k]).toNat := by rw [tx_at hk, List.take_succ_cons, List.take_zero]; simp [Oc.num]
  unfold takeTextV
  rw [if_neg (by omega), if_neg (by simp only [Int.toNat_natCast]; rw [e]; omega)]
  simp only [Int.toNat_natCast, e]
  congr 3
set_option maxHeartbeats 1000000 in
set_option maxRecDepth 100000 in
theorem textsOf_any (s : ByteArray) (w : World) (hs : s.size ≤ 8796093022208) :
    Calls Tryd.prog 92 #[.string s] w (TextsPost w (Rd.tx s.data.toList)) := by
  obtain ⟨i0, hi, hz0, hz1, hz2⟩ := info_parts Tryd.infoString
  obtain ⟨l, hl⟩ : ∃ l, s.data.toList = l := ⟨_, rfl⟩
  have hlen : s.size = l.length := by rw [← hl]; simp
  rw [hl]
  have HL := Lib.hid hl
  clear hl
  go_enter Tryd.func92, Tryd.ntmps92
  go_wp2_with (refine wpList_convert_text rfl 9 34 (.tmp 10) rfl 5 Tryd.underlying9 Tryd.underlying34 Tryd.underlying5 s rfl ?_; intro c w1 hc hb1 hB1 hz; rw [HL.out] at hb1; have HBS := Lib.hid hb1; have HB1 := Lib.hid hB1; have HZ := Lib.hid hz; clear hb1 hB1 hz)
  have hw : w.heap.size + 1 = w1.heap.size := HZ.out.symm
  have HW := Lib.hid hw
  have hwl : w.heap.size < w1.heap.size := by omega
  clear hw
  have HT : ∀ (k : Nat) (W : World), Below w1.heap.size w1 W → Hid (Calls Tryd.prog 133 #[.slice (some ⟨w.heap.size, 0, none⟩) l.length c, .int .i64 k] W fun e w' => e = .returned (takeTextV l k) ∧ W = w') := fun k W hb => takeText _ l c k W (by omega) (by omega) w.heap.size (w.heap.size + 1) (HBS.out.keep (hb.mono (by rw [HW.out]; exact Nat.le_refl _)))
  go_loopw [4, 6] (fun v i wr => ∃ (k : Nat) (acc : List (List UInt8)), i = .int .i64 k ∧ k ≤ l.length ∧ acc.length ≤ k ∧ Hid (Rd.tx l = (Rd.tx (l.drop k)).map (acc ++ ·)) ∧ Hid (wr.ownsRow w1.heap.size 9 1 v acc.length (svs acc)) ∧ Hid (Below w1.heap.size w1 wr)) (fun _ i _ => l.length - (intOf i).toNat)
  case atStart => exact ⟨0, [], rfl, Nat.zero_le _, Nat.le_refl _, by simp [Hid], World.ownsRow_nil _ _ _ _, Below.refl _ _⟩
  case round =>
    obtain ⟨k, acc, rfl, hk, hka, HX, HO, HB⟩ := hrel
    have hbs := HB.out.size
    have HTK := HT k wr HB.out
    by_cases hlt : k < l.length
    · have hm8 : (l[k]).toNat < 256 := (l[k]).toNat_lt
      by_cases hsh : l.length < k + 1 + (l[k]).toNat
      · have HN : Hid (Rd.tx l = none) := by
          have := HX.out
          rw [tx_at hlt, Rd.tx_bad (by simp; omega)] at this
          exact this
        rw [takeTextV_no hlt hsh] at HTK
        go_wp2_with (go_at_call 133; refine HTK.out.mono ?_; rintro e w2 ⟨rfl, rfl⟩)
        go_ret2
        exact texts_no (HB1.out.trans (HB.out.mono (by omega))) HN.out
      · have HN : Hid (Rd.tx l = (Rd.tx (l.drop (k + 1 + (l[k]).toNat))).map ((acc ++ [(l.drop (k + 1)).take (l[k]).toNat]) ++ ·)) := by
          have := HX.out
          rw [tx_at hlt, Rd.tx_cons (by simp; omega), Option.map_map, List.drop_drop] at this
          refine this.trans ?_
          congr 1
          funext x
          simp
        rw [takeTextV_yes hlt hsh] at HTK
        obtain ⟨ad, cp, hv⟩ := own_form HO.out
        subst hv
        generalize (l.drop (k + 1)).take (l[k]).toNat = x at *
        generalize hm : (l[k]).toNat = m at *
        clear hm
        go_wp2_with (first
          | (go_at_call 133; refine HTK.out.mono ?_; rintro e w2 ⟨rfl, rfl⟩)
          | (at_builtin; refine wpList_append_own _ rfl (.tmp 25) (.tmp 27) _ rfl w1.heap.size 9 i0 _ 1 16 Tryd.underlying71 hi hz0 hz1 hz2 rfl (by decide) _ acc.length (svs acc) rfl (HO.out.alloc _) ⟨wr.heap.size, 0, none⟩ 1 1 [sv x] rfl rfl ?c1 ?c2 ?c3 ?c4 ?c5 (fun v' w4 hown1 hg1 _ => ?_)))
        case c1 => exact cell_one_new _ _ _
        case c2 => simp [Value.oneCell']
        case c3 => unfold maxLen; omega
        case c4 => omega
        case c5 => simp; omega
        go_roundw
        case rel => exact ⟨k + 1 + m, acc ++ [x], rfl, by omega, by simp; omega, HN.out, by rw [List.length_append, svs_append]; exact hown1, (HB.out.alloc hbs _).grown hg1 (by simp; omega) (fun j hj => (HO.out.lt j hj).1)⟩
        case measure => simp [intOf]; omega
    · obtain rfl : k = l.length := by omega
      have HN : Hid (Rd.tx l = some acc) := by
        have := HX.out
        rw [List.drop_length, Rd.tx_nil] at this
        rw [this]
        simp [Hid]
      obtain ⟨ad, cp, hv⟩ := own_form HO.out
      subst hv
      go_wp2
      go_ret2
      exact texts_yes (HB1.out.trans (HB.out.mono (by omega))) HN.out (by simp) (own_mono HO.out (by omega))
end Go.Proofs.YtbipcflmmfipbaaDoor
/- The parts of data: what the program's table says, against the document. Nothing of the program. -/
namespace Go.Proofs.YtbipcflmmfipbaaDoor.Rd

/-- the parts of a type: 1 four, 2 eight, 3 texts, 4 any bytes, 5 host, 6 host without pointers, 7 mail, 8 a number of 16 bits, 9 one of 32 bits, 0 none. -/
def parts (t : Nat) : List Nat :=
  if t = 1 then [1, 0, 0, 0, 0, 0, 0] else if t = 2 then [5, 0, 0, 0, 0, 0, 0] else if t = 5 then [5, 0, 0, 0, 0, 0, 0]
  else if t = 6 then [5, 7, 9, 9, 9, 9, 9] else if t = 12 then [5, 0, 0, 0, 0, 0, 0] else if t = 15 then [8, 5, 0, 0, 0, 0, 0]
  else if t = 16 then [3, 0, 0, 0, 0, 0, 0] else if t = 28 then [2, 0, 0, 0, 0, 0, 0] else if t = 33 then [8, 8, 8, 6, 0, 0, 0] else [4, 0, 0, 0, 0, 0, 0]
/-- the table's rows: number, text, parts. -/
def rowTab : List (Nat × By × List Nat) :=
  [(1, [65], [1, 0, 0, 0, 0, 0, 0]), (2, [78, 83], [5, 0, 0, 0, 0, 0, 0]), (5, [67, 78, 65, 77, 69], [5, 0, 0, 0, 0, 0, 0]), (6, [83, 79, 65], [5, 7, 9, 9, 9, 9, 9]), (12, [80, 84, 82], [5, 0, 0, 0, 0, 0, 0]), (15, [77, 88], [8, 5, 0, 0, 0, 0, 0]), (16, [84, 88, 84], [3, 0, 0, 0, 0, 0, 0]), (28, [65, 65, 65, 65], [2, 0, 0, 0, 0, 0, 0]), (33, [83, 82, 86], [8, 8, 8, 6, 0, 0, 0])]
/-- the types of the table, and any other one. -/
theorem by_type {P : Nat → Prop} (h1 : P 1) (h2 : P 2) (h5 : P 5) (h6 : P 6) (h12 : P 12) (h15 : P 15) (h16 : P 16) (h28 : P 28) (h33 : P 33) (ho : ∀ t, t ≠ 1 → t ≠ 2 → t ≠ 5 → t ≠ 6 → t ≠ 12 → t ≠ 15 → t ≠ 16 → t ≠ 28 → t ≠ 33 → P t) (t : Nat) : P t := by
  by_cases a1 : t = 1
  · subst a1; exact h1
  by_cases a2 : t = 2
  · subst a2; exact h2
  by_cases a5 : t = 5
  · subst a5; exact h5
  by_cases a6 : t = 6
  · subst a6; exact h6
  by_cases a12 : t = 12
  · subst a12; exact h12
  by_cases a15 : t = 15
  · subst a15; exact h15
  by_cases a16 : t = 16
  · subst a16; exact h16
  by_cases a28 : t = 28
  · subst a28; exact h28
  by_cases a33 : t = 33
  · subst a33; exact h33
  exact ho t a1 a2 a5 a6 a12 a15 a16 a28 a33
theorem parts_other {t : Nat} (h1 : t ≠ 1) (h2 : t ≠ 2) (h5 : t ≠ 5) (h6 : t ≠ 6) (h12 : t ≠ 12) (h15 : t ≠ 15) (h16 : t ≠ 16) (h28 : t ≠ 28) (h33 : t ≠ 33) : parts t = [4, 0, 0, 0, 0, 0, 0] := by
  unfold parts
  rw [if_neg h1, if_neg h2, if_neg h5, if_neg h6, if_neg h12, if_neg h15, if_neg h16, if_neg h28, if_neg h33]
theorem parts_len (t : Nat) : (parts t).length = 7 := by
  refine by_type (P := fun t => (parts t).length = 7) rfl rfl rfl rfl rfl rfl rfl rfl rfl (fun t a b c d e f g h i => ?_) t
  rw [parts_other a b c d e f g h i]; rfl
theorem parts_lt (t : Nat) : ∀ p ∈ parts t, p ≤ 9 := by
  refine by_type (P := fun t => ∀ p ∈ parts t, p ≤ 9) ?_ ?_ ?_ ?_ ?_ ?_ ?_ ?_ ?_ (fun t a b c d e f g h i => ?_) t
  all_goals first
    | (rw [parts_other a b c d e f g h i]; decide)
    | decide
/-- how many numbers parts have; whether they have Raw, Host, Mail. -/
def nums (l : List Nat) : Nat := (l.filter fun p => p == 8 || p == 9).length
def hasRaw (l : List Nat) : Bool := l.any fun p => p == 1 || p == 2 || p == 3 || p == 4
def hasHost (l : List Nat) : Bool := l.any fun p => p == 5 || p == 6
def hasMail (l : List Nat) : Bool := l.any fun p => p == 7
theorem nums_snoc (l : List Nat) (p : Nat) : nums (l ++ [p]) = nums l + if p = 8 ∨ p = 9 then 1 else 0 := by
  unfold nums
  rw [List.filter_append, List.length_append]
  congr 1
  by_cases h : p = 8 ∨ p = 9
  · rw [if_pos h]; rcases h with rfl | rfl <;> rfl
  · rw [if_neg h, List.filter_cons_of_neg (by simpa using h)]; rfl
theorem nums_le {t k : Nat} : nums ((parts t).take k) ≤ 5 := by
  have h : nums (parts t) ≤ 5 := by
    refine by_type (P := fun t => nums (parts t) ≤ 5) (by decide) (by decide) (by decide) (by decide) (by decide) (by decide) (by decide) (by decide) (by decide) (fun t a b c d e f g h i => ?_) t
    rw [parts_other a b c d e f g h i]; decide
  have e : nums (parts t) = nums ((parts t).take k) + nums ((parts t).drop k) := by
    unfold nums
    rw [← List.length_append, ← List.filter_append, List.take_append_drop]
  omega
def hasN (d : Dt) : Nat → Nat
  | 0 => d.n0
  | 1 => d.n1
  | 2 => d.n2
  | 3 => d.n3
  | _ => d.n4
/-- may this be a part, when so many numbers stand ahead of it? -/
def fit (p : Nat) (d : Dt) (n : Nat) : Bool :=
  if p = 1 then d.raw.length == 4 else if p = 2 then d.raw.length == 16
  else if p = 3 then (match tx d.raw with | some (_ :: _) => decide (d.raw.length ≤ 65535) | _ => false)
  else if p = 4 then decide (d.raw.length ≤ 65535)
  else if p = 5 ∨ p = 6 then nm d.host else if p = 7 then nm d.mail
  else if p = 8 then decide (hasN d n ≤ 65535) else true
/-- all parts fit. -/
def fitAll (d : Dt) : List Nat → Nat → Bool
  | [], _ => true
  | p :: r, n => fit p d n && fitAll d r (n + if p = 8 ∨ p = 9 then 1 else 0)
theorem fitAll_snoc (d : Dt) (l : List Nat) (p n : Nat) : fitAll d (l ++ [p]) n = (fitAll d l n && fit p d (n + nums l)) := by
  induction l generalizing n with
  | nil => simp [fitAll, nums]
  | cons q r ih =>
    have e : nums (q :: r) = (if q = 8 ∨ q = 9 then 1 else 0) + nums r := by
      have : q :: r = [q] ++ r := rfl
      rw [this]
      unfold nums
      rw [List.filter_append, List.length_append]
      congr 1
      by_cases h : q = 8 ∨ q = 9
      · rw [if_pos h]; rcases h with rfl | rfl <;> rfl
      · rw [if_neg h, List.filter_cons_of_neg (by simpa using h)]; rfl
    rw [List.cons_append, fitAll, ih, fitAll, e, Bool.and_assoc, Nat.add_assoc]
theorem fitAll_no {d : Dt} {l : List Nat} {k : Nat} (h : fitAll d (l.take k) 0 = false) : fitAll d l 0 = false := by
  suffices H : ∀ (l : List Nat) (k n : Nat), fitAll d (l.take k) n = false → fitAll d l n = false from H l k 0 h
  intro l
  induction l with
  | nil => intro k n h; simpa using h
  | cons q r ih =>
    intro k n h
    cases k with
    | zero => simp [fitAll] at h
    | succ k =>
      rw [List.take_succ_cons, fitAll] at h
      rw [fitAll]
      cases hf : fit q d n with
      | false => rfl
      | true => rw [hf, Bool.true_and] at h; rw [Bool.true_and]; exact ih _ _ h
/-- nothing is in data but what these parts have. -/
def bare (l : List Nat) (d : Dt) : Bool :=
  (hasRaw l || d.raw == []) && (hasHost l || d.host == []) && (hasMail l || d.mail == []) &&
  (decide (0 < nums l) || d.n0 == 0) && (decide (1 < nums l) || d.n1 == 0) && (decide (2 < nums l) || d.n2 == 0) && (decide (3 < nums l) || d.n3 == 0) && (decide (4 < nums l) || d.n4 == 0)
theorem nm_nil : nm [] = false := rfl
theorem nm_cases (l : By) : (l = [] ∧ nm l = false) ∨ (l ≠ [] ∧ nm l = true) ∨ (l ≠ [] ∧ nm l = false) := by
  by_cases h : l = []
  · exact .inl ⟨h, by rw [h]; rfl⟩
  · cases hn : nm l
    · exact .inr (.inr ⟨h, rfl⟩)
    · exact .inr (.inl ⟨h, rfl⟩)
set_option maxHeartbeats 4000000 in
theorem ok_parts (t : Nat) (d : Dt) : ok t d = (fitAll d (parts t) 0 && bare (parts t) d) := by
  obtain ⟨r, ho, ma, n0, n1, n2, n3, n4⟩ := d
  refine by_type (P := fun t => ok t ⟨r, ho, ma, n0, n1, n2, n3, n4⟩ = (fitAll ⟨r, ho, ma, n0, n1, n2, n3, n4⟩ (parts t) 0 && bare (parts t) ⟨r, ho, ma, n0, n1, n2, n3, n4⟩)) ?_ ?_ ?_ ?_ ?_ ?_ ?_ ?_ ?_ (fun t a b c d e' f g h i => ?_) t
  case refine_10 =>
    have e1 : isHost t = false := by simp [isHost, *]
    have e2 : isMail t = false := by simp [isMail, *]
    have e3 : cnt t = 0 := by unfold cnt; rw [if_neg d, if_neg f, if_neg i]
    have hr : rawOk t r = decide (r.length ≤ 65535) := by
      unfold rawOk
      rw [e1, if_neg (by simp), if_neg a, if_neg h, if_neg g]
    unfold ok
    simp only
    rw [parts_other a b c d e' f g h i, e1, e2, hr]
    clear hr e1 e2 a b c d e' f g h i
    rw [Bool.eq_iff_iff]
    rcases nm_cases ho with ⟨q1, q2⟩ | ⟨q1, q2⟩ | ⟨q1, q2⟩ <;> rcases nm_cases ma with ⟨q3, q4⟩ | ⟨q3, q4⟩ | ⟨q3, q4⟩ <;> simp [nm_nil, q1, q2, q3, q4, numOk, e3, fitAll, fit, bare, hasRaw, hasHost, hasMail, nums, and_assoc]
  all_goals
    rw [Bool.eq_iff_iff]
    rcases nm_cases ho with ⟨q1, q2⟩ | ⟨q1, q2⟩ | ⟨q1, q2⟩ <;> rcases nm_cases ma with ⟨q3, q4⟩ | ⟨q3, q4⟩ | ⟨q3, q4⟩ <;>
      (simp [nm_nil, q1, q2, q3, q4, ok, rawOk, numOk, parts, fitAll, fit, bare, hasRaw, hasHost, hasMail, nums, isHost, isMail, cnt, bits, hasN, and_assoc, and_left_comm, and_comm] <;> (intros; rfl))
end Go.Proofs.YtbipcflmmfipbaaDoor.Rd
/- The table of parts: what is laid, and what is read of it. -/
namespace Go.Proofs.YtbipcflmmfipbaaDoor
open Go.RowKit

/-- the table's cells. -/
def rowsCells : Array Value := #[.int .u16 1, .string ⟨#[65]⟩, .int .u8 1, .int .u8 0, .int .u8 0, .int .u8 0, .int .u8 0, .int .u8 0, .int .u8 0, .int .u16 2, .string ⟨#[78, 83]⟩, .int .u8 5, .int .u8 0, .int .u8 0, .int .u8 0, .int .u8 0, .int .u8 0, .int .u8 0, .int .u16 5, .string ⟨#[67, 78, 65, 77, 69]⟩, .int .u8 5, .int .u8 0, .int .u8 0, .int .u8 0, .int .u8 0, .int .u8 0, .int .u8 0, .int .u16 6, .string ⟨#[83, 79, 65]⟩, .int .u8 5, .int .u8 7, .int .u8 9, .int .u8 9, .int .u8 9, .int .u8 9, .int .u8 9, .int .u16 12, .string ⟨#[80, 84, 82]⟩, .int .u8 5, .int .u8 0, .int .u8 0, .int .u8 0, .int .u8 0, .int .u8 0, .int .u8 0, .int .u16 15, .string ⟨#[77, 88]⟩, .int .u8 8, .int .u8 5, .int .u8 0, .int .u8 0, .int .u8 0, .int .u8 0, .int .u8 0, .int .u16 16, .string ⟨#[84, 88, 84]⟩, .int .u8 3, .int .u8 0, .int .u8 0, .int .u8 0, .int .u8 0, .int .u8 0, .int .u8 0, .int .u16 28, .string ⟨#[65, 65, 65, 65]⟩, .int .u8 2, .int .u8 0, .int .u8 0, .int .u8 0, .int .u8 0, .int .u8 0, .int .u8 0, .int .u16 33, .string ⟨#[83, 82, 86]⟩, .int .u8 8, .int .u8 8, .int .u8 8, .int .u8 6, .int .u8 0, .int .u8 0, .int .u8 0]
/-- the table is as its initialiser lays it. -/
def LayR (w : World) : Prop := ∃ t, Has w 0 t rowsCells
theorem LayR.lt {w : World} (h : LayR w) : 0 < w.heap.size := h.elim fun _ h => Has.lt h
theorem LayR.below {w w' : World} {B : Nat} (h : LayR w) (hb : Below B w w') (hB : w.heap.size ≤ B) : LayR w' := h.elim fun t h => ⟨t, h.below hb (Nat.lt_of_lt_of_le h.lt hB)⟩
theorem LayR.cell {w : World} (h : LayR w) (i : Nat) : w.cell? ⟨0, i, none⟩ = rowsCells[i]? := h.elim fun _ h => Has.cell h i
def partC (t : Nat) : Array Value := ((Rd.parts t).map fun (p : Nat) => Value.int .u8 ((p : Nat) : Int)).toArray
def partsV (t : Nat) : Value := .agg (partC t)

set_option maxHeartbeats 4000000 in
set_option maxRecDepth 100000 in
theorem partsOf_any (t : Nat) (w : World) (ht : t ≤ 65535) (hL : LayR w) :
    Calls Tryd.prog 41 #[.int .u16 t] w fun e w' => e = .returned (partsV t) ∧ Below w.heap.size w w' := by
  have HL := Lib.hid hL
  have hlt := hL.lt
  have HL2 : Hid (LayR (w.alloc (.cells #[.int .u8 0, .int .u8 0, .int .u8 0, .int .u8 0, .int .u8 0, .int .u8 0, .int .u8 0] 73))) := hL.below ((Below.refl _ _).alloc (Nat.le_refl _) _) (Nat.le_refl _)
  have HN : Hid (Has (w.alloc (.cells #[.int .u8 0, .int .u8 0, .int .u8 0, .int .u8 0, .int .u8 0, .int .u8 0, .int .u8 0] 73)) w.heap.size 73 #[.int .u8 0, .int .u8 0, .int .u8 0, .int .u8 0, .int .u8 0, .int .u8 0, .int .u8 0]) := Has.fresh w _ _
  have HB : Hid (Below w.heap.size w (w.alloc (.cells #[.int .u8 0, .int .u8 0, .int .u8 0, .int .u8 0, .int .u8 0, .int .u8 0, .int .u8 0] 73))) := (Below.refl _ _).alloc (Nat.le_refl _) _
  clear hL
  go_enter Tryd.func41, Tryd.ntmps41
  go_wp2
  generalize hwr : w.alloc (.cells #[.int .u8 0, .int .u8 0, .int .u8 0, .int .u8 0, .int .u8 0, .int .u8 0, .int .u8 0] 73) = wr at HL2 HN HB ⊢
  clear hwr
  refine wp_loop_rounds 10 ?_
  rw [rounds_succ]
  have d0 : wr.cell? ⟨0, 0, none⟩ = some (.int .u16 1) := HL2.out.cell 0
  by_cases h0 : t = 1
  · subst h0
    have c0 : wr.cell? ⟨0, 2, none⟩ = some (.int .u8 1) := HL2.out.cell 2
    have c1 : wr.cell? ⟨0, 3, none⟩ = some (.int .u8 0) := HL2.out.cell 3
    have c2 : wr.cell? ⟨0, 4, none⟩ = some (.int .u8 0) := HL2.out.cell 4
    have c3 : wr.cell? ⟨0, 5, none⟩ = some (.int .u8 0) := HL2.out.cell 5
    have c4 : wr.cell? ⟨0, 6, none⟩ = some (.int .u8 0) := HL2.out.cell 6
    have c5 : wr.cell? ⟨0, 7, none⟩ = some (.int .u8 0) := HL2.out.cell 7
    have c6 : wr.cell? ⟨0, 8, none⟩ = some (.int .u8 0) := HL2.out.cell 8
    go_wp2_with (refine wpList_store_row rfl 73 (.tmp 2) (.tmp 16) rfl w.heap.size #[.int .u8 1, .int .u8 0, .int .u8 0, .int .u8 0, .int .u8 0, .int .u8 0, .int .u8 0] rfl rfl 73 #[.int .u8 0, .int .u8 0, .int .u8 0, .int .u8 0, .int .u8 0, .int .u8 0, .int .u8 0] HN.out (by kernel_rfl) rfl (by simp [Value.oneCell']) ?_)
    exact bodyPost_ret (v := .agg #[.int .u8 1, .int .u8 0, .int .u8 0, .int .u8 0, .int .u8 0, .int .u8 0, .int .u8 0]) (results_cell_row rfl _ _ w.heap.size 73 #[.int .u8 1, .int .u8 0, .int .u8 0, .int .u8 0, .int .u8 0, .int .u8 0, .int .u8 0] (0, 0) _ rfl (HN.out.row _) Tryd.underlying73 rfl (by kernel_rfl)) rfl ⟨rfl, below_setRow HB.out (Nat.le_refl _) _⟩
  have e0 : ((1 : Int) == (t : Int)) = false := beq_eq_false_iff_ne.2 (by omega)
  go_wp2
  clear d0 e0
  rw [rounds_succ]
  have d1 : wr.cell? ⟨0, 9, none⟩ = some (.int .u16 2) := HL2.out.cell 9
  by_cases h1 : t = 2
  · subst h1
    have c0 : wr.cell? ⟨0, 11, none⟩ = some (.int .u8 5) := HL2.out.cell 11
    have c1 : wr.cell? ⟨0, 12, none⟩ = some (.int .u8 0) := HL2.out.cell 12
    have c2 : wr.cell? ⟨0, 13, none⟩ = some (.int .u8 0) := HL2.out.cell 13
    have c3 : wr.cell? ⟨0, 14, none⟩ = some (.int .u8 0) := HL2.out.cell 14
    have c4 : wr.cell? ⟨0, 15, none⟩ = some (.int .u8 0) := HL2.out.cell 15
    have c5 : wr.cell? ⟨0, 16, none⟩ = some (.int .u8 0) := HL2.out.cell 16
    have c6 : wr.cell? ⟨0, 17, none⟩ = some (.int .u8 0) := HL2.out.cell 17
    go_wp2_with (refine wpList_store_row rfl 73 (.tmp 2) (.tmp 16) rfl w.heap.size #[.int .u8 5, .int .u8 0, .int .u8 0, .int .u8 0, .int .u8 0, .int .u8 0, .int .u8 0] rfl rfl 73 #[.int .u8 0, .int .u8 0, .int .u8 0, .int .u8 0, .int .u8 0, .int .u8 0, .int .u8 0] HN.out (by kernel_rfl) rfl (by simp [Value.oneCell']) ?_)
    exact bodyPost_ret (v := .agg #[.int .u8 5, .int .u8 0, .int .u8 0, .int .u8 0, .int .u8 0, .int .u8 0, .int .u8 0]) (results_cell_row rfl _ _ w.heap.size 73 #[.int .u8 5, .int .u8 0, .int .u8 0, .int .u8 0, .int .u8 0, .int .u8 0, .int .u8 0] (0, 0) _ rfl (HN.out.row _) Tryd.underlying73 rfl (by kernel_rfl)) rfl ⟨rfl, below_setRow HB.out (Nat.le_refl _) _⟩
  have e1 : ((2 : Int) == (t : Int)) = false := beq_eq_false_iff_ne.2 (by omega)
  go_wp2
  clear d1 e1
  rw [rounds_succ]
  have d2 : wr.cell? ⟨0, 18, none⟩ = some (.int .u16 5) := HL2.out.cell 18
  by_cases h2 : t = 5
  · subst h2
    have c0 : wr.cell? ⟨0, 20, none⟩ = some (.int .u8 5) := HL2.out.cell 20
    have c1 : wr.cell? ⟨0, 21, none⟩ = some (.int .u8 0) := HL2.out.cell 21
    have c2 : wr.cell? ⟨0, 22, none⟩ = some (.int .u8 0) := HL2.out.cell 22
    have c3 : wr.cell? ⟨0, 23, none⟩ = some (.int .u8 0) := HL2.out.cell 23
    have c4 : wr.cell? ⟨0, 24, none⟩ = some (.int .u8 0) := HL2.out.cell 24
    have c5 : wr.cell? ⟨0, 25, none⟩ = some (.int .u8 0) := HL2.out.cell 25
    have c6 : wr.cell? ⟨0, 26, none⟩ = some (.int .u8 0) := HL2.out.cell 26
    go_wp2_with (refine wpList_store_row rfl 73 (.tmp 2) (.tmp 16) rfl w.heap.size #[.int .u8 5, .int .u8 0, .int .u8 0, .int .u8 0, .int .u8 0, .int .u8 0, .int .u8 0] rfl rfl 73 #[.int .u8 0, .int .u8 0, .int .u8 0, .int .u8 0, .int .u8 0, .int .u8 0, .int .u8 0] HN.out (by kernel_rfl) rfl (by simp [Value.oneCell']) ?_)
    exact bodyPost_ret (v := .agg #[.int .u8 5, .int .u8 0, .int .u8 0, .int .u8 0, .int .u8 0, .int .u8 0, .int .u8 0]) (results_cell_row rfl _ _ w.heap.size 73 #[.int .u8 5, .int .u8 0, .int .u8 0, .int .u8 0, .int .u8 0, .int .u8 0, .int .u8 0] (0, 0) _ rfl (HN.out.row _) Tryd.underlying73 rfl (by kernel_rfl)) rfl ⟨rfl, below_setRow HB.out (Nat.le_refl _) _⟩
  have e2 : ((5 : Int) == (t : Int)) = false := beq_eq_false_iff_ne.2 (by omega)
  go_wp2
  clear d2 e2
  rw [rounds_succ]
  have d3 : wr.cell? ⟨0, 27, none⟩ = some (.int .u16 6) := HL2.out.cell 27
  by_cases h3 : t = 6
  · subst h3
    have c0 : wr.cell? ⟨0, 29, none⟩ = some (.int .u8 5) := HL2.out.cell 29
    have c1 : wr.cell? ⟨0, 30, none⟩ = some (.int .u8 7) := HL2.out.cell 30
    have c2 : wr.cell? ⟨0, 31, none⟩ = some (.int .u8 9) := HL2.out.cell 31
    have c3 : wr.cell? ⟨0, 32, none⟩ = some (.int .u8 9) := HL2.out.cell 32
    have c4 : wr.cell? ⟨0, 33, none⟩ = some (.int .u8 9) := HL2.out.cell 33
    have c5 : wr.cell? ⟨0, 34, none⟩ = some (.int .u8 9) := HL2.out.cell 34
    have c6 : wr.cell? ⟨0, 35, none⟩ = some (.int .u8 9) := HL2.out.cell 35
    go_wp2_with (refine wpList_store_row rfl 73 (.tmp 2) (.tmp 16) rfl w.heap.size #[.int .u8 5, .int .u8 7, .int .u8 9, .int .u8 9, .int .u8 9, .int .u8 9, .int .u8 9] rfl rfl 73 #[.int .u8 0, .int .u8 0, .int .u8 0, .int .u8 0, .int .u8 0, .int .u8 0, .int .u8 0] HN.out (by kernel_rfl) rfl (by simp [Value.oneCell']) ?_)
    exact bodyPost_ret (v := .agg #[.int .u8 5, .int .u8 7, .int .u8 9, .int .u8 9, .int .u8 9, .int .u8 9, .int .u8 9]) (results_cell_row rfl _ _ w.heap.size 73 #[.int .u8 5, .int .u8 7, .int .u8 9, .int .u8 9, .int .u8 9, .int .u8 9, .int .u8 9] (0, 0) _ rfl (HN.out.row _) Tryd.underlying73 rfl (by kernel_rfl)) rfl ⟨rfl, below_setRow HB.out (Nat.le_refl _) _⟩
  have e3 : ((6 : Int) == (t : Int)) = false := beq_eq_false_iff_ne.2 (by omega)
  go_wp2
  clear d3 e3
  rw [rounds_succ]
  have d4 : wr.cell? ⟨0, 36, none⟩ = some (.int .u16 12) := HL2.out.cell 36
  by_cases h4 : t = 12
  · subst h4
    have c0 : wr.cell? ⟨0, 38, none⟩ = some (.int .u8 5) := HL2.out.cell 38
    have c1 : wr.cell? ⟨0, 39, none⟩ = some (.int .u8 0) := HL2.out.cell 39
    have c2 : wr.cell? ⟨0, 40, none⟩ = some (.int .u8 0) := HL2.out.cell 40
    have c3 : wr.cell? ⟨0, 41, none⟩ = some (.int .u8 0) := HL2.out.cell 41
    have c4 : wr.cell? ⟨0, 42, none⟩ = some (.int .u8 0) := HL2.out.cell 42
    have c5 : wr.cell? ⟨0, 43, none⟩ = some (.int .u8 0) := HL2.out.cell 43
    have c6 : wr.cell? ⟨0, 44, none⟩ = some (.int .u8 0) := HL2.out.cell 44
    go_wp2_with (refine wpList_store_row rfl 73 (.tmp 2) (.tmp 16) rfl w.heap.size #[.int .u8 5, .int .u8 0, .int .u8 0, .int .u8 0, .int .u8 0, .int .u8 0, .int .u8 0] rfl rfl 73 #[.int .u8 0, .int .u8 0, .int .u8 0, .int .u8 0, .int .u8 0, .int .u8 0, .int .u8 0] HN.out (by kernel_rfl) rfl (by simp [Value.oneCell']) ?_)
    exact bodyPost_ret (v := .agg #[.int .u8 5, .int .u8 0, .int .u8 0, .int .u8 0, .int .u8 0, .int .u8 0, .int .u8 0]) (results_cell_row rfl _ _ w.heap.size 73 #[.int .u8 5, .int .u8 0, .int .u8 0, .int .u8 0, .int .u8 0, .int .u8 0, .int .u8 0] (0, 0) _ rfl (HN.out.row _) Tryd.underlying73 rfl (by kernel_rfl)) rfl ⟨rfl, below_setRow HB.out (Nat.le_refl _) _⟩
  have e4 : ((12 : Int) == (t : Int)) = false := beq_eq_false_iff_ne.2 (by omega)
  go_wp2
  clear d4 e4
  rw [rounds_succ]
  have d5 : wr.cell? ⟨0, 45, none⟩ = some (.int .u16 15) := HL2.out.cell 45
  by_cases h5 : t = 15
  · subst h5
    have c0 : wr.cell? ⟨0, 47, none⟩ = some (.int .u8 8) := HL2.out.cell 47
    have c1 : wr.cell? ⟨0, 48, none⟩ = some (.int .u8 5) := HL2.out.cell 48
    have c2 : wr.cell? ⟨0, 49, none⟩ = some (.int .u8 0) := HL2.out.cell 49
    have c3 : wr.cell? ⟨0, 50, none⟩ = some (.int .u8 0) := HL2.out.cell 50
    have c4 : wr.cell? ⟨0, 51, none⟩ = some (.int .u8 0) := HL2.out.cell 51
    have c5 : wr.cell? ⟨0, 52, none⟩ = some (.int .u8 0) := HL2.out.cell 52
    have c6 : wr.cell? ⟨0, 53, none⟩ = some (.int .u8 0) := HL2.out.cell 53
    go_wp2_with (refine wpList_store_row rfl 73 (.tmp 2) (.tmp 16) rfl w.heap.size #[.int .u8 8, .int .u8 5, .int .u8 0, .int .u8 0, .int .u8 0, .int .u8 0, .int .u8 0] rfl rfl 73 #[.int .u8 0, .int .u8 0, .int .u8 0, .int .u8 0, .int .u8 0, .int .u8 0, .int .u8 0] HN.out (by kernel_rfl) rfl (by simp [Value.oneCell']) ?_)
    exact bodyPost_ret (v := .agg #[.int .u8 8, .int .u8 5, .int .u8 0, .int .u8 0, .int .u8 0, .int .u8 0, .int .u8 0]) (results_cell_row rfl _ _ w.heap.size 73 #[.int .u8 8, .int .u8 5, .int .u8 0, .int .u8 0, .int .u8 0, .int .u8 0, .int .u8 0] (0, 0) _ rfl (HN.out.row _) Tryd.underlying73 rfl (by kernel_rfl)) rfl ⟨rfl, below_setRow HB.out (Nat.le_refl _) _⟩
  have e5 : ((15 : Int) == (t : Int)) = false := beq_eq_false_iff_ne.2 (by omega)
  go_wp2
  clear d5 e5
  rw [rounds_succ]
  have d6 : wr.cell? ⟨0, 54, none⟩ = some (.int .u16 16) := HL2.out.cell 54
  by_cases h6 : t = 16
  · subst h6
    have c0 : wr.cell? ⟨0, 56, none⟩ = some (.int .u8 3) := HL2.out.cell 56
    have c1 : wr.cell? ⟨0, 57, none⟩ = some (.int .u8 0) := HL2.out.cell 57
    have c2 : wr.cell? ⟨0, 58, none⟩ = some (.int .u8 0) := HL2.out.cell 58
    have c3 : wr.cell? ⟨0, 59, none⟩ = some (.int .u8 0) := HL2.out.cell 59
    have c4 : wr.cell? ⟨0, 60, none⟩ = some (.int .u8 0) := HL2.out.cell 60
    have c5 : wr.cell? ⟨0, 61, none⟩ = some (.int .u8 0) := HL2.out.cell 61
    have c6 : wr.cell? ⟨0, 62, none⟩ = some (.int .u8 0) := HL2.out.cell 62
    go_wp2_with (refine wpList_store_row rfl 73 (.tmp 2) (.tmp 16) rfl w.heap.size #[.int .u8 3, .int .u8 0, .int .u8 0, .int .u8 0, .int .u8 0, .int .u8 0, .int .u8 0] rfl rfl 73 #[.int .u8 0, .int .u8 0, .int .u8 0, .int .u8 0, .int .u8 0, .int .u8 0, .int .u8 0] HN.out (by kernel_rfl) rfl (by simp [Value.oneCell']) ?_)
    exact bodyPost_ret (v := .agg #[.int .u8 3, .int .u8 0, .int .u8 0, .int .u8 0, .int .u8 0, .int .u8 0, .int .u8 0]) (results_cell_row rfl _ _ w.heap.size 73 #[.int .u8 3, .int .u8 0, .int .u8 0, .int .u8 0, .int .u8 0, .int .u8 0, .int .u8 0] (0, 0) _ rfl (HN.out.row _) Tryd.underlying73 rfl (by kernel_rfl)) rfl ⟨rfl, below_setRow HB.out (Nat.le_refl _) _⟩
  have e6 : ((16 : Int) == (t : Int)) = false := beq_eq_false_iff_ne.2 (by omega)
  go_wp2
  clear d6 e6
  rw [rounds_succ]
  have d7 : wr.cell? ⟨0, 63, none⟩ = some (.int .u16 28) := HL2.out.cell 63
  by_cases h7 : t = 28
  · subst h7
    have c0 : wr.cell? ⟨0, 65, none⟩ = some (.int .u8 2) := HL2.out.cell 65
    have c1 : wr.cell? ⟨0, 66, none⟩ = some (.int .u8 0) := HL2.out.cell 66
    have c2 : wr.cell? ⟨0, 67, none⟩ = some (.int .u8 0) := HL2.out.cell 67
    have c3 : wr.cell? ⟨0, 68, none⟩ = some (.int .u8 0) := HL2.out.cell 68
    have c4 : wr.cell? ⟨0, 69, none⟩ = some (.int .u8 0) := HL2.out.cell 69
    have c5 : wr.cell? ⟨0, 70, none⟩ = some (.int .u8 0) := HL2.out.cell 70
    have c6 : wr.cell? ⟨0, 71, none⟩ = some (.int .u8 0) := HL2.out.cell 71
    go_wp2_with (refine wpList_store_row rfl 73 (.tmp 2) (.tmp 16) rfl w.heap.size #[.int .u8 2, .int .u8 0, .int .u8 0, .int .u8 0, .int .u8 0, .int .u8 0, .int .u8 0] rfl rfl 73 #[.int .u8 0, .int .u8 0, .int .u8 0, .int .u8 0, .int .u8 0, .int .u8 0, .int .u8 0] HN.out (by kernel_rfl) rfl (by simp [Value.oneCell']) ?_)
    exact bodyPost_ret (v := .agg #[.int .u8 2, .int .u8 0, .int .u8 0, .int .u8 0, .int .u8 0, .int .u8 0, .int .u8 0]) (results_cell_row rfl _ _ w.heap.size 73 #[.int .u8 2, .int .u8 0, .int .u8 0, .int .u8 0, .int .u8 0, .int .u8 0, .int .u8 0] (0, 0) _ rfl (HN.out.row _) Tryd.underlying73 rfl (by kernel_rfl)) rfl ⟨rfl, below_setRow HB.out (Nat.le_refl _) _⟩
  have e7 : ((28 : Int) == (t : Int)) = false := beq_eq_false_iff_ne.2 (by omega)
  go_wp2
  clear d7 e7
  rw [rounds_succ]
  have d8 : wr.cell? ⟨0, 72, none⟩ = some (.int .u16 33) := HL2.out.cell 72
  by_cases h8 : t = 33
  · subst h8
    have c0 : wr.cell? ⟨0, 74, none⟩ = some (.int .u8 8) := HL2.out.cell 74
    have c1 : wr.cell? ⟨0, 75, none⟩ = some (.int .u8 8) := HL2.out.cell 75
    have c2 : wr.cell? ⟨0, 76, none⟩ = some (.int .u8 8) := HL2.out.cell 76
    have c3 : wr.cell? ⟨0, 77, none⟩ = some (.int .u8 6) := HL2.out.cell 77
    have c4 : wr.cell? ⟨0, 78, none⟩ = some (.int .u8 0) := HL2.out.cell 78
    have c5 : wr.cell? ⟨0, 79, none⟩ = some (.int .u8 0) := HL2.out.cell 79
    have c6 : wr.cell? ⟨0, 80, none⟩ = some (.int .u8 0) := HL2.out.cell 80
    go_wp2_with (refine wpList_store_row rfl 73 (.tmp 2) (.tmp 16) rfl w.heap.size #[.int .u8 8, .int .u8 8, .int .u8 8, .int .u8 6, .int .u8 0, .int .u8 0, .int .u8 0] rfl rfl 73 #[.int .u8 0, .int .u8 0, .int .u8 0, .int .u8 0, .int .u8 0, .int .u8 0, .int .u8 0] HN.out (by kernel_rfl) rfl (by simp [Value.oneCell']) ?_)
    exact bodyPost_ret (v := .agg #[.int .u8 8, .int .u8 8, .int .u8 8, .int .u8 6, .int .u8 0, .int .u8 0, .int .u8 0]) (results_cell_row rfl _ _ w.heap.size 73 #[.int .u8 8, .int .u8 8, .int .u8 8, .int .u8 6, .int .u8 0, .int .u8 0, .int .u8 0] (0, 0) _ rfl (HN.out.row _) Tryd.underlying73 rfl (by kernel_rfl)) rfl ⟨rfl, below_setRow HB.out (Nat.le_refl _) _⟩
  have e8 : ((33 : Int) == (t : Int)) = false := beq_eq_false_iff_ne.2 (by omega)
  go_wp2
  clear d8 e8
  rw [rounds_succ]
  have HR : Hid (partsV t = .agg #[.int .u8 4, .int .u8 0, .int .u8 0, .int .u8 0, .int .u8 0, .int .u8 0, .int .u8 0]) := by unfold partsV partC; rw [Rd.parts_other h0 h1 h2 h3 h4 h5 h6 h7 h8]; rfl
  go_wp2_with (refine wpList_store_row rfl 73 (.tmp 2) (.tmp 18) rfl w.heap.size #[.int .u8 4, .int .u8 0, .int .u8 0, .int .u8 0, .int .u8 0, .int .u8 0, .int .u8 0] rfl rfl 73 #[.int .u8 0, .int .u8 0, .int .u8 0, .int .u8 0, .int .u8 0, .int .u8 0, .int .u8 0] HN.out (by kernel_rfl) rfl (by simp [Value.oneCell']) ?_)
  rw [HR.out]
  exact bodyPost_ret (v := .agg #[.int .u8 4, .int .u8 0, .int .u8 0, .int .u8 0, .int .u8 0, .int .u8 0, .int .u8 0]) (results_cell_row rfl _ _ w.heap.size 73 #[.int .u8 4, .int .u8 0, .int .u8 0, .int .u8 0, .int .u8 0, .int .u8 0, .int .u8 0] (0, 0) _ rfl (HN.out.row _) Tryd.underlying73 rfl (by kernel_rfl)) rfl ⟨rfl, below_setRow HB.out (Nat.le_refl _) _⟩
end Go.Proofs.YtbipcflmmfipbaaDoor
/- fits, width: may these bytes be a part? -/
namespace Go.Proofs.YtbipcflmmfipbaaDoor
open Go.RowKit

/-- what fits says. -/
def fitR (p : Nat) (l : List UInt8) : Bool :=
  if p = 1 then l.length == 4 else if p = 2 then l.length == 16
  else if p = 3 then (match Rd.tx l with | some (_ :: _) => decide (l.length ≤ 65535) | _ => false)
  else decide (l.length ≤ 65535)
theorem fitR_fit {p : Nat} {d : Rd.Dt} {n : Nat} (h1 : 1 ≤ p) (h4 : p ≤ 4) : fitR p d.raw = Rd.fit p d n := by
  unfold fitR Rd.fit
  rcases (by omega : p = 1 ∨ p = 2 ∨ p = 3 ∨ p = 4) with rfl | rfl | rfl | rfl <;> rfl
set_option maxHeartbeats 1000000 in
set_option maxRecDepth 100000 in
theorem fits_3 (s : ByteArray) (w : World) (hs : s.size ≤ 8796093022208) :
    Calls Tryd.prog 62 #[.int .u8 3, .string s] w fun e w' => e = .returned (.bool (fitR 3 s.data.toList)) ∧ Below w.heap.size w w' := by
  have hl : s.data.toList.length = s.size := by simp
  have hres : fitR 3 s.data.toList = match Rd.tx s.data.toList with | some (_ :: _) => decide (s.size ≤ 65535) | _ => false := by rw [← hl]; rfl
  obtain ⟨R, hR⟩ : ∃ R, fitR 3 s.data.toList = R := ⟨_, rfl⟩
  rw [hR] at hres ⊢
  have key : ∃ d : Bool, (∀ W : World, Calls Tryd.prog 92 #[.string s] W fun e w' => ∃ v, e = .returned (.tuple #[v, .bool d]) ∧ Below W.heap.size W w') ∧ R = (d && decide (s.size ≤ 65535)) := by
    have HT := fun W : World => textsOf_any s W hs
    rcases htx : Rd.tx s.data.toList with _ | ls
    · rw [htx] at HT hres
      exact ⟨false, fun W => (HT W).mono fun e w' ⟨v, hb, he⟩ => ⟨v, he, hb⟩, by rw [hres]; rfl⟩
    · rw [htx] at HT hres
      cases ls with
      | nil => exact ⟨false, fun W => (HT W).mono fun e w' ⟨v, hb, he, _⟩ => ⟨v, he, hb⟩, by rw [hres]; rfl⟩
      | cons x r => exact ⟨true, fun W => (HT W).mono fun e w' ⟨v, hb, he, _⟩ => ⟨v, by rw [he]; simp, hb⟩, by rw [hres]; rfl⟩
  obtain ⟨d, hT, hd⟩ := key
  have HT := Lib.hid hT
  have HD := Lib.hid hd
  clear hT hd hres hR hl
  cases d with
  | true =>
    go_enter Tryd.func62, Tryd.ntmps62
    go_wp2_with (go_at_call 92; refine (HT.out _).mono ?_; rintro e' w2 ⟨v, rfl, hb⟩)
    go_ret
    refine ⟨ret_bool ?_, hb⟩
    rw [HD.out, Bool.eq_iff_iff]; simp; omega
  | false =>
    go_enter Tryd.func62, Tryd.ntmps62
    go_wp2_with (go_at_call 92; refine (HT.out _).mono ?_; rintro e' w2 ⟨v, rfl, hb⟩)
    go_ret
    refine ⟨ret_bool ?_, hb⟩
    rw [HD.out]; rfl
set_option maxHeartbeats 1000000 in
set_option maxRecDepth 100000 in
theorem fits_any (p : Nat) (s : ByteArray) (w : World) (h1 : 1 ≤ p) (h4 : p ≤ 4) (hs : s.size ≤ 8796093022208) :
    Calls Tryd.prog 62 #[.int .u8 p, .string s] w fun e w' => e = .returned (.bool (fitR p s.data.toList)) ∧ Below w.heap.size w w' := by
  have hl : s.data.toList.length = s.size := by simp
  rcases (by omega : p = 1 ∨ p = 2 ∨ p = 3 ∨ p = 4) with rfl | rfl | rfl | rfl
  · go_enter Tryd.func62, Tryd.ntmps62
    go_wp2
    go_ret
    refine ⟨ret_bool ?_, Below.refl _ _⟩
    show _ = (s.data.toList.length == 4)
    rw [hl, Bool.eq_iff_iff, beq_iff_eq, beq_iff_eq]; omega
  · go_enter Tryd.func62, Tryd.ntmps62
    go_wp2
    go_ret
    refine ⟨ret_bool ?_, Below.refl _ _⟩
    show _ = (s.data.toList.length == 16)
    rw [hl, Bool.eq_iff_iff, beq_iff_eq, beq_iff_eq]; omega
  · exact fits_3 s w hs
  · go_enter Tryd.func62, Tryd.ntmps62
    go_wp2
    go_ret
    refine ⟨ret_bool ?_, Below.refl _ _⟩
    show _ = decide (s.data.toList.length ≤ 65535)
    rw [hl, Bool.eq_iff_iff]; simp; omega
theorem width_8 (w : World) : Calls Tryd.prog 64 #[.int .u8 8] w fun e w' => e = .returned (.int .i64 16) ∧ w = w' := by
  go_enter Tryd.func64, Tryd.ntmps64
  go_wp2
  go_ret
  exact ⟨rfl, rfl⟩
theorem width_9 (w : World) : Calls Tryd.prog 64 #[.int .u8 9] w fun e w' => e = .returned (.int .i64 32) ∧ w = w' := by
  go_enter Tryd.func64, Tryd.ntmps64
  go_wp2
  go_ret
  exact ⟨rfl, rfl⟩
end Go.Proofs.YtbipcflmmfipbaaDoor
/- The document's answer on data: may they be? -/
namespace Go.Proofs.YtbipcflmmfipbaaDoor
open Go.RowKit

theorem rdIs_any (s : ByteArray) (w : World) (hs : s.size ≤ 140737488355328) :
    Calls Tryd.prog 100 #[.string s] w fun e w' => e = .returned (.bool (Rd.nm s.data.toList)) ∧ Below w.heap.size w w' := by
  unfold Rd.nm
  have HC := Lib.hid (Split_any s w hs)
  cases h : Nm.split s.data.toList with
  | none =>
    rw [h] at HC
    clear h
    go_enter Tryd.func100, Tryd.ntmps100
    go_wp2_with (go_at_call 102; refine HC.out.mono ?_; rintro e w1 ⟨v, hb1, rfl⟩)
    go_ret
    exact ⟨rfl, hb1⟩
  | some ls =>
    rw [h] at HC
    clear h
    go_enter Tryd.func100, Tryd.ntmps100
    go_wp2_with (go_at_call 102; refine HC.out.mono ?_; rintro e w1 ⟨v, hb1, rfl, _⟩)
    go_ret
    exact ⟨rfl, hb1⟩
theorem rd_strEmpty (s : ByteArray) : (s.toList == []) = (s.data.toList == []) := by
  have e0 : (⟨#[]⟩ : ByteArray).toList = [] := by kernel_rfl
  by_cases h : s.data.toList = []
  · obtain rfl : s = ⟨#[]⟩ := string_eq h
    rw [e0]
  · have h1 : (s.toList == (⟨#[]⟩ : ByteArray).toList) = false := by
      rw [← beq_toListBytes, Bool.eq_false_iff]
      intro hb
      have := (MapKept.bytes_beq _ _).1 hb
      subst this
      exact h rfl
    rw [e0] at h1
    rw [h1]
    cases hb : (s.data.toList == []) with
    | false => rfl
    | true => exact absurd (beq_iff_eq.1 hb) h

theorem raw16 (l : List UInt8) : Rd.rawOk 16 l = match Rd.tx l with | some (_ :: _) => decide (l.length ≤ 65535) | _ => false := rfl
set_option maxHeartbeats 1000000 in
set_option maxRecDepth 100000 in
theorem rdRaw_16 (s : ByteArray) (w : World) (hs : s.size ≤ 8796093022208) :
    Calls Tryd.prog 99 #[.int .u16 16, .string s] w fun e w' => e = .returned (.bool (Rd.rawOk 16 s.data.toList)) ∧ Below w.heap.size w w' := by
  have hl : s.data.toList.length = s.size := by simp
  have hres := raw16 s.data.toList
  rw [hl] at hres
  have HNM : Hid (∀ W : World, Calls Tryd.prog 50 #[.int .u16 16] W fun e w' => e = .returned (.tuple #[.bool false, .bool false]) ∧ W = w') := fun W => rdNames_any 16 W (by omega)
  obtain ⟨R, hR⟩ : ∃ R, Rd.rawOk 16 s.data.toList = R := ⟨_, rfl⟩
  rw [hR] at hres ⊢
  have key : ∃ d : Bool, (∀ W : World, Calls Tryd.prog 54 #[.string s] W fun e w' => ∃ v, e = .returned (.tuple #[v, .bool d]) ∧ Below W.heap.size W w') ∧ R = (d && decide (s.size ≤ 65535)) := by
    have HT := fun W : World => rdTexts_any s W hs
    rcases htx : Rd.tx s.data.toList with _ | ls
    · rw [htx] at HT hres
      exact ⟨false, fun W => (HT W).mono fun e w' ⟨v, hb, he⟩ => ⟨v, he, hb⟩, by rw [hres]; rfl⟩
    · rw [htx] at HT hres
      cases ls with
      | nil => exact ⟨false, fun W => (HT W).mono fun e w' ⟨v, hb, he, _⟩ => ⟨v, he, hb⟩, by rw [hres]; rfl⟩
      | cons x r => exact ⟨true, fun W => (HT W).mono fun e w' ⟨v, hb, he, _⟩ => ⟨v, by rw [he]; simp, hb⟩, by rw [hres]; rfl⟩
  obtain ⟨d, hT, hd⟩ := key
  have HT := Lib.hid hT
  have HD := Lib.hid hd
  clear hT hd hres hR hl
  cases d with
  | true =>
    go_enter Tryd.func99, Tryd.ntmps99
    go_wp2_with (first
      | (go_at_call 50; refine (HNM.out _).mono ?_; rintro e' w1 ⟨rfl, rfl⟩)
      | (go_at_call 54; refine (HT.out _).mono ?_; rintro e' w2 ⟨v, rfl, hb⟩))
    go_ret
    refine ⟨ret_bool ?_, hb⟩
    rw [HD.out, Bool.eq_iff_iff]; simp; omega
  | false =>
    go_enter Tryd.func99, Tryd.ntmps99
    go_wp2_with (first
      | (go_at_call 50; refine (HNM.out _).mono ?_; rintro e' w1 ⟨rfl, rfl⟩)
      | (go_at_call 54; refine (HT.out _).mono ?_; rintro e' w2 ⟨v, rfl, hb⟩))
    go_ret
    refine ⟨ret_bool ?_, hb⟩
    rw [HD.out]; rfl
set_option maxHeartbeats 1000000 in
set_option maxRecDepth 100000 in
theorem rdRaw_any (t : Nat) (s : ByteArray) (w : World) (ht : t ≤ 65535) (hs : s.size ≤ 8796093022208) :
    Calls Tryd.prog 99 #[.int .u16 t, .string s] w fun e w' => e = .returned (.bool (Rd.rawOk t s.data.toList)) ∧ Below w.heap.size w w' := by
  by_cases hn16 : t = 16
  · subst hn16
    exact rdRaw_16 s w hs
  have hl : s.data.toList.length = s.size := by simp
  unfold Rd.rawOk
  rw [hl, ← rd_strEmpty]
  have HNM := Lib.hid (fun W : World => rdNames_any t W ht)
  rcases hh : Rd.isHost t with _ | _
  · rw [hh] at HNM
    by_cases h1 : t = 1
    · subst h1
      clear hl hh hn16
      go_enter Tryd.func99, Tryd.ntmps99
      go_wp2_with (go_at_call 50; refine (HNM.out _).mono ?_; rintro e' w1 ⟨rfl, rfl⟩)
      go_ret
      refine ⟨ret_bool ?_, Below.refl _ _⟩
      rw [Bool.eq_iff_iff, beq_iff_eq, beq_iff_eq]; omega
    · have k1 : ((t : Int) == 1) = false := by simp; omega
      by_cases h28 : t = 28
      · subst h28
        clear hl hh hn16
        go_enter Tryd.func99, Tryd.ntmps99
        go_wp2_with (go_at_call 50; refine (HNM.out _).mono ?_; rintro e' w1 ⟨rfl, rfl⟩)
        go_ret
        refine ⟨ret_bool ?_, Below.refl _ _⟩
        rw [Bool.eq_iff_iff, beq_iff_eq, beq_iff_eq]; omega
      · have k28 : ((t : Int) == 28) = false := by simp; omega
        by_cases h16 : t = 16
        · exact absurd h16 hn16
        · have k16 : ((t : Int) == 16) = false := by simp; omega
          rw [if_neg (by simp), if_neg h1, if_neg h28, if_neg h16]
          clear hl hh h1 h28 h16 hn16
          go_enter Tryd.func99, Tryd.ntmps99
          go_wp2_with (go_at_call 50; refine (HNM.out _).mono ?_; rintro e' w1 ⟨rfl, rfl⟩)
          go_ret
          refine ⟨ret_bool ?_, Below.refl _ _⟩
          rw [Bool.eq_iff_iff]; simp; omega
  · rw [hh] at HNM
    rw [if_pos rfl]
    clear hl hh hn16
    go_enter Tryd.func99, Tryd.ntmps99
    go_wp2_with (go_at_call 50; refine (HNM.out _).mono ?_; rintro e' w1 ⟨rfl, rfl⟩)
    go_ret
    refine ⟨ret_bool ?_, Below.refl _ _⟩
    cases s.toList <;> rfl
end Go.Proofs.YtbipcflmmfipbaaDoor
