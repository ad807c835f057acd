/- Texts of the proofs, merged. -/
import Derived.Test.YtpinhpnmnfcdoaaDoorG6
import Derived.Test.YtpinhpnmnfcdoaaDoorG3
import Derived.Test.YtpinhpnmnfcdoaaDoorG2
import Derived.Lib.AppendZeros
import Derived.OrdersIn
import Derived.OrdersHeld
import Derived.Laws.Bits64b
/- A name gone through label by label, by a range over a function. -/
namespace Go.Proofs.YtpinhpnmnfcdoaaDoor
open Go.RowKit Go.Shelf
attribute [local go_sem] Oper.semAt_some

/-- what is told in round i. -/
def tailV (ls : List (List UInt8)) (i : Nat) : Array Value := #[.int .i64 ((Nm.body (ls.take i)).length : Nat), sv (Nm.glue (ls.drop i))]
theorem glue_at (ls : List (List UInt8)) (i : Nat) : (Nm.glue ls).drop (Nm.body (ls.take i)).length = Nm.glue (ls.drop i) := by
  have e : Nm.glue ls = Nm.body (ls.take i) ++ Nm.glue (ls.drop i) := by
    unfold Nm.glue
    rw [← List.append_assoc, ← Nm.body_append, List.take_append_drop]
  rw [e, List.drop_left]
theorem tail_cut {s : ByteArray} {ls : List (List UInt8)} (h : s.data.toList = Nm.glue ls) (i : Nat) : sv (Nm.glue (ls.drop i)) = .string (s.extract (Nm.body (ls.take i)).length s.size) := by
  have hl : s.size = (Nm.glue ls).length := by rw [← h]; simp
  rw [string_eq (s := s.extract (Nm.body (ls.take i)).length s.size) (l := Nm.glue (ls.drop i))]
  rw [extract_list, h, glue_at, hl]
  rw [List.take_of_length_le]
  have := glue_at ls i
  rw [← this, List.length_drop]; omega

set_option maxHeartbeats 400000 in
theorem tails_any (s : ByteArray) (w : World) :
    Calls Tryd.prog 50 #[.string s] w fun e w' => e = .returned (.func (.func 74) #[] #[.pointer (some ⟨w.heap.size, 0, none⟩)]) ∧ w' = w.alloc (.cells #[.string s] 48) := by
  go_enter Tryd.func50, Tryd.ntmps50
  go_wp2
  go_ret
  exact ⟨rfl, rfl⟩

set_option maxRecDepth 100000 in
set_option maxHeartbeats 1000000 in
theorem tails1_in (n : Nat) (hn : 1 ≤ n) (l bx lo : Nat) (s : ByteArray) (ls : List (List UInt8)) (hs : Nm.split s.data.toList = some ls) (J Jx : Nat → World → Prop)
    (hJ : ∀ i A B, J i A → Below A.heap.size A B → J i B)
    (hY : ∀ i W1, J i W1 → i < ls.length → YieldAt Fence.wide (n - 1) Tryd.prog l (tailV ls i) W1 fun e W' =>
      (e = .returned (.bool true) ∧ J (i + 1) W' ∧ Keeps lo W1 W') ∨ (e = .returned (.bool false) ∧ Jx (i + 1) W'))
    (W : World) (hB : Has W bx 48 #[.string s]) (hlo : lo ≤ bx) (h0 : J 0 W) :
    CallsIn Fence.wide n Tryd.prog 74 #[.func (.yield l) #[] #[], .pointer (some ⟨bx, 0, none⟩)] W fun e W' => (∃ v, e = .returned v) ∧ (J ls.length W' ∨ ∃ i, Jx i W') := by
  obtain ⟨hgl, hg, h255⟩ := Nm.split_some.1 hs
  have hsz : s.size = (Nm.glue ls).length := by rw [← hgl]; simp
  have hbl := Nm.glue_length ls
  have hs255 : s.size ≤ 255 := by rw [hsz, ← hgl]; exact h255
  have hfew := few hs
  have hlab := Labels_any s W (by omega)
  unfold labelsOf at hlab
  rw [hs, Option.getD_some] at hlab
  have hcB : W.cell? ⟨bx, 0, none⟩ = some (.string s) := by rw [hB.cell]; rfl
  have hbx := hB.lt
  have HL := Lib.hid hlab
  have HG := Lib.hid hgl
  have HSZ := Lib.hid hsz
  have HGL := Lib.hid hbl
  have HH := Lib.hid hB
  clear hlab hgl hs hg h255 hsz hbl hB
  refine callsIn_of_wp Tryd.func74 rfl trivial ?_ rfl
  simp only [Tryd.ntmps74, List.size_toArray, List.length_cons, List.length_nil, Nat.reduceAdd, Nat.reduceSub, Array.replicate_succ, Array.replicate_zero, List.push_toArray, List.append_toArray, List.nil_append, List.cons_append]
  gi_wp2_with (refine ⟨trivial, ?_⟩; gi_at_call 58; refine (callsIn_wide.2 HL.out).mono ?_; rintro e w2 ⟨v2, rfl, O2, B2⟩; obtain ⟨A2, c2, rfl⟩ := own_form O2)
  have HO := Lib.hid O2
  have HB2 := Lib.hid B2
  have hb2 := B2.size
  have hJ2 := hJ 0 W w2 h0 B2
  have HJ2 := Lib.hid hJ2
  have HH2 := Lib.hid (HH.out.below B2 hbx)
  clear O2 B2 hJ2 h0
  gi_loopw [3, 9] (fun a i wr => ∃ k : Nat, k ≤ ls.length ∧ i = .int .i64 k ∧ a = .int .i64 ((Nm.body (ls.take k)).length : Nat) ∧ J k wr ∧ Keeps lo w2 wr) (fun _ i _ => ls.length - (intOf i).toNat)
  case atStart => exact ⟨0, Nat.zero_le _, rfl, rfl, HJ2.out, Keeps.refl _ _⟩
  case round =>
    obtain ⟨k, hk, rfl, rfl, hJs, hkp⟩ := hrel
    have HK := Lib.hid hkp
    have HJS := Lib.hid hJs
    clear hkp hJs
    by_cases hlt : k < ls.length
    · obtain ⟨gL, rfl, hcap, hcell⟩ := own_at HO.out hlt
      obtain ⟨gx, hgx, hg1⟩ : ∃ g, (some (⟨gL, 0, none⟩ : Addr)) = some ⟨g, 0, none⟩ ∧ W.heap.size ≤ g := by
        rcases own_pos HO.out (by omega) with ⟨g, cp, hv, _, hg1, _⟩
        injection hv with hv
        exact ⟨g, hv, hg1⟩
      injection hgx with hgx
      injection hgx with hgx
      subst hgx
      have hc1 : wr.cell? ⟨gL, k, none⟩ = some (sv (ls[k]'hlt)) := HK.out.cell (by show lo ≤ gL; omega) (hcell k (sv (ls[k]'hlt)) (by simp [svs, hlt]))
      have hc2 : wr.cell? ⟨bx, 0, none⟩ = some (.string s) := HK.out.cell hlo (by rw [HH2.out.cell]; rfl)
      have hY2 := hY k wr HJS.out hlt
      have htv : tailV ls k = #[.int .i64 ((Nm.body (ls.take k)).length : Nat), .string (s.extract (Nm.body (ls.take k)).length s.size)] := by unfold tailV; rw [tail_cut HG.out]
      rw [htv] at hY2
      obtain ⟨fn, tmps, assign, body, hy, hR⟩ := hY2
      have hts := Nm.take_succ_body hlt
      have hle := Nm.body_take_le (ls := ls) (i := k + 1)
      have hle2 : (Nm.body (ls.take k)).length ≤ s.size := by have := HSZ.out; have := HGL.out; omega
      have hle3 : (Nm.body (ls.take k)).length + 1 + (ls[k]'hlt).length ≤ 255 := by have := HSZ.out; have := HGL.out; omega
      have HTS := Lib.hid hts
      clear hcell hts hle htv
      generalize hll : (ls[k]'hlt) = lk at *
      have HLL := Lib.hid hll
      clear hll
      generalize (Nm.body (ls.take k)).length = z at *
      gi_wp2
      refine hR.mono ?_
      rintro e W3 (⟨rfl, hJ3, hk3⟩ | ⟨rfl, hJx3⟩)
      · have HK3 := Lib.hid hk3
        have HJ3 := Lib.hid hJ3
        clear hk3 hJ3
        gi_wp2
        go_roundw
        case rel => exact ⟨k + 1, by omega, by go_num, by rw [HTS.out]; exact congrArg (Value.int .i64) (by omega), HJ3.out, HK.out.trans HK3.out⟩
        case measure => simp [intOf]; omega
      · gi_wp2
        refine bodyPost_ret (results_none rfl _ _ _) rfl ?_
        exact ⟨⟨_, rfl⟩, .inr ⟨_, hJx3⟩⟩
    · obtain rfl : k = ls.length := by omega
      gi_wp2
      go_end0
      exact ⟨⟨_, rfl⟩, .inl HJS.out⟩

/-- the contract of what tails hands back. -/
theorem tails_seq (n : Nat) (hn : 1 ≤ n) (bx lo : Nat) (s : ByteArray) (ls : List (List UInt8)) (hs : Nm.split s.data.toList = some ls) (w : World) (hB : Has w bx 48 #[.string s]) (hlo : lo ≤ bx) :
    SeqN Fence.wide n Tryd.prog 74 #[.pointer (some ⟨bx, 0, none⟩)] (tailV ls) lo ls.length w := fun l J Jx W hW hJ hY h0 =>
  tails1_in n hn l bx lo s ls hs J Jx hJ hY W (hB.below hW hB.lt) hlo h0
end Go.Proofs.YtpinhpnmnfcdoaaDoor
/- slices.Concat and slices.Grow of bytes. -/
namespace Go.Proofs.YtpinhpnmnfcdoaaDoor
open Go.RowKit

theorem cells_zero (n : Nat) : (Builtin.zeroCells (Value.int .u8 0).cells n).size = n := by simp [size_zeroCells, Value.cells]
set_option maxHeartbeats 400000 in
set_option maxRecDepth 100000 in
theorem grow_nil (n : Nat) (w : World) (hn : n ≤ 140737488355328) :
    Calls Tryd.prog 48 #[.slice none 0 0, .int .i64 n] w fun e w' => ∃ v, e = .returned v ∧ w'.ownsRow w.heap.size 5 1 v 0 [] ∧ Below w.heap.size w w' := by
  obtain ⟨i0, hi, hz0, hz1, hz2⟩ := info_parts Tryd.infoByte
  by_cases h0 : n = 0
  · subst h0
    go_enter Tryd.func48, Tryd.ntmps48
    go_wp2
    go_ret
    exact ⟨_, rfl, World.ownsRow_nil _ _ _ _, Below.refl _ _⟩
  · have happ := Lib.run_append_nil_zeros (P := Tryd.prog) w 52 3 52 5 i0 (.int .u8 0) .i64 .i64 Tryd.underlying52 Tryd.underlying3 hi hz0 n (by omega) (by omega) (by omega) (by rw [hz2]; omega)
    have hge := grownCap_ge w n 0 5
    have hle := grownCap_le_maxLen w n 0 5 (by unfold maxLen; omega)
    have hzs : (Builtin.zeroCells (Value.int .u8 0).cells n ++ Builtin.zeroCells (Value.int .u8 0).cells (grownCap w n 0 5 - n)).size = grownCap w n 0 5 := by
      rw [Array.size_append, cells_zero, cells_zero]; omega
    have HZ := Lib.hid hzs
    clear hzs
    generalize grownCap w n 0 5 = cap at *
    generalize (Builtin.zeroCells (Value.int .u8 0).cells n ++ Builtin.zeroCells (Value.int .u8 0).cells (cap - n)) = Z at *
    go_enter Tryd.func48, Tryd.ntmps48
    have HP := Lib.hid happ
    clear happ
    go_wp2_with (at_builtin; refine wpList_append_run rfl (.tmp 20) (.tmp 21) _ _ rfl _ _ rfl rfl (R := fun v' w' => v' = .slice (some ⟨w.heap.size, 0, none⟩) n cap ∧ w' = w.drew.alloc (.cells Z 5)) ⟨_, _, HP.out, rfl, rfl⟩ ?_; rintro v' w' ⟨rfl, rfl⟩)
    go_ret
    refine ⟨_, rfl, ⟨rfl, .inr ⟨w.heap.size, cap, Z, rfl, Nat.le_refl _, heap_alloc_new w.drew _, Nat.zero_le _, hle, by rw [HZ.out]; omega, by simp⟩⟩, ?_⟩
    exact ((Below.refl _ _).drew).alloc (Nat.le_refl _) _

/-- slices of bytes that are read: where they begin, their capacity, their bytes. -/
abbrev Sl := Option Addr × Nat × List UInt8
def slv (s : Sl) : Value := .slice s.1 s.2.2.length s.2.1
def cat (ss : List Sl) : List UInt8 := ss.flatMap (·.2.2)
theorem cat_take (ss : List Sl) {k : Nat} (h : k < ss.length) : cat (ss.take (k + 1)) = cat (ss.take k) ++ (ss[k]'h).2.2 := by
  unfold cat; rw [List.take_succ_eq_append_getElem h, List.flatMap_append]; simp only [List.flatMap_cons, List.flatMap_nil, List.append_nil]
theorem cat_le (ss : List Sl) (k : Nat) : (cat (ss.take k)).length ≤ (cat ss).length := by
  have e : cat ss = cat (ss.take k) ++ cat (ss.drop k) := by unfold cat; rw [← List.flatMap_append, List.take_append_drop]
  rw [e, List.length_append]; omega
theorem cat_all (ss : List Sl) : cat (ss.take ss.length) = cat ss := by rw [List.take_length]

set_option maxHeartbeats 1000000 in
set_option maxRecDepth 100000 in
theorem concat_any (g : Nat) (ss : List Sl) (w : World) (hg : g < w.heap.size) (hc : ∀ j (h : j < ss.length), w.cell? ⟨g, j, none⟩ = some (slv (ss[j]'h)))
    (hb : ∀ j (h : j < ss.length), Bs w 0 w.heap.size (ss[j]'h).1 (ss[j]'h).2.2) (hn : ∀ j (h : j < ss.length), (ss[j]'h).1 = none → (ss[j]'h).2.1 = 0) (ht : (cat ss).length ≤ 140737488355328) (hs : ss.length ≤ 1000) :
    Calls Tryd.prog 26 #[.slice (some ⟨g, 0, none⟩) ss.length ss.length] w fun e w' => ∃ v, e = .returned v ∧ w'.ownsRow w.heap.size 5 1 v (cat ss).length (bv (cat ss)) ∧ Below w.heap.size w w' := by
  obtain ⟨i0, hi, hz0, hz1, hz2⟩ := info_parts Tryd.infoByte
  have HC := Lib.hid hc
  have HB := Lib.hid hb
  have HN := Lib.hid hn
  have HA := Lib.hid (cat_all ss)
  clear hc hb hn
  go_enter Tryd.func26, Tryd.ntmps26
  go_wp2
  go_loop [3, 11] (fun s i => ∃ k : Nat, i = .int .i64 k ∧ k ≤ ss.length ∧ s = .int .i64 ((cat (ss.take k)).length : Nat)) (fun _ i => ss.length - (intOf i).toNat)
  case atStart => exact ⟨0, rfl, Nat.zero_le _, rfl⟩
  case round =>
    obtain ⟨k, rfl, hk, rfl⟩ := hrel
    have hle := cat_le ss k
    by_cases hlt : k < ss.length
    · have ck := HC.out k hlt
      have hle2 := cat_le ss (k + 1)
      have HT : Hid ((cat (ss.take (k + 1))).length = (cat (ss.take k)).length + (ss[k]'hlt).2.2.length) := by rw [Hid, cat_take ss hlt, List.length_append]
      rw [HT.out] at hle2
      unfold slv at ck
      generalize (ss[k]'hlt).2.2.length = m at *
      generalize (cat (ss.take k)).length = z at *
      go_wp2
      go_round
      case rel => exact ⟨k + 1, by go_num, by omega, by rw [HT.out]; go_num⟩
      case measure => simp [intOf]; omega
    · obtain rfl : k = ss.length := by omega
      have hA := HA.out
      rw [hA]
      clear hA hle
      have HG := Lib.hid (grow_nil (cat ss).length w ht)
      go_wp2_with (go_at_call 48; refine HG.out.mono ?_; rintro e w1 ⟨v, rfl, hO, hb1⟩)
      have HO := Lib.hid hO
      have HB1 := Lib.hid hb1
      have hbs := hb1.size
      clear hO hb1
      go_loopw [6, 27] (fun s i wr => ∃ k : Nat, i = .int .i64 k ∧ k ≤ ss.length ∧ wr.ownsRow w.heap.size 5 1 s (cat (ss.take k)).length (bv (cat (ss.take k))) ∧ Below w.heap.size w wr) (fun _ i _ => ss.length - (intOf i).toNat)
      case atStart => exact ⟨0, rfl, Nat.zero_le _, by simpa [cat, bv] using HO.out, HB1.out⟩
      case round =>
        obtain ⟨k, rfl, hk, hown, hbw⟩ := hrel
        have HO2 := Lib.hid hown
        have HW := Lib.hid hbw
        have hbs2 := hbw.size
        clear hown hbw
        by_cases hlt : k < ss.length
        · have ck : wr.cell? ⟨g, k, none⟩ = some (slv (ss[k]'hlt)) := (HW.out.cell (p := ⟨g, k, none⟩) hg).trans (HC.out k hlt)
          have hle2 := cat_le ss (k + 1)
          have HT := Lib.hid (cat_take ss hlt)
          have hBk := Lib.hid ((HB.out k hlt).keep HW.out)
          have hNk := Lib.hid (HN.out k hlt)
          rw [HT.out, List.length_append] at hle2
          unfold slv at ck
          generalize (ss[k]'hlt).2.2 = l at *
          generalize (ss[k]'hlt).2.1 = c at *
          generalize (ss[k]'hlt).1 = A at *
          obtain ⟨y, hy⟩ : ∃ y, cat (ss.take k) = y := ⟨_, rfl⟩
          rw [hy] at hle2
          have HY := Lib.hid hy
          clear hy
          rw [HY.out] at HO2 HT
          go_wp2_with (at_builtin; refine wpList_append_bs rfl (.tmp 31) (.tmp 32) _ rfl w.heap.size _ i0 _ Tryd.underlying52 hi hz0 hz1 hz2 rfl _ y.length (bv y) rfl HO2.out 0 w.heap.size A c l rfl hBk.out hNk.out (by omega) hbs2 ?_; intro v6 w6 O6 G6)
          have hB6 : Below w.heap.size w w6 := HW.out.grown G6 hbs2 (fun k hk => (HO2.out.lt k hk).1)
          go_roundw
          case rel => exact ⟨k + 1, by go_num, by omega, own_to O6 (by rw [HT.out, List.length_append]) (by rw [HT.out, bv_append]), hB6⟩
          case measure => simp [intOf]; omega
        · obtain rfl : k = ss.length := by omega
          have hA := HA.out
          rw [hA] at HO2
          clear hA
          go_wp2
          go_ret
          exact ⟨_, rfl, HO2.out, HW.out⟩

theorem concat2 (g : Nat) (A B : Option Addr) (c d n m : Nat) (l k : List UInt8) (w : World) (hg : g < w.heap.size) (h0 : w.cell? ⟨g, 0, none⟩ = some (.slice A n c)) (h1 : w.cell? ⟨g, 1, none⟩ = some (.slice B m d)) (hn : n = l.length) (hm : m = k.length)
    (b0 : Bs w 0 w.heap.size A l) (b1 : Bs w 0 w.heap.size B k) (n0 : A = none → c = 0) (n1 : B = none → d = 0) (ht : (l ++ k).length ≤ 140737488355328) :
    Calls Tryd.prog 26 #[.slice (some ⟨g, 0, none⟩) 2 2] w fun e w' => ∃ v, e = .returned v ∧ w'.ownsRow w.heap.size 5 1 v (l ++ k).length (bv (l ++ k)) ∧ Below w.heap.size w w' := by
  subst hn hm
  have e : cat [(A, c, l), (B, d, k)] = l ++ k := by simp [cat]
  have := concat_any g [(A, c, l), (B, d, k)] w hg (fun j h => by
    rcases j with _ | _ | j
    · exact h0
    · exact h1
    · simp at h; omega) (fun j h => by
    rcases j with _ | _ | j
    · exact b0
    · exact b1
    · simp at h; omega) (fun j h => by
    rcases j with _ | _ | j
    · exact n0
    · exact n1
    · simp at h; omega) (by rw [e]; exact ht) (by simp)
  rw [e] at this
  exact this
theorem concat3 (g : Nat) (A B C : Option Addr) (c d f n m o : Nat) (l k j : List UInt8) (w : World) (hg : g < w.heap.size) (h0 : w.cell? ⟨g, 0, none⟩ = some (.slice A n c)) (h1 : w.cell? ⟨g, 1, none⟩ = some (.slice B m d)) (h2 : w.cell? ⟨g, 2, none⟩ = some (.slice C o f)) (hn : n = l.length) (hm : m = k.length) (ho : o = j.length)
    (b0 : Bs w 0 w.heap.size A l) (b1 : Bs w 0 w.heap.size B k) (b2 : Bs w 0 w.heap.size C j) (n0 : A = none → c = 0) (n1 : B = none → d = 0) (n2 : C = none → f = 0) (ht : (l ++ (k ++ j)).length ≤ 140737488355328) :
    Calls Tryd.prog 26 #[.slice (some ⟨g, 0, none⟩) 3 3] w fun e w' => ∃ v, e = .returned v ∧ w'.ownsRow w.heap.size 5 1 v (l ++ (k ++ j)).length (bv (l ++ (k ++ j))) ∧ Below w.heap.size w w' := by
  subst hn hm ho
  have e : cat [(A, c, l), (B, d, k), (C, f, j)] = l ++ (k ++ j) := by simp [cat]
  have := concat_any g [(A, c, l), (B, d, k), (C, f, j)] w hg (fun j h => by
    rcases j with _ | _ | _ | j
    · exact h0
    · exact h1
    · exact h2
    · simp at h; omega) (fun j h => by
    rcases j with _ | _ | _ | j
    · exact b0
    · exact b1
    · exact b2
    · simp at h; omega) (fun j h => by
    rcases j with _ | _ | _ | j
    · exact n0
    · exact n1
    · exact n2
    · simp at h; omega) (by rw [e]; exact ht) (by simp)
  rw [e] at this
  exact this
end Go.Proofs.YtpinhpnmnfcdoaaDoor
/- Plain: a name written without a pointer. -/
namespace Go.Proofs.YtpinhpnmnfcdoaaDoor
open Go.RowKit Go.Shelf
attribute [local go_sem] Oper.semAt_some

section
variable {P : Program}
/-- bytes of a string: a row of the call's own. -/
theorem run_bytes_new (w : World) (src dst e : TypeId) (s : ByteArray) (hs : P.underlying src = some .string) (hd : P.underlying dst = some (.slice e)) (he : P.underlying e = some (.int .u8)) :
    ∃ cap w', (convert src dst (.string s)).run P w = .ok (.slice (some ⟨w.heap.size, 0, none⟩) s.size cap) w' ∧ Bs w' w.heap.size (w.heap.size + 1) (some ⟨w.heap.size, 0, none⟩) s.data.toList ∧ s.size ≤ cap ∧ Below w.heap.size w w' ∧ w'.heap.size = w.heap.size + 1 := by
  refine ⟨_, _, run_bytes_of_string w src dst e s hs hd he, ?_, grownCap_ge w s.size 0 e, ((Below.refl _ _).drew).alloc (Nat.le_refl _) _, by simp⟩
  intro h0
  refine ⟨w.heap.size, 0, rfl, Nat.le_refl _, by omega, fun j hj => ?_⟩
  have hh := heap_alloc_new w.drew (.cells (bytesRow s (grownCap w s.size 0 e)) e ((bytesRow s (grownCap w s.size 0 e)).size, (bytesRow s (grownCap w s.size 0 e)).size + 1))
  rw [Nat.zero_add, cell_of_row _ w.heap.size j _ e _ hh]
  have hj' : j < s.data.size := by simpa using hj
  unfold bytesRow
  rw [Array.getElem?_append_left (by simpa using hj'), Array.getElem?_map, Array.getElem?_eq_getElem hj']
  rfl
theorem operIn_bytes {F : Fence} {nF : Nat} {w : World} {o : Oper} {a : Act} {K : Act → World → Prop} {Q : Exit → Act → World → Prop} (src dst : TypeId) (x : Operand) (hop : o.op = .convert src dst x)
    (e : TypeId) (hs : P.underlying src = some .string) (hd : P.underlying dst = some (.slice e)) (he : P.underlying e = some (.int .u8)) (s : ByteArray) (hx : a.eval x = .string s)
    (hK : ∀ cap w', Bs w' w.heap.size (w.heap.size + 1) (some ⟨w.heap.size, 0, none⟩) s.data.toList → s.size ≤ cap → Below w.heap.size w w' → w'.heap.size = w.heap.size + 1 → K (a.put o.dst (.slice (some ⟨w.heap.size, 0, none⟩) s.size cap)) w') :
    o.wpIn F nF P a w K Q := by
  obtain ⟨cap, w', hr, h1, h2, h3, h4⟩ := run_bytes_new (P := P) w src dst e s hs hd he
  unfold Oper.wpIn
  refine ⟨by simp [Oper.about, hop], ?_⟩
  rw [Oper.semAt_plain F _ _ (by rw [hop]; intro c hc'; cases hc')]
  simp [execOp, hop, hx, hr, Result.andThen]
  exact hK cap w' h1 h2 h3 h4
theorem wpListIn_bytes {F : Fence} {nF : Nat} {w : World} {ops : Array Oper} {rest : List Oper} {o : Oper} {a : Act} {Q : Exit → Act → World → Prop} (hg : o.guard = none) (src dst : TypeId) (x : Operand) (hop : o.op = .convert src dst x)
    (e : TypeId) (hs : P.underlying src = some .string) (hd : P.underlying dst = some (.slice e)) (he : P.underlying e = some (.int .u8)) (s : ByteArray) (hx : a.eval x = .string s)
    (hK : ∀ cap w', Bs w' w.heap.size (w.heap.size + 1) (some ⟨w.heap.size, 0, none⟩) s.data.toList → s.size ≤ cap → Below w.heap.size w w' → w'.heap.size = w.heap.size + 1 → wpListIn F nF P ops Q rest (a.put o.dst (.slice (some ⟨w.heap.size, 0, none⟩) s.size cap)) w') :
    wpListIn F nF P ops Q (o :: rest) a w :=
  wpListIn_plain hg fun _ hK' => operIn_bytes src dst x hop e hs hd he s hx fun cap w' h1 h2 h3 h4 => hK' _ _ (hK cap w' h1 h2 h3 h4)
end

section
variable {g base : Nat} {w w' : World} {mp : Option Nat} {t : Tab}
theorem Rg.grown_new (h : Rg g base w w') {w2 : World} {row : Option Nat} (hg : w'.grownBy w2 row) (hr : ∀ r, row = some r → w.heap.size ≤ r) (hb : base ≤ w.heap.size) : Rg g base w w2 := by
  refine ⟨h.below.grown hg (by have := h.below.size; omega) (fun k hk => by have := hr k hk; omega), fun k o hk ho hn => ?_⟩
  have h1 := h.same k o hk ho hn
  have hlt := (Array.getElem?_eq_some_iff.1 ho).1
  exact (hg.block k (Array.getElem?_eq_some_iff.1 h1).1 (fun e => by have := hr k e.symm; omega)).trans h1
theorem Rg.more (h : Rg g base w w') {w2 : World} (hb : Below w'.heap.size w' w2) (hbs : base ≤ w.heap.size) : Rg g base w w2 := h.grown_new (grown_of_below hb) (fun r e => by cases e) hbs
theorem Rg.cell (h : Rg g base w w') (hT : Tb w g base mp t) {p : Addr} {v : Value} (hc : w.cell? p = some v) (hv : ∀ m, v ≠ .map m) : w'.cell? p = some v := by
  obtain ⟨o, ho, hcs⟩ := cells_of_cell hc
  have hk : p.block ≠ g := fun e => by
    have h1 := hT.2.1
    rw [← e] at h1
    rw [show w.heap[p.block]? = _ from h1] at ho
    cases ho
    unfold World.cell? at hc
    rw [show w.heap[p.block]? = _ from h1] at hc
    simp at hc
    rcases p with ⟨pb, po, pp⟩
    cases pp with
    | none =>
      simp at hc
      rcases po with _ | po
      · simp at hc; exact hv _ hc.symm
      · simp at hc
    | some q => simp at hc
  have : w'.heap[p.block]? = some o := h.same _ _ hk ho (by cases o <;> simp_all [isMapO, Obj.isCells])
  exact (World.cell?_of_block (this.trans ho.symm)).trans hc
theorem Rg.bs (h : Rg g base w w') (hT : Tb w g base mp t) {lo hi : Nat} {A : Option Addr} {l : List UInt8} (hb : Bs w lo hi A l) : Bs w' lo hi A l := fun h0 => by
  obtain ⟨gb, o, rfl, h1, h2, hc⟩ := hb h0
  exact ⟨gb, o, rfl, h1, h2, fun j hj => h.cell hT (hc j hj) (fun m e => by cases e)⟩
end

theorem plain_nil (A : Option Addr) (n c : Nat) (s : ByteArray) (w : World) :
    Calls Tryd.prog 28 #[.pointer none, .slice A n c, .string s] w fun e w' => e = .returned (.tuple #[.slice none 0 0, .int .i64 8]) ∧ Below w.heap.size w w' := by
  go_enter Tryd.func28, Tryd.ntmps28
  go_wp2_with (go_at_call 49; refine (pcheck_nil _ _).mono ?_; rintro e w' ⟨rfl, rfl⟩)
  go_ret2
  exact ⟨rfl, ((Below.refl _ _).alloc (Nat.le_refl _) _).alloc (by simp) _⟩
theorem plain_no (g : Nat) (A : Option Addr) (n c : Nat) (s : ByteArray) (w : World) (hs : s.size ≤ 140737488355328) (hn : Nm.split s.data.toList = none) :
    Calls Tryd.prog 28 #[.pointer (some ⟨g, 0, none⟩), .slice A n c, .string s] w fun e w' => e = .returned (.tuple #[.slice none 0 0, .int .i64 11]) ∧ Below w.heap.size w w' := by
  have HC : ∀ W, Hid (Calls Tryd.prog 49 #[.pointer (some ⟨g, 0, none⟩), .string s] W fun e w' => e = .returned (.int .i64 11) ∧ Below W.heap.size W w') := fun W => by
    have := pcheck_any g s W hs
    rw [hn] at this
    exact this
  clear hn
  go_enter Tryd.func28, Tryd.ntmps28
  go_wp2_with (go_at_call 49; refine (HC _).out.mono ?_; rintro e w1 ⟨rfl, hb1⟩)
  go_ret2
  exact ⟨rfl, (((Below.refl _ _).alloc (Nat.le_refl _) _).alloc (by simp) _).trans (hb1.mono (by simp; omega))⟩
end Go.Proofs.YtpinhpnmnfcdoaaDoor
/- Plain: a name written without a pointer: the walk. -/
namespace Go.Proofs.YtpinhpnmnfcdoaaDoor
open Go.RowKit Go.Shelf
attribute [local go_sem] Oper.semAt_some

/-- what a writing leaves: the bytes behind what there was, the table, and all else as it was. -/
def PutDone (plain : Bool) (g base : Nat) (t : Tab) (l : List UInt8) (ls : List (List UInt8)) (w : World) (e : Ending) (w' : World) : Prop :=
  ∃ v mp', e = .returned (.tuple #[v, .int .i64 0]) ∧ w'.ownsRow w.heap.size 5 1 v (l ++ (Pr.pw plain t l.length ls).2).length (bv (l ++ (Pr.pw plain t l.length ls).2)) ∧ Tb w' g base mp' (Pr.pw plain t l.length ls).1 ∧ Rg g base w w'

/-- between two rounds. -/
def PlI (plain : Bool) (g base : Nat) (t : Tab) (l : List UInt8) (ls : List (List UInt8)) (w : World) (i : Nat) (W : World) : Prop :=
  ∃ mp T, Tb W g base mp T ∧ Pr.Cont plain t l.length ls i T ∧ T.length ≤ t.length + i ∧ Pr.Ahead t T ls i ∧ Rg g base w W
theorem PlI.book {plain : Bool} {g base : Nat} {t : Tab} {l : List UInt8} {ls : List (List UInt8)} {w : World} {B : Nat} (hB : w.heap.size ≤ B) (hg : g < w.heap.size) (hb : base ≤ w.heap.size) : Book B (PlI plain g base t l ls w) := by
  rintro i W W' row ⟨mp, T, h1, h2, h3, h4, h5⟩ hgr hr
  refine ⟨mp, T, h1.grown hgr (fun e => ?_) (fun r e o ho => ?_), h2, h3, h4, h5.grown_new hgr (fun r e => ?_) hb⟩
  · have := (hr g e.symm).1; omega
  · obtain ⟨_, o', ho', hbk⟩ := hr r e
    rw [ho] at ho'
    cases ho'
    cases o <;> simp_all [isBook, isMapO]
  · have := (hr r e).1; omega
theorem book_and {B : Nat} {I J : Nat → World → Prop} (h : Book B I) (k : Book B J) : Book B (fun i W => I i W ∧ J i W) := fun i W W' row hi hg hr => ⟨h i W W' row hi.1 hg hr, k i W W' row hi.2 hg hr⟩
theorem book_has {B b : Nat} {t : TypeId} {cs : Array Value} (hb : b < B) : Book B (fun _ W => Has W b t cs) := fun _ W W' row hi hg hr => hi.grown hg (fun e => by have := (hr b e.symm).1; omega)
theorem book_false {B : Nat} : Book B (fun _ _ => False) := fun _ _ _ _ h _ _ => h

set_option maxRecDepth 100000 in
set_option maxHeartbeats 2000000 in
theorem plain_in (g base : Nat) (mp : Option Nat) (t : Tab) (A : Option Addr) (l : List UInt8) (c : Nat) (s : ByteArray) (ls : List (List UInt8)) (w : World) (hT : Tb w g base mp t) (hbase : base ≤ w.heap.size)
    (hs : Nm.split s.data.toList = some ls) (_hc : l.length ≤ c) (hnil : A = none → c = 0) (hm : l.length ≤ 140737488355000) (hr : Bs w 0 w.heap.size A l) (ht : t.length ≤ 140737488354000) :
    Calls Tryd.prog 28 #[.pointer (some ⟨g, 0, none⟩), .slice A l.length c, .string s] w (PutDone true g base t l ls w) := by
  obtain ⟨hgl, hgd, h255⟩ := Nm.split_some.1 hs
  have hfew := few hs
  have hgw := hT.2.1.lt
  have hsz : s.size = (Nm.glue ls).length := by rw [← hgl]; simp
  have hs255 : s.size ≤ 255 := by rw [hsz, ← hgl]; exact h255
  have HC : ∀ W, Hid (Calls Tryd.prog 49 #[.pointer (some ⟨g, 0, none⟩), .string s] W fun e w' => e = .returned (.int .i64 0) ∧ Below W.heap.size W w') := fun W => by
    have := pcheck_any g s W (by omega)
    rw [hs] at this
    exact this
  refine (callsIn_wide (n := 4)).1 ?_
  refine callsIn_of_wp_marks Tryd.func28 rfl trivial ?_ rfl
  simp only [Tryd.ntmps28, List.size_toArray, List.length_cons, List.length_nil, Nat.reduceAdd, Nat.reduceSub, Array.replicate_succ, Array.replicate_zero, List.push_toArray, List.append_toArray, List.nil_append, List.cons_append]
  have HT := Lib.hid hT
  have HS := Lib.hid hs
  have HR := Lib.hid hr
  have HN := Lib.hid hnil
  have HZ := Lib.hid hsz
  have HG := Lib.hid hgl
  clear hT hs hgl hgd h255 hnil hr hsz
  gi_wp2_with (refine ⟨trivial, ?_⟩; gi_at_call 49; refine (callsIn_wide.2 (HC _).out).mono ?_; rintro e w2 ⟨rfl, hb2⟩)
  gi_wp2_with (refine ⟨trivial, ?_⟩; gi_at_call 50; refine (callsIn_wide.2 (tails_any _ _)).mono ?_; rintro e w3 ⟨rfl, rfl⟩)
  have hbs2 := hb2.size
  simp at hbs2
  have hb02 : Below w.heap.size w w2 := (((Below.refl _ _).alloc (Nat.le_refl _) _).alloc (by simp) _).trans (hb2.mono (by simp; omega))
  have hH3 : Has (w2.alloc (.cells #[.string s] 48)) w.heap.size 56 #[.pointer (some ⟨g, 0, none⟩)] := (((Has.fresh w 56 #[.pointer (some ⟨g, 0, none⟩)]).alloc _).below hb2 (by simp; omega)).alloc _
  have hH4 : Has (w2.alloc (.cells #[.string s] 48)) (w.heap.size + 1) 52 #[.slice A l.length c] := by
    have := Has.fresh (w.alloc (.cells #[.pointer (some ⟨g, 0, none⟩)] 56)) 52 #[.slice A l.length c]
    rw [World.size_alloc] at this
    exact (this.below hb2 (by simp)).alloc _
  have hb03 : Below w.heap.size w (w2.alloc (.cells #[.string s] 48)) := hb02.alloc (by omega) _
  have H3 := Lib.hid hH3
  have H4 := Lib.hid hH4
  have HB3 := Lib.hid hb03
  clear hb2 hH3 hH4 hb02 hb03 HC
  refine wpIn_rangeFunc_N rfl (by omega) (gf := 74) (lb := #[.pointer (some ⟨w2.heap.size, 0, none⟩)]) rfl trivial (enters_of Tryd.func74 (by kernel_rfl) rfl) (lo := w2.heap.size) (by simp)
    (tails_seq 3 (by omega) w2.heap.size w2.heap.size s ls HS.out _ (Has.fresh w2 _ _) (Nat.le_refl _)) (fun _ => rfl)
    (fun i W => PlI true g base t l ls w i W ∧ Has W w.heap.size 56 #[.pointer (some ⟨g, 0, none⟩)] ∧ Has W (w.heap.size + 1) 52 #[.slice A l.length c])
    (fun _ _ _ => False)
    (book_and (PlI.book (by simp; omega) hgw hbase) (book_and (book_has (by simp; omega)) (book_has (by simp; omega))))
    (fun _ => book_false)
    ⟨⟨mp, t, HT.out.below HB3.out, Pr.Cont.zero _ _ _ _, Nat.le_refl _, Pr.Ahead.zero _ _, Rg.of_below HB3.out hbase⟩, H3.out, H4.out⟩
    (fun i => { tmps := #[.pointer (some ⟨g, 0, none⟩), .slice A l.length c, .string s, .pointer (some ⟨w.heap.size, 0, none⟩), .pointer (some ⟨w.heap.size + 1, 0, none⟩), undef, .slice none 0 0, .int .i64 0, .int .i64 0, .int .i64 ((Nm.body (ls.take i)).length : Nat), sv (Nm.glue (ls.drop i)), .pointer (some ⟨g, 0, none⟩), .string s, .int .i64 0, .int .i64 0, .bool false, undef, .string s, .func (.func 74) #[] #[.pointer (some ⟨w2.heap.size, 0, none⟩)], .int .i64 ((Nm.body (ls.take i)).length : Nat), sv (Nm.glue (ls.drop i)), undef, undef, undef, undef, undef, undef, undef, undef, undef, undef, undef, undef], defers := [] }) ?assign ?body ?done ?stop
  case assign =>
    intro l2 i W K hK
    unfold tailV
    gi_wp2
    exact hK
  case body =>
    rintro l2 i W ⟨⟨mp2, T, hT2, hC2, hl2, hA2, hR2⟩, hh3, hh4⟩ hi
    have hsz2 := hR2.below.size
    have hbt : (Nm.body (ls.take i)).length ≤ 255 := by
      have h1 := Nm.body_take_le (ls := ls) (i := i)
      have h2 := HZ.out
      rw [Nm.glue_length] at h2
      omega
    have hgd : (Nm.glue (ls.drop i)).length ≤ 255 := by
      have h1 := glue_at ls i
      have h2 := congrArg List.length h1
      rw [List.length_drop] at h2
      have h3 := HZ.out
      omega
    have hrem := remember_any g base mp2 T ⟨(Nm.glue (ls.drop i)).toArray⟩ (l.length + (Nm.body (ls.take i)).length) W hT2 (by omega) (by rw [mk_size]; omega) (by omega) (by omega)
    rw [Int.natCast_add] at hrem
    have HREM := Lib.hid hrem
    have hc3 : W.cell? ⟨w.heap.size, 0, none⟩ = some (.pointer (some ⟨g, 0, none⟩)) := by rw [hh3.cell]; rfl
    have hc4 : W.cell? ⟨w.heap.size + 1, 0, none⟩ = some (.slice A l.length c) := by rw [hh4.cell]; rfl
    have HH3 := Lib.hid hh3
    have HH4 := Lib.hid hh4
    have HT2 := Lib.hid hT2
    have HC2 := Lib.hid (hC2.step hi (fun h => by cases h.2))
    have HA2 := Lib.hid (hA2.step (p := l.length + (Nm.body (ls.take i)).length) hi)
    have HR2 := Lib.hid hR2
    clear hrem hh3 hh4 hT2 hC2 hA2 hR2
    dsimp only
    gi_wp2_with (refine ⟨trivial, ?_⟩; gi_at_call 51; refine (CallsIn.inRound l2 (callsIn_wide.2 HREM.out)).mono ?_; rintro e w5 ⟨rfl, mp5, hT5, hR5⟩)
    have hlen := Pr.rem_len T (Nm.glue (ls.drop i)) (l.length + (Nm.body (ls.take i)).length)
    exact ⟨hR5.keeps (by omega), ⟨mp5, _, hT5, HC2.out, by omega, HA2.out, HR2.out.trans hR5⟩, hR5.has HH3.out (by omega), hR5.has HH4.out (by omega)⟩
  case done =>
    rintro D W hD ⟨⟨mp2, T, hT2, hC2, hl2, hA2, hR2⟩, hh3, hh4⟩ hK
    have hc4 : W.cell? ⟨w.heap.size + 1, 0, none⟩ = some (.slice A l.length c) := by rw [hh4.cell]; rfl
    have hsz2 := hR2.below.size
    have hDl := (Array.getElem?_eq_some_iff.1 hK).1
    have HK := Lib.hid hK
    have HT2 := Lib.hid hT2
    have HP := Lib.hid hC2.done
    have HR2 := Lib.hid hR2
    have HB := Lib.hid ((hR2.bs HT.out HR.out).more (Nat.le_refl _) hsz2)
    clear hK hT2 hC2 hA2 hR2 hh3 hh4
    dsimp only
    gi_wp2_with (refine wpListIn_bytes rfl 48 52 (.tmp 29) rfl 5 Tryd.underlying48 Tryd.underlying52 Tryd.underlying5 s rfl ?_; intro cap w6 hb6 hcap6 hbl6 hsz6)
    have hF := Has.fresh w6 52 #[.slice A l.length c, .slice (some ⟨W.heap.size, 0, none⟩) s.size cap]
    rw [hsz6] at hF
    have hsl : s.size = s.data.toList.length := by simp
    have hbl7 : Below W.heap.size W (w6.alloc (.cells #[.slice A l.length c, .slice (some ⟨W.heap.size, 0, none⟩) s.size cap] 52)) := hbl6.alloc (by omega) _
    have hcat := concat2 (W.heap.size + 1) A (some ⟨W.heap.size, 0, none⟩) c cap l.length s.size l s.data.toList (w6.alloc (.cells #[.slice A l.length c, .slice (some ⟨W.heap.size, 0, none⟩) s.size cap] 52))
      (by simp; omega) (by rw [hF.cell]; rfl) (by rw [hF.cell]; rfl) rfl hsl ((HB.out.keep hbl7).more (Nat.le_refl _) (by simp; omega)) ((hb6.alloc (by omega) _).more (Nat.zero_le _) (by simp; omega)) HN.out (fun e => by cases e) (by rw [List.length_append, ← hsl]; omega)
    have HCAT := Lib.hid hcat
    have HB7 := Lib.hid hbl7
    clear hb6 hF hcat hsl hbl6 hbl7
    gi_wp2_with (refine ⟨trivial, ?_⟩; gi_at_call 26; refine (callsIn_wide.2 HCAT.out).mono ?_; rintro e w8 ⟨v8, rfl, hO8, hB8⟩)
    have hsz8 := hB8.size
    simp only [World.size_alloc] at hsz8
    have hB08 : Below W.heap.size W w8 := HB7.out.trans (hB8.mono (by simp; omega))
    have hK8 : w8.heap[D]? = some (.deferred (some [])) := (hB08.block D hDl).trans HK.out
    refine ⟨by simp, .inl ⟨_, _, rfl, run_takeDeferred hK8, ?_⟩⟩
    refine ⟨_, results_tmp2 rfl _ _ _, v8, mp2, rfl, ?_, ?_, ?_⟩
    · rw [HP.out]
      rw [← HG.out]
      exact own_mono (ownsRow_putObj hO8 _ hK8 rfl) (by simp; omega)
    · rw [HP.out]
      refine (HT2.out.below hB08).grown (grownBy_putObj' w8 D _) (fun e => ?_) (fun r e o ho => ?_)
      · simp at hD; injection e with e; omega
      · cases e; rw [hK8] at ho; cases ho; rfl
    · refine (HR2.out.more hB08 hbase).grown_new (grownBy_putObj' w8 D _) (fun r e => ?_) hbase
      cases e
      simp at hD; omega
  case stop =>
    rintro D c2 i W _ h _
    exact h.elim
end Go.Proofs.YtpinhpnmnfcdoaaDoor
/- A region that draws its order, within a round of a range over a function: what yields in every world that meets a condition is taken first. Nothing of the program. -/
namespace Go.Proofs.YtpinhpnmnfcdoaaDoor
open Go.RowKit

section
variable {F : Fence} {n : Nat} {P : Program} {ops : Array Oper} {Q : Exit → Act → World → Prop} {md : Region.Mode} {S : World → Prop}

def isDefer (o : Oper) : Bool := match o.op with | .defer _ => true | _ => false
theorem plain_of {o : Oper} (h : isDefer o = false) : ∀ c, o.op ≠ .defer c := fun c e => by simp [isDefer, e] at h

/-- in every world that meets S it leaves v, and nothing else; and it is about to make no call. -/
def YieldsS (P : Program) (ops : Array Oper) (S : World → Prop) (o : Oper) (v : Value) (a : Act) : Prop := YieldsIf P ops S o v a ∧ (isDefer o = false) ∧ ∀ w, o.about P w a.eval = none

theorem YieldsS.of_same {o : Oper} {v : Value} {a a' : Act} (hy : YieldsS P ops S o v a) (he : execOp a'.eval o = execOp a.eval o)
    (hw : Region.wanted o (yielded ops a'.tmps) = Region.wanted o (yielded ops a.tmps)) (hb : ∀ w, o.about P w a'.eval = o.about P w a.eval) : YieldsS P ops S o v a' :=
  ⟨hy.1.of_same he hw, hy.2.1, fun w => by rw [hb w]; exact hy.2.2 w⟩
theorem YieldsS.wpOpIn {i : Nat} {o : Oper} {v : Value} {a : Act} (hi : ops[i]? = some o) (hy : YieldsS P ops S o v a)
    {K : Act → World → Prop} {w : World} (hS : S w) (h : K (a.put o.dst v) w) : wpOpIn F n P ops Q i K a w := by
  unfold Go.wpOpIn
  simp only [hi]
  have hab : ∀ f, o.about P w a.eval = some f → F.fn f := fun f hf => by rw [hy.2.2 w] at hf; cases hf
  rcases hy.1 with ⟨hw, hv⟩ | ⟨hw, rfl⟩
  · simp only [hw, if_true, Oper.wpIn, Oper.semAt_plain F _ _ (plain_of hy.2.1), hv w hS, Oper.uponIn]; exact ⟨hab, h⟩
  · simp only [hw, Bool.false_eq_true, if_false]; exact ⟨hab, h⟩

theorem wpOpIn_putS {j : Nat} {oi oj : Oper} {v : Value} (hj : ops[j]? = some oj) (hdj : isDefer oj = false) (hap : oi.apart ops oj = true)
    (hsi : ∀ cs b, oi.op ≠ .select cs b) (hsj : ∀ cs b, oj.op ≠ .select cs b)
    (hQ : ∀ c a w, Q (.panic c) (a.put oi.dst v) w → Q (.panic c) a w) {K : Act → World → Prop} {a : Act} {w : World}
    (hy : YieldsS P ops S oi v a) (h : wpOpIn F n P ops Q j K (a.put oi.dst v) w) :
    wpOpIn F n P ops Q j (fun a' w' => YieldsS P ops S oi v a' ∧ K (a'.put oi.dst v) w') a w := by
  obtain ⟨h1, h2, h3⟩ := Oper.apart_spec hap
  have keep : ∀ (a : Act), YieldsS P ops S oi v a → ∀ u, YieldsS P ops S oi v (a.put oj.dst u) := fun a hy u =>
    hy.of_same (execOp_put oi hsi a oj.dst u h3) (wanted_put oi a oj.dst u h3) (fun w => about_put oi w a oj.dst u h3)
  have keepD : ∀ d, YieldsS P ops S oi v { a with defers := d :: a.defers } := fun d => hy.of_same rfl rfl (fun _ => rfl)
  unfold wpOpIn at *
  simp only [hj] at *
  rw [wanted_put oj a oi.dst v h1, about_put oj w a oi.dst v h1] at h
  split
  · rename_i hw
    simp only [hw, if_true] at h
    unfold Oper.wpIn at *
    rw [about_put oj w a oi.dst v h1] at h
    refine ⟨h.1, ?_⟩
    have h := h.2
    rw [Oper.semAt_plain F _ _ (plain_of hdj), execOp_put oj hsj a oi.dst v h1] at h
    rw [Oper.semAt_plain F _ _ (plain_of hdj)]
    generalize (execOp a.eval oj).run P w = r at *
    cases r with
    | ok x w' =>
      cases x <;> simp only [Oper.uponIn] at h ⊢
      case value u => exact ⟨keep a hy u, by rw [← Act.put_comm a v u h2]; exact h⟩
      case skip => exact ⟨keep a hy _, by rw [← Act.put_comm a v undef h2]; exact h⟩
      case defer d =>
        refine ⟨keep _ (keepD d) _, ?_⟩
        rw [← Act.put_comm _ v undef h2, ← Act.put_defers]
        exact h
      case enter f args =>
        refine ⟨h.1, CallsIn.mono h.2 fun e w'' he => ?_⟩
        cases e with
        | returned u => exact ⟨keep a hy u, by rw [← Act.put_comm a v u h2]; exact he⟩
        | panicked c => exact hQ _ _ _ he
        | outgrown => exact he
      case row row args => exact ⟨h.1, RowsIn.mono h.2 fun u w'' he => ⟨keep a hy u, by rw [← Act.put_comm a v u h2]; exact he⟩⟩
      case round l f tmps assign body =>
        refine ⟨h.1, RoundIn.mono h.2 fun e w'' he => ?_⟩
        cases e with
        | returned u => exact ⟨keep a hy u, by rw [← Act.put_comm a v u h2]; exact he⟩
        | panicked c => exact hQ _ _ _ he
        | outgrown => exact he
    | halt x w' =>
      cases x <;> simp only [Oper.uponIn] at h ⊢
      case panic u => exact hQ _ _ _ h
  · rename_i hw
    simp only [hw] at h
    exact ⟨h.1, keep a hy _, by rw [← Act.put_comm a v undef h2]; exact h.2⟩

/-- whatever order is picked from here on, and S holds behind every operation that is carried out. -/
def wpAnyS (F : Fence) (n : Nat) (P : Program) (md : Region.Mode) (ops : Array Oper) (Q : Exit → Act → World → Prop) (S : World → Prop) : Nat → Array Bool → Act → World → Prop
  | 0, listed, a, w => Region.ready md ops listed = [] ∧ Q .normal a w
  | fuel + 1, listed, a, w =>
    (Region.ready md ops listed = [] → Q .normal a w) ∧
    ∀ i ∈ Region.ready md ops listed, wpOpIn F n P ops Q i (fun a' w' => S w' ∧ wpAnyS F n P md ops Q S fuel (listed.setIfInBounds i true) a' w') a w
theorem wpAnyIn_of_S : ∀ (fuel : Nat) (listed : Array Bool) (a : Act) (w : World), wpAnyS F n P md ops Q S fuel listed a w → wpAnyIn F n P md ops Q fuel listed a w
  | 0, _, _, _, h => h
  | fuel + 1, _, _, _, h => ⟨h.1, fun i hi => wpOpIn_mono (fun a' w' h' => wpAnyIn_of_S fuel _ a' w' h'.2) (h.2 i hi)⟩
theorem wpAnyS_first {i : Nat} {oi : Oper} {v : Value} (hi : ops[i]? = some oi) (hsel : ∀ (j : Nat) (o : Oper) cs b, ops[j]? = some o → o.op ≠ .select cs b) (hdf : ∀ (j : Nat) (o : Oper), ops[j]? = some o → isDefer o = false)
    (hQ : ∀ c a w, Q (.panic c) (a.put oi.dst v) w → Q (.panic c) a w) :
    ∀ (fuel : Nat) (listed : Array Bool) (a : Act) (w : World),
      (∀ j oj, ops[j]? = some oj → j ≠ i → listed.getD j true = false → (∀ e ∈ oj.after, Region.binds md e = true → e.on ≠ i) → oi.apart ops oj = true) →
      i ∈ Region.ready md ops listed → YieldsS P ops S oi v a → S w →
      wpAnyS F n P md ops Q S fuel (listed.setIfInBounds i true) (a.put oi.dst v) w → wpAnyS F n P md ops Q S (fuel + 1) listed a w := by
  intro fuel
  induction fuel with
  | zero =>
    intro listed a w _ hr hy hS H
    refine ⟨fun h => (by rw [h] at hr; cases hr), fun j hj => ?_⟩
    by_cases hji : j = i
    · subst hji; exact hy.wpOpIn hi hS ⟨hS, H⟩
    · have := ready_mono hj hji
      rw [H.1] at this
      cases this
  | succ fuel ih =>
    intro listed a w hfree hr hy hS H
    refine ⟨fun h => (by rw [h] at hr; cases hr), fun j hj => ?_⟩
    by_cases hji : j = i
    · subst hji; exact hy.wpOpIn hi hS ⟨hS, H⟩
    · have h1 := H.2 j (ready_mono hj hji)
      obtain ⟨hjun, oj, hoj, hall⟩ := mem_ready.1 hj
      have hnot : ∀ e ∈ oj.after, Region.binds md e = true → e.on ≠ i := fun e he hb heq => by
        have h1 := hall e he hb
        have h0 := (mem_ready.1 hr).1
        rw [heq] at h1
        rcases Nat.lt_or_ge i listed.size with h' | h'
        · simp [h'] at h0 h1; rw [h0] at h1; cases h1
        · simp [Array.getElem?_eq_none h'] at h1
      have h2 := wpOpIn_putS hoj (hdf j oj hoj) (hfree j oj hoj hji hjun hnot) (fun cs b => hsel i oi cs b hi) (fun cs b => hsel j oj cs b hoj) hQ hy h1
      have hfree' : ∀ k ok, ops[k]? = some ok → k ≠ i → (listed.setIfInBounds j true).getD k true = false →
          (∀ e ∈ ok.after, Region.binds md e = true → e.on ≠ i) → oi.apart ops ok = true := fun k ok hk hki hun hno => by
        refine hfree k ok hk hki ?_ hno
        by_cases hjk : j = k
        · subst hjk; exact hjun
        · rw [getD_set_ne true hjk] at hun; exact hun
      refine wpOpIn_mono (fun a' w' h3 => ⟨h3.2.1, ih (listed.setIfInBounds j true) a' w' hfree' (ready_mono hr (Ne.symm hji)) h3.1 h3.2.1 ?_⟩) h2
      rw [Array.setIfInBounds_comm _ _ hji]
      exact h3.2.2
def noDefer (ops : Array Oper) : Bool := ops.all fun o => !isDefer o
theorem noDefer_spec (h : noDefer ops = true) (j : Nat) (o : Oper) (ho : ops[j]? = some o) : isDefer o = false := by
  unfold noDefer at h
  rw [Array.all_eq_true_iff_forall_mem] at h
  have := h o (Array.mem_of_getElem? ho)
  simpa using this
theorem wpAnyS_take {i : Nat} {oi : Oper} {v : Value} {fuel : Nat} {listed : Array Bool} {a : Act} {w : World} (hi : ops[i]? = some oi)
    (hs : Region.noSelect ops = true) (hd : noDefer ops = true) (hf : Region.free md ops listed i = true) (hr : (Region.ready md ops listed).contains i = true)
    (hQ : ∀ c a w, Q (.panic c) (a.put oi.dst v) w → Q (.panic c) a w) (hy : YieldsS P ops S oi v a) (hS : S w)
    (h : wpAnyS F n P md ops Q S fuel (listed.setIfInBounds i true) (a.put oi.dst v) w) : wpAnyS F n P md ops Q S (fuel + 1) listed a w :=
  wpAnyS_first hi (Region.noSelect_spec hs) (noDefer_spec hd) hQ fuel listed a w (Region.free_spec hi hf) (by simpa using hr) hy hS h
/-- each of these comes up next; behind it S holds, and the rest goes in whatever order. -/
def AllS (F : Fence) (n : Nat) (P : Program) (md : Region.Mode) (ops : Array Oper) (Q : Exit → Act → World → Prop) (S : World → Prop) (fuel : Nat) (listed : Array Bool) (a : Act) (w : World) (rs : List Nat) : Prop :=
  ∀ i ∈ rs, wpOpIn F n P ops Q i (fun a' w' => S w' ∧ wpAnyS F n P md ops Q S fuel (listed.setIfInBounds i true) a' w') a w
theorem AllS.nil {fuel : Nat} {listed : Array Bool} {a : Act} {w : World} : AllS F n P md ops Q S fuel listed a w [] := fun _ h => by cases h
theorem AllS.cons {fuel : Nat} {listed : Array Bool} {a : Act} {w : World} {i : Nat} {o : Oper} {rs : List Nat} (ho : ops[i]? = some o) (hg : o.guard = none)
    (h : ∀ K' : Act → World → Prop, (∀ a w, S w → wpAnyS F n P md ops Q S fuel (listed.setIfInBounds i true) a w → K' a w) → Oper.wpIn F n P o a w K' Q)
    (hs : AllS F n P md ops Q S fuel listed a w rs) : AllS F n P md ops Q S fuel listed a w (i :: rs) := fun j hj => by
  rcases List.mem_cons.1 hj with rfl | hj
  · exact wpOpIn_step ho (fun K' hK => by simp only [Region.wanted, hg, if_true]; exact h K' (fun a w hS hW => hK a w ⟨hS, hW⟩))
  · exact hs j hj
theorem wpAnyS_ready {rs : List Nat} {fuel : Nat} {listed : Array Bool} {a : Act} {w : World} (hr : Region.ready md ops listed = rs) (hne : rs ≠ [])
    (h : AllS F n P md ops Q S fuel listed a w rs) : wpAnyS F n P md ops Q S (fuel + 1) listed a w := ⟨fun h0 => absurd (hr ▸ h0) hne, hr ▸ h⟩
theorem wpAnyS_done {listed : Array Bool} {a : Act} {w : World} (hr : Region.ready md ops listed = []) (h : Q .normal a w) : ∀ fuel, wpAnyS F n P md ops Q S fuel listed a w
  | 0 => ⟨hr, h⟩
  | _ + 1 => ⟨fun _ => h, by rw [hr]; simp⟩
theorem wpIn_region_S {id : Nat} {a : Act} {w : World} (hm : P.follows .mixedOrders = true)
    (h : wpAnyS F n P .any ops Q S ops.size (Array.replicate ops.size false) a w.drew) : (Code.region id ops true).wpIn F n P Q a w :=
  wpIn_region_any hm (wpAnyIn_of_S _ _ _ _ h)
theorem wpIn_region_S2 {id : Nat} {a : Act} {w : World} (hm : P.follows .mixedOrders = true) (m : Nat) (L : Array Bool) (hs : ops.size = m) (hL : Array.replicate m false = L)
    (h : wpAnyS F n P .any ops Q S m L a w.drew) : (Code.region id ops true).wpIn F n P Q a w :=
  wpIn_region_S hm (by rw [hs, hL]; exact h)
end
end Go.Proofs.YtpinhpnmnfcdoaaDoor
/- Put: a name written by a pointer where it can be. -/
namespace Go.Proofs.YtpinhpnmnfcdoaaDoor
open Go.RowKit Go.Shelf
attribute [local go_sem] Oper.semAt_some

theorem or16 (p : Nat) (hp : p ≤ 16383) : bits .or .u16 49152 (p : Int) = ((49152 + p : Nat) : Int) := by
  have ofn : ∀ n : Nat, BitVec.ofInt 16 (n : Int) = BitVec.ofNat 16 n := fun n => by
    apply BitVec.eq_of_toNat_eq
    simp
  unfold bits
  show IntKind.u16.wrap (((BitVec.ofInt 16 ((49152 : Nat) : Int)) ||| (BitVec.ofInt 16 (p : Int))).toNat : Int) = _
  rw [ofn, ofn, BitVec.toNat_or, BitVec.toNat_ofNat, BitVec.toNat_ofNat, Nat.mod_eq_of_lt (by omega), Nat.mod_eq_of_lt (by omega)]
  have h := Nat.shiftLeft_add_eq_or_of_lt (i := 14) (b := p) (by omega) 3
  rw [Nat.shiftLeft_eq] at h
  have h2 : 49152 ||| p = 49152 + p := h.symm
  rw [h2, IntKind.wrap_u16]
  omega

theorem put_results {w : World} {tmps : Array Value} {b3 b4 : Nat} {A : Option Addr} {n c : Nat} {e : Int} (h6 : tmps[6]? = some (.pointer (some ⟨b3, 0, none⟩))) (h7 : tmps[7]? = some (.pointer (some ⟨b4, 0, none⟩)))
    (c6 : w.cell? ⟨b3, 0, none⟩ = some (.slice A n c)) (c7 : w.cell? ⟨b4, 0, none⟩ = some (.int .i64 e)) : (results Tryd.f27 tmps).run Tryd.prog w = .ok (.tuple #[.slice A n c, .int .i64 e]) w := by
  simp [results, Tryd.results27, go_sem, h6, h7, c6, c7]

/-- the world behind the boxes. -/
abbrev PutW (w : World) (p : Option Addr) (A : Option Addr) (n c : Nat) (s : ByteArray) (e : Int) : World :=
  (((((w.alloc (.cells #[.pointer p] 56)).alloc (.cells #[.slice A n c] 52)).alloc (.cells #[.string s] 48)).alloc (.cells #[.slice none 0 0] 52)).alloc (.cells #[.int .i64 e] 53))
theorem putW_below (w : World) (p : Option Addr) (A : Option Addr) (n c : Nat) (s : ByteArray) (e : Int) : Below w.heap.size w (PutW w p A n c s e) :=
  (((((Below.refl _ _).alloc (Nat.le_refl _) _).alloc (by simp) _).alloc (by simp; omega) _).alloc (by simp; omega) _).alloc (by simp; omega) _
theorem putW_size (w : World) (p : Option Addr) (A : Option Addr) (n c : Nat) (s : ByteArray) (e : Int) : (PutW w p A n c s e).heap.size = w.heap.size + 5 := by simp
/-- Put's own variables, in their boxes. -/
structure Boxes (W : World) (b : Nat) (p A : Option Addr) (n c : Nat) (s : ByteArray) (v : Value) (e : Int) : Prop where
  b0 : Has W b 56 #[.pointer p]
  b1 : Has W (b + 1) 52 #[.slice A n c]
  b2 : Has W (b + 1 + 1) 48 #[.string s]
  b3 : Has W (b + 1 + 1 + 1) 52 #[v]
  b4 : Has W (b + 1 + 1 + 1 + 1) 53 #[.int .i64 e]
theorem has_at {W : World} {b b' : Nat} {t : TypeId} {cs : Array Value} (h : Has W b t cs) (e : b = b') : Has W b' t cs := e ▸ h
section
variable {W W' : World} {b : Nat} {p A : Option Addr} {n c : Nat} {s : ByteArray} {v : Value} {e : Int}
theorem Boxes.new (w : World) : Boxes (PutW w p A n c s e) w.heap.size p A n c s (.slice none 0 0) e :=
  ⟨((((Has.fresh w _ _).alloc _).alloc _).alloc _).alloc _, (((has_at (Has.fresh _ _ _) (by simp)).alloc _).alloc _).alloc _, ((has_at (Has.fresh _ _ _) (by simp)).alloc _).alloc _, (has_at (Has.fresh _ _ _) (by simp)).alloc _, has_at (Has.fresh _ _ _) (by simp)⟩
theorem Boxes.below (h : Boxes W b p A n c s v e) {B : Nat} (hb : Below B W W') (hB : b + 5 ≤ B) : Boxes W' b p A n c s v e :=
  ⟨h.b0.below hb (by omega), h.b1.below hb (by omega), h.b2.below hb (by omega), h.b3.below hb (by omega), h.b4.below hb (by omega)⟩
theorem Boxes.alloc (h : Boxes W b p A n c s v e) (o : Obj) : Boxes (W.alloc o) b p A n c s v e := ⟨h.b0.alloc _, h.b1.alloc _, h.b2.alloc _, h.b3.alloc _, h.b4.alloc _⟩
theorem Boxes.rg (h : Boxes W b p A n c s v e) {g base : Nat} (hr : Rg g base W W') (hg : g < b) : Boxes W' b p A n c s v e :=
  ⟨hr.has h.b0 (by omega), hr.has h.b1 (by omega), hr.has h.b2 (by omega), hr.has h.b3 (by omega), hr.has h.b4 (by omega)⟩
theorem Boxes.grown (h : Boxes W b p A n c s v e) {row : Option Nat} (hg : W.grownBy W' row) (hr : ∀ r, row = some r → b + 5 ≤ r) : Boxes W' b p A n c s v e :=
  ⟨h.b0.grown hg (fun e => by have := hr _ e.symm; omega), h.b1.grown hg (fun e => by have := hr _ e.symm; omega), h.b2.grown hg (fun e => by have := hr _ e.symm; omega), h.b3.grown hg (fun e => by have := hr _ e.symm; omega), h.b4.grown hg (fun e => by have := hr _ e.symm; omega)⟩
theorem Boxes.set (h : Boxes W b p A n c s v e) (v' : Value) (e' : Int) : Boxes ((W.setCell ⟨b + 1 + 1 + 1, 0, none⟩ v').setCell ⟨b + 1 + 1 + 1 + 1, 0, none⟩ (.int .i64 e')) b p A n c s v' e' :=
  ⟨(h.b0.far (by simp <;> omega) _).far (by simp <;> omega) _, (h.b1.far (by simp <;> omega) _).far (by simp <;> omega) _, (h.b2.far (by simp <;> omega) _).far (by simp <;> omega) _, (h.b3.set 0 v').far (by simp) _, (h.b4.far (by simp) _).set 0 _⟩
theorem Boxes.facts (h : Boxes W b p A n c s v e) : W.cell? ⟨b, 0, none⟩ = some (.pointer p) ∧ W.cell? ⟨b + 1, 0, none⟩ = some (.slice A n c) ∧ W.cell? ⟨b + 1 + 1, 0, none⟩ = some (.string s) ∧ W.cell? ⟨b + 1 + 1 + 1, 0, none⟩ = some v ∧ W.cell? ⟨b + 1 + 1 + 1 + 1, 0, none⟩ = some (.int .i64 e) ∧
    W.frozen? ⟨b + 1 + 1 + 1, 0, none⟩ = false ∧ W.frozen? ⟨b + 1 + 1 + 1 + 1, 0, none⟩ = false ∧ ∀ v', (W.setCell ⟨b + 1 + 1 + 1, 0, none⟩ v').cell? ⟨b + 1 + 1 + 1 + 1, 0, none⟩ = some (.int .i64 e) :=
  ⟨by rw [h.b0.cell]; rfl, by rw [h.b1.cell]; rfl, by rw [h.b2.cell]; rfl, by rw [h.b3.cell]; rfl, by rw [h.b4.cell]; rfl, h.b3.free 0, h.b4.free 0, fun v' => by rw [(h.b4.far (p := ⟨b + 1 + 1 + 1, 0, none⟩) (by simp) v').cell]; rfl⟩
end
theorem put_nil (A : Option Addr) (n c : Nat) (s : ByteArray) (w : World) :
    Calls Tryd.prog 27 #[.pointer none, .slice A n c, .string s] w fun e w' => e = .returned (.tuple #[.slice none 0 0, .int .i64 8]) ∧ Below w.heap.size w w' := by
  have H := Lib.hid (pcheck_nil s (PutW w none A n c s 0))
  go_enter Tryd.func27, Tryd.ntmps27
  go_wp2_with (go_at_call 49; refine H.out.mono ?_; rintro e w' ⟨rfl, rfl⟩)
  refine bodyPost_ret (put_results (b3 := w.heap.size + 1 + 1 + 1) (b4 := w.heap.size + 1 + 1 + 1 + 1) rfl rfl (Boxes.new (p := none) (A := A) (n := n) (c := c) (s := s) (e := 8) w).facts.2.2.2.1 (Boxes.new (p := none) (A := A) (n := n) (c := c) (s := s) (e := 8) w).facts.2.2.2.2.1) rfl ⟨rfl, putW_below w none A n c s 8⟩
theorem put_no (g : Nat) (A : Option Addr) (n c : Nat) (s : ByteArray) (w : World) (hs : s.size ≤ 140737488355328) (hn : Nm.split s.data.toList = none) :
    Calls Tryd.prog 27 #[.pointer (some ⟨g, 0, none⟩), .slice A n c, .string s] w fun e w' => e = .returned (.tuple #[.slice none 0 0, .int .i64 11]) ∧ Below w.heap.size w w' := by
  have HC : Hid (Calls Tryd.prog 49 #[.pointer (some ⟨g, 0, none⟩), .string s] (PutW w (some ⟨g, 0, none⟩) A n c s 0) fun e w' => e = .returned (.int .i64 11) ∧ Below (w.heap.size + 5) (PutW w (some ⟨g, 0, none⟩) A n c s 0) w') := by
    have := pcheck_any g s (PutW w (some ⟨g, 0, none⟩) A n c s 0) hs
    rw [hn, putW_size] at this
    exact this
  clear hn
  go_enter Tryd.func27, Tryd.ntmps27
  go_wp2_with (go_at_call 49; refine HC.out.mono ?_; rintro e w1 ⟨rfl, hb1⟩; have hbx := Boxes.below (Boxes.new (p := some ⟨g, 0, none⟩) (A := A) (n := n) (c := c) (s := s) (e := 0) w) hb1 (Nat.le_refl _); obtain ⟨k0, k1, k2, k3, k4, z3, z4, k5⟩ := hbx.facts)
  refine bodyPost_ret (put_results (b3 := w.heap.size + 1 + 1 + 1) (b4 := w.heap.size + 1 + 1 + 1 + 1) rfl rfl (hbx.set _ _).facts.2.2.2.1 (hbx.set _ _).facts.2.2.2.2.1) rfl ⟨rfl, ?_⟩
  exact (((putW_below w (some ⟨g, 0, none⟩) A n c s 0).trans (hb1.mono (by omega))).setCell (by simp; omega) _).setCell (by simp; omega) _
end Go.Proofs.YtpinhpnmnfcdoaaDoor
