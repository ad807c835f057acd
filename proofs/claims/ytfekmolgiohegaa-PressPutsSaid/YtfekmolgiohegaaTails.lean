/- A name gone through label by label, by a range over a function. -/
import Derived.Test.YtfekmolgiohegaaPrPut
import Derived.Test.YtfekmolgiohegaaLabels
import Derived.Test.YtfekmolgiohegaaRangeF
namespace Go.Proofs.Ytfekmolgiohegaa
open Go.RowKit Go.Shelf
attribute [local go_sem] Oper.semAt_some

/-- what is told in round i. -/
def tailV (ls : List (List UInt8)) (i : Nat) : Array Value := #[.int .i64 ((Nm.body (ls.take i)).length : Nat), sv (Nm.glue (ls.drop i))]
theorem glue_at (ls : List (List UInt8)) (i : Nat) : (Nm.glue ls).drop (Nm.body (ls.take i)).length = Nm.glue (ls.drop i) := by
  have e : Nm.glue ls = Nm.body (ls.take i) ++ Nm.glue (ls.drop i) := by
    unfold Nm.glue
    rw [← List.append_assoc, ← Nm.body_append, List.take_append_drop]
  rw [e, List.drop_left]
theorem tail_cut {s : ByteArray} {ls : List (List UInt8)} (h : s.data.toList = Nm.glue ls) (i : Nat) : sv (Nm.glue (ls.drop i)) = .string (s.extract (Nm.body (ls.take i)).length s.size) := by
  have hl : s.size = (Nm.glue ls).length := by rw [← h]; simp
  rw [string_eq (s := s.extract (Nm.body (ls.take i)).length s.size) (l := Nm.glue (ls.drop i))]
  rw [extract_list, h, glue_at, hl]
  rw [List.take_of_length_le]
  have := glue_at ls i
  rw [← this, List.length_drop]; omega

set_option maxHeartbeats 400000 in
theorem tails_any (s : ByteArray) (w : World) :
    Calls Try.prog 22 #[.string s] w fun e w' => e = .returned (.func (.func 31) #[] #[.pointer (some ⟨w.heap.size, 0, none⟩)]) ∧ w' = w.alloc (.cells #[.string s] 32) := by
  go_enter Try.func22, Try.ntmps22
  go_wp2
  go_ret
  exact ⟨rfl, rfl⟩

set_option maxRecDepth 100000 in
set_option maxHeartbeats 1000000 in
theorem tails1_in (n : Nat) (hn : 1 ≤ n) (l bx lo : Nat) (s : ByteArray) (ls : List (List UInt8)) (hs : Nm.split s.data.toList = some ls) (J Jx : Nat → World → Prop)
    (hJ : ∀ i A B, J i A → Below A.heap.size A B → J i B)
    (hY : ∀ i W1, J i W1 → i < ls.length → YieldAt Fence.wide (n - 1) Try.prog l (tailV ls i) W1 fun e W' =>
      (e = .returned (.bool true) ∧ J (i + 1) W' ∧ Keeps lo W1 W') ∨ (e = .returned (.bool false) ∧ Jx (i + 1) W'))
    (W : World) (hB : Has W bx 32 #[.string s]) (hlo : lo ≤ bx) (h0 : J 0 W) :
    CallsIn Fence.wide n Try.prog 31 #[.func (.yield l) #[] #[], .pointer (some ⟨bx, 0, none⟩)] W fun e W' => (∃ v, e = .returned v) ∧ (J ls.length W' ∨ ∃ i, Jx i W') := by
  obtain ⟨hgl, hg, h255⟩ := Nm.split_some.1 hs
  have hsz : s.size = (Nm.glue ls).length := by rw [← hgl]; simp
  have hbl := Nm.glue_length ls
  have hs255 : s.size ≤ 255 := by rw [hsz, ← hgl]; exact h255
  have hfew := few hs
  have hlab := Labels_any s W (by omega)
  unfold labelsOf at hlab
  rw [hs, Option.getD_some] at hlab
  have hcB : W.cell? ⟨bx, 0, none⟩ = some (.string s) := by rw [hB.cell]; rfl
  have hbx := hB.lt
  have HL := Lib.hid hlab
  have HG := Lib.hid hgl
  have HSZ := Lib.hid hsz
  have HGL := Lib.hid hbl
  have HH := Lib.hid hB
  clear hlab hgl hs hg h255 hsz hbl hB
  refine callsIn_of_wp Try.func31 rfl trivial ?_ rfl
  simp only [Try.ntmps31, List.size_toArray, List.length_cons, List.length_nil, Nat.reduceAdd, Nat.reduceSub, Array.replicate_succ, Array.replicate_zero, List.push_toArray, List.append_toArray, List.nil_append, List.cons_append]
  gi_wp2_with (refine ⟨trivial, ?_⟩; gi_at_call 32; refine (callsIn_wide.2 HL.out).mono ?_; rintro e w2 ⟨v2, rfl, O2, B2⟩; obtain ⟨A2, c2, rfl⟩ := own_form O2)
  have HO := Lib.hid O2
  have HB2 := Lib.hid B2
  have hb2 := B2.size
  have hJ2 := hJ 0 W w2 h0 B2
  have HJ2 := Lib.hid hJ2
  have HH2 := Lib.hid (HH.out.below B2 hbx)
  clear O2 B2 hJ2 h0
  gi_loopw [3, 9] (fun a i wr => ∃ k : Nat, k ≤ ls.length ∧ i = .int .i64 k ∧ a = .int .i64 ((Nm.body (ls.take k)).length : Nat) ∧ J k wr ∧ Keeps lo w2 wr) (fun _ i _ => ls.length - (intOf i).toNat)
  case atStart => exact ⟨0, Nat.zero_le _, rfl, rfl, HJ2.out, Keeps.refl _ _⟩
  case round =>
    obtain ⟨k, hk, rfl, rfl, hJs, hkp⟩ := hrel
    have HK := Lib.hid hkp
    have HJS := Lib.hid hJs
    clear hkp hJs
    by_cases hlt : k < ls.length
    · obtain ⟨gL, rfl, hcap, hcell⟩ := own_at HO.out hlt
      obtain ⟨gx, hgx, hg1⟩ : ∃ g, (some (⟨gL, 0, none⟩ : Addr)) = some ⟨g, 0, none⟩ ∧ W.heap.size ≤ g := by
        rcases own_pos HO.out (by omega) with ⟨g, cp, hv, _, hg1, _⟩
        injection hv with hv
        exact ⟨g, hv, hg1⟩
      injection hgx with hgx
      injection hgx with hgx
      subst hgx
      have hc1 : wr.cell? ⟨gL, k, none⟩ = some (sv (ls[k]'hlt)) := HK.out.cell (by show lo ≤ gL; omega) (hcell k (sv (ls[k]'hlt)) (by simp [svs, hlt]))
      have hc2 : wr.cell? ⟨bx, 0, none⟩ = some (.string s) := HK.out.cell hlo (by rw [HH2.out.cell]; rfl)
      have hY2 := hY k wr HJS.out hlt
      have htv : tailV ls k = #[.int .i64 ((Nm.body (ls.take k)).length : Nat), .string (s.extract (Nm.body (ls.take k)).length s.size)] := by unfold tailV; rw [tail_cut HG.out]
      rw [htv] at hY2
      obtain ⟨fn, tmps, assign, body, hy, hR⟩ := hY2
      have hts := Nm.take_succ_body hlt
      have hle := Nm.body_take_le (ls := ls) (i := k + 1)
      have hle2 : (Nm.body (ls.take k)).length ≤ s.size := by have := HSZ.out; have := HGL.out; omega
      have hle3 : (Nm.body (ls.take k)).length + 1 + (ls[k]'hlt).length ≤ 255 := by have := HSZ.out; have := HGL.out; omega
      have HTS := Lib.hid hts
      clear hcell hts hle htv
      generalize hll : (ls[k]'hlt) = lk at *
      have HLL := Lib.hid hll
      clear hll
      generalize (Nm.body (ls.take k)).length = z at *
      gi_wp2
      refine hR.mono ?_
      rintro e W3 (⟨rfl, hJ3, hk3⟩ | ⟨rfl, hJx3⟩)
      · have HK3 := Lib.hid hk3
        have HJ3 := Lib.hid hJ3
        clear hk3 hJ3
        gi_wp2
        go_roundw
        case rel => exact ⟨k + 1, by omega, by go_num, by rw [HTS.out]; exact congrArg (Value.int .i64) (by omega), HJ3.out, HK.out.trans HK3.out⟩
        case measure => simp [intOf]; omega
      · gi_wp2
        refine bodyPost_ret (results_none rfl _ _ _) rfl ?_
        exact ⟨⟨_, rfl⟩, .inr ⟨_, hJx3⟩⟩
    · obtain rfl : k = ls.length := by omega
      gi_wp2
      go_end0
      exact ⟨⟨_, rfl⟩, .inl HJS.out⟩

/-- the contract of what tails hands back. -/
theorem tails_seq (n : Nat) (hn : 1 ≤ n) (bx lo : Nat) (s : ByteArray) (ls : List (List UInt8)) (hs : Nm.split s.data.toList = some ls) (w : World) (hB : Has w bx 32 #[.string s]) (hlo : lo ≤ bx) :
    SeqN Fence.wide n Try.prog 31 #[.pointer (some ⟨bx, 0, none⟩)] (tailV ls) lo ls.length w := fun l J Jx W hW hJ hY h0 =>
  tails1_in n hn l bx lo s ls hs J Jx hJ hY W (hB.below hW hB.lt) hlo h0
end Go.Proofs.Ytfekmolgiohegaa
