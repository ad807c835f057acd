/- Texts of the proofs, merged. -/
import Derived.Test.YtcgdjomaddejmaaGreatDoorG49
import Derived.Test.YtcgdjomaddejmaaGreatDoorG52
import Derived.Test.YtcgdjomaddejmaaGreatDoorG51
import Derived.Test.YtcgdjomaddejmaaGreatDoorG26
import Derived.Test.YtcgdjomaddejmaaGreatDoorG36
import Derived.Test.YtcgdjomaddejmaaGreatDoorG37
import Derived.Test.YtcgdjomaddejmaaGreatDoorG40
import Derived.Test.YtcgdjomaddejmaaGreatDoorG48
/- RrsetSorts: the walk. -/
namespace Go.Proofs.YtcgdjomaddejmaaGreatDoor
open Go.RowKit Go.Sort Go.Shelf

theorem so_setCells {t : TypeId} : ∀ (vs : List Value) (g o : Nat) (cur : Array Value) (w : World), Has w g t cur → ∃ cur', Has (w.setCells g o vs) g t cur' ∧ cur'.size = cur.size
  | [], _, _, cur, _, h => ⟨cur, h, rfl⟩
  | v :: r, g, o, cur, w, h => by
    rw [World.setCells]
    obtain ⟨c, h1, h2⟩ := so_setCells r g (o + 1) _ _ (h.set o v)
    exact ⟨c, h1, by rw [h2]; simp⟩
theorem so_below {B : Nat} {a : World} : ∀ (vs : List Value) (g o : Nat) (w : World), Below B a w → B ≤ g → Below B a (w.setCells g o vs)
  | [], _, _, _, h, _ => h
  | v :: r, g, o, w, h, hg => by
    rw [World.setCells]
    exact so_below r g (o + 1) _ (h.setCell (p := ⟨g, o, none⟩) hg v) hg
theorem so_there {w : World} {g : Nat} {t : TypeId} {cur : Array Value} (h : Has w g t cur) {o n : Nat} (hn : o + n ≤ cur.size) : w.there g o n := fun j hj =>
  ⟨by rw [h.cell, Array.getElem?_eq_getElem (by omega)]; rfl, h.free _⟩
set_option maxHeartbeats 2000000 in
set_option maxRecDepth 1000000 in
theorem sorts_long (w : World) (hL : LayR w) (A : Option Addr) (l : List Rv) (c : Nat) (hn : 200 < l.length) :
    Calls Tryz.prog 3 #[.slice A l.length c] w fun e w' => e = .returned (.bool true) ∧ Below w.heap.size w w' := by
  have HW := Lib.hid (rrWakes w hL)
  have d1 : decide ((200 : Int) < (l.length : Int)) = true := by rw [decide_eq_true_iff]; omega
  clear hL hn
  go_enter Tryz.func3, Tryz.ntmps3
  go_wp2_with (go_at_call 4; (with_reducible refine HW.out.mono ?_); rintro e w5 ⟨rfl, B5⟩; have HB5 := Lib.hid B5; clear B5)
  go_ret
  exact ⟨rfl, HB5.out⟩
set_option maxHeartbeats 8000000 in
set_option maxRecDepth 1000000 in
theorem sorts_short (w : World) (hL : LayR w) (A : Option Addr) (l : List Rv) (c : Nat) (hna : A = none → c = 0) (hS : Srow rcl 12 w 0 w.heap.size A l) (hf : ∀ r ∈ l, r.fits) (hm : ∀ r ∈ l, r.near) (hn : l.length ≤ 200) :
    Calls Tryz.prog 3 #[.slice A l.length c] w fun e w' => e = .returned (.bool true) ∧ Below w.heap.size w w' := by
  have d1 : decide ((200 : Int) < (l.length : Int)) = false := by rw [decide_eq_false_iff_not]; omega
  have HWK := Lib.hid (fun (W : World) (h : Below w.heap.size w W) => rrWakes W (hL.below h (Nat.le_refl _)))
  have HL0 := Lib.hid (fun (W : World) (h : Below w.heap.size w W) => (show Srow rcl 12 W 0 W.heap.size A l from (hS.keep h).more (Nat.le_refl _) h.size))
  have HOW := Lib.hid (owned_any l A c w hS hna (by omega))
  have HSO := Lib.hid (fun (A : Option Addr) (c : Nat) (W : World) (hb : Below w.heap.size w W) (h : Srow rcl 12 W 0 W.heap.size A l) => rrSortH_any l A c W (hL.below hb (Nat.le_refl _)) h (fun r hr => ⟨⟨(hf r hr).1, (hf r hr).2.1⟩, (hm r hr).short⟩) (by omega))
  have HRS := Lib.hid (fun (W : World) (hb : Below w.heap.size w W) => r5Sort_any l A c W ((hS.keep hb).more (Nat.le_refl _) hb.size) (fun r hr => ⟨hf r hr, hm r hr⟩) hn)
  have HEQ := Lib.hid (fun (xs : List Rv) (hx : xs.length = l.length) (A B : Option Addr) (c c2 : Nat) (W : World) (h1 : Srow rcl 12 W 0 W.heap.size A xs) (h2 : Srow rcl 12 W 0 W.heap.size B xs) => (show Calls Tryz.prog 8 #[.slice A l.length c, .slice B l.length c2] W (fun e w' => e = .returned (.bool true) ∧ Below W.heap.size W w') from by have h := refEqual_any xs A B c c2 W h1 h2 (by omega); rw [hx] at h; exact h))
  have HLE := Lib.hid (fun (A : Option Addr) (c : Nat) (W : World) (h : Srow rcl 12 W 0 W.heap.size A l) => least_any l A c W h (by omega))
  have HL5 := Lib.hid (fun (W : World) (hb : Below w.heap.size w W) => r5Least_any l A c W ((hS.keep hb).more (Nat.le_refl _) hb.size) (by omega))
  generalize Rr.least (l.map Rv.ttl) = lst at *
  have hi12 : (Tryz.prog.info? 34).map (·.size) = some 12 := by kernel_rfl
  have HI := Lib.hid hi12
  clear hL hna hS hf hm hi12
  go_enter Tryz.func3, Tryz.ntmps3
  go_wp2_with (first
    | (go_at_call 5
       refine HOW.out.mono ?_
       rintro e w2 ⟨A2, c2, rfl, _, S2, B⟩
       have HR2 : Hid (Srow rcl 12 w2 0 w2.heap.size A2 l) := S2.more (Nat.zero_le _) (Nat.le_refl _)
       have HB2 := Lib.hid B
       have HWW := Lib.hid B.size
       clear S2 B)
    | (go_at_call 6
       refine (HSO.out A2 c2 _ HB2.out HR2.out).mono ?_
       rintro e w3 ⟨g, la, rfl, h1, hg, hX, B⟩
       have HSa := Lib.hid h1
       have HG := Lib.hid hg
       have HX3 := Lib.hid hX
       have HR3 : Hid (Srow rcl 12 w3 0 w2.heap.size A2 l) := HR2.out.keep B
       have HB3 := Lib.hid (HB2.out.trans (B.mono HB2.out.size))
       have HZ3 := Lib.hid B.size
       clear h1 hg hX B)
    | (go_at_call 7
       refine (HRS.out _ HB3.out).mono ?_
       rintro e w4 ⟨v, L, rfl, h1, ho, B⟩
       obtain rfl : L = la := h1.one HSa.out (List.Perm.refl _)
       obtain ⟨As, cs, rfl, _, hs⟩ := Own.srow rcl_len ho
       rw [HSa.out.len]
       have HRs4 : Hid (Srow rcl 12 w4 0 w4.heap.size As L) := hs.more (Nat.zero_le _) (Nat.le_refl _)
       have HX4 := Lib.hid (HX3.out.below B HX3.out.lt)
       have HR4 : Hid (Srow rcl 12 w4 0 w2.heap.size A2 l) := HR3.out.keep (B.mono HZ3.out)
       have HB4 := Lib.hid (HB3.out.trans (B.mono HB3.out.size))
       have HZ4 := Lib.hid (Nat.le_trans HZ3.out B.size)
       clear h1 ho hs B)
    | (go_at_call_of 8 (Value.slice (some ⟨g, 0, none⟩) l.length l.length)
       refine (HEQ.out L HSa.out.len _ _ _ _ _ (by have h := holds_srow (d := L.toArray) rcl_len (has_holds HX4.out) (Nat.zero_le _) HX4.out.lt; exact h) HRs4.out).mono ?_
       rintro e w5 ⟨rfl, B⟩
       have HX5 := Lib.hid (HX4.out.below B HX4.out.lt)
       have HR5 : Hid (Srow rcl 12 w5 0 w2.heap.size A2 l) := HR4.out.keep (B.mono HZ4.out)
       have HB5 := Lib.hid (HB4.out.trans (B.mono HB4.out.size))
       have HZ5 := Lib.hid (Nat.le_trans HZ4.out B.size)
       clear B)
    | (go_at_call_of 8 (Value.slice A2 l.length c2)
       refine (HEQ.out l rfl _ _ _ _ _ (HR5.out.more (Nat.le_refl _) HZ5.out) (HL0.out _ HB5.out)).mono ?_
       rintro e w6 ⟨rfl, B⟩
       have HX6 := Lib.hid (HX5.out.below B HX5.out.lt)
       have HR6 : Hid (Srow rcl 12 w6 0 w2.heap.size A2 l) := HR5.out.keep (B.mono HZ5.out)
       have HB6 := Lib.hid (HB5.out.trans (B.mono HB5.out.size))
       have HZ6 := Lib.hid (Nat.le_trans HZ5.out B.size)
       clear B)
    | (go_at_call 9
       refine (HLE.out A2 c2 _ (HR6.out.more (Nat.le_refl _) HZ6.out)).mono ?_
       rintro e w7 ⟨rfl, B⟩
       have HX7 := Lib.hid (HX6.out.below B HX6.out.lt)
       have HR7 : Hid (Srow rcl 12 w7 0 w2.heap.size A2 l) := HR6.out.keep (B.mono HZ6.out)
       have HB7 := Lib.hid (HB6.out.trans (B.mono HB6.out.size))
       have HZ7 := Lib.hid (Nat.le_trans HZ6.out B.size)
       clear B)
    | (go_at_call 10
       refine (HL5.out _ HB7.out).mono ?_
       rintro e w8 ⟨rfl, B⟩
       have HX8 := Lib.hid (HX7.out.below B HX7.out.lt)
       have HR8 : Hid (Srow rcl 12 w8 0 w2.heap.size A2 l) := HR7.out.keep (B.mono HZ7.out)
       have HB8 := Lib.hid (HB7.out.trans (B.mono HB7.out.size))
       have HZ8 := Lib.hid (Nat.le_trans HZ7.out B.size)
       clear B))
  have HCUR : Hid (∃ cur, Has w8 g 34 cur ∧ cur.size = l.length * 12) := ⟨_, HX8.out, by rw [size_flatK, List.size_toArray, HSa.out.len]⟩
  clear HX3 HX4 HX5 HX6 HX7 HX8 HR2 HR3 HR4 HR5 HR6 HR7 HB2 HB3 HB4 HB5 HB6 HB7 HZ3 HZ4 HZ5 HZ6 HZ7 HRs4 HOW HSO HRS HLE HL5
  go_loopw [6] (fun s6 wr => ∃ i : Nat, s6 = .int .i64 i ∧ i ≤ l.length ∧ Hid (Below g w8 wr) ∧ Hid (∃ cur, Has wr g 34 cur ∧ cur.size = l.length * 12)) (fun s6 _ => l.length - (intOf s6).toNat)
  case atStart => exact ⟨0, rfl, Nat.zero_le _, Below.refl _ _, HCUR⟩
  case round =>
    obtain ⟨i, rfl, hi, HB, HC⟩ := hrel
    have i0 : (0 : Int) ≤ (i : Int) := by omega
    by_cases hlt : i < l.length
    · have i1 : (i : Int) < (l.length : Int) := by omega
      obtain ⟨cur, hcur, hsz⟩ := id HC.out
      have HT : Hid (wr.there g (i * 12) 12) := so_there hcur (by omega)
      obtain ⟨cur', h1, h2⟩ := so_setCells [.string ⟨#[]⟩, .int .u16 0, .int .u16 0, .int .u32 0, .string ⟨#[]⟩, .string ⟨#[]⟩, .string ⟨#[]⟩, .int .u32 0, .int .u32 0, .int .u32 0, .int .u32 0, .int .u32 0] g (i * 12) cur wr hcur
      have HC2 : Hid (∃ cur, Has (wr.setCells g (i * 12) [.string ⟨#[]⟩, .int .u16 0, .int .u16 0, .int .u32 0, .string ⟨#[]⟩, .string ⟨#[]⟩, .string ⟨#[]⟩, .int .u32 0, .int .u32 0, .int .u32 0, .int .u32 0, .int .u32 0]) g 34 cur ∧ cur.size = l.length * 12) := ⟨cur', h1, by rw [h2]; exact hsz⟩
      have HB2 := Lib.hid (so_below [.string ⟨#[]⟩, .int .u16 0, .int .u16 0, .int .u32 0, .string ⟨#[]⟩, .string ⟨#[]⟩, .string ⟨#[]⟩, .int .u32 0, .int .u32 0, .int .u32 0, .int .u32 0, .int .u32 0] g (i * 12) wr HB.out (Nat.le_refl _))
      clear hcur hsz h1 h2
      go_wp2_with (first
        | (refine wpList_store_mid rfl 34 (.tmp 43) (.tmp 42) rfl g (i * 12) #[.string ⟨#[]⟩, .int .u16 0, .int .u16 0, .int .u32 0, .string ⟨#[]⟩, .string ⟨#[]⟩, .string ⟨#[]⟩, .int .u32 0, .int .u32 0, .int .u32 0, .int .u32 0, .int .u32 0] rfl rfl HT.out HI.out (by simp [Value.oneCell']) ?_
           revert HC2 HB2
           generalize wr.setCells _ _ _ = w9
           intro HC2 HB2))
      go_roundw
      case rel => exact ⟨i + 1, by go_num, by omega, HB2, HC2⟩
      case measure => simp [intOf]; omega
    · obtain rfl : i = l.length := by omega
      have hgw : w2.heap.size ≤ g := HG.out
      have HRw : Hid (Srow rcl 12 wr 0 w2.heap.size A2 l) := HR8.out.keep (HB.out.mono hgw)
      have hww : w.heap.size ≤ w2.heap.size := HWW.out
      have HBw : Hid (Below w.heap.size w wr) := HB8.out.trans (HB.out.mono (Nat.le_trans hww hgw))
      have HZw : Hid (w2.heap.size ≤ wr.heap.size) := Nat.le_trans HZ8.out HB.out.size
      go_wp2_with (first
        | (go_at_call 8
           refine (HEQ.out l rfl _ _ _ _ _ (HRw.out.more (Nat.le_refl _) HZw.out) (HL0.out _ HBw.out)).mono ?_
           rintro e w20 ⟨rfl, B⟩
           have HB20 := Lib.hid (HBw.out.trans (B.mono HBw.out.size))
           clear B)
        | (go_at_call 4
           refine (HWK.out _ HB20.out).mono ?_
           rintro e w21 ⟨rfl, B⟩
           have HB21 := Lib.hid (HB20.out.trans (B.mono HB20.out.size))
           clear B))
      go_ret
      exact ⟨rfl, HB21.out⟩
theorem walk_RrsetSorts (w : World) (hL : LayR w) (A : Option Addr) (l : List Rv) (c : Nat) (_hc : l.length ≤ c) (hna : A = none → c = 0) (hS : Srow rcl 12 w 0 w.heap.size A l) (hf : ∀ r ∈ l, r.fits) (hm : ∀ r ∈ l, r.near) :
    Calls Tryz.prog 3 #[.slice A l.length c] w fun e w' => e = .returned (.bool true) ∧ Below w.heap.size w w' := by
  by_cases hn : l.length ≤ 200
  · exact sorts_short w hL A l c hna hS hf hm hn
  · exact sorts_long w hL A l c (by omega)
end Go.Proofs.YtcgdjomaddejmaaGreatDoor
