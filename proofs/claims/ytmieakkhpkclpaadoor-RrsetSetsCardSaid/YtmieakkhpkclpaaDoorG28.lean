/- Texts of the proofs, merged. -/
import Derived.Test.YtmieakkhpkclpaaDoorG25
import Derived.Test.YtmieakkhpkclpaaDoorG27
import Derived.Test.YtmieakkhpkclpaaDoorShelfG
/- The set of records of a key: the program's. -/
namespace Go.Proofs.YtmieakkhpkclpaaDoor
open Go.RowKit Go.Sort Go.Shelf

/-- of a list what is made of the first k, then nothing. -/
def upTo {α β : Type} [Inhabited β] (f : α → β) (rs : List α) (k : Nat) : Array β := ((rs.take k).map f ++ List.replicate (rs.length - k) default).toArray
section
variable {α β : Type} [Inhabited β] {f : α → β}
theorem upTo_size (rs : List α) {k : Nat} (h : k ≤ rs.length) : (upTo f rs k).size = rs.length := by
  unfold upTo
  simp
  omega
theorem upTo_zero (rs : List α) : upTo f rs 0 = Array.replicate rs.length default := by
  unfold upTo
  apply Array.ext'
  simp
theorem upTo_all (rs : List α) : upTo f rs rs.length = (rs.map f).toArray := by
  unfold upTo
  simp
theorem upTo_set (rs : List α) {k : Nat} (h : k < rs.length) : (upTo f rs k).setIfInBounds k (f rs[k]) = upTo f rs (k + 1) := by
  apply Array.ext'
  apply List.ext_getElem?
  intro i
  have hl : (List.map f (rs.take k)).length = k := by simp; omega
  have hl2 : (List.map f (rs.take (k + 1))).length = k + 1 := by simp; omega
  unfold upTo
  rw [Array.toList_setIfInBounds, List.getElem?_set, List.toList_toArray, List.toList_toArray]
  by_cases e : k = i
  · subst e
    rw [if_pos rfl, if_pos (by simp; omega), List.getElem?_append_left (by omega), List.getElem?_map, List.getElem?_take, if_pos (by omega), List.getElem?_eq_getElem h]
    rfl
  · rw [if_neg e]
    by_cases hi : i < k
    · rw [List.getElem?_append_left (by omega), List.getElem?_append_left (by omega), List.getElem?_map, List.getElem?_map, List.getElem?_take, List.getElem?_take, if_pos hi, if_pos (by omega)]
    · rw [List.getElem?_append_right (by omega), List.getElem?_append_right (by omega), hl, hl2, List.getElem?_replicate, List.getElem?_replicate]
      by_cases h3 : i < rs.length
      · rw [if_pos (by omega), if_pos (by omega)]
      · rw [if_neg (by omega), if_neg (by omega)]
end
/-- no text of the data is longer than there may be one. -/
def Dv.short (d : Dv) : Prop := d.host.size ≤ 140737488355328 ∧ d.mail.size ≤ 140737488355328
theorem sortD_any (l : List Dv) (hl : ∀ d ∈ l, d.short) (g c : Nat) (w : World) (hX : Has w g 41 (flatK dcl 8 l.toArray)) (hn : l.length ≤ 4294967296) :
    Calls Tryd.prog 27 #[.slice (some ⟨g, 0, none⟩) l.length c, .func (.func 28) #[] #[]] w fun e w' => e = .returned (.tuple #[]) ∧ ∃ l' : List Dv, l'.Perm l ∧ Rr.Up (fun a b : Dv => Rr.cmpD a.dt b.dt) l' ∧ Has w' g 41 (flatK dcl 8 l'.toArray) ∧ w.grownBy w' (some g) := by
  have h := sort_any (P := Tryd.prog) Tryd.sortD (enc := dcl) (k := 8) dcl_len Dv.short (⟨Nat.zero_le _, Nat.zero_le _⟩ : Dv.short ⟨⟨#[]⟩, ⟨#[]⟩, ⟨#[]⟩, 0, 0, 0, 0, 0⟩) (fun x _ => dcl_one x) Tryd.isAgg41 Tryd.sizeOf41 (fun a b : Dv => Rr.cmpD a.dt b.dt) (fun a b => Rr.od_cmpD.neg _ _) (fun a b d => Rr.od_cmpD.trans _ _ _) 28 (enters_of Tryd.func28 (by kernel_rfl) rfl)
    (fun x y hx hy W => cmpData_any x y W hx.1 hy.1 hx.2 hy.2) g c 41 l hl w (row_holds hX) hX.lt hn
  change Calls Tryd.prog 27 _ _ _ at h
  exact h.mono fun e w' ⟨he, l', h1, h2, _, h4, h5⟩ => ⟨he, l', h1, h2, h5 hX, h4⟩
theorem five {W : World} {g : Nat} {t : TypeId} {a b c d e : Value} (k : Has W g t #[a, b, c, d, e]) :
    W.cell? ⟨g, 0, none⟩ = some a ∧ W.cell? ⟨g, 1, none⟩ = some b ∧ W.cell? ⟨g, 2, none⟩ = some c ∧ W.cell? ⟨g, 3, none⟩ = some d ∧ W.cell? ⟨g, 4, none⟩ = some e ∧ W.frozen? ⟨g, 0, none⟩ = false ∧ W.frozen? ⟨g, 1, none⟩ = false ∧ W.frozen? ⟨g, 2, none⟩ = false ∧ W.frozen? ⟨g, 3, none⟩ = false ∧ W.frozen? ⟨g, 4, none⟩ = false := by
  refine ⟨?_, ?_, ?_, ?_, ?_, k.free _, k.free _, k.free _, k.free _, k.free _⟩ <;> (rw [k.cell]; rfl)
theorem five_set {W : World} {g : Nat} {t : TypeId} {a b c d e a' b' c' d' e' : Value} (k : Has W g t #[a', b', c', d', e']) :
    Has (((((W.setCell ⟨g, 0, none⟩ a).setCell ⟨g, 1, none⟩ b).setCell ⟨g, 2, none⟩ c).setCell ⟨g, 3, none⟩ d).setCell ⟨g, 4, none⟩ e) g t #[a, b, c, d, e] := by
  have k8 := ((((k.set 0 a).set 1 b).set 2 c).set 3 d).set 4 e
  simp only [List.setIfInBounds_toArray, List.set_cons_zero, List.set_cons_succ] at k8
  exact k8
theorem three {W : World} {g : Nat} {t : TypeId} {a b c : Value} (k : Has W g t #[a, b, c]) : W.cell? ⟨g, 0, none⟩ = some a ∧ W.cell? ⟨g, 1, none⟩ = some b ∧ W.cell? ⟨g, 2, none⟩ = some c := by
  refine ⟨?_, ?_, ?_⟩ <;> (rw [k.cell]; rfl)
/-- a set's data, where they lie. -/
def SetAt (w : World) (lo hi : Nat) (s : Sx) : Prop := ∃ g c, s.v = .slice (some ⟨g, 0, none⟩) s.ds.length c ∧ s.ds.length ≤ c ∧ lo ≤ g ∧ g < hi ∧ ∀ j (h : j < s.ds.length), w.rangeAt g (0 + j * 8) (dcl s.ds[j])
theorem rows_of {α : Type} [Inhabited α] {enc : α → List Value} {k : Nat} (hk : ∀ x, (enc x).length = k) {w : World} {g : Nat} {t : TypeId} {d : Array α} (h : Has w g t (flatK enc k d)) {xs : List α} (hx : d.toList.take xs.length = xs) : ∀ j (h : j < xs.length), w.rangeAt g (0 + j * k) (enc xs[j]) := fun j hj => by
  have hl : xs.length ≤ d.size := by
    have := congrArg List.length hx
    have e0 : d.toList.length = d.size := by simp
    rw [List.length_take] at this
    omega
  have e : xs[j] = d[j]'(by omega) := by
    have e1 : xs[j]? = d.toList[j]? := by
      conv => lhs; rw [← hx]
      rw [List.getElem?_take, if_pos hj]
    rw [List.getElem?_eq_getElem hj, Array.getElem?_toList, Array.getElem?_eq_getElem (by omega)] at e1
    exact Option.some.inj e1
  rw [e, Nat.zero_add]
  exact row_at hk h (by omega)
theorem setOf_end (kn : ByteArray) (kt kc ttl gd : Nat) (rs : List Rv) (l' : List Dv) (d' : Array Dv) (w W3 : World) (hT : Rr.least (rs.map Rv.ttl) = ttl) (hP : l'.Perm (rs.map Rv.d)) (hU : Rr.Up (fun a b : Dv => Rr.cmpD a.dt b.dt) l') (ht : d'.toList.take (Rr.cpt l').length = Rr.cpt l') (hs : d'.size = rs.length)
    (hD : Has W3 gd 41 (flatK dcl 8 d')) (hB : Below w.heap.size w W3) (hg : w.heap.size ≤ gd) :
    ∃ s : Sx, (Ending.returned (.agg #[.string kn, .int .u16 kt, .int .u16 kc, .int .u32 ttl, .slice (some ⟨gd, 0, none⟩) (Rr.cpt l').length rs.length]) : Ending) = .returned (.agg s.cells.toArray) ∧ s.k = ⟨kn, kt, kc⟩ ∧ s.st = Rr.grp (Kv.ky ⟨kn, kt, kc⟩) (rs.map Rv.rc) ∧ (∀ d ∈ s.ds, ∃ r ∈ rs, r.d = d) ∧ SetAt W3 w.heap.size W3.heap.size s ∧ Below w.heap.size w W3 := by
  refine ⟨⟨⟨kn, kt, kc⟩, ttl, .slice (some ⟨gd, 0, none⟩) (Rr.cpt l').length rs.length, Rr.cpt l'⟩, rfl, rfl, ?_, fun d hd => ?_, ⟨gd, rs.length, rfl, ?_, hg, hD.lt, rows_of dcl_len hD ht⟩, hB⟩
  · show (⟨_, ttl, (Rr.cpt l').map Dv.dt⟩ : Rr.St) = ⟨_, Rr.least ((rs.map Rv.rc).map Rr.Rc.ttl), Rr.cpt (Rr.sort Rr.cmpD ((rs.map Rv.rc).map Rr.Rc.d))⟩
    have e : (rs.map Rv.rc).map Rr.Rc.ttl = rs.map Rv.ttl := by rw [List.map_map]; rfl
    rw [e, hT, ds_of hP hU]
  · obtain ⟨r, hr, e⟩ := List.mem_map.1 (hP.mem_iff.1 ((Rr.cpt_mem l' d).1 hd))
    exact ⟨r, hr, e⟩
  · have := congrArg List.length ht
    have e0 : d'.toList.length = d'.size := by simp
    rw [List.length_take] at this
    show (Rr.cpt l').length ≤ rs.length
    omega
set_option maxHeartbeats 4000000 in
set_option maxRecDepth 100000 in
theorem setOf_any (k : Kv) (rs : List Rv) (A : Option Addr) (c : Nat) (w : World) (hS : Srow rcl 12 w 0 w.heap.size A rs) (hr : ∀ r ∈ rs, r.short) (hn : rs.length ≤ 4294967296) :
    Calls Tryd.prog 16 #[k.val, .slice A rs.length c] w fun e w' => ∃ s : Sx, e = .returned (.agg s.cells.toArray) ∧ s.k = k ∧ s.st = Rr.grp k.ky (rs.map Rv.rc) ∧ (∀ d ∈ s.ds, ∃ r ∈ rs, r.d = d) ∧ SetAt w' w.heap.size w'.heap.size s ∧ Below w.heap.size w w' := by
  have HS := Lib.hid hS
  have HR := Lib.hid hr
  clear hS hr
  have hi12 : (Tryd.prog.info? 43).map (·.size) = some 12 := by kernel_rfl
  have HI := Lib.hid hi12
  have hi8 : (Tryd.prog.info? 41).map (·.size) = some 8 := by kernel_rfl
  have HI8 := Lib.hid hi8
  have hi5 : (Tryd.prog.info? 30).map (·.size) = some 5 := by kernel_rfl
  have HI5 := Lib.hid hi5
  clear hi12 hi8 hi5
  obtain ⟨ti, ht1, ht2, ht3, ht4⟩ : ∃ i, Tryd.prog.info? 41 = some i ∧ i.zero = some (.agg (dcl default).toArray) ∧ i.size = 8 ∧ i.bytes = 72 := ⟨_, rfl, by kernel_rfl, by kernel_rfl, by kernel_rfl⟩
  have HT := Lib.hid (And.intro ht1 (And.intro ht2 (And.intro ht3 ht4)))
  clear ht1 ht2 ht3 ht4
  obtain ⟨kn, kt, kc⟩ := k
  dsimp only [Kv.val]
  have HK0 : Hid (Has ((w.alloc (.cells #[.string kn, .int .u16 kt, .int .u16 kc] 26)).alloc (.cells #[.string ⟨#[]⟩, .int .u16 0, .int .u16 0, .int .u32 0, .slice none 0 0] 30)) w.heap.size 26 #[.string kn, .int .u16 kt, .int .u16 kc]) := (Has.fresh w _ _).alloc _
  have HZ0 : Hid (Has ((w.alloc (.cells #[.string kn, .int .u16 kt, .int .u16 kc] 26)).alloc (.cells #[.string ⟨#[]⟩, .int .u16 0, .int .u16 0, .int .u32 0, .slice none 0 0] 30)) (w.heap.size + 1) 30 #[.string ⟨#[]⟩, .int .u16 0, .int .u16 0, .int .u32 0, .slice none 0 0]) := by
    have h := Has.fresh (w.alloc (.cells #[.string kn, .int .u16 kt, .int .u16 kc] 26)) 30 #[.string ⟨#[]⟩, .int .u16 0, .int .u16 0, .int .u32 0, .slice none 0 0]
    have e : (w.alloc (.cells #[.string kn, .int .u16 kt, .int .u16 kc] 26)).heap.size = w.heap.size + 1 := by simp
    rw [e] at h
    exact h
  have HB0 : Hid (Below w.heap.size w ((w.alloc (.cells #[.string kn, .int .u16 kt, .int .u16 kc] 26)).alloc (.cells #[.string ⟨#[]⟩, .int .u16 0, .int .u16 0, .int .u32 0, .slice none 0 0] 30))) := ((Below.refl _ _).alloc (Nat.le_refl _) _).alloc (by simp) _
  have HA0 : Hid (w.heap.size + 1 < ((w.alloc (.cells #[.string kn, .int .u16 kt, .int .u16 kc] 26)).alloc (.cells #[.string ⟨#[]⟩, .int .u16 0, .int .u16 0, .int .u32 0, .slice none 0 0] 30)).heap.size) := by simp [Hid]
  go_enter Tryd.func16, Tryd.ntmps16
  go_wp2_with (refine wpList_make_structs rfl (.tmp 9) (.tmp 9) 28 rfl dcl_len default 41 ti _ 72 Tryd.underlying28 HT.out.1 HT.out.2.1 rfl HT.out.2.2.1 HT.out.2.2.2 .i64 .i64 _ _ rs.length rs.length rfl rfl rfl rfl (Nat.le_refl _) (by omega) (by omega) ?_; generalize ((w.alloc (.cells #[.string kn, .int .u16 kt, .int .u16 kc] 26)).alloc (.cells #[.string ⟨#[]⟩, .int .u16 0, .int .u16 0, .int .u32 0, .slice none 0 0] 30)) = wa at HK0 HZ0 HB0 HA0 ⊢; intro w1 hX1 B1 hs1; have HG1 : Hid (wa.heap.size < w1.heap.size) := (by rw [Hid, hs1]; omega); clear hs1; have HK1 := Lib.hid (HK0.out.below B1 (by have := HA0.out; omega)); have HZ1 := Lib.hid (HZ0.out.below B1 HA0.out); have HB1 := Lib.hid (HB0.out.trans (B1.mono HB0.out.size)); clear B1; generalize wa.heap.size = gd at hX1 HA0 HG1 ⊢; have HX1 := Lib.hid hX1; have hga := HA0.out; clear hX1 HK0 HZ0 HB0 HA0)
  go_loopw [13] (fun i wr => ∃ k : Nat, i = .int .i64 k ∧ k ≤ rs.length ∧ Hid (Has wr gd 41 (flatK dcl 8 (upTo Rv.d rs k))) ∧ Hid (Has wr w.heap.size 26 #[.string kn, .int .u16 kt, .int .u16 kc]) ∧ Hid (Has wr (w.heap.size + 1) 30 #[.string ⟨#[]⟩, .int .u16 0, .int .u16 0, .int .u32 0, .slice none 0 0]) ∧ Hid (Below w.heap.size w wr) ∧ Hid (gd < wr.heap.size)) (fun i _ => rs.length - (intOf i).toNat)
  case atStart => exact ⟨0, rfl, by omega, by rw [upTo_zero]; exact HX1, HK1, HZ1, HB1, HG1⟩
  case round =>
    obtain ⟨k, rfl, hk, HX, HK, HZ, HB, HG⟩ := hrel
    have hg2 := HG.out
    have hwr := HB.out.size
    by_cases hlt : k < rs.length
    · obtain ⟨g, o, rfl, _, hg, hc⟩ := HS.out.at_ hlt
      have hc2 := Lib.hid (range_below HB.out hg hc)
      have hst := upTo_set (f := Rv.d) rs hlt
      have hkd : k < (upTo Rv.d rs k).size := by rw [upTo_size rs hk]; exact hlt
      have HKD := Lib.hid hkd
      have HST := Lib.hid hst
      clear hst hkd hc
      generalize rs[k] = rk at *
      go_wp2_with (first
        | (refine wpList_load_mid rfl 43 (.tmp 16) rfl g (o + k * 12) rfl (rcl rk) _ hc2.out Tryd.underlying43 rfl HI.out ?_)
        | (refine wpList_store_boxed rfl 43 (.tmp 7) (.tmp 17) rfl 43 _ rk.cells rfl rfl HI.out rfl (rv_one rk) ?_; intro w2 hY g2 hs2; have HY2 := Lib.hid (rv_data hY); have HX2 := Lib.hid (HX.out.grown g2 (by simp)); have HK2 := Lib.hid (HK.out.grown g2 (by simp)); have HZ2 := Lib.hid (HZ.out.grown g2 (by simp)); have HB2 := Lib.hid (grown_none g2 HB.out hwr); clear hY g2)
        | (refine wpList_load_mid rfl 41 (.tmp 20) rfl wr.heap.size 4 rfl (dcl rk.d) _ HY2.out Tryd.underlying41 rfl HI8.out ?_)
        | (refine wpList_store_elem rfl 41 (.tmp 22) (.tmp 21) rfl dcl_len dcl_one gd k 41 _ rk.d HX2.out HKD.out rfl rfl HI8.out ?_; rw [HST.out]; intro w4 hX4 g4 hs4; have HX4 := Lib.hid hX4; have HK4 := Lib.hid (HK2.out.grown g4 (by simp; omega)); have HZ4 := Lib.hid (HZ2.out.grown g4 (by simp; omega)); have HB4 := Lib.hid (HB2.out.grown g4 (by omega) (fun k e => by injection e with e; omega)); clear hX4 g4))
      go_roundw
      case rel => exact ⟨k + 1, by go_num, by omega, HX4, HK4, HZ4, HB4, by rw [Hid]; omega⟩
      case measure => simp [intOf]; omega
    · obtain rfl : k = rs.length := by omega
      rw [upTo_all] at HX
      have hd : ∀ d ∈ rs.map Rv.d, d.short := fun d hd => by
        obtain ⟨r, hr, rfl⟩ := List.mem_map.1 hd
        exact (HR.out r hr).2
      have hlen : (rs.map Rv.d).length = rs.length := List.length_map ..
      have HSO := Lib.hid (sortD_any (rs.map Rv.d) hd gd rs.length wr HX.out (by rw [hlen]; exact hn))
      rw [hlen] at HSO
      clear hlen hd
      go_wp2_with (go_at_call 27; refine HSO.out.mono ?_; rintro e w9 ⟨rfl, l', hp, hu, hX9, g9⟩; have HP := Lib.hid hp; have HU := Lib.hid hu; have HX9 := Lib.hid hX9; have HK9 := Lib.hid (HK.out.grown g9 (by simp; omega)); have HZ9 := Lib.hid (HZ.out.grown g9 (by simp; omega)); have HB9 := Lib.hid (HB.out.grown g9 hwr (fun k e => by injection e with e; omega)); have hs9 := g9.size; clear hp hu hX9 g9)
      have hll : l'.length = rs.length := by have := HP.out.length_eq; rwa [List.length_map] at this
      have HX10 : Hid (Has w9.drew gd 41 (flatK dcl 8 l'.toArray)) := HX9.out
      have HK10 : Hid (Has w9.drew w.heap.size 26 #[.string kn, .int .u16 kt, .int .u16 kc]) := HK9.out
      have HZ10 : Hid (Has w9.drew (w.heap.size + 1) 30 #[.string ⟨#[]⟩, .int .u16 0, .int .u16 0, .int .u32 0, .slice none 0 0]) := HZ9.out
      have HB10 : Hid (Below w.heap.size w w9.drew) := HB9.out.drew
      have hg10 : gd < w9.drew.heap.size := HX9.out.lt
      have HLE := Lib.hid (least_any rs A c w9.drew ((HS.out.keep HB10.out).more (Nat.le_refl _) HB10.out.size) hn)
      have HCO := Lib.hid (fun (W : World) (h : Has W gd 41 (flatK dcl 8 l'.toArray)) => compact_any l' gd rs.length W h (by omega) (by omega))
      rw [hll] at HCO
      obtain ⟨k0, k1, k2⟩ := three HK10.out
      generalize hT : Rr.least (rs.map Rv.ttl) = ttl at *
      have HTL := Lib.hid hT
      clear hT
      clear HX9 HK9 HZ9 HB9 hs9 hll
      generalize hwd : w9.drew = w10 at *
      go_region_with (first
        | (go_at_call 29; refine HLE.out.mono ?_; rintro e W1 ⟨rfl, B1⟩; have HX11 := Lib.hid (HX10.out.below B1 hg10); have HK11 := Lib.hid (HK10.out.below B1 (by omega)); have HZ11 := Lib.hid (HZ10.out.below B1 (by omega)); have HB11 := Lib.hid (HB10.out.trans (B1.mono HB10.out.size)); obtain ⟨k10, k11, k12⟩ := three HK11.out; clear B1)
        | (go_at_call 30; refine (HCO.out _ HX11.out).mono ?_; rintro e W2 ⟨d', rfl, hx12, hs12, ht12, g12⟩; have HX12 := Lib.hid hx12; have HS12 := Lib.hid hs12; have HT12 := Lib.hid ht12; have HK12 := Lib.hid (HK11.out.grown g12 (by simp; omega)); have HZ12 := Lib.hid (HZ11.out.grown g12 (by simp; omega)); have HB12 := Lib.hid (HB11.out.grown g12 HB11.out.size (fun k e => by injection e with e; omega)); obtain ⟨k20, k21, k22⟩ := three HK12.out; obtain ⟨z0, z1, z2, z3, z4, y0, y1, y2, y3, y4⟩ := five HZ12.out; clear hx12 hs12 ht12 g12))
      all_goals
        (have hfin := five_set (a := .string kn) (b := .int .u16 kt) (c := .int .u16 kc) (d := .int .u32 ttl) (e := .slice (some ⟨gd, 0, none⟩) (Rr.cpt l').length rs.length) HZ12.out
         have HFIN := Lib.hid hfin
         have hbl := (((((HB12.out.setCell (p := ⟨w.heap.size + 1, 0, none⟩) (by simp) (.string kn)).setCell (p := ⟨w.heap.size + 1, 1, none⟩) (by simp) (.int .u16 kt)).setCell (p := ⟨w.heap.size + 1, 2, none⟩) (by simp) (.int .u16 kc)).setCell (p := ⟨w.heap.size + 1, 3, none⟩) (by simp) (.int .u32 ttl)).setCell (p := ⟨w.heap.size + 1, 4, none⟩) (by simp) (.slice (some ⟨gd, 0, none⟩) (Rr.cpt l').length rs.length))
         have HBL := Lib.hid hbl
         have hda := (((((HX12.out.far (p := ⟨w.heap.size + 1, 0, none⟩) (by simp; omega) (.string kn)).far (p := ⟨w.heap.size + 1, 1, none⟩) (by simp; omega) (.int .u16 kt)).far (p := ⟨w.heap.size + 1, 2, none⟩) (by simp; omega) (.int .u16 kc)).far (p := ⟨w.heap.size + 1, 3, none⟩) (by simp; omega) (.int .u32 ttl)).far (p := ⟨w.heap.size + 1, 4, none⟩) (by simp; omega) (.slice (some ⟨gd, 0, none⟩) (Rr.cpt l').length rs.length))
         have HDA := Lib.hid hda
         clear hfin hbl hda
         generalize ((((W2.setCell ⟨w.heap.size + 1, 0, none⟩ (.string kn)).setCell ⟨w.heap.size + 1, 1, none⟩ (.int .u16 kt)).setCell ⟨w.heap.size + 1, 2, none⟩ (.int .u16 kc)).setCell ⟨w.heap.size + 1, 3, none⟩ (.int .u32 ttl)).setCell ⟨w.heap.size + 1, 4, none⟩ (.slice (some ⟨gd, 0, none⟩) (Rr.cpt l').length rs.length) = W3 at *
         go_wp2
         refine bodyPost_ret (results_cell_row rfl _ _ (w.heap.size + 1) 30 #[.string kn, .int .u16 kt, .int .u16 kc, .int .u32 ttl, .slice (some ⟨gd, 0, none⟩) (Rr.cpt l').length rs.length] (0, 0) _ rfl HFIN.out Tryd.underlying30 rfl HI5.out) rfl ?_
         exact setOf_end kn kt kc ttl gd rs l' d' w W3 HTL.out HP.out HU.out HT12.out HS12.out HDA.out HBL.out (by omega))
end Go.Proofs.YtmieakkhpkclpaaDoor
