/- Texts of the proofs, merged. -/
import Derived.Test.YtpnfkgjcnofjnaaTrBel
import Derived.Test.YtpnfkgjcnofjnaaMgTe
/- The statements' own helpers: heavy, grown. -/
namespace Go.Proofs.Ytpnfkgjcnofjnaa.Tr
/-- a tree in which names are put, one behind the other, with their places. -/
def growN : List By → Nat → No Int → No Int
  | [], _, n => n
  | s :: r, i, n => growN r (i + 1) (if isN s then Ti.putN s (i : Int) n else n)
theorem growN_snoc (l : List By) (s : By) : ∀ (i : Nat) (n : No Int), growN (l ++ [s]) i n = if isN s then Ti.putN s ((i + l.length : Nat) : Int) (growN l i n) else growN l i n := by
  induction l with
  | nil => intro i n; simp [growN]
  | cons a l ih =>
    intro i n
    rw [List.cons_append, growN, growN, ih]
    simp only [List.length_cons]
    rw [show i + 1 + l.length = i + (l.length + 1) by omega]
end Go.Proofs.Ytpnfkgjcnofjnaa.Tr
namespace Go.Proofs.Ytpnfkgjcnofjnaa.Ti
open Go.RowKit Go.Shelf Tr

theorem Rd.at {w : World} {B n c : Nat} {A : Option Addr} {ls : List By} (h : Rd w B (.slice A n c) ls) {k : Nat} (hk : k < n) : ∃ g o, A = some ⟨g, o, none⟩ ∧ ∃ hl : k < ls.length, w.cell? ⟨g, o + k, none⟩ = some (sv ls[k]) := by
  obtain ⟨A', c', e, hc, hcell⟩ := h
  injection e with e1 e2 e3
  obtain ⟨g, o, hA, _, hcs⟩ := hcell (by omega)
  exact ⟨g, o, e1.trans hA, by omega, hcs k (by omega)⟩
/-- are names more than a statement looks at? -/
def heavyL (ls : List By) : Bool := decide (60 < ls.length) || ls.any fun s => decide (2000 < s.length)
theorem heavy_any {B n c : Nat} {A : Option Addr} {ls : List By} (w : World) (hn : ls.length = n) (h : Rd w B (.slice A n c) ls) :
    Calls Try.prog 21 #[.slice A n c] w fun e w' => e = .returned (.bool (heavyL ls)) ∧ w' = w := by
  by_cases hb : 60 < n
  · have hr : heavyL ls = true := by simp [heavyL, hn, hb]
    rw [hr]
    have hb' : (60 : Int) < (n : Int) := by omega
    clear hr
    go_enter Try.func21, Try.ntmps21
    go_wp2
    go_ret
    exact ⟨rfl, rfl⟩
  · have hb' : ¬ (60 : Int) < (n : Int) := by omega
    have H := Lib.hid h
    have HN := Lib.hid hn
    have hr : heavyL ls = ls.any fun s => decide (2000 < s.length) := by simp [heavyL, hn, hb]
    rw [hr]
    clear h hn hr
    go_enter Try.func21, Try.ntmps21
    go_wp2
    go_loopw [3] (fun i wr => ∃ k : Nat, k ≤ n ∧ i = .int .i64 k ∧ wr = w ∧ (ls.take k).any (fun s => decide (2000 < s.length)) = false) (fun i _ => n - (intOf i).toNat)
    case atStart => exact ⟨0, Nat.zero_le _, rfl, rfl, rfl⟩
    case round =>
      obtain ⟨k, hk, rfl, rfl, hno⟩ := hrel
      by_cases hlt : k < n
      · obtain ⟨g, o, rfl, hl, hcell⟩ := Rd.at H.out hlt
        have i0 : (0 : Int) ≤ (k : Int) := by omega
        have i1 : (k : Int) < (n : Int) := by omega
        have htk : (ls.take (k + 1)).any (fun s => decide (2000 < s.length)) = decide (2000 < (ls[k]).length) := by
          rw [List.take_succ_eq_append_getElem hl, List.any_append, hno]; simp
        have hall : ls.any (fun s => decide (2000 < s.length)) = ((ls.take (k + 1)).any (fun s => decide (2000 < s.length)) || (ls.drop (k + 1)).any (fun s => decide (2000 < s.length))) := by rw [← List.any_append, List.take_append_drop]
        generalize ls[k] = x at *
        have HTK := Lib.hid htk
        have HALL := Lib.hid hall
        have hwr : IntKind.i64.wrap ((k : Int) + 1) = ((k + 1 : Nat) : Int) := by rw [IntKind.wrap_i64]; omega
        clear htk hall hno hl
        by_cases hx : 2000 < x.length
        · have hx' : (2000 : Int) < (x.length : Int) := by omega
          go_wp2
          go_ret
          refine ⟨?_, rfl⟩
          rw [HALL.out, HTK.out, decide_eq_true hx]; rfl
        · have hx' : ¬ (2000 : Int) < (x.length : Int) := by omega
          go_wp2
          go_roundw
          case rel => exact ⟨k + 1, by omega, rfl, trivial, by rw [HTK.out, decide_eq_false hx]⟩
          case measure => simp [intOf]; omega
      · obtain rfl : k = n := by omega
        have hneg : ¬ ((k : Int) < (k : Int)) := by omega
        have HNO := Lib.hid hno
        clear hno
        go_wp2
        go_ret
        refine ⟨?_, rfl⟩
        have := HNO.out
        rw [List.take_of_length_le (by have := HN.out; omega)] at this
        rw [this]; rfl
theorem heavy_no {ls : List By} (h : heavyL ls = false) : ls.length ≤ 60 ∧ ∀ s ∈ ls, s.length ≤ 2000 := by
  simp only [heavyL, Bool.or_eq_false_iff, decide_eq_false_iff_not, List.any_eq_false, decide_eq_true_eq] at h
  exact ⟨by omega, fun s hs => by have := h.2 s hs; omega⟩
set_option maxRecDepth 100000 in
theorem grown_any {n c : Nat} {A : Option Addr} {ls : List By} (w : World) (hn : ls.length = n) (h : Rd w w.heap.size (.slice A n c) ls) (hfew : n ≤ 60) (hsz : ∀ s ∈ ls, s.length ≤ 2000) :
    Calls Try.prog 22 #[.slice A n c] w fun e w' => e = .returned (ptr w.heap.size) ∧ (∃ F, TM w' w.heap.size (growN ls 0 rootN) F ∧ ∀ k ∈ F, w.heap.size ≤ k) ∧ Below w.heap.size w w' ∧ (nents (growN ls 0 rootN)).length ≤ n := by
  have H := Lib.hid h
  have HN := Lib.hid hn
  have HSZ := Lib.hid hsz
  clear h hn hsz
  go_enter Try.func22, Try.ntmps22
  go_wp2_with (go_at_call 10; refine (New_any _).mono ?_; rintro e w1 ⟨rfl, hT1, hb1⟩; have HT1 := Lib.hid hT1; clear hT1)
  go_loopw [4] (fun i wr => ∃ k : Nat, k ≤ n ∧ i = .int .i64 k ∧ Hid ((∃ F, TM wr w.heap.size (growN (ls.take k) 0 rootN) F ∧ ∀ q ∈ F, w.heap.size ≤ q) ∧ Below w.heap.size w wr ∧ (nents (growN (ls.take k) 0 rootN)).length ≤ k)) (fun i _ => n - (intOf i).toNat)
  case atStart => exact ⟨0, Nat.zero_le _, rfl, ⟨_, HT1.out, by simp⟩, hb1, by simp [growN]; rfl⟩
  case round =>
    obtain ⟨k, hk, rfl, HR⟩ := hrel
    by_cases hlt : k < n
    · obtain ⟨⟨F, hT, hF⟩, hbw, hlen⟩ := HR.out
      obtain ⟨g, o, rfl, hl, hcell⟩ := Rd.at (H.out.keep hbw) hlt
      have i0 : (0 : Int) ≤ (k : Int) := by omega
      have i1 : (k : Int) < (n : Int) := by omega
      have hx := HSZ.out _ (List.getElem_mem hl)
      have htk : growN (ls.take (k + 1)) 0 rootN = if isN ls[k] then putN ls[k] (k : Int) (growN (ls.take k) 0 rootN) else growN (ls.take k) 0 rootN := by
        rw [List.take_succ_eq_append_getElem hl, growN_snoc, List.length_take, show 0 + min k ls.length = k by omega]
      generalize ls[k] = x at *
      have hwr : IntKind.i64.wrap ((k : Int) + 1) = ((k + 1 : Nat) : Int) := by rw [IntKind.wrap_i64]; omega
      have hrb : x.length ≤ 140737488355328 := by omega
      clear hl hx
      cases hi : isN x with
      | false =>
        have HP := Lib.hid (PutNo_any hT ⟨x.toArray⟩ (k : Int) hrb (by rw [arr_list]; exact hi))
        rw [hi] at htk
        have HTK := Lib.hid htk
        clear hT htk hi
        go_wp2_with (go_at_call 12; refine HP.out.mono ?_; rintro e w2 ⟨rfl, hT2, hb2⟩; have HT2 := Lib.hid hT2; clear hT2)
        go_roundw
        case rel =>
          have e : growN (ls.take (k + 1)) 0 rootN = growN (ls.take k) 0 rootN := HTK.out
          refine ⟨k + 1, by omega, rfl, ⟨F, by rw [e]; exact HT2.out, hF⟩, hbw.trans (hb2.mono hbw.size), by rw [e]; omega⟩
        case measure => simp [intOf]; omega
      | true =>
        have HP := Lib.hid (Put_any hT (by omega) ⟨x.toArray⟩ (k : Int) hrb (by rw [arr_list]; exact hi))
        rw [arr_list] at HP
        rw [hi] at htk
        have hpl := put_len (s := x) (v := (k : Int)) hT.ok
        have HTK := Lib.hid htk
        have HPL := Lib.hid hpl
        clear hT htk hi hpl
        go_wp2_with (go_at_call 12; refine HP.out.mono ?_; rintro e w2 ⟨F2, rfl, hT2, hn2, ho2⟩; have HT2 := Lib.hid hT2; clear hT2)
        go_roundw
        case rel =>
          have e : growN (ls.take (k + 1)) 0 rootN = putN x (k : Int) (growN (ls.take k) 0 rootN) := HTK.out
          refine ⟨k + 1, by omega, rfl, ⟨F2, by rw [e]; exact HT2.out, fun q hq => ?_⟩, hbw.trans (ho2.below hF hbw.size), ?_⟩
          · rcases hn2 q hq with h1 | h1
            · exact hF q h1
            · exact Nat.le_trans hbw.size h1
          · rw [e, HPL.out]; split <;> omega
        case measure => simp [intOf]; omega
    · obtain rfl : k = n := by omega
      have hneg : ¬ ((k : Int) < (k : Int)) := by omega
      go_wp2
      go_ret
      have := HR.out
      rw [List.take_of_length_le (by have := HN.out; omega)] at this
      exact ⟨rfl, this⟩
end Go.Proofs.Ytpnfkgjcnofjnaa.Ti
/- The statements' example. -/
namespace Go.Proofs.Ytpnfkgjcnofjnaa.Ti
open Go.RowKit Go.Shelf Tr

def exL : List By := [[1, 66, 1, 97, 0], [1, 97, 0]]
set_option maxRecDepth 100000 in
theorem ex_len : (nents (growN exL 0 rootN)).length = 2 := by kernel_rfl
set_option maxRecDepth 100000 in
theorem ex_next : nextR (growN exL 0 rootN) [1, 97, 0] = some [1, 98, 1, 97, 0] := by kernel_rfl
theorem ex_ask {w : World} {b : Nat} {m : No TV} {F : List Nat} (h : TM w b m F) (hm : nextR m [1, 97, 0] = some [1, 98, 1, 97, 0]) :
    Calls Try.prog 25 #[ptr b, .string ⟨#[1, 97, 0]⟩] w fun e w' => e = .returned (.tuple #[.string ⟨#[1, 98, 1, 97, 0]⟩, .bool true]) ∧ Below w.heap.size w w' := by
  have h1 := Next_any h ⟨#[1, 97, 0]⟩ (by decide)
  have e : (⟨#[1, 97, 0]⟩ : ByteArray).data.toList = [1, 97, 0] := rfl
  rw [e, hm] at h1
  exact h1
set_option maxRecDepth 100000 in
set_option maxHeartbeats 1000000 in
theorem grows_any (w : World) : Calls Try.prog 29 #[] w fun e w' => e = .returned (.bool true) ∧ Below w.heap.size w w' := by
  have hrd : Rd (w.alloc (.cells #[.string ⟨#[1, 66, 1, 97, 0]⟩, .string ⟨#[1, 97, 0]⟩] 28)) (w.alloc (.cells #[.string ⟨#[1, 66, 1, 97, 0]⟩, .string ⟨#[1, 97, 0]⟩] 28)).heap.size (.slice (some ⟨w.heap.size, 0, none⟩) 2 2) exL := by
    refine ⟨_, _, rfl, Nat.le_refl _, fun _ => ⟨w.heap.size, 0, rfl, by simp, fun j hj => ?_⟩⟩
    have hj2 : j < 2 := hj
    rw [(Has.fresh w 28 #[.string ⟨#[1, 66, 1, 97, 0]⟩, .string ⟨#[1, 97, 0]⟩]).cell]
    match j, hj2 with
    | 0, _ => rfl
    | 1, _ => rfl
  have hg := grown_any _ (n := 2) rfl hrd (by decide) (by decide)
  simp only [World.size_alloc] at hg
  have HG := Lib.hid hg
  clear hg
  have hlen := ex_len
  have hnext := ex_next
  generalize growN exL 0 rootN = m at *
  have HLEN := Lib.hid hlen
  have HNEXT := Lib.hid hnext
  clear hrd hlen hnext
  go_enter Try.func29, Try.ntmps29
  go_wp2_with (first
    | (go_at_call 22; refine HG.out.mono ?_; rintro e w1 ⟨rfl, ⟨F, hT, hF⟩, hb1, _⟩; have hl := Len_any hT; rw [HLEN.out] at hl; have HL := Lib.hid hl; have HNX := Lib.hid (ex_ask hT HNEXT.out); clear hT hF hl)
    | (go_at_call 11; refine HL.out.mono ?_; rintro e w2 ⟨rfl, rfl⟩)
    | (go_at_call 25; refine HNX.out.mono ?_; rintro e w3 ⟨rfl, hb3⟩))
  go_ret
  have hb2 : Below w.heap.size w w2 := ((Below.refl w.heap.size w).alloc (Nat.le_refl _) _).trans (hb1.mono (by omega))
  exact ⟨rfl, hb2.trans (hb3.mono hb2.size)⟩
end Go.Proofs.Ytpnfkgjcnofjnaa.Ti
