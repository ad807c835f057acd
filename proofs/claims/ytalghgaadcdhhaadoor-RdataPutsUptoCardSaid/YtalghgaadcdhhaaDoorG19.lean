/- Texts of the proofs, merged. -/
import Derived.Test.YtalghgaadcdhhaaDoorG15
import Derived.Test.YtalghgaadcdhhaaDoorG12
import Derived.Test.YtalghgaadcdhhaaDoorG4
import Derived.Test.YtalghgaadcdhhaaDoorG7
/- The document's answer on data: Put. -/
namespace Go.Proofs.YtalghgaadcdhhaaDoor
open Go.RowKit

namespace Rd
/-- the bytes that data of a type come to, at a place; hl and ml: the labels of its names. -/
def put (T : Tab) (a t : Nat) (d : Dt) (hl ml : List By) : Tab × By :=
  if t = 2 ∨ t = 5 ∨ t = 12 then Pr.pw false T a hl
  else if t = 15 then ((Pr.pw false T (a + 2) hl).1, Oc.beb 2 d.n0 ++ (Pr.pw false T (a + 2) hl).2)
  else if t = 33 then ((Pr.pw true T (a + 6) hl).1, Oc.beb 2 d.n0 ++ (Oc.beb 2 d.n1 ++ (Oc.beb 2 d.n2 ++ (Pr.pw true T (a + 6) hl).2)))
  else if t = 6 then ((Pr.pw false (Pr.pw false T a hl).1 (a + (Pr.pw false T a hl).2.length) ml).1, (Pr.pw false T a hl).2 ++ ((Pr.pw false (Pr.pw false T a hl).1 (a + (Pr.pw false T a hl).2.length) ml).2 ++ (Oc.beb 4 d.n0 ++ (Oc.beb 4 d.n1 ++ (Oc.beb 4 d.n2 ++ (Oc.beb 4 d.n3 ++ Oc.beb 4 d.n4))))))
  else (T, d.raw)
end Rd
/-- while data are being written. -/
def PS (w : World) (g base : Nat) (T : Tab) (d : Dv) (l : List UInt8) (n : Nat) (v : Value) (W : World) : Prop :=
  RT W g base T ∧ W.ownsRow w.heap.size 5 1 v n (bv l) ∧ n = l.length ∧ Has W w.heap.size 27 d.cells ∧ Rk base w W
theorem rdPlain_of {p v s : Value} {w : World} {z : Int} {K : Value → World → Prop} (h : Calls Tryd.prog 74 #[p, v, s, .bool true] w fun e w' => ∃ x, e = .returned (.tuple #[x, .int .i64 z]) ∧ K x w') :
    Calls Tryd.prog 40 #[p, v, s] w fun e w' => ∃ x, e = .returned (.tuple #[x, .int .i64 z]) ∧ K x w' := by
  have HP := Lib.hid h
  clear h
  go_enter Tryd.func40, Tryd.ntmps40
  go_wp2_with (go_at_call 74; refine HP.out.mono ?_; rintro e w1 ⟨x, rfl, hk⟩)
  go_ret2
  exact ⟨x, rfl, hk⟩
theorem rdPutN_of {p v s : Value} {w : World} {z : Int} {K : Value → World → Prop} (h : Calls Tryd.prog 74 #[p, v, s, .bool false] w fun e w' => ∃ x, e = .returned (.tuple #[x, .int .i64 z]) ∧ K x w') :
    Calls Tryd.prog 38 #[p, v, s] w fun e w' => ∃ x, e = .returned (.tuple #[x, .int .i64 z]) ∧ K x w' := by
  have HP := Lib.hid h
  clear h
  go_enter Tryd.func38, Tryd.ntmps38
  go_wp2_with (go_at_call 74; refine HP.out.mono ?_; rintro e w1 ⟨x, rfl, hk⟩)
  go_ret2
  exact ⟨x, rfl, hk⟩
theorem own_nilA {w : World} {b n c : Nat} {e : TypeId} {A : Option Addr} {xs : List Value} (h : w.ownsRow b e 1 (.slice A n c) n xs) (hA : A = none) : c = 0 := by
  subst hA
  rcases h.2 with ⟨hv, _⟩ | ⟨g, cap, cur, hv, _⟩
  · injection hv
  · injection hv with h1; cases h1
section
variable {w W : World} {g base : Nat} {T : Tab} {d : Dv} {l : List UInt8} {n c : Nat} {A : Option Addr}
theorem ps_bs (h : PS w g base T d l n (.slice A n c) W) : Bs W 0 W.heap.size A l := (Bs.of_own h.2.1).more (Nat.zero_le _) (Nat.le_refl _)
theorem ps_two (h : PS w g base T d l n (.slice A n c) W) (hb : base ≤ w.heap.size) (x : Nat) (hx : x ≤ 4294967295) (hn : n ≤ 140737488000000) :
    Calls Tryd.prog 39 #[.slice A n c, .int .u32 x, .int .i64 2] W fun e W' => ∃ g' c', e = .returned (.slice (some ⟨g', 0, none⟩) (n + 2) c') ∧ PS w g base T d (l ++ Oc.beb 2 x) (n + 2) (.slice (some ⟨g', 0, none⟩) (n + 2) c') W' := by
  have hB := ps_bs h
  obtain ⟨h1, h2, rfl, h4, h5⟩ := h
  refine (refPut_2 A l c x W (own_nilA h2) (by omega) (by omega) 0 hB).mono fun e W' ⟨g', c', he, ho, hlow⟩ => ⟨g', c', he, h1.below hlow, own_mono ho h5.below.size, by simp [Oc.beb_length], h4.below hlow h4.lt, h5.more (hlow.mono h5.below.size) hb⟩
theorem ps_four (h : PS w g base T d l n (.slice A n c) W) (hb : base ≤ w.heap.size) (x : Nat) (hx : x ≤ 4294967295) (hn : n ≤ 140737488000000) :
    Calls Tryd.prog 39 #[.slice A n c, .int .u32 x, .int .i64 4] W fun e W' => ∃ g' c', e = .returned (.slice (some ⟨g', 0, none⟩) (n + 4) c') ∧ PS w g base T d (l ++ Oc.beb 4 x) (n + 4) (.slice (some ⟨g', 0, none⟩) (n + 4) c') W' := by
  have hB := ps_bs h
  obtain ⟨h1, h2, rfl, h4, h5⟩ := h
  refine (refPut_4 A l c x W (own_nilA h2) (by omega) (by omega) 0 hB).mono fun e W' ⟨g', c', he, ho, hlow⟩ => ⟨g', c', he, h1.below hlow, own_mono ho h5.below.size, by simp [Oc.beb_length], h4.below hlow h4.lt, h5.more (hlow.mono h5.below.size) hb⟩
/-- what a name's writing leaves. -/
def PsName (plain : Bool) (w : World) (g base : Nat) (T : Tab) (d : Dv) (l : List UInt8) (n : Nat) (ls : List (List UInt8)) (v : Value) (W' : World) : Prop :=
  ∃ A' n' c', v = .slice A' n' c' ∧ n' ≤ n + 256 ∧ n' = n + (Pr.pw plain T n ls).2.length ∧ PS w g base (Pr.pw plain T n ls).1 d (l ++ (Pr.pw plain T n ls).2) n' (.slice A' n' c') W'
theorem ps_put (plain : Bool) (h : PS w g base T d l n (.slice A n c) W) (hb : base ≤ w.heap.size) (hg : base ≤ g) (hmax : ∀ x ∈ T, x.2 ≤ 16383) (hT : T.length ≤ 8796093000000) {s : ByteArray} {ls : List (List UInt8)} (hs : Nm.split s.data.toList = some ls) (hn : n ≤ 140737488000000) :
    Calls Tryd.prog 74 #[.pointer (some ⟨g, 0, none⟩), .slice A n c, .string s, .bool plain] W fun e W' => ∃ v, e = .returned (.tuple #[v, .int .i64 0]) ∧ PsName plain w g base T d l n ls v W' := by
  have hB := ps_bs h
  obtain ⟨h1, h2, rfl, h4, h5⟩ := h
  obtain ⟨hgl, hgd, h255⟩ := Nm.split_some.1 hs
  have hsz := h5.below.size
  refine (rput_in g base T A l c s plain ls W h1 hg (by omega) hmax hs (own_nilA h2) (by omega) hB (by omega)).mono fun e W' hd => ?_
  obtain ⟨v, rfl, d1, d2, d3⟩ := hd
  obtain ⟨A', c', rfl⟩ := own_form d1
  have p3 := (Pr.pw_len plain ls T l.length).2.2.1 hgd
  have hlen : (l ++ (Pr.pw plain T l.length ls).2).length = l.length + (Pr.pw plain T l.length ls).2.length := List.length_append
  refine ⟨_, rfl, A', _, c', rfl, by rw [hgl] at h255; omega, hlen, d2, own_mono d1 hsz, rfl, d3.has h4 rfl, h5.trans d3⟩
end
end Go.Proofs.YtalghgaadcdhhaaDoor
/- What the parts of data come to: the document's bytes. Nothing of the program. -/
namespace Go.Proofs.YtalghgaadcdhhaaDoor.Rd

theorem wrs_put (T : Tab) (l : By) (t : Nat) (d : Dt) (hl ml : List By) : (wrs T l d hl ml (parts t)).1 = (put T l.length t d hl ml).1 ∧ (wrs T l d hl ml (parts t)).2.1 = l ++ (put T l.length t d hl ml).2 := by
  refine by_type (P := fun t => (wrs T l d hl ml (parts t)).1 = (put T l.length t d hl ml).1 ∧ (wrs T l d hl ml (parts t)).2.1 = l ++ (put T l.length t d hl ml).2) ?_ ?_ ?_ ?_ ?_ ?_ ?_ ?_ ?_ (fun t a b c e f g h i j => ?_) t
  all_goals first
    | (rw [parts_other a b c e f g h i j]; simp [wrs, wr1, put, hasN, b, c, e, f, g, j])
    | (simp [parts, wrs, wr1, put, hasN, Oc.beb_length, List.append_assoc])
theorem parts_some (t : Nat) : ∃ p ∈ parts t, p ≠ 0 := by
  refine by_type (P := fun t => ∃ p ∈ parts t, p ≠ 0) ?_ ?_ ?_ ?_ ?_ ?_ ?_ ?_ ?_ (fun t a b c d e f g h i => ?_) t
  all_goals first
    | (rw [parts_other a b c d e f g h i]; decide)
    | decide
end Go.Proofs.YtalghgaadcdhhaaDoor.Rd
