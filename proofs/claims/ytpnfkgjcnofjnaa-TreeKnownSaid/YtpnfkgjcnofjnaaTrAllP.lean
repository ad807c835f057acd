/- What all tells of a node: keys and values in order. Nothing of the program. -/
import Derived.Test.YtpnfkgjcnofjnaaMgTb
import Derived.Test.YtpnfkgjcnofjnaaMgRa
namespace Go.Proofs.Ytpnfkgjcnofjnaa.Tr
open Go.RowKit

variable {V : Type}
def kvo (r : Nd V) : List (By × V) := if r.held then [(r.key, r.val)] else []
def Fo.kvs : Fo V → List (By × V)
  | .nl => []
  | .cons r s n => (kvo r ++ s.kvs) ++ n.kvs
def nkv (n : No V) : List (By × V) := kvo n.1 ++ n.2.kvs
theorem kvs_ents (f : Fo V) : f.kvs = f.ents.map fun e => (e.k, e.v) := by
  induction f with
  | nl => rfl
  | cons r s n ihs ihn =>
    simp only [Fo.kvs, Fo.ents, List.map_append, List.map_map, ihs, ihn]
    congr 2
    unfold kvo own
    split <;> simp [En.up]
theorem nkv_ents (n : No V) : nkv n = (nents n).map fun e => (e.k, e.v) := by
  simp only [nkv, nents, List.map_append, kvs_ents]
  congr 1
  unfold kvo own
  split <;> simp
theorem kvs_kids (f : Fo V) : f.kvs = (f.kids.map nkv).flatten := by
  induction f with
  | nl => rfl
  | cons r s n _ ihn => simp [Fo.kvs, Fo.kids, nkv, ihn]
/-- how many are told ahead of kid i. -/
def pre (n : No V) (i : Nat) : Nat := (kvo n.1).length + ((n.2.kids.take i).map nkv).flatten.length
theorem pre_zero (n : No V) : pre n 0 = (kvo n.1).length := by simp [pre]
theorem pre_succ {n : No V} {i : Nat} {m : No V} (h : n.2.kids[i]? = some m) : pre n (i + 1) = pre n i + (nkv m).length := by
  have ⟨h1, h2⟩ := List.getElem?_eq_some_iff.1 h
  unfold pre
  rw [List.take_succ_eq_append_getElem h1, h2]
  simp
  omega
theorem pre_all (n : No V) {k : Nat} (h : n.2.kids.length ≤ k) : pre n k = (nkv n).length := by
  simp [pre, nkv, kvs_kids, List.take_of_length_le h]
theorem nkv_at {n : No V} {i j : Nat} {m : No V} (h : n.2.kids[i]? = some m) (hj : j < (nkv m).length) : (nkv n)[pre n i + j]? = (nkv m)[j]? := by
  have ⟨h1, h2⟩ := List.getElem?_eq_some_iff.1 h
  have e : nkv n = (kvo n.1 ++ ((n.2.kids.take i).map nkv).flatten) ++ (nkv m ++ ((n.2.kids.drop (i + 1)).map nkv).flatten) := by
    unfold nkv
    rw [kvs_kids]
    conv => lhs; rw [← List.take_append_drop i n.2.kids, List.drop_eq_getElem_cons h1, h2]
    have e2 : nkv m = kvo m.1 ++ m.2.kvs := rfl
    have e3 : (nkv : No V → List (By × V)) = fun n => kvo n.1 ++ n.2.kvs := rfl
    simp [e3]
  rw [e, List.getElem?_append_right (by simp [pre])]
  simp only [pre, List.length_append]
  rw [show (kvo n.1).length + ((n.2.kids.take i).map nkv).flatten.length + j - ((kvo n.1).length + ((n.2.kids.take i).map nkv).flatten.length) = j by omega, List.getElem?_append_left hj]
theorem pre_lt {n : No V} {i j : Nat} {m : No V} (h : n.2.kids[i]? = some m) (hj : j < (nkv m).length) : pre n i + j < (nkv n).length := by
  have h1 := nkv_at h hj
  rw [List.getElem?_eq_getElem hj] at h1
  exact (List.getElem?_eq_some_iff.1 h1).1
theorem kid_ok [Inhabited V] {f : Fo V} (h : f.ok) {m : No V} (hm : m ∈ f.kids) : m.2.ok := by
  induction f with
  | nl => simp [Fo.kids] at hm
  | cons r s n _ ihn =>
    simp only [Fo.kids, List.mem_cons] at hm
    rcases hm with rfl | hm
    · exact h.1
    · exact ihn h.2.1 hm
theorem kid_le {f : Fo V} {m : No V} (hm : m ∈ f.kids) : (nkv m).length ≤ f.kvs.length := by
  induction f with
  | nl => simp [Fo.kids] at hm
  | cons r s n _ ihn =>
    simp only [Fo.kids, List.mem_cons] at hm
    rcases hm with rfl | hm
    · simp [Fo.kvs, nkv]
    · have := ihn hm; simp [Fo.kvs]; omega
end Go.Proofs.Ytpnfkgjcnofjnaa.Tr
namespace Go.Proofs.Ytpnfkgjcnofjnaa
open Go.RowKit
/-- a mark among the deferred calls. -/
abbrev mark (D : Nat) : Deferred := { target := .collected D, args := #[] }
theorem leaves_marks {F : Fence} {n : Nat} {P : Program} {fn : Func} {tmps : Array Value} {R : Ending → World → Prop} (K : World → Prop) {u : FrameMode} : ∀ (ds : List Nat) (W : World), u ≠ .run → ds.Nodup → (∀ D ∈ ds, W.heap[D]? = some (.deferred (some []))) → K W →
    (∀ D ∈ ds, ∀ A, K A → K (A.putObj D (.deferred none))) → (∀ W', K W' → LeavesInM F n P fn tmps R [] u W') → LeavesInM F n P fn tmps R (ds.map mark) u W
  | [], W, _, _, _, hK, _, hR => hR W hK
  | D :: ds, W, hu, hn, hd, hK, hp, hR => by
    refine ⟨hu, .inl ⟨_, _, rfl, run_takeDeferred (hd D (by simp)), ?_⟩⟩
    have hn' := List.nodup_cons.1 hn
    exact leaves_marks K ds _ hu hn'.2 (fun E hE => (World.putObj_heap_other (show E ≠ D from fun e => hn'.1 (by rw [← e]; exact hE))).trans (hd E (by simp [hE]))) (hp D (by simp) _ hK) (fun E hE => hp E (by simp [hE])) hR
end Go.Proofs.Ytpnfkgjcnofjnaa
