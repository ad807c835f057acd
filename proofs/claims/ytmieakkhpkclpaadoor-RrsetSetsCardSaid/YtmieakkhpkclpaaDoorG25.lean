/- Texts of the proofs, merged. -/
import Derived.Test.YtmieakkhpkclpaaDoorG23
import Derived.Shelf.SlSortCmp.NoneTotal
/- slices.SortFunc in plain words: a row of structs is put in order. Nothing of the program. -/
namespace Go.Proofs.YtmieakkhpkclpaaDoor
open Go.RowKit Go.Sort Go.Shelf

theorem fl_val {β : Type} {p : β → Prop} (enc : β → List Value) (l : List {x : β // p x}) : fl (fun x : {x : β // p x} => enc x.1) l = fl enc (l.map Subtype.val) := by
  unfold fl
  rw [List.flatMap_map]
theorem flatK_of {α β : Type} [Inhabited α] [Inhabited β] {e1 : α → List Value} {e2 : β → List Value} {k : Nat} (h1 : ∀ x, (e1 x).length = k) (h2 : ∀ x, (e2 x).length = k) {a : Array α} {b : Array β} (h : fl e1 a.toList = fl e2 b.toList) : flatK e1 k a = flatK e2 k b := by
  apply Array.toList_inj.1
  rw [fl_flatK h1, fl_flatK h2, h]
set_option maxHeartbeats 1000000 in
/-- slices.SortFunc under an order. -/
theorem sort_any {P : Program} {ρ : Ren} (L : SlLaysF0.n6 P ρ) {β : Type} [Inhabited β] {enc : β → List Value} {k : Nat} (hk : ∀ x, (enc x).length = k) (p : β → Prop) (hp0 : p default) (h1 : ∀ x, p x → ∀ v ∈ enc x, v.oneCell' = true)
    (aE : ∀ w, (isAgg (ρ.t 24)).run P w = .ok true w) (zE : ∀ w, (Go.sizeOf (ρ.t 24)).run P w = .ok k w) (cf : β → β → Int) (hc : ∀ a b, cf a b = - cf b a) (ht : ∀ a b d, cf a b ≤ 0 → cf b d ≤ 0 → cf a d ≤ 0) (f : Nat)
    (eg : ∀ args w, (callFunc f args).run P w = .ok (.enter f args) w)
    (hcmp : ∀ x y, p x → p y → ∀ W, Calls P f #[.agg (enc x).toArray, .agg (enc y).toArray] W fun e w' => e = .returned (.int .i64 (cf x y)) ∧ Below W.heap.size W w')
    (g c : Nat) (t : TypeId) (l : List β) (hl : ∀ x ∈ l, p x) (w : World) (hX : HoldsK enc k w g 0 l.toArray) (hg : g < w.heap.size) (hn : l.length ≤ 4294967296) :
    Calls P (ρ.f 6) #[.slice (some ⟨g, 0, none⟩) l.length c, .func (.func f) #[] #[]] w fun e w' => e = .returned (.tuple #[]) ∧ ∃ l' : List β, l'.Perm l ∧ Rr.Up cf l' ∧ HoldsK enc k w' g 0 l'.toArray ∧ w.grownBy w' (some g) ∧ (Has w g t (flatK enc k l.toArray) → Has w' g t (flatK enc k l'.toArray)) := by
  let α := {x : β // p x}
  letI : Inhabited α := ⟨⟨default, hp0⟩⟩
  let ea : α → List Value := fun x => enc x.1
  have hka : ∀ x, (ea x).length = k := fun x => hk x.1
  let ca : α → α → Int := fun x y => cf x.1 y.1
  obtain ⟨l0, hl0⟩ : ∃ l0 : List α, l0.map Subtype.val = l := ⟨l.pmap (fun x h => ⟨x, h⟩) hl, by rw [List.map_pmap]; simp⟩
  have hlen : l0.length = l.length := by rw [← hl0, List.length_map]
  have hflat : flatK ea k l0.toArray = flatK enc k l.toArray := flatK_of hka hk (by rw [List.toList_toArray, List.toList_toArray, ← hl0]; exact fl_val enc l0)
  have hH : HoldsK ea k w g 0 l0.toArray := by
    have : HoldsK enc k w g 0 l.toArray := hX
    unfold HoldsK at *
    rw [hflat]
    exact this
  have hC : CmpLays P f #[] ea k ca g 0 l0.toArray.size w := fun m os dk _ x y => by
    have h := calls_drawn (hcmp x.1 y.1 x.2 y.2 (sortWorldK ea k w g 0 m dk os)) (fun w' h => by cases h.1)
    exact h.mono fun e w' ⟨⟨he, hb⟩, hd⟩ => ⟨he, grow_of hb hd⟩
  have hsz : l0.toArray.size = l.length := by simpa using hlen
  have hcon := AnyQ.slices_SortFunc L k aE zE ea hka (fun x => h1 x.1 x.2) ca (swo_of (fun a b => hc a.1 b.1) (fun a b d => ht a.1 b.1 d.1)) f #[] g 0 c l0.toArray w eg hC hH hg (by rw [hsz]; omega)
  rw [hsz] at hcon
  refine hcon.mono fun e w' ⟨he, d', n, os, hP, hS, hw⟩ => ⟨he, d'.toList.map Subtype.val, ?_⟩
  rw [← hsz] at hP hS
  obtain ⟨hs, hperm⟩ := perm_of hP
  have hup := up_of (c := ca) (fun a b => hc a.1 b.1) hS hs
  have hfl2 : flatK ea k d' = flatK enc k (d'.toList.map Subtype.val).toArray := flatK_of hka hk (by rw [List.toList_toArray]; exact fl_val enc d'.toList)
  obtain ⟨hh, hgr⟩ := sorted_holds hH hg hs hw
  refine ⟨?_, List.pairwise_map.2 hup, ?_, hgr, fun hHas => ?_⟩
  · rw [← hl0]
    have := hperm.map Subtype.val
    simpa using this
  · unfold HoldsK at *
    rw [← hfl2]
    exact hh
  · rw [← hfl2]
    rw [← hflat] at hHas
    exact (row_sorted hHas hs hw).1
end Go.Proofs.YtmieakkhpkclpaaDoor
