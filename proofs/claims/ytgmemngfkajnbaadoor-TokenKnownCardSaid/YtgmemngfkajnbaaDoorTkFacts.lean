/- What a text tells: every entry has words, and there are no more of either than bytes. Pure. -/
import Derived.Test.YtgmemngfkajnbaaDoorTkTwo
namespace Go.Proofs.YtgmemngfkajnbaaDoor.Tk

theorem wf_pos {p : Pc} (h : p.wf) : 1 ≤ p.raw.length := by
  cases p with
  | ch c => exact Nat.le_refl _
  | rem b => obtain ⟨_, r, rfl⟩ := h; simp [Pc.raw]
  | bare b => obtain ⟨_, c, r, rfl, _⟩ := h; simp [Pc.raw]
  | quo b => simp [Pc.raw]
  | bad b => obtain ⟨r, rfl, _⟩ := h; simp [Pc.raw]
theorem wf_count : ∀ (ps : List Pc), (∀ p ∈ ps, p.wf) → ps.length ≤ (raws ps).length
  | [], _ => Nat.zero_le _
  | p :: ps, h => by
    have h1 := wf_pos (h p (by simp))
    have h2 := wf_count ps (fun q hq => h q (by simp [hq]))
    rw [raws_cons, List.length_append, List.length_cons]
    omega
theorem lx_count (l : By) : (lx l).length ≤ l.length := by
  have h := wf_count (lx l) (lx_wf l)
  rwa [raws_lx] at h
/-- what holds of a state, and of what it tells. -/
structure Fit (n : Nat) (σ : St) : Prop where
  es : σ.es.length ≤ n
  ws : σ.ws.length ≤ n
  each : ∀ e ∈ σ.es, e.words ≠ [] ∧ e.words.length ≤ n
theorem Fit.more {n m : Nat} {σ : St} (h : Fit n σ) (hm : n ≤ m) : Fit m σ := ⟨by have := h.es; omega, by have := h.ws; omega, fun e he => ⟨(h.each e he).1, by have := (h.each e he).2; omega⟩⟩
theorem Fit.done {n : Nat} {σ : St} (h : Fit n σ) : σ.done.length ≤ n + 1 ∧ ∀ e ∈ σ.done, e.words ≠ [] ∧ e.words.length ≤ n := by
  unfold St.done
  split
  · exact ⟨by have := h.es; omega, h.each⟩
  · rename_i hne
    refine ⟨by have := h.es; simp; omega, fun e he => ?_⟩
    rcases List.mem_append.1 he with he | he
    · exact h.each e he
    · rw [List.mem_singleton.1 he]
      exact ⟨hne, h.ws⟩
theorem Fit.nl {n : Nat} {σ : St} (h : Fit n σ) (b : Bool) : Fit (n + 1) (σ.nl b) := by
  unfold St.nl
  split
  · exact ⟨h.done.1, by simp, fun e he => ⟨(h.done.2 e he).1, by have := (h.done.2 e he).2; omega⟩⟩
  · exact ⟨by have := h.es; simp; omega, by have := h.ws; simp; omega, fun e he => ⟨(h.each e he).1, by have := (h.each e he).2; omega⟩⟩
theorem Fit.put {n : Nat} {σ : St} (h : Fit n σ) (b : By) (q : Bool) (k : Nat) : Fit (n + 1) (σ.put b q k) :=
  ⟨by have := h.es; simp [St.put]; omega, by have := h.ws; simp [St.put]; omega, fun e he => ⟨(h.each e he).1, by have := (h.each e he).2; omega⟩⟩
theorem play_fit : ∀ (ps : List Pc) (σ : St) (n : Nat) (es : List En), Fit n σ → play ps σ = .ok es → es.length ≤ n + ps.length + 1 ∧ ∀ e ∈ es, e.words ≠ [] ∧ e.words.length ≤ n + ps.length
  | [], σ, n, es, h, hp => by
    rw [play] at hp
    split at hp
    · injection hp with hp
      subst hp
      exact ⟨h.done.1, h.done.2⟩
    · cases hp
  | .bad _ :: ps, σ, n, es, h, hp => by rw [play] at hp; cases hp
  | .ch c :: ps, σ, n, es, h, hp => by
    have e1 : n + (Pc.ch c :: ps).length = n + 1 + ps.length := by simp; omega
    rw [e1]
    rw [play] at hp
    split at hp
    · exact play_fit ps _ _ _ (h.nl _) hp
    split at hp
    · exact play_fit ps σ.op _ _ ((show Fit n σ.op from ⟨h.es, h.ws, h.each⟩).more (Nat.le_succ n)) hp
    split at hp
    · split at hp
      · cases hp
      · exact play_fit ps σ.cl _ _ ((show Fit n σ.cl from ⟨h.es, h.ws, h.each⟩).more (Nat.le_succ n)) hp
    · exact play_fit ps (σ.go 1) _ _ ((show Fit n (σ.go 1) from ⟨h.es, h.ws, h.each⟩).more (Nat.le_succ n)) hp
  | .rem b :: ps, σ, n, es, h, hp => by
    have e1 : n + (Pc.rem b :: ps).length = n + 1 + ps.length := by simp; omega
    rw [e1]
    rw [play] at hp
    exact play_fit ps (σ.go b.length) _ _ ((show Fit n (σ.go b.length) from ⟨h.es, h.ws, h.each⟩).more (Nat.le_succ n)) hp
  | .bare b :: ps, σ, n, es, h, hp => by
    have e1 : n + (Pc.bare b :: ps).length = n + 1 + ps.length := by simp; omega
    rw [e1]
    rw [play] at hp
    exact play_fit ps _ _ _ (h.put _ _ _) hp
  | .quo b :: ps, σ, n, es, h, hp => by
    have e1 : n + (Pc.quo b :: ps).length = n + 1 + ps.length := by simp; omega
    rw [e1]
    rw [play] at hp
    exact play_fit ps _ _ _ (h.put _ _ _) hp
theorem tells_fit {l : By} {es : List En} (h : tells l = .ok es) : es.length ≤ l.length + 1 ∧ ∀ e ∈ es, e.words ≠ [] ∧ e.words.length ≤ l.length := by
  have h1 := play_fit (lx l) (start l) 0 es ⟨Nat.le_refl _, Nat.le_refl _, by simp [start]⟩ h
  have h2 := lx_count l
  exact ⟨by omega, fun e he => ⟨(h1.2 e he).1, by have := (h1.2 e he).2; omega⟩⟩
/-- what is told, an error or none. -/
def entsOf : Rs → List En
  | .err _ _ _ => []
  | .ok es => es
def lineOf : Rs → Nat
  | .err l _ _ => l
  | .ok _ => 0
def colOf : Rs → Nat
  | .err _ c _ => c
  | .ok _ => 0
def errOf : Rs → Nat
  | .err _ _ x => x
  | .ok _ => 0
theorem ents_fit (l : By) : (entsOf (tells l)).length ≤ l.length + 1 ∧ ∀ e ∈ entsOf (tells l), e.words ≠ [] ∧ e.words.length ≤ l.length := by
  rcases h : tells l with ⟨a, b, c⟩ | es
  · simp [entsOf]
  · exact tells_fit h
end Go.Proofs.YtgmemngfkajnbaaDoor.Tk
