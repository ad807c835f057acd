/- Texts of the proofs, merged. -/
import Derived.Test.YtmieakkhpkclpaaDoorG2
import Derived.Deep.MidRow
import Derived.Calls
import Derived.Below
import Derived.Deep.Draws
import Derived.Sort.Grow
/- Slices of structs as they lie in memory: read only, or a row of the call's own. Nothing of the program. -/
namespace Go.Proofs.YtmieakkhpkclpaaDoor
open Go.RowKit

/-- structs of k cells that stand from a slice's head on, in a block from lo on and below hi. -/
def Srow {α : Type} (enc : α → List Value) (k : Nat) (w : World) (lo hi : Nat) (A : Option Addr) (xs : List α) : Prop :=
  0 < xs.length → ∃ g o, A = some ⟨g, o, none⟩ ∧ lo ≤ g ∧ g < hi ∧ ∀ j (h : j < xs.length), w.rangeAt g (o + j * k) (enc xs[j])
theorem range_below {B : Nat} {w w' : World} (hb : Below B w w') {g o : Nat} (hg : g < B) {vs : List Value} (h : w.rangeAt g o vs) : w'.rangeAt g o vs := fun j v hj => by
  have := h j v hj
  first
    | exact (hb.cell (p := ⟨g, o + j, none⟩) hg).trans this
    | (rw [← this]; exact hb.cell (p := ⟨g, o + j, none⟩) hg)
section
variable {α : Type} {enc : α → List Value} {k : Nat} {w w' : World} {lo hi lo' hi' : Nat} {A : Option Addr} {xs : List α}
theorem Srow.nil : Srow enc k w lo hi A [] := fun h => absurd h (by simp)
theorem Srow.keep (h : Srow enc k w lo hi A xs) (hb : Below hi w w') : Srow enc k w' lo hi A xs := fun h0 => by
  obtain ⟨g, o, rfl, hlo, hhi, hc⟩ := h h0
  exact ⟨g, o, rfl, hlo, hhi, fun j hj => range_below hb hhi (hc j hj)⟩
theorem Srow.more (h : Srow enc k w lo hi A xs) (h1 : lo' ≤ lo) (h2 : hi ≤ hi') : Srow enc k w lo' hi' A xs := fun h0 => by
  obtain ⟨g, o, rfl, hlo, hhi, hc⟩ := h h0
  exact ⟨g, o, rfl, by omega, by omega, hc⟩
theorem Srow.at_ (h : Srow enc k w lo hi A xs) {j : Nat} (hj : j < xs.length) : ∃ g o, A = some ⟨g, o, none⟩ ∧ lo ≤ g ∧ g < hi ∧ w.rangeAt g (o + j * k) (enc xs[j]) := by
  obtain ⟨g, o, rfl, hlo, hhi, hc⟩ := h (by omega)
  exact ⟨g, o, rfl, hlo, hhi, hc j hj⟩
end
theorem Has.farCells {w : World} {g : Nat} {t : TypeId} {cs : Array Value} (h : Has w g t cs) {g' : Nat} (hp : g ≠ g') : ∀ (vs : List Value) (o : Nat), Has (w.setCells g' o vs) g t cs
  | [], _ => h
  | v :: r, o => by
    rw [World.setCells]
    exact Has.farCells (w := w.setCell ⟨g', o, none⟩ v) (h.far (p := ⟨g', o, none⟩) hp v) hp r (o + 1)
end Go.Proofs.YtmieakkhpkclpaaDoor
/- The count of draws never falls, whatever a machine does: so a call that leaves what there was leaves a world that is grown. Nothing of the program. -/
namespace Go.Proofs.YtmieakkhpkclpaaDoor
open Go.RowKit

section
/-- the draws in a result's world. -/
def rdr {α : Type} : Result α → Nat
  | .ok _ w => w.drawn
  | .halt _ w => w.drawn
theorem ask_drawn {α : Type} (k : Ask α) : ∀ w : World, w.drawn ≤ (w.ask k).2.drawn := by
  induction k with
  | done a => exact fun w => Nat.le_refl _
  | ask what range k ih =>
    intro w
    unfold World.ask
    simp only
    split
    · exact ih _ _
    · exact Nat.le_trans (Nat.le_succ _) (ih _ { w with drawn := w.drawn + 1 })
theorem sys_drawn (w : World) (c : Sys) : w.drawn ≤ (w.sys c).2.drawn := by
  have h := ask_drawn (Kernel.perform c w.os) w
  unfold World.sys
  generalize w.ask (Kernel.perform c w.os) = r at h ⊢
  obtain ⟨⟨x, os⟩, w'⟩ := r
  split
  · exact Nat.le_refl _
  · rename_i e
    cases e
    exact h
theorem viewStore_drawn {p : Program} {w w' : World} {at_ : Addr} {u : TypeId} {k : Addr} {v : Value} {b : Bool} {l : List Addr} (h : w.viewStore p at_ u k v b = .ok (w', l)) : w'.drawn = w.drawn := by
  unfold World.viewStore at h
  simp only [bind, Except.bind, pure, Except.pure] at h
  repeat' (split at h)
  all_goals first | (cases h; done) | (cases h; rfl)
theorem farStore_drawn {p : Program} {w w' : World} {a : Addr} {v : Value} {b : Bool} {l : List Addr} (h : w.farStore p a v b = .ok (w', l)) : w'.drawn = w.drawn := by
  unfold World.farStore at h
  split at h
  · split at h
    · rename_i e
      cases h
      exact viewStore_drawn e
    · cases h
  · cases h
theorem run_drawn {α : Type} (p : Program) (s : Sem α) : ∀ w : World, w.drawn ≤ rdr (s.run p w) := by
  induction s with
  | pure a => exact fun w => Nat.le_refl _
  | load m a k ih =>
    intro w
    simp only [Sem.run]
    split
    · exact ih _ _
    · split
      · exact ih _ _
      · exact Nat.le_refl _
  | store m a v k ih =>
    intro w
    cases v
    all_goals
      (simp only [Sem.run]
       repeat' split
       all_goals first
         | exact Nat.le_refl _
         | exact ih _
         | exact ih (World.setCell _ _ _)
         | (rename_i e; exact Nat.le_trans (Nat.le_of_eq (farStore_drawn e).symm) (ih _)))
  | new o k ih => exact fun w => ih _ { w with heap := w.heap.push o }
  | shape r k ih => exact fun w => ih _ _
  | freeze a n k ih =>
    intro w
    have e : (w.freeze a n).drawn = w.drawn := by
      unfold World.freeze
      repeat' split
      all_goals rfl
    simp only [Sem.run]
    exact Nat.le_trans (Nat.le_of_eq e.symm) (ih _)
  | frozen a k ih => exact fun w => ih _ _
  | getObj r k ih =>
    intro w
    simp only [Sem.run]
    repeat' split
    all_goals first | exact Nat.le_refl _ | exact ih _ _
  | setObj r o k ih =>
    intro w
    simp only [Sem.run]
    repeat' split
    all_goals first | exact Nat.le_refl _ | exact ih { w with heap := w.heap.setIfInBounds r o }
  | choose q k ih =>
    intro w
    simp only [Sem.run]
    split
    · exact ih _ _
    · exact Nat.le_trans (Nat.le_succ _) (ih _ { w with drawn := w.drawn + 1 })
  | sys c k ih =>
    intro w
    simp only [Sem.run]
    exact Nat.le_trans (sys_drawn w c) (ih _ _)
  | program k ih => exact fun w => ih _ _
  | mark m k ih => exact fun w => ih _
  | halt h => exact fun w => Nat.le_refl _
/-- the draws behind a goroutine's step. -/
def gdr (d : Nat) : GStep → Prop
  | .go _ w _ | .comm _ _ _ _ w _ | .spawn _ _ w _ | .count _ w _ | .timer _ _ w _ | .alone _ _ w _ | .newcoro _ _ _ w _ | .coroswitch _ _ _ w _ | .collect _ w _ | .watch _ w _ => d ≤ w.drawn
  | .ended _ _ _ => True
theorem gdr_after (d : Nat) (es : Array Event) (s : GStep) : gdr d (GStep.after es s) ↔ gdr d s := by cases s <;> exact Iff.rfl
theorem gdr_mono {d d' : Nat} {s : GStep} (h : gdr d' s) (hd : d ≤ d') : gdr d s := by
  cases s <;> first | exact Nat.le_trans hd h | trivial
theorem gdr_ite {c : Prop} [Decidable c] {a b : GStep} {d : Nat} (ha : gdr d a) (hb : gdr d b) : gdr d (if c then a else b) := by split <;> assumption
theorem gdr_dieOf (fr : Frame) (a : List ByteArray) (m : String) (b : Bool) (w : World) : gdr w.drawn (dieOf fr a m b w) := Nat.le_refl _
theorem gdr_throw (fr : Frame) (m : String) (w : World) : gdr w.drawn (endThrow fr m w) := Nat.le_refl _
theorem gdr_endWith (d : Nat) (w : World) (fd : Nat) (t : ByteArray) (o : Outcome) : gdr d (endWith w fd t o) := by
  unfold endWith
  simp only
  repeat' split
  all_goals trivial
theorem gdr_printing (p : Program) (fr : Frame) (v : Value) (w : World) : gdr w.drawn (endPrinting p fr v w) := by
  unfold endPrinting
  simp only
  split
  · exact gdr_throw _ _ _
  · trivial
theorem gdr_fatal (p : Program) (fr : Frame) (cs : List Frame) (dy : Option Dying) (m : String) (w : World) : gdr w.drawn (endFatal p fr cs dy m w) := by
  unfold endFatal
  extract_lets chain raw shown
  have h := run_drawn p shown w
  generalize Sem.run p shown w = r at h ⊢
  split
  · exact gdr_mono (gdr_dieOf _ _ _ _ _) h
  · trivial
  · trivial
theorem gdr_doReturn (p : Program) (mn : Bool) (fr : Frame) (cs : List Frame) (dy : Option Dying) (v : Value) (w : World) : gdr w.drawn (doReturn p mn fr cs dy v w) := by
  unfold doReturn
  repeat' split
  all_goals first | exact Nat.le_refl _ | trivial
theorem gdr_deferred (p : Program) (fr : Frame) (cs : List Frame) (dy : Option Dying) (d : Deferred) (w : World) : gdr w.drawn (callDeferred p fr cs dy d w) := by
  unfold callDeferred
  refine gdr_ite trivial ?_
  simp only [Sem.runT_eq, gdr_after]
  have h := run_drawn p (invoke d.target d.args) w
  generalize Sem.run p (invoke d.target d.args) w = r at h ⊢
  repeat' split
  all_goals first | exact h | trivial | exact gdr_mono (gdr_fatal ..) h | exact gdr_mono (gdr_throw ..) h
theorem gdr_unwind (p : Program) (mn : Bool) (fr : Frame) (cs : List Frame) (dy : Option Dying) (w : World) : gdr w.drawn (unwind p mn fr cs dy w) := by
  unfold unwind
  split
  · rename_i block _ _ _
    simp only [Sem.runT_eq, gdr_after]
    have h := run_drawn p (Instr.takeDeferred block) w
    generalize Sem.run p (Instr.takeDeferred block) w = r at h ⊢
    split
    · exact h
    · trivial
  · exact gdr_deferred ..
  · split
    · trivial
    · split
      · trivial
      split
      · exact Nat.le_refl _
      · split
        · rename_i chain _ _ _ _
          split
          · exact Nat.le_refl _
          have h := run_drawn p (reportChain chain false) w
          generalize Sem.run p (reportChain chain false) w = r at h ⊢
          split
          · exact h
          · trivial
          · trivial
        · split
          · exact gdr_printing ..
          · trivial
    · split
      · exact gdr_doReturn ..
      · rename_i fn _
        simp only [Sem.runT_eq, gdr_after]
        have h := run_drawn p (results fn fr.tmps) w
        generalize Sem.run p (results fn fr.tmps) w = r at h ⊢
        split
        · exact gdr_mono (gdr_doReturn ..) h
        · trivial
        · trivial
theorem runT_drawn {α : Type} {p : Program} {s : Sem α} {w : World} {r : Result α × Array Event} (h : s.runT p w #[] = r) : w.drawn ≤ rdr r.1 := by
  rw [← h, Sem.runT_fst]
  exact run_drawn p s w
theorem gdr_writeOn (p : Program) (fr : Frame) (d : Dying) (f : Fatal) (w : World) : gdr w.drawn (writeOn p fr d f w) := by
  unfold writeOn
  extract_lets on
  have hon : ∀ s f (w' : World) es, w.drawn ≤ w'.drawn → gdr w.drawn (on s f w' es) := fun _ _ _ _ h => h
  split
  · trivial
  · extract_lets j1 j2 j3 j4 write
    have h : w.drawn ≤ rdr (Sem.runT p write w #[]).1 := runT_drawn rfl
    generalize Sem.runT p write w #[] = q at h ⊢
    split
    · exact hon _ _ _ _ h
    · exact hon _ _ _ _ h
    · trivial
    · trivial
theorem gdr_die (p : Program) (fr : Frame) (d : Dying) (w : World) : gdr w.drawn (die p fr d w) := by
  unfold die
  split
  · exact gdr_writeOn ..
  · split
    · split
      · exact Nat.le_refl _
      · exact gdr_endWith ..
    · simp only
      split
      · exact Nat.le_refl _
      · rename_i s _
        have h := run_drawn p (withAddress s) w
        generalize Sem.run p (withAddress s) w = r at h ⊢
        split
        · exact h
        · trivial
      · rename_i t recv name _
        simp only [Sem.runT_eq, gdr_after]
        have h := run_drawn p (invoke (.fn (.method name) #[]) #[.iface t recv]) w
        generalize Sem.run p (invoke (.fn (.method name) #[]) #[.iface t recv]) w = r at h ⊢
        split
        · exact h
        · exact h
        · trivial
        · exact gdr_mono (gdr_printing ..) h
        · trivial
      · trivial
theorem gdr_early (p : Program) (fr : Frame) (cs : List Frame) (dy : Option Dying) (g : Nat) (w : World) : gdr w.drawn (early p fr cs dy g w) := by
  unfold early
  extract_lets refuse notYet
  have hn : ∀ w' : World, w.drawn ≤ w'.drawn → gdr w.drawn (notYet w') := fun w' h => by
    show gdr w.drawn (match w'.heap[g]? with
      | some (.pending c elem) => _
      | _ => _)
    split
    · exact h
    · trivial
  split
  · exact hn _ (Nat.le_refl _)
  split
  · trivial
  · extract_lets there
    have ht : ∀ w' : World, w.drawn ≤ w'.drawn → gdr w.drawn (there w') := fun w' h => h
    split
    · exact hn _ (Nat.le_refl _)
    split
    · exact hn _ (Nat.le_refl _)
    split
    · trivial
    · exact ht _ (Nat.le_refl _)
    · trivial
    · exact hn _ (Nat.le_refl _)
    · split
      · exact ht _ (Nat.le_refl _)
      split
      · exact hn _ (Nat.le_refl _)
      have h := run_drawn p (choose (.early g)) w
      generalize Sem.run p (choose (.early g)) w = r at h ⊢
      split
      · exact hn _ h
      · exact ht _ h
      · trivial
theorem gdr_apply (p : Program) (fr : Frame) (cs : List Frame) (dy : Option Dying) (s : Sem Next) (w : World) (l : Bool) : gdr w.drawn (stepG.apply p l fr cs dy s w) := by
  unfold stepG.apply
  have h := run_drawn p s w
  have hr : (if l = true then s.runT p w #[] else (s.run p w, #[])).1 = s.run p w := by split <;> simp [Sem.runT_eq]
  generalize (if l = true then s.runT p w #[] else (s.run p w, #[])) = q at hr ⊢
  obtain ⟨r, es⟩ := q
  simp only at hr
  subst hr
  simp only [gdr_after]
  generalize Sem.run p s w = r at h ⊢
  repeat' split
  all_goals first | exact h | trivial | exact gdr_mono (gdr_fatal ..) h | exact gdr_mono (gdr_throw ..) h | exact gdr_mono (gdr_early ..) h
theorem gdr_oper (p : Program) (fr : Frame) (cs : List Frame) (dy : Option Dying) (w : World) (l : Bool) : gdr w.drawn (stepG.oper p l fr cs dy w) := by
  unfold stepG.oper
  split
  · trivial
  · split <;> exact gdr_apply ..
theorem gdr_exec (p : Program) (mn l : Bool) (fr : Frame) (cs : List Frame) (dy : Option Dying) (w : World) : gdr w.drawn (stepG.exec p mn l fr cs dy w) := by
  unfold stepG.exec
  extract_lets go to lost leave
  have hg : ∀ (f : Frame) (w' : World), w.drawn ≤ w'.drawn → gdr w.drawn (go f w') := fun _ _ h => h
  have hto : ∀ k, gdr w.drawn (to k) := fun _ => Nat.le_refl _
  have hlv : ∀ j, gdr w.drawn (leave j) := fun j => by
    simp only [leave]
    split
    · exact gdr_ite (hg _ _ (Nat.le_refl _)) trivial
    · rename_i l' _
      simp only [Sem.runT_eq, gdr_after]
      have h := run_drawn p (Instr.endRound l' j) w
      generalize Sem.run p (Instr.endRound l' j) w = r at h ⊢
      split
      · exact gdr_mono (gdr_doReturn ..) h
      · trivial
  split
  all_goals try (first | exact hlv _ | exact hto _ | trivial | exact gdr_apply .. | exact hg _ _ (Nat.le_refl _))
  case h_1 => exact hlv none
  case h_2 => exact hlv (some .ret)
  case h_8 =>
    split
    · exact hto _
    · trivial
  case h_13 id k _ => cases exitTo id k <;> simp only [Option.elim] <;> first | exact hlv (some (.exit id)) | exact hto _
  case h_14 l' k _ => cases gotoIn l' k <;> simp only [Option.elim] <;> first | exact hlv (some (.goto l')) | exact hto _
  case h_15 f params assign body k _ =>
    simp only [Sem.runT_eq, gdr_after]
    have h := run_drawn p (Instr.enterLoop fr.fn fr.tmps params assign body fr.roundOf) w
    generalize Sem.run p (Instr.enterLoop fr.fn fr.tmps params assign body fr.roundOf) w = r at h ⊢
    split
    · exact gdr_mono (gdr_apply ..) h
    · trivial
  case h_18 l' k _ =>
    simp only [Sem.runT_eq, gdr_after]
    have h := run_drawn p (Instr.endLoop l') w
    generalize Sem.run p (Instr.endLoop l') w = r at h ⊢
    split
    · exact h
    · exact h
    · trivial
  case h_21 row args k _ => cases Extern.next row <;> first | trivial | exact gdr_apply ..
  case h_22 id ops draw k _ =>
    refine gdr_ite (hto _) ?_
    have h := run_drawn p (choose (.order fr.fn id)) w
    generalize Sem.run p (choose (.order fr.fn id)) w = r at h ⊢
    split
    · exact h
    · trivial
  case h_24 => exact gdr_ite (gdr_oper ..) (hg _ _ (Nat.le_refl _))
theorem gdr_step (p : Program) (mn : Bool) (g : Goroutine) (w : World) (l : Bool) : gdr w.drawn (stepG p mn g w l) := by
  unfold stepG
  simp only
  split
  · exact gdr_die ..
  · exact gdr_exec ..
  · exact gdr_unwind ..
/-- the draws behind a machine's step. -/
def sdr (d : Nat) : Stepped → Prop
  | .next m => d ≤ m.world.drawn
  | .ended _ _ => True
theorem sdr_mono {d d' : Nat} {s : Stepped} (h : sdr d' s) (hd : d ≤ d') : sdr d s := by
  cases s <;> first | exact Nat.le_trans hd h | trivial
theorem sdr_ite {c : Prop} [Decidable c] {a b : Stepped} {d : Nat} (ha : sdr d a) (hb : sdr d b) : sdr d (if c then a else b) := by split <;> assumption
theorem sdr_look (p : Program) (gs : Array Goroutine) (rest : Rest) (w : World) : sdr w.drawn (look p gs rest w) := by
  unfold look
  split
  · extract_lets
    refine sdr_ite trivial ?_
    · extract_lets
      split
      · trivial
      · extract_lets p1 p2 pick
        have h := run_drawn p pick w
        generalize Sem.run p pick w = r at h ⊢
        split
        · exact h
        · trivial
        · trivial
  · trivial
theorem sdr1_ite {β : Type} {c : Prop} [Decidable c] {a b : Stepped × β} {d : Nat} (ha : sdr d a.1) (hb : sdr d b.1) : sdr d (if c then a else b).1 := by split <;> assumption
theorem sdr_comm (p : Program) (rest : Rest) (gs : Array Goroutine) (i : Nat) (g : Goroutine) (cases : Array CommCase) (b : Bool) (sh : CommShape) (w : World) : sdr w.drawn (communicate p rest gs i g cases b sh w).1 := by
  unfold communicate
  extract_lets put illMade me other ready pick
  have hp : ∀ g gs (w' : World) ops, w.drawn ≤ w'.drawn → sdr w.drawn (put g gs w' ops).1 := fun _ _ _ _ h => h
  refine sdr1_ite trivial ?_
  refine sdr1_ite (sdr1_ite ?_ ?_) ?_
  · · split
      · rename_i e
        have : w.drawn ≤ (by assumption : World).drawn := by
          unfold waitingAt at e
          repeat' (split at e)
          all_goals (cases e)
          all_goals exact Nat.le_refl _
        exact this
      · trivial
  · exact hp _ _ _ _ (Nat.le_refl _)
  · have h := run_drawn p pick w
    generalize Sem.run p pick w = r at h ⊢
    split
    · trivial
    · rename_i kc cc way w1
      have h1 : w.drawn ≤ w1.drawn := h
      extract_lets r'
      split
      · have h2 := run_drawn p (runtimePanic (.plain "send on closed channel") : Sem Unit) w1
        generalize Sem.run p (runtimePanic (.plain "send on closed channel") : Sem Unit) w1 = q at h2 ⊢
        split
        · exact hp _ _ _ _ (Nat.le_trans h1 h2)
        · trivial
      · exact hp _ _ _ _ h1
      · exact hp _ _ _ _ h1
      · extract_lets v buf
        split
        · exact hp _ _ _ _ h1
        · have h2 := run_drawn p (choose (.extern "which waiting goroutine is the partner" (partners gs r' true).length)) w1
          generalize Sem.run p (choose (.extern "which waiting goroutine is the partner" (partners gs r' true).length)) w1 = q at h2 ⊢
          cases q with
          | ok b w2 => exact hp _ _ _ _ (Nat.le_trans h1 h2)
          | halt h w2 => trivial
      · exact hp _ _ _ _ h1
      · exact hp _ _ _ _ h1
      · trivial
theorem drain_drawn (w : World) (c : Nat) : (drain w c).2.drawn = w.drawn := by
  unfold drain
  split <;> rfl
theorem retime_drawn (m : Machine) (k : Nat) (t : Timer) (a b : Nat) : (retime m k t a b).2.world.drawn = m.world.drawn := by
  unfold retime
  cases t.chan with
  | none => rfl
  | some c => exact drain_drawn _ _
theorem timer_drawn {m m' : Machine} {op : TimerOp} {v : Value} (h : timerOp m op = .ok (v, m')) : m'.world.drawn = m.world.drawn := by
  have hn : ∀ (var : Addr) (f : Nat → Timer → Value × Machine), (∀ k t, (f k t).2.world.drawn = m.world.drawn) → ∀ {v m'}, timerOp.named m var f = .ok (v, m') → m'.world.drawn = m.world.drawn := fun var f hf v m' h => by
    unfold timerOp.named at h
    split at h
    · rename_i k _
      injection h with h
      have := hf k (m.rest.timers.getD k default)
      rw [h] at this
      exact this
    · cases h
  cases op with
  | new t =>
    simp only [timerOp] at h
    repeat' (split at h)
    all_goals first | (cases h; done) | (cases h; rfl)
  | stop var => exact hn var (fun k t => retime m k t 0 t.period) (fun _ _ => retime_drawn ..) h
  | reset var when_ period =>
    simp only [timerOp] at h
    split at h
    · rename_i m1 e
      have e1 : m1.world.drawn = m.world.drawn := by
        unfold timerOp.opened at e
        repeat' (split at e)
        all_goals first | (cases e; done) | (cases e; rfl)
      exact hn _ _ (fun _ _ => (retime_drawn ..).trans e1) h
    · cases h
  | deadline ctx r w' when_ =>
    simp only [timerOp] at h
    cases h
    rfl
theorem sdr_runT (p : Program) (m : Machine) (i : Nat) (l : Bool) : sdr m.world.drawn (runT p m i l).1 := by
  unfold runT
  extract_lets rest world
  generalize m.gs.swapAt! i { (default : Goroutine) with status := .finished } = gg
  obtain ⟨g, gs⟩ := gg
  simp only
  have h := gdr_step p (i == 0) g world l
  generalize stepG p (i == 0) g world l = s at h ⊢
  cases s with
  | ended o w es => trivial
  | comm g cases b sh w es => exact sdr_mono (sdr_comm ..) h
  | go g w es => exact h
  | spawn g c w es => exact h
  | count g w es =>
    simp only
    split
    · trivial
    · exact h
  | alone g on w es => exact h
  | collect g w es => exact sdr_mono (sdr_look ..) h
  | watch g w es => exact h
  | newcoro g c d w es => exact h
  | coroswitch g c ex w es =>
    simp only
    split
    · exact h
    · split
      · rename_i e
        cases e
        exact h
      · trivial
    · trivial
  | timer g op w es =>
    simp only
    split
    · rename_i e
      exact Nat.le_trans h (Nat.le_of_eq (timer_drawn e).symm)
    · split
      · rename_i e
        cases e
        exact h
      · trivial
    · trivial
    · trivial
/-- the draws behind a machine's choice of who goes on. -/
def mdr (d : Nat) : Move → Prop
  | .goroutine m _ => d ≤ m.world.drawn
  | .machine s _ => sdr d s
theorem mdr_ite {c : Prop} [Decidable c] {a b : Move} {d : Nat} (ha : mdr d a) (hb : mdr d b) : mdr d (if c then a else b) := by split <;> assumption
theorem sdr_serve (p : Program) (m : Machine) (k : Nat) : sdr m.world.drawn (serve p m k) := by
  unfold serve
  split
  · trivial
  · exact Nat.le_refl _
  · simp only
    split
    · trivial
    · exact Nat.le_refl _
theorem mdr_askOn (p : Program) (m : Machine) : mdr m.world.drawn (askOn p m) := by
  unfold askOn
  extract_lets mono rs ds pick
  have hpk : ∀ m' : Machine, m.world.drawn ≤ m'.world.drawn → mdr m.world.drawn (pick m') := fun m' h => by
    simp only [pick]
    have h1 := run_drawn p (choose (.sched rs.length)) m'.world
    generalize Sem.run p (choose (.sched rs.length)) m'.world = r at h1 ⊢
    split
    · trivial
    · rename_i k w1
      have h1 : m'.world.drawn ≤ w1.drawn := h1
      split
      · exact Nat.le_trans h h1
      · have h2 := run_drawn p (choose (.extern "sched.slice" 65536)) w1
        generalize Sem.run p (choose (.extern "sched.slice" 65536)) w1 = q at h2 ⊢
        split
        · trivial
        · exact Nat.le_trans h (Nat.le_trans h1 h2)
  generalize hE : (if ds.isEmpty then pure 0 else choose (.extern "timer.serve" (ds.length + (if rs.isEmpty && (ahead m false).isNone then 0 else 1))) : Sem Nat) = E
  have h1 := run_drawn p E m.world
  generalize Sem.run p E m.world = r at h1 ⊢
  split
  · trivial
  · rename_i k w1
    have h1 : m.world.drawn ≤ w1.drawn := h1
    extract_lets m1
    clear_value pick
    refine mdr_ite (sdr_mono (sdr_serve p m1 _) h1) ?_
    clear_value rs
    cases rs with
    | nil =>
      simp only
      split
      · exact h1
      · split
        · exact h1
        · split <;> trivial
    | cons a l =>
      simp only
      split
      · exact hpk _ h1
      · rename_i t _
        have h2 := run_drawn p (choose (.extern "clock.wait" (t - mono + 1))) w1
        generalize Sem.run p (choose (.extern "clock.wait" (t - mono + 1))) w1 = q at h2 ⊢
        split
        · trivial
        · exact hpk _ (Nat.le_trans h1 h2)
        · exact Nat.le_trans h1 h2
        · exact hpk _ (Nat.le_trans h1 h2)
theorem mdr_move (p : Program) (m : Machine) : mdr m.world.drawn (move p m) := by
  have ha : ∀ m' : Machine, m'.world = m.world → mdr m.world.drawn (ask p m') := fun m' e => by
    unfold ask
    split
    · have h1 := run_drawn p (choose (.extern "collector.look" 2)) m'.world
      rw [e] at h1
      generalize hq : Sem.run p (choose (.extern "collector.look" 2)) m'.world = r
      rw [e] at hq
      rw [hq] at h1
      split
      · trivial
      · rename_i w1
        have h1 : m.world.drawn ≤ w1.drawn := h1
        have h2 := sdr_look p m'.gs m'.rest w1
        generalize look p m'.gs m'.rest w1 = s at h2 ⊢
        cases s with
        | next m2 => 
          have h3 := mdr_askOn p m2
          have h4 : m.world.drawn ≤ m2.world.drawn := Nat.le_trans h1 h2
          revert h3
          simp only
          generalize askOn p m2 = mv
          cases mv with
          | goroutine m i => exact fun h3 => Nat.le_trans h4 h3
          | machine s ops => exact fun h3 => sdr_mono h3 h4
        | ended o w => trivial
      · rename_i w1 _
        have h1 : m.world.drawn ≤ w1.drawn := h1
        have h3 := mdr_askOn p { m' with world := w1 }
        generalize askOn p { m' with world := w1 } = mv at h3 ⊢
        cases mv with
        | goroutine m i => exact Nat.le_trans h1 h3
        | machine s ops => exact sdr_mono h3 h1
    · rw [← e]
      exact mdr_askOn p m'
  unfold move
  split
  · split
    · exact Nat.le_refl _
    · trivial
  · split
    · split
      · exact Nat.le_refl _
      · exact ha _ rfl
    · exact ha _ rfl
theorem sdr_step (p : Program) (m : Machine) : sdr m.world.drawn (step p m) := by
  unfold step stepT
  have h := mdr_move p m
  generalize move p m = mv at h ⊢
  cases mv with
  | goroutine m' i => exact sdr_mono (sdr_runT p m' i true) h
  | machine s ops => exact h
theorem sdr_runN (p : Program) : ∀ (n : Nat) (m : Machine), sdr m.world.drawn (runN p n m)
  | 0, m => Nat.le_refl _
  | n + 1, m => by
    have h := sdr_step p m
    unfold runN
    generalize step p m = s at h ⊢
    cases s with
    | next m' => exact sdr_mono (sdr_runN p n m') h
    | ended o w => trivial
theorem steps_drawn {p : Program} {m m' : Machine} (h : Steps p m m') : m.world.drawn ≤ m'.world.drawn := by
  obtain ⟨n, hn⟩ := h
  have := sdr_runN p n m
  rw [hn] at this
  exact this
/-- a call that returns has drawn, and never less than nothing. -/
theorem calls_drawn {P : Program} {f : FuncId} {args : Array Value} {w : World} {R : Ending → World → Prop} (h : Calls P f args w R) (hr : ∀ w', ¬ R .outgrown w') : Calls P f args w fun e w' => R e w' ∧ w.drawn ≤ w'.drawn := fun cs => by
  obtain ⟨e, w', fr, h1, h2, h3⟩ := h cs
  refine ⟨e, w', fr, ⟨h1, ?_⟩, h2, h3⟩
  cases e with
  | returned v => exact steps_drawn h2
  | panicked c => exact steps_drawn h2
  | outgrown => exact absurd h1 (hr _)
end
end Go.Proofs.YtmieakkhpkclpaaDoor
