/- The lexer's read, whole. -/
import Derived.Test.YtgmemngfkajnbaaDoorTkP0
import Derived.Test.YtgmemngfkajnbaaDoorTkP1
namespace Go.Proofs.YtgmemngfkajnbaaDoor
open Go.RowKit

theorem code_mono {P : Program} {c : Code} {a : Act} {w : World} {Q Q' : Exit → Act → World → Prop} (h : c.wp P Q a w) (hQ : ∀ e a w, Q e a w → Q' e a w) : c.wp P Q' a w := by
  intro b k cs
  obtain ⟨e, a', w', hq, har⟩ := h b k cs
  exact ⟨e, a', w', hQ _ _ _ hq, har⟩
theorem next_mono {s : ByteArray} {g rc : Nat} {w0 : World} {n : Nat} {Q : Exit → Act → World → Prop} (e : Exit) (a : Act) (w : World) (h : Next s g rc w0 n Q e a w) : jumps (fun l a w => ∃ n, Jl s g rc w0 n l a w) Q e a w := by
  cases e with
  | goto l => obtain ⟨n', _, h⟩ := h; exact ⟨n', h⟩
  | _ => exact h
theorem start_drop (l : List UInt8) : Tk.play (Tk.lx (l.drop 0)) (Tk.start l) = Tk.tells l := rfl

theorem enter0 {s : ByteArray} {g rc : Nat} {w0 : World} {rest : Code} {a : Act} {w : World} {st : Value} (hf : findLabel rdBody 0 = some (Code.seq .skip rest)) (hs : s.size ≤ 262144) (hfr : Fr a g rc st) (hk : KK w0 g rc w) (h : Has w g 41 (lxc s 0 1 0 0 0 0 (Tk.blank (nb s 0)) 1 (.slice none 0 0) (.slice none 0 0))) :
    rest.wp Tryd.prog (jumps (fun l a w => ∃ n, Jl s g rc w0 n l a w) (bodyPost Tryd.prog Tryd.f7 (RdP s g rc w0))) a w := by
  obtain ⟨rest', hf', hp⟩ := pass0 s g rc w0 _ a w hs ⟨0, 0, Tk.start s.data.toList, st, hfr, hk, ⟨.slice none 0 0, .slice none 0 0, [], by have e := hb_nb s 0; rw [List.drop_zero] at e; unfold Tk.start; rw [e]; exact h, ⟨Ers.nil _ _, ⟨rfl, .inl ⟨rfl, rfl⟩⟩, (fun g e => by cases e), (fun x hx => by cases hx)⟩, rfl, Nat.le_refl _, Nat.le_refl _, Nat.le_refl _, Nat.le_refl _, Nat.le_refl _⟩, Nat.zero_le _, rfl, start_drop _, rfl⟩
  have e := Option.some.inj (hf.symm.trans hf')
  injection e with _ e
  subst e
  exact code_mono hp next_mono
set_option maxHeartbeats 2000000 in
set_option maxRecDepth 100000 in
theorem read_any (s : ByteArray) (g : Nat) (w : World) (hs : s.size ≤ 262144) (h : Has w g 41 (lxc s 0 0 0 0 0 0 false 0 (.slice none 0 0) (.slice none 0 0))) :
    Calls Tryd.prog 7 #[.pointer (some ⟨g, 0, none⟩)] w (RdP s g w.heap.size (w.alloc (.cells #[.int .i64 0, .int .i64 0] 24))) := by
  have hg : g < w.heap.size := h.lt
  have HA0 := Lib.hid (h.alloc (.cells #[.int .i64 0, .int .i64 0] 24))
  have HR0 := Lib.hid (Has.fresh w 24 #[.int .i64 0, .int .i64 0])
  have HB := Lib.hid (beginLine_any s 0 0 0 0 0 0 false 0 (.slice none 0 0) (.slice none 0 0) g _ HA0.out (by omega))
  have HE := Lib.hid (fun (W : World) (hW : Has W g 41 (lxc s 0 1 0 0 0 0 false 0 (.slice none 0 0) (.slice none 0 0))) => beginEntry_any s 0 1 0 0 0 0 false 0 (.slice none 0 0) (.slice none 0 0) g W hW (Nat.zero_le _))
  clear h
  go_enter Tryd.func7, Tryd.ntmps7
  go_wp2
  refine wp_scope_many (Jl s g w.heap.size (w.alloc (.cells #[.int .i64 0, .int .i64 0] 24))) ?_ ?_
  · go_wp2_with (first
      | (go_at_call 9; refine HB.out.mono ?_; rintro e w1 ⟨rfl, h1, g1⟩; have HA1 := Lib.hid h1; have HG1 := Lib.hid g1; clear h1 g1)
      | (go_at_call 10; refine (HE.out _ HA1.out).mono ?_; rintro e w2 ⟨rfl, h2, g2⟩; have HA2 := Lib.hid h2; have HG2 := Lib.hid (grown_trans HG1.out g2); clear h2 g2))
    go_step3
    rename_i K0 hK0
    show K0 _ _
    apply hK0
    have hk : KK (w.alloc (.cells #[.int .i64 0, .int .i64 0] 24)) g w.heap.size w2 := ⟨Kb.grown HG2.out (by simp), HR0.out.grown HG2.out (by simp; omega), hg⟩
    exact enter0 rfl hs ⟨rfl, rfl, rfl, rfl, rfl, rfl⟩ hk HA2.out
  · rintro n l a w' (⟨rfl, hJ⟩ | ⟨rfl, hJ⟩ | ⟨rfl, hJ⟩ | ⟨rfl, hJ⟩ | ⟨rfl, hJ⟩)
    · obtain ⟨X, hf, hX⟩ := pass0 s g _ _ n a w' hs hJ
      exact ⟨_, hf, wp_seq (wp_skip hX)⟩
    · exact pass1 s g _ _ n a w' hs hJ
    · exact pass2 s g _ _ n a w' hs hJ
    · exact pass3 s g _ _ n a w' hs hJ
    · exact pass4 s g _ _ n a w' hs hJ
end Go.Proofs.YtgmemngfkajnbaaDoor
