/- A list of what is to be laid, as an argument. -/
import Derived.Test.YtgmemngfkajnbaaMsRows
namespace Go.Proofs.Ytgmemngfkajnbaa
open Go.ChangeShapes Go.WideShapes Go.Deep Go.RowKit

theorem weights_each {H : Type} {P : Program} : ∀ {ts : List TypeId} {ds : List (DataW H)} {i : Nat} {t : TypeId} {d : DataW H}, (DataW.weightsEach P ts ds).all (· ≤ reachBytes) = true → ts[i]? = some t → ds[i]? = some d → (d.weights P t).all (· ≤ reachBytes) = true
  | [], _, _, _, _, _, h, _ => by cases h
  | _ :: _, [], _, _, _, _, _, h => by cases h
  | t :: ts, d :: ds, i, t', d', h, h1, h2 => by
    rw [DataW.weightsEach, List.all_append, Bool.and_eq_true] at h
    cases i with
    | zero => cases h1; cases h2; exact h.1
    | succ i => exact weights_each h.2 (by simpa using h1) (by simpa using h2)
theorem wf_u8i {x : Int} (h : (Lit.int .u8 x).wf = true) : ∃ n : Nat, x = n ∧ n ≤ 255 := by
  have h1 : IntKind.u8.min = 0 := rfl
  have h2 : IntKind.u8.max = 255 := rfl
  simp only [Lit.wf, Bool.and_eq_true, decide_eq_true_eq] at h
  exact ⟨x.toNat, by omega, by omega⟩
/-- a word to be laid. -/
structure Sd where
  s : ByteArray
  q : Bool
def sdc (x : Sd) : List Value := [.string x.s, .bool x.q]
theorem sdc_len (x : Sd) : (sdc x).length = 2 := rfl
def gpc (x : Nat) : List Value := [.int .u8 x]
theorem gpc_len (x : Nat) : (gpc x).length = 1 := rfl
/-- an entry to be laid. -/
structure Ld where
  bl : Bool
  wA : Option Addr
  ws : List Sd
  wc : Nat
  gA : Option Addr
  gs : List Nat
  gc : Nat
def ldc (x : Ld) : List Value := [.bool x.bl, .slice x.wA x.ws.length x.wc, .slice x.gA x.gs.length x.gc]
theorem ldc_len (x : Ld) : (ldc x).length = 3 := rfl
/-- its lists lie in memory. -/
structure Ld.lies (x : Ld) (w : World) : Prop where
  row : Srow sdc 2 w 0 w.heap.size x.wA x.ws
  gap : Srow gpc 1 w 0 w.heap.size x.gA x.gs
  num : ∀ k ∈ x.gs, k ≤ 255
set_option maxRecDepth 100000 in
theorem open_gap_at {H : Type} {enc : TypeId × Value → H} {W : World} {fuel : Nat} {cs : List Value} {x : DataW H × List MemPlace} (hl : cs.length = 1) (hf : DataW.trod enc Try.prog W 0 (fun _ => true) true fuel 5 cs = some x) :
    ∃ q : Nat, cs = gpc q ∧ q ≤ 255 ∧ ((x.1.weights Try.prog 5).all (· ≤ reachBytes) = true → True) ∧ 0 ≤ Rows.uptoBulk x.1 := by
  match cs, hl with
  | [a0], _ =>
    obtain ⟨n1, f1, rfl, w1⟩ := DataW.trod_int Try.underlying5 hf
    obtain ⟨m1, rfl, l1⟩ := wf_u8i w1
    exact ⟨m1, f1, l1, fun _ => trivial, Nat.zero_le _⟩
set_option maxRecDepth 100000 in
theorem open_said_at {H : Type} {enc : TypeId × Value → H} {W : World} {fuel : Nat} {cs : List Value} {x : DataW H × List MemPlace} (hl : cs.length = 2) (hf : DataW.trod enc Try.prog W 0 (fun _ => true) true fuel 35 cs = some x) :
    ∃ q : Sd, cs = sdc q ∧ True ∧ ((x.1.weights Try.prog 35).all (· ≤ reachBytes) = true → True) ∧ 0 ≤ Rows.uptoBulk x.1 := by
  match cs, hl with
  | [a0, a1], _ =>
    obtain ⟨xs, n, _, hx, _, hlen, hg⟩ := DataW.trod_struct Try.underlying35 hf
    match xs, hlen with
    | [y0, y1], _ =>
      subst hx
      have k0 : Try.prog.cellsOf 9 = 1 := by kernel_rfl
      have k1 : Try.prog.cellsOf 4 = 1 := by kernel_rfl
      have g0 : DataW.trod enc Try.prog W 0 (fun _ => true) true n 9 (List.take (Try.prog.cellsOf 9) [a0, a1]) = some y0 := hg 0 _ rfl
      have g1 : DataW.trod enc Try.prog W 0 (fun _ => true) true n 4 (List.take (Try.prog.cellsOf 4) [a1]) = some y1 := hg 1 _ rfl
      rw [k0] at g0
      rw [k1] at g1
      obtain ⟨s0, e0, _, _⟩ := DataW.trod_string Try.underlying9 g0
      obtain ⟨b1, f1, _⟩ := DataW.trod_bool Try.underlying4 g1
      injection e0 with e0 _
      injection f1 with f1 _
      subst e0 f1
      exact ⟨⟨s0, b1⟩, rfl, trivial, fun _ => trivial, Nat.zero_le _⟩
set_option maxRecDepth 100000 in
theorem open_laid_at {H : Type} {enc : TypeId × Value → H} {W : World} {fuel : Nat} {cs : List Value} {x : DataW H × List MemPlace} (hl : cs.length = 3) (hf : DataW.trod enc Try.prog W 0 (fun _ => true) true fuel 29 cs = some x) :
    ∃ q : Ld, cs = ldc q ∧ q.lies W ∧ ((x.1.weights Try.prog 29).all (· ≤ reachBytes) = true → True) ∧ 0 ≤ Rows.uptoBulk x.1 := by
  match cs, hl with
  | [a0, a1, a2], _ =>
    obtain ⟨xs, n, _, hx, _, hlen, hg⟩ := DataW.trod_struct Try.underlying29 hf
    match xs, hlen with
    | [y0, y1, y2], _ =>
      subst hx
      have k0 : Try.prog.cellsOf 4 = 1 := by kernel_rfl
      have k1 : Try.prog.cellsOf 27 = 1 := by kernel_rfl
      have k2 : Try.prog.cellsOf 23 = 1 := by kernel_rfl
      have g0 : DataW.trod enc Try.prog W 0 (fun _ => true) true n 4 (List.take (Try.prog.cellsOf 4) [a0, a1, a2]) = some y0 := hg 0 _ rfl
      have g1 : DataW.trod enc Try.prog W 0 (fun _ => true) true n 27 (List.take (Try.prog.cellsOf 27) [a1, a2]) = some y1 := hg 1 _ rfl
      have g2 : DataW.trod enc Try.prog W 0 (fun _ => true) true n 23 (List.take (Try.prog.cellsOf 23) [a2]) = some y2 := hg 2 _ rfl
      rw [k0] at g0
      rw [k1] at g1
      rw [k2] at g2
      obtain ⟨b0, f0, _⟩ := DataW.trod_bool Try.underlying4 g0
      obtain ⟨A1, r1, c1, f1, _, _, s1, _⟩ := open_rows (F := fun _ : Sd => True) (N := fun _ => True) (B := fun _ => 0) (by decide) sdc_len Try.underlying27 (by kernel_rfl) (fun h1 h2 => open_said_at h1 h2) g1
      obtain ⟨A2, r2, c2, f2, _, _, s2, t2, _⟩ := open_rows (F := fun q : Nat => q ≤ 255) (N := fun _ => True) (B := fun _ => 0) (by decide) gpc_len Try.underlying23 (by kernel_rfl) (fun h1 h2 => open_gap_at h1 h2) g2
      injection f0 with f0 _
      injection f1 with f1 _
      injection f2 with f2 _
      subst f0 f1 f2
      exact ⟨⟨b0, A1, r1, c1, A2, r2, c2⟩, rfl, ⟨s1, s2, t2⟩, fun _ => trivial, Nat.zero_le _⟩
set_option maxRecDepth 100000 in
theorem open_laids {H : Type} {enc : TypeId × Value → H} {W : World} {base : Nat} {v : Value} {d : DataW H} {p : List MemPlace} (hval : Value.okWide Try.prog W .any base 22 v) (h : DataW.Trod enc Try.prog W 0 (fun _ => true) true 22 v d p) :
    ∃ A rs c, v = .slice A (rs : List Ld).length c ∧ rs.length ≤ c ∧ Srow ldc 3 W 0 W.heap.size A rs ∧ ∀ r ∈ rs, r.lies W := by
  obtain ⟨a0, len, cap, rfl⟩ := okWide_slice Try.underlying22 hval
  obtain ⟨fuel, hf⟩ := h
  obtain ⟨A, rs, c, h1, h2, _, h4, h5, _⟩ := open_rows (F := fun q : Ld => q.lies W) (N := fun _ => True) (B := fun _ => 0) (by decide) ldc_len Try.underlying22 (by kernel_rfl) (fun h1 h2 => open_laid_at h1 h2) hf
  refine ⟨A, rs, c, ?_, h2, h4, h5⟩
  simpa [Value.cells] using h1
end Go.Proofs.Ytgmemngfkajnbaa
