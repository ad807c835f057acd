/- TokenKnown's data: the chapter's examples. -/
import Derived.Test.YtgmemngfkajnbaaDoorTkReads
import Derived.Test.YtgmemngfkajnbaaDoorTkFacts
namespace Go.Proofs.YtgmemngfkajnbaaDoor
open Go.RowKit

def kT0 : ByteArray := ⟨#[119, 119, 119, 32, 65, 32, 49, 48, 46, 48, 46, 48, 46, 49, 32, 59, 32, 120, 10, 32, 77, 88, 32, 49, 48, 32, 40, 10, 32, 109, 32, 41, 32, 59, 32, 121, 10]⟩
def kE0 : List Tk.En := [⟨false, 1, [⟨[119, 119, 119], false, 1, 1⟩, ⟨[65], false, 1, 5⟩, ⟨[49, 48, 46, 48, 46, 48, 46, 49], false, 1, 7⟩]⟩, ⟨true, 2, [⟨[77, 88], false, 2, 2⟩, ⟨[49, 48], false, 2, 5⟩, ⟨[109], false, 3, 2⟩]⟩]
theorem kTells0 : Tk.tells kT0.data.toList = .ok kE0 := by decide +kernel

def kT1 : ByteArray := ⟨#[97, 34, 98, 32, 99, 34, 100, 92, 32, 101, 92, 59]⟩
def kE1 : List Tk.En := [⟨false, 1, [⟨[97], false, 1, 1⟩, ⟨[98, 32, 99], true, 1, 2⟩, ⟨[100, 92, 32, 101, 92, 59], false, 1, 7⟩]⟩]
theorem kTells1 : Tk.tells kT1.data.toList = .ok kE1 := by decide +kernel

def kT2 : ByteArray := ⟨#[34, 34]⟩
def kE2 : List Tk.En := [⟨false, 1, [⟨[], true, 1, 1⟩]⟩]
theorem kTells2 : Tk.tells kT2.data.toList = .ok kE2 := by decide +kernel

def kT3 : ByteArray := ⟨#[40, 10, 41]⟩
def kE3 : List Tk.En := []
theorem kTells3 : Tk.tells kT3.data.toList = .ok kE3 := by decide +kernel

def kT4 : ByteArray := ⟨#[32, 59, 32, 120]⟩
def kE4 : List Tk.En := []
theorem kTells4 : Tk.tells kT4.data.toList = .ok kE4 := by decide +kernel

def kT5 : ByteArray := ⟨#[97, 92]⟩
def kE5 : List Tk.En := [⟨false, 1, [⟨[97, 92], false, 1, 1⟩]⟩]
theorem kTells5 : Tk.tells kT5.data.toList = .ok kE5 := by decide +kernel

def kT6 : ByteArray := ⟨#[97, 92, 10, 98]⟩
def kE6 : List Tk.En := [⟨false, 1, [⟨[97, 92], false, 1, 1⟩]⟩, ⟨false, 2, [⟨[98], false, 2, 1⟩]⟩]
theorem kTells6 : Tk.tells kT6.data.toList = .ok kE6 := by decide +kernel

structure Bd where
  t : ByteArray
  e : Nat
  l : Nat
  c : Nat

def bads : List Bd := [⟨⟨#[97, 32, 34, 98]⟩, 80, 1, 3⟩, ⟨⟨#[97, 32, 34, 98, 92, 34]⟩, 80, 1, 3⟩, ⟨⟨#[97, 32, 34, 98, 10, 34]⟩, 80, 1, 3⟩, ⟨⟨#[97, 32, 34, 98, 92, 10, 34]⟩, 80, 1, 3⟩, ⟨⟨#[97, 32, 41, 32, 40]⟩, 81, 1, 3⟩, ⟨⟨#[97, 32, 40, 10, 32, 40, 32, 41]⟩, 81, 1, 3⟩, ⟨⟨#[40, 32, 41, 32, 40, 10, 40, 34, 120]⟩, 80, 2, 2⟩, ⟨⟨#[10, 10, 32, 41]⟩, 81, 3, 2⟩, ⟨⟨#[34]⟩, 80, 1, 1⟩]

def bdc (x : Bd) : List Value := [.string x.t, .int .i64 x.e, .int .i64 x.l, .int .i64 x.c]
theorem bdc_len (x : Bd) : (bdc x).length = 4 := rfl

theorem bads_tell : ∀ x ∈ bads, Tk.tells x.t.data.toList = .err x.l x.c x.e ∧ x.t.size ≤ 262144 := by decide +kernel

theorem paren_row (n : Nat) : Tk.tells (List.replicate (n + 1) 41) = .err 1 1 81 := by
  unfold Tk.tells
  rw [List.replicate_succ, Tk.lx_ch (by decide) (by decide) (by decide), Tk.play, if_neg (by decide), if_neg (by decide), if_pos (by decide)]
  exact if_pos rfl
/-- Entries of a text that is well: n entries are read. -/
theorem ent_good {s : ByteArray} {es : List Tk.En} {n : Nat} (h : Tk.tells s.data.toList = .ok es) (hs : s.size ≤ 262144) (hn : es.length = n) (w : World) :
    Calls Tryd.prog 4 #[.string s] w fun e w' => Below w.heap.size w w' ∧ ∃ A c, e = .returned (.tuple #[.slice A n c, .agg #[.int .i64 0, .int .i64 0], .int .i64 0]) ∧ EnsAt w' (.slice A n c) es := by
  refine (entries_ok w hs h).mono ?_
  rintro e w' ⟨B, ve, out, rfl, hE, rfl⟩
  have hat := hE.at_
  obtain ⟨A, c, rfl, _⟩ := hat.form
  rw [hn] at hat ⊢
  exact ⟨B, A, c, rfl, hat⟩
/-- what stands in an entry of these, a world on. -/
theorem ens_entry {w w' : World} {A : Option Addr} {n c : Nat} {es : List Tk.En} (h : EnsAt w (.slice A n c) es) (hb : Below w.heap.size w w') {j : Nat} (hj : j < es.length) :
    ∃ g o B d, A = some ⟨g, o, none⟩ ∧ w'.cell? ⟨g, o + j * 3, none⟩ = some (.bool es[j].blank) ∧ w'.cell? ⟨g, o + j * 3 + 1, none⟩ = some (.int .i64 es[j].line) ∧ w'.cell? ⟨g, o + j * 3 + 2, none⟩ = some (.slice B es[j].words.length d) ∧ Srow wc 4 w' 0 w'.heap.size B es[j].words := by
  obtain ⟨A', c', e, hf⟩ := (h.below hb).form
  injection e with e1 _ _
  subst e1
  obtain ⟨g, o, B, d, h1, _, h2, h3, h4, h5⟩ := hf j hj
  exact ⟨g, o, B, d, h1, h2, h3, h4, h5⟩
end Go.Proofs.YtgmemngfkajnbaaDoor
