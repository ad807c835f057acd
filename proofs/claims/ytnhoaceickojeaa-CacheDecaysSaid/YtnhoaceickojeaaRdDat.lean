/- The document's answer on data: Check and Fold. -/
import Derived.Test.YtnhoaceickojeaaRdChk
namespace Go.Proofs.Ytnhoaceickojeaa
open Go.RowKit

/-- data, as they come. -/
structure Dv where
  raw : ByteArray
  host : ByteArray
  mail : ByteArray
  n0 : Nat
  n1 : Nat
  n2 : Nat
  n3 : Nat
  n4 : Nat
namespace Dv
def val (d : Dv) : Value := .agg #[.string d.raw, .string d.host, .string d.mail, .int .u32 d.n0, .int .u32 d.n1, .int .u32 d.n2, .int .u32 d.n3, .int .u32 d.n4]
def cells (d : Dv) : Array Value := #[.string d.raw, .string d.host, .string d.mail, .int .u32 d.n0, .int .u32 d.n1, .int .u32 d.n2, .int .u32 d.n3, .int .u32 d.n4]
def dt (d : Dv) : Rd.Dt := ⟨d.raw.data.toList, d.host.data.toList, d.mail.data.toList, d.n0, d.n1, d.n2, d.n3, d.n4⟩
def n (d : Dv) : Nat → Nat
  | 0 => d.n0
  | 1 => d.n1
  | 2 => d.n2
  | 3 => d.n3
  | _ => d.n4
/-- its numbers are numbers. -/
def fits (d : Dv) : Prop := ∀ k, d.n k ≤ 4294967295
theorem cell_n (d : Dv) {k : Nat} (hk : k < 5) : d.cells[3 + k]? = some (.int .u32 (d.n k)) := by
  match k, hk with
  | 0, _ => rfl
  | 1, _ => rfl
  | 2, _ => rfl
  | 3, _ => rfl
  | 4, _ => rfl
end Dv
theorem dv_raw {W : World} {g : Nat} {d : Dv} {t : TypeId} (h : Has W g t d.cells) : W.cell? ⟨g, 0, none⟩ = some (.string d.raw) := by rw [h.cell]; rfl
theorem dv_host {W : World} {g : Nat} {d : Dv} {t : TypeId} (h : Has W g t d.cells) : W.cell? ⟨g, 1, none⟩ = some (.string d.host) := by rw [h.cell]; rfl
theorem dv_mail {W : World} {g : Nat} {d : Dv} {t : TypeId} (h : Has W g t d.cells) : W.cell? ⟨g, 2, none⟩ = some (.string d.mail) := by rw [h.cell]; rfl
theorem dv_n {W : World} {g k : Nat} {d : Dv} {t : TypeId} (h : Has W g t d.cells) (hk : k < 5) : W.cell? ⟨g, 3 + k, none⟩ = some (.int .u32 (d.n k : Nat)) := by rw [h.cell]; exact d.cell_n hk
namespace Rd
def head (t : Nat) (d : Dt) : Bool := rawOk t d.raw && (isHost t == nm d.host) && (isHost t || d.host == []) && (isMail t == nm d.mail) && (isMail t || d.mail == [])
theorem ok_eq (t : Nat) (d : Dt) : ok t d = (head t d && numOk t 0 d.n0 && numOk t 1 d.n1 && numOk t 2 d.n2 && numOk t 3 d.n3 && numOk t 4 d.n4) := rfl
theorem ok_head {t : Nat} {d : Dt} (h : head t d = false) : ok t d = false := by rw [ok_eq, h]; rfl
theorem ok_num {t : Nat} {d : Dv} {k : Nat} (hk : k < 5) (h : numOk t k (d.n k) = false) : ok t d.dt = false := by
  rw [ok_eq]
  match k, hk with
  | 0, _ => have h' : numOk t 0 d.n0 = false := h
            simp [Dv.dt, h']
  | 1, _ => have h' : numOk t 1 d.n1 = false := h
            simp [Dv.dt, h']
  | 2, _ => have h' : numOk t 2 d.n2 = false := h
            simp [Dv.dt, h']
  | 3, _ => have h' : numOk t 3 d.n3 = false := h
            simp [Dv.dt, h']
  | 4, _ => have h' : numOk t 4 d.n4 = false := h
            simp [Dv.dt, h']
theorem ok_all {t : Nat} {d : Dv} (h : head t d.dt = true) (hn : ∀ k, k < 5 → numOk t k (d.n k) = true) : ok t d.dt = true := by
  have h0 : numOk t 0 d.n0 = true := hn 0 (by omega)
  have h1 : numOk t 1 d.n1 = true := hn 1 (by omega)
  have h2 : numOk t 2 d.n2 = true := hn 2 (by omega)
  have h3 : numOk t 3 d.n3 = true := hn 3 (by omega)
  have h4 : numOk t 4 d.n4 = true := hn 4 (by omega)
  rw [ok_eq, h]
  simp [Dv.dt, h0, h1, h2, h3, h4]
theorem cnt_le (t : Nat) : cnt t ≤ 5 := by unfold cnt; split <;> (try split) <;> (try split) <;> omega
theorem bits_le (t : Nat) : bits t ≤ 32 := by unfold bits; split <;> (try split) <;> (try split) <;> omega
theorem num_in {t i x : Nat} (h : i < cnt t) : numOk t i x = !(bits t == 16 && decide (65535 < x)) := by unfold numOk; rw [if_pos h]
theorem num_out {t i x : Nat} (h : ¬ i < cnt t) : numOk t i x = (x == 0) := by unfold numOk; rw [if_neg h]
end Rd
end Go.Proofs.Ytnhoaceickojeaa
