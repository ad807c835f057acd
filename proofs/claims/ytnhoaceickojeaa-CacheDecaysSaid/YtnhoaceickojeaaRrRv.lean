/- Keys and records, as they come. -/
import Derived.Test.YtnhoaceickojeaaRdDat
import Derived.Test.YtnhoaceickojeaaRrPure
namespace Go.Proofs.Ytnhoaceickojeaa
open Go.RowKit

/-- a key, as it comes. -/
structure Kv where
  nm : ByteArray
  ty : Nat
  cl : Nat
def Kv.val (k : Kv) : Value := .agg #[.string k.nm, .int .u16 k.ty, .int .u16 k.cl]
def Kv.ky (k : Kv) : Rr.Ky := ⟨k.nm.data.toList, k.ty, k.cl⟩
/-- a record, as it comes. -/
structure Rv where
  nm : ByteArray
  ty : Nat
  cl : Nat
  ttl : Nat
  d : Dv
namespace Rv
def cells (r : Rv) : Array Value := #[.string r.nm, .int .u16 r.ty, .int .u16 r.cl, .int .u32 r.ttl, .string r.d.raw, .string r.d.host, .string r.d.mail, .int .u32 r.d.n0, .int .u32 r.d.n1, .int .u32 r.d.n2, .int .u32 r.d.n3, .int .u32 r.d.n4]
def val (r : Rv) : Value := .agg r.cells
def kv (r : Rv) : Kv := ⟨r.nm, r.ty, r.cl⟩
def rc (r : Rv) : Rr.Rc := ⟨r.kv.ky, r.ttl, r.d.dt⟩
/-- no text of it is longer than there may be one. -/
def short (r : Rv) : Prop := r.nm.size ≤ 140737488355328 ∧ r.d.host.size ≤ 140737488355328 ∧ r.d.mail.size ≤ 140737488355328
end Rv
end Go.Proofs.Ytnhoaceickojeaa
