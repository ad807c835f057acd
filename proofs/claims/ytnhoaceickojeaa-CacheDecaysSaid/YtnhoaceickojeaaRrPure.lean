/- Records, keys and data as plain values, and their orders. Nothing of the program. -/
import Derived.Test.YtnhoaceickojeaaPdPure
import Derived.Test.YtnhoaceickojeaaOrdPure
namespace Go.Proofs.Ytnhoaceickojeaa.Rr
open Nm (sgn cmpB cmpN)

abbrev By := List UInt8
/-- the first one that is not 0. -/
def lx (x y : Int) : Int := if x = 0 then y else x
theorem lx_neg (x y : Int) : lx (-x) (-y) = - lx x y := by unfold lx; split <;> split <;> omega
theorem lx_zero {x y : Int} : lx x y = 0 ↔ x = 0 ∧ y = 0 := by unfold lx; split <;> omega
theorem lx_assoc (x y z : Int) : lx (lx x y) z = lx x (lx y z) := by
  unfold lx
  by_cases h : x = 0
  · simp [h]
  · simp [h]
/-- an order that tells -1, 0 or 1. -/
structure Od {α : Type} (c : α → α → Int) : Prop where
  neg : ∀ a b, c a b = - c b a
  range : ∀ a b, -1 ≤ c a b ∧ c a b ≤ 1
  trans : ∀ a b d, c a b ≤ 0 → c b d ≤ 0 → c a d ≤ 0
theorem Od.lex {α : Type} {c d : α → α → Int} (hc : Od c) (hd : Od d) : Od (fun a b => lx (c a b) (d a b)) where
  neg a b := by rw [hc.neg a b, hd.neg a b, lx_neg]
  range a b := by
    have := hc.range a b
    have := hd.range a b
    unfold lx
    split <;> omega
  trans a b e h1 h2 := by
    have n1 := hc.neg a b
    have n2 := hc.neg b e
    have n3 := hc.neg a e
    have t1 := hc.trans a b e
    have t2 := hc.trans e a b
    have t3 := hc.trans b e a
    have t4 := hd.trans a b e
    unfold lx at h1 h2 ⊢
    split at h1 <;> split at h2 <;> split <;> omega
theorem Od.on {α β : Type} {c : α → α → Int} (hc : Od c) (f : β → α) : Od (fun a b => c (f a) (f b)) :=
  ⟨fun _ _ => hc.neg _ _, fun _ _ => hc.range _ _, fun _ _ _ => hc.trans _ _ _⟩
theorem od_sgn : Od sgn where
  neg := Nm.sgn_neg
  range := Nm.sgn_range
  trans a b c h1 h2 := by rw [Nm.sgn_le] at *; omega
theorem sgn_zero {a b : Nat} : sgn a b = 0 ↔ a = b := by unfold sgn; split <;> (try split) <;> omega
theorem od_cmpB : Od cmpB := ⟨Nm.cmpB_neg, Nm.cmpB_range, fun _ _ _ => Nm.cmpB_trans⟩
theorem od_cmpN : Od cmpN := ⟨Nm.cmpN_neg, Nm.cmpN_range, fun _ _ _ => Nm.cmpN_trans⟩
/-- names, and of those that are alike their bytes. -/
def cmpA (a b : By) : Int := lx (cmpN a b) (cmpB a b)
theorem od_cmpA : Od cmpA := od_cmpN.lex od_cmpB
theorem cmpA_zero {a b : By} : cmpA a b = 0 ↔ a = b := by
  unfold cmpA
  rw [lx_zero, Nm.cmpB_zero]
  exact ⟨fun h => h.2, fun h => ⟨by rw [h]; exact Nm.cmpN_self b, h⟩⟩
/-- five numbers. -/
def cmpI (a b : Rd.Dt) : Int := lx (sgn a.n0 b.n0) (lx (sgn a.n1 b.n1) (lx (sgn a.n2 b.n2) (lx (sgn a.n3 b.n3) (sgn a.n4 b.n4))))
theorem od_cmpI : Od cmpI := (od_sgn.on Rd.Dt.n0).lex ((od_sgn.on Rd.Dt.n1).lex ((od_sgn.on Rd.Dt.n2).lex ((od_sgn.on Rd.Dt.n3).lex (od_sgn.on Rd.Dt.n4))))
/-- data. -/
def cmpD (a b : Rd.Dt) : Int := lx (cmpB a.raw b.raw) (lx (cmpA a.host b.host) (lx (cmpA a.mail b.mail) (cmpI a b)))
theorem od_cmpD : Od cmpD := (od_cmpB.on Rd.Dt.raw).lex ((od_cmpA.on Rd.Dt.host).lex ((od_cmpA.on Rd.Dt.mail).lex od_cmpI))
theorem cmpD_zero {a b : Rd.Dt} : cmpD a b = 0 ↔ a = b := by
  obtain ⟨r, h, m, a0, a1, a2, a3, a4⟩ := a
  obtain ⟨r', h', m', b0, b1, b2, b3, b4⟩ := b
  simp only [cmpD, cmpI, lx_zero, Nm.cmpB_zero, cmpA_zero, sgn_zero, Rd.Dt.mk.injEq]
/-- a key. -/
structure Ky where
  nm : By
  ty : Nat
  cl : Nat
def cmpK (a b : Ky) : Int := lx (cmpA a.nm b.nm) (lx (sgn a.ty b.ty) (sgn a.cl b.cl))
theorem od_cmpK : Od cmpK := (od_cmpA.on Ky.nm).lex ((od_sgn.on Ky.ty).lex (od_sgn.on Ky.cl))
theorem cmpK_zero {a b : Ky} : cmpK a b = 0 ↔ a = b := by
  obtain ⟨n, t, c⟩ := a
  obtain ⟨n', t', c'⟩ := b
  simp only [cmpK, lx_zero, cmpA_zero, sgn_zero, Ky.mk.injEq]
/-- a record. -/
structure Rc where
  ky : Ky
  ttl : Nat
  d : Rd.Dt
def cmpR (a b : Rc) : Int := lx (cmpK a.ky b.ky) (lx (cmpD a.d b.d) (sgn a.ttl b.ttl))
theorem od_cmpR : Od cmpR := (od_cmpK.on Rc.ky).lex ((od_cmpD.on Rc.d).lex (od_sgn.on Rc.ttl))
theorem cmpR_zero {a b : Rc} : cmpR a b = 0 ↔ a = b := by
  obtain ⟨k, t, d⟩ := a
  obtain ⟨k', t', d'⟩ := b
  simp only [cmpR, lx_zero, cmpK_zero, cmpD_zero, sgn_zero, Rc.mk.injEq]
  exact ⟨fun ⟨x, y, z⟩ => ⟨x, z, y⟩, fun ⟨x, y, z⟩ => ⟨x, z, y⟩⟩
end Go.Proofs.Ytnhoaceickojeaa.Rr
