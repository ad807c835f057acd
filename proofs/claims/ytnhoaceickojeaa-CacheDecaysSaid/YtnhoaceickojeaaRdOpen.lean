/- Data as an argument. -/
import Derived.Test.YtnhoaceickojeaaShut
import Derived.Test.YtnhoaceickojeaaRdDat
namespace Go.Proofs.Ytnhoaceickojeaa
open Go.ChangeShapes Go.WideShapes Go.RowKit

theorem wf_u32 {x : Int} (h : (Lit.int .u32 x).wf = true) : ∃ n : Nat, x = n ∧ n ≤ 4294967295 := by
  have h1 : IntKind.u32.min = 0 := rfl
  have h2 : IntKind.u32.max = 4294967295 := rfl
  simp only [Lit.wf, Bool.and_eq_true, decide_eq_true_eq] at h
  exact ⟨x.toNat, by omega, by omega⟩
theorem fits_mk {r h m : ByteArray} {a b c d e : Nat} (ha : a ≤ 4294967295) (hb : b ≤ 4294967295) (hc : c ≤ 4294967295) (hd : d ≤ 4294967295) (he : e ≤ 4294967295) : (Dv.mk r h m a b c d e).fits := fun k => by
  match k with
  | 0 => exact ha
  | 1 => exact hb
  | 2 => exact hc
  | 3 => exact hd
  | _ + 4 => exact he
set_option maxRecDepth 100000 in
/-- data that came in. -/
theorem open_data {H : Type} {enc : TypeId × Value → H} {W : World} {base : Nat} {v : Value} {d : DataW H} {p : List MemPlace} (hval : Value.okWide Try.prog W .any base 48 v) (h : DataW.Trod enc Try.prog W 0 (fun _ => true) true 48 v d p) :
    ∃ D : Dv, v = D.val ∧ D.fits ∧ D.raw.size + D.host.size + D.mail.size ≤ Rows.uptoBulk d ∧ ((d.weights Try.prog 48).all (· ≤ reachBytes) = true → D.raw.size ≤ 140737488351232 ∧ D.host.size ≤ 140737488351232 ∧ D.mail.size ≤ 140737488351232) := by
  obtain ⟨cs, rfl, hsz⟩ := okWide_struct Try.underlying48 hval
  have hsz8 : cs.size = 8 := hsz.trans (by kernel_rfl)
  obtain ⟨l⟩ := cs
  match l, hsz8 with
  | [c0, c1, c2, c3, c4, c5, c6, c7], _ =>
    obtain ⟨fuel, hf⟩ := h
    obtain ⟨xs, n, _, hx, _, hlen, hg⟩ := DataW.trod_struct Try.underlying48 hf
    match xs, hlen with
    | [y0, y1, y2, y3], _ =>
      simp only [Prod.mk.injEq] at hx
      have k0 : Try.prog.cellsOf 9 = 1 := by kernel_rfl
      have k1 : Try.prog.cellsOf 32 = 1 := by kernel_rfl
      have k3 : Try.prog.cellsOf 46 = 5 := by kernel_rfl
      have k4 : Try.prog.cellsOf 45 = 1 := by kernel_rfl
      have g0 : DataW.trod enc Try.prog W 0 (fun _ => true) true n 9 (List.take (Try.prog.cellsOf 9) [c0, c1, c2, c3, c4, c5, c6, c7]) = some y0 := hg 0 _ rfl
      have g1 : DataW.trod enc Try.prog W 0 (fun _ => true) true n 32 (List.take (Try.prog.cellsOf 32) [c1, c2, c3, c4, c5, c6, c7]) = some y1 := hg 1 _ rfl
      have g2 : DataW.trod enc Try.prog W 0 (fun _ => true) true n 32 (List.take (Try.prog.cellsOf 32) [c2, c3, c4, c5, c6, c7]) = some y2 := hg 2 _ rfl
      have g3 : DataW.trod enc Try.prog W 0 (fun _ => true) true n 46 (List.take (Try.prog.cellsOf 46) [c3, c4, c5, c6, c7]) = some y3 := hg 3 _ rfl
      rw [k0] at g0
      rw [k1] at g1 g2
      rw [k3] at g3
      obtain ⟨s0, e0, rfl, _⟩ := DataW.trod_string Try.underlying9 g0
      obtain ⟨s1, e1, rfl, _⟩ := DataW.trod_string Try.underlying32 g1
      obtain ⟨s2, e2, rfl, _⟩ := DataW.trod_string Try.underlying32 g2
      obtain ⟨zs, m, _, rfl, _, hzl, hz⟩ := DataW.trod_array Try.underlying46 g3
      match zs, hzl with
      | [z0, z1, z2, z3, z4], _ =>
        have a0 := hz 0 (by omega)
        have a1 := hz 1 (by omega)
        have a2 := hz 2 (by omega)
        have a3 := hz 3 (by omega)
        have a4 := hz 4 (by omega)
        rw [k4] at a0 a1 a2 a3 a4
        have b0 : DataW.trod enc Try.prog W 0 (fun _ => true) true m 45 [c3] = some z0 := a0
        have b1 : DataW.trod enc Try.prog W 0 (fun _ => true) true m 45 [c4] = some z1 := a1
        have b2 : DataW.trod enc Try.prog W 0 (fun _ => true) true m 45 [c5] = some z2 := a2
        have b3 : DataW.trod enc Try.prog W 0 (fun _ => true) true m 45 [c6] = some z3 := a3
        have b4 : DataW.trod enc Try.prog W 0 (fun _ => true) true m 45 [c7] = some z4 := a4
        obtain ⟨n0, f0, rfl, w0⟩ := DataW.trod_int Try.underlying45 b0
        obtain ⟨n1, f1, rfl, w1⟩ := DataW.trod_int Try.underlying45 b1
        obtain ⟨n2, f2, rfl, w2⟩ := DataW.trod_int Try.underlying45 b2
        obtain ⟨n3, f3, rfl, w3⟩ := DataW.trod_int Try.underlying45 b3
        obtain ⟨n4, f4, rfl, w4⟩ := DataW.trod_int Try.underlying45 b4
        obtain ⟨m0, rfl, l0⟩ := wf_u32 w0
        obtain ⟨m1, rfl, l1⟩ := wf_u32 w1
        obtain ⟨m2, rfl, l2⟩ := wf_u32 w2
        obtain ⟨m3, rfl, l3⟩ := wf_u32 w3
        obtain ⟨m4, rfl, l4⟩ := wf_u32 w4
        injection e0 with e0 _
        injection e1 with e1 _
        injection e2 with e2 _
        injection f0 with f0 _
        injection f1 with f1 _
        injection f2 with f2 _
        injection f3 with f3 _
        injection f4 with f4 _
        subst e0 e1 e2 f0 f1 f2 f3 f4
        obtain ⟨rfl, _⟩ := hx
        have q0 : s0.data.toList.length = s0.size := by simp
        have q1 : s1.data.toList.length = s1.size := by simp
        have q2 : s2.data.toList.length = s2.size := by simp
        refine ⟨⟨s0, s1, s2, m0, m1, m2, m3, m4⟩, rfl, fits_mk l0 l1 l2 l3 l4, ?_, fun hw => ?_⟩
        · simp only [List.map_cons, List.map_nil, Rows.uptoBulk, Rows.uptoBulkAll]
          show s0.size + s1.size + s2.size ≤ _
          omega
        · simp only [DataW.weights, Try.underlying48, List.map_cons, List.map_nil, DataW.weightsEach, List.all_append, List.all_cons, Bool.and_eq_true, decide_eq_true_eq] at hw
          unfold reachBytes at hw
          show s0.size ≤ _ ∧ s1.size ≤ _ ∧ s2.size ≤ _
          refine ⟨?_, ?_, ?_⟩
          · rw [← q0]; exact hw.1.1
          · rw [← q1]; exact hw.2.1.1
          · rw [← q2]; exact hw.2.2.1.1
end Go.Proofs.Ytnhoaceickojeaa
