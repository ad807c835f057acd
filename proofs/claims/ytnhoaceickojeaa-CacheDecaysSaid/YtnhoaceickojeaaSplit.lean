/- The document's answer: a name's labels (Split, Labels). -/
import Derived.Test.YtnhoaceickojeaaLabels
namespace Go.Proofs.Ytnhoaceickojeaa
open Go.RowKit

theorem At.cut {l : List UInt8} {k : Nat} {ps : List (List UInt8)} {t : ByteArray} (h : t.data.toList = l.drop k) (hk : k < l.length) (_ : At l k ps) : ∃ h0 : 0 < t.size, t[0] = l[k] := by
  have hs : t.size = l.length - k := by have := congrArg List.length h; simpa using this
  refine ⟨by omega, ?_⟩
  have e : t.data.toList = l[k] :: l.drop (k + 1) := by rw [h]; exact Nm.drop_cons hk
  have h0 : 0 < t.data.toList.length := by rw [e, List.length_cons]; omega
  have h2 : t.data.toList[0]'h0 = l[k] := by simp only [e, List.getElem_cons_zero]
  rw [← h2]; rfl
theorem At.short {l : List UInt8} {k : Nat} {ps : List (List UInt8)} (h : At l k ps) (hk : k < l.length) (h0 : (l[k]).toNat ≠ 0) (h3 : l.length < k + 1 + (l[k]).toNat) : Nm.sp l = none := by
  rw [h.2.2.2.2, Nm.drop_cons hk, Nm.sp_bad h0 (Or.inr (by simp; omega))]; rfl
theorem At.piece {l : List UInt8} {k : Nat} {t : ByteArray} (h : t.data.toList = l.drop k) (c : Nat) : Value.string (t.extract 1 (c + 1)) = sv ((l.drop (k + 1)).take c) := by
  rw [string_eq (extract_list t 1 (c + 1)), h, List.drop_drop]
  show Value.string _ = Value.string _
  rw [show c + 1 - 1 = c from by omega]
theorem At.left {l : List UInt8} {k : Nat} {t : ByteArray} (h : t.data.toList = l.drop k) (c : Nat) : (t.extract (c + 1) t.size).data.toList = l.drop (k + 1 + c) := by
  have hs : t.size = t.data.toList.length := by simp
  rw [extract_list, List.take_of_length_le (by rw [List.length_drop]; omega), h, List.drop_drop]
  congr 1; omega

def SplitPost (w : World) (o : Option (List (List UInt8))) (e : Ending) (w' : World) : Prop :=
  ∃ v, Below w.heap.size w w' ∧ match o with
    | none => e = .returned (.tuple #[v, .bool false])
    | some ls => e = .returned (.tuple #[v, .bool true]) ∧ w'.ownsRow w.heap.size 9 1 v ls.length (svs ls)

theorem split_no {w w' : World} {l : List UInt8} {v x : Value} (hb : Below w.heap.size w w') (hl : Nm.split l = none) (hx : x = .bool false) : SplitPost w (Nm.split l) (.returned (.tuple #[v, x])) w' := by
  rw [hl]; exact ⟨v, hb, by rw [hx]⟩
theorem split_yes {w w' : World} {l : List UInt8} {v x : Value} {ls : List (List UInt8)} (hb : Below w.heap.size w w') (hl : Nm.split l = some ls) (hx : x = .bool true) (ho : w'.ownsRow w.heap.size 9 1 v ls.length (svs ls)) : SplitPost w (Nm.split l) (.returned (.tuple #[v, x])) w' := by
  rw [hl]; exact ⟨v, hb, by rw [hx], ho⟩
theorem eqb_no {a b : Int} (h : a ≠ b) : Value.bool (a == b) = .bool false := by rw [beq_eq_false_iff_ne.2 h]
theorem eqb_yes {a b : Int} (h : a = b) : Value.bool (a == b) = .bool true := by rw [beq_iff_eq.2 h]

set_option maxHeartbeats 1000000 in
set_option maxRecDepth 100000 in
theorem Split_any (s : ByteArray) (w : World) (_ : s.size ≤ 140737488355328) :
    Calls Try.prog 57 #[.string s] w (SplitPost w (Nm.split s.data.toList)) := by
  obtain ⟨i0, hi, hz0, hz1, hz2⟩ := info_parts Try.infoString
  by_cases hbig : s.size ≤ 255
  · have hsz : s.data.toList.length = s.size := by simp
    have hsp : Nm.split s.data.toList = Nm.sp s.data.toList := Nm.split_of_sp (by rw [hsz]; exact hbig)
    have HSZ := Lib.hid hsz
    have HSP := Lib.hid hsp
    clear hsz hsp
    go_enter Try.func57, Try.ntmps57
    go_wp2
    go_loopw [4, 5] (fun v t wr => ∃ k ps, ∃ t' : ByteArray, t = .string t' ∧ t'.data.toList = s.data.toList.drop k ∧ At s.data.toList k ps ∧ wr.ownsRow w.heap.size 9 1 v ps.length (svs ps) ∧ Below w.heap.size w wr) (fun _ t _ => match t with | .string t' => t'.size | _ => 0)
    case atStart => exact ⟨0, [], s, rfl, rfl, At.zero _, World.ownsRow_nil _ _ _ _, Below.refl _ _⟩
    case round =>
      obtain ⟨k, ps, t, rfl, ht, hat, hown, hbel⟩ := hrel
      have hk := hat.1
      rw [HSZ.out] at hk
      have hfew := (hat.few (by rw [HSZ.out]; exact hbig)).2
      have hts : t.size + k = s.size := by have h := congrArg List.length ht; simp at h; omega
      have hts1 : t.size + k ≤ s.size := by omega
      have hts2 : s.size ≤ t.size + k := by omega
      have HT := Lib.hid ht
      have AT := Lib.hid hat
      have HW := Lib.hid hown
      have HB := Lib.hid hbel
      have hbs := hbel.size
      clear ht hat hown hbel hts
      by_cases hlt : k < s.size
      · obtain ⟨hpos, hc0⟩ := AT.out.cut HT.out (by rw [HSZ.out]; exact hlt)
        have HC0 := Lib.hid hc0
        clear hc0
        have h8 : t[0].toNat < 256 := t[0].toNat_lt
        by_cases h0 : t[0].toNat = 0
        · go_wp2
          go_ret2
          by_cases h1 : k + 1 < s.size
          · exact split_no HB.out (by rw [HSP.out]; exact AT.out.early (by rw [HSZ.out]; exact h1) (by rw [← HC0.out]; exact h0)) (eqb_no (by omega))
          · exact split_yes HB.out (by rw [HSP.out]; exact AT.out.done (by rw [HSZ.out]; omega) (by rw [← HC0.out]; exact h0)) (eqb_yes (by omega)) HW.out
        · have hne : ((t[0].toNat : Int) == 0) = false := beq_eq_false_iff_ne.2 (by omega)
          by_cases h63 : 63 < t[0].toNat
          · go_wp2
            go_ret2
            exact split_no HB.out (by rw [HSP.out]; exact AT.out.bad (by rw [HSZ.out]; exact hlt) (by rw [← HC0.out]; exact h63)) rfl
          · by_cases hsh : t.size < 1 + t[0].toNat
            · go_wp2
              go_ret2
              exact split_no HB.out (by rw [HSP.out]; exact AT.out.short (by rw [HSZ.out]; exact hlt) (by rw [← HC0.out]; exact h0) (by rw [← HC0.out, HSZ.out]; omega)) rfl
            · have HST := Lib.hid ((AT.out.step (c := t[0]) (by rw [HSZ.out]; exact hlt) HC0.out.symm h0 (by omega) (by rw [HSZ.out]; exact hbig)).resolve_right (fun h => by have := h.1; rw [HSZ.out] at this; omega))
              have HP := Lib.hid (At.piece HT.out t[0].toNat)
              have HL := Lib.hid (At.left HT.out t[0].toNat)
              go_wp2_with (at_builtin; refine wpList_append_own _ rfl (.tmp 32) (.tmp 37) _ rfl w.heap.size 9 i0 _ 1 16 Try.underlying110 hi hz0 hz1 hz2 rfl (by decide) _ ps.length (svs ps) rfl (HW.out.alloc _) ⟨wr.heap.size, 0, none⟩ 1 1 [sv ((s.data.toList.drop (k + 1)).take t[0].toNat)] rfl rfl ?c1 ?c2 ?c3 ?c4 ?c5 (fun v' w4 hown1 hg1 _ => ?_))
              case c1 => rw [← HP.out]; exact cell_one_new _ _ _
              case c2 => simp [Value.oneCell']
              case c3 => unfold maxLen; omega
              case c4 => omega
              case c5 => simp; omega
              go_roundw
              case rel =>
                refine ⟨k + 1 + t[0].toNat, ps ++ [(s.data.toList.drop (k + 1)).take t[0].toNat], _, rfl, HL.out, HST.out, ?_, (HB.out.alloc hbs _).grown hg1 (by simp; omega) (fun j hj => (HW.out.lt j hj).1)⟩
                rw [List.length_append, svs_append]; exact hown1
              case measure => simp; omega
      · obtain rfl : k = s.size := by omega
        go_wp2
        go_ret2
        exact split_no HB.out (by rw [HSP.out]; have := AT.out; rw [← HSZ.out] at this; exact this.endless) rfl
  · go_enter Try.func57, Try.ntmps57
    go_wp2
    go_ret2
    exact split_no (Below.refl _ _) (Nm.split_long (by simpa using hbig)) rfl
end Go.Proofs.Ytnhoaceickojeaa
