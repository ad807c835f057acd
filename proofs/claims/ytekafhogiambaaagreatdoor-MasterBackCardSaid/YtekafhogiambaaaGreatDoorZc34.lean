/- Texts of the proofs, merged. -/
import Derived.Test.YtekafhogiambaaaGreatDoorZc32
import Derived.Test.YtekafhogiambaaaGreatDoorZc16
import Derived.Test.YtekafhogiambaaaGreatDoorZc33
set_option maxRecDepth 100000
namespace Go.Proofs.YtekafhogiambaaaGreatDoor
open Go.RowKit
def lowT (n : Nat) : Bool :=
 if 97 ≤ n ∧ n ≤ 122 then bits BinOp.or IntKind.u8 (n : Int) 32 == (n : Int) else if 65 ≤ n ∧ n ≤ 90 then bits BinOp.or IntKind.u8 (n : Int) 32 == (n : Int) + 32
 else decide (bits BinOp.or IntKind.u8 (n : Int) 32 < 97) || decide (122 < bits BinOp.or IntKind.u8 (n : Int) 32)
theorem lowT_all : (List.range 256).all lowT = true:=by kernel_rfl
theorem lowT_at {n : Nat} (h : n < 256) : lowT n = true:=List.all_eq_true.1 lowT_all n (List.mem_range.2 h)
theorem low_s {n : Nat} (h1 : 97 ≤ n) (h2 : n ≤ 122) : bits BinOp.or IntKind.u8 (n : Int) 32 = (n : Int):=by
 have h:=lowT_at (n:=n) (by omega)
 unfold lowT at h
 rw [if_pos ⟨h1,h2⟩] at h
 exact beq_iff_eq.1 h
theorem low_g {n : Nat} (h1 : 65 ≤ n) (h2 : n ≤ 90) : bits BinOp.or IntKind.u8 (n : Int) 32 = (n : Int) + 32:=by
 have h:=lowT_at (n:=n) (by omega)
 unfold lowT at h
 rw [if_neg (by omega),if_pos ⟨h1,h2⟩] at h
 exact beq_iff_eq.1 h
theorem low_o {n : Nat} (h : n < 256) (h1 : ¬ (97 ≤ n ∧ n ≤ 122)) (h2 : ¬ (65 ≤ n ∧ n ≤ 90)) : bits BinOp.or IntKind.u8 (n : Int) 32 < 97 ∨ 122 < bits BinOp.or IntKind.u8 (n : Int) 32:=by
 have h:=lowT_at h
 unfold lowT at h
 rw [if_neg h1,if_neg h2,Bool.or_eq_true] at h
 rcases h with h | h
 · exact .inl (of_decide_eq_true h)
 · exact .inr (of_decide_eq_true h)
def HxP (ok : Bool) (n : Nat) (w : World) (e : Ending) (w' : World) : Prop :=
 ∃ (x : Int) (E : Value),e = .returned (.tuple #[.int .u64 x,E]) ∧ ((E = .nilIface ∧ ok = true ∧ n ≠ 0) ∨ E = .iface 188 (.int .i64 1) ∨ E = .iface 188 (.int .i64 2)) ∧ Below w.heap.size w w'
set_option maxHeartbeats 4000000 in
theorem iuint_any (t : ByteArray) (w : World) (h63 : t.size ≤ 140737488355328) :
 Calls Tryz.prog 112 #[.string t,.int .i64 16,.int .i64 16] w (HxP (Rd.hxa 0 t.data.toList).isSome t.size w):=by
 by_cases h0 : t.size = 0
 · have hemp : t.toList.isEmpty = true:=empty_yes h0
   go_enter Tryz.func112,Tryz.ntmps112
   go_wp2
   go_ret2
   exact ⟨_,_,rfl,.inr (.inr rfl),Below.refl _ _⟩
 have hemp : t.toList.isEmpty = false:=empty_no h0
 have HN0:=Lib.hid h0
 have hcv:=Lib.run_convert_string_bytes (P:=Tryz.prog) w 9 51 5 t Tryz.underlying9 Tryz.underlying51 Tryz.underlying5
 have hB : ∀ j,j < t.size → (Lib.bytesWorld w 5 t).cell? ⟨w.heap.size,j,none⟩ = some (.int .u8 (t.data.toList.getD j 0).toNat):=fun j hj=>Lib.bytesWorld_cell w 5 t j hj
 have hBel:=bytesWorld_below w 5 t
 obtain ⟨W1,hW1⟩ : ∃ W1,W1 = Lib.bytesWorld w 5 t:=⟨_,rfl⟩
 rw [← hW1] at hcv hB hBel
 clear hW1
 have HBel:=Lib.hid hBel
 clear hBel
 obtain ⟨bs,hL⟩ : ∃ bs,bs = t.data.toList:=⟨_,rfl⟩
 have hLn : bs.length = t.size:=by rw [hL,Lib.size_eq]
 rw [← hL] at hB ⊢
 clear hL
 obtain ⟨OK,hOK⟩ : ∃ OK,(Rd.hxa 0 bs).isSome = OK:=⟨_,rfl⟩
 rw [hOK]
 have HOK:=Lib.hid hOK
 clear hOK
 have hmv : IntKind.u64.wrap (65536 - 1) = 65535:=by rw [IntKind.wrap_u64];decide
 go_enter Tryz.func112,Tryz.ntmps112
 go_wp2
 go_loop [12,13,101] (fun vu vn vi => ∃ (k acc : Nat) (a : Int),vu = .bool false ∧ vn = .int .u64 a ∧ vi = .int .i64 k ∧ k ≤ t.size ∧ 0 ≤ a ∧ a < 65536 ∧ Hid (a = (acc : Int)) ∧ Hid ((Rd.hxa acc (bs.drop k)).isSome = OK))
  (fun _ _ vi=>t.size - (intOf vi).toNat)
 case atStart=>exact ⟨0,0,0,rfl,rfl,rfl,by omega,by omega,by omega,rfl,HOK.out⟩
 case round =>
  obtain ⟨k,acc,a,rfl,rfl,rfl,hk,a0,a1,HA,HD⟩:=hrel
  by_cases hkn : k < t.size
  · have hc:=hB k hkn
    have hdrop : bs.drop k = bs[k]'(by omega) :: bs.drop (k + 1):=List.drop_eq_getElem_cons (by omega)
    have hget : bs.getD k 0 = bs[k]'(by omega):=by simp [List.getD,List.getElem?_eq_getElem (show k < bs.length by omega)]
    have hdec:=HD.out
    rw [hdrop] at hdec
    rw [hget] at hc
    generalize bs[k]'(by omega) = c at hc hdec
    have hc256 : c.toNat < 256:=c.toNat_lt
    rw [Rd.hxa] at hdec
    have HDEC:=Lib.hid hdec
    clear hB hdrop hget hdec HD HOK
    by_cases g1 : 48 ≤ c.toNat ∧ c.toNat ≤ 57
    · obtain ⟨g1,g2⟩:=g1
      have hd : Rd.hexD c = some (c.toNat - 48):=by unfold Rd.hexD;rw [if_pos ⟨g1,g2⟩]
      by_cases hov : a * 16 + ((c.toNat : Int) - 48) ≤ 65535
      · have G:=Lib.hid (show (c.toNat : Int) - 48 = ((c.toNat - 48 : Nat) : Int) by omega)
        have HD2:=HDEC.out
        rw [hd,Option.bind_some] at HD2
        have HDE2:=Lib.hid HD2
        clear HD2 hd
        go_wp2_with (go_at_call 136;refine (lower_any _ _).mono ?_;rintro e w' ⟨rfl,rfl⟩)
        exact ⟨⟨k + 1,16 * acc + (c.toNat - 48),a * 16 + ((c.toNat : Int) - 48),rfl,rfl,by go_num,by omega,by omega,by omega,by rw [G.out,HA.out,Hid];omega,HDE2.out⟩,by simp [intOf];omega⟩
      · clear hd
        go_wp2_with (go_at_call 136;refine (lower_any _ _).mono ?_;rintro e w' ⟨rfl,rfl⟩)
        go_ret2
        exact ⟨_,_,rfl,.inr (.inl rfl),HBel.out⟩
    by_cases g3 : 97 ≤ c.toNat ∧ c.toNat ≤ 122
    · obtain ⟨g3,g4⟩:=g3
      have hlow:=low_s g3 g4
      by_cases g5 : c.toNat ≤ 102
      · have hd : Rd.hexD c = some (c.toNat - 87):=by unfold Rd.hexD;rw [if_neg g1,if_pos ⟨g3,g5⟩]
        by_cases hov : a * 16 + ((c.toNat : Int) - 97 + 10) ≤ 65535
        · have G:=Lib.hid (show (c.toNat : Int) - 97 + 10 = ((c.toNat - 87 : Nat) : Int) by omega)
          have HD2:=HDEC.out
          rw [hd,Option.bind_some] at HD2
          have HDE2:=Lib.hid HD2
          clear HD2 hd
          go_wp2_with (go_at_call 136;refine (lower_any _ _).mono ?_;rintro e w' ⟨rfl,rfl⟩)
          exact ⟨⟨k + 1,16 * acc + (c.toNat - 87),a * 16 + ((c.toNat : Int) - 97 + 10),rfl,rfl,by go_num,by omega,by omega,by omega,by rw [G.out,HA.out,Hid];omega,HDE2.out⟩,by simp [intOf];omega⟩
        · clear hd
          go_wp2_with (go_at_call 136;refine (lower_any _ _).mono ?_;rintro e w' ⟨rfl,rfl⟩)
          go_ret2
          exact ⟨_,_,rfl,.inr (.inl rfl),HBel.out⟩
      · have g6 : 103 ≤ c.toNat:=by omega
        go_wp2_with (go_at_call 136;refine (lower_any _ _).mono ?_;rintro e w' ⟨rfl,rfl⟩)
        go_ret2
        exact ⟨_,_,rfl,.inr (.inr rfl),HBel.out⟩
    by_cases g7 : 65 ≤ c.toNat ∧ c.toNat ≤ 90
    · obtain ⟨g7,g8⟩:=g7
      have hlow:=low_g g7 g8
      by_cases g5 : c.toNat ≤ 70
      · have hd : Rd.hexD c = some (c.toNat - 55):=by unfold Rd.hexD;rw [if_neg g1,if_neg (by omega),if_pos ⟨g7,g5⟩]
        by_cases hov : a * 16 + ((c.toNat : Int) + 32 - 97 + 10) ≤ 65535
        · have G:=Lib.hid (show (c.toNat : Int) + 32 - 97 + 10 = ((c.toNat - 55 : Nat) : Int) by omega)
          have HD2:=HDEC.out
          rw [hd,Option.bind_some] at HD2
          have HDE2:=Lib.hid HD2
          clear HD2 hd
          go_wp2_with (go_at_call 136;refine (lower_any _ _).mono ?_;rintro e w' ⟨rfl,rfl⟩)
          exact ⟨⟨k + 1,16 * acc + (c.toNat - 55),a * 16 + ((c.toNat : Int) + 32 - 97 + 10),rfl,rfl,by go_num,by omega,by omega,by omega,by rw [G.out,HA.out,Hid];omega,HDE2.out⟩,by simp [intOf];omega⟩
        · clear hd
          go_wp2_with (go_at_call 136;refine (lower_any _ _).mono ?_;rintro e w' ⟨rfl,rfl⟩)
          go_ret2
          exact ⟨_,_,rfl,.inr (.inl rfl),HBel.out⟩
      · have g6 : 71 ≤ c.toNat:=by omega
        go_wp2_with (go_at_call 136;refine (lower_any _ _).mono ?_;rintro e w' ⟨rfl,rfl⟩)
        go_ret2
        exact ⟨_,_,rfl,.inr (.inr rfl),HBel.out⟩
    have hlo:=low_o hc256 g3 g7
    generalize hlv : bits BinOp.or IntKind.u8 (c.toNat : Int) 32 = lv at hlo
    have g1a : c.toNat < 48 ∨ 57 < c.toNat:=by omega
    rcases g1a with g1a | g1a
    · rcases hlo with hlo | hlo
      · go_wp2_with (go_at_call 136;refine (lower_any _ _).mono ?_;rintro e w' ⟨rfl,rfl⟩)
        all_goals go_ret2
        all_goals exact ⟨_,_,rfl,.inr (.inr rfl),HBel.out⟩
      · go_wp2_with (go_at_call 136;refine (lower_any _ _).mono ?_;rintro e w' ⟨rfl,rfl⟩)
        all_goals go_ret2
        all_goals exact ⟨_,_,rfl,.inr (.inr rfl),HBel.out⟩
    · rcases hlo with hlo | hlo
      · go_wp2_with (go_at_call 136;refine (lower_any _ _).mono ?_;rintro e w' ⟨rfl,rfl⟩)
        all_goals go_ret2
        all_goals exact ⟨_,_,rfl,.inr (.inr rfl),HBel.out⟩
      · go_wp2_with (go_at_call 136;refine (lower_any _ _).mono ?_;rintro e w' ⟨rfl,rfl⟩)
        all_goals go_ret2
        all_goals exact ⟨_,_,rfl,.inr (.inr rfl),HBel.out⟩
  · have hkk : k = t.size:=by omega
    subst hkk
    have hok : OK = true:=by
     have:=HD.out
     rw [List.drop_eq_nil_of_le (by omega)] at this
     exact this.symm
    have HOK2:=Lib.hid hok
    clear hok HD HA hB
    go_wp2
    go_ret2
    exact ⟨_,_,rfl,(.inl ⟨rfl,HOK2.out,HN0.out⟩),HBel.out⟩
end Go.Proofs.YtekafhogiambaaaGreatDoor
