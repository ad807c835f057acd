/- Texts of the proofs, merged. -/
import Derived.Test.YtekafhogiambaaaGreatDoorZc8
import Derived.Test.YtekafhogiambaaaGreatDoorZc4
import Derived.RegionTactic
import Derived.ChangeAlike
import Derived.BigRegion
import Derived.Test.YtekafhogiambaaaGreatDoorZc7
import Derived.Laws.AppendOwnNone
set_option maxRecDepth 100000
namespace Go.Proofs.YtekafhogiambaaaGreatDoor
open Go.RowKit
theorem cells_new (w : World) (t : TypeId) (l : List Value) : ∀ j u,l[j]? = some u → (w.alloc (.cells l.toArray t)).cell? ((⟨w.heap.size,0,none⟩ : Addr).add j) = some u:=by
 intro j u h
 have : (⟨w.heap.size,0,none⟩ : Addr).add j = ⟨w.heap.size,j,none⟩:=by unfold Addr.add;split <;> simp_all
 rw [this,(Has.fresh w t l.toArray).cell];simpa using h
theorem bv1 (c : UInt8) : bv [c] = [.int .u8 (c.toNat : Nat)]:=rfl
theorem bv2 (a c : UInt8) : bv [a,c] = [.int .u8 (a.toNat : Nat),.int .u8 (c.toNat : Nat)]:=rfl
theorem bv4 (c : UInt8) : bv (92 :: Nm.dig3 c) = [.int .u8 92,.int .u8 (48 + (c.toNat : Int) / 100),.int .u8 (48 + (c.toNat : Int) / 10 % 10),.int .u8 (48 + (c.toNat : Int) % 10)]:=by
 have:=c.toNat_lt
 have h1 : (UInt8.ofNat (48 + c.toNat / 100)).toNat = 48 + c.toNat / 100:=by simp;omega
 have h2 : (UInt8.ofNat (48 + c.toNat / 10 % 10)).toNat = 48 + c.toNat / 10 % 10:=by simp;omega
 have h3 : (UInt8.ofNat (48 + c.toNat % 10)).toNat = 48 + c.toNat % 10:=by simp;omega
 simp only [bv,Nm.dig3,List.map_cons,List.map_nil,h1,h2,h3]
 simp
def EscPost (B : Nat) (w : World) (n : Nat) (xs : List Value) (l : List UInt8) (e : Ending) (w' : World) : Prop :=
 ∃ v',e = .returned v' ∧ w'.ownsRow B 5 1 v' (n + l.length) (xs ++ bv l) ∧ Below B w w'
theorem esc_done {B n : Nat} {w w1 : World} {xs : List Value} {v v' : Value} {l : List UInt8} {news : List Value} {o : Obj} (hB : B ≤ w.heap.size) (hown : w.ownsRow B 5 1 v n xs) (hl : bv l = news)
 (h1 : w1.ownsRow B 5 1 v' (n + l.length) (xs ++ news)) (hg : (w.alloc o).grownBy w1 v.ownBlock) : EscPost B w n xs l (.returned v') w1 :=
 ⟨v',rfl,by rw [hl];exact h1,((Below.refl _ _).alloc hB _).grown hg (by simp;omega) (fun j hj=>(hown.lt j hj).1)⟩
set_option maxHeartbeats 1000000 in
theorem esc_q46 (B gq : Nat) (v : Value) (n : Nat) (xs : List Value) (c : UInt8) (w : World) (hB : B ≤ w.heap.size) (hown : w.ownsRow B 5 1 v n xs) (hn : n + 4 ≤ 140737488355328) (hq : w.cell? ⟨gq,0,none⟩ = some (.bool true))
 (_ : ((c.toNat : Int) == 46) = true) :
 Calls Tryz.prog 81 #[v,.int .u8 (c.toNat : Int),.pointer (some ⟨gq,0,none⟩)] w (EscPost B w n xs [c]):=by
 obtain ⟨i0,hi,hz0,hz1,hz2⟩:=info_parts Tryz.infoByte
 have h8:=c.toNat_lt
 go_enter Tryz.func81,Tryz.ntmps81
 go_wp2_with (first
  | (at_builtin
     refine wpList_append_own _ rfl (.tmp 18) (.tmp 20) _ rfl B 5 i0 _ 1 1 Tryz.underlying51 hi hz0 hz1 hz2 rfl (by decide) v n xs rfl (hown.alloc _) ⟨w.heap.size,0,none⟩ 1 1 [.int .u8 (c.toNat : Nat)] rfl rfl (cells_new _ _ [.int .u8 (c.toNat : Nat)]) (by simp [Value.oneCell']) (by unfold maxLen;omega) (by omega) (by simp;omega) ?_
     intro v' w1 hown1 hg1 _))
 go_ret
 exact esc_done hB hown (bv1 c) hown1 hg1
set_option maxHeartbeats 1000000 in
theorem esc_b46 (B gq : Nat) (v : Value) (n : Nat) (xs : List Value) (c : UInt8) (w : World) (hB : B ≤ w.heap.size) (hown : w.ownsRow B 5 1 v n xs) (hn : n + 4 ≤ 140737488355328) (hq : w.cell? ⟨gq,0,none⟩ = some (.bool false))
 (_ : ((c.toNat : Int) == 46) = true) :
 Calls Tryz.prog 81 #[v,.int .u8 (c.toNat : Int),.pointer (some ⟨gq,0,none⟩)] w (EscPost B w n xs [92,c]):=by
 obtain ⟨i0,hi,hz0,hz1,hz2⟩:=info_parts Tryz.infoByte
 have h8:=c.toNat_lt
 go_enter Tryz.func81,Tryz.ntmps81
 go_wp2_with (first
  | (at_builtin
     refine wpList_append_own _ rfl (.tmp 22) (.tmp 24) _ rfl B 5 i0 _ 1 1 Tryz.underlying51 hi hz0 hz1 hz2 rfl (by decide) v n xs rfl (hown.alloc _) ⟨w.heap.size,0,none⟩ 2 2 [.int .u8 92,.int .u8 (c.toNat : Nat)] rfl rfl (cells_new _ _ [.int .u8 92,.int .u8 (c.toNat : Nat)]) (by simp [Value.oneCell']) (by unfold maxLen;omega) (by omega) (by simp;omega) ?_
     intro v' w1 hown1 hg1 _))
 go_ret
 exact esc_done hB hown (bv2 92 c) hown1 hg1
set_option maxHeartbeats 1000000 in
theorem esc_q59 (B gq : Nat) (v : Value) (n : Nat) (xs : List Value) (c : UInt8) (w : World) (hB : B ≤ w.heap.size) (hown : w.ownsRow B 5 1 v n xs) (hn : n + 4 ≤ 140737488355328) (hq : w.cell? ⟨gq,0,none⟩ = some (.bool true))
 (_ : ((c.toNat : Int) == 46) = false) (_ : ((c.toNat : Int) == 59) = true) :
 Calls Tryz.prog 81 #[v,.int .u8 (c.toNat : Int),.pointer (some ⟨gq,0,none⟩)] w (EscPost B w n xs [c]):=by
 obtain ⟨i0,hi,hz0,hz1,hz2⟩:=info_parts Tryz.infoByte
 have h8:=c.toNat_lt
 go_enter Tryz.func81,Tryz.ntmps81
 go_wp2_with (first
  | (at_builtin
     refine wpList_append_own _ rfl (.tmp 18) (.tmp 20) _ rfl B 5 i0 _ 1 1 Tryz.underlying51 hi hz0 hz1 hz2 rfl (by decide) v n xs rfl (hown.alloc _) ⟨w.heap.size,0,none⟩ 1 1 [.int .u8 (c.toNat : Nat)] rfl rfl (cells_new _ _ [.int .u8 (c.toNat : Nat)]) (by simp [Value.oneCell']) (by unfold maxLen;omega) (by omega) (by simp;omega) ?_
     intro v' w1 hown1 hg1 _))
 go_ret
 exact esc_done hB hown (bv1 c) hown1 hg1
set_option maxHeartbeats 1000000 in
theorem esc_b59 (B gq : Nat) (v : Value) (n : Nat) (xs : List Value) (c : UInt8) (w : World) (hB : B ≤ w.heap.size) (hown : w.ownsRow B 5 1 v n xs) (hn : n + 4 ≤ 140737488355328) (hq : w.cell? ⟨gq,0,none⟩ = some (.bool false))
 (_ : ((c.toNat : Int) == 46) = false) (_ : ((c.toNat : Int) == 59) = true) :
 Calls Tryz.prog 81 #[v,.int .u8 (c.toNat : Int),.pointer (some ⟨gq,0,none⟩)] w (EscPost B w n xs [92,c]):=by
 obtain ⟨i0,hi,hz0,hz1,hz2⟩:=info_parts Tryz.infoByte
 have h8:=c.toNat_lt
 go_enter Tryz.func81,Tryz.ntmps81
 go_wp2_with (first
  | (at_builtin
     refine wpList_append_own _ rfl (.tmp 22) (.tmp 24) _ rfl B 5 i0 _ 1 1 Tryz.underlying51 hi hz0 hz1 hz2 rfl (by decide) v n xs rfl (hown.alloc _) ⟨w.heap.size,0,none⟩ 2 2 [.int .u8 92,.int .u8 (c.toNat : Nat)] rfl rfl (cells_new _ _ [.int .u8 92,.int .u8 (c.toNat : Nat)]) (by simp [Value.oneCell']) (by unfold maxLen;omega) (by omega) (by simp;omega) ?_
     intro v' w1 hown1 hg1 _))
 go_ret
 exact esc_done hB hown (bv2 92 c) hown1 hg1
set_option maxHeartbeats 1000000 in
theorem esc_q40 (B gq : Nat) (v : Value) (n : Nat) (xs : List Value) (c : UInt8) (w : World) (hB : B ≤ w.heap.size) (hown : w.ownsRow B 5 1 v n xs) (hn : n + 4 ≤ 140737488355328) (hq : w.cell? ⟨gq,0,none⟩ = some (.bool true))
 (_ : ((c.toNat : Int) == 46) = false) (_ : ((c.toNat : Int) == 59) = false) (_ : ((c.toNat : Int) == 40) = true) :
 Calls Tryz.prog 81 #[v,.int .u8 (c.toNat : Int),.pointer (some ⟨gq,0,none⟩)] w (EscPost B w n xs [c]):=by
 obtain ⟨i0,hi,hz0,hz1,hz2⟩:=info_parts Tryz.infoByte
 have h8:=c.toNat_lt
 go_enter Tryz.func81,Tryz.ntmps81
 go_wp2_with (first
  | (at_builtin
     refine wpList_append_own _ rfl (.tmp 18) (.tmp 20) _ rfl B 5 i0 _ 1 1 Tryz.underlying51 hi hz0 hz1 hz2 rfl (by decide) v n xs rfl (hown.alloc _) ⟨w.heap.size,0,none⟩ 1 1 [.int .u8 (c.toNat : Nat)] rfl rfl (cells_new _ _ [.int .u8 (c.toNat : Nat)]) (by simp [Value.oneCell']) (by unfold maxLen;omega) (by omega) (by simp;omega) ?_
     intro v' w1 hown1 hg1 _))
 go_ret
 exact esc_done hB hown (bv1 c) hown1 hg1
set_option maxHeartbeats 1000000 in
theorem esc_b40 (B gq : Nat) (v : Value) (n : Nat) (xs : List Value) (c : UInt8) (w : World) (hB : B ≤ w.heap.size) (hown : w.ownsRow B 5 1 v n xs) (hn : n + 4 ≤ 140737488355328) (hq : w.cell? ⟨gq,0,none⟩ = some (.bool false))
 (_ : ((c.toNat : Int) == 46) = false) (_ : ((c.toNat : Int) == 59) = false) (_ : ((c.toNat : Int) == 40) = true) :
 Calls Tryz.prog 81 #[v,.int .u8 (c.toNat : Int),.pointer (some ⟨gq,0,none⟩)] w (EscPost B w n xs [92,c]):=by
 obtain ⟨i0,hi,hz0,hz1,hz2⟩:=info_parts Tryz.infoByte
 have h8:=c.toNat_lt
 go_enter Tryz.func81,Tryz.ntmps81
 go_wp2_with (first
  | (at_builtin
     refine wpList_append_own _ rfl (.tmp 22) (.tmp 24) _ rfl B 5 i0 _ 1 1 Tryz.underlying51 hi hz0 hz1 hz2 rfl (by decide) v n xs rfl (hown.alloc _) ⟨w.heap.size,0,none⟩ 2 2 [.int .u8 92,.int .u8 (c.toNat : Nat)] rfl rfl (cells_new _ _ [.int .u8 92,.int .u8 (c.toNat : Nat)]) (by simp [Value.oneCell']) (by unfold maxLen;omega) (by omega) (by simp;omega) ?_
     intro v' w1 hown1 hg1 _))
 go_ret
 exact esc_done hB hown (bv2 92 c) hown1 hg1
set_option maxHeartbeats 1000000 in
theorem esc_q41 (B gq : Nat) (v : Value) (n : Nat) (xs : List Value) (c : UInt8) (w : World) (hB : B ≤ w.heap.size) (hown : w.ownsRow B 5 1 v n xs) (hn : n + 4 ≤ 140737488355328) (hq : w.cell? ⟨gq,0,none⟩ = some (.bool true))
 (_ : ((c.toNat : Int) == 46) = false) (_ : ((c.toNat : Int) == 59) = false) (_ : ((c.toNat : Int) == 40) = false) (_ : ((c.toNat : Int) == 41) = true) :
 Calls Tryz.prog 81 #[v,.int .u8 (c.toNat : Int),.pointer (some ⟨gq,0,none⟩)] w (EscPost B w n xs [c]):=by
 obtain ⟨i0,hi,hz0,hz1,hz2⟩:=info_parts Tryz.infoByte
 have h8:=c.toNat_lt
 go_enter Tryz.func81,Tryz.ntmps81
 go_wp2_with (first
  | (at_builtin
     refine wpList_append_own _ rfl (.tmp 18) (.tmp 20) _ rfl B 5 i0 _ 1 1 Tryz.underlying51 hi hz0 hz1 hz2 rfl (by decide) v n xs rfl (hown.alloc _) ⟨w.heap.size,0,none⟩ 1 1 [.int .u8 (c.toNat : Nat)] rfl rfl (cells_new _ _ [.int .u8 (c.toNat : Nat)]) (by simp [Value.oneCell']) (by unfold maxLen;omega) (by omega) (by simp;omega) ?_
     intro v' w1 hown1 hg1 _))
 go_ret
 exact esc_done hB hown (bv1 c) hown1 hg1
set_option maxHeartbeats 1000000 in
theorem esc_b41 (B gq : Nat) (v : Value) (n : Nat) (xs : List Value) (c : UInt8) (w : World) (hB : B ≤ w.heap.size) (hown : w.ownsRow B 5 1 v n xs) (hn : n + 4 ≤ 140737488355328) (hq : w.cell? ⟨gq,0,none⟩ = some (.bool false))
 (_ : ((c.toNat : Int) == 46) = false) (_ : ((c.toNat : Int) == 59) = false) (_ : ((c.toNat : Int) == 40) = false) (_ : ((c.toNat : Int) == 41) = true) :
 Calls Tryz.prog 81 #[v,.int .u8 (c.toNat : Int),.pointer (some ⟨gq,0,none⟩)] w (EscPost B w n xs [92,c]):=by
 obtain ⟨i0,hi,hz0,hz1,hz2⟩:=info_parts Tryz.infoByte
 have h8:=c.toNat_lt
 go_enter Tryz.func81,Tryz.ntmps81
 go_wp2_with (first
  | (at_builtin
     refine wpList_append_own _ rfl (.tmp 22) (.tmp 24) _ rfl B 5 i0 _ 1 1 Tryz.underlying51 hi hz0 hz1 hz2 rfl (by decide) v n xs rfl (hown.alloc _) ⟨w.heap.size,0,none⟩ 2 2 [.int .u8 92,.int .u8 (c.toNat : Nat)] rfl rfl (cells_new _ _ [.int .u8 92,.int .u8 (c.toNat : Nat)]) (by simp [Value.oneCell']) (by unfold maxLen;omega) (by omega) (by simp;omega) ?_
     intro v' w1 hown1 hg1 _))
 go_ret
 exact esc_done hB hown (bv2 92 c) hown1 hg1
set_option maxHeartbeats 1000000 in
theorem esc_q64 (B gq : Nat) (v : Value) (n : Nat) (xs : List Value) (c : UInt8) (w : World) (hB : B ≤ w.heap.size) (hown : w.ownsRow B 5 1 v n xs) (hn : n + 4 ≤ 140737488355328) (hq : w.cell? ⟨gq,0,none⟩ = some (.bool true))
 (_ : ((c.toNat : Int) == 46) = false) (_ : ((c.toNat : Int) == 59) = false) (_ : ((c.toNat : Int) == 40) = false) (_ : ((c.toNat : Int) == 41) = false) (_ : ((c.toNat : Int) == 64) = true) :
 Calls Tryz.prog 81 #[v,.int .u8 (c.toNat : Int),.pointer (some ⟨gq,0,none⟩)] w (EscPost B w n xs [c]):=by
 obtain ⟨i0,hi,hz0,hz1,hz2⟩:=info_parts Tryz.infoByte
 have h8:=c.toNat_lt
 go_enter Tryz.func81,Tryz.ntmps81
 go_wp2_with (first
  | (at_builtin
     refine wpList_append_own _ rfl (.tmp 18) (.tmp 20) _ rfl B 5 i0 _ 1 1 Tryz.underlying51 hi hz0 hz1 hz2 rfl (by decide) v n xs rfl (hown.alloc _) ⟨w.heap.size,0,none⟩ 1 1 [.int .u8 (c.toNat : Nat)] rfl rfl (cells_new _ _ [.int .u8 (c.toNat : Nat)]) (by simp [Value.oneCell']) (by unfold maxLen;omega) (by omega) (by simp;omega) ?_
     intro v' w1 hown1 hg1 _))
 go_ret
 exact esc_done hB hown (bv1 c) hown1 hg1
set_option maxHeartbeats 1000000 in
theorem esc_b64 (B gq : Nat) (v : Value) (n : Nat) (xs : List Value) (c : UInt8) (w : World) (hB : B ≤ w.heap.size) (hown : w.ownsRow B 5 1 v n xs) (hn : n + 4 ≤ 140737488355328) (hq : w.cell? ⟨gq,0,none⟩ = some (.bool false))
 (_ : ((c.toNat : Int) == 46) = false) (_ : ((c.toNat : Int) == 59) = false) (_ : ((c.toNat : Int) == 40) = false) (_ : ((c.toNat : Int) == 41) = false) (_ : ((c.toNat : Int) == 64) = true) :
 Calls Tryz.prog 81 #[v,.int .u8 (c.toNat : Int),.pointer (some ⟨gq,0,none⟩)] w (EscPost B w n xs [92,c]):=by
 obtain ⟨i0,hi,hz0,hz1,hz2⟩:=info_parts Tryz.infoByte
 have h8:=c.toNat_lt
 go_enter Tryz.func81,Tryz.ntmps81
 go_wp2_with (first
  | (at_builtin
     refine wpList_append_own _ rfl (.tmp 22) (.tmp 24) _ rfl B 5 i0 _ 1 1 Tryz.underlying51 hi hz0 hz1 hz2 rfl (by decide) v n xs rfl (hown.alloc _) ⟨w.heap.size,0,none⟩ 2 2 [.int .u8 92,.int .u8 (c.toNat : Nat)] rfl rfl (cells_new _ _ [.int .u8 92,.int .u8 (c.toNat : Nat)]) (by simp [Value.oneCell']) (by unfold maxLen;omega) (by omega) (by simp;omega) ?_
     intro v' w1 hown1 hg1 _))
 go_ret
 exact esc_done hB hown (bv2 92 c) hown1 hg1
set_option maxHeartbeats 1000000 in
theorem esc_q36 (B gq : Nat) (v : Value) (n : Nat) (xs : List Value) (c : UInt8) (w : World) (hB : B ≤ w.heap.size) (hown : w.ownsRow B 5 1 v n xs) (hn : n + 4 ≤ 140737488355328) (hq : w.cell? ⟨gq,0,none⟩ = some (.bool true))
 (_ : ((c.toNat : Int) == 46) = false) (_ : ((c.toNat : Int) == 59) = false) (_ : ((c.toNat : Int) == 40) = false) (_ : ((c.toNat : Int) == 41) = false) (_ : ((c.toNat : Int) == 64) = false) (_ : ((c.toNat : Int) == 36) = true) :
 Calls Tryz.prog 81 #[v,.int .u8 (c.toNat : Int),.pointer (some ⟨gq,0,none⟩)] w (EscPost B w n xs [c]):=by
 obtain ⟨i0,hi,hz0,hz1,hz2⟩:=info_parts Tryz.infoByte
 have h8:=c.toNat_lt
 go_enter Tryz.func81,Tryz.ntmps81
 go_wp2_with (first
  | (at_builtin
     refine wpList_append_own _ rfl (.tmp 18) (.tmp 20) _ rfl B 5 i0 _ 1 1 Tryz.underlying51 hi hz0 hz1 hz2 rfl (by decide) v n xs rfl (hown.alloc _) ⟨w.heap.size,0,none⟩ 1 1 [.int .u8 (c.toNat : Nat)] rfl rfl (cells_new _ _ [.int .u8 (c.toNat : Nat)]) (by simp [Value.oneCell']) (by unfold maxLen;omega) (by omega) (by simp;omega) ?_
     intro v' w1 hown1 hg1 _))
 go_ret
 exact esc_done hB hown (bv1 c) hown1 hg1
set_option maxHeartbeats 1000000 in
theorem esc_b36 (B gq : Nat) (v : Value) (n : Nat) (xs : List Value) (c : UInt8) (w : World) (hB : B ≤ w.heap.size) (hown : w.ownsRow B 5 1 v n xs) (hn : n + 4 ≤ 140737488355328) (hq : w.cell? ⟨gq,0,none⟩ = some (.bool false))
 (_ : ((c.toNat : Int) == 46) = false) (_ : ((c.toNat : Int) == 59) = false) (_ : ((c.toNat : Int) == 40) = false) (_ : ((c.toNat : Int) == 41) = false) (_ : ((c.toNat : Int) == 64) = false) (_ : ((c.toNat : Int) == 36) = true) :
 Calls Tryz.prog 81 #[v,.int .u8 (c.toNat : Int),.pointer (some ⟨gq,0,none⟩)] w (EscPost B w n xs [92,c]):=by
 obtain ⟨i0,hi,hz0,hz1,hz2⟩:=info_parts Tryz.infoByte
 have h8:=c.toNat_lt
 go_enter Tryz.func81,Tryz.ntmps81
 go_wp2_with (first
  | (at_builtin
     refine wpList_append_own _ rfl (.tmp 22) (.tmp 24) _ rfl B 5 i0 _ 1 1 Tryz.underlying51 hi hz0 hz1 hz2 rfl (by decide) v n xs rfl (hown.alloc _) ⟨w.heap.size,0,none⟩ 2 2 [.int .u8 92,.int .u8 (c.toNat : Nat)] rfl rfl (cells_new _ _ [.int .u8 92,.int .u8 (c.toNat : Nat)]) (by simp [Value.oneCell']) (by unfold maxLen;omega) (by omega) (by simp;omega) ?_
     intro v' w1 hown1 hg1 _))
 go_ret
 exact esc_done hB hown (bv2 92 c) hown1 hg1
set_option maxHeartbeats 1000000 in
theorem esc_m34 (B gq : Nat) (q : Bool) (v : Value) (n : Nat) (xs : List Value) (c : UInt8) (w : World) (hB : B ≤ w.heap.size) (hown : w.ownsRow B 5 1 v n xs) (hn : n + 4 ≤ 140737488355328) (_hq : w.cell? ⟨gq,0,none⟩ = some (.bool q))
 (_ : ((c.toNat : Int) == 46) = false) (_ : ((c.toNat : Int) == 59) = false) (_ : ((c.toNat : Int) == 40) = false) (_ : ((c.toNat : Int) == 41) = false) (_ : ((c.toNat : Int) == 64) = false) (_ : ((c.toNat : Int) == 36) = false) (_ : ((c.toNat : Int) == 34) = true) :
 Calls Tryz.prog 81 #[v,.int .u8 (c.toNat : Int),.pointer (some ⟨gq,0,none⟩)] w (EscPost B w n xs [92,c]):=by
 obtain ⟨i0,hi,hz0,hz1,hz2⟩:=info_parts Tryz.infoByte
 have h8:=c.toNat_lt
 go_enter Tryz.func81,Tryz.ntmps81
 go_wp2_with (first
  | (at_builtin
     refine wpList_append_own _ rfl (.tmp 22) (.tmp 24) _ rfl B 5 i0 _ 1 1 Tryz.underlying51 hi hz0 hz1 hz2 rfl (by decide) v n xs rfl (hown.alloc _) ⟨w.heap.size,0,none⟩ 2 2 [.int .u8 92,.int .u8 (c.toNat : Nat)] rfl rfl (cells_new _ _ [.int .u8 92,.int .u8 (c.toNat : Nat)]) (by simp [Value.oneCell']) (by unfold maxLen;omega) (by omega) (by simp;omega) ?_
     intro v' w1 hown1 hg1 _))
 go_ret
 exact esc_done hB hown (bv2 92 c) hown1 hg1
set_option maxHeartbeats 1000000 in
theorem esc_m92 (B gq : Nat) (q : Bool) (v : Value) (n : Nat) (xs : List Value) (c : UInt8) (w : World) (hB : B ≤ w.heap.size) (hown : w.ownsRow B 5 1 v n xs) (hn : n + 4 ≤ 140737488355328) (_hq : w.cell? ⟨gq,0,none⟩ = some (.bool q))
 (_ : ((c.toNat : Int) == 46) = false) (_ : ((c.toNat : Int) == 59) = false) (_ : ((c.toNat : Int) == 40) = false) (_ : ((c.toNat : Int) == 41) = false) (_ : ((c.toNat : Int) == 64) = false) (_ : ((c.toNat : Int) == 36) = false) (_ : ((c.toNat : Int) == 34) = false) (_ : ((c.toNat : Int) == 92) = true) :
 Calls Tryz.prog 81 #[v,.int .u8 (c.toNat : Int),.pointer (some ⟨gq,0,none⟩)] w (EscPost B w n xs [92,c]):=by
 obtain ⟨i0,hi,hz0,hz1,hz2⟩:=info_parts Tryz.infoByte
 have h8:=c.toNat_lt
 go_enter Tryz.func81,Tryz.ntmps81
 go_wp2_with (first
  | (at_builtin
     refine wpList_append_own _ rfl (.tmp 22) (.tmp 24) _ rfl B 5 i0 _ 1 1 Tryz.underlying51 hi hz0 hz1 hz2 rfl (by decide) v n xs rfl (hown.alloc _) ⟨w.heap.size,0,none⟩ 2 2 [.int .u8 92,.int .u8 (c.toNat : Nat)] rfl rfl (cells_new _ _ [.int .u8 92,.int .u8 (c.toNat : Nat)]) (by simp [Value.oneCell']) (by unfold maxLen;omega) (by omega) (by simp;omega) ?_
     intro v' w1 hown1 hg1 _))
 go_ret
 exact esc_done hB hown (bv2 92 c) hown1 hg1
set_option maxHeartbeats 1000000 in
theorem esc_clear (B gq : Nat) (q : Bool) (v : Value) (n : Nat) (xs : List Value) (c : UInt8) (w : World) (hB : B ≤ w.heap.size) (hown : w.ownsRow B 5 1 v n xs) (hn : n + 4 ≤ 140737488355328) (_hq : w.cell? ⟨gq,0,none⟩ = some (.bool q))
 (_ : ((c.toNat : Int) == 46) = false) (_ : ((c.toNat : Int) == 59) = false) (_ : ((c.toNat : Int) == 40) = false) (_ : ((c.toNat : Int) == 41) = false) (_ : ((c.toNat : Int) == 64) = false) (_ : ((c.toNat : Int) == 36) = false) (_ : ((c.toNat : Int) == 34) = false) (_ : ((c.toNat : Int) == 92) = false) (_ : 33 ≤ c.toNat) (_ : c.toNat ≤ 126) :
 Calls Tryz.prog 81 #[v,.int .u8 (c.toNat : Int),.pointer (some ⟨gq,0,none⟩)] w (EscPost B w n xs [c]):=by
 obtain ⟨i0,hi,hz0,hz1,hz2⟩:=info_parts Tryz.infoByte
 have h8:=c.toNat_lt
 go_enter Tryz.func81,Tryz.ntmps81
 go_wp2_with (first
  | (at_builtin
     refine wpList_append_own _ rfl (.tmp 39) (.tmp 41) _ rfl B 5 i0 _ 1 1 Tryz.underlying51 hi hz0 hz1 hz2 rfl (by decide) v n xs rfl (hown.alloc _) ⟨w.heap.size,0,none⟩ 1 1 [.int .u8 (c.toNat : Nat)] rfl rfl (cells_new _ _ [.int .u8 (c.toNat : Nat)]) (by simp [Value.oneCell']) (by unfold maxLen;omega) (by omega) (by simp;omega) ?_
     intro v' w1 hown1 hg1 _))
 go_ret
 exact esc_done hB hown (bv1 c) hown1 hg1
set_option maxHeartbeats 1000000 in
theorem esc_blank (B gq : Nat) (v : Value) (n : Nat) (xs : List Value) (c : UInt8) (w : World) (hB : B ≤ w.heap.size) (hown : w.ownsRow B 5 1 v n xs) (hn : n + 4 ≤ 140737488355328) (hq : w.cell? ⟨gq,0,none⟩ = some (.bool true))
 (_ : ((c.toNat : Int) == 46) = false) (_ : ((c.toNat : Int) == 59) = false) (_ : ((c.toNat : Int) == 40) = false) (_ : ((c.toNat : Int) == 41) = false) (_ : ((c.toNat : Int) == 64) = false) (_ : ((c.toNat : Int) == 36) = false) (_ : ((c.toNat : Int) == 34) = false) (_ : ((c.toNat : Int) == 92) = false) (_ : c.toNat < 33) (_ : ((c.toNat : Int) == 32) = true) :
 Calls Tryz.prog 81 #[v,.int .u8 (c.toNat : Int),.pointer (some ⟨gq,0,none⟩)] w (EscPost B w n xs [c]):=by
 obtain ⟨i0,hi,hz0,hz1,hz2⟩:=info_parts Tryz.infoByte
 have h8:=c.toNat_lt
 go_enter Tryz.func81,Tryz.ntmps81
 go_wp2_with (first
  | (at_builtin
     refine wpList_append_own _ rfl (.tmp 39) (.tmp 41) _ rfl B 5 i0 _ 1 1 Tryz.underlying51 hi hz0 hz1 hz2 rfl (by decide) v n xs rfl (hown.alloc _) ⟨w.heap.size,0,none⟩ 1 1 [.int .u8 (c.toNat : Nat)] rfl rfl (cells_new _ _ [.int .u8 (c.toNat : Nat)]) (by simp [Value.oneCell']) (by unfold maxLen;omega) (by omega) (by simp;omega) ?_
     intro v' w1 hown1 hg1 _))
 go_ret
 exact esc_done hB hown (bv1 c) hown1 hg1
set_option maxHeartbeats 1000000 in
theorem esc_blankNo (B gq : Nat) (v : Value) (n : Nat) (xs : List Value) (c : UInt8) (w : World) (hB : B ≤ w.heap.size) (hown : w.ownsRow B 5 1 v n xs) (hn : n + 4 ≤ 140737488355328) (hq : w.cell? ⟨gq,0,none⟩ = some (.bool false))
 (_ : ((c.toNat : Int) == 46) = false) (_ : ((c.toNat : Int) == 59) = false) (_ : ((c.toNat : Int) == 40) = false) (_ : ((c.toNat : Int) == 41) = false) (_ : ((c.toNat : Int) == 64) = false) (_ : ((c.toNat : Int) == 36) = false) (_ : ((c.toNat : Int) == 34) = false) (_ : ((c.toNat : Int) == 92) = false) (_ : c.toNat < 33) (_ : ((c.toNat : Int) == 32) = true) :
 Calls Tryz.prog 81 #[v,.int .u8 (c.toNat : Int),.pointer (some ⟨gq,0,none⟩)] w (EscPost B w n xs (92 :: Nm.dig3 c)):=by
 obtain ⟨i0,hi,hz0,hz1,hz2⟩:=info_parts Tryz.infoByte
 have h8:=c.toNat_lt
 go_enter Tryz.func81,Tryz.ntmps81
 go_wp2_with (first
  | (at_builtin
     refine wpList_append_own _ rfl (.tmp 43) (.tmp 54) _ rfl B 5 i0 _ 1 1 Tryz.underlying51 hi hz0 hz1 hz2 rfl (by decide) v n xs rfl (hown.alloc _) ⟨w.heap.size,0,none⟩ 4 4 [.int .u8 92,.int .u8 (48 + (c.toNat : Int) / 100),.int .u8 (48 + (c.toNat : Int) / 10 % 10),.int .u8 (48 + (c.toNat : Int) % 10)] rfl rfl (cells_new _ _ [.int .u8 92,.int .u8 (48 + (c.toNat : Int) / 100),.int .u8 (48 + (c.toNat : Int) / 10 % 10),.int .u8 (48 + (c.toNat : Int) % 10)]) (by simp [Value.oneCell']) (by unfold maxLen;omega) (by omega) (by simp;omega) ?_
     intro v' w1 hown1 hg1 _))
 go_ret
 exact esc_done hB hown (bv4 c) hown1 hg1
set_option maxHeartbeats 1000000 in
theorem esc_low (B gq : Nat) (q : Bool) (v : Value) (n : Nat) (xs : List Value) (c : UInt8) (w : World) (hB : B ≤ w.heap.size) (hown : w.ownsRow B 5 1 v n xs) (hn : n + 4 ≤ 140737488355328) (_hq : w.cell? ⟨gq,0,none⟩ = some (.bool q))
 (_ : ((c.toNat : Int) == 46) = false) (_ : ((c.toNat : Int) == 59) = false) (_ : ((c.toNat : Int) == 40) = false) (_ : ((c.toNat : Int) == 41) = false) (_ : ((c.toNat : Int) == 64) = false) (_ : ((c.toNat : Int) == 36) = false) (_ : ((c.toNat : Int) == 34) = false) (_ : ((c.toNat : Int) == 92) = false) (_ : c.toNat < 33) (_ : ((c.toNat : Int) == 32) = false) :
 Calls Tryz.prog 81 #[v,.int .u8 (c.toNat : Int),.pointer (some ⟨gq,0,none⟩)] w (EscPost B w n xs (92 :: Nm.dig3 c)):=by
 obtain ⟨i0,hi,hz0,hz1,hz2⟩:=info_parts Tryz.infoByte
 have h8:=c.toNat_lt
 go_enter Tryz.func81,Tryz.ntmps81
 go_wp2_with (first
  | (at_builtin
     refine wpList_append_own _ rfl (.tmp 43) (.tmp 54) _ rfl B 5 i0 _ 1 1 Tryz.underlying51 hi hz0 hz1 hz2 rfl (by decide) v n xs rfl (hown.alloc _) ⟨w.heap.size,0,none⟩ 4 4 [.int .u8 92,.int .u8 (48 + (c.toNat : Int) / 100),.int .u8 (48 + (c.toNat : Int) / 10 % 10),.int .u8 (48 + (c.toNat : Int) % 10)] rfl rfl (cells_new _ _ [.int .u8 92,.int .u8 (48 + (c.toNat : Int) / 100),.int .u8 (48 + (c.toNat : Int) / 10 % 10),.int .u8 (48 + (c.toNat : Int) % 10)]) (by simp [Value.oneCell']) (by unfold maxLen;omega) (by omega) (by simp;omega) ?_
     intro v' w1 hown1 hg1 _))
 go_ret
 exact esc_done hB hown (bv4 c) hown1 hg1
set_option maxHeartbeats 1000000 in
theorem esc_high (B gq : Nat) (q : Bool) (v : Value) (n : Nat) (xs : List Value) (c : UInt8) (w : World) (hB : B ≤ w.heap.size) (hown : w.ownsRow B 5 1 v n xs) (hn : n + 4 ≤ 140737488355328) (_hq : w.cell? ⟨gq,0,none⟩ = some (.bool q))
 (_ : ((c.toNat : Int) == 46) = false) (_ : ((c.toNat : Int) == 59) = false) (_ : ((c.toNat : Int) == 40) = false) (_ : ((c.toNat : Int) == 41) = false) (_ : ((c.toNat : Int) == 64) = false) (_ : ((c.toNat : Int) == 36) = false) (_ : ((c.toNat : Int) == 34) = false) (_ : ((c.toNat : Int) == 92) = false) (_ : 126 < c.toNat) (_ : ((c.toNat : Int) == 32) = false) :
 Calls Tryz.prog 81 #[v,.int .u8 (c.toNat : Int),.pointer (some ⟨gq,0,none⟩)] w (EscPost B w n xs (92 :: Nm.dig3 c)):=by
 obtain ⟨i0,hi,hz0,hz1,hz2⟩:=info_parts Tryz.infoByte
 have h8:=c.toNat_lt
 go_enter Tryz.func81,Tryz.ntmps81
 go_wp2_with (first
  | (at_builtin
     refine wpList_append_own _ rfl (.tmp 43) (.tmp 54) _ rfl B 5 i0 _ 1 1 Tryz.underlying51 hi hz0 hz1 hz2 rfl (by decide) v n xs rfl (hown.alloc _) ⟨w.heap.size,0,none⟩ 4 4 [.int .u8 92,.int .u8 (48 + (c.toNat : Int) / 100),.int .u8 (48 + (c.toNat : Int) / 10 % 10),.int .u8 (48 + (c.toNat : Int) % 10)] rfl rfl (cells_new _ _ [.int .u8 92,.int .u8 (48 + (c.toNat : Int) / 100),.int .u8 (48 + (c.toNat : Int) / 10 % 10),.int .u8 (48 + (c.toNat : Int) % 10)]) (by simp [Value.oneCell']) (by unfold maxLen;omega) (by omega) (by simp;omega) ?_
     intro v' w1 hown1 hg1 _))
 go_ret
 exact esc_done hB hown (bv4 c) hown1 hg1
theorem ne {c : UInt8} {n : Nat} (h : c.toNat ≠ n) : ((c.toNat : Int) == (n : Int)) = false:=beq_eq_false_iff_ne.2 (by omega)
theorem eq {c : UInt8} {n : Nat} (h : c.toNat = n) : ((c.toNat : Int) == (n : Int)) = true:=beq_iff_eq.2 (by omega)
theorem escape1_any (B gq : Nat) (q : Bool) (v : Value) (n : Nat) (xs : List Value) (c : UInt8) (w : World) (hB : B ≤ w.heap.size) (hown : w.ownsRow B 5 1 v n xs) (hn : n + 4 ≤ 140737488355328) (hq : w.cell? ⟨gq,0,none⟩ = some (.bool q)) :
 Calls Tryz.prog 81 #[v,.int .u8 (c.toNat : Int),.pointer (some ⟨gq,0,none⟩)] w (EscPost B w n xs (Nm.esc1 q c)):=by
 by_cases h46 : c.toNat = 46
 · have e : Nm.esc1 q c = if q then [c] else [92,c]:=by cases q <;> simp [Nm.esc1,Nm.mark,Nm.clear,h46]
   rw [e]
   cases q
   · exact esc_b46 B gq v n xs c w hB hown hn hq  (eq h46)
   · exact esc_q46 B gq v n xs c w hB hown hn hq  (eq h46)
 by_cases h59 : c.toNat = 59
 · have e : Nm.esc1 q c = if q then [c] else [92,c]:=by cases q <;> simp [Nm.esc1,Nm.mark,Nm.clear,h59]
   rw [e]
   cases q
   · exact esc_b59 B gq v n xs c w hB hown hn hq (ne h46) (eq h59)
   · exact esc_q59 B gq v n xs c w hB hown hn hq (ne h46) (eq h59)
 by_cases h40 : c.toNat = 40
 · have e : Nm.esc1 q c = if q then [c] else [92,c]:=by cases q <;> simp [Nm.esc1,Nm.mark,Nm.clear,h40]
   rw [e]
   cases q
   · exact esc_b40 B gq v n xs c w hB hown hn hq (ne h46) (ne h59) (eq h40)
   · exact esc_q40 B gq v n xs c w hB hown hn hq (ne h46) (ne h59) (eq h40)
 by_cases h41 : c.toNat = 41
 · have e : Nm.esc1 q c = if q then [c] else [92,c]:=by cases q <;> simp [Nm.esc1,Nm.mark,Nm.clear,h41]
   rw [e]
   cases q
   · exact esc_b41 B gq v n xs c w hB hown hn hq (ne h46) (ne h59) (ne h40) (eq h41)
   · exact esc_q41 B gq v n xs c w hB hown hn hq (ne h46) (ne h59) (ne h40) (eq h41)
 by_cases h64 : c.toNat = 64
 · have e : Nm.esc1 q c = if q then [c] else [92,c]:=by cases q <;> simp [Nm.esc1,Nm.mark,Nm.clear,h64]
   rw [e]
   cases q
   · exact esc_b64 B gq v n xs c w hB hown hn hq (ne h46) (ne h59) (ne h40) (ne h41) (eq h64)
   · exact esc_q64 B gq v n xs c w hB hown hn hq (ne h46) (ne h59) (ne h40) (ne h41) (eq h64)
 by_cases h36 : c.toNat = 36
 · have e : Nm.esc1 q c = if q then [c] else [92,c]:=by cases q <;> simp [Nm.esc1,Nm.mark,Nm.clear,h36]
   rw [e]
   cases q
   · exact esc_b36 B gq v n xs c w hB hown hn hq (ne h46) (ne h59) (ne h40) (ne h41) (ne h64) (eq h36)
   · exact esc_q36 B gq v n xs c w hB hown hn hq (ne h46) (ne h59) (ne h40) (ne h41) (ne h64) (eq h36)
 by_cases h34 : c.toNat = 34
 · have e : Nm.esc1 q c = [92,c]:=by simp [Nm.esc1,Nm.mark,h34]
   rw [e]
   exact esc_m34 B gq q v n xs c w hB hown hn hq (ne h46) (ne h59) (ne h40) (ne h41) (ne h64) (ne h36) (eq h34)
 by_cases h92 : c.toNat = 92
 · have e : Nm.esc1 q c = [92,c]:=by simp [Nm.esc1,Nm.mark,h92]
   rw [e]
   exact esc_m92 B gq q v n xs c w hB hown hn hq (ne h46) (ne h59) (ne h40) (ne h41) (ne h64) (ne h36) (ne h34) (eq h92)
 have hm : Nm.mark q c = false:=by simp [Nm.mark,h46,h59,h40,h41,h64,h36,h34,h92]
 by_cases hlo : 33 ≤ c.toNat
 · by_cases hhi : c.toNat ≤ 126
   · have e : Nm.esc1 q c = [c]:=by
      have : Nm.clear q c = true:=by simp [Nm.clear];omega
      unfold Nm.esc1;rw [hm,this];rfl
     rw [e];exact esc_clear B gq q v n xs c w hB hown hn hq (ne h46) (ne h59) (ne h40) (ne h41) (ne h64) (ne h36) (ne h34) (ne h92) hlo hhi
   · have e : Nm.esc1 q c = 92 :: Nm.dig3 c:=by
      have : Nm.clear q c = false:=by simp [Nm.clear];omega
      unfold Nm.esc1;rw [hm,this];rfl
     rw [e];exact esc_high B gq q v n xs c w hB hown hn hq (ne h46) (ne h59) (ne h40) (ne h41) (ne h64) (ne h36) (ne h34) (ne h92) (by omega) (ne (n:=32) (by omega))
 · by_cases h32 : c.toNat = 32
   · cases q
     · have e : Nm.esc1 false c = 92 :: Nm.dig3 c:=by
        have : Nm.clear false c = false:=by simp [Nm.clear];omega
        unfold Nm.esc1;rw [hm,this];rfl
       rw [e];exact esc_blankNo B gq v n xs c w hB hown hn hq (ne h46) (ne h59) (ne h40) (ne h41) (ne h64) (ne h36) (ne h34) (ne h92) (by omega) (eq h32)
     · have e : Nm.esc1 true c = [c]:=by
        have : Nm.clear true c = true:=by simp [Nm.clear,h32]
        unfold Nm.esc1;rw [hm,this];rfl
       rw [e];exact esc_blank B gq v n xs c w hB hown hn hq (ne h46) (ne h59) (ne h40) (ne h41) (ne h64) (ne h36) (ne h34) (ne h92) (by omega) (eq h32)
   · have e : Nm.esc1 q c = 92 :: Nm.dig3 c:=by
      have : Nm.clear q c = false:=by simp [Nm.clear,h32];omega
      unfold Nm.esc1;rw [hm,this];rfl
     rw [e];exact esc_low B gq q v n xs c w hB hown hn hq (ne h46) (ne h59) (ne h40) (ne h41) (ne h64) (ne h36) (ne h34) (ne h92) (by omega) (ne h32)
set_option maxHeartbeats 1000000 in
theorem each_esc (s : ByteArray) (gq : Nat) (q : Bool) (w : World) (hq : w.cell? ⟨gq,0,none⟩ = some (.bool q)) (hs : s.size ≤ 35184372088832) :
 Calls Tryz.prog 51 #[.string s,.func (.func 81) #[] #[.pointer (some ⟨gq,0,none⟩)]] w fun e w' => e = .returned (sv (Nm.esc q s.data.toList)) ∧ Below w.heap.size w w':=by
 obtain ⟨i0,hi,hz0,hz1,hz2⟩:=info_parts Tryz.infoByte
 have hgl:=block_lt_of_cell hq
 have HQ:=Lib.hid hq
 clear hq
 go_enter Tryz.func51,Tryz.ntmps51
 go_wp2_with (first | (at_make;refine wpList_make_own _ rfl _ _ 51 rfl w.heap.size 5 i0 _ 1 Tryz.underlying51 hi hz0 hz1 .i64 .i64 s.size s.size rfl rfl rfl (by rw [hz2];omega) (by unfold maxLen;omega) (Nat.le_refl _) ?_;intro w1 hown1 hg1))
 go_loopw [5,12] (fun v i wr => ∃ k : Nat,k ≤ s.size ∧ i = .int .i64 k ∧ wr.ownsRow w.heap.size 5 1 v (Nm.esc q (s.data.toList.take k)).length (bv (Nm.esc q (s.data.toList.take k))) ∧ Below w.heap.size w wr) (fun _ i _=>s.size - (intOf i).toNat)
 case atStart=>exact ⟨0,Nat.zero_le _,rfl,hown1,(Below.refl _ _).grown hg1 (Nat.le_refl _) (by simp)⟩
 case round =>
  obtain ⟨k,hk,rfl,hown,hb⟩:=hrel
  have HO:=Lib.hid hown
  have HB:=Lib.hid hb
  have hbs:=hb.size
  have hq1 : wr.cell? ⟨gq,0,none⟩ = some (.bool q):=(hb.cell (p:=⟨gq,0,none⟩) hgl).trans HQ.out
  have HQ1:=Lib.hid hq1
  clear hown hb hq1
  by_cases hlt : k < s.size
  · have hts : s.data.toList.take (k + 1) = s.data.toList.take k ++ [s[k]]:=List.take_succ_eq_append_getElem (by simpa using hlt)
    have hel:=Nm.esc_len q (s.data.toList.take k)
    have htl : (s.data.toList.take k).length ≤ k:=List.length_take_le _ _
    have HTS : Hid (Nm.esc q (s.data.toList.take (k + 1)) = Nm.esc q (s.data.toList.take k) ++ Nm.esc1 q s[k]):=by rw [Hid,hts,Nm.esc_snoc]
    clear hts
    generalize Nm.esc q (s.data.toList.take k) = l at *
    have hll : l.length ≤ 4 * k:=by omega
    clear hel htl
    go_wp2_with (first | (go_at_call 81;refine (escape1_any w.heap.size gq q _ l.length _ s[k] _ hbs HO.out (by omega) HQ1.out).mono ?_;rintro e w2 ⟨v',rfl,hown',hb'⟩))
    go_roundw
    case rel=>exact ⟨k + 1,by omega,by go_num,by rw [HTS.out,List.length_append,bv_append];exact hown',HB.out.trans hb'⟩
    case measure=>simp [intOf];omega
  · obtain rfl : k = s.size:=by omega
    have HO' : Hid (wr.ownsRow w.heap.size 5 1 u5 (Nm.esc q s.data.toList).length (bv (Nm.esc q s.data.toList))):=by
     have:=HO.out
     rw [List.take_of_length_le (by simp)] at this
     exact this
    clear HO
    go_wp2_with (refine wpList_convert_own _ rfl 51 9 (.tmp 22) rfl 5 Tryz.underlying51 Tryz.underlying5 Tryz.underlying9 w.heap.size _ _ (Nm.esc q s.data.toList) rfl HO'.out ?_)
    go_ret
    exact ⟨rfl,HB.out⟩
theorem Escape_any (s : ByteArray) (q : Bool) (w : World) (hs : s.size ≤ 35184372088832) :
 Calls Tryz.prog 50 #[.string s,.bool q] w fun e w' => e = .returned (sv (Nm.esc q s.data.toList)) ∧ Below w.heap.size w w':=by
 have hmf : ∀ (fn : Fn) (first cap : Array Value) (w : World),(Instr.makeFunc fn first cap).run Tryz.prog w = .ok (.func fn first cap) w:=fun _ _ _ _=>rfl
 have HC : Hid ((w.alloc (.cells #[.bool q] 4)).cell? ⟨w.heap.size,0,none⟩ = some (.bool q)):=by rw [Hid,(Has.fresh w _ _).cell];rfl
 go_enter Tryz.func50,Tryz.ntmps50
 go_wp2_with (first | (go_at_call 51;refine (each_esc s w.heap.size q _ HC.out hs).mono ?_;rintro e w1 ⟨rfl,hb1⟩))
 go_ret
 exact ⟨rfl,((Below.refl _ _).alloc (Nat.le_refl _) _).trans (hb1.mono (by simp))⟩
theorem textL_snoc (ls : List (List UInt8)) (l : List UInt8) : Nm.textL (ls ++ [l]) = Nm.textL ls ++ (Nm.esc false l ++ [46]):=by simp [Nm.textL]
theorem text_root : Nm.text [0] = [46]:=rfl
theorem text_of (l : List UInt8) (h : l ≠ [0]) : Nm.text l = Nm.textL (labelsOf l):=by
 unfold Nm.text labelsOf
 rcases hs : Nm.split l with _ | ls
 · rfl
 · rcases ls with _ | ⟨a,ls⟩
   · exact absurd (Nm.split_some.1 hs).1 h
   · rfl
theorem labelsOf_good (l : List UInt8) : Nm.Good (labelsOf l) ∧ (labelsOf l).length ≤ 127:=by
 unfold labelsOf
 rcases hs : Nm.split l with _ | ls
 · exact ⟨fun x hx=>by simp at hx,by simp⟩
 · exact ⟨(Nm.split_some.1 hs).2.1,few hs⟩
theorem textL_len (ls : List (List UInt8)) (h : Nm.Good ls) : (Nm.textL ls).length ≤ 300 * ls.length:=by
 induction ls with
 | nil=>simp [Nm.textL]
 | cons a ls ih =>
  have:=ih (fun x hx=>h x (by simp [hx]))
  have ha:=(h a (by simp)).2
  have he:=Nm.esc_len false a
  have e : Nm.textL (a :: ls) = (Nm.esc false a ++ [46]) ++ Nm.textL ls:=rfl
  rw [e];simp;omega
set_option maxHeartbeats 1000000 in
theorem Text_any (s : ByteArray) (w : World) (hs : s.size ≤ 140737488355328) :
 Calls Tryz.prog 30 #[.string s] w fun e w' => e = .returned (sv (Nm.text s.data.toList)) ∧ Below w.heap.size w w':=by
 by_cases hr : s.data.toList = [0]
 · rw [hr,text_root]
   have h1 : s.toList = [0]:=by rw [Lib.toList_data];exact hr
   clear hr
   go_enter Tryz.func30,Tryz.ntmps30
   go_wp2
   go_ret
   exact ⟨rfl,Below.refl _ _⟩
 · rw [text_of _ hr]
   have h1 : (s.toList == [0]) = false:=by rw [Lib.toList_data];simpa using hr
   have HL:=Lib.hid (Labels_any s w hs)
   obtain ⟨hg,h127⟩:=labelsOf_good s.data.toList
   have HG:=Lib.hid hg
   clear hr hg
   generalize labelsOf s.data.toList = ls at *
   go_enter Tryz.func30,Tryz.ntmps30
   go_wp2_with (first | (go_at_call 49;refine HL.out.mono ?_;rintro e w1 ⟨v,rfl,hown,hb⟩;obtain ⟨ad,cp,rfl⟩:=own_form hown))
   have HO:=Lib.hid hown
   have hb1:=hb.size
   clear hown
   go_loopw [3,11] (fun t i wr => ∃ k : Nat,i = .int .i64 k ∧ k ≤ ls.length ∧ t = sv (Nm.textL (ls.take k)) ∧ Below w1.heap.size w1 wr) (fun _ i _=>ls.length - (intOf i).toNat)
   case atStart=>exact ⟨0,rfl,Nat.zero_le _,rfl,Below.refl _ _⟩
   case round =>
    obtain ⟨k,rfl,hk,rfl,hbw⟩:=hrel
    have HB:=Lib.hid hbw
    have hbs:=hbw.size
    have HO2:=Lib.hid (own_below HO.out hbw (Nat.le_refl _))
    clear hbw
    by_cases hlt : k < ls.length
    · obtain ⟨g',rfl,hcap,ca⟩:=own_at HO2.out hlt
      have hc : wr.cell? ⟨g',k,none⟩ = some (sv ls[k]):=ca k _ (by simp [svs,hlt])
      have hgl:=HG.out ls[k] (List.getElem_mem hlt)
      have HTS : Hid (Nm.textL (ls.take (k + 1)) = Nm.textL (ls.take k) ++ (Nm.esc false ls[k] ++ [46])):=by rw [Hid,List.take_succ_eq_append_getElem hlt,textL_snoc]
      have hte:=textL_len (ls.take k) (fun x hx=>HG.out x (List.mem_of_mem_take hx))
      have htl : (ls.take k).length ≤ k:=List.length_take_le _ _
      have hte2 : (Nm.textL (ls.take k)).length ≤ 300 * k:=by omega
      clear ca hte htl
      generalize ls[k] = l at *
      generalize Nm.textL (ls.take k) = tk at *
      have hel:=Nm.esc_len false l
      go_wp2_with (first | (go_at_call 50;refine (Escape_any ⟨l.toArray⟩ false _ (by rw [mk_size];omega)).mono ?_;rintro e w2 ⟨rfl,hb2⟩))
      go_roundw
      case rel =>
       refine ⟨k + 1,by go_num,by omega,?_,HB.out.trans (hb2.mono hbs)⟩
       rw [HTS.out]
       show Value.string (⟨tk.toArray⟩ ++ (⟨(Nm.esc false l).toArray⟩ ++ ⟨#[46]⟩)) = _
       rw [string_eq (s:=⟨tk.toArray⟩ ++ (⟨(Nm.esc false l).toArray⟩ ++ ⟨#[46]⟩)) (l:=tk ++ (Nm.esc false l ++ [46])) (by rw [cat_list,cat_list])]
      case measure=>simp [intOf];omega
    · obtain rfl : k = ls.length:=by omega
      have HTS : Hid (Nm.textL (ls.take ls.length) = Nm.textL ls):=by rw [Hid,List.take_length]
      go_wp2
      go_ret
      refine ⟨?_,hb.trans (HB.out.mono hb1)⟩
      rw [← HTS.out];rfl
end Go.Proofs.YtekafhogiambaaaGreatDoor
namespace Go.Proofs.YtekafhogiambaaaGreatDoor
open Go.RowKit
section
variable {P : Program} {w : World}
theorem wpList_append_rd {ops : Array Oper} {rest : List Oper} {o : Oper} {a : Act} {Q : Exit → Act → World → Prop} (hgd : o.guard = none) (s x : Operand) (t : TypeId)
 (ho : o.op = .call { callee:=.builtin .append,args:=#[s,x],argTypes:=#[t,t] })
 (base : Nat) (e : TypeId) (i : TypeInfo) (z : Value) (ht : P.underlying t = some (.slice e)) (hi : P.info? e = some i) (hz : i.zero = some z)
 (hsize : i.size = 1) (hby : i.bytes = 16) (hzs : z.cells.size = 1)
 (v : Value) (n : Nat) (xs : List Value) (hs : a.eval s = v) (hown : w.ownsRow base e 1 v n xs)
 (B : Nat) (vs : Value) (ls : List (List UInt8)) (hx : a.eval x = vs) (hr : Rd w B vs ls) (hnil : ls = [] → ∃ A c,vs = .slice A 0 c ∧ (A = none → c = 0))
 (h63 : (n + ls.length) * 16 ≤ 140737488355328) (hbase : base ≤ w.heap.size)
 (h : ∀ v' w',w'.ownsRow base e 1 v' (n + ls.length) (xs ++ svs ls) → w.grownBy w' v.ownBlock → wpList P ops Q rest (a.put o.dst v') w') : wpList P ops Q (o :: rest) a w:=by
 obtain ⟨A,c,rfl,hc,hcell⟩:=hr
 rcases A with _ | ad
 · have h0 : ls.length = 0:=by
    rcases Nat.eq_zero_or_pos ls.length with h0 | h0
    · exact h0
    · obtain ⟨g,o,hh,_⟩:=hcell h0;cases hh
   have hl : ls = []:=List.eq_nil_of_length_eq_zero h0
   subst hl
   obtain ⟨A,c',e1,e2⟩:=hnil rfl
   injection e1 with e3 _ e4
   subst e4 e3
   have:=e2 rfl
   subst this
   exact wpList_append_own_none hgd s x t ho base e i 1 ht hi v n xs hs hown hx (h _ _ (by simpa [svs] using hown) (World.grownBy.refl w _))
 · refine wpList_append_own w hgd s x t ho base e i z 1 16 ht hi hz hsize hby hzs (by decide) v n xs hs hown ad ls.length c (svs ls) hx (by simp [svs]) ?_ ?_ (by unfold maxLen;omega) h63 hbase (fun v' w' a b _=>h v' w' a b)
   · intro j u hu
     have hj : j < ls.length:=by
      have:=(List.getElem?_eq_some_iff.1 hu).1
      simpa [svs] using this
     obtain ⟨g,o,hh,_,hce⟩:=hcell (by omega)
     injection hh with hh
     subst hh
     have e1 : (⟨g,o,none⟩ : Addr).add j = ⟨g,o + j,none⟩:=by unfold Addr.add;split <;> simp_all
     rw [e1,hce j hj]
     simp [svs,hj] at hu
     rw [← hu]
   · intro u hu
     simp [svs] at hu
     obtain ⟨l,_,rfl⟩:=hu
     rfl
end
end Go.Proofs.YtekafhogiambaaaGreatDoor
